/-
  Part 23: RdLeads, RdPut.
-/
import Derived.Test.YtganmmkdcaphfaaGreatDoorJsBaseP22
import Derived.Test.YtganmmkdcaphfaaGreatDoorJsBaseP6
/-
  The reader as a plain machine: its steps, and how far they come.
-/
namespace Go.Proofs.YtganmmkdcaphfaaGreatDoor.Rd
open Go.Proofs.YtganmmkdcaphfaaGreatDoor.Oct Go.Proofs.YtganmmkdcaphfaaGreatDoor.Val Go.Proofs.YtganmmkdcaphfaaGreatDoor.Lit

/-- Where the reader stands: ahead of a part, or behind a value that is whole. -/
inductive Cfg where
  | loop (s : List UInt8) (fs : List Fr) (d : Nat)
  | close (x : V) (s : List UInt8) (fs : List Fr) (d : Nat)
inductive Out where
  | bad
  | done (x : V) (s : List UInt8) (d : Nat)

/-- The innermost one with one more value. -/
abbrev Fr.add (f : Fr) (x : V) : Fr := { f with xs := f.xs ++ [x] }

def step : Cfg → Sum Cfg Out
  | .loop s fs d =>
    match partP s fs d with
    | .bad => .inr .bad
    | .val x s' fs' d' => .inl (.close x s' fs' d')
    | .more s' fs' d' => .inl (.loop s' fs' d')
  | .close x s fs d =>
    match fs.getLast? with
    | none => .inr (.done x s d)
    | some f =>
      if Lib.hasPrefix s [44] then .inl (.loop (s.drop 1) (fs.dropLast ++ [f.add x]) d)
      else if Lib.hasPrefix s (endL f.kind) then .inl (.close (f.add x).val (s.drop 1) fs.dropLast d)
      else .inr .bad

inductive Leads : Cfg → Out → Prop where
  | stop {c : Cfg} {o : Out} (h : step c = .inr o) : Leads c o
  | next {c c' : Cfg} {o : Out} (h : step c = .inl c') (k : Leads c' o) : Leads c o

theorem Leads.det {c : Cfg} {o o' : Out} (h : Leads c o) : Leads c o' → o = o' := by
  induction h with
  | stop h =>
    intro h'
    cases h' with
    | stop k => rw [h] at k; exact Sum.inr.inj k
    | next k _ => rw [h] at k; cases k
  | next h k ih =>
    intro h'
    cases h' with
    | stop k' => rw [h] at k'; cases k'
    | next k' k2 => rw [h] at k'; rw [Sum.inl.inj k'] at ih; exact ih k2

theorem close_nil (x : V) (s : List UInt8) (d : Nat) : step (.close x s [] d) = .inr (.done x s d) := rfl
theorem close_last (x : V) (s : List UInt8) (fs : List Fr) (f : Fr) (d : Nat) : step (.close x s (fs ++ [f]) d) =
    if Lib.hasPrefix s [44] then .inl (.loop (s.drop 1) (fs ++ [f.add x]) d) else if Lib.hasPrefix s (endL f.kind) then .inl (.close (f.add x).val (s.drop 1) fs d) else .inr .bad := by
  simp only [step, List.getLast?_concat, List.dropLast_concat]

/-- How much has begun. -/
def wt (fs : List Fr) : Nat := (fs.map fun f => 1 + f.xs.length + f.ks.length).sum
theorem wt_snoc (fs : List Fr) (f : Fr) : wt (fs ++ [f]) = wt fs + (1 + f.xs.length + f.ks.length) := by simp [wt]
theorem wt_len (fs : List Fr) : fs.length ≤ wt fs := by
  induction fs with
  | nil => simp [wt]
  | cons f fs ih => simp [wt] at ih ⊢; omega
theorem wt_mem (fs : List Fr) : ∀ f ∈ fs, f.xs.length + f.ks.length + 1 ≤ wt fs := by
  induction fs with
  | nil => intro f h; cases h
  | cons g fs ih =>
    intro f h
    have e : wt (g :: fs) = 1 + g.xs.length + g.ks.length + wt fs := by simp [wt]
    rcases List.mem_cons.1 h with rfl | h
    · omega
    · have := ih f h; omega

theorem keyP_wt {fs fs' : List Fr} {key : ByteArray} (h : keyP fs key = some fs') : wt fs' = wt fs + 1 := by
  rcases List.eq_nil_or_concat fs with rfl | ⟨fs0, f, rfl⟩
  · cases h
  · rw [List.concat_eq_append] at h ⊢
    unfold keyP at h
    rw [List.getLast?_concat, List.dropLast_concat] at h
    simp only at h
    split at h
    · injection h with h
      rw [← h, wt_snoc, wt_snoc]
      simp only [List.length_append, List.length_cons, List.length_nil]
      omega
    · cases h

theorem prefix_drop {s p : List UInt8} (h : Lib.hasPrefix s p = true) : (s.drop p.length).length + p.length = s.length := by
  have := hasPrefix_le h
  rw [List.length_drop]; omega

theorem litI_pos (n : Int) : 1 ≤ (Tl.litI n).length := by
  unfold Tl.litI
  split
  · simp
  · have h := (printL_num n).2
    cases hp : Num.printL n with
    | nil => exact absurd hp h
    | cons a t => simp
theorem number_len {s t : List UInt8} {n : Int} (h : numberP s = some (n, t)) : t.length < s.length := by
  unfold numberP at h
  split at h
  · split at h
    · rename_i hp
      injection h with h
      injection h with h1 h2
      have := prefix_drop hp
      have h3 := litI_pos (Num.parseL (Lib.trimPrefix (toldL s) [32])).1
      rw [← h2]
      omega
    · cases h
  · cases h
theorem text_len {s a t : List UInt8} (h : textP s = some (a, t)) : a.length + t.length ≤ s.length ∧ t.length < s.length := by
  unfold textP at h
  cases hi : innerP s with
  | none => rw [hi] at h; cases h
  | some q =>
    obtain ⟨a', t'⟩ := q
    have := inner_len hi
    rw [hi] at h
    simp only at h
    split at h
    · injection h with h
      injection h with h1 h2
      rw [← h1, ← h2]
      exact this
    · cases h

theorem endL_len (k : Int) : (endL k).length = 1 := by unfold endL; split <;> rfl

/-- A part loses an octet at least, and what has begun grows by no more than that. -/
def Loses (s : List UInt8) (fs : List Fr) : PR → Prop
  | .bad => True
  | .val _ s' fs' _ => fs' = fs ∧ s'.length < s.length
  | .more s' fs' _ => wt fs' + s'.length ≤ wt fs + s.length ∧ s'.length < s.length

theorem begin_loses (k : Int) {s s0 : List UInt8} (h0 : s.length + 1 = s0.length) (fs : List Fr) (d : Nat) : Loses s0 fs (beginP k s fs d) := by
  unfold beginP
  split
  · rename_i hp
    have := prefix_drop hp
    exact ⟨rfl, by rw [List.length_drop]; omega⟩
  · exact ⟨by rw [wt_snoc]; simp; omega, by omega⟩

theorem part_loses (s : List UInt8) (fs : List Fr) (d : Nat) : Loses s fs (partP s fs d) := by
  unfold partP
  split
  · rename_i hp; have := prefix_drop hp; simp only [List.length_drop, List.length_cons, List.length_nil] at this; exact ⟨rfl, by rw [List.length_drop]; omega⟩
  · split
    · rename_i hp; have := prefix_drop hp; simp only [List.length_drop, List.length_cons, List.length_nil] at this; exact ⟨rfl, by rw [List.length_drop]; omega⟩
    · split
      · rename_i hp; have := prefix_drop hp; simp only [List.length_drop, List.length_cons, List.length_nil] at this; exact ⟨rfl, by rw [List.length_drop]; omega⟩
      · split
        · rename_i hp; have := prefix_drop hp; simp only [List.length_drop, List.length_cons, List.length_nil] at this; exact begin_loses 5 (by rw [List.length_drop]; omega) fs d
        · split
          · rename_i hp; have := prefix_drop hp; simp only [List.length_drop, List.length_cons, List.length_nil] at this; exact begin_loses 6 (by rw [List.length_drop]; omega) fs d
          · split
            · unfold textOrKeyP
              cases ht : textP s with
              | none => trivial
              | some q =>
                obtain ⟨a, t⟩ := q
                have hl := text_len ht
                simp only
                split
                · rename_i hp
                  have h1 := prefix_drop hp
                  simp only [List.length_drop, List.length_cons, List.length_nil] at h1
                  cases hk : keyP fs (S a) with
                  | none => trivial
                  | some fs' => exact ⟨by rw [keyP_wt hk, List.length_drop]; omega, by rw [List.length_drop]; omega⟩
                · exact ⟨rfl, hl.2⟩
            · cases hn : numberP s with
              | none => trivial
              | some q =>
                obtain ⟨n, t⟩ := q
                exact ⟨rfl, number_len hn⟩
end Go.Proofs.YtganmmkdcaphfaaGreatDoor.Rd

/-
  Contract of the reader's put.
-/
namespace Go.Proofs.YtganmmkdcaphfaaGreatDoor.Rd
open Go.RowKit Go.Proofs.YtganmmkdcaphfaaGreatDoor.Oct Go.Proofs.YtganmmkdcaphfaaGreatDoor.Val

set_option maxHeartbeats 4000000 in
set_option maxRecDepth 100000 in
theorem put_c (N : Nat) (tag : Nat → Nat) (w : World) (R : Nat) (s : List UInt8) (fs : List Fr) (f : Fr) (deep : Nat) (ov : Value) (es : List E5) (h : RdAt N tag w R s (fs ++ [f]) deep ov es) (u0 u1 u2 u3 u4 : Value) (x : V) (hx : Holds (Dn N tag w) w (.agg #[u0, u1, u2, u3, u4]) x)
    (hn : f.xs.length + 1 ≤ 1099511627776) (hm : fs.length + 1 ≤ 1099511627776) :
    Calls Tryz.prog 62 #[.pointer (some ⟨R, 0, none⟩), .agg #[u0, u1, u2, u3, u4]] w fun en w' => en = .returned (.tuple #[]) ∧ ∃ tag' ov' es', RdAt N tag' w' R s (fs ++ [{ f with xs := f.xs ++ [x] }]) deep ov' es' ∧ Kp tag tag' w w' := by
  obtain ⟨g0, cap0, hov, hg3⟩ := h.row (by simp)
  have hlen : es.length = fs.length + 1 := by rw [h.len]; simp
  have hfl : (fs ++ [f]).length = fs.length + 1 := by simp
  obtain ⟨L, K, ys, hf⟩ := h.frs fs.length (by omega) (by omega)
  have hfi : (fs ++ [f])[fs.length]'(by omega) = f := by simp
  rw [hfi] at hf
  obtain ⟨lp, lc, hL⟩ := own_slice hf.rows
  obtain ⟨k0, n0, s0, p0, a0, b0, q0, c0, d0, rfl, rfl, rfl, rfl, rfl⟩ := holds_parts hx
  obtain ⟨w1, hw1⟩ : ∃ w1, w1 = w.alloc (.cells #[.int .i64 k0, .int .i64 n0, .string s0, .slice p0 a0 b0, .slice q0 c0 d0] 25) := ⟨_, rfl⟩
  have hb1 : Below w.heap.size w w1 := by rw [hw1]; exact (Below.refl _ w).alloc (Nat.le_refl _) _
  have h1 := h.keep hb1
  have hbx : Bx w1 w.heap.size (.int .i64 k0) (.int .i64 n0) (.string s0) (.slice p0 a0 b0) (.slice q0 c0 d0) := by rw [hw1]; exact Bx.new _ _ _ _ _ _
  have hi := innermost_c R g0 fs.length cap0 (S s) (.int .i64 deep) w1 (by omega) (by have := h1.rd; rw [hov, hfl] at this; exact this)
  have key : Hid (∀ W, Below w1.heap.size w1 W → Bx W w.heap.size (.int .i64 k0) (.int .i64 n0) (.string s0) (.slice p0 a0 b0) (.slice q0 c0 d0) ∧ RdAt N tag W R s (fs ++ [f]) deep ov es ∧ W.cell? ⟨g0, fs.length * 5 + 3, none⟩ = some (.slice lp f.xs.length lc)) := fun W hb => by
    have hW := h1.keep hb
    refine ⟨hbx.keep hb, hW, ?_⟩
    rw [slot_at (es := es) (m := fs.length) (by omega) (by omega) hW.own (by rw [hov]; rfl) (by rw [hlen, hfl]) ⟨cap0, hov⟩, hf.e, hL]
    rfl
  rw [hw1] at hi key
  clear hb1 hbx h1 hw1
  go_enter Tryz.func62, Tryz.ntmps62
  go_wp2_with (go_at_call 69; refine hi.mono ?_; rintro e2 W2 ⟨rfl, h2⟩; obtain ⟨m1, m2, m3⟩ := key.out W2 h2; obtain ⟨x0, x1, x2, x3, x4⟩ := m1.five; have H2 := Lib.hid (And.intro h2 (And.intro m1 m2)); clear h2 m1 m2)
  obtain ⟨i0, hi0, hz0, hz1, hz2⟩ := info_parts info_value
  have hmax : f.xs.length + 1 ≤ maxLen := by unfold maxLen; omega
  have hby : (f.xs.length + 1) * 80 ≤ 140737488355328 := by omega
  have HBW : Hid (Below w.heap.size w W2.drew) := (((Below.refl _ w).alloc (Nat.le_refl _) _).trans (H2.out.1.mono (by simp))).drew
  have hd2 := H2.out.2.2.keep (Below.refl _ W2).drew
  obtain ⟨L', K', ys2, hf2⟩ := hd2.frs fs.length (by omega) (by omega)
  rw [hfi] at hf2
  have heL : L' = .slice lp f.xs.length lc ∧ K' = K := by
    have h1 := hf2.e.symm.trans hf.e
    simp only [Prod.mk.injEq, true_and] at h1
    exact ⟨h1.1.trans hL, h1.2⟩
  obtain ⟨rfl, rfl⟩ := heL
  have HY := Lib.hid (And.intro hd2 (And.intro hf2 h))
  have hN := hd2.size
  have hA0 : (0 : Int) ≤ (f.xs.length : Int) := by omega
  have hA1 : (f.xs.length : Int) < (f.xs.length : Int) + 1 := by omega
  have ql := H2.out.2.1.lt
  have ql2 := (own_lt H2.out.2.2.own (r := g0) (by rw [hov]; rfl)).2
  have q1 : ¬ w.heap.size = W2.heap.size := by omega
  have q2 : ¬ g0 = W2.heap.size := by omega
  have HX : Hid (Holds (Dn N tag W2.drew) W2.drew (.agg #[.int .i64 k0, .int .i64 n0, .string s0, .slice p0 a0 b0, .slice q0 c0 d0]) x) := holds_dn hx (fun b hb _ => HBW.out.block b hb) (fun _ _ h => h)
  have HKW : Hid (Kp tag tag w W2.drew) := Kp.of HBW.out
  clear hi hf hf2 hd2 h hx
  go_region_law (first
    | (refine step_append_lies _ rfl (.tmp 10) (.tmp 13) 22 rfl N 25 i0 _ 5 80 Tryz.underlying22 hi0 hz0 hz1 hz2 rfl (by omega) (.slice lp f.xs.length lc) f.xs.length (flat ys2) (by simp [Act.eval, Act.put]) (HY.out.2.1.rows.alloc _) ⟨W2.heap.size, 0, none⟩ 1 1 [.int .i64 0, .int .i64 0, .string ⟨#[]⟩, .slice none 0 0, .slice none 0 0] (by simp [Act.eval, Act.put]) rfl (World.news_of_block (heap_alloc_new W2.drew _)) (by intro u hu; simp at hu; rcases hu with rfl | rfl | rfl | rfl | rfl <;> rfl) (by omega) hmax hby (by simp at hN ⊢; omega) (W2.heap.size + 1) (by simp) ?_; intro g cp wB hownB hgB hatB hltB; obtain ⟨⟨y0, y1, y2, y3, y4⟩, ⟨z0, z1, z2, z3, z4⟩, v3, r3⟩ := put_facts HY.out.1 hov HY.out.2.1 (fun _ => rfl) hownB hgB; obtain ⟨ne1, ne2⟩ := put_ne HY.out.1 hov HY.out.2.1 hatB (by simp); have HZ := Lib.hid (And.intro hownB (And.intro hgB (And.intro hatB hltB))); clear hownB hgB hatB hltB))
  all_goals
    clear y0 y1 y2 y3 y4 z0 z1 z2 z3 z4 v3 r3 x0 x1 x2 x3 x4
    go_wp2_with fail
    have e1 := HY.out.1
    have e2 := HY.out.2.1
    have e3 := HZ.out
    have e4 := HX.out
    have PF := fun Z hZ => put_fin HKW.out e1 hov e2 (fun _ => rfl) e3.1 e3.2.1 e3.2.2.1 e3.2.2.2 ne1 e4 Z hZ
    have PF1 := Lib.hid (PF _ (Or.inl rfl))
    have PF2 := Lib.hid (PF _ (Or.inr rfl))
    clear PF e1 e2 e3 e4
    go_end0
    first | with_reducible exact PF1.out | with_reducible exact PF2.out
end Go.Proofs.YtganmmkdcaphfaaGreatDoor.Rd
