/-
  Part 6: RdPut0, RdEnd0, PgOct, OctLeaves.
-/
import Derived.Test.YtganmmkdcaphfaaGreatDoorJsBaseP4
import Derived.Test.YtganmmkdcaphfaaGreatDoorJsBaseP5
import Derived.BigQuiet
import Derived.Test.YtganmmkdcaphfaaGreatDoorJsBaseP1
import Derived.Test.YtganmmkdcaphfaaGreatDoorProg
/-
  Contracts of the reader's innermost and put.
-/
namespace Go.Proofs.YtganmmkdcaphfaaGreatDoor.Rd
open Go.RowKit Go.Proofs.YtganmmkdcaphfaaGreatDoor.Oct Go.Proofs.YtganmmkdcaphfaaGreatDoor.Val

/-- The row of those that have begun, where there is one. -/
theorem RdAt.row {N : Nat} {tag : Nat → Nat} {w : World} {R : Nat} {s : List UInt8} {fs : List Fr} {deep : Nat} {ov : Value} {es : List E5} (h : RdAt N tag w R s fs deep ov es) (hn : 0 < fs.length) :
    ∃ g cap, ov = .slice (some ⟨g, 0, none⟩) fs.length cap ∧ tag g = 3 := by
  rcases h.own.2 with ⟨_, h0⟩ | ⟨g, cap, cur, hv, _⟩
  · omega
  · exact ⟨g, cap, hv, h.omark g (by rw [hv]; rfl)⟩

set_option maxHeartbeats 1000000 in
theorem innermost_c (R g m cap : Nat) (s : ByteArray) (dv : Value) (w : World) (hm : m + 1 ≤ 4611686018427387904) (h : Rd R s (.slice (some ⟨g, 0, none⟩) (m + 1) cap) dv w) :
    Calls Tryz.prog 69 #[.pointer (some ⟨R, 0, none⟩)] w fun e w' => e = .returned (.pointer (some ⟨g, m * 5, none⟩)) ∧ Below w.heap.size w w' := by
  have c1 := h.cell1
  have e1 : IntKind.i64.wrap ((m : Int) + 1 - 1) = (m : Int) := by rw [IntKind.wrap_i64]; omega
  have h0 : (0 : Int) ≤ (m : Int) := by omega
  have h1 : (m : Int) < (m : Int) + 1 := by omega
  clear h
  go_enter Tryz.func69, Tryz.ntmps69
  go_wp2_with fail
  go_quiet (fail)
  rename_i nq _
  go_wp2
  go_ret
  exact ⟨rfl, below_drewN (Below.refl _ _) _⟩

theorem slot_set {es : List E5} {m i : Nat} (hm : m < es.length) (hi : i < 5) (v : Value) : (flat es).set (m * 5 + i) v = flat (es.set m (match i with | 0 => (v, (es[m]).2) | 1 => (es[m].1, v, es[m].2.2) | 2 => (es[m].1, es[m].2.1, v, es[m].2.2.2) | 3 => (es[m].1, es[m].2.1, es[m].2.2.1, v, es[m].2.2.2.2) | _ => (es[m].1, es[m].2.1, es[m].2.2.1, es[m].2.2.2.1, v))) := by
  induction es generalizing m with
  | nil => cases hm
  | cons x es ih =>
    have ef : ∀ y (t : List E5), flat (y :: t) = cells5 y ++ flat t := fun _ _ => rfl
    cases m with
    | zero =>
      rw [ef, List.set_cons_zero, ef, Nat.zero_mul, Nat.zero_add]
      match i, hi with
      | 0, _ => rfl
      | 1, _ => rfl
      | 2, _ => rfl
      | 3, _ => rfl
      | 4, _ => rfl
    | succ m =>
      have hm' : m < es.length := by simpa using hm
      rw [ef, show (m + 1) * 5 + i = 5 + (m * 5 + i) by omega, List.set_append_right _ _ (by simp), List.set_cons_succ, ef]
      have e1 : 5 + (m * 5 + i) - (cells5 x).length = m * 5 + i := by simp
      rw [e1, ih hm']
      rfl

theorem slot_at {es : List E5} {m i : Nat} (hm : m < es.length) (hi : i < 5) {W : World} {N n : Nat} {ov : Value} {g : Nat} (h : W.ownsRow N 25 5 ov n (flat es)) (hg : ov.ownBlock = some g) (hn : es.length = n) (hov : ∃ cap, ov = .slice (some ⟨g, 0, none⟩) n cap) : W.cell? ⟨g, m * 5 + i, none⟩ = (cells5 es[m])[i]? := by
  obtain ⟨cap, rfl⟩ := hov
  rw [h.cellAt (m * 5 + i) (by omega), flat_at es m i hm hi]

/-- The block that put's append leaves is another than the row of those that have begun. -/
theorem put_ne {N : Nat} {tag : Nat → Nat} {W : World} {R : Nat} {s : List UInt8} {fs : List Fr} {deep : Nat} {ov : Value} {es : List E5} (h : RdAt N tag W R s fs deep ov es)
    {g0 cap0 n0 i : Nat} (hov : ov = .slice (some ⟨g0, 0, none⟩) n0 cap0) {f : Fr} {L K : Value} {ys : List E5} {e : E5} (hf : FrAt N tag W i f e L K ys) {g H : Nat} (hat : L.ownBlock = some g ∨ g = H) (hH : W.heap.size ≤ H) : ¬ g = g0 ∧ ¬ g0 = g := by
  have h2 := h.omark g0 (by rw [hov]; rfl)
  have h3 := (own_lt h.own (r := g0) (by rw [hov]; rfl)).2
  have : g ≠ g0 := by
    rintro rfl
    rcases hat with h1 | h1
    · have := hf.mark _ h1; omega
    · omega
  exact ⟨this, Ne.symm this⟩

/-- Behind put's append: what its two stores want. -/
theorem put_facts {N : Nat} {tag : Nat → Nat} {W wB : World} {R : Nat} {s : List UInt8} {fs : List Fr} {f : Fr} {deep : Nat} {ov : Value} {es : List E5} (h : RdAt N tag W R s (fs ++ [f]) deep ov es)
    {g0 cap0 : Nat} (hov : ov = .slice (some ⟨g0, 0, none⟩) (fs ++ [f]).length cap0) {L K : Value} {ys : List E5} {e : E5} (hf : FrAt N tag W fs.length f e L K ys) (he : ∀ h', es[fs.length]'h' = e) {o : Obj} {g cap : Nat}
    (hown : wB.ownsRow N 25 5 (.slice (some ⟨g, 0, none⟩) (f.xs.length + 1) cap) (f.xs.length + 1) (flat ys ++ cells5 zero5)) (hg : (W.alloc o).grownBy wB L.ownBlock) :
    (wB.cell? ⟨g, f.xs.length * 5, none⟩ = some (.int .i64 0) ∧ wB.cell? ⟨g, f.xs.length * 5 + 1, none⟩ = some (.int .i64 0) ∧ wB.cell? ⟨g, f.xs.length * 5 + 2, none⟩ = some (.string ⟨#[]⟩) ∧ wB.cell? ⟨g, f.xs.length * 5 + 3, none⟩ = some (.slice none 0 0) ∧ wB.cell? ⟨g, f.xs.length * 5 + 4, none⟩ = some (.slice none 0 0)) ∧
    (wB.frozen? ⟨g, f.xs.length * 5, none⟩ = false ∧ wB.frozen? ⟨g, f.xs.length * 5 + 1, none⟩ = false ∧ wB.frozen? ⟨g, f.xs.length * 5 + 2, none⟩ = false ∧ wB.frozen? ⟨g, f.xs.length * 5 + 3, none⟩ = false ∧ wB.frozen? ⟨g, f.xs.length * 5 + 4, none⟩ = false) ∧
    wB.cell? ⟨g0, fs.length * 5 + 3, none⟩ = some L ∧ wB.frozen? ⟨g0, fs.length * 5 + 3, none⟩ = false := by
  have hl : (flat ys).length = f.xs.length * 5 := by rw [flat_len, hf.len]
  have hc : ∀ i, i < 5 → wB.cell? ⟨g, f.xs.length * 5 + i, none⟩ = (cells5 zero5)[i]? := fun i hi => by
    rw [hown.cellAt (f.xs.length * 5 + i) (by omega), List.getElem?_append_right (by omega), hl]
    congr 1
    omega
  have hz : ∀ i, wB.frozen? ⟨g, i, none⟩ = false := fun i => hown.frozenAt i
  have hfl : (fs ++ [f]).length = fs.length + 1 := by simp
  have hg0 : g0 < W.heap.size := (own_lt h.own (r := g0) (by rw [hov]; rfl)).2
  have hblk : wB.heap[g0]? = W.heap[g0]? := by
    rw [hg.block g0 (by simp; omega) (fun e => by have h1 := hf.mark g0 e.symm; have h2 := h.omark g0 (by rw [hov]; rfl); omega), Go.heap_alloc_old _ _ hg0]
  have hown0 : wB.ownsRow N 25 5 ov (fs ++ [f]).length (flat es) := own_at h.own fun k hk => by
    rw [hov] at hk
    have : k = g0 := by injection hk with hk; exact hk.symm
    rw [this]; exact hblk
  refine ⟨⟨hc 0 (by omega), hc 1 (by omega), hc 2 (by omega), hc 3 (by omega), hc 4 (by omega)⟩, ⟨hz _, hz _, hz _, hz _, hz _⟩, ?_, ?_⟩
  · rw [slot_at (es := es) (m := fs.length) (by rw [h.len]; omega) (by omega) hown0 (by rw [hov]; rfl) h.len ⟨cap0, hov⟩, he, hf.e]
    rfl
  · rw [hov] at hown0
    exact hown0.frozenAt _

theorem put_done {N : Nat} {tag : Nat → Nat} {W wB Z : World} {R : Nat} {s : List UInt8} {fs : List Fr} {f : Fr} {deep : Nat} {ov : Value} {es : List E5} (h : RdAt N tag W R s (fs ++ [f]) deep ov es)
    {g0 cap0 : Nat} (hov : ov = .slice (some ⟨g0, 0, none⟩) (fs ++ [f]).length cap0) {L K : Value} {ys : List E5} {e : E5} (hf : FrAt N tag W fs.length f e L K ys) {u : E5} {x : V} (hx : Holds (Dn N tag W) W (agg5 u) x) {o : Obj} {g cap : Nat}
    (hg : (W.alloc o).grownBy wB L.ownBlock) (hat : L.ownBlock = some g ∨ g = W.heap.size + 1) (hlt : g < wB.heap.size)
    (hZ1 : ∀ b, b ≠ g → b ≠ g0 → Z.heap[b]? = wB.heap[b]?) (hZs : Z.heap.size = wB.heap.size ∧ Z.os = wB.os ∧ Z.tape = wB.tape ∧ Z.output = wB.output)
    (hZg : Z.ownsRow N 25 5 (.slice (some ⟨g, 0, none⟩) (f.xs.length + 1) cap) (f.xs.length + 1) (flat (ys ++ [u])))
    (hZ0 : Z.ownsRow N 25 5 ov (fs ++ [f]).length (flat (es.set fs.length (.int .i64 f.kind, .int .i64 0, .string ⟨#[]⟩, .slice (some ⟨g, 0, none⟩) (f.xs.length + 1) cap, K)))) :
    ∃ tag' ov' es', RdAt N tag' Z R s (fs ++ [{ f with xs := f.xs ++ [x] }]) deep ov' es' ∧ Kp tag tag' W Z := by
  have hg3 := h.omark g0 (by rw [hov]; rfl)
  have hsz : W.heap.size + 1 ≤ wB.heap.size := by have := hg.size; simp at this; exact this
  have hgm : W.heap.size ≤ g ∨ tag g = 4 + 2 * fs.length := by
    rcases hat with h1 | h1
    · exact .inr (hf.mark _ h1)
    · exact .inl (by omega)
  have hgN : N ≤ g := by
    rcases hat with h1 | h1
    · exact (own_lt hf.rows h1).1
    · have := h.size; omega
  have hne : ∀ b, b < W.heap.size → tag b ≠ 4 + 2 * fs.length → b ≠ g := fun b hb ht e => by
    subst e
    rcases hgm with h1 | h1
    · omega
    · exact ht h1
  have hW : ∀ b, b < W.heap.size → tag b ≠ 4 + 2 * fs.length → tag b ≠ 3 → Z.heap[b]? = W.heap[b]? := fun b hb h4 h3 => by
    rw [hZ1 b (hne b hb h4) (fun e => h3 (by rw [e]; exact hg3)), hg.block b (by simp; omega) (fun e => h4 (hf.mark b e.symm)), Go.heap_alloc_old _ _ hb]
  have hT : ∀ b, b < W.heap.size → tag b ≠ 4 + 2 * fs.length → (if b = g then 4 + 2 * fs.length else tag b) = tag b := fun b hb h4 => if_neg (hne b hb h4)
  have hlen : es.length = fs.length + 1 := by rw [h.len]; simp
  have hd : ∀ v y, Holds (Dn N tag W) W v y → Holds (Dn N (fun b => if b = g then 4 + 2 * fs.length else tag b) Z) Z v y := fun v y hv =>
    holds_dn hv (fun b hb h0 => hW b hb (by omega) (by omega)) (fun b hb h0 => by rw [hT b hb (by omega)]; exact h0)
  refine ⟨fun b => if b = g then 4 + 2 * fs.length else tag b, ov, es.set fs.length (.int .i64 f.kind, .int .i64 0, .string ⟨#[]⟩, .slice (some ⟨g, 0, none⟩) (f.xs.length + 1) cap, K), ?_, ?_⟩
  · refine ⟨?_, ?_, ?_, ?_, ?_, ?_, ?_, ?_⟩
    · unfold Rd; rw [hW R h.rd.lt (by rw [h.rmark]; omega) (by rw [h.rmark]; omega)]; exact h.rd
    · have e1 : (fs ++ [{ f with xs := f.xs ++ [x] }]).length = (fs ++ [f]).length := by simp
      rw [e1]; exact hZ0
    · simp [hlen]
    · intro i h1 h2
      rcases Nat.lt_or_ge i fs.length with hi | hi
      · have e1 : (es.set fs.length (Value.int .i64 f.kind, Value.int .i64 0, Value.string ⟨#[]⟩, Value.slice (some ⟨g, 0, none⟩) (f.xs.length + 1) cap, K))[i]'h1 = es[i]'(by omega) := by rw [List.getElem_set_ne (by omega)]
        have e2 : (fs ++ [{ f with xs := f.xs ++ [x] }])[i]'h2 = (fs ++ [f])[i]'(by simp; omega) := by rw [List.getElem_append_left hi, List.getElem_append_left hi]
        obtain ⟨L2, K2, ys2, hf2⟩ := h.frs i (by omega) (by simp; omega)
        rw [e1, e2]
        exact ⟨L2, K2, ys2, hf2.frame fun b hb ht => ⟨hW b hb (by omega) (by omega), hT b hb (by omega)⟩⟩
      · have hie : i = fs.length := by simp at h2; omega
        subst hie
        have e1 : (es.set fs.length (Value.int .i64 f.kind, Value.int .i64 0, Value.string ⟨#[]⟩, Value.slice (some ⟨g, 0, none⟩) (f.xs.length + 1) cap, K))[fs.length]'h1 = (Value.int .i64 f.kind, Value.int .i64 0, Value.string ⟨#[]⟩, Value.slice (some ⟨g, 0, none⟩) (f.xs.length + 1) cap, K) := by simp
        have e2 : (fs ++ [{ f with xs := f.xs ++ [x] }])[fs.length]'h2 = { f with xs := f.xs ++ [x] } := by simp
        rw [e1, e2]
        refine ⟨_, K, ys ++ [u], ⟨rfl, hf.kind, ?_, by simp [hf.len], ?_, ?_, ?_, ?_, hf.small⟩⟩
        · have e3 : (f.xs ++ [x]).length = f.xs.length + 1 := by simp
          rw [e3]; exact hZg
        · intro j j1 j2
          rcases Nat.lt_or_ge j ys.length with hj | hj
          · have e3 : (ys ++ [u])[j]'j1 = ys[j] := List.getElem_append_left hj
            have e4 : (f.xs ++ [x])[j]'j2 = f.xs[j]'(by rw [← hf.len]; exact hj) := List.getElem_append_left (by rw [← hf.len]; exact hj)
            rw [e3]
            show Holds _ _ _ ((f.xs ++ [x])[j]'j2)
            rw [e4]
            exact hd _ _ (hf.vals j hj (by rw [← hf.len]; exact hj))
          · have hje : j = ys.length := by simp at j1; omega
            subst hje
            have e3 : (ys ++ [u])[ys.length]'j1 = u := by simp
            have e4 : (f.xs ++ [x])[ys.length]'j2 = x := by simp [hf.len]
            rw [e3]
            show Holds _ _ _ ((f.xs ++ [x])[ys.length]'j2)
            rw [e4]
            exact hd _ _ hx
        · intro b hb
          injection hb with hb
          have hb' : b = g := hb.symm
          rw [hb', if_pos rfl]
        · exact own_at hf.keys fun k hk => hW k (own_lt hf.keys hk).2 (by rw [hf.kmark k hk]; omega) (by rw [hf.kmark k hk]; omega)
        · intro b hb
          rw [hT b (own_lt hf.keys hb).2 (by rw [hf.kmark b hb]; omega)]
          exact hf.kmark b hb
    · rw [hT R h.rd.lt (by rw [h.rmark]; omega)]; exact h.rmark
    · intro b hb
      rw [hT b (own_lt h.own hb).2 (by rw [h.omark b hb]; omega)]
      exact h.omark b hb
    · intro b hb
      have hbg : b ≠ g := by rintro rfl; omega
      show (if b = g then _ else _) = 1
      rw [if_neg hbg]
      exact h.out b (by omega)
    · have := h.size; omega
  · refine ⟨hZs.2.1.trans hg.os, hZs.2.2.1.trans hg.tape, hZs.2.2.2.trans hg.output, by omega, fun b hb ht => ⟨hW b hb (by omega) (by omega), hT b hb (by omega)⟩⟩


/-- Five cells are written, at a place. -/
def at5 (W : World) (g o : Nat) (v0 v1 v2 v3 v4 : Value) : World :=
  ((((W.setCell ⟨g, o, none⟩ v0).setCell ⟨g, o + 1, none⟩ v1).setCell ⟨g, o + 2, none⟩ v2).setCell ⟨g, o + 3, none⟩ v3).setCell ⟨g, o + 4, none⟩ v4
theorem at5_other (W : World) {g o b : Nat} (v0 v1 v2 v3 v4 : Value) (h : b ≠ g) : (at5 W g o v0 v1 v2 v3 v4).heap[b]? = W.heap[b]? := by
  unfold at5
  rw [heap_setCell_other _ _ _ _ (by simpa using h), heap_setCell_other _ _ _ _ (by simpa using h), heap_setCell_other _ _ _ _ (by simpa using h), heap_setCell_other _ _ _ _ (by simpa using h), heap_setCell_other _ _ _ _ (by simpa using h)]
/-- As large, and the streams as they were. -/
def SameF (Z W : World) : Prop := Z.heap.size = W.heap.size ∧ Z.os = W.os ∧ Z.tape = W.tape ∧ Z.output = W.output
theorem SameF.trans {a b c : World} (h : SameF a b) (k : SameF b c) : SameF a c := ⟨h.1.trans k.1, h.2.1.trans k.2.1, h.2.2.1.trans k.2.2.1, h.2.2.2.trans k.2.2.2⟩
theorem set_frame (W : World) (a : Addr) (v : Value) : SameF (W.setCell a v) W := ⟨by simp [World.setCell], rfl, rfl, rfl⟩
theorem at5_frame (W : World) (g o : Nat) (v0 v1 v2 v3 v4 : Value) : SameF (at5 W g o v0 v1 v2 v3 v4) W :=
  (set_frame _ _ _).trans ((set_frame _ _ _).trans ((set_frame _ _ _).trans ((set_frame _ _ _).trans (set_frame _ _ _))))

/-- The last value of a row is written whole. -/
theorem last_row {N n : Nat} {W : World} {g cap : Nat} {ys : List E5} (hn : ys.length = n) (h : W.ownsRow N 25 5 (.slice (some ⟨g, 0, none⟩) (n + 1) cap) (n + 1) (flat ys ++ cells5 zero5)) (u0 u1 u2 u3 u4 : Value) :
    (at5 W g (n * 5) u0 u1 u2 u3 u4).ownsRow N 25 5 (.slice (some ⟨g, 0, none⟩) (n + 1) cap) (n + 1) (flat (ys ++ [(u0, u1, u2, u3, u4)])) := by
  have s5 := ((((h.stored (n * 5) u0).1.stored (n * 5 + 1) u1).1.stored (n * 5 + 2) u2).1.stored (n * 5 + 3) u3).1.stored (n * 5 + 4) u4
  have e1 := flat_set (ys ++ [zero5]) n (u0, u1, u2, u3, u4) (by simp; omega)
  rw [← flat_snoc] at e1
  have e2 : (ys ++ [zero5]).set n (u0, u1, u2, u3, u4) = ys ++ [(u0, u1, u2, u3, u4)] := by
    rw [List.set_append_right _ _ (by omega), hn, Nat.sub_self, List.set_cons_zero]
  rw [e2] at e1
  rw [← e1]
  unfold at5
  exact s5.1

theorem put_shape {N : Nat} {tag : Nat → Nat} {W wB : World} {R : Nat} {s : List UInt8} {fs : List Fr} {f : Fr} {deep : Nat} {ov : Value} {es : List E5} (h : RdAt N tag W R s (fs ++ [f]) deep ov es)
    {g0 cap0 : Nat} (hov : ov = .slice (some ⟨g0, 0, none⟩) (fs ++ [f]).length cap0) {L K : Value} {ys : List E5} {e : E5} (hf : FrAt N tag W fs.length f e L K ys) (he : ∀ h', es[fs.length]'h' = e) {o : Obj} {g cap : Nat}
    (hown : wB.ownsRow N 25 5 (.slice (some ⟨g, 0, none⟩) (f.xs.length + 1) cap) (f.xs.length + 1) (flat ys ++ cells5 zero5)) (hg : (W.alloc o).grownBy wB L.ownBlock) (hne : ¬ g = g0) (u0 u1 u2 u3 u4 : Value) {Z : World}
    (hZ : Z = (at5 wB g (f.xs.length * 5) u0 u1 u2 u3 u4).setCell ⟨g0, fs.length * 5 + 3, none⟩ (.slice (some ⟨g, 0, none⟩) (f.xs.length + 1) cap) ∨ Z = at5 (wB.setCell ⟨g0, fs.length * 5 + 3, none⟩ (.slice (some ⟨g, 0, none⟩) (f.xs.length + 1) cap)) g (f.xs.length * 5) u0 u1 u2 u3 u4) :
    (∀ b, b ≠ g → b ≠ g0 → Z.heap[b]? = wB.heap[b]?) ∧ SameF Z wB ∧
    Z.ownsRow N 25 5 (.slice (some ⟨g, 0, none⟩) (f.xs.length + 1) cap) (f.xs.length + 1) (flat (ys ++ [(u0, u1, u2, u3, u4)])) ∧
    Z.ownsRow N 25 5 ov (fs ++ [f]).length (flat (es.set fs.length (.int .i64 f.kind, .int .i64 0, .string ⟨#[]⟩, .slice (some ⟨g, 0, none⟩) (f.xs.length + 1) cap, K))) := by
  have hg0 : g0 < W.heap.size := (own_lt h.own (r := g0) (by rw [hov]; rfl)).2
  have hblk : wB.heap[g0]? = W.heap[g0]? := by
    rw [hg.block g0 (by simp; omega) (fun e => by have h1 := hf.mark g0 e.symm; have h2 := h.omark g0 (by rw [hov]; rfl); omega), Go.heap_alloc_old _ _ hg0]
  have hown0 : wB.ownsRow N 25 5 ov (fs ++ [f]).length (flat es) := own_at h.own fun k hk => by
    rw [hov] at hk
    have : k = g0 := by injection hk with hk; exact hk.symm
    rw [this]; exact hblk
  have hm : fs.length < es.length := by rw [h.len]; simp
  have e1 := slot_set (es := es) (m := fs.length) (i := 3) hm (by omega) (.slice (some ⟨g, 0, none⟩) (f.xs.length + 1) cap)
  simp only [he hm, hf.e] at e1
  have hlen := hf.len
  subst hov
  have set0 : ∀ {X : World}, X.ownsRow N 25 5 (.slice (some ⟨g0, 0, none⟩) (fs ++ [f]).length cap0) (fs ++ [f]).length (flat es) →
      (X.setCell ⟨g0, fs.length * 5 + 3, none⟩ (.slice (some ⟨g, 0, none⟩) (f.xs.length + 1) cap)).ownsRow N 25 5 (.slice (some ⟨g0, 0, none⟩) (fs ++ [f]).length cap0) (fs ++ [f]).length (flat (es.set fs.length (.int .i64 f.kind, .int .i64 0, .string ⟨#[]⟩, .slice (some ⟨g, 0, none⟩) (f.xs.length + 1) cap, K))) := fun hX => by
    rw [← e1]
    exact (hX.stored _ _).1
  obtain ⟨L2, hL2⟩ : ∃ L2, L2 = Value.slice (some ⟨g, 0, none⟩) (f.xs.length + 1) cap := ⟨_, rfl⟩
  have ob : L2.ownBlock = some g := by rw [hL2]; rfl
  have ob0 : (Value.slice (some ⟨g0, 0, none⟩) (fs ++ [f]).length cap0).ownBlock = some g0 := rfl
  have hr : ∀ {X : World}, X.ownsRow N 25 5 L2 (f.xs.length + 1) (flat ys ++ cells5 zero5) → (at5 X g (f.xs.length * 5) u0 u1 u2 u3 u4).ownsRow N 25 5 L2 (f.xs.length + 1) (flat (ys ++ [(u0, u1, u2, u3, u4)])) := fun hX => by
    rw [hL2] at hX ⊢
    exact last_row hlen hX u0 u1 u2 u3 u4
  rw [← hL2] at hown hZ ⊢
  rw [← hL2] at set0
  generalize Value.slice (some ⟨g0, 0, none⟩) (fs ++ [f]).length cap0 = o2 at *
  generalize flat (es.set fs.length (Value.int .i64 f.kind, Value.int .i64 0, Value.string ⟨#[]⟩, L2, K)) = F2 at set0 ⊢
  generalize f.xs.length * 5 = p1 at hr hZ
  generalize fs.length * 5 + 3 = p2 at set0 hZ
  have so : ∀ (X : World) (v : Value) (k : Nat), k ≠ g0 → (X.setCell ⟨g0, p2, none⟩ v).heap[k]? = X.heap[k]? := fun X v k h => heap_setCell_other X _ k v (by simpa using h)
  rcases hZ with rfl | rfl
  · refine ⟨fun b h1 h2 => (so _ _ _ h2).trans (at5_other _ _ _ _ _ _ h1), (set_frame _ _ _).trans (at5_frame _ _ _ _ _ _ _ _), ?_, ?_⟩
    · exact own_at (hr hown) fun k hk => so _ _ _ (by rw [ob] at hk; injection hk with hk; rw [← hk]; exact hne)
    · exact set0 (own_at hown0 fun k hk => at5_other _ _ _ _ _ _ (by rw [ob0] at hk; injection hk with hk; rw [← hk]; exact Ne.symm hne))
  · refine ⟨fun b h1 h2 => (at5_other _ _ _ _ _ _ h1).trans (so _ _ _ h2), (at5_frame _ _ _ _ _ _ _ _).trans (set_frame _ _ _), ?_, ?_⟩
    · exact hr (own_at hown fun k hk => so _ _ _ (by rw [ob] at hk; injection hk with hk; rw [← hk]; exact hne))
    · exact own_at (set0 hown0) fun k hk => at5_other _ _ _ _ _ _ (by rw [ob0] at hk; injection hk with hk; rw [← hk]; exact Ne.symm hne)

theorem put_fin {N : Nat} {tag : Nat → Nat} {w W wB : World} {R : Nat} {s : List UInt8} {fs : List Fr} {f : Fr} {deep : Nat} {ov : Value} {es : List E5} (hkw : Kp tag tag w W) (h : RdAt N tag W R s (fs ++ [f]) deep ov es)
    {g0 cap0 : Nat} (hov : ov = .slice (some ⟨g0, 0, none⟩) (fs ++ [f]).length cap0) {L K : Value} {ys : List E5} {e : E5} (hf : FrAt N tag W fs.length f e L K ys) (he : ∀ h', es[fs.length]'h' = e) {o : Obj} {g cap : Nat}
    (hown : wB.ownsRow N 25 5 (.slice (some ⟨g, 0, none⟩) (f.xs.length + 1) cap) (f.xs.length + 1) (flat ys ++ cells5 zero5)) (hg : (W.alloc o).grownBy wB L.ownBlock) (hat : L.ownBlock = some g ∨ g = W.heap.size + 1) (hlt : g < wB.heap.size) (hne : ¬ g = g0)
    {u0 u1 u2 u3 u4 : Value} {x : V} (hx : Holds (Dn N tag W) W (.agg #[u0, u1, u2, u3, u4]) x) (Z : World)
    (hZ : Z = (((((wB.setCell ⟨g, f.xs.length * 5, none⟩ u0).setCell ⟨g, f.xs.length * 5 + 1, none⟩ u1).setCell ⟨g, f.xs.length * 5 + 2, none⟩ u2).setCell ⟨g, f.xs.length * 5 + 3, none⟩ u3).setCell ⟨g, f.xs.length * 5 + 4, none⟩ u4).setCell ⟨g0, fs.length * 5 + 3, none⟩ (.slice (some ⟨g, 0, none⟩) (f.xs.length + 1) cap) ∨
      Z = (((((wB.setCell ⟨g0, fs.length * 5 + 3, none⟩ (.slice (some ⟨g, 0, none⟩) (f.xs.length + 1) cap)).setCell ⟨g, f.xs.length * 5, none⟩ u0).setCell ⟨g, f.xs.length * 5 + 1, none⟩ u1).setCell ⟨g, f.xs.length * 5 + 2, none⟩ u2).setCell ⟨g, f.xs.length * 5 + 3, none⟩ u3).setCell ⟨g, f.xs.length * 5 + 4, none⟩ u4) :
    Ending.returned (.tuple #[]) = .returned (.tuple #[]) ∧ ∃ tag' ov' es', RdAt N tag' Z R s (fs ++ [{ f with xs := f.xs ++ [x] }]) deep ov' es' ∧ Kp tag tag' w Z := by
  have hs := put_shape h hov hf he hown hg hne u0 u1 u2 u3 u4 (Z := Z) (by unfold at5; exact hZ)
  obtain ⟨t', o', e', h1, h2⟩ := put_done (u := (u0, u1, u2, u3, u4)) h hov hf hx hg hat hlt hs.1 hs.2.1 hs.2.2.1 hs.2.2.2
  exact ⟨rfl, t', o', e', h1, hkw.trans h2⟩
end Go.Proofs.YtganmmkdcaphfaaGreatDoor.Rd

/-
  The reader's lists and records that have begun: one ends, one begins (what holds in memory).
-/
namespace Go.Proofs.YtganmmkdcaphfaaGreatDoor.Rd
open Go.RowKit Go.Proofs.YtganmmkdcaphfaaGreatDoor.Oct Go.Proofs.YtganmmkdcaphfaaGreatDoor.Val

/-- The value that one is, when it has ended. -/
abbrev Fr.val (f : Fr) : V := .mk f.kind 0 ⟨#[]⟩ f.xs f.ks

theorem flat_take (es : List E5) (m : Nat) (h : m ≤ es.length) : (flat es).take (m * 5) = flat (es.take m) := by
  induction es generalizing m with
  | nil => simp [flat]
  | cons x es ih =>
    have ef : ∀ y (t : List E5), flat (y :: t) = cells5 y ++ flat t := fun _ _ => rfl
    cases m with
    | zero => simp [flat]
    | succ m =>
      rw [ef, List.take_succ_cons, ef, show (m + 1) * 5 = (cells5 x).length + m * 5 by simp; omega, List.take_append, Nat.add_sub_cancel_left]
      rw [List.take_of_length_le (by omega), ih m (by simpa using h)]

theorem cell_own {w : World} {base size n : Nat} {e : TypeId} {v : Value} {xs : List Value} (h : w.ownsRow base e size v n xs) {g cap : Nat} (hv : v = .slice (some ⟨g, 0, none⟩) n cap) (j : Nat) (hj : j < n * size) : w.cell? ⟨g, j, none⟩ = xs[j]? := by
  subst hv
  exact h.cellAt j hj

/-- One that has ended reads as its value, where its two blocks bear the mark 0 from now on. -/
theorem fr_holds {N : Nat} {tag tag' : Nat → Nat} {w w' : World} {i : Nat} {f : Fr} {e : E5} {L K : Value} {ys : List E5} (h : FrAt N tag w i f e L K ys)
    (hb : ∀ b, b < w.heap.size → (tag b = 0 ∨ tag b = 4 + 2 * i ∨ tag b = 5 + 2 * i) → w'.heap[b]? = w.heap[b]? ∧ tag' b = 0)
    (hxs : f.xs.length * 80 ≤ 140737488351232) (hks : f.ks.length * 16 ≤ 140737488351232) : Holds (Dn N tag' w') w' (agg5 e) f.val := by
  have hv : ∀ v y, Holds (Dn N tag w) w v y → Holds (Dn N tag' w') w' v y := fun v y hv => holds_dn hv (fun b hl h0 => (hb b hl (.inl h0)).1) (fun b hl h0 => (hb b hl (.inl h0)).2)
  have hrow := own_at h.rows (w' := w') fun k hk => (hb k (own_lt h.rows hk).2 (.inr (.inl (h.mark k hk)))).1
  have hkey := own_at h.keys (w' := w') fun k hk => (hb k (own_lt h.keys hk).2 (.inr (.inr (h.kmark k hk)))).1
  obtain ⟨lp, lc, hL⟩ := own_slice h.rows
  obtain ⟨kp, kc, hK⟩ := own_slice h.keys
  rw [h.e]
  have hlen := h.len
  have big : -9223372036854775808 ≤ f.kind ∧ f.kind ≤ 9223372036854775807 := by rcases h.kind with h | h <;> rw [h] <;> decide
  obtain ⟨g, hg⟩ : ∃ g, 0 < f.xs.length → lp = some ⟨g, 0, none⟩ ∧ Dn N tag' w' false g 0 f.xs.length := by
    rcases hrow.2 with ⟨_, h0⟩ | ⟨g, cap, cur, hv, hbg, hh, _⟩
    · exact ⟨0, fun h => absurd h (by omega)⟩
    · rw [hL] at hv
      injection hv with h1 h2 h3
      exact ⟨g, fun _ => ⟨h1, ⟨hbg, rfl, cur, hh⟩, (hb g (own_lt h.rows (by rw [hL, h1]; rfl)).2 (.inr (.inl (h.mark g (by rw [hL, h1]; rfl))))).2⟩⟩
  obtain ⟨q, hq⟩ : ∃ q, 0 < f.ks.length → kp = some ⟨q, 0, none⟩ ∧ Dn N tag' w' true q 0 f.ks.length := by
    rcases hkey.2 with ⟨_, h0⟩ | ⟨g, cap, cur, hv, hbg, hh, _⟩
    · exact ⟨0, fun h => absurd h (by omega)⟩
    · rw [hK] at hv
      injection hv with h1 h2 h3
      exact ⟨g, fun _ => ⟨h1, ⟨hbg, rfl, cur, hh⟩, (hb g (own_lt h.keys (by rw [hK, h1]; rfl)).2 (.inr (.inr (h.kmark g (by rw [hK, h1]; rfl))))).2⟩⟩
  have key : ∀ i j, i < f.xs.length → j < 5 → (flat ys)[i * 5 + j]? = some (((flat ys)[i * 5 + j]?).getD undef) := by
    intro i j hi hj
    have : i * 5 + j < (flat ys).length := by rw [flat_len, hlen]; omega
    rw [List.getElem?_eq_getElem this]; rfl
  have hz : (⟨#[]⟩ : ByteArray).size ≤ 140737488351232 := by decide
  show Holds _ _ (.agg #[.int .i64 f.kind, .int .i64 0, .string ⟨#[]⟩, L, K]) _
  rw [hL]
  refine .mk f.kind 0 ⟨#[]⟩ lp lc K f.xs f.ks g 0 (fun i j => ((flat ys)[i * 5 + j]?).getD undef) ⟨big.1, big.2, by decide, by decide, hz, hxs⟩ (fun h0 => hg h0) (fun i j hi hj => ?_) ?_ (fun i hi => ?_)
  · obtain ⟨h1, _⟩ := hg (by omega)
    have h3 := cell_own hrow (g := g) (cap := lc) (by rw [hL, h1]) (i * 5 + j) (by omega)
    rw [key i j hi hj] at h3
    rw [Nat.zero_add]
    exact h3
  · refine ⟨kp, kc, q, 0, hK, ⟨hks, h.small⟩, hq, fun i hi => ?_⟩
    obtain ⟨h1, _⟩ := hq (by omega)
    have h3 := cell_own hkey (g := q) (cap := kc) (by rw [hK, h1]) i (by omega)
    rw [Nat.zero_add, h3]
    simp [hi]
  · have h1 := hv _ _ (h.vals i (by omega) hi)
    have e : ∀ j, j < 5 → ((flat ys)[i * 5 + j]?).getD undef = ((cells5 (ys[i]'(by omega)))[j]?).getD undef := fun j hj => by rw [flat_at ys i j (by omega) hj]
    show Holds _ _ (.agg #[((flat ys)[i * 5 + 0]?).getD undef, ((flat ys)[i * 5 + 1]?).getD undef, ((flat ys)[i * 5 + 2]?).getD undef, ((flat ys)[i * 5 + 3]?).getD undef, ((flat ys)[i * 5 + 4]?).getD undef]) _
    rw [e 0 (by omega), e 1 (by omega), e 2 (by omega), e 3 (by omega), e 4 (by omega)]
    exact h1
end Go.Proofs.YtganmmkdcaphfaaGreatDoor.Rd

/-
  Contracts of the page's answers on what an octet is: a letter, a digit; they change nothing.
-/
namespace Go.Proofs.YtganmmkdcaphfaaGreatDoor.Oct
open Go.RowKit

theorem rletter_c (n : Int) (w : World) (h0 : 0 ≤ n) (h1 : n ≤ 255) :
    Calls Tryz.prog 41 #[.int .u8 n] w fun e w' => e = .returned (.bool (letterI n)) ∧ w = w' := by
  go_enter Tryz.func41, Tryz.ntmps41
  go_wp2
  all_goals go_ret
  all_goals (refine ⟨ret_bool ?_, rfl⟩; rw [Bool.eq_iff_iff]; simp [letterI]; try omega)

theorem rdigit_c (n : Int) (w : World) (h0 : 0 ≤ n) (h1 : n ≤ 255) :
    Calls Tryz.prog 42 #[.int .u8 n] w fun e w' => e = .returned (.bool (digitI n)) ∧ w = w' := by
  go_enter Tryz.func42, Tryz.ntmps42
  go_wp2
  all_goals go_ret
  all_goals (refine ⟨ret_bool ?_, rfl⟩; rw [Bool.eq_iff_iff]; simp [digitI]; try omega)
end Go.Proofs.YtganmmkdcaphfaaGreatDoor.Oct

/-
  Contracts of the leaves of package octets and of the page's answers on octets: each is called at any octet and changes nothing.
-/
namespace Go.Proofs.YtganmmkdcaphfaaGreatDoor.Oct
open Go.RowKit

theorem blank_c (n : Int) (w : World) :
    Calls Tryz.prog 34 #[.int .u8 n] w fun e w' => e = .returned (.bool (blankI n)) ∧ w = w' := by
  go_enter Tryz.func34, Tryz.ntmps34
  go_wp2
  all_goals go_ret
  all_goals (refine ⟨ret_bool ?_, rfl⟩; rw [Bool.eq_iff_iff]; simp [blankI]; try (first | omega | (simp only [beq_iff_eq, beq_eq_false_iff_ne] at *; omega)))

theorem within_c (n a b : Int) (w : World) :
    Calls Tryz.prog 65 #[.int .u8 n, .int .u8 a, .int .u8 b] w fun e w' => e = .returned (.bool (decide (a ≤ n ∧ n ≤ b))) ∧ w = w' := by
  go_enter Tryz.func65, Tryz.ntmps65
  go_wp2
  all_goals go_ret
  all_goals (refine ⟨ret_bool ?_, rfl⟩; simp; try omega)

theorem letter_c (n : Int) (w : World) (h0 : 0 ≤ n) (h1 : n ≤ 255) :
    Calls Tryz.prog 60 #[.int .u8 n] w fun e w' => e = .returned (.bool (letterI n)) ∧ w = w' := by
  go_enter Tryz.func60, Tryz.ntmps60
  go_wp2
  all_goals go_ret
  all_goals (refine ⟨ret_bool ?_, rfl⟩; rw [Bool.eq_iff_iff]; simp [letterI]; try omega)

theorem small_c (n : Int) (w : World) (h0 : 0 ≤ n) (h1 : n ≤ 255) :
    Calls Tryz.prog 138 #[.int .u8 n] w fun e w' => e = .returned (.int .u8 (lowI n)) ∧ w = w' := by
  go_enter Tryz.func138, Tryz.ntmps138
  go_wp2
  all_goals go_ret
  all_goals (refine ⟨ret_int ?_, rfl⟩; unfold lowI; split <;> omega)

end Go.Proofs.YtganmmkdcaphfaaGreatDoor.Oct
