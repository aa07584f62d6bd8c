/-
  Part 4: RdKey, RdKey2, RdBegin0, RdBegin, RdChar, RdBegin2, BuildText.
-/
import Derived.Test.YtgfbednfiejlfaaGreatDoorLitCutsCardP3
import Derived.StillTailTactics
import Derived.Deep.RegionHeld3
import Derived.Test.YtgfbednfiejlfaaGreatDoorLitCutsCardP2
import Derived.Deep.DeepCutAuto
import Derived.Test.YtgfbednfiejlfaaGreatDoorLitCutsCardP1
import Derived.Test.YtgfbednfiejlfaaGreatDoorProg
import Derived.Lib.OthersKept
import Derived.Lib.Hide
/-
  Contract of the reader's putKey.
-/
namespace Go.Proofs.YtgfbednfiejlfaaGreatDoor.Rd
open Go.RowKit Go.Proofs.YtgfbednfiejlfaaGreatDoor.Oct Go.Proofs.YtgfbednfiejlfaaGreatDoor.Val

theorem key_done {N : Nat} {tag : Nat → Nat} {w W wB Z : World} {R : Nat} {s : List UInt8} {fs : List Fr} {f : Fr} {deep : Nat} {ov : Value} {es : List E5} (hkw : Kp tag tag w W) (h : RdAt N tag W R s (fs ++ [f]) deep ov es)
    {g0 cap0 : Nat} (hov : ov = .slice (some ⟨g0, 0, none⟩) (fs ++ [f]).length cap0) {L K : Value} {ys : List E5} {e : E5} (hf : FrAt N tag W fs.length f e L K ys) (he : ∀ h', es[fs.length]'h' = e) {key : ByteArray} (hkey : key.size ≤ 140737488351232) {o : Obj} {g cap : Nat}
    (hown : wB.ownsRow N 9 1 (.slice (some ⟨g, 0, none⟩) (f.ks.length + 1) cap) (f.ks.length + 1) (f.ks.map Value.string ++ [.string key]))
    (hg : (W.alloc o).grownBy wB K.ownBlock) (hat : K.ownBlock = some g ∨ g = W.heap.size + 1) (hlt : g < wB.heap.size)
    (hZ : Z = wB.setCell ⟨g0, fs.length * 5 + 4, none⟩ (.slice (some ⟨g, 0, none⟩) (f.ks.length + 1) cap)) :
    ∃ tag' ov' es', RdAt N tag' Z R s (fs ++ [{ f with ks := f.ks ++ [key] }]) deep ov' es' ∧ Kp tag tag' w Z := by
  have hg3 := h.omark g0 (by rw [hov]; rfl)
  have hg0 : g0 < W.heap.size := (own_lt h.own (r := g0) (by rw [hov]; rfl)).2
  have hsz : W.heap.size + 1 ≤ wB.heap.size := by have := hg.size; simp at this; exact this
  have hgm : W.heap.size ≤ g ∨ tag g = 5 + 2 * fs.length := by
    rcases hat with h1 | h1
    · exact .inr (hf.kmark _ h1)
    · exact .inl (by omega)
  have hgN : N ≤ g := by
    rcases hat with h1 | h1
    · exact (own_lt hf.keys h1).1
    · have := h.size; omega
  have hne : ∀ b, b < W.heap.size → tag b ≠ 5 + 2 * fs.length → b ≠ g := fun b hb ht e => by
    subst e
    rcases hgm with h1 | h1
    · omega
    · exact ht h1
  have hgg : g ≠ g0 := fun e => hne g0 hg0 (by omega) e.symm
  have hZb : ∀ b, b ≠ g0 → Z.heap[b]? = wB.heap[b]? := fun b hb => by rw [hZ]; exact heap_setCell_other _ _ _ _ (by simpa using hb)
  have hwb : ∀ b, b < W.heap.size → tag b ≠ 5 + 2 * fs.length → wB.heap[b]? = W.heap[b]? := fun b hb h4 => by
    rw [hg.block b (by simp; omega) (fun e => h4 (hf.kmark b e.symm)), Go.heap_alloc_old _ _ hb]
  have hW : ∀ b, b < W.heap.size → tag b ≠ 5 + 2 * fs.length → tag b ≠ 3 → Z.heap[b]? = W.heap[b]? := fun b hb h4 h3 => by
    rw [hZb b (fun e => h3 (by rw [e]; exact hg3)), hwb b hb h4]
  have hfr := set_frame wB ⟨g0, fs.length * 5 + 4, none⟩ (.slice (some ⟨g, 0, none⟩) (f.ks.length + 1) cap)
  rw [← hZ] at hfr
  have hT : ∀ b, b < W.heap.size → tag b ≠ 5 + 2 * fs.length → (if b = g then 5 + 2 * fs.length else tag b) = tag b := fun b hb h4 => if_neg (hne b hb h4)
  have hlen : es.length = fs.length + 1 := by rw [h.len]; simp
  have hd : ∀ v y, Holds (Dn N tag W) W v y → Holds (Dn N (fun b => if b = g then 5 + 2 * fs.length else tag b) Z) Z v y := fun v y hv =>
    holds_dn hv (fun b hb h0 => hW b hb (by omega) (by omega)) (fun b hb h0 => by rw [hT b hb (by omega)]; exact h0)
  have hZ0 : Z.ownsRow N 26 5 ov (fs ++ [f]).length (flat (es.set fs.length (.int .i64 f.kind, .int .i64 0, .string ⟨#[]⟩, L, .slice (some ⟨g, 0, none⟩) (f.ks.length + 1) cap))) := by
    have hown0 : wB.ownsRow N 26 5 ov (fs ++ [f]).length (flat es) := own_at h.own fun k hk => by
      rw [hov] at hk
      have : k = g0 := by injection hk with hk; exact hk.symm
      rw [this]; exact hwb g0 hg0 (by omega)
    have hm : fs.length < es.length := by omega
    have e1 := slot_set (es := es) (m := fs.length) (i := 4) hm (by omega) (.slice (some ⟨g, 0, none⟩) (f.ks.length + 1) cap)
    simp only [he hm, hf.e] at e1
    rw [hZ, ← e1]
    rw [hov] at hown0 ⊢
    exact (hown0.stored _ _).1
  have hZg : Z.ownsRow N 9 1 (.slice (some ⟨g, 0, none⟩) (f.ks.length + 1) cap) (f.ks.length + 1) (f.ks.map Value.string ++ [.string key]) := own_at hown fun k hk => by
    have : k = g := by injection hk with hk; exact hk.symm
    rw [this]; exact hZb g hgg
  refine ⟨fun b => if b = g then 5 + 2 * fs.length else tag b, ov, es.set fs.length (.int .i64 f.kind, .int .i64 0, .string ⟨#[]⟩, L, .slice (some ⟨g, 0, none⟩) (f.ks.length + 1) cap), ?_, ?_⟩
  · refine ⟨?_, ?_, ?_, ?_, ?_, ?_, ?_, ?_⟩
    · unfold Rd; rw [hW R h.rd.lt (by rw [h.rmark]; omega) (by rw [h.rmark]; omega)]; exact h.rd
    · have e1 : (fs ++ [{ f with ks := f.ks ++ [key] }]).length = (fs ++ [f]).length := by simp
      rw [e1]; exact hZ0
    · simp [hlen]
    · intro i h1 h2
      rcases Nat.lt_or_ge i fs.length with hi | hi
      · have e1 : (es.set fs.length (Value.int .i64 f.kind, Value.int .i64 0, Value.string ⟨#[]⟩, L, Value.slice (some ⟨g, 0, none⟩) (f.ks.length + 1) cap))[i]'h1 = es[i]'(by omega) := by rw [List.getElem_set_ne (by omega)]
        have e2 : (fs ++ [{ f with ks := f.ks ++ [key] }])[i]'h2 = (fs ++ [f])[i]'(by simp; omega) := by rw [List.getElem_append_left hi, List.getElem_append_left hi]
        obtain ⟨L2, K2, ys2, hf2⟩ := h.frs i (by omega) (by simp; omega)
        rw [e1, e2]
        exact ⟨L2, K2, ys2, hf2.frame fun b hb ht => ⟨hW b hb (by omega) (by omega), hT b hb (by omega)⟩⟩
      · have hie : i = fs.length := by simp at h2; omega
        subst hie
        have e1 : (es.set fs.length (Value.int .i64 f.kind, Value.int .i64 0, Value.string ⟨#[]⟩, L, Value.slice (some ⟨g, 0, none⟩) (f.ks.length + 1) cap))[fs.length]'h1 = (Value.int .i64 f.kind, Value.int .i64 0, Value.string ⟨#[]⟩, L, Value.slice (some ⟨g, 0, none⟩) (f.ks.length + 1) cap) := by simp
        have e2 : (fs ++ [{ f with ks := f.ks ++ [key] }])[fs.length]'h2 = { f with ks := f.ks ++ [key] } := by simp
        rw [e1, e2]
        refine ⟨L, _, ys, ⟨rfl, hf.kind, ?_, hf.len, fun j j1 j2 => hd _ _ (hf.vals j j1 j2), ?_, ?_, ?_, ?_⟩⟩
        · exact own_at hf.rows fun k hk => hW k (own_lt hf.rows hk).2 (by rw [hf.mark k hk]; omega) (by rw [hf.mark k hk]; omega)
        · intro b hb
          rw [hT b (own_lt hf.rows hb).2 (by rw [hf.mark b hb]; omega)]
          exact hf.mark b hb
        · have e3 : (f.ks ++ [key]).length = f.ks.length + 1 := by simp
          rw [e3]
          show Z.ownsRow N _ 1 _ _ ((f.ks ++ [key]).map Value.string)
          rw [List.map_append]
          exact hZg
        · intro b hb
          injection hb with hb
          have hb' : b = g := hb.symm
          rw [hb', if_pos rfl]
        · intro t ht
          rcases List.mem_append.1 ht with h1 | h1
          · exact hf.small t h1
          · rw [List.mem_singleton.1 h1]; exact hkey
    · rw [hT R h.rd.lt (by rw [h.rmark]; omega)]; exact h.rmark
    · intro b hb
      rw [hT b (own_lt h.own hb).2 (by rw [h.omark b hb]; omega)]
      exact h.omark b hb
    · intro b hb
      have hs := hfr.1
      have hbg : b ≠ g := by rintro rfl; omega
      show (if b = g then _ else _) = 1
      rw [if_neg hbg]
      exact h.out b (by omega)
    · have := h.size; have := hfr.1; omega
  · have hk2 : Kp tag (fun b => if b = g then 5 + 2 * fs.length else tag b) W Z := ⟨hfr.2.1.trans hg.os, hfr.2.2.1.trans hg.tape, hfr.2.2.2.trans hg.output, by have := hfr.1; omega, fun b hb ht => ⟨hW b hb (by omega) (by omega), hT b hb (by omega)⟩⟩
    exact hkw.trans hk2

/-- What putKey leaves. -/
def KeyTo (N : Nat) (tag : Nat → Nat) (w : World) (R : Nat) (s : List UInt8) (fs : List Fr) (f : Fr) (deep : Nat) (key : ByteArray) (en : Ending) (w' : World) : Prop :=
  if f.kind = 6 ∧ f.ks.length = f.xs.length then en = .returned (.tuple #[]) ∧ ∃ tag' ov' es', RdAt N tag' w' R s (fs ++ [{ f with ks := f.ks ++ [key] }]) deep ov' es' ∧ Kp tag tag' w w'
  else en = Fault 33 ∧ Kp tag tag w w'

theorem key_none (N : Nat) (tag : Nat → Nat) (w : World) (R : Nat) (s : List UInt8) (deep : Nat) (ov : Value) (es : List E5) (h : RdAt N tag w R s [] deep ov es) (key : ByteArray) :
    Calls Tryz.prog 81 #[.pointer (some ⟨R, 0, none⟩), .string key] w fun en w' => en = Fault 33 ∧ Kp tag tag w w' := by
  obtain ⟨p, c, hov⟩ := own_slice h.own
  have c1 := h.rd.cell1
  rw [hov] at c1
  simp only [List.length_nil] at c1
  clear h hov
  go_enter Tryz.func81, Tryz.ntmps81
  go_wp2_with (go_at_call 30; refine (demand_no _ _).mono ?_; rintro e w2 ⟨rfl, rfl⟩)
  exact ⟨rfl, rfl, Kp.refl _ _⟩
end Go.Proofs.YtgfbednfiejlfaaGreatDoor.Rd

/-
  Contract of the reader's putKey, where something has begun.
-/
namespace Go.Proofs.YtgfbednfiejlfaaGreatDoor.Rd
open Go.RowKit Go.Proofs.YtgfbednfiejlfaaGreatDoor.Oct Go.Proofs.YtgfbednfiejlfaaGreatDoor.Val

theorem append_key {N : Nat} {w : World} {K : Value} {ks : List ByteArray} (key : ByteArray) (hN : N ≤ w.heap.size) (h : w.ownsRow N 9 1 K ks.length (ks.map Value.string)) (hn : ks.length + 1 ≤ 1099511627776) :
    ∃ g cap wB, (Builtin.append_ #[24, 24] 24 #[K, .slice (some ⟨w.heap.size, 0, none⟩) 1 1]).run Tryz.prog (w.alloc (.cells #[.string key] 9)) = .ok (.slice (some ⟨g, 0, none⟩) (ks.length + 1) cap) wB ∧
      wB.ownsRow N 9 1 (.slice (some ⟨g, 0, none⟩) (ks.length + 1) cap) (ks.length + 1) (ks.map Value.string ++ [.string key]) ∧ (w.alloc (.cells #[.string key] 9)).grownBy wB K.ownBlock ∧ (K.ownBlock = some g ∨ g = w.heap.size + 1) ∧ g < wB.heap.size := by
  obtain ⟨i0, hi, hz0, hz1, hz2⟩ := info_parts info_text
  exact run_append_lies (P := Tryz.prog) (w.alloc (.cells #[.string key] 9)) 24 24 N 9 i0 (.string ⟨#[]⟩) 1 16 Tryz.underlying24 hi hz0 hz1 hz2 rfl (by omega)
    K ks.length (ks.map Value.string) (h.alloc _) ⟨w.heap.size, 0, none⟩ 1 1 [.string key] rfl (World.news_of_block (heap_alloc_new w _)) (by intro u hu; simp at hu; rw [hu]; rfl) (by omega) (by unfold maxLen; omega) (by omega) (by simp; omega) _ (by simp)

theorem key_facts {N : Nat} {tag : Nat → Nat} {W wB : World} {R : Nat} {s : List UInt8} {fs : List Fr} {f : Fr} {deep : Nat} {ov : Value} {es : List E5} (h : RdAt N tag W R s (fs ++ [f]) deep ov es)
    {g0 cap0 : Nat} (hov : ov = .slice (some ⟨g0, 0, none⟩) (fs ++ [f]).length cap0) {L K : Value} {ys : List E5} {e : E5} (hf : FrAt N tag W fs.length f e L K ys) (he : ∀ h', es[fs.length]'h' = e) {o : Obj}
    (hg : (W.alloc o).grownBy wB K.ownBlock) : wB.cell? ⟨g0, fs.length * 5 + 4, none⟩ = some K ∧ wB.frozen? ⟨g0, fs.length * 5 + 4, none⟩ = false := by
  have hg0 : g0 < W.heap.size := (own_lt h.own (r := g0) (by rw [hov]; rfl)).2
  have hblk : wB.heap[g0]? = W.heap[g0]? := by
    rw [hg.block g0 (by simp; omega) (fun e => by have h1 := hf.kmark g0 e.symm; have h2 := h.omark g0 (by rw [hov]; rfl); omega), Go.heap_alloc_old _ _ hg0]
  have hown0 : wB.ownsRow N 26 5 ov (fs ++ [f]).length (flat es) := own_at h.own fun k hk => by
    rw [hov] at hk
    have : k = g0 := by injection hk with hk; exact hk.symm
    rw [this]; exact hblk
  refine ⟨?_, ?_⟩
  · rw [slot_at (es := es) (m := fs.length) (by rw [h.len]; simp) (by omega) hown0 (by rw [hov]; rfl) h.len ⟨cap0, hov⟩, he, hf.e]
    rfl
  · rw [hov] at hown0
    exact hown0.frozenAt _

set_option maxHeartbeats 4000000 in
set_option maxRecDepth 100000 in
theorem key_c (N : Nat) (tag : Nat → Nat) (w : World) (R : Nat) (s : List UInt8) (fs : List Fr) (f : Fr) (deep : Nat) (ov : Value) (es : List E5) (h : RdAt N tag w R s (fs ++ [f]) deep ov es) (key : ByteArray) (hkey : key.size ≤ 140737488351232)
    (hk : f.ks.length + 1 ≤ 1099511627776) (hm : fs.length + 1 ≤ 1099511627776) :
    Calls Tryz.prog 81 #[.pointer (some ⟨R, 0, none⟩), .string key] w (KeyTo N tag w R s fs f deep key) := by
  obtain ⟨g0, cap0, hov, hg3⟩ := h.row (by simp)
  have hlen : es.length = fs.length + 1 := by rw [h.len]; simp
  have hfl : (fs ++ [f]).length = fs.length + 1 := by simp
  have hfi : (fs ++ [f])[fs.length]'(by omega) = f := by simp
  obtain ⟨L, K, ys, hf⟩ := h.frs fs.length (by omega) (by omega)
  rw [hfi] at hf
  obtain ⟨lp, lc, hL⟩ := own_slice hf.rows
  obtain ⟨kp, kc, hK⟩ := own_slice hf.keys
  have c1 := h.rd.cell1
  rw [hov, hfl] at c1
  have hi := innermost_c R g0 fs.length cap0 (S s) (.int .i64 deep) w (by omega) (by have := h.rd; rw [hov, hfl] at this; exact this)
  have KW : Hid (∀ W, Below w.heap.size w W → RdAt N tag W R s (fs ++ [f]) deep ov es ∧ W.cell? ⟨g0, fs.length * 5, none⟩ = some (.int .i64 f.kind) ∧ W.cell? ⟨g0, fs.length * 5 + 3, none⟩ = some (.slice lp f.xs.length lc) ∧ W.cell? ⟨g0, fs.length * 5 + 4, none⟩ = some (.slice kp f.ks.length kc)) := fun W hb => by
    have hW := h.keep hb
    have sl : ∀ i, i < 5 → W.cell? ⟨g0, fs.length * 5 + i, none⟩ = (cells5 es[fs.length])[i]? := fun i hi => slot_at (es := es) (m := fs.length) (by omega) hi hW.own (by rw [hov]; rfl) (by rw [hlen, hfl]) ⟨cap0, hov⟩
    rw [hf.e, hL, hK] at sl
    exact ⟨hW, sl 0 (by omega), sl 3 (by omega), sl 4 (by omega)⟩
  have HB := Lib.hid (And.intro h (And.intro hf (And.intro hov (And.intro hL hK))))
  unfold KeyTo
  have hm0 : (0 : Int) < (fs.length : Int) + 1 := by omega
  clear h hf
  by_cases hc : f.kind = 6 ∧ f.ks.length = f.xs.length
  · simp only [if_pos hc]
    obtain ⟨hc1, hc2⟩ := hc
    rw [hc1, ← hc2] at KW
    have HC2 := Lib.hid hc2
    clear hc2
    · skip
      go_enter Tryz.func81, Tryz.ntmps81
      go_wp2_with (first
        | (go_at_call 30; refine (demand_yes _ _).mono ?_; rintro e w2 ⟨rfl, rfl⟩)
        | (go_at_call 62; refine hi.mono ?_; rintro e2 W2 ⟨rfl, h2⟩; obtain ⟨m1, x0, x3, x4⟩ := KW.out W2 h2; have H2 := Lib.hid (And.intro h2 m1); clear h2 m1))
      have x0' : W2.drew.cell? ⟨g0, fs.length * 5, none⟩ = some (.int .i64 6) := x0
      have x3' : W2.drew.cell? ⟨g0, fs.length * 5 + 3, none⟩ = some (.slice lp f.ks.length lc) := x3
      have x4' : W2.drew.cell? ⟨g0, fs.length * 5 + 4, none⟩ = some (.slice kp f.ks.length kc) := x4
      go_region_held3 (fun w' => w'.cell? ⟨g0, fs.length * 5, none⟩ = some (.int .i64 6) ∧ w'.cell? ⟨g0, fs.length * 5 + 3, none⟩ = some (.slice lp f.ks.length lc) ∧ w'.cell? ⟨g0, fs.length * 5 + 4, none⟩ = some (.slice kp f.ks.length kc))
        (first | with_reducible exact ⟨x0', x3', x4'⟩)
        (first
          | (go_at_call 30; refine (demand_yes _ _).mono ?_; rintro e4 W4 ⟨rfl, rfl⟩))
      have hd2 := H2.out.2.keep (Below.refl _ W2).drew
      obtain ⟨L', K', ys2, hf2⟩ := hd2.frs fs.length (by omega) (by omega)
      rw [hfi] at hf2
      have heL : L' = L ∧ K' = K := by
        have h1 := hf2.e.symm.trans HB.out.2.1.e
        simp only [Prod.mk.injEq, true_and] at h1
        exact h1
      obtain ⟨rfl, rfl⟩ := heL
      obtain ⟨g, cp, wB, hr, hownB, hgB, hatB, hltB⟩ := append_key key hd2.size hf2.keys hk
      obtain ⟨v4, r4⟩ := key_facts hd2 hov hf2 (fun _ => rfl) hgB
      rw [hK] at hr v4
      have HY := Lib.hid (And.intro hd2 (And.intro hf2 (And.intro hownB (And.intro hgB (And.intro hatB hltB)))))
      clear hd2 hf2 hownB hgB hatB hltB x0 x3 x4 hi c1
      go_wp2_with (at_builtin; refine wpList_append_run rfl (.tmp 37) (.tmp 39) 24 rfl _ _ _ rfl rfl hr ?_)
      go_end0
      exact ⟨rfl, key_done ((Kp.of H2.out.1).trans (Kp.of (Below.refl _ W2).drew)) HY.out.1 hov HY.out.2.1 (fun _ => rfl) hkey HY.out.2.2.1 HY.out.2.2.2.1 HY.out.2.2.2.2.1 HY.out.2.2.2.2.2 rfl⟩
  · simp only [if_neg hc]
    generalize f.kind = kd at KW hc
    generalize f.ks.length = nk at KW hc
    generalize f.xs.length = nx at KW hc
    by_cases h6 : kd = 6
    · subst h6
      have he : ((nk : Int) == (nx : Int)) = false := by simp; omega
      go_enter Tryz.func81, Tryz.ntmps81
      go_wp2_with (first
        | (go_at_call 30; refine (demand_yes _ _).mono ?_; rintro e w2 ⟨rfl, rfl⟩)
        | (go_at_call 62; refine hi.mono ?_; rintro e2 W2 ⟨rfl, h2⟩; obtain ⟨m1, x0, x3, x4⟩ := KW.out W2 h2; have H2 := Lib.hid (And.intro h2 m1); clear h2 m1))
      refine wp_region_held_drew (S := (fun w' => w'.cell? ⟨g0, fs.length * 5, none⟩ = some (.int .i64 6) ∧ w'.cell? ⟨g0, fs.length * 5 + 3, none⟩ = some (.slice lp nx lc) ∧ w'.cell? ⟨g0, fs.length * 5 + 4, none⟩ = some (.slice kp nk kc))) (by kernel_rfl) ⟨x0, x3, x4⟩ (fun hHeld => ?_)
      refine wpAnyH_take (i := 0) (v := ?_) rfl (by kernel_rfl) (by kernel_rfl) (by kernel_rfl) (fun _ _ _ h => h) (Or.inl ⟨by rfl, ?_⟩) (by assumption) ?_
      rotate_left
      · intro w hSw
        try dsimp only at hSw
        go_simp
        try with_reducible rfl
      (try simp only [List.getElem_toArray]); (try simp only [List.getElem_cons_succ]); (try simp only [List.getElem_cons_zero]); (try simp only [Act.put]); (try simp only [List.setIfInBounds_toArray]); (try simp only [List.set_cons_succ]); (try simp only [List.set_cons_zero])
      refine wpAnyH_take (i := 1) (v := ?_) rfl (by kernel_rfl) (by kernel_rfl) (by kernel_rfl) (fun _ _ _ h => h) (Or.inl ⟨by rfl, ?_⟩) (by assumption) ?_
      rotate_left
      · intro w hSw
        try dsimp only at hSw
        go_simp
        try with_reducible rfl
      (try simp only [List.getElem_toArray]); (try simp only [List.getElem_cons_succ]); (try simp only [List.getElem_cons_zero]); (try simp only [Act.put]); (try simp only [List.setIfInBounds_toArray]); (try simp only [List.set_cons_succ]); (try simp only [List.set_cons_zero])
      refine wpAnyH_take (i := 2) (v := ?_) rfl (by kernel_rfl) (by kernel_rfl) (by kernel_rfl) (fun _ _ _ h => h) (Or.inl ⟨by rfl, ?_⟩) (by assumption) ?_
      rotate_left
      · intro w hSw
        try dsimp only at hSw
        go_simp
        try with_reducible rfl
      (try simp only [List.getElem_toArray]); (try simp only [List.getElem_cons_succ]); (try simp only [List.getElem_cons_zero]); (try simp only [Act.put]); (try simp only [List.setIfInBounds_toArray]); (try simp only [List.set_cons_succ]); (try simp only [List.set_cons_zero])
      refine wpAnyH_take (i := 3) (v := ?_) rfl (by kernel_rfl) (by kernel_rfl) (by kernel_rfl) (fun _ _ _ h => h) (Or.inl ⟨by rfl, ?_⟩) (by assumption) ?_
      rotate_left
      · intro w hSw
        try dsimp only at hSw
        go_simp
        try with_reducible rfl
      (try simp only [List.getElem_toArray]); (try simp only [List.getElem_cons_succ]); (try simp only [List.getElem_cons_zero]); (try simp only [Act.put]); (try simp only [List.setIfInBounds_toArray]); (try simp only [List.set_cons_succ]); (try simp only [List.set_cons_zero])
      refine wpAnyH_take (i := 4) (v := ?_) rfl (by kernel_rfl) (by kernel_rfl) (by kernel_rfl) (fun _ _ _ h => h) (Or.inl ⟨by rfl, ?_⟩) (by assumption) ?_
      rotate_left
      · intro w hSw
        try dsimp only at hSw
        go_simp
        try with_reducible rfl
      (try simp only [List.getElem_toArray]); (try simp only [List.getElem_cons_succ]); (try simp only [List.getElem_cons_zero]); (try simp only [Act.put]); (try simp only [List.setIfInBounds_toArray]); (try simp only [List.set_cons_succ]); (try simp only [List.set_cons_zero])
      refine wpAnyH_take (i := 5) (v := ?_) rfl (by kernel_rfl) (by kernel_rfl) (by kernel_rfl) (fun _ _ _ h => h) (Or.inl ⟨by rfl, ?_⟩) (by assumption) ?_
      rotate_left
      · intro w hSw
        try dsimp only at hSw
        go_simp
        try with_reducible rfl
      (try simp only [List.getElem_toArray]); (try simp only [List.getElem_cons_succ]); (try simp only [List.getElem_cons_zero]); (try simp only [Act.put]); (try simp only [List.setIfInBounds_toArray]); (try simp only [List.set_cons_succ]); (try simp only [List.set_cons_zero])
      refine wpAnyH_take (i := 6) (v := ?_) rfl (by kernel_rfl) (by kernel_rfl) (by kernel_rfl) (fun _ _ _ h => h) (Or.inl ⟨by rfl, ?_⟩) (by assumption) ?_
      rotate_left
      · intro w hSw
        try dsimp only at hSw
        go_simp
        try with_reducible rfl
      (try simp only [List.getElem_toArray]); (try simp only [List.getElem_cons_succ]); (try simp only [List.getElem_cons_zero]); (try simp only [Act.put]); (try simp only [List.setIfInBounds_toArray]); (try simp only [List.set_cons_succ]); (try simp only [List.set_cons_zero])
      refine wpAnyH_take (i := 7) (v := ?_) rfl (by kernel_rfl) (by kernel_rfl) (by kernel_rfl) (fun _ _ _ h => h) (Or.inl ⟨by rfl, ?_⟩) (by assumption) ?_
      rotate_left
      · intro w hSw
        try dsimp only at hSw
        go_simp
        try with_reducible rfl
      (try simp only [List.getElem_toArray]); (try simp only [List.getElem_cons_succ]); (try simp only [List.getElem_cons_zero]); (try simp only [Act.put]); (try simp only [List.setIfInBounds_toArray]); (try simp only [List.set_cons_succ]); (try simp only [List.set_cons_zero])
      refine wpAnyH_take (i := 8) (v := ?_) rfl (by kernel_rfl) (by kernel_rfl) (by kernel_rfl) (fun _ _ _ h => h) (Or.inl ⟨by rfl, ?_⟩) (by assumption) ?_
      rotate_left
      · intro w hSw
        try dsimp only at hSw
        go_simp
        try with_reducible rfl
      (try simp only [List.getElem_toArray]); (try simp only [List.getElem_cons_succ]); (try simp only [List.getElem_cons_zero]); (try simp only [Act.put]); (try simp only [List.setIfInBounds_toArray]); (try simp only [List.set_cons_succ]); (try simp only [List.set_cons_zero])
      refine wpAnyH_take (i := 9) (v := ?_) rfl (by kernel_rfl) (by kernel_rfl) (by kernel_rfl) (fun _ _ _ h => h) (Or.inl ⟨by rfl, ?_⟩) (by assumption) ?_
      rotate_left
      · intro w hSw
        try dsimp only at hSw
        go_simp
        try with_reducible rfl
      (try simp only [List.getElem_toArray]); (try simp only [List.getElem_cons_succ]); (try simp only [List.getElem_cons_zero]); (try simp only [Act.put]); (try simp only [List.setIfInBounds_toArray]); (try simp only [List.set_cons_succ]); (try simp only [List.set_cons_zero])
      refine wpAnyH_take (i := 10) (v := ?_) rfl (by kernel_rfl) (by kernel_rfl) (by kernel_rfl) (fun _ _ _ h => h) (Or.inl ⟨by rfl, ?_⟩) (by assumption) ?_
      rotate_left
      · intro w hSw
        try dsimp only at hSw
        go_simp
        try with_reducible rfl
      (try simp only [List.getElem_toArray]); (try simp only [List.getElem_cons_succ]); (try simp only [List.getElem_cons_zero]); (try simp only [Act.put]); (try simp only [List.setIfInBounds_toArray]); (try simp only [List.set_cons_succ]); (try simp only [List.set_cons_zero])
      refine wpAnyH_take (i := 11) (v := ?_) rfl (by kernel_rfl) (by kernel_rfl) (by kernel_rfl) (fun _ _ _ h => h) (Or.inl ⟨by rfl, ?_⟩) (by assumption) ?_
      rotate_left
      · intro w hSw
        try dsimp only at hSw
        go_simp
        try with_reducible rfl
      (try simp only [List.getElem_toArray]); (try simp only [List.getElem_cons_succ]); (try simp only [List.getElem_cons_zero]); (try simp only [Act.put]); (try simp only [List.setIfInBounds_toArray]); (try simp only [List.set_cons_succ]); (try simp only [List.set_cons_zero])
      refine wpAnyH_take (i := 12) (v := ?_) rfl (by kernel_rfl) (by kernel_rfl) (by kernel_rfl) (fun _ _ _ h => h) (Or.inl ⟨by rfl, ?_⟩) (by assumption) ?_
      rotate_left
      · intro w hSw
        try dsimp only at hSw
        go_simp
        try with_reducible rfl
      (try simp only [List.getElem_toArray]); (try simp only [List.getElem_cons_succ]); (try simp only [List.getElem_cons_zero]); (try simp only [Act.put]); (try simp only [List.setIfInBounds_toArray]); (try simp only [List.set_cons_succ]); (try simp only [List.set_cons_zero])
      refine wpAnyH_take (i := 13) (v := ?_) rfl (by kernel_rfl) (by kernel_rfl) (by kernel_rfl) (fun _ _ _ h => h) (Or.inl ⟨by rfl, ?_⟩) (by assumption) ?_
      rotate_left
      · intro w hSw
        try dsimp only at hSw
        go_simp
        try with_reducible rfl
      (try simp only [List.getElem_toArray]); (try simp only [List.getElem_cons_succ]); (try simp only [List.getElem_cons_zero]); (try simp only [Act.put]); (try simp only [List.setIfInBounds_toArray]); (try simp only [List.set_cons_succ]); (try simp only [List.set_cons_zero])
      refine wpAnyH_take (i := 14) (v := ?_) rfl (by kernel_rfl) (by kernel_rfl) (by kernel_rfl) (fun _ _ _ h => h) (Or.inl ⟨by rfl, ?_⟩) (by assumption) ?_
      rotate_left
      · intro w hSw
        try dsimp only at hSw
        go_simp
        try with_reducible rfl
      (try simp only [List.getElem_toArray]); (try simp only [List.getElem_cons_succ]); (try simp only [List.getElem_cons_zero]); (try simp only [Act.put]); (try simp only [List.setIfInBounds_toArray]); (try simp only [List.set_cons_succ]); (try simp only [List.set_cons_zero])
      refine wpAnyH_take (i := 15) (v := ?_) rfl (by kernel_rfl) (by kernel_rfl) (by kernel_rfl) (fun _ _ _ h => h) (Or.inl ⟨by rfl, ?_⟩) (by assumption) ?_
      rotate_left
      · intro w hSw
        try dsimp only at hSw
        go_simp
        try with_reducible rfl
      (try simp only [List.getElem_toArray]); (try simp only [List.getElem_cons_succ]); (try simp only [List.getElem_cons_zero]); (try simp only [Act.put]); (try simp only [List.setIfInBounds_toArray]); (try simp only [List.set_cons_succ]); (try simp only [List.set_cons_zero])
      refine wpAnyH_take (i := 16) (v := ?_) rfl (by kernel_rfl) (by kernel_rfl) (by kernel_rfl) (fun _ _ _ h => h) (Or.inl ⟨by rfl, ?_⟩) (by assumption) ?_
      rotate_left
      · intro w hSw
        try dsimp only at hSw
        go_simp
        try with_reducible rfl
      (try simp only [List.getElem_toArray]); (try simp only [List.getElem_cons_succ]); (try simp only [List.getElem_cons_zero]); (try simp only [Act.put]); (try simp only [List.setIfInBounds_toArray]); (try simp only [List.set_cons_succ]); (try simp only [List.set_cons_zero])
      refine wpAnyH_take (i := 17) (v := ?_) rfl (by kernel_rfl) (by kernel_rfl) (by kernel_rfl) (fun _ _ _ h => h) (Or.inl ⟨by rfl, ?_⟩) (by assumption) ?_
      rotate_left
      · intro w hSw
        try dsimp only at hSw
        go_simp
        try with_reducible rfl
      (try simp only [List.getElem_toArray]); (try simp only [List.getElem_cons_succ]); (try simp only [List.getElem_cons_zero]); (try simp only [Act.put]); (try simp only [List.setIfInBounds_toArray]); (try simp only [List.set_cons_succ]); (try simp only [List.set_cons_zero])
      refine wpAnyH_ready (rs := [18]) (by kernel_rfl) (by simp) ?_
      refine AllReadyH.cons rfl (fun K hK => ?_) AllReadyH.nil
      go_simp
      refine (demand_no _ _).mono ?_
      rintro e4 W4 ⟨rfl, rfl⟩
      exact ⟨rfl, rfl, Kp.of (H2.out.1.trans ((Below.refl _ W2).drew.mono H2.out.1.size))⟩
    · have he : (kd == 6) = false := by simpa using h6
      go_enter Tryz.func81, Tryz.ntmps81
      go_wp2_with (first
        | (go_at_call 30; refine (demand_yes _ _).mono ?_; rintro e w2 ⟨rfl, rfl⟩)
        | (go_at_call 62; refine hi.mono ?_; rintro e2 W2 ⟨rfl, h2⟩; obtain ⟨m1, x0, x3, x4⟩ := KW.out W2 h2; have H2 := Lib.hid (And.intro h2 m1); clear h2 m1))
      refine wp_region_held_drew (S := (fun w' => w'.cell? ⟨g0, fs.length * 5, none⟩ = some (.int .i64 kd) ∧ w'.cell? ⟨g0, fs.length * 5 + 3, none⟩ = some (.slice lp nx lc) ∧ w'.cell? ⟨g0, fs.length * 5 + 4, none⟩ = some (.slice kp nk kc))) (by kernel_rfl) ⟨x0, x3, x4⟩ (fun hHeld => ?_)
      refine wpAnyH_take (i := 0) (v := ?_) rfl (by kernel_rfl) (by kernel_rfl) (by kernel_rfl) (fun _ _ _ h => h) (Or.inl ⟨by rfl, ?_⟩) (by assumption) ?_
      rotate_left
      · intro w hSw
        try dsimp only at hSw
        go_simp
        try with_reducible rfl
      (try simp only [List.getElem_toArray]); (try simp only [List.getElem_cons_succ]); (try simp only [List.getElem_cons_zero]); (try simp only [Act.put]); (try simp only [List.setIfInBounds_toArray]); (try simp only [List.set_cons_succ]); (try simp only [List.set_cons_zero])
      refine wpAnyH_take (i := 1) (v := ?_) rfl (by kernel_rfl) (by kernel_rfl) (by kernel_rfl) (fun _ _ _ h => h) (Or.inl ⟨by rfl, ?_⟩) (by assumption) ?_
      rotate_left
      · intro w hSw
        try dsimp only at hSw
        go_simp
        try with_reducible rfl
      (try simp only [List.getElem_toArray]); (try simp only [List.getElem_cons_succ]); (try simp only [List.getElem_cons_zero]); (try simp only [Act.put]); (try simp only [List.setIfInBounds_toArray]); (try simp only [List.set_cons_succ]); (try simp only [List.set_cons_zero])
      refine wpAnyH_take (i := 2) (v := ?_) rfl (by kernel_rfl) (by kernel_rfl) (by kernel_rfl) (fun _ _ _ h => h) (Or.inl ⟨by rfl, ?_⟩) (by assumption) ?_
      rotate_left
      · intro w hSw
        try dsimp only at hSw
        go_simp
        try with_reducible rfl
      (try simp only [List.getElem_toArray]); (try simp only [List.getElem_cons_succ]); (try simp only [List.getElem_cons_zero]); (try simp only [Act.put]); (try simp only [List.setIfInBounds_toArray]); (try simp only [List.set_cons_succ]); (try simp only [List.set_cons_zero])
      refine wpAnyH_take (i := 3) (v := ?_) rfl (by kernel_rfl) (by kernel_rfl) (by kernel_rfl) (fun _ _ _ h => h) (Or.inl ⟨by rfl, ?_⟩) (by assumption) ?_
      rotate_left
      · intro w hSw
        try dsimp only at hSw
        go_simp
        try with_reducible rfl
      (try simp only [List.getElem_toArray]); (try simp only [List.getElem_cons_succ]); (try simp only [List.getElem_cons_zero]); (try simp only [Act.put]); (try simp only [List.setIfInBounds_toArray]); (try simp only [List.set_cons_succ]); (try simp only [List.set_cons_zero])
      refine wpAnyH_take (i := 4) (v := ?_) rfl (by kernel_rfl) (by kernel_rfl) (by kernel_rfl) (fun _ _ _ h => h) (Or.inl ⟨by rfl, ?_⟩) (by assumption) ?_
      rotate_left
      · intro w hSw
        try dsimp only at hSw
        go_simp
        try with_reducible rfl
      (try simp only [List.getElem_toArray]); (try simp only [List.getElem_cons_succ]); (try simp only [List.getElem_cons_zero]); (try simp only [Act.put]); (try simp only [List.setIfInBounds_toArray]); (try simp only [List.set_cons_succ]); (try simp only [List.set_cons_zero])
      refine wpAnyH_take (i := 5) (v := ?_) rfl (by kernel_rfl) (by kernel_rfl) (by kernel_rfl) (fun _ _ _ h => h) (Or.inl ⟨by rfl, ?_⟩) (by assumption) ?_
      rotate_left
      · intro w hSw
        try dsimp only at hSw
        go_simp
        try with_reducible rfl
      (try simp only [List.getElem_toArray]); (try simp only [List.getElem_cons_succ]); (try simp only [List.getElem_cons_zero]); (try simp only [Act.put]); (try simp only [List.setIfInBounds_toArray]); (try simp only [List.set_cons_succ]); (try simp only [List.set_cons_zero])
      refine wpAnyH_take (i := 6) (v := undef) rfl (by kernel_rfl) (by kernel_rfl) (by kernel_rfl) (fun _ _ _ h => h) (Or.inr ⟨by rfl, rfl⟩) (by assumption) ?_
      (try simp only [List.getElem_toArray]); (try simp only [List.getElem_cons_succ]); (try simp only [List.getElem_cons_zero]); (try simp only [Act.put]); (try simp only [List.setIfInBounds_toArray]); (try simp only [List.set_cons_succ]); (try simp only [List.set_cons_zero])
      refine wpAnyH_take (i := 7) (v := undef) rfl (by kernel_rfl) (by kernel_rfl) (by kernel_rfl) (fun _ _ _ h => h) (Or.inr ⟨by rfl, rfl⟩) (by assumption) ?_
      (try simp only [List.getElem_toArray]); (try simp only [List.getElem_cons_succ]); (try simp only [List.getElem_cons_zero]); (try simp only [Act.put]); (try simp only [List.setIfInBounds_toArray]); (try simp only [List.set_cons_succ]); (try simp only [List.set_cons_zero])
      refine wpAnyH_take (i := 8) (v := undef) rfl (by kernel_rfl) (by kernel_rfl) (by kernel_rfl) (fun _ _ _ h => h) (Or.inr ⟨by rfl, rfl⟩) (by assumption) ?_
      (try simp only [List.getElem_toArray]); (try simp only [List.getElem_cons_succ]); (try simp only [List.getElem_cons_zero]); (try simp only [Act.put]); (try simp only [List.setIfInBounds_toArray]); (try simp only [List.set_cons_succ]); (try simp only [List.set_cons_zero])
      refine wpAnyH_take (i := 9) (v := undef) rfl (by kernel_rfl) (by kernel_rfl) (by kernel_rfl) (fun _ _ _ h => h) (Or.inr ⟨by rfl, rfl⟩) (by assumption) ?_
      (try simp only [List.getElem_toArray]); (try simp only [List.getElem_cons_succ]); (try simp only [List.getElem_cons_zero]); (try simp only [Act.put]); (try simp only [List.setIfInBounds_toArray]); (try simp only [List.set_cons_succ]); (try simp only [List.set_cons_zero])
      refine wpAnyH_take (i := 10) (v := undef) rfl (by kernel_rfl) (by kernel_rfl) (by kernel_rfl) (fun _ _ _ h => h) (Or.inr ⟨by rfl, rfl⟩) (by assumption) ?_
      (try simp only [List.getElem_toArray]); (try simp only [List.getElem_cons_succ]); (try simp only [List.getElem_cons_zero]); (try simp only [Act.put]); (try simp only [List.setIfInBounds_toArray]); (try simp only [List.set_cons_succ]); (try simp only [List.set_cons_zero])
      refine wpAnyH_take (i := 11) (v := undef) rfl (by kernel_rfl) (by kernel_rfl) (by kernel_rfl) (fun _ _ _ h => h) (Or.inr ⟨by rfl, rfl⟩) (by assumption) ?_
      (try simp only [List.getElem_toArray]); (try simp only [List.getElem_cons_succ]); (try simp only [List.getElem_cons_zero]); (try simp only [Act.put]); (try simp only [List.setIfInBounds_toArray]); (try simp only [List.set_cons_succ]); (try simp only [List.set_cons_zero])
      refine wpAnyH_take (i := 12) (v := undef) rfl (by kernel_rfl) (by kernel_rfl) (by kernel_rfl) (fun _ _ _ h => h) (Or.inr ⟨by rfl, rfl⟩) (by assumption) ?_
      (try simp only [List.getElem_toArray]); (try simp only [List.getElem_cons_succ]); (try simp only [List.getElem_cons_zero]); (try simp only [Act.put]); (try simp only [List.setIfInBounds_toArray]); (try simp only [List.set_cons_succ]); (try simp only [List.set_cons_zero])
      refine wpAnyH_take (i := 13) (v := undef) rfl (by kernel_rfl) (by kernel_rfl) (by kernel_rfl) (fun _ _ _ h => h) (Or.inr ⟨by rfl, rfl⟩) (by assumption) ?_
      (try simp only [List.getElem_toArray]); (try simp only [List.getElem_cons_succ]); (try simp only [List.getElem_cons_zero]); (try simp only [Act.put]); (try simp only [List.setIfInBounds_toArray]); (try simp only [List.set_cons_succ]); (try simp only [List.set_cons_zero])
      refine wpAnyH_take (i := 14) (v := undef) rfl (by kernel_rfl) (by kernel_rfl) (by kernel_rfl) (fun _ _ _ h => h) (Or.inr ⟨by rfl, rfl⟩) (by assumption) ?_
      (try simp only [List.getElem_toArray]); (try simp only [List.getElem_cons_succ]); (try simp only [List.getElem_cons_zero]); (try simp only [Act.put]); (try simp only [List.setIfInBounds_toArray]); (try simp only [List.set_cons_succ]); (try simp only [List.set_cons_zero])
      refine wpAnyH_take (i := 15) (v := undef) rfl (by kernel_rfl) (by kernel_rfl) (by kernel_rfl) (fun _ _ _ h => h) (Or.inr ⟨by rfl, rfl⟩) (by assumption) ?_
      (try simp only [List.getElem_toArray]); (try simp only [List.getElem_cons_succ]); (try simp only [List.getElem_cons_zero]); (try simp only [Act.put]); (try simp only [List.setIfInBounds_toArray]); (try simp only [List.set_cons_succ]); (try simp only [List.set_cons_zero])
      refine wpAnyH_take (i := 16) (v := undef) rfl (by kernel_rfl) (by kernel_rfl) (by kernel_rfl) (fun _ _ _ h => h) (Or.inr ⟨by rfl, rfl⟩) (by assumption) ?_
      (try simp only [List.getElem_toArray]); (try simp only [List.getElem_cons_succ]); (try simp only [List.getElem_cons_zero]); (try simp only [Act.put]); (try simp only [List.setIfInBounds_toArray]); (try simp only [List.set_cons_succ]); (try simp only [List.set_cons_zero])
      refine wpAnyH_take (i := 17) (v := ?_) rfl (by kernel_rfl) (by kernel_rfl) (by kernel_rfl) (fun _ _ _ h => h) (Or.inl ⟨by rfl, ?_⟩) (by assumption) ?_
      rotate_left
      · intro w hSw
        try dsimp only at hSw
        go_simp
        try with_reducible rfl
      (try simp only [List.getElem_toArray]); (try simp only [List.getElem_cons_succ]); (try simp only [List.getElem_cons_zero]); (try simp only [Act.put]); (try simp only [List.setIfInBounds_toArray]); (try simp only [List.set_cons_succ]); (try simp only [List.set_cons_zero])
      refine wpAnyH_ready (rs := [18]) (by kernel_rfl) (by simp) ?_
      refine AllReadyH.cons rfl (fun K hK => ?_) AllReadyH.nil
      go_simp
      refine (demand_no _ _).mono ?_
      rintro e4 W4 ⟨rfl, rfl⟩
      exact ⟨rfl, rfl, Kp.of (H2.out.1.trans ((Below.refl _ W2).drew.mono H2.out.1.size))⟩
end Go.Proofs.YtgfbednfiejlfaaGreatDoor.Rd

/-
  A list or a record begins (what holds in memory).
-/
namespace Go.Proofs.YtgfbednfiejlfaaGreatDoor.Rd
open Go.RowKit Go.Proofs.YtgfbednfiejlfaaGreatDoor.Oct Go.Proofs.YtgfbednfiejlfaaGreatDoor.Val

/-- One that has just begun. -/
abbrev fresh0 (k : Int) : Fr := ⟨k, [], []⟩
abbrev new5 (k : Int) : E5 := (.int .i64 k, .int .i64 0, .string ⟨#[]⟩, .slice none 0 0, .slice none 0 0)

theorem push_done {N : Nat} {tag : Nat → Nat} {w W wB Z : World} {R : Nat} {s : List UInt8} {fs : List Fr} {k : Int} (hk : k = 5 ∨ k = 6) {deep : Nat} {ov : Value} {es : List E5} (hkw : Kp tag tag w W) (h : RdAt N tag W R s fs deep ov es) {o : Obj} {g cap : Nat}
    (hg : (W.alloc o).grownBy wB ov.ownBlock) (hat : ov.ownBlock = some g ∨ g = W.heap.size + 1) (hlt : g < wB.heap.size)
    (hZ1 : ∀ b, b ≠ g → b ≠ R → Z.heap[b]? = wB.heap[b]?) (hZs : SameF Z wB)
    (hZg : Z.ownsRow N 26 5 (.slice (some ⟨g, 0, none⟩) (fs.length + 1) cap) (fs.length + 1) (flat (es ++ [new5 k])))
    (hZR : Rd R (S s) (.slice (some ⟨g, 0, none⟩) (fs.length + 1) cap) (.int .i64 deep) Z) :
    ∃ tag', RdAt N tag' Z R s (fs ++ [fresh0 k]) deep (.slice (some ⟨g, 0, none⟩) (fs.length + 1) cap) (es ++ [new5 k]) ∧ Kp tag tag' w Z := by
  have hsz : W.heap.size + 1 ≤ wB.heap.size := by have := hg.size; simp at this; exact this
  have hgm : W.heap.size ≤ g ∨ tag g = 3 := by
    rcases hat with h1 | h1
    · exact .inr (h.omark _ h1)
    · exact .inl (by omega)
  have hgN : N ≤ g := by
    rcases hat with h1 | h1
    · exact (own_lt h.own h1).1
    · have := h.size; omega
  have hne : ∀ b, b < W.heap.size → tag b ≠ 3 → b ≠ g := fun b hb ht e => by
    subst e
    rcases hgm with h1 | h1
    · omega
    · exact ht h1
  have hRg : R ≠ g := hne R h.rd.lt (by rw [h.rmark]; omega)
  have hW : ∀ b, b < W.heap.size → tag b ≠ 3 → tag b ≠ 2 → Z.heap[b]? = W.heap[b]? := fun b hb h3 h2 => by
    rw [hZ1 b (hne b hb h3) (fun e => h2 (by rw [e]; exact h.rmark)), hg.block b (by simp; omega) (fun e => h3 (h.omark b e.symm)), Go.heap_alloc_old _ _ hb]
  have hT : ∀ b, b < W.heap.size → tag b ≠ 3 → (if b = g then 3 else tag b) = tag b := fun b hb h3 => if_neg (hne b hb h3)
  have hs := hZs.1
  have hNR : N ≤ R := by
    rcases Nat.lt_or_ge R N with h1 | h1
    · have := h.out R (.inl h1); rw [h.rmark] at this; omega
    · exact h1
  refine ⟨fun b => if b = g then 3 else tag b, ⟨hZR, ?_, ?_, ?_, ?_, ?_, ?_, ?_⟩, ?_⟩
  · have e1 : (fs ++ [fresh0 k]).length = fs.length + 1 := by simp
    rw [e1]; exact hZg
  · simp [h.len]
  · intro i h1 h2
    rcases Nat.lt_or_ge i fs.length with hi | hi
    · have hie : i < es.length := by rw [h.len]; exact hi
      have e1 : (es ++ [new5 k])[i]'h1 = es[i] := List.getElem_append_left hie
      have e2 : (fs ++ [fresh0 k])[i]'h2 = fs[i] := List.getElem_append_left hi
      obtain ⟨L2, K2, ys2, hf2⟩ := h.frs i hie hi
      rw [e1, e2]
      exact ⟨L2, K2, ys2, hf2.frame fun b hb ht => ⟨hW b hb (by omega) (by omega), hT b hb (by omega)⟩⟩
    · have hie : i = fs.length := by simp at h2; omega
      have e1 : (es ++ [new5 k])[i]'h1 = new5 k := by
        rw [List.getElem_append_right (by rw [h.len]; omega)]; simp
      have e2 : (fs ++ [fresh0 k])[i]'h2 = fresh0 k := by
        rw [List.getElem_append_right hi]; simp
      rw [e1, e2]
      refine ⟨.slice none 0 0, .slice none 0 0, [], ⟨rfl, hk, ⟨rfl, .inl ⟨rfl, rfl⟩⟩, rfl, fun j j1 => absurd j1 (by simp), fun b hb => (by cases hb), ⟨rfl, .inl ⟨rfl, rfl⟩⟩, fun b hb => (by cases hb), fun t ht => (by cases ht)⟩⟩
  · show (if R = g then 3 else tag R) = 2
    rw [if_neg hRg]; exact h.rmark
  · intro b hb
    injection hb with hb
    have hb' : b = g := hb.symm
    show (if b = g then 3 else tag b) = 3
    rw [if_pos hb']
  · intro b hb
    have hbg : b ≠ g := by rintro rfl; omega
    show (if b = g then _ else _) = 1
    rw [if_neg hbg]
    exact h.out b (by omega)
  · have := h.size; omega
  · refine hkw.trans ⟨hZs.2.1.trans hg.os, hZs.2.2.1.trans hg.tape, hZs.2.2.2.trans hg.output, by omega, fun b hb ht => ⟨hW b hb (by omega) (by omega), hT b hb (by omega)⟩⟩

theorem RdAt.deeper {N : Nat} {tag : Nat → Nat} {w : World} {R : Nat} {s : List UInt8} {fs : List Fr} {deep : Nat} {ov : Value} {es : List E5} (h : RdAt N tag w R s fs deep ov es) (d : Nat) : RdAt N tag (w.setCell ⟨R, 2, none⟩ (.int .i64 d)) R s fs d ov es := by
  have hb : ∀ b, b ≠ R → (w.setCell ⟨R, 2, none⟩ (.int .i64 d)).heap[b]? = w.heap[b]? := fun b hb => heap_setCell_other _ _ _ _ (by simpa using hb)
  have hs : (w.setCell ⟨R, 2, none⟩ (.int .i64 d)).heap.size = w.heap.size := by simp [World.setCell]
  refine ⟨?_, own_at h.own fun k hk => hb k (fun e => by have := h.omark k hk; rw [e, h.rmark] at this; omega), h.len, fun i h1 h2 => ?_, h.rmark, h.omark, fun b hb => h.out b (by omega), by have := h.size; omega⟩
  · have e := heap_setCell_same w R 2 _ _ (.int .i64 (d : Int)) h.rd
    exact e
  · obtain ⟨L, K, ys, hf⟩ := h.frs i h1 h2
    exact ⟨L, K, ys, hf.frame fun b hl ht => ⟨hb b (fun e => by rw [e, h.rmark] at ht; omega), rfl⟩⟩
end Go.Proofs.YtgfbednfiejlfaaGreatDoor.Rd

/-
  Contract of the reader's begin.
-/
namespace Go.Proofs.YtgfbednfiejlfaaGreatDoor.Rd
open Go.RowKit Go.Proofs.YtgfbednfiejlfaaGreatDoor.Oct Go.Proofs.YtgfbednfiejlfaaGreatDoor.Val

theorem begin_facts {N : Nat} {tag : Nat → Nat} {W wB : World} {R : Nat} {s : List UInt8} {fs : List Fr} {deep : Nat} {ov : Value} {es : List E5} (h : RdAt N tag W R s fs deep ov es) {o : Obj} {g cap : Nat}
    (hown : wB.ownsRow N 26 5 (.slice (some ⟨g, 0, none⟩) (fs.length + 1) cap) (fs.length + 1) (flat es ++ cells5 zero5)) (hg : (W.alloc o).grownBy wB ov.ownBlock) (hat : ov.ownBlock = some g ∨ g = W.heap.size + 1) :
    (wB.cell? ⟨g, fs.length * 5, none⟩ = some (.int .i64 0) ∧ wB.cell? ⟨g, fs.length * 5 + 1, none⟩ = some (.int .i64 0) ∧ wB.cell? ⟨g, fs.length * 5 + 2, none⟩ = some (.string ⟨#[]⟩) ∧ wB.cell? ⟨g, fs.length * 5 + 3, none⟩ = some (.slice none 0 0) ∧ wB.cell? ⟨g, fs.length * 5 + 4, none⟩ = some (.slice none 0 0)) ∧
    (wB.frozen? ⟨g, fs.length * 5, none⟩ = false ∧ wB.frozen? ⟨g, fs.length * 5 + 1, none⟩ = false ∧ wB.frozen? ⟨g, fs.length * 5 + 2, none⟩ = false ∧ wB.frozen? ⟨g, fs.length * 5 + 3, none⟩ = false ∧ wB.frozen? ⟨g, fs.length * 5 + 4, none⟩ = false) ∧
    Rd R (S s) ov (.int .i64 deep) wB ∧ ¬ g = R ∧ ¬ R = g := by
  have hl : (flat es).length = fs.length * 5 := by rw [flat_len, h.len]
  have hc : ∀ i, i < 5 → wB.cell? ⟨g, fs.length * 5 + i, none⟩ = (cells5 zero5)[i]? := fun i hi => by
    rw [hown.cellAt (fs.length * 5 + i) (by omega), List.getElem?_append_right (by omega), hl]
    congr 1
    omega
  have hz : ∀ i, wB.frozen? ⟨g, i, none⟩ = false := fun i => hown.frozenAt i
  have hR := h.rd.lt
  have hne : g ≠ R := by
    rintro rfl
    rcases hat with h1 | h1
    · have := h.omark _ h1; rw [h.rmark] at this; omega
    · omega
  refine ⟨⟨hc 0 (by omega), hc 1 (by omega), hc 2 (by omega), hc 3 (by omega), hc 4 (by omega)⟩, ⟨hz _, hz _, hz _, hz _, hz _⟩, ?_, hne, Ne.symm hne⟩
  unfold Rd
  rw [hg.block R (by simp; omega) (fun e => by have := h.omark R e.symm; rw [h.rmark] at this; omega), Go.heap_alloc_old _ _ hR]
  exact h.rd

theorem begin_fin {N : Nat} {tag : Nat → Nat} {w W wB : World} {R : Nat} {s : List UInt8} {fs : List Fr} {k : Int} (hk : k = 5 ∨ k = 6) {deep : Nat} {ov : Value} {es : List E5} (hkw : Kp tag tag w W) (h : RdAt N tag W R s fs deep ov es) {o : Obj} {g cap : Nat}
    (hown : wB.ownsRow N 26 5 (.slice (some ⟨g, 0, none⟩) (fs.length + 1) cap) (fs.length + 1) (flat es ++ cells5 zero5)) (hg : (W.alloc o).grownBy wB ov.ownBlock) (hat : ov.ownBlock = some g ∨ g = W.heap.size + 1) (hlt : g < wB.heap.size)
    (Z : World) (hZ : Z = (((((wB.setCell ⟨g, fs.length * 5, none⟩ (.int .i64 k)).setCell ⟨g, fs.length * 5 + 1, none⟩ (.int .i64 0)).setCell ⟨g, fs.length * 5 + 2, none⟩ (.string ⟨#[]⟩)).setCell ⟨g, fs.length * 5 + 3, none⟩ (.slice none 0 0)).setCell ⟨g, fs.length * 5 + 4, none⟩ (.slice none 0 0)).setCell ⟨R, 1, none⟩ (.slice (some ⟨g, 0, none⟩) (fs.length + 1) cap) ∨
      Z = (((((wB.setCell ⟨R, 1, none⟩ (.slice (some ⟨g, 0, none⟩) (fs.length + 1) cap)).setCell ⟨g, fs.length * 5, none⟩ (.int .i64 k)).setCell ⟨g, fs.length * 5 + 1, none⟩ (.int .i64 0)).setCell ⟨g, fs.length * 5 + 2, none⟩ (.string ⟨#[]⟩)).setCell ⟨g, fs.length * 5 + 3, none⟩ (.slice none 0 0)).setCell ⟨g, fs.length * 5 + 4, none⟩ (.slice none 0 0)) :
    ∃ tag', RdAt N tag' Z R s (fs ++ [fresh0 k]) deep (.slice (some ⟨g, 0, none⟩) (fs.length + 1) cap) (es ++ [new5 k]) ∧ Kp tag tag' w Z := by
  obtain ⟨_, _, hR, hne, _⟩ := begin_facts h hown hg hat
  have hr : ∀ {X : World}, X.ownsRow N 26 5 (.slice (some ⟨g, 0, none⟩) (fs.length + 1) cap) (fs.length + 1) (flat es ++ cells5 zero5) → (at5 X g (fs.length * 5) (.int .i64 k) (.int .i64 0) (.string ⟨#[]⟩) (.slice none 0 0) (.slice none 0 0)).ownsRow N 26 5 (.slice (some ⟨g, 0, none⟩) (fs.length + 1) cap) (fs.length + 1) (flat (es ++ [new5 k])) := fun hX => last_row h.len hX _ _ _ _ _
  have so : ∀ (X : World) (v : Value) (b : Nat), b ≠ R → (X.setCell ⟨R, 1, none⟩ v).heap[b]? = X.heap[b]? := fun X v b h => heap_setCell_other X _ b v (by simpa using h)
  have hZ' : Z = (at5 wB g (fs.length * 5) (.int .i64 k) (.int .i64 0) (.string ⟨#[]⟩) (.slice none 0 0) (.slice none 0 0)).setCell ⟨R, 1, none⟩ (.slice (some ⟨g, 0, none⟩) (fs.length + 1) cap) ∨ Z = at5 (wB.setCell ⟨R, 1, none⟩ (.slice (some ⟨g, 0, none⟩) (fs.length + 1) cap)) g (fs.length * 5) (.int .i64 k) (.int .i64 0) (.string ⟨#[]⟩) (.slice none 0 0) (.slice none 0 0) := by
    unfold at5; exact hZ
  clear hZ
  rcases hZ' with rfl | rfl
  · refine push_done hk hkw h hg hat hlt (fun b h1 h2 => (so _ _ _ h2).trans (at5_other _ _ _ _ _ _ h1)) ((set_frame _ _ _).trans (at5_frame _ _ _ _ _ _ _ _)) (own_at (hr hown) fun k hk => so _ _ _ ?_) ?_
    · injection hk with hk
      have : k = g := hk.symm
      rw [this]; exact hne
    · refine Rd.set1 (ov := ov) ?_ _
      unfold Rd
      rw [at5_other _ _ _ _ _ _ (Ne.symm hne)]
      exact hR
  · refine push_done hk hkw h hg hat hlt (fun b h1 h2 => (at5_other _ _ _ _ _ _ h1).trans (so _ _ _ h2)) ((at5_frame _ _ _ _ _ _ _ _).trans (set_frame _ _ _)) (hr (own_at hown fun k hk => so _ _ _ ?_)) ?_
    · injection hk with hk
      have : k = g := hk.symm
      rw [this]; exact hne
    · unfold Rd
      rw [at5_other _ _ _ _ _ _ (Ne.symm hne)]
      exact hR.set1 _
end Go.Proofs.YtgfbednfiejlfaaGreatDoor.Rd

/-
  Contract of the reader's char.
-/
namespace Go.Proofs.YtgfbednfiejlfaaGreatDoor.Rd
open Go.RowKit Go.Proofs.YtgfbednfiejlfaaGreatDoor.Oct Go.Proofs.YtgfbednfiejlfaaGreatDoor.Utf Go.Proofs.YtgfbednfiejlfaaGreatDoor.Num
open Go.Lib (encodeRune)

theorem unit_lt {l t : List UInt8} {n : Nat} (h : unitP l = some (n, t)) : n < 65536 := by
  unfold unitP at h
  split at h
  · unfold takeP at h
    by_cases h4 : 4 ≤ (l.drop 2).length
    · rw [if_pos h4] at h
      simp only at h
      split at h
      · injection h with h
        injection h with h1 h2
        rw [← h1]
        unfold unhexL
        have hl : ((l.drop 2).take 4).length = 4 := by rw [List.length_take]; omega
        have := valL_lt ((l.drop 2).take 4)
        rw [hl] at this
        repeat' split
        all_goals simp
        omega
      · cases h
    · rw [if_neg h4] at h
      cases h
  · cases h

/-- What Encode tells of a number. -/
def encP (c : Int) (t : List UInt8) : Option (List UInt8 × List UInt8) := if charB c then some (encodeRune c, t) else none
/-- What char reads. -/
def charP (l : List UInt8) : Option (List UInt8 × List UInt8) :=
  if Lib.hasPrefix l [92, 117] then
    match unitP l with
    | none => none
    | some (c, t) =>
      if 55296 ≤ c ∧ c ≤ 56319 then
        match unitP t with
        | none => none
        | some (d, t2) => encP (65536 + ((c : Int) - 55296) * 1024 + d - 56320) t2
      else encP c t
  else takeP 1 l

theorem hasPrefix_S (s p : List UInt8) (w : World) : Calls Tryz.prog 59 #[.string (S s), .string (S p)] w fun e w' => e = .returned (.bool (Lib.hasPrefix s p)) ∧ w' = w := Tryz.strings_HasPrefix (S s) (S p) w

theorem char_plain (R : Nat) (l : List UInt8) (ov dv : Value) (w : World) (h : Rd R (S l) ov dv w) (hp : Lib.hasPrefix l [92, 117] = false) :
    Calls Tryz.prog 96 #[.pointer (some ⟨R, 0, none⟩)] w (Reads R ov dv w (asS (takeP 1 l))) := by
  have ht := take_c R 1 (S l) ov dv w h
  simp only at ht
  have c0 := h.cell0
  have hh := hasPrefix_S l [92, 117] w
  rw [hp] at hh
  clear h hp
  cases hk : takeP 1 l with
  | none =>
    rw [hk] at ht
    go_enter Tryz.func96, Tryz.ntmps96
    go_wp2_with (first
      | (go_at_call 59; refine hh.mono ?_; rintro e w1 ⟨rfl, rfl⟩)
      | (go_at_call 108; refine ht.mono ?_; rintro e w2 ⟨rfl, h3⟩))
    exact ⟨rfl, rfl, h3⟩
  | some q =>
    obtain ⟨a, t⟩ := q
    rw [hk] at ht
    go_enter Tryz.func96, Tryz.ntmps96
    go_wp2_with (first
      | (go_at_call 59; refine hh.mono ?_; rintro e w1 ⟨rfl, rfl⟩)
      | (go_at_call 108; refine ht.mono ?_; rintro e w2 ⟨rfl, h3, h4⟩))
    go_ret
    exact ⟨rfl, h3, h4⟩

/-- What Encode leaves. -/
theorem encode_all (c : Int) (w : World) : Calls Tryz.prog 110 #[.int .i64 c] w fun e w' => ∃ (s : List UInt8) (r : Bool), encP c = (fun t => if r then some (s, t) else none) ∧ e = .returned (.tuple #[.string (S s), .int .i64 (if r then 0 else 4)]) ∧ Below w.heap.size w w' := by
  cases h : charB c with
  | true => exact (encode_yes c w h).mono fun e w' ⟨h1, h2⟩ => ⟨_, true, by funext t; unfold encP; rw [h], h1, h2⟩
  | false => exact (encode_no c w h).mono fun e w' ⟨h1, h2⟩ => ⟨[], false, by funext t; unfold encP; rw [h]; rfl, h1, h2⟩

theorem within_is (n : Int) {b : Bool} (h : betweenB n 55296 56319 = b) (w : World) : Calls Tryz.prog 76 #[.int .i64 n, .int .i64 55296, .int .i64 56319] w fun e w' => e = .returned (.bool b) ∧ w' = w :=
  (Num.within_c n 55296 56319 w).mono fun _ _ ⟨h1, h2⟩ => ⟨by rw [h1, h], h2.symm⟩

theorem char_unit (R : Nat) (l : List UInt8) (ov dv : Value) (w : World) (h : Rd R (S l) ov dv w) (hp : Lib.hasPrefix l [92, 117] = true) :
    Calls Tryz.prog 96 #[.pointer (some ⟨R, 0, none⟩)] w (Reads R ov dv w (asS (charP l))) := by
  have ht := unit_c R (S l) ov dv w h
  simp only at ht
  have c0 := h.cell0
  have hh := hasPrefix_S l [92, 117] w
  rw [hp] at hh
  unfold charP
  rw [hp]
  simp only [if_true]
  clear h hp
  cases hk : unitP l with
  | none =>
    rw [hk] at ht
    go_enter Tryz.func96, Tryz.ntmps96
    go_wp2_with (first
      | (go_at_call 59; refine hh.mono ?_; rintro e w1 ⟨rfl, rfl⟩)
      | (go_at_call 109; refine ht.mono ?_; rintro e w2 ⟨rfl, h3⟩))
    exact ⟨rfl, rfl, h3⟩
  | some q =>
    obtain ⟨c, t⟩ := q
    have hclt := unit_lt hk
    rw [hk] at ht
    simp only
    clear hk
    by_cases hc : 55296 ≤ c ∧ c ≤ 56319
    · rw [if_pos hc]
      have hw : betweenB (c : Int) 55296 56319 = true := by unfold betweenB; simp; omega
      have hu := fun w1 (h1 : Rd R (S t) ov dv w1) => unit_c R _ ov dv w1 h1
      simp only at hu
      have hw := fun w => within_is (c : Int) hw w
      cases hk2 : unitP t with
      | none =>
        rw [hk2] at hu
        go_enter Tryz.func96, Tryz.ntmps96
        go_wp2_with (first
          | (go_at_call 59; refine hh.mono ?_; rintro e w1 ⟨rfl, rfl⟩)
          | (go_at_call 109; refine ht.mono ?_; rintro e w2 ⟨rfl, h1, h2⟩; have HX := Lib.hid (And.intro h1 h2); clear h1 h2)
          | (go_at_call 76; refine (hw _).mono ?_; rintro e w3 ⟨rfl, rfl⟩)
          | (go_at_call 109; refine (hu _ HX.out.1).mono ?_; rintro e w4 ⟨rfl, h3⟩))
        exact ⟨rfl, rfl, HX.out.2.trans h3⟩
      | some q =>
        obtain ⟨d, t2⟩ := q
        have hdlt := unit_lt hk2
        rw [hk2] at hu
        simp only
        clear hk2
        have he := fun w => encode_all (65536 + ((c : Int) - 55296) * 1024 + d - 56320) w
        generalize encP (65536 + ((c : Int) - 55296) * 1024 + d - 56320) = f at he ⊢
        obtain ⟨hc1, hc2⟩ := hc
        go_enter Tryz.func96, Tryz.ntmps96
        go_wp2_with (first
          | (go_at_call 59; refine hh.mono ?_; rintro e w1 ⟨rfl, rfl⟩)
          | (go_at_call 109; refine ht.mono ?_; rintro e w2 ⟨rfl, h1, h2⟩; have HX := Lib.hid (And.intro h1 h2); clear h1 h2)
          | (go_at_call 76; refine (hw _).mono ?_; rintro e w3 ⟨rfl, rfl⟩)
          | (go_at_call 109; refine (hu _ HX.out.1).mono ?_; rintro e w4 ⟨rfl, h3, h4⟩; have HY := Lib.hid (And.intro h3 h4); clear h3 h4))
        go_at_call 110
        refine (he _).mono ?_
        rintro e w5 ⟨a, r, rfl, rfl, h5⟩
        cases r with
        | true =>
          simp only [if_true]
          go_wp2_with (go_at_call 30; refine (demand_yes _ _).mono ?_; rintro e w6 ⟨rfl, rfl⟩)
          go_ret
          exact ⟨rfl, HY.out.1.keep h5, (HX.out.2.trans HY.out.2).trans (Save.of h5)⟩
        | false =>
          simp only [Bool.false_eq_true, if_false]
          go_wp2_with (go_at_call 30; refine (demand_no _ _).mono ?_; rintro e w6 ⟨rfl, rfl⟩)
          exact ⟨rfl, rfl, (HX.out.2.trans HY.out.2).trans (Save.of h5)⟩
    · rw [if_neg hc]
      have hw : betweenB (c : Int) 55296 56319 = false := by unfold betweenB; simp; omega
      have hw := fun w => within_is (c : Int) hw w
      have he := fun w => encode_all (c : Int) w
      generalize encP (c : Int) = f at he ⊢
      clear hc
      · go_enter Tryz.func96, Tryz.ntmps96
        go_wp2_with (first
          | (go_at_call 59; refine hh.mono ?_; rintro e w1 ⟨rfl, rfl⟩)
          | (go_at_call 109; refine ht.mono ?_; rintro e w2 ⟨rfl, h1, h2⟩; have HX := Lib.hid (And.intro h1 h2); clear h1 h2)
          | (go_at_call 76; refine (hw _).mono ?_; rintro e w3 ⟨rfl, rfl⟩))
        go_at_call 110
        refine (he _).mono ?_
        rintro e w5 ⟨a, r, rfl, rfl, h5⟩
        cases r with
        | true =>
          simp only [if_true]
          go_wp2_with (go_at_call 30; refine (demand_yes _ _).mono ?_; rintro e w6 ⟨rfl, rfl⟩)
          go_ret
          exact ⟨rfl, HX.out.1.keep h5, HX.out.2.trans (Save.of h5)⟩
        | false =>
          simp only [Bool.false_eq_true, if_false]
          go_wp2_with (go_at_call 30; refine (demand_no _ _).mono ?_; rintro e w6 ⟨rfl, rfl⟩)
          exact ⟨rfl, rfl, HX.out.2.trans (Save.of h5)⟩

theorem char_c (R : Nat) (l : List UInt8) (ov dv : Value) (w : World) (h : Rd R (S l) ov dv w) :
    Calls Tryz.prog 96 #[.pointer (some ⟨R, 0, none⟩)] w (Reads R ov dv w (asS (charP l))) := by
  cases hp : Lib.hasPrefix l [92, 117] with
  | true => exact char_unit R l ov dv w h hp
  | false =>
    unfold charP
    rw [hp]
    exact char_plain R l ov dv w h hp
end Go.Proofs.YtgfbednfiejlfaaGreatDoor.Rd

/-
  Contract of the reader's begin: the walk.
-/
namespace Go.Proofs.YtgfbednfiejlfaaGreatDoor.Rd
open Go.RowKit Go.Proofs.YtgfbednfiejlfaaGreatDoor.Oct Go.Proofs.YtgfbednfiejlfaaGreatDoor.Val

/-- What holds behind the first step of begin. -/
def BegunAt (N : Nat) (tag : Nat → Nat) (w : World) (R : Nat) (s : List UInt8) (fs : List Fr) (k : Int) (deep : Nat) (W : World) : Prop :=
  ∃ tag' g cap es', RdAt N tag' W R s (fs ++ [fresh0 k]) deep (.slice (some ⟨g, 0, none⟩) (fs.length + 1) cap) es' ∧ Kp tag tag' w W ∧ Bx W w.heap.size (.int .i64 0) (.int .i64 0) (.string ⟨#[]⟩) (.slice none 0 0) (.slice none 0 0) ∧ tag' w.heap.size = 1

theorem begun_of {N : Nat} {tag : Nat → Nat} {w A Z : World} {R : Nat} {s : List UInt8} {fs : List Fr} {k : Int} {deep g cap : Nat} {es' : List E5} (hb : Below w.heap.size w A) (ht : tag w.heap.size = 1)
    (hx : Bx A w.heap.size (.int .i64 0) (.int .i64 0) (.string ⟨#[]⟩) (.slice none 0 0) (.slice none 0 0))
    (h : ∃ tag', RdAt N tag' Z R s (fs ++ [fresh0 k]) deep (.slice (some ⟨g, 0, none⟩) (fs.length + 1) cap) es' ∧ Kp tag tag' A Z) : BegunAt N tag w R s fs k deep Z := by
  obtain ⟨tag', h1, h2⟩ := h
  obtain ⟨h3, h4⟩ := hx.kp h2 ht
  exact ⟨tag', g, cap, es', h1, (Kp.of hb).trans h2, h3, h4⟩

theorem ending_e (k : Int) (w : World) : Calls Tryz.prog 65 #[.int .i64 k] w fun e w' => e = .returned (.string (S (endL k))) ∧ w' = w := ending_c k w

/-- What begin leaves. -/
def BeginTo (N : Nat) (tag : Nat → Nat) (w : World) (R : Nat) (s : List UInt8) (fs : List Fr) (k : Int) (deep : Nat) (en : Ending) (w' : World) : Prop :=
  if Lib.hasPrefix s (endL k) then ∃ e tag' ov' es', en = .returned (.tuple #[agg5 e, .bool true]) ∧ RdAt N tag' w' R (s.drop 1) fs (max deep (fs.length + 1)) ov' es' ∧ Kp tag tag' w w' ∧ Holds (Dn N tag' w') w' (agg5 e) (fresh0 k).val
  else ∃ tag' ov' es', en = .returned (.tuple #[.agg #[.int .i64 0, .int .i64 0, .string ⟨#[]⟩, .slice none 0 0, .slice none 0 0], .bool false]) ∧ RdAt N tag' w' R s (fs ++ [fresh0 k]) (max deep (fs.length + 1)) ov' es' ∧ Kp tag tag' w w'

theorem begin_no {N : Nat} {tag tag' : Nat → Nat} {w D : World} {R : Nat} {s : List UInt8} {fs : List Fr} {k : Int} {deep : Nat} {ov : Value} {es : List E5} (hp : Lib.hasPrefix s (endL k) = false)
    (h : RdAt N tag' D R s (fs ++ [fresh0 k]) (max deep (fs.length + 1)) ov es) (hk : Kp tag tag' w D) (ht : tag' w.heap.size = 1) (Z : World) (hZ : Z = (st5 D w.heap.size (.int .i64 0) (.int .i64 0) (.string ⟨#[]⟩) (.slice none 0 0) (.slice none 0 0)).drew) :
    BeginTo N tag w R s fs k deep (.returned (.tuple #[.agg #[.int .i64 0, .int .i64 0, .string ⟨#[]⟩, .slice none 0 0, .slice none 0 0], .bool false])) Z := by
  have a1 := h.st5 ht (.int .i64 0) (.int .i64 0) (.string ⟨#[]⟩) (.slice none 0 0) (.slice none 0 0)
  have a2 := hk.own (st5_below (Below.refl _ D) (Nat.le_refl _) (.int .i64 0) (.int .i64 0) (.string ⟨#[]⟩) (.slice none 0 0) (.slice none 0 0))
  generalize st5 D w.heap.size (.int .i64 0) (.int .i64 0) (.string ⟨#[]⟩) (.slice none 0 0) (.slice none 0 0) = X at a1 a2 hZ
  subst hZ
  unfold BeginTo
  rw [hp]
  exact ⟨tag', _, _, rfl, a1.keep (Below.refl _ X).drew, a2.own (Below.refl _ X).drew⟩

theorem begin_yes {N : Nat} {tag tag' tag2 : Nat → Nat} {w D W6 : World} {R : Nat} {s : List UInt8} {fs : List Fr} {k : Int} {deep : Nat} {ov2 : Value} {es2 : List E5} (hp : Lib.hasPrefix s (endL k) = true) {v0 v1 v2 v3 v4 : Value}
    (hk : Kp tag tag' w D) (h : RdAt N tag2 W6 R (s.drop 1) fs (max deep (fs.length + 1)) ov2 es2) (hk2 : Kp tag' tag2 D.drew W6) (hh : Holds (Dn N tag2 W6) W6 (agg5 (v0, v1, v2, v3, v4)) (fresh0 k).val) (ht : tag2 w.heap.size = 1) (Z : World) (hZ : Z = st5 W6 w.heap.size v0 v1 v2 v3 v4) :
    BeginTo N tag w R s fs k deep (.returned (.tuple #[.agg #[v0, v1, v2, v3, v4], .bool true])) Z := by
  have a1 := h.st5 ht v0 v1 v2 v3 v4
  have a2 := ((hk.trans (Kp.of (Below.refl _ D).drew)).trans hk2).own (st5_below (Below.refl _ W6) (Nat.le_refl _) v0 v1 v2 v3 v4)
  have a3 := holds_dn (tag' := tag2) hh (fun b hb h0 => st5_other W6 v0 v1 v2 v3 v4 (fun e => by rw [e, ht] at h0; cases h0)) (fun _ _ h => h)
  rw [← hZ] at a1 a2 a3
  unfold BeginTo
  rw [hp]
  exact ⟨(v0, v1, v2, v3, v4), tag2, _, _, rfl, a1, a2, a3⟩

set_option maxHeartbeats 4000000 in
set_option maxRecDepth 100000 in
theorem begin_c (N : Nat) (tag : Nat → Nat) (w : World) (R : Nat) (s : List UInt8) (fs : List Fr) (k : Int) (hk : k = 5 ∨ k = 6) (deep : Nat) (ov : Value) (es : List E5) (h : RdAt N tag w R s fs deep ov es) (hm : fs.length + 1 ≤ 1099511627776) :
    Calls Tryz.prog 58 #[.pointer (some ⟨R, 0, none⟩), .int .i64 k] w (BeginTo N tag w R s fs k deep) := by
  obtain ⟨op, oc, hov⟩ := own_slice h.own
  obtain ⟨A, hA⟩ : ∃ A, A = w.alloc (.cells #[.int .i64 0, .int .i64 0, .string ⟨#[]⟩, .slice none 0 0, .slice none 0 0] 26) := ⟨_, rfl⟩
  have hbA : Below w.heap.size w A := by rw [hA]; exact (Below.refl _ w).alloc (Nat.le_refl _) _
  have hAs : A.heap.size = w.heap.size + 1 := by rw [hA]; simp
  have hxA : Bx A w.heap.size (.int .i64 0) (.int .i64 0) (.string ⟨#[]⟩) (.slice none 0 0) (.slice none 0 0) := by rw [hA]; exact Bx.new _ _ _ _ _ _
  have hd := (h.keep hbA).keep (Below.refl _ A).drew
  have c1 := (h.keep hbA).rd.cell1
  have z1 := (h.keep hbA).rd.frozen 1
  have hRA := hd.rd.lt
  rw [hov] at c1
  obtain ⟨i0, hi0, hz0, hz1, hz2⟩ := info_parts info_value
  have hmax : fs.length + 1 ≤ maxLen := by unfold maxLen; omega
  have hby : (fs.length + 1) * 80 ≤ 140737488355328 := by omega
  have hN := hd.size
  have hA0 : (0 : Int) ≤ (fs.length : Int) := by omega
  have hA1 : (fs.length : Int) < (fs.length : Int) + 1 := by omega
  have q2 : ¬ R = A.heap.size := by have : A.drew.heap.size = A.heap.size := rfl; omega
  have hRl : R < A.heap.size := hRA
  have HY := Lib.hid (And.intro hd (And.intro hov (And.intro hAs (And.intro hbA (And.intro hxA (h.out w.heap.size (.inr (Nat.le_refl _))))))))
  have hown0 := hd.own
  rw [hov] at hown0
  have HO := Lib.hid hown0
  have HA := Lib.hid hA
  clear hd h hbA hAs hxA hA hown0 hRA hov
  go_enter Tryz.func58, Tryz.ntmps58
  go_upto_region 1 with fail
  rw [← HA.out]
  go_cut [] (fun wx => Hid (BegunAt N tag w R s fs k deep wx))
  case first =>
    go_region_law (first
      | (refine step_append_lies _ rfl (.tmp 9) (.tmp 13) 23 rfl N 26 i0 _ 5 80 Tryz.underlying23 hi0 hz0 hz1 hz2 rfl (by omega) (.slice op fs.length oc) fs.length (flat es) (by simp [Act.eval, Act.put]) (HO.out.alloc _) ⟨A.heap.size, 0, none⟩ 1 1 [.int .i64 0, .int .i64 0, .string ⟨#[]⟩, .slice none 0 0, .slice none 0 0] (by simp [Act.eval, Act.put]) rfl (World.news_of_block (heap_alloc_new A.drew _)) (by intro u hu; simp at hu; rcases hu with rfl | rfl | rfl | rfl | rfl <;> rfl) (by omega) hmax hby (by simp at hN ⊢; omega) (A.heap.size + 1) (by simp) ?_; intro g cp wB hownB hgB hatB hltB; obtain ⟨⟨y0, y1, y2, y3, y4⟩, ⟨t0, t1, t2, t3, t4⟩, hRB, ne1, ne2⟩ := begin_facts HY.out.1 hownB (HY.out.2.1.symm ▸ hgB) (HY.out.2.1.symm ▸ hatB); have r1 := hRB.cell1; have r2 := hRB.frozen 1; rw [HY.out.2.1] at r1; have HZ := Lib.hid (And.intro hownB (And.intro hgB (And.intro hatB hltB))); clear hownB hgB hatB hltB hRB))
    all_goals
      clear y0 y1 y2 y3 y4 t0 t1 t2 t3 t4 r1 r2
      go_wp2_with fail
      have e1 := HY.out.1
      have e2 := HY.out.2
      have e3 := HZ.out
      have PF := fun Z hZ => begun_of e2.2.2.1 e2.2.2.2.2 e2.2.2.2.1 (begin_fin hk (Kp.of (Below.refl _ A).drew) e1 e3.1 (e2.1.symm ▸ e3.2.1) (e2.1.symm ▸ e3.2.2.1) e3.2.2.2 Z hZ)
      have PF1 := Lib.hid (PF _ (Or.inl rfl))
      have PF2 := Lib.hid (PF _ (Or.inr rfl))
      clear PF e1 e2 e3
      go_meet
      first | with_reducible exact PF1 | with_reducible exact PF2
  case rest =>
    obtain ⟨tag', g, cap, es', h1, h2, h3, h4⟩ := hcut.out
    have c1 := h1.rd.cell1
    have c2 := h1.rd.cell2
    have z2 := h1.rd.frozen 2
    have HX := Lib.hid (And.intro h1 (And.intro h2 (And.intro h3 h4)))
    clear h1 h2 h3 h4 hcut HY HO HA q2 hRl hN
    have hmx : max (deep : Int) ((fs.length : Int) + 1) = ((max deep (fs.length + 1) : Nat) : Int) := by omega
    have hD := ((HX.out.1.deeper (max deep (fs.length + 1))).keep (Below.refl _ _).drew)
    have hDk := (HX.out.2.1.trans (Kp.save HX.out.1.rmark (Save.setR (i := 2) wc (.int .i64 ((max deep (fs.length + 1) : Nat) : Int))))).trans (Kp.of (Below.refl _ _).drew)
    have hDb := (HX.out.2.2.1.save (Save.setR (i := 2) wc (.int .i64 ((max deep (fs.length + 1) : Nat) : Int))) (fun e => by have h1 := HX.out.2.2.2; rw [e, HX.out.1.rmark] at h1; omega)).keep (Below.refl _ _).drew
    obtain ⟨D, hDe⟩ : ∃ D, D = (wc.setCell ⟨R, 2, none⟩ (.int .i64 ((max deep (fs.length + 1) : Nat) : Int))).drew := ⟨_, rfl⟩
    rw [← hDe] at hD hDk hDb
    have HD := Lib.hid (And.intro hD (And.intro hDk (And.intro hDb HX.out.2.2.2)))
    have HDE := Lib.hid hDe
    have d0 : D.drew.cell? ⟨R, 0, none⟩ = some (.string (S s)) := (hD.keep (Below.refl _ _).drew).rd.cell0
    clear hD hDk hDb hDe
    go_wp2_with fail
    go_region
    rw [← HDE.out]
    clear c1 c2 z2 hmx
    obtain ⟨y0, y1, y2, y3, y4⟩ := HD.out.2.2.1.five
    obtain ⟨z0, z1', z2, z3, z4⟩ := HD.out.2.2.1.froz
    have hh := fun W => hasPrefix_S s (endL k) W
    cases hp : Lib.hasPrefix s (endL k) with
    | false =>
      rw [hp] at hh
      go_wp2_with fail
      go_region_held3 (fun w' => w'.cell? ⟨R, 0, none⟩ = some (.string (S s)))
        (first | with_reducible exact d0)
        (first
          | (go_at_call 65; refine (ending_e k _).mono ?_; rintro e4 W4 ⟨rfl, rfl⟩)
          | (go_at_call 59; refine (hh _).mono ?_; rintro e5 W5 ⟨rfl, rfl⟩))
      go_wp2_with fail
      refine bodyPost_ret (v := .tuple #[.agg #[.int .i64 0, .int .i64 0, .string ⟨#[]⟩, .slice none 0 0, .slice none 0 0], .bool false]) (by simp [results, Tryz.results58, go_sem, y0, y1, y2, y3, y4]) rfl ?_
      have fin := fun Z hZ => begin_no (tag := tag) (w := w) hp HD.out.1 HD.out.2.1 HD.out.2.2.2 Z hZ
      exact fin _ rfl
    | true =>
      rw [hp] at hh
      have he := end_c N tag' D.drew R s fs (fresh0 k) (max deep (fs.length + 1)) _ _ (HD.out.1.keep (Below.refl _ D).drew) (by simp) (by simp) hm
      unfold EndsTo at he
      simp only [hp, if_true] at he
      go_wp2_with fail
      go_region_held3 (fun w' => w'.cell? ⟨R, 0, none⟩ = some (.string (S s)))
        (first | with_reducible exact d0)
        (first
          | (go_at_call 65; refine (ending_e k _).mono ?_; rintro e4 W4 ⟨rfl, rfl⟩)
          | (go_at_call 59; refine (hh _).mono ?_; rintro e5 W5 ⟨rfl, rfl⟩))
      go_wp2_with (first
        | (go_at_call 46; refine he.mono ?_; rintro e6 W6 ⟨⟨v0, v1, v2, v3, v4⟩, tag2, ov2, es2, rfl, f1, f2, f3⟩; obtain ⟨b1, b2⟩ := (HD.out.2.2.1.keep (Below.refl _ D).drew).kp f2 HD.out.2.2.2; obtain ⟨x0, x1, x2, x3, x4⟩ := b1.five; obtain ⟨t0, t1, t2, t3, t4⟩ := b1.froz; obtain ⟨k2, n2, s2, p2, a2, b3, q2, r2, d2, rfl, rfl, rfl, rfl, rfl⟩ := holds_parts f3; have H6 := Lib.hid (And.intro f1 (And.intro f2 (And.intro f3 b2))); clear f1 f2 f3 b1 b2))
      refine bodyPost_ret (v := .tuple #[.agg #[.int .i64 k2, .int .i64 n2, .string s2, .slice p2 a2 b3, .slice q2 r2 d2], .bool true]) (by simp [results, Tryz.results58, go_sem, x0, x1, x2, x3, x4]) rfl ?_
      have fin := fun Z hZ => begin_yes (tag := tag) (w := w) hp HD.out.2.1 H6.out.1 H6.out.2.1 H6.out.2.2.1 H6.out.2.2.2 Z hZ
      exact fin _ rfl
end Go.Proofs.YtgfbednfiejlfaaGreatDoor.Rd

/-
  Contracts of strings.Builder's copyCheck and WriteString over this translation: a builder in a block of its own takes a text; every block that is neither its own nor a row of octets stays as it was.
-/
namespace Go.Proofs.YtgfbednfiejlfaaGreatDoor.Build
open Go.RowKit Go.Proofs.YtgfbednfiejlfaaGreatDoor.Oct

theorem size_b : (Tryz.prog.info? 61).map (·.size) = some 2 := by kernel_rfl
theorem lies_b : liesAt Tryz.prog Tryz.prog.depth 61 (2 / Tryz.prog.cellsOf 61) 0 61 1 = true := by kernel_rfl
theorem info_o : (Tryz.prog.info? 5).map (fun i => (i.zero, i.size, i.bytes)) = some (some (.int .u8 0), 1, 1) := by kernel_rfl

set_option maxHeartbeats 2000000 in
set_option maxRecDepth 100000 in
theorem check_used (b : Nat) (w : World) (h0 : w.cell? ⟨b, 0, none⟩ = some (.pointer (some ⟨b, 0, none⟩))) :
    Calls Tryz.prog 51 #[.pointer (some ⟨b, 0, none⟩)] w fun e w' => e = .returned (.tuple #[]) ∧ w' = w := by
  obtain ⟨j, hj, _⟩ := Option.map_eq_some_iff.1 size_b
  have he := Lib.run_neq_ptr_same w ⟨b, 0, none⟩ Tryz.underlying58 hj
  go_enter Tryz.func51, Tryz.ntmps51
  go_wp2
  go_end0
  exact ⟨rfl, rfl⟩

set_option maxHeartbeats 2000000 in
set_option maxRecDepth 100000 in
theorem check_fresh (b : Nat) (w : World) (h0 : w.cell? ⟨b, 0, none⟩ = some (.pointer none)) (hsh : w.shape? b = some (61, 2)) (hfz : w.frozen? ⟨b, 0, none⟩ = false) :
    Calls Tryz.prog 51 #[.pointer (some ⟨b, 0, none⟩)] w fun e w' => e = .returned (.tuple #[]) ∧ w' = w.setCell ⟨b, 0, none⟩ (.pointer (some ⟨b, 0, none⟩)) := by
  obtain ⟨j, hj, hjs⟩ := Option.map_eq_some_iff.1 size_b
  go_enter Tryz.func51, Tryz.ntmps51
  go_wp2
  rw [Lib.run_to_unsafe w ⟨b, 0, none⟩ Tryz.underlying58 Tryz.underlying92 hj (by rw [hjs]; decide) hsh (Nat.zero_lt_succ 1)]
  simp only [Result.andThen]
  rw [Oper.upon_value]
  go_wp2
  rw [run_callFunc_extern Tryz.func69 (by kernel_rfl) (by kernel_rfl) (by kernel_rfl) (e := Extern.AbiNoEscape.same) (by kernel_rfl)]
  rw [Lib.run_noEscape]
  simp only [Result.andThen]
  rw [Oper.upon_value]
  go_wp2
  rw [Lib.run_from_unsafe w ⟨b, 0, none⟩ Tryz.underlying92 Tryz.underlying58 hj hsh lies_b]
  simp only [Result.andThen]
  rw [Oper.upon_value]
  go_wp2
  go_end0
  exact ⟨rfl, rfl⟩

/-- A builder in block b, of the call's own from B on, that holds these octets. -/
abbrev Is (B b : Nat) (l : List Value) (w : World) : Prop := Lib.IsBuilder 61 5 B b l w
/-- Every block but b and but rows of octets. -/
abbrev Others (b : Nat) (w w' : World) : Prop := Lib.OthersKept 5 (some b) w w'

theorem check_c (B b : Nat) (l : List Value) (w : World) (h : Is B b l w) :
    Calls Tryz.prog 51 #[.pointer (some ⟨b, 0, none⟩)] w fun e w' => e = .returned (.tuple #[]) ∧ Lib.BuilderAt 61 5 B b (.pointer (some ⟨b, 0, none⟩)) l w' ∧ Below B w w' ∧ Others b w w' := by
  rcases h with h | h
  · refine (check_fresh b w h.cell0 h.shape h.frozen0).mono ?_
    rintro e w' ⟨rfl, rfl⟩
    exact ⟨rfl, h.used _, (Below.refl B w).setCell (p := ⟨b, 0, none⟩) h.1 _, (Lib.OthersKept.refl _ _ w).setCell ⟨b, 0, none⟩ rfl _⟩
  · refine (check_used b w h.cell0).mono ?_
    rintro e w' ⟨rfl, rfl⟩
    exact ⟨rfl, h, Below.refl B _, Lib.OthersKept.refl _ _ _⟩

set_option maxHeartbeats 2000000 in
set_option maxRecDepth 100000 in
theorem write_c (B b : Nat) (l : List Value) (s : ByteArray) (w : World) (h : Is B b l w) (hlen : l.length + s.size ≤ 140737488355328) (hBw : B ≤ w.heap.size) :
    Calls Tryz.prog 34 #[.pointer (some ⟨b, 0, none⟩), .string s] w fun e w' => e = .returned (.tuple #[.int .i64 s.size, .nilIface]) ∧ Is B b (l ++ Lib.strCells s) w' ∧ Below B w w' ∧ Others b w w' := by
  obtain ⟨i0, hi, hz0, hz1, hz2⟩ := info_parts info_o
  have e42 : ∀ args w, (callFunc 51 args).run Tryz.prog w = .ok (.enter 51 args) w := enters_of Tryz.func51 (by kernel_rfl) rfl
  go_enter Tryz.func34, Tryz.ntmps34
  go_wp2_with (go_at_fn 51; refine (check_c B b l _ h).mono ?_)
  rintro e w1 ⟨rfl, h1, hb1, hk1⟩
  obtain ⟨hB, v, hbk, hown, hne⟩ := h1
  have c0 : w1.cell? ⟨b, 0, none⟩ = some (.pointer (some ⟨b, 0, none⟩)) := by rw [Lib.cell_of_heap hbk]; rfl
  have c1 : w1.cell? ⟨b, 1, none⟩ = some v := by rw [Lib.cell_of_heap hbk]; rfl
  go_wp2_with (at_builtin; refine Lib.wpList_append_own_string _ rfl _ _ 59 9 rfl B 5 i0 Tryz.underlying59 Tryz.underlying9 hi hz0 hz1 hz2 _ _ _ rfl hown s rfl ?c3 ?c4 ?c5 ?_)
  case c3 => unfold maxLen; omega
  case c4 => omega
  case c5 => have := hb1.size; omega
  intro v' w2 hown' hgrow _
  have hlt : b < w1.heap.size := (Array.getElem?_eq_some_iff.1 hbk).1
  have hb2 : w2.heap[b]? = some (.cells #[.pointer (some ⟨b, 0, none⟩), v] 61 (0, 0)) := by
    rw [hgrow.block b hlt (fun e => hne e.symm)]
    exact hbk
  have d0 : w2.cell? ⟨b, 0, none⟩ = some (.pointer (some ⟨b, 0, none⟩)) := by rw [Lib.cell_of_heap hb2]; rfl
  have d1 : w2.cell? ⟨b, 1, none⟩ = some v := by rw [Lib.cell_of_heap hb2]; rfl
  have f1 : w2.frozen? ⟨b, 1, none⟩ = false := Lib.frozen_of_heap hb2 1
  obtain ⟨ao, n', cap, rfl⟩ : ∃ ao n' cap, v' = .slice ao n' cap := by
    rcases hown'.2 with ⟨hv, _⟩ | ⟨g, cap, cur, hv, _⟩
    · exact ⟨_, _, _, hv⟩
    · exact ⟨_, _, _, hv⟩
  have hrow : ∀ g, v.ownBlock = some g → ∃ c fz, w1.heap[g]? = some (.cells c 5 fz) := by
    intro g hg
    rcases hown.2 with ⟨hv, _⟩ | ⟨g', cap', cur, hv, _, hc, _⟩
    · rw [hv] at hg; cases hg
    · rw [hv] at hg; cases hg; exact ⟨_, _, hc⟩
  go_wp2
  go_ret2
  refine ⟨rfl, ?_, ?_, (hk1.grown hgrow hrow).setCell ⟨b, 1, none⟩ rfl _⟩
  · exact .inr (Lib.BuilderAt.put (T := 61) (e := 5) hB hb2 (bs' := l ++ Lib.strCells s) (by simpa [Lib.strCells_length] using hown') (by decide))
  · exact (hb1.grown hgrow (by have := hb1.size; omega) (fun k hk => (hown.lt k hk).1)).setCell (p := ⟨b, 1, none⟩) hB _
end Go.Proofs.YtgfbednfiejlfaaGreatDoor.Build
