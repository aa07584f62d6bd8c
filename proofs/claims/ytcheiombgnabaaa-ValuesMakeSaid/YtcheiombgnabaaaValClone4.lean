/-
  Contract of values.Clone: a value in memory of its own, which reads as the same tree.
-/
import Derived.Test.YtcheiombgnabaaaValClone3
namespace Go.Proofs.Ytcheiombgnabaaa.Val
open Go.RowKit Go.Proofs.Ytcheiombgnabaaa.Oct

/-- The world in which Clone begins: the box of what it is handed, the box of what it tells. -/
abbrev cloneStart (W : World) (u0 u1 u2 u3 u4 : Value) : World :=
  (W.alloc (.cells #[u0, u1, u2, u3, u4] 25)).alloc (.cells #[.int .i64 0, .int .i64 0, .string ⟨#[]⟩, .slice none 0 0, .slice none 0 0] 25)

theorem clone_blocks {W X : World} {u0 u1 u2 u3 u4 : Value} (h : Below (cloneStart W u0 u1 u2 u3 u4).heap.size (cloneStart W u0 u1 u2 u3 u4) X) :
    X.heap[W.heap.size]? = some (.cells #[u0, u1, u2, u3, u4] 25 (0, 0)) ∧
    X.heap[W.heap.size + 1]? = some (.cells #[.int .i64 0, .int .i64 0, .string ⟨#[]⟩, .slice none 0 0, .slice none 0 0] 25 (0, 0)) ∧
    Below W.heap.size W X ∧ W.heap.size + 2 ≤ X.heap.size := by
  have z : (cloneStart W u0 u1 u2 u3 u4).heap.size = W.heap.size + 2 := by simp
  refine ⟨?_, ?_, ?_, by have := h.size; omega⟩
  · rw [h.block _ (by omega), Go.heap_alloc_old _ _ (by simp), heap_alloc_new]
  · rw [h.block _ (by omega)]
    have := heap_alloc_new (W.alloc (.cells #[u0, u1, u2, u3, u4] 25)) (.cells #[.int .i64 0, .int .i64 0, .string ⟨#[]⟩, .slice none 0 0, .slice none 0 0] 25)
    rw [World.size_alloc] at this
    exact this
  · exact (((Below.refl _ W).alloc (Nat.le_refl _) _).alloc (by simp) _).trans (h.mono (by omega))

theorem five' {X : World} {B : Nat} {u0 u1 u2 u3 u4 : Value} {t : TypeId} (h : X.heap[B]? = some (.cells #[u0, u1, u2, u3, u4] t (0, 0))) :
    X.cell? ⟨B, 0, none⟩ = some u0 ∧ X.cell? ⟨B, 1, none⟩ = some u1 ∧ X.cell? ⟨B, 2, none⟩ = some u2 ∧ X.cell? ⟨B, 3, none⟩ = some u3 ∧ X.cell? ⟨B, 4, none⟩ = some u4 :=
  ⟨cell_of_row X B 0 _ _ _ h, cell_of_row X B 1 _ _ _ h, cell_of_row X B 2 _ _ _ h, cell_of_row X B 3 _ _ _ h, cell_of_row X B 4 _ _ _ h⟩

theorem keep5 {X : World} {B : Nat} {u0 u1 u2 u3 u4 v0 v1 v2 v3 v4 : Value}
    (h : X.cell? ⟨B, 0, none⟩ = some u0 ∧ X.cell? ⟨B, 1, none⟩ = some u1 ∧ X.cell? ⟨B, 2, none⟩ = some u2 ∧ X.cell? ⟨B, 3, none⟩ = some u3 ∧ X.cell? ⟨B, 4, none⟩ = some u4) :
    (((((X.setCell ⟨B + 1, 0, none⟩ v0).setCell ⟨B + 1, 1, none⟩ v1).setCell ⟨B + 1, 2, none⟩ v2).setCell ⟨B + 1, 3, none⟩ v3).setCell ⟨B + 1, 4, none⟩ v4).cell? ⟨B, 0, none⟩ = some u0 ∧
    (((((X.setCell ⟨B + 1, 0, none⟩ v0).setCell ⟨B + 1, 1, none⟩ v1).setCell ⟨B + 1, 2, none⟩ v2).setCell ⟨B + 1, 3, none⟩ v3).setCell ⟨B + 1, 4, none⟩ v4).cell? ⟨B, 1, none⟩ = some u1 ∧
    (((((X.setCell ⟨B + 1, 0, none⟩ v0).setCell ⟨B + 1, 1, none⟩ v1).setCell ⟨B + 1, 2, none⟩ v2).setCell ⟨B + 1, 3, none⟩ v3).setCell ⟨B + 1, 4, none⟩ v4).cell? ⟨B, 2, none⟩ = some u2 ∧
    (((((X.setCell ⟨B + 1, 0, none⟩ v0).setCell ⟨B + 1, 1, none⟩ v1).setCell ⟨B + 1, 2, none⟩ v2).setCell ⟨B + 1, 3, none⟩ v3).setCell ⟨B + 1, 4, none⟩ v4).cell? ⟨B, 3, none⟩ = some u3 ∧
    (((((X.setCell ⟨B + 1, 0, none⟩ v0).setCell ⟨B + 1, 1, none⟩ v1).setCell ⟨B + 1, 2, none⟩ v2).setCell ⟨B + 1, 3, none⟩ v3).setCell ⟨B + 1, 4, none⟩ v4).cell? ⟨B, 4, none⟩ = some u4 := by
  have hh : (((((X.setCell ⟨B + 1, 0, none⟩ v0).setCell ⟨B + 1, 1, none⟩ v1).setCell ⟨B + 1, 2, none⟩ v2).setCell ⟨B + 1, 3, none⟩ v3).setCell ⟨B + 1, 4, none⟩ v4).heap[B]? = X.heap[B]? := by
    rw [heap_setCell_other _ _ _ _ (by simp), heap_setCell_other _ _ _ _ (by simp), heap_setCell_other _ _ _ _ (by simp), heap_setCell_other _ _ _ _ (by simp), heap_setCell_other _ _ _ _ (by simp)]
  have hc : ∀ j, (((((X.setCell ⟨B + 1, 0, none⟩ v0).setCell ⟨B + 1, 1, none⟩ v1).setCell ⟨B + 1, 2, none⟩ v2).setCell ⟨B + 1, 3, none⟩ v3).setCell ⟨B + 1, 4, none⟩ v4).cell? ⟨B, j, none⟩ = X.cell? ⟨B, j, none⟩ := fun j => World.cell?_of_block hh
  rw [hc, hc, hc, hc, hc]
  exact h

theorem clone_end {W wA wB wC : World} {k n : Int} {s : ByteArray} {l : List V} {ks : List ByteArray} {L K : Value} {pB pC : Option Addr} {cB cC : Nat}
    (hr : -9223372036854775808 ≤ k ∧ k ≤ 9223372036854775807 ∧ -9223372036854775808 ≤ n ∧ n ≤ 9223372036854775807 ∧ s.size ≤ 140737488351232 ∧ l.length * 80 ≤ 140737488351232)
    (_h0 : Below (cloneStart W (.int .i64 k) (.int .i64 n) (.string s) L K).heap.size (cloneStart W (.int .i64 k) (.int .i64 n) (.string s) L K) (cloneStart W (.int .i64 k) (.int .i64 n) (.string s) L K).drew)
    (_hA : Below (cloneStart W (.int .i64 k) (.int .i64 n) (.string s) L K).drew.heap.size (cloneStart W (.int .i64 k) (.int .i64 n) (.string s) L K).drew wA)
    (BA : Below (cloneStart W (.int .i64 k) (.int .i64 n) (.string s) L K).heap.size (cloneStart W (.int .i64 k) (.int .i64 n) (.string s) L K) wA)
    (hV : Vals (Mine wA.heap.size wB) wB (.slice pB l.length cB) l) (hB : Below wA.heap.size wA wB)
    (_BB : Below (cloneStart W (.int .i64 k) (.int .i64 n) (.string s) L K).heap.size (cloneStart W (.int .i64 k) (.int .i64 n) (.string s) L K) wB)
    (hT : Texts (Mine wB.heap.size wC) wC (.slice pC ks.length cC) ks) (hC : Below wB.heap.size wB wC)
    (BC : Below (cloneStart W (.int .i64 k) (.int .i64 n) (.string s) L K).heap.size (cloneStart W (.int .i64 k) (.int .i64 n) (.string s) L K) wC) {v0 v1 v2 v3 v4 : Value} :
    Owned (.mk k n s l ks) W (.returned (.agg #[.int .i64 k, .int .i64 n, .string s, .slice pB l.length cB, .slice pC ks.length cC]))
      (((((wC.setCell ⟨W.heap.size + 1, 0, none⟩ v0).setCell ⟨W.heap.size + 1, 1, none⟩ v1).setCell ⟨W.heap.size + 1, 2, none⟩ v2).setCell ⟨W.heap.size + 1, 3, none⟩ v3).setCell ⟨W.heap.size + 1, 4, none⟩ v4) := by
  have zA := (clone_blocks BA).2.2.2
  have zB := hB.size
  have bC := (clone_blocks BC).2.2.1
  obtain ⟨Y, hY⟩ : ∃ Y, Y = (((((wC.setCell ⟨W.heap.size + 1, 0, none⟩ v0).setCell ⟨W.heap.size + 1, 1, none⟩ v1).setCell ⟨W.heap.size + 1, 2, none⟩ v2).setCell ⟨W.heap.size + 1, 3, none⟩ v3).setCell ⟨W.heap.size + 1, 4, none⟩ v4) := ⟨_, rfl⟩
  have oth : ∀ b, b ≠ W.heap.size + 1 → Y.heap[b]? = wC.heap[b]? := fun b hne => by
    rw [hY, heap_setCell_other _ _ _ _ (by simpa using hne), heap_setCell_other _ _ _ _ (by simpa using hne), heap_setCell_other _ _ _ _ (by simpa using hne), heap_setCell_other _ _ _ _ (by simpa using hne), heap_setCell_other _ _ _ _ (by simpa using hne)]
  have bel : Below W.heap.size W Y := by
    rw [hY]
    exact ((((bC.setCell (p := ⟨W.heap.size + 1, 0, none⟩) (by simp) _).setCell (p := ⟨W.heap.size + 1, 1, none⟩) (by simp) _).setCell (p := ⟨W.heap.size + 1, 2, none⟩) (by simp) _).setCell (p := ⟨W.heap.size + 1, 3, none⟩) (by simp) _).setCell (p := ⟨W.heap.size + 1, 4, none⟩) (by simp) _
  rw [← hY]
  have fV : ∀ t b off n, Mine wA.heap.size wB t b off n → Y.heap[b]? = wB.heap[b]? := fun t b off n h => by
    rw [oth b (by have := h.1; omega), hC.block b h.lt]
  have fT : ∀ t b off n, Mine wB.heap.size wC t b off n → Y.heap[b]? = wC.heap[b]? := fun t b off n h => oth b (by have := h.1; omega)
  have hV' := hV.frame (C' := Mine W.heap.size Y) (w' := Y) fV (fun t b off n h => by
    have e := fV t b off n h
    obtain ⟨h1, h2, cur, h3⟩ := h
    exact ⟨by omega, h2, cur, by rw [e]; exact h3⟩)
  have hT' := hT.frame (C' := Mine W.heap.size Y) (w' := Y) fT (fun t b off n h => by
    have e := fT t b off n h
    obtain ⟨h1, h2, cur, h3⟩ := h
    exact ⟨by omega, h2, cur, by rw [e]; exact h3⟩)
  obtain ⟨p', cap', b', off', c', e', hp', hc', hl'⟩ := hV'
  simp only [Value.slice.injEq, true_and] at e'
  obtain ⟨rfl, rfl⟩ := e'
  exact ⟨_, rfl, .mk k n s pB cB _ l ks b' off' c' hr hp' hc' hT' hl', bel⟩

set_option maxHeartbeats 4000000 in
set_option maxRecDepth 100000 in
theorem clone_go (N : Nat) (w : World) {a : Value} {x : V} (ha : Holds (Old N) w a x) : ∀ (W : World), N ≤ W.heap.size → Below N w W →
    Calls Try.prog 7 #[a] W (Owned x W) := by
  induction ha with
  | mk k n s p cap K l ks bl off c hr hp hc hK hl ih =>
    intro W hN hW
    obtain ⟨q, qc, qb, qo, rfl, hq1, hq2, hq3⟩ := hK
    have hs : s.size ≤ 140737488351232 := hr.2.2.2.2.1
    -- the calls, in whatever world behind the start
    have hcV : ∀ X, Below (cloneStart W (.int .i64 k) (.int .i64 n) (.string s) (.slice p l.length cap) (.slice q ks.length qc)).heap.size (cloneStart W (.int .i64 k) (.int .i64 n) (.string s) (.slice p l.length cap) (.slice q ks.length qc)) X →
        Calls Try.prog 24 #[.slice p l.length cap, .func (.func 7) #[] #[]] X fun e w' => ∃ v, e = .returned v ∧ Vals (Mine X.heap.size w') w' v l ∧ Below X.heap.size X w' := fun X hX => by
      have hb := clone_blocks hX
      have hz : N ≤ X.heap.size := by omega
      have hwX : Below N w X := hW.trans (hb.2.2.1.mono hN)
      refine clonedVals_c l p cap bl off c X (C := Old N) (fun i h => (hl i h).kept hwX) hr.2.2.2.2.2 (fun h => ⟨(hp h).1, Nat.lt_of_lt_of_le (hp h).2 hz⟩) (fun i j hi hj => ?_) (fun i h Y hY => ih i h Y (by have := hY.size; omega) (hwX.trans (hY.mono hz)))
      rw [hwX.cell (p := ⟨bl, off + (i * 5 + j), none⟩) (show bl < N from (hp (by omega)).2)]
      exact hc i j hi hj
    have hcT : ∀ X, Below (cloneStart W (.int .i64 k) (.int .i64 n) (.string s) (.slice p l.length cap) (.slice q ks.length qc)).heap.size (cloneStart W (.int .i64 k) (.int .i64 n) (.string s) (.slice p l.length cap) (.slice q ks.length qc)) X →
        Calls Try.prog 25 #[.slice q ks.length qc, .func (.func 23) #[] #[]] X fun e w' => ∃ v, e = .returned v ∧ Texts (Mine X.heap.size w') w' v ks ∧ Below X.heap.size X w' := fun X hX => by
      have hb := clone_blocks hX
      have hz : N ≤ X.heap.size := by omega
      have hwX : Below N w X := hW.trans (hb.2.2.1.mono hN)
      refine clonedTexts_c ks q qc qb qo X hq1 (fun h => ⟨(hq2 h).1, Nat.lt_of_lt_of_le (hq2 h).2 hz⟩) (fun i hi => ?_)
      rw [hwX.cell (p := ⟨qb, qo + i, none⟩) (show qb < N from (hq2 (by omega)).2)]
      exact hq3 i hi
    have HV := Lib.hid hcV
    have HT := Lib.hid hcT
    have HR := Lib.hid hr
    clear hcV hcT ih hl hc hp hq1 hq2 hq3 hW hN hr
    have B0 : Below (cloneStart W (.int .i64 k) (.int .i64 n) (.string s) (.slice p l.length cap) (.slice q ks.length qc)).heap.size (cloneStart W (.int .i64 k) (.int .i64 n) (.string s) (.slice p l.length cap) (.slice q ks.length qc)) (cloneStart W (.int .i64 k) (.int .i64 n) (.string s) (.slice p l.length cap) (.slice q ks.length qc)).drew := (Below.refl _ _).drew
    obtain ⟨o0, o1, o2, o3, o4⟩ := five' (clone_blocks B0).1
    have HB0 := Lib.hid B0
    clear B0
    go_enter Try.func7, Try.ntmps7
    go_wp2_with fail
    go_region_held3 (fun w' => w'.cell? ⟨W.heap.size, 0, none⟩ = some (.int .i64 k) ∧ w'.cell? ⟨W.heap.size, 1, none⟩ = some (.int .i64 n) ∧ w'.cell? ⟨W.heap.size, 2, none⟩ = some (.string s) ∧ w'.cell? ⟨W.heap.size, 3, none⟩ = some (.slice p l.length cap) ∧ w'.cell? ⟨W.heap.size, 4, none⟩ = some (.slice q ks.length qc))
      (first | with_reducible exact ⟨o0, o1, o2, o3, o4⟩ | with_reducible exact ⟨a0, a1, a2, a3, a4⟩ | with_reducible exact ⟨b0, b1, b2, b3, b4⟩ | with_reducible exact ⟨d0, d1, d2, d3, d4⟩ | with_reducible exact keep5 ⟨d0, d1, d2, d3, d4⟩)
      (first
        | (go_at_call 23; refine (sclone_c s _ hs).mono ?_; rintro e wA ⟨rfl, hA⟩; have BA := HB0.out.trans (hA.mono HB0.out.size); obtain ⟨a0, a1, a2, a3, a4⟩ := five' (clone_blocks BA).1; have HA := Lib.hid (And.intro hA BA); clear hA BA)
        | (go_at_call 24; refine (HV.out wA HA.out.2).mono ?_; rintro e wB ⟨vB, rfl, hVB, hB⟩; obtain ⟨pB, cB, rfl⟩ := hVB.form; have BB := HA.out.2.trans (hB.mono HA.out.2.size); obtain ⟨b0, b1, b2, b3, b4⟩ := five' (clone_blocks BB).1; have HB := Lib.hid (And.intro hVB (And.intro hB BB)); clear hVB hB BB)
        | (go_at_call 25; refine (HT.out wB HB.out.2.2).mono ?_; rintro e wC ⟨vC, rfl, hTC, hC⟩; obtain ⟨pC, cC, rfl⟩ := hTC.form; have BC := HB.out.2.2.trans (hC.mono HB.out.2.2.size); obtain ⟨d0, d1, d2, d3, d4⟩ := five' (clone_blocks BC).1; obtain ⟨g0, g1, g2, g3, g4⟩ := five' (clone_blocks BC).2.1; have f0 := frozen_of_row wC (W.heap.size + 1) 0 _ _ (clone_blocks BC).2.1; have f1 := frozen_of_row wC (W.heap.size + 1) 1 _ _ (clone_blocks BC).2.1; have f2 := frozen_of_row wC (W.heap.size + 1) 2 _ _ (clone_blocks BC).2.1; have f3 := frozen_of_row wC (W.heap.size + 1) 3 _ _ (clone_blocks BC).2.1; have f4 := frozen_of_row wC (W.heap.size + 1) 4 _ _ (clone_blocks BC).2.1; have HC := Lib.hid (And.intro hTC (And.intro hC BC)); clear hTC hC BC))
    clear o0 o1 o2 o3 o4 a0 a1 a2 a3 a4 b0 b1 b2 b3 b4 d0 d1 d2 d3 d4
    go_wp2_with fail
    refine bodyPost_ret (v := .agg #[.int .i64 k, .int .i64 n, .string s, .slice pB l.length cB, .slice pC ks.length cC]) (by simp [results, Try.results7, go_sem, g0, g1, g2, g3, g4]) rfl ?_
    exact clone_end HR.out HB0.out HA.out.1 HA.out.2 HB.out.1 HB.out.2.1 HB.out.2.2 HC.out.1 HC.out.2.1 HC.out.2.2

/-- A value in memory of its own. -/
theorem clone_c (w : World) {a : Value} {x : V} (h : Holds (Old w.heap.size) w a x) : Calls Try.prog 7 #[a] w (Owned x w) :=
  clone_go w.heap.size w h w (Nat.le_refl _) (Below.refl _ _)
end Go.Proofs.Ytcheiombgnabaaa.Val
