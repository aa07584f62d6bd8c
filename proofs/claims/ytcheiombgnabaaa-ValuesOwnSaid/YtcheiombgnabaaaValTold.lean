/-
  Contracts of values.Index and values.Field: what stands there, in memory of its own, and the error's number.
-/
import Derived.Test.YtcheiombgnabaaaValLaws
import Derived.Test.YtcheiombgnabaaaValClone4
import Derived.Test.YtcheiombgnabaaaNumSize
namespace Go.Proofs.Ytcheiombgnabaaa.Val
open Go.RowKit Go.Proofs.Ytcheiombgnabaaa.Oct Go.Proofs.Ytcheiombgnabaaa.Num

theorem hasPlace_c (k n : Int) (s : ByteArray) (p : Option Addr) (len cap : Nat) (q : Option Addr) (ql qc : Nat) (m : Int) (w : World) (hl : len ≤ 140737488351232) :
    Calls Try.prog 27 #[.agg #[.int .i64 k, .int .i64 n, .string s, .slice p len cap, .slice q ql qc], .int .i64 m] w fun e w' => e = .returned (.bool (decide (0 ≤ m ∧ m < (len : Int)))) ∧ Below w.heap.size w w' := by
  go_enter Try.func27, Try.ntmps27
  go_wp2_with (go_at_call 36; refine (within_c _ _ _ _).mono ?_; rintro e w1 ⟨rfl, rfl⟩)
  go_ret
  refine ⟨ret_bool ?_, (Below.refl _ w).alloc (Nat.le_refl _) _⟩
  unfold betweenB
  rw [Bool.eq_iff_iff]
  simp
  omega

/-- The end of Index and Field: what was told is laid into the second box. -/
theorem told_end {W X Y : World} {u0 u1 u2 u3 u4 w0 w1 w2 w3 w4 v0 v1 v2 v3 v4 : Value} {x : V} {r : Int} (hX : Below (cloneStart W u0 u1 u2 u3 u4).heap.size (cloneStart W u0 u1 u2 u3 u4) X) (hA : Holds (Mine X.heap.size Y) Y (.agg #[v0, v1, v2, v3, v4]) x) (hY : Below X.heap.size X Y) :
    OwnTold (x, r) W (.returned (.tuple #[.agg #[v0, v1, v2, v3, v4], .int .i64 r])) (((((Y.setCell ⟨W.heap.size + 1, 0, none⟩ w0).setCell ⟨W.heap.size + 1, 1, none⟩ w1).setCell ⟨W.heap.size + 1, 2, none⟩ w2).setCell ⟨W.heap.size + 1, 3, none⟩ w3).setCell ⟨W.heap.size + 1, 4, none⟩ w4) := by
  have b0 := clone_blocks hX
  obtain ⟨Z, hZ⟩ : ∃ Z, Z = (((((Y.setCell ⟨W.heap.size + 1, 0, none⟩ w0).setCell ⟨W.heap.size + 1, 1, none⟩ w1).setCell ⟨W.heap.size + 1, 2, none⟩ w2).setCell ⟨W.heap.size + 1, 3, none⟩ w3).setCell ⟨W.heap.size + 1, 4, none⟩ w4) := ⟨_, rfl⟩
  have oth : ∀ b, b ≠ W.heap.size + 1 → Z.heap[b]? = Y.heap[b]? := fun b hne => by
    rw [hZ, heap_setCell_other _ _ _ _ (by simpa using hne), heap_setCell_other _ _ _ _ (by simpa using hne), heap_setCell_other _ _ _ _ (by simpa using hne), heap_setCell_other _ _ _ _ (by simpa using hne), heap_setCell_other _ _ _ _ (by simpa using hne)]
  have bY : Below W.heap.size W Y := b0.2.2.1.trans (hY.mono (by omega))
  have bel : Below W.heap.size W Z := by
    rw [hZ]
    exact ((((bY.setCell (p := ⟨W.heap.size + 1, 0, none⟩) (by simp) _).setCell (p := ⟨W.heap.size + 1, 1, none⟩) (by simp) _).setCell (p := ⟨W.heap.size + 1, 2, none⟩) (by simp) _).setCell (p := ⟨W.heap.size + 1, 3, none⟩) (by simp) _).setCell (p := ⟨W.heap.size + 1, 4, none⟩) (by simp) _
  rw [← hZ]
  have fV : ∀ t b off n, Mine X.heap.size Y t b off n → Z.heap[b]? = Y.heap[b]? := fun t b off n h => oth b (by have := h.1; omega)
  refine ⟨_, rfl, hA.frame fV (fun t b off n h => ?_), bel⟩
  have e := fV t b off n h
  obtain ⟨h1, h2, cur, h3⟩ := h
  exact ⟨by omega, h2, cur, by rw [e]; exact h3⟩

set_option maxHeartbeats 4000000 in
set_option maxRecDepth 100000 in
theorem vindex_c (w : World) {a : Value} {x : V} (m : Int) (ha : Holds (Old w.heap.size) w a x) :
    Calls Try.prog 9 #[a, .int .i64 m] w (OwnTold (indexV x m) w) := by
  cases ha with
  | mk k n s p cap K l ks bl off c hr hp hc hK hl =>
    obtain ⟨q, qc, qb, qo, rfl, -, -, -⟩ := hK
    have hb0 : ∀ o1 o2, Below w.heap.size w ((w.alloc o1).alloc o2) := fun o1 o2 => ((Below.refl _ w).alloc (Nat.le_refl _) _).alloc (by simp) _
    have HB0 := Lib.hid hb0
    clear hb0
    by_cases hk : k = 5
    · subst hk
      have hcall := hasPlace_c 5 n s p l.length cap q ks.length qc m (cloneStart w (.int .i64 5) (.int .i64 n) (.string s) (.slice p l.length cap) (.slice q ks.length qc)) (by omega)
      by_cases hm : 0 ≤ m ∧ m < (l.length : Int)
      · rw [decide_eq_true hm] at hcall
        obtain ⟨hm0, hm1⟩ := hm
        obtain ⟨i, rfl⟩ := Int.eq_ofNat_of_zero_le hm0
        have hi : i < l.length := by omega
        obtain ⟨rfl, hbN⟩ := hp (by omega)
        have F : Hid (indexV (.mk 5 n s l ks) (i : Int) = (l[i], 0)) := by
          show _ = _
          simp [indexV, hi]
        obtain ⟨k2, n2, s2, p2, a2, b2, q2, c2, d2, f0, f1, f2, f3, f4⟩ := holds_parts (hl i hi)
        have hh := hl i hi
        rw [f0, f1, f2, f3, f4] at hh
        have key : Hid (∀ X, Below (cloneStart w (.int .i64 5) (.int .i64 n) (.string s) (.slice (some ⟨bl, off, none⟩) l.length cap) (.slice q ks.length qc)).heap.size (cloneStart w (.int .i64 5) (.int .i64 n) (.string s) (.slice (some ⟨bl, off, none⟩) l.length cap) (.slice q ks.length qc)) X →
            (X.cell? ⟨bl, off + i * 5, none⟩ = some (.int .i64 k2) ∧ X.cell? ⟨bl, off + i * 5 + 1, none⟩ = some (.int .i64 n2) ∧ X.cell? ⟨bl, off + i * 5 + 2, none⟩ = some (.string s2) ∧ X.cell? ⟨bl, off + i * 5 + 3, none⟩ = some (.slice p2 a2 b2) ∧ X.cell? ⟨bl, off + i * 5 + 4, none⟩ = some (.slice q2 c2 d2)) ∧
            Calls Try.prog 7 #[.agg #[.int .i64 k2, .int .i64 n2, .string s2, .slice p2 a2 b2, .slice q2 c2 d2]] X (Owned l[i] X)) := fun X hX => by
          have hb := (clone_blocks hX).2.2.1
          have hcs : ∀ t, t < 5 → X.cell? ⟨bl, off + (i * 5 + t), none⟩ = some (c i t) := fun t ht => by rw [hb.cell (p := ⟨bl, off + (i * 5 + t), none⟩) (show bl < _ from hbN)]; exact hc i t hi ht
          exact ⟨⟨f0 ▸ hcs 0 (by omega), f1 ▸ hcs 1 (by omega), f2 ▸ hcs 2 (by omega), f3 ▸ hcs 3 (by omega), f4 ▸ hcs 4 (by omega)⟩, clone_c X ((hh.kept hb).older hb.size)⟩
        have h1 : (0 : Int) ≤ (i : Int) := by omega
        have h2 : (i : Int) < (l.length : Int) := by omega
        clear hp hc hl hh f0 f1 f2 f3 f4
        go_enter Try.func9, Try.ntmps9
        go_wp2_with (first
          | (go_at_call 27; refine hcall.mono ?_; rintro e X ⟨rfl, hX⟩; obtain ⟨⟨x0, x1, x2, x3, x4⟩, hcl⟩ := key.out X hX; obtain ⟨o0, o1, o2, o3, o4⟩ := five' (clone_blocks hX).1)
          | (go_at_call 7; refine hcl.mono ?_; rintro e Y ⟨v, rfl, hA, hY⟩; obtain ⟨k3, n3, s3, p3, a3, b3, q3, c3, d3, rfl⟩ := holds_agg hA; have g := (hY.block (w.heap.size + 1) (by have := (clone_blocks hX).2.2.2; omega)).trans (clone_blocks hX).2.1; obtain ⟨g0, g1, g2, g3, g4⟩ := five' g; have z0 := frozen_of_row Y (w.heap.size + 1) 0 _ _ g; have z1 := frozen_of_row Y (w.heap.size + 1) 1 _ _ g; have z2 := frozen_of_row Y (w.heap.size + 1) 2 _ _ g; have z3 := frozen_of_row Y (w.heap.size + 1) 3 _ _ g; have z4 := frozen_of_row Y (w.heap.size + 1) 4 _ _ g; have HA := Lib.hid (And.intro hX (And.intro hA hY)); clear hA hY g))
        refine bodyPost_ret (v := .tuple #[.agg #[.int .i64 k3, .int .i64 n3, .string s3, .slice p3 a3 b3, .slice q3 c3 d3], .int .i64 0]) (by simp [results, Try.results9, go_sem, g0, g1, g2, g3, g4]) rfl ?_
        rw [F.out]
        exact told_end HA.out.1 HA.out.2.1 HA.out.2.2
      · rw [decide_eq_false hm] at hcall
        have F : Hid (indexV (.mk 5 n s l ks) m = (zeroV, 15)) := by
          show _ = _
          simp only [indexV, ↓reduceIte, if_neg hm]
        clear hp hc hl hm
        go_enter Try.func9, Try.ntmps9
        go_wp2_with (go_at_call 27; refine hcall.mono ?_; rintro e X ⟨rfl, hX⟩; obtain ⟨g0, g1, g2, g3, g4⟩ := five' (clone_blocks hX).2.1; have z0 := frozen_of_row X (w.heap.size + 1) 0 _ _ (clone_blocks hX).2.1; have z1 := frozen_of_row X (w.heap.size + 1) 1 _ _ (clone_blocks hX).2.1; have z2 := frozen_of_row X (w.heap.size + 1) 2 _ _ (clone_blocks hX).2.1; have z3 := frozen_of_row X (w.heap.size + 1) 3 _ _ (clone_blocks hX).2.1; have z4 := frozen_of_row X (w.heap.size + 1) 4 _ _ (clone_blocks hX).2.1)
        refine bodyPost_ret (v := .tuple #[.agg #[.int .i64 0, .int .i64 0, .string ⟨#[]⟩, .slice none 0 0, .slice none 0 0], .int .i64 15]) (by simp [results, Try.results9, go_sem, g0, g1, g2, g3, g4]) rfl ?_
        rw [F.out]
        exact told_end hX (zero_holds _ _) (Below.refl _ _)
    · have F : Hid (indexV (.mk k n s l ks) m = (zeroV, 13)) := by
        show _ = _
        simp only [indexV, if_neg hk]
      have hkb : (k == 5) = false := by simpa using hk
      clear hp hc hl hk
      go_enter Try.func9, Try.ntmps9
      go_wp2_with fail
      refine bodyPost_ret (v := .tuple #[.agg #[.int .i64 0, .int .i64 0, .string ⟨#[]⟩, .slice none 0 0, .slice none 0 0], .int .i64 13]) (by simp [results, Try.results9, go_sem]) rfl ?_
      rw [F.out]
      exact ⟨_, rfl, zero_holds _ _, HB0.out _ _⟩
end Go.Proofs.Ytcheiombgnabaaa.Val
