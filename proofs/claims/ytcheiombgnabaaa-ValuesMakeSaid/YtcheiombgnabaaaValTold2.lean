/-
  Contract of values.Field: what stands in the place of a key, in memory of its own, and the error's number.
-/
import Derived.Test.YtcheiombgnabaaaValTold
namespace Go.Proofs.Ytcheiombgnabaaa.Val
open Go.RowKit Go.Proofs.Ytcheiombgnabaaa.Oct Go.Proofs.Ytcheiombgnabaaa.Num

theorem find_from (name : ByteArray) : ∀ (ks : List ByteArray) (l : List V) (i : Nat), (Lib.idxFromS ks name i = -1 ∧ findK name ks l = none) ∨ ∃ j : Nat, Lib.idxFromS ks name i = ((i + j : Nat) : Int) ∧ findK name ks l = l[j]?
  | [], l, i => .inl ⟨rfl, by cases l <;> rfl⟩
  | k :: ks, l, i => by
    by_cases h : k = name
    · refine .inr ⟨0, by simp [Lib.idxFromS, h], ?_⟩
      cases l with
      | nil => rfl
      | cons x l => simp [findK, h]
    · rcases find_from name ks l.tail (i + 1) with ⟨h1, h2⟩ | ⟨j, h1, h2⟩
      · refine .inl ⟨by simp [Lib.idxFromS, h, h1], ?_⟩
        cases l with
        | nil => rfl
        | cons x l => simp [findK, h]; exact h2
      · refine .inr ⟨j + 1, by simp [Lib.idxFromS, h, h1]; omega, ?_⟩
        cases l with
        | nil => rfl
        | cons x l => simp [findK, h]; exact h2

theorem find_at (name : ByteArray) (ks : List ByteArray) (l : List V) : (Lib.idxOfS ks name = -1 ∧ findK name ks l = none) ∨ ∃ j : Nat, Lib.idxOfS ks name = (j : Int) ∧ findK name ks l = l[j]? := by
  rcases find_from name ks l 0 with h | ⟨j, h1, h2⟩
  · exact .inl h
  · exact .inr ⟨j, by rw [Nat.zero_add] at h1; exact h1, h2⟩

theorem keyIndex_c (ks : List ByteArray) (q : Option Addr) (qc qb qo : Nat) (name : ByteArray) (w : World) (hq1 : ks.length * 16 ≤ 140737488351232)
    (hq2 : 0 < ks.length → q = some ⟨qb, qo, none⟩) (hq3 : ∀ i (h : i < ks.length), w.cell? ⟨qb, qo + i, none⟩ = some (.string ks[i])) :
    Calls Try.prog 26 #[.slice q ks.length qc, .string name] w fun e w' => e = .returned (.int .i64 (Lib.idxOfS ks name)) ∧ w' = w := by
  by_cases h0 : 0 < ks.length
  · rw [hq2 h0]
    have := Try.slices_Index_string qb qo ks.length qc ks name w (Nat.le_refl _) (by omega) (fun j hj => by rw [hq3 j hj]; simp [hj])
    rw [List.take_length] at this
    exact this
  · have hk : ks = [] := List.eq_nil_of_length_eq_zero (by omega)
    subst hk
    exact Try.slices_Index_string_empty q qc name w

set_option maxHeartbeats 4000000 in
set_option maxRecDepth 100000 in
theorem vfield_c (w : World) {a : Value} {x : V} (name : ByteArray) (ha : Holds (Old w.heap.size) w a x) :
    Calls Try.prog 8 #[a, .string name] w (OwnTold (fieldV x name) w) := by
  cases ha with
  | mk k n s p cap K l ks bl off c hr hp hc hK hl =>
    obtain ⟨q, qc, qb, qo, rfl, ⟨hq1, -⟩, hq2, hq3⟩ := hK
    have hb0 : ∀ o1 o2, Below w.heap.size w ((w.alloc o1).alloc o2) := fun o1 o2 => ((Below.refl _ w).alloc (Nat.le_refl _) _).alloc (by simp) _
    have HB0 := Lib.hid hb0
    clear hb0
    by_cases hk : k = 6
    · subst hk
      have hX0 : Below (cloneStart w (.int .i64 6) (.int .i64 n) (.string s) (.slice p l.length cap) (.slice q ks.length qc)).heap.size (cloneStart w (.int .i64 6) (.int .i64 n) (.string s) (.slice p l.length cap) (.slice q ks.length qc)) (cloneStart w (.int .i64 6) (.int .i64 n) (.string s) (.slice p l.length cap) (.slice q ks.length qc)) := Below.refl _ _
      have hkey := keyIndex_c ks q qc qb qo name (cloneStart w (.int .i64 6) (.int .i64 n) (.string s) (.slice p l.length cap) (.slice q ks.length qc)) hq1 (fun h => (hq2 h).1) (fun i h => by
        rw [((clone_blocks hX0).2.2.1).cell (p := ⟨qb, qo + i, none⟩) (show qb < _ from (hq2 (by omega)).2)]
        exact hq3 i h)
      obtain ⟨at0, hat0⟩ : ∃ z, Lib.idxOfS ks name = z := ⟨_, rfl⟩
      have hfa := find_at name ks l
      rw [hat0] at hkey hfa
      have hcall := hasPlace_c 6 n s p l.length cap q ks.length qc at0 (cloneStart w (.int .i64 6) (.int .i64 n) (.string s) (.slice p l.length cap) (.slice q ks.length qc)) (by omega)
      clear hat0 hq1 hq2 hq3 hX0
      by_cases hm : 0 ≤ at0 ∧ at0 < (l.length : Int)
      · rw [decide_eq_true hm] at hcall
        obtain ⟨hm0, hm1⟩ := hm
        obtain ⟨i, rfl⟩ := Int.eq_ofNat_of_zero_le hm0
        have hi : i < l.length := by omega
        obtain ⟨rfl, hbN⟩ := hp (by omega)
        have F : Hid (fieldV (.mk 6 n s l ks) name = (l[i], 0)) := by
          show _ = _
          rcases hfa with ⟨h1, _⟩ | ⟨j, h1, h2⟩
          · omega
          · have hj : j = i := by omega
            subst hj
            rw [List.getElem?_eq_getElem hi] at h2
            simp only [fieldV, ↓reduceIte, h2]
        obtain ⟨k2, n2, s2, p2, a2, b2, q2, c2, d2, f0, f1, f2, f3, f4⟩ := holds_parts (hl i hi)
        have hh := hl i hi
        rw [f0, f1, f2, f3, f4] at hh
        have key : Hid (∀ X, Below (cloneStart w (.int .i64 6) (.int .i64 n) (.string s) (.slice (some ⟨bl, off, none⟩) l.length cap) (.slice q ks.length qc)).heap.size (cloneStart w (.int .i64 6) (.int .i64 n) (.string s) (.slice (some ⟨bl, off, none⟩) l.length cap) (.slice q ks.length qc)) X →
            (X.cell? ⟨bl, off + i * 5, none⟩ = some (.int .i64 k2) ∧ X.cell? ⟨bl, off + i * 5 + 1, none⟩ = some (.int .i64 n2) ∧ X.cell? ⟨bl, off + i * 5 + 2, none⟩ = some (.string s2) ∧ X.cell? ⟨bl, off + i * 5 + 3, none⟩ = some (.slice p2 a2 b2) ∧ X.cell? ⟨bl, off + i * 5 + 4, none⟩ = some (.slice q2 c2 d2)) ∧
            Calls Try.prog 7 #[.agg #[.int .i64 k2, .int .i64 n2, .string s2, .slice p2 a2 b2, .slice q2 c2 d2]] X (Owned l[i] X)) := fun X hX => by
          have hb := (clone_blocks hX).2.2.1
          have hcs : ∀ t, t < 5 → X.cell? ⟨bl, off + (i * 5 + t), none⟩ = some (c i t) := fun t ht => by rw [hb.cell (p := ⟨bl, off + (i * 5 + t), none⟩) (show bl < _ from hbN)]; exact hc i t hi ht
          exact ⟨⟨f0 ▸ hcs 0 (by omega), f1 ▸ hcs 1 (by omega), f2 ▸ hcs 2 (by omega), f3 ▸ hcs 3 (by omega), f4 ▸ hcs 4 (by omega)⟩, clone_c X ((hh.kept hb).older hb.size)⟩
        have h1 : (0 : Int) ≤ (i : Int) := by omega
        have h2 : (i : Int) < (l.length : Int) := by omega
        clear hp hc hl hh f0 f1 f2 f3 f4 hfa
        go_enter Try.func8, Try.ntmps8
        go_wp2_with (first
          | (go_at_call 26; refine hkey.mono ?_; rintro e X0 ⟨rfl, rfl⟩)
          | (go_at_call 27; refine hcall.mono ?_; rintro e X ⟨rfl, hX⟩; obtain ⟨⟨x0, x1, x2, x3, x4⟩, hcl⟩ := key.out X hX; obtain ⟨o0, o1, o2, o3, o4⟩ := five' (clone_blocks hX).1)
          | (go_at_call 7; refine hcl.mono ?_; rintro e Y ⟨v, rfl, hA, hY⟩; obtain ⟨k3, n3, s3, p3, a3, b3, q3, c3, d3, rfl⟩ := holds_agg hA; have g := (hY.block (w.heap.size + 1) (by have := (clone_blocks hX).2.2.2; omega)).trans (clone_blocks hX).2.1; obtain ⟨g0, g1, g2, g3, g4⟩ := five' g; have z0 := frozen_of_row Y (w.heap.size + 1) 0 _ _ g; have z1 := frozen_of_row Y (w.heap.size + 1) 1 _ _ g; have z2 := frozen_of_row Y (w.heap.size + 1) 2 _ _ g; have z3 := frozen_of_row Y (w.heap.size + 1) 3 _ _ g; have z4 := frozen_of_row Y (w.heap.size + 1) 4 _ _ g; have HA := Lib.hid (And.intro hX (And.intro hA hY)); clear hA hY g))
        refine bodyPost_ret (v := .tuple #[.agg #[.int .i64 k3, .int .i64 n3, .string s3, .slice p3 a3 b3, .slice q3 c3 d3], .int .i64 0]) (by simp [results, Try.results8, go_sem, g0, g1, g2, g3, g4]) rfl ?_
        rw [F.out]
        exact told_end HA.out.1 HA.out.2.1 HA.out.2.2
      · rw [decide_eq_false hm] at hcall
        have F : Hid (fieldV (.mk 6 n s l ks) name = (zeroV, 14)) := by
          show _ = _
          have h3 : findK name ks l = none := by
            rcases hfa with ⟨_, h2⟩ | ⟨j, h1, h2⟩
            · exact h2
            · rw [h2]; exact List.getElem?_eq_none (by omega)
          simp only [fieldV, ↓reduceIte, h3]
        clear hp hc hl hm hfa
        go_enter Try.func8, Try.ntmps8
        go_wp2_with (first
          | (go_at_call 26; refine hkey.mono ?_; rintro e X0 ⟨rfl, rfl⟩)
          | (go_at_call 27; refine hcall.mono ?_; rintro e X ⟨rfl, hX⟩; obtain ⟨g0, g1, g2, g3, g4⟩ := five' (clone_blocks hX).2.1; have z0 := frozen_of_row X (w.heap.size + 1) 0 _ _ (clone_blocks hX).2.1; have z1 := frozen_of_row X (w.heap.size + 1) 1 _ _ (clone_blocks hX).2.1; have z2 := frozen_of_row X (w.heap.size + 1) 2 _ _ (clone_blocks hX).2.1; have z3 := frozen_of_row X (w.heap.size + 1) 3 _ _ (clone_blocks hX).2.1; have z4 := frozen_of_row X (w.heap.size + 1) 4 _ _ (clone_blocks hX).2.1))
        refine bodyPost_ret (v := .tuple #[.agg #[.int .i64 0, .int .i64 0, .string ⟨#[]⟩, .slice none 0 0, .slice none 0 0], .int .i64 14]) (by simp [results, Try.results8, go_sem, g0, g1, g2, g3, g4]) rfl ?_
        rw [F.out]
        exact told_end hX (zero_holds _ _) (Below.refl _ _)
    · have F : Hid (fieldV (.mk k n s l ks) name = (zeroV, 13)) := by
        show _ = _
        simp only [fieldV, if_neg hk]
      have hkb : (k == 6) = false := by simpa using hk
      clear hp hc hl hk hq2 hq3
      go_enter Try.func8, Try.ntmps8
      go_wp2_with fail
      refine bodyPost_ret (v := .tuple #[.agg #[.int .i64 0, .int .i64 0, .string ⟨#[]⟩, .slice none 0 0, .slice none 0 0], .int .i64 13]) (by simp [results, Try.results8, go_sem]) rfl ?_
      rw [F.out]
      exact ⟨_, rfl, zero_holds _ _, HB0.out _ _⟩
end Go.Proofs.Ytcheiombgnabaaa.Val
