/-
  Part 22: MksUsesF, MksUseAll, MksPrint, MksRead, MksMay.
-/
import Derived.Test.YtklpbkjplecdpaaGreatSxBaseP11
import Derived.Deep.RegionHeld3
import Derived.Deep.DrawnRows
import Derived.Test.YtklpbkjplecdpaaGreatSxBaseP19
import Derived.Test.YtklpbkjplecdpaaGreatSxBaseP20
import Derived.Test.YtklpbkjplecdpaaGreatSxBaseP21
import Derived.Laws.CopyOwn
import Derived.Deep.RegionLaw
/-
  Contract of marks.uses, class f of kinds: which fields a state uses.
-/
namespace Go.Proofs.YtklpbkjplecdpaaGreat.Mks
open Go.RowKit Oct Num Scn
attribute [local go_sem ↓] Go.wp_at_zero Go.wp_at_succ

set_option maxRecDepth 100000 in
set_option maxHeartbeats 4000000 in
theorem uses_f (k : Int) (h0 : k ≠ 0) (h17 : k ≠ 17) (E A : ByteArray) (d : UInt8) (P R : ByteArray) (n : Int) (W : ByteArray) (w : World) (b6 b16 : Bool)
    (U9 : Hid (Wth k 9 10 false)) (U18 : Hid (Wth k 18 19 true)) (U3 : Hid (Wth k 3 12 false)) (U17 : Hid (Wth k 17 19 true)) (U6 : Hid (Wth k 6 10 b6)) (U16 : Hid (Wth k 16 19 b16)) :
    Calls Tryz.prog 68 #[stV k E A d P R n W] w fun x w' => x = .returned (usesV true b6 (k == 9) b16 false true) ∧ Below w.heap.size w w' := by
  have e1 := enter_uses1
  have e0 : (k == 0) = false := by simpa using h0
  have e17 : (k == 17) = false := by simpa using h17
  go_enter Tryz.func68, Tryz.ntmps68
  go_wp2_with fail
  go_at_fn 99
  refine (U9.out _ _ (by simp)).mono ?_; rintro e w' ⟨rfl, rfl⟩
  go_wp2_with fail
  go_at_fn 99
  refine (U18.out _ _ (by simp)).mono ?_; rintro e w' ⟨rfl, rfl⟩
  go_wp2_with fail
  refine wp_region_held_drew (S := (fun w' => w'.cell? ⟨w.heap.size, 0, none⟩ = some (.int .i64 k))) (by kernel_rfl) (by simp) (fun hHeld => ?_)
  refine wpAnyH_take (i := 0) (v := ?_) rfl (by kernel_rfl) (by kernel_rfl) (by kernel_rfl) (fun _ _ _ h => h) (Or.inl ⟨by rfl, ?_⟩) (by assumption) ?_
  rotate_left
  · intro w hSw
    try dsimp only at hSw
    go_simp
    try with_reducible rfl
  (try simp only [List.getElem_toArray, List.getElem_cons_zero, Act.put, List.setIfInBounds_toArray, List.set_cons_succ, List.set_cons_zero]); (try simp only [e0, e17, Bool.false_or, Bool.or_false])
  refine wpAnyH_take (i := 6) (v := ?_) rfl (by kernel_rfl) (by kernel_rfl) (by kernel_rfl) (fun _ _ _ h => h) (Or.inl ⟨by rfl, ?_⟩) (by assumption) ?_
  rotate_left
  · intro w hSw
    try dsimp only at hSw
    go_simp
    try with_reducible rfl
  (try simp only [List.getElem_toArray, List.getElem_cons_succ, List.getElem_cons_zero, Act.put, List.setIfInBounds_toArray, List.set_cons_succ, List.set_cons_zero]); (try simp only [e0, e17, Bool.false_or, Bool.or_false])
  refine wpAnyH_take (i := 8) (v := ?_) rfl (by kernel_rfl) (by kernel_rfl) (by kernel_rfl) (fun _ _ _ h => h) (Or.inl ⟨by rfl, ?_⟩) (by assumption) ?_
  rotate_left
  · intro w hSw
    try dsimp only at hSw
    go_simp
    try with_reducible rfl
  (try simp only [List.getElem_toArray, List.getElem_cons_succ, List.getElem_cons_zero, Act.put, List.setIfInBounds_toArray, List.set_cons_succ, List.set_cons_zero]); (try simp only [e0, e17, Bool.false_or, Bool.or_false])
  refine wpAnyH_take (i := 9) (v := ?_) rfl (by kernel_rfl) (by kernel_rfl) (by kernel_rfl) (fun _ _ _ h => h) (Or.inl ⟨by rfl, ?_⟩) (by assumption) ?_
  rotate_left
  · intro w hSw
    try dsimp only at hSw
    go_simp
    try with_reducible rfl
  (try simp only [List.getElem_toArray, List.getElem_cons_succ, List.getElem_cons_zero, Act.put, List.setIfInBounds_toArray, List.set_cons_succ, List.set_cons_zero]); (try simp only [e0, e17, Bool.false_or, Bool.or_false])
  refine wpAnyH_take (i := 10) (v := ?_) rfl (by kernel_rfl) (by kernel_rfl) (by kernel_rfl) (fun _ _ _ h => h) (Or.inl ⟨by rfl, ?_⟩) (by assumption) ?_
  rotate_left
  · intro w hSw
    try dsimp only at hSw
    go_simp
    try with_reducible rfl
  (try simp only [List.getElem_toArray, List.getElem_cons_succ, List.getElem_cons_zero, Act.put, List.setIfInBounds_toArray, List.set_cons_succ, List.set_cons_zero]); (try simp only [e0, e17, Bool.false_or, Bool.or_false])
  refine wpAnyH_take (i := 11) (v := ?_) rfl (by kernel_rfl) (by kernel_rfl) (by kernel_rfl) (fun _ _ _ h => h) (Or.inl ⟨by rfl, ?_⟩) (by assumption) ?_
  rotate_left
  · intro w hSw
    try dsimp only at hSw
    go_simp
    try with_reducible rfl
  (try simp only [List.getElem_toArray, List.getElem_cons_succ, List.getElem_cons_zero, Act.put, List.setIfInBounds_toArray, List.set_cons_succ, List.set_cons_zero]); (try simp only [e0, e17, Bool.false_or, Bool.or_false])
  refine wpAnyH_take (i := 13) (v := ?_) rfl (by kernel_rfl) (by kernel_rfl) (by kernel_rfl) (fun _ _ _ h => h) (Or.inl ⟨by rfl, ?_⟩) (by assumption) ?_
  rotate_left
  · intro w hSw
    try dsimp only at hSw
    go_simp
    try with_reducible rfl
  (try simp only [List.getElem_toArray, List.getElem_cons_succ, List.getElem_cons_zero, Act.put, List.setIfInBounds_toArray, List.set_cons_succ, List.set_cons_zero]); (try simp only [e0, e17, Bool.false_or, Bool.or_false])
  refine wpAnyH_take (i := 14) (v := ?_) rfl (by kernel_rfl) (by kernel_rfl) (by kernel_rfl) (fun _ _ _ h => h) (Or.inl ⟨by rfl, ?_⟩) (by assumption) ?_
  rotate_left
  · intro w hSw
    try dsimp only at hSw
    go_simp
    try with_reducible rfl
  (try simp only [List.getElem_toArray, List.getElem_cons_succ, List.getElem_cons_zero, Act.put, List.setIfInBounds_toArray, List.set_cons_succ, List.set_cons_zero]); (try simp only [e0, e17, Bool.false_or, Bool.or_false])
  refine wpAnyH_take (i := 15) (v := ?_) rfl (by kernel_rfl) (by kernel_rfl) (by kernel_rfl) (fun _ _ _ h => h) (Or.inl ⟨by rfl, ?_⟩) (by assumption) ?_
  rotate_left
  · intro w hSw
    try dsimp only at hSw
    go_simp
    try with_reducible rfl
  (try simp only [List.getElem_toArray, List.getElem_cons_succ, List.getElem_cons_zero, Act.put, List.setIfInBounds_toArray, List.set_cons_succ, List.set_cons_zero]); (try simp only [e0, e17, Bool.false_or, Bool.or_false])
  refine wpAnyH_take (i := 24) (v := ?_) rfl (by kernel_rfl) (by kernel_rfl) (by kernel_rfl) (fun _ _ _ h => h) (Or.inl ⟨by rfl, ?_⟩) (by assumption) ?_
  rotate_left
  · intro w hSw
    try dsimp only at hSw
    go_simp
    try with_reducible rfl
  (try simp only [List.getElem_toArray, List.getElem_cons_succ, List.getElem_cons_zero, Act.put, List.setIfInBounds_toArray, List.set_cons_succ, List.set_cons_zero]); (try simp only [e0, e17, Bool.false_or, Bool.or_false])
  refine wpAnyH_take (i := 25) (v := ?_) rfl (by kernel_rfl) (by kernel_rfl) (by kernel_rfl) (fun _ _ _ h => h) (Or.inl ⟨by rfl, ?_⟩) (by assumption) ?_
  rotate_left
  · intro w hSw
    try dsimp only at hSw
    go_simp
    try with_reducible rfl
  (try simp only [List.getElem_toArray, List.getElem_cons_succ, List.getElem_cons_zero, Act.put, List.setIfInBounds_toArray, List.set_cons_succ, List.set_cons_zero]); (try simp only [e0, e17, Bool.false_or, Bool.or_false])
  refine wpAnyH_ready (rs := [1]) (by kernel_rfl) (by simp) ?_
  refine AllReadyH.cons rfl (fun K hK => ?_) AllReadyH.nil
  go_simp
  with_reducible refine (U3.out _ _ (by simp)).mono ?_; rintro e w' ⟨rfl, rfl⟩; (try go_wp2_with fail)
  refine hK.out _ _ (by first | exact hHeld | assumption) (fun hHeld => ?_)
  clear hK K
  (try simp only [List.getElem_toArray, List.getElem_cons_succ, List.getElem_cons_zero, Act.put, List.setIfInBounds_toArray, List.set_cons_succ, List.set_cons_zero]); (try simp only [e0, e17, Bool.false_or, Bool.or_false])
  refine wpAnyH_take (i := 2) (v := ?_) rfl (by kernel_rfl) (by kernel_rfl) (by kernel_rfl) (fun _ _ _ h => h) (Or.inl ⟨by rfl, ?_⟩) (by assumption) ?_
  rotate_left
  · intro w hSw
    try dsimp only at hSw
    go_simp
    try with_reducible rfl
  (try simp only [List.getElem_toArray, List.getElem_cons_succ, List.getElem_cons_zero, Act.put, List.setIfInBounds_toArray, List.set_cons_succ, List.set_cons_zero]); (try simp only [e0, e17, Bool.false_or, Bool.or_false])
  refine wpAnyH_take (i := 3) (v := ?_) rfl (by kernel_rfl) (by kernel_rfl) (by kernel_rfl) (fun _ _ _ h => h) (Or.inl ⟨by rfl, ?_⟩) (by assumption) ?_
  rotate_left
  · intro w hSw
    try dsimp only at hSw
    go_simp
    try with_reducible rfl
  (try simp only [List.getElem_toArray, List.getElem_cons_succ, List.getElem_cons_zero, Act.put, List.setIfInBounds_toArray, List.set_cons_succ, List.set_cons_zero]); (try simp only [e0, e17, Bool.false_or, Bool.or_false])
  refine wpAnyH_ready (rs := [4]) (by kernel_rfl) (by simp) ?_
  refine AllReadyH.cons rfl (fun K hK => ?_) AllReadyH.nil
  go_simp
  with_reducible refine (U17.out _ _ (by simp)).mono ?_; rintro e w' ⟨rfl, rfl⟩; (try go_wp2_with fail)
  refine hK.out _ _ (by first | exact hHeld | assumption) (fun hHeld => ?_)
  clear hK K
  (try simp only [List.getElem_toArray, List.getElem_cons_succ, List.getElem_cons_zero, Act.put, List.setIfInBounds_toArray, List.set_cons_succ, List.set_cons_zero]); (try simp only [e0, e17, Bool.false_or, Bool.or_false])
  refine wpAnyH_take (i := 5) (v := ?_) rfl (by kernel_rfl) (by kernel_rfl) (by kernel_rfl) (fun _ _ _ h => h) (Or.inl ⟨by rfl, ?_⟩) (by assumption) ?_
  rotate_left
  · intro w hSw
    try dsimp only at hSw
    go_simp
    try with_reducible rfl
  (try simp only [List.getElem_toArray, List.getElem_cons_succ, List.getElem_cons_zero, Act.put, List.setIfInBounds_toArray, List.set_cons_succ, List.set_cons_zero]); (try simp only [e0, e17, Bool.false_or, Bool.or_false])
  refine wpAnyH_ready (rs := [7]) (by kernel_rfl) (by simp) ?_
  refine AllReadyH.cons rfl (fun K hK => ?_) AllReadyH.nil
  go_simp
  with_reducible refine (U6.out _ _ (by simp)).mono ?_; rintro e w' ⟨rfl, rfl⟩; (try go_wp2_with fail)
  refine hK.out _ _ (by first | exact hHeld | assumption) (fun hHeld => ?_)
  clear hK K
  (try simp only [List.getElem_toArray, List.getElem_cons_succ, List.getElem_cons_zero, Act.put, List.setIfInBounds_toArray, List.set_cons_succ, List.set_cons_zero]); (try simp only [e0, e17, Bool.false_or, Bool.or_false])
  refine wpAnyH_ready (rs := [12]) (by kernel_rfl) (by simp) ?_
  refine AllReadyH.cons rfl (fun K hK => ?_) AllReadyH.nil
  go_simp
  with_reducible refine (U16.out _ _ (by simp)).mono ?_; rintro e w' ⟨rfl, rfl⟩; (try go_wp2_with fail)
  refine hK.out _ _ (by first | exact hHeld | assumption) (fun hHeld => ?_)
  clear hK K
  (try simp only [List.getElem_toArray, List.getElem_cons_succ, List.getElem_cons_zero, Act.put, List.setIfInBounds_toArray, List.set_cons_succ, List.set_cons_zero]); (try simp only [e0, e17, Bool.false_or, Bool.or_false])
  refine wpAnyH_take (i := 16) (v := ?_) rfl (by kernel_rfl) (by kernel_rfl) (by kernel_rfl) (fun _ _ _ h => h) (Or.inl ⟨by rfl, ?_⟩) (by assumption) ?_
  rotate_left
  · intro w hSw
    try dsimp only at hSw
    go_simp
    try with_reducible rfl
  (try simp only [List.getElem_toArray, List.getElem_cons_succ, List.getElem_cons_zero, Act.put, List.setIfInBounds_toArray, List.set_cons_succ, List.set_cons_zero]); (try simp only [e0, e17, Bool.false_or, Bool.or_false])
  refine wpAnyH_take (i := 17) (v := ?_) rfl (by kernel_rfl) (by kernel_rfl) (by kernel_rfl) (fun _ _ _ h => h) (Or.inl ⟨by rfl, ?_⟩) (by assumption) ?_
  rotate_left
  · intro w hSw
    try dsimp only at hSw
    go_simp
    try with_reducible rfl
  (try simp only [List.getElem_toArray, List.getElem_cons_succ, List.getElem_cons_zero, Act.put, List.setIfInBounds_toArray, List.set_cons_succ, List.set_cons_zero]); (try simp only [e0, e17, Bool.false_or, Bool.or_false])
  refine wpAnyH_take (i := 18) (v := ?_) rfl (by kernel_rfl) (by kernel_rfl) (by kernel_rfl) (fun _ _ _ h => h) (Or.inl ⟨by rfl, ?_⟩) (by assumption) ?_
  rotate_left
  · intro w hSw
    try dsimp only at hSw
    go_simp
    try with_reducible rfl
  (try simp only [List.getElem_toArray, List.getElem_cons_succ, List.getElem_cons_zero, Act.put, List.setIfInBounds_toArray, List.set_cons_succ, List.set_cons_zero]); (try simp only [e0, e17, Bool.false_or, Bool.or_false])
  refine wpAnyH_take (i := 19) (v := ?_) rfl (by kernel_rfl) (by kernel_rfl) (by kernel_rfl) (fun _ _ _ h => h) (Or.inl ⟨by rfl, ?_⟩) (by assumption) ?_
  rotate_left
  · intro w hSw
    try dsimp only at hSw
    go_simp
    try with_reducible rfl
  (try simp only [List.getElem_toArray, List.getElem_cons_succ, List.getElem_cons_zero, Act.put, List.setIfInBounds_toArray, List.set_cons_succ, List.set_cons_zero]); (try simp only [e0, e17, Bool.false_or, Bool.or_false])
  refine wpAnyH_take (i := 20) (v := ?_) rfl (by kernel_rfl) (by kernel_rfl) (by kernel_rfl) (fun _ _ _ h => h) (Or.inl ⟨by rfl, ?_⟩) (by assumption) ?_
  rotate_left
  · intro w hSw
    try dsimp only at hSw
    go_simp
    try with_reducible rfl
  (try simp only [List.getElem_toArray, List.getElem_cons_succ, List.getElem_cons_zero, Act.put, List.setIfInBounds_toArray, List.set_cons_succ, List.set_cons_zero]); (try simp only [e0, e17, Bool.false_or, Bool.or_false])
  refine wpAnyH_take (i := 21) (v := ?_) rfl (by kernel_rfl) (by kernel_rfl) (by kernel_rfl) (fun _ _ _ h => h) (Or.inl ⟨by rfl, ?_⟩) (by assumption) ?_
  rotate_left
  · intro w hSw
    try dsimp only at hSw
    go_simp
    try with_reducible rfl
  (try simp only [List.getElem_toArray, List.getElem_cons_succ, List.getElem_cons_zero, Act.put, List.setIfInBounds_toArray, List.set_cons_succ, List.set_cons_zero]); (try simp only [e0, e17, Bool.false_or, Bool.or_false])
  refine wpAnyH_take (i := 22) (v := ?_) rfl (by kernel_rfl) (by kernel_rfl) (by kernel_rfl) (fun _ _ _ h => h) (Or.inl ⟨by rfl, ?_⟩) (by assumption) ?_
  rotate_left
  · intro w hSw
    try dsimp only at hSw
    go_simp
    try with_reducible rfl
  (try simp only [List.getElem_toArray, List.getElem_cons_succ, List.getElem_cons_zero, Act.put, List.setIfInBounds_toArray, List.set_cons_succ, List.set_cons_zero]); (try simp only [e0, e17, Bool.false_or, Bool.or_false])
  refine wpAnyH_take (i := 23) (v := ?_) rfl (by kernel_rfl) (by kernel_rfl) (by kernel_rfl) (fun _ _ _ h => h) (Or.inl ⟨by rfl, ?_⟩) (by assumption) ?_
  rotate_left
  · intro w hSw
    try dsimp only at hSw
    go_simp
    try with_reducible rfl
  (try simp only [List.getElem_toArray, List.getElem_cons_succ, List.getElem_cons_zero, Act.put, List.setIfInBounds_toArray, List.set_cons_succ, List.set_cons_zero]); (try simp only [e0, e17, Bool.false_or, Bool.or_false])
  refine wpAnyH_take (i := 26) (v := ?_) rfl (by kernel_rfl) (by kernel_rfl) (by kernel_rfl) (fun _ _ _ h => h) (Or.inl ⟨by rfl, ?_⟩) (by assumption) ?_
  rotate_left
  · intro w hSw
    try dsimp only at hSw
    go_simp
    try with_reducible rfl
  (try simp only [List.getElem_toArray, List.getElem_cons_succ, List.getElem_cons_zero, Act.put, List.setIfInBounds_toArray, List.set_cons_succ, List.set_cons_zero]); (try simp only [e0, e17, Bool.false_or, Bool.or_false])
  refine wpAnyH_ready (rs := [27]) (by kernel_rfl) (by simp) ?_
  refine AllReadyH.cons rfl (fun K hK => ?_) AllReadyH.nil
  go_simp
  refine hK.out _ _ (by simp) (fun hHeld => ?_)
  clear hK K
  (try simp only [List.getElem_toArray, List.getElem_cons_succ, List.getElem_cons_zero, Act.put, List.setIfInBounds_toArray, List.set_cons_succ, List.set_cons_zero]); (try simp only [e0, e17, Bool.false_or, Bool.or_false])
  refine wpAnyH_done (by kernel_rfl) ?_ _
  go_wp2_with fail
  refine bodyPost_ret (v := usesV true b6 (k == 9) b16 false true) (by simp [results, Tryz.results68, go_sem]) rfl ?_
  exact ⟨rfl, (((Below.refl _ w).alloc (Nat.le_refl _) _).alloc (by simp) _).drew⟩

end Go.Proofs.YtklpbkjplecdpaaGreat.Mks

/-
  Contract of marks.uses, whole.
-/
namespace Go.Proofs.YtklpbkjplecdpaaGreat.Mks
open Go.RowKit Oct Num Scn

theorem uses_c (k : Int) (E A : ByteArray) (d : UInt8) (P R : ByteArray) (n : Int) (W : ByteArray) (m : Int) (hK : KindOf (stV k E A d P R n W) m) (w : World) :
    Calls Tryz.prog 68 #[stV k E A d P R n W] w fun x w' => x = .returned (usesV (betweenB k 3 12 || betweenB k 17 19) (betweenB k 6 10) (k == 9) (betweenB k 16 19)
      (k == 0 || betweenB k 9 10 || k == 17) (betweenB k 18 19 || (betweenB k 9 10 && betweenB m 1 3))) ∧ Below w.heap.size w w' := by
  have U9 := wth_of k 9 10 _ rfl
  have U18 := wth_of k 18 19 _ rfl
  have U3 := wth_of k 3 12 _ rfl
  have U17 := wth_of k 17 19 _ rfl
  have U6 := wth_of k 6 10 _ rfl
  have U16 := wth_of k 16 19 _ rfl
  by_cases h0 : k = 0
  · subst h0
    exact uses_a E A d P R n W w _ _ U9 U18 U3 U17 U6 U16
  by_cases h17 : k = 17
  · subst h17
    exact uses_e E A d P R n W w _ _ U9 U18 U3 U17 U6 U16
  have e0 : (k == 0) = false := by simpa using h0
  have e17 : (k == 17) = false := by simpa using h17
  generalize betweenB k 6 10 = b6 at *
  generalize betweenB k 16 19 = b16 at *
  rcases (by omega : (9 ≤ k ∧ k ≤ 10) ∨ (18 ≤ k ∧ k ≤ 19) ∨ (¬ (9 ≤ k ∧ k ≤ 10) ∧ 3 ≤ k ∧ k ≤ 12) ∨ (¬ (3 ≤ k ∧ k ≤ 12) ∧ ¬ (17 ≤ k ∧ k ≤ 19))) with h | h | h | h
  · have e9 : betweenB k 9 10 = true := decide_eq_true h
    have e18 : betweenB k 18 19 = false := decide_eq_false (by omega)
    have e3 : betweenB k 3 12 = true := decide_eq_true (by omega)
    have e17' : betweenB k 17 19 = false := decide_eq_false (by omega)
    rw [e9] at U9 ⊢
    rw [e18] at U18 ⊢
    rw [e3] at U3 ⊢
    rw [e17'] at U17 ⊢
    rw [e0, e17]
    exact uses_d k h0 h17 E A d P R n W m _ hK rfl w _ _ U9 U18 U3 U17 U6 U16
  · have e9 : betweenB k 9 10 = false := decide_eq_false (by omega)
    have e18 : betweenB k 18 19 = true := decide_eq_true h
    have e3 : betweenB k 3 12 = false := decide_eq_false (by omega)
    have e17' : betweenB k 17 19 = true := decide_eq_true (by omega)
    rw [e9] at U9 ⊢
    rw [e18] at U18 ⊢
    rw [e3] at U3 ⊢
    rw [e17'] at U17 ⊢
    rw [e0, e17]
    exact uses_f k h0 h17 E A d P R n W w _ _ U9 U18 U3 U17 U6 U16
  · have e9 : betweenB k 9 10 = false := decide_eq_false (by omega)
    have e18 : betweenB k 18 19 = false := decide_eq_false (by omega)
    have e3 : betweenB k 3 12 = true := decide_eq_true (by omega)
    have e17' : betweenB k 17 19 = false := decide_eq_false (by omega)
    rw [e9] at U9 ⊢
    rw [e18] at U18 ⊢
    rw [e3] at U3 ⊢
    rw [e17'] at U17 ⊢
    rw [e0, e17]
    exact uses_cc k h0 h17 E A d P R n W w _ _ U9 U18 U3 U17 U6 U16
  · have e9 : betweenB k 9 10 = false := decide_eq_false (by omega)
    have e18 : betweenB k 18 19 = false := decide_eq_false (by omega)
    have e3 : betweenB k 3 12 = false := decide_eq_false (by omega)
    have e17' : betweenB k 17 19 = false := decide_eq_false (by omega)
    rw [e9] at U9 ⊢
    rw [e18] at U18 ⊢
    rw [e3] at U3 ⊢
    rw [e17'] at U17 ⊢
    rw [e0, e17]
    exact uses_b k h0 h17 E A d P R n W w _ _ U9 U18 U3 U17 U6 U16
end Go.Proofs.YtklpbkjplecdpaaGreat.Mks

/-
  Contract of marks.Print.
-/
namespace Go.Proofs.YtklpbkjplecdpaaGreat.Mks
open Go.RowKit Oct Num Scn Tab Pct Utf
attribute [local go_sem ↓] Go.wp_at_zero Go.wp_at_succ

def Kp (w : World) (o : Obj) (Y : World) : Prop := Below w.heap.size w Y ∧ Y.heap[w.heap.size]? = some o
theorem Kp.lt {w Y : World} {o : Obj} (h : Kp w o Y) : w.heap.size < Y.heap.size := by
  have := h.2
  exact (Array.getElem?_eq_some_iff.1 this).1
theorem Kp.first (w : World) (o : Obj) : Kp w o (w.alloc o) := ⟨(Below.refl _ w).alloc (Nat.le_refl _) _, heap_alloc_new w o⟩
theorem Kp.next {w Y Z : World} {o : Obj} (h : Kp w o Y) (b : Below Y.heap.size Y Z) : Kp w o Z :=
  ⟨h.1.trans (b.mono (Nat.le_of_lt h.lt)), (b.block _ h.lt).trans h.2⟩
theorem Kp.alloc {w Y : World} {o : Obj} (h : Kp w o Y) (p : Obj) : Kp w o (Y.alloc p) := h.next ((Below.refl _ Y).alloc (Nat.le_refl _) _)
theorem Kp.drew {w Y : World} {o : Obj} (h : Kp w o Y) : Kp w o Y.drew := ⟨⟨h.1.os, h.1.tape, h.1.output, h.1.size, h.1.block⟩, h.2⟩
abbrev boxO (k : Int) (E A : ByteArray) (d : Int) (P R : ByteArray) (n : Int) (W : ByteArray) : Obj := .cells #[.int .i64 k, .string E, .string A, .int .u8 d, .string P, .string R, .int .i64 n, .string W] 24
theorem Kp.cells {w Y : World} {k : Int} {E A : ByteArray} {d : Int} {P R : ByteArray} {n : Int} {W : ByteArray} (h : Kp w (boxO k E A d P R n W) Y) :
    Y.cell? ⟨w.heap.size, 0, none⟩ = some (.int .i64 k) ∧ Y.cell? ⟨w.heap.size, 1, none⟩ = some (.string E) ∧ Y.cell? ⟨w.heap.size, 2, none⟩ = some (.string A) ∧ Y.cell? ⟨w.heap.size, 3, none⟩ = some (.int .u8 d) ∧
      Y.cell? ⟨w.heap.size, 4, none⟩ = some (.string P) ∧ Y.cell? ⟨w.heap.size, 5, none⟩ = some (.string R) ∧ Y.cell? ⟨w.heap.size, 6, none⟩ = some (.int .i64 n) ∧ Y.cell? ⟨w.heap.size, 7, none⟩ = some (.string W) :=
  ⟨cell_of_row Y _ 0 _ _ _ h.2, cell_of_row Y _ 1 _ _ _ h.2, cell_of_row Y _ 2 _ _ _ h.2, cell_of_row Y _ 3 _ _ _ h.2, cell_of_row Y _ 4 _ _ _ h.2, cell_of_row Y _ 5 _ _ _ h.2, cell_of_row Y _ 6 _ _ _ h.2, cell_of_row Y _ 7 _ _ _ h.2⟩

abbrev stW (s : St) : Value := stV s.k (S s.e) (S s.a) s.d (S s.p) (S s.r) s.n (S s.w)

end Go.Proofs.YtklpbkjplecdpaaGreat.Mks

/-
  Contract of marks.read: a text as a state.
-/
namespace Go.Proofs.YtklpbkjplecdpaaGreat.Mks
open Go.RowKit Oct Num Scn Tab Pct Utf
attribute [local go_sem ↓] Go.wp_at_zero Go.wp_at_succ


end Go.Proofs.YtklpbkjplecdpaaGreat.Mks

/-
  Contracts of marks.mayBe and marks.Check.
-/
namespace Go.Proofs.YtklpbkjplecdpaaGreat.Mks
open Go.RowKit Oct Num Scn Tab Pct Utf

theorem index8 (cs : Array Value) (j : Nat) (hj : j < 8) (v : Value) (hv : cs[j]? = some v) (W : World) :
    (Instr.index 82 (.agg cs) (.int .i64 (j : Int))).run Tryz.prog W = .ok v W := by
  have j0 : (0 : Int) ≤ (j : Int) := by omega
  simp [Instr.index, run_underlying Tryz.underlying82, asIntOf, j0, go_sem]
  rw [if_pos hj, hv]
  rfl
abbrev usesA (s : St) : Array Value := #[.bool true, .bool (betweenB s.k 3 12 || betweenB s.k 17 19), .bool (betweenB s.k 6 10), .bool (s.k == 9), .bool (betweenB s.k 16 19),
  .bool (s.k == 0 || betweenB s.k 9 10 || s.k == 17), .bool (betweenB s.k 18 19 || (betweenB s.k 9 10 && betweenB (attS s : Int) 1 3)), .bool (betweenB s.k 18 19 || (betweenB s.k 9 10 && betweenB (attS s : Int) 1 3))]
abbrev greatA : Array Value := #[.int .i64 19, .int .i64 33, .int .i64 32, .int .i64 255, .int .i64 34, .int .i64 16, .int .i64 15, .int .i64 16]
abbrev sizesA (s : St) : Array Value := #[.int .i64 s.k, .int .i64 (S s.e).size, .int .i64 (S s.a).size, .int .i64 (s.d.toNat : Int), .int .i64 (S s.p).size, .int .i64 (S s.r).size, .int .i64 s.n, .int .i64 (S s.w).size]
abbrev useJ (s : St) (j : Nat) : Bool := (useS s).getD j false
abbrev sizJ (s : St) (j : Nat) : Int := (sizS s).getD j 0
abbrev mostJ (j : Nat) : Int := mostS.getD j 0
theorem eight (j : Nat) (hj : j < 8) : j = 0 ∨ j = 1 ∨ j = 2 ∨ j = 3 ∨ j = 4 ∨ j = 5 ∨ j = 6 ∨ j = 7 := by omega
theorem uses_at (s : St) (j : Nat) (hj : j < 8) : (usesA s)[j]? = some (.bool (useJ s j)) := by
  have e9 : (s.k == 9) = decide (s.k = 9) := rfl
  rcases eight j hj with e | e | e | e | e | e | e | e <;> rw [e] <;> rfl
theorem great_at (j : Nat) (hj : j < 8) : greatA[j]? = some (.int .i64 (mostJ j)) := by
  rcases eight j hj with e | e | e | e | e | e | e | e <;> rw [e] <;> rfl
theorem sizes_at (s : St) (j : Nat) (hj : j < 8) : (sizesA s)[j]? = some (.int .i64 (sizJ s j)) := by
  have h : ∀ l : List UInt8, (((S l).size : Nat) : Int) = (l.length : Int) := fun l => by rw [size_S]
  rcases eight j hj with e | e | e | e | e | e | e | e <;> rw [e]
  · rfl
  · exact congrArg (fun x => some (Value.int .i64 x)) (h s.e)
  · exact congrArg (fun x => some (Value.int .i64 x)) (h s.a)
  · rfl
  · exact congrArg (fun x => some (Value.int .i64 x)) (h s.p)
  · exact congrArg (fun x => some (Value.int .i64 x)) (h s.r)
  · rfl
  · exact congrArg (fun x => some (Value.int .i64 x)) (h s.w)

def Two (s : St) (g : Nat) (X : World) : Prop := (∀ j, j < 8 → X.cell? ⟨g, j, none⟩ = some (.bool (useJ s j))) ∧ (∀ j, j < 8 → X.cell? ⟨g + 1, j, none⟩ = some (.int .i64 (mostJ j)))
theorem two_of {s : St} {W : World} : Two s W.heap.size ((W.alloc (.cells (usesA s) 80)).alloc (.cells greatA 82)) := by
  refine ⟨fun j hj => ?_, fun j hj => ?_⟩
  · have h : ((W.alloc (.cells (usesA s) 80)).alloc (.cells greatA 82)).heap[W.heap.size]? = some (.cells (usesA s) 80 (0, 0)) := by
      rw [heap_alloc_old _ _ (by simp)]
      exact heap_alloc_new W _
    rw [cell_of_row _ _ j _ _ _ h]
    exact uses_at s j hj
  · have h := heap_alloc_new (W.alloc (.cells (usesA s) 80)) (.cells greatA 82)
    rw [show (W.alloc (.cells (usesA s) 80)).heap.size = W.heap.size + 1 by simp] at h
    rw [cell_of_row _ _ j _ _ _ h]
    exact great_at j hj
theorem Two.next {s : St} {g : Nat} {X Y : World} (h : Two s g X) (b : Below X.heap.size X Y) : Two s g Y :=
  ⟨fun j hj => (b.cell (World.block_lt_of_cell? X _ (h.1 j hj))).trans (h.1 j hj), fun j hj => (b.cell (World.block_lt_of_cell? X _ (h.2 j hj))).trans (h.2 j hj)⟩

set_option maxHeartbeats 4000000 in
set_option maxRecDepth 100000 in
theorem may_w (k : Int) (E A : ByteArray) (d : UInt8) (P R : ByteArray) (n : Int) (Wd : ByteArray) (w : World) (u1 u2 u3 u4 u5 u6 : Bool) (zs : Array Value) (U : Nat → Bool) (Z M : Nat → Int) (ans : Bool)
    (hU : ∀ X, Calls Tryz.prog 68 #[stV k E A d P R n Wd] X fun x w' => x = .returned (.agg #[.bool true, .bool u1, .bool u2, .bool u3, .bool u4, .bool u5, .bool u6, .bool u6]) ∧ Below X.heap.size X w')
    (hG : ∀ X, Calls Tryz.prog 69 #[] X fun x w' => x = .returned (.agg #[.int .i64 19, .int .i64 33, .int .i64 32, .int .i64 255, .int .i64 34, .int .i64 16, .int .i64 15, .int .i64 16]) ∧ Below X.heap.size X w')
    (hS : ∀ X, Calls Tryz.prog 70 #[stV k E A d P R n Wd] X fun x w' => x = .returned (.agg zs) ∧ Below X.heap.size X w')
    (hI : Hid (∀ (j : Nat), j < 8 → ∀ W : World, (Instr.index 82 (.agg zs) (.int .i64 (j : Int))).run Tryz.prog W = .ok (.int .i64 (Z j)) W))
    (hT : Hid (∀ W Y : World, Below ((W.alloc (.cells #[.bool true, .bool u1, .bool u2, .bool u3, .bool u4, .bool u5, .bool u6, .bool u6] 80)).alloc (.cells greatA 82)).heap.size ((W.alloc (.cells #[.bool true, .bool u1, .bool u2, .bool u3, .bool u4, .bool u5, .bool u6, .bool u6] 80)).alloc (.cells greatA 82)) Y →
      (∀ j, j < 8 → Y.cell? ⟨W.heap.size, j, none⟩ = some (.bool (U j))) ∧ (∀ j, j < 8 → Y.cell? ⟨W.heap.size + 1, j, none⟩ = some (.int .i64 (M j)))))
    (hA : Hid ((∀ j, j < 8 → okF (U j) (Z j) (M j) = true) → ans = (decide (k ≠ 9) || d == 34 || d == 39))) (hN : Hid (∀ j, j < 8 → okF (U j) (Z j) (M j) = false → ans = false)) :
    Calls Tryz.prog 36 #[stV k E A d P R n Wd] w fun x w' => x = .returned (.bool ans) ∧ Below w.heap.size w w' := by
  have hbx : Hid (∀ (X : World), Below (w.alloc (boxO k E A d.toNat P R n Wd)).heap.size (w.alloc (boxO k E A d.toNat P R n Wd)) X → Kp w (boxO k E A d.toNat P R n Wd) X) := fun X b => (Kp.first w _).next b
  go_enter Tryz.func36, Tryz.ntmps36
  go_wp2_with fail
  refine (hU _).mono ?_
  rintro e1 X1 ⟨rfl, b1⟩
  have K1 := Lib.hid (hbx.out X1 b1)
  clear b1 hU hbx
  go_wp2_with fail
  refine (hG _).mono ?_
  rintro e2 X2 ⟨rfl, b2⟩
  have K2 := Lib.hid (K1.out.next b2)
  have K3 := Lib.hid ((K2.out.alloc (.cells #[.bool true, .bool u1, .bool u2, .bool u3, .bool u4, .bool u5, .bool u6, .bool u6] 80)).alloc (.cells greatA 82))
  obtain ⟨q0, q1, q2, q3, q4, q5, q6, q7⟩ := K3.out.cells
  clear b2 hG K1
  go_wp2_with fail
  refine (hS _).mono ?_
  rintro e3 X3 ⟨rfl, b3⟩
  have K4 := Lib.hid (K3.out.next b3)
  have HT := Lib.hid (hT.out X2 X3 b3)
  clear b3 hS hT K3 K2 q0 q1 q2 q3 q4 q5 q6 q7
  go_wp2_with fail
  have hw := fun z m w => Num.within_c z 0 m w
  have HW := Lib.hid hw
  clear hw
  go_loopw [12] (fun i wr => ∃ j : Nat, j ≤ 8 ∧ i = .int .i64 j ∧ Hid (∀ q, q < j → okF (U q) (Z q) (M q) = true) ∧ wr = X3) (fun i _ => 8 - (intOf i).toNat)
  case atStart => exact ⟨0, Nat.zero_le _, rfl, (fun q hq => absurd hq (Nat.not_lt_zero q)), rfl⟩
  case round =>
    obtain ⟨j, hj, rfl, hq, rfl⟩ := hrel
    by_cases hlt : j < 8
    · have i0 : (0 : Int) ≤ (j : Int) := by omega
      have i1 : (j : Int) < 8 := by omega
      have hi := hI.out j hlt
      have hu := HT.out.1 j hlt
      have hm := HT.out.2 j hlt
      have hn := Lib.hid (hN.out j hlt)
      have hok : Hid (okF (U j) (Z j) (M j) = true → ∀ q, q < j + 1 → okF (U q) (Z q) (M q) = true) := fun h q hq1 => by
        by_cases hqj : q = j
        · rw [hqj]; exact h
        · exact hq.out q (by omega)
      have hw := fun w => HW.out (Z j) (M j) w
      generalize Z j = z at hi hn hok hw
      generalize M j = mm at hm hn hok hw
      generalize U j = u at hu hn hok
      generalize hb : betweenB z 0 mm = b at hw
      have hb2 : btw z 0 mm = b := hb
      have HB := Lib.hid hb2
      clear hb hb2
      cases u with
      | true =>
        cases b with
        | true =>
          have hok2 := hok.out (by unfold okF; rw [HB.out]; rfl)
          have HOK := Lib.hid hok2
          clear hok2 hok hn
          go_wp2_with (go_at_call 35; refine (hw _).mono ?_; rintro e w' ⟨rfl, rfl⟩)
          go_roundw
          case rel => exact ⟨j + 1, by omega, by go_num, HOK.out, trivial⟩
          case measure => simp [intOf]; omega
        | false =>
          have hans := hn.out (by unfold okF; rw [HB.out]; rfl)
          subst hans
          go_wp2_with (go_at_call 35; refine (hw _).mono ?_; rintro e w' ⟨rfl, rfl⟩)
          go_ret
          exact ⟨rfl, K4.out.1⟩
      | false =>
        by_cases hz : z = 0
        · subst hz
          cases b with
          | true =>
            have hok2 := hok.out (by unfold okF; rw [HB.out]; rfl)
            have HOK := Lib.hid hok2
            clear hok2 hok hn
            go_wp2_with (go_at_call 35; refine (hw _).mono ?_; rintro e w' ⟨rfl, rfl⟩)
            go_roundw
            case rel => exact ⟨j + 1, by omega, by go_num, HOK.out, trivial⟩
            case measure => simp [intOf]; omega
          | false =>
            have hans := hn.out (by unfold okF; rw [HB.out]; rfl)
            subst hans
            go_wp2_with (go_at_call 35; refine (hw _).mono ?_; rintro e w' ⟨rfl, rfl⟩)
            go_ret
            exact ⟨rfl, K4.out.1⟩
        · have hans := hn.out (by unfold okF; rw [decide_eq_false hz]; rfl)
          subst hans
          go_wp2_with (go_at_call 35; refine (hw _).mono ?_; rintro e w' ⟨rfl, rfl⟩)
          go_ret
          exact ⟨rfl, K4.out.1⟩
    · have hj8 : j = 8 := by omega
      subst hj8
      have hans := hA.out hq.out
      have HANS := Lib.hid hans
      clear hans hq hA hN hI HT HW
      have hd : (d.toNat : Int) < 256 := by have := d.toNat_lt; omega
      have d34 : (d == 34) = decide ((d.toNat : Int) = 34) := by
        rw [Bool.eq_iff_iff, beq_iff_eq, decide_eq_true_eq]
        exact ⟨fun h => by rw [h]; rfl, fun h => UInt8.toNat_inj.1 (by show d.toNat = 34; omega)⟩
      have d39 : (d == 39) = decide ((d.toNat : Int) = 39) := by
        rw [Bool.eq_iff_iff, beq_iff_eq, decide_eq_true_eq]
        exact ⟨fun h => by rw [h]; rfl, fun h => UInt8.toNat_inj.1 (by show d.toNat = 39; omega)⟩
      have HANS2 : Hid (ans = (decide (k ≠ 9) || decide ((d.toNat : Int) = 34) || decide ((d.toNat : Int) = 39))) := by
        show _ = _
        rw [HANS.out, d34, d39]
      clear HANS d34 d39
      obtain ⟨q0, q1, q2, q3, q4, q5, q6, q7⟩ := K4.out.cells
      generalize (d.toNat : Int) = dd at *
      by_cases hk : k = 9
      · by_cases h34 : dd = 34
        · subst hk
          subst h34
          go_wp2_with fail
          go_ret
          exact ⟨ret_bool (by rw [HANS2.out]; rfl), K4.out.1⟩
        · by_cases h39 : dd = 39
          · subst hk
            subst h39
            go_wp2_with fail
            go_ret
            exact ⟨ret_bool (by rw [HANS2.out]; rfl), K4.out.1⟩
          · subst hk
            have b34 : (dd == 34) = false := by simpa using h34
            have b39 : (dd == 39) = false := by simpa using h39
            go_wp2_with fail
            go_ret
            exact ⟨ret_bool (by rw [HANS2.out, decide_eq_false h34, decide_eq_false h39]; first | rfl | (rw [b39]; rfl)), K4.out.1⟩
      · have bk : (k != 9) = true := by simpa using hk
        go_wp2_with fail
        go_ret
        exact ⟨ret_bool (by rw [HANS2.out, decide_eq_true hk]; first | rfl | simp), K4.out.1⟩

theorem mayBe_c (s : St) (w : World) : Calls Tryz.prog 36 #[stW s] w fun x w' => x = .returned (.bool (mayS s)) ∧ Below w.heap.size w w' :=
  may_w s.k (S s.e) (S s.a) s.d (S s.p) (S s.r) s.n (S s.w) w _ _ _ _ _ _ (sizesA s) (useJ s) (sizJ s) mostJ (mayS s)
    (fun X => uses_c s.k (S s.e) (S s.a) s.d (S s.p) (S s.r) s.n (S s.w) (attI s.k s.e s.a : Nat) (kind_c s.k s.e s.a s.d (S s.p) (S s.r) s.n (S s.w)) X)
    (fun X => greatest_c X) (fun X => sizes_c s.k (S s.e) (S s.a) s.d (S s.p) (S s.r) s.n (S s.w) X)
    (fun j hj W => index8 (sizesA s) j hj _ (sizes_at s j hj) W)
    (fun W _ b => (two_of (s := s) (W := W)).next b)
    (fun h => may_all h) (fun _ hj h => may_not hj h)

theorem check_c (s : St) (w : World) : Calls Tryz.prog 20 #[stW s] w fun x w' => x = .returned (.int .i64 (checkC s : Nat)) ∧ Below w.heap.size w w' := by
  have hw := fun w => Num.within_c s.k 0 19 w
  have hm := fun w => mayBe_c s w
  have E : Hid (checkC s = if betweenB s.k 0 19 = true then (if mayS s = true then 0 else 9) else 4) := by show _ = _; rfl
  have hc : ∀ (o : Obj) (Y : World), Below (w.alloc o).heap.size (w.alloc o) Y → Below w.heap.size w Y := fun o Y b => ((Below.refl _ w).alloc (Nat.le_refl _) _).trans (b.mono (by simp))
  have HC := Lib.hid hc
  clear hc
  generalize checkC s = ans at E ⊢
  generalize mayS s = q at hm E
  obtain ⟨k, e, a, d, p, r, n, wd⟩ := s
  dsimp only at *
  generalize betweenB k 0 19 = b at hw E
  cases b with
  | false =>
    go_enter Tryz.func20, Tryz.ntmps20
    go_wp2_with (go_at_call 35; refine (hw _).mono ?_; rintro e w' ⟨rfl, rfl⟩)
    go_ret
    exact ⟨ret_int (by rw [E.out]; rfl), HC.out _ _ (Below.refl _ _)⟩
  | true =>
    cases q with
    | false =>
      go_enter Tryz.func20, Tryz.ntmps20
      go_wp2_with (go_at_call 35; refine (hw _).mono ?_; rintro e w' ⟨rfl, rfl⟩)
      refine (hm _).mono ?_
      rintro e1 w1 ⟨rfl, b1⟩
      have B1 := Lib.hid (HC.out _ _ b1)
      clear b1
      go_wp2_with fail
      go_ret
      exact ⟨ret_int (by rw [E.out]; rfl), B1.out⟩
    | true =>
      go_enter Tryz.func20, Tryz.ntmps20
      go_wp2_with (go_at_call 35; refine (hw _).mono ?_; rintro e w' ⟨rfl, rfl⟩)
      refine (hm _).mono ?_
      rintro e1 w1 ⟨rfl, b1⟩
      have B1 := Lib.hid (HC.out _ _ b1)
      clear b1
      go_wp2_with fail
      go_ret
      exact ⟨ret_int (by rw [E.out]; rfl), B1.out⟩

end Go.Proofs.YtklpbkjplecdpaaGreat.Mks
