/-
  Part 27: MksUsesF, MksUseAll, MksPrint, MksRead.
-/
import Derived.Test.YtklpbkjplecdpaaGreatSwBaseP16
import Derived.Deep.RegionHeld3
import Derived.Deep.DrawnRows
import Derived.Test.YtklpbkjplecdpaaGreatSwBaseP24
import Derived.Test.YtklpbkjplecdpaaGreatSwBaseP25
import Derived.Test.YtklpbkjplecdpaaGreatSwBaseP26
import Derived.Laws.CopyOwn
import Derived.Deep.RegionLaw
/-
  Contract of marks.uses, class f of kinds: which fields a state uses.
-/
namespace Go.Proofs.YtklpbkjplecdpaaGreat.Mks
open Go.RowKit Go.Proofs.YtklpbkjplecdpaaGreat.Oct Go.Proofs.YtklpbkjplecdpaaGreat.Num Go.Proofs.YtklpbkjplecdpaaGreat.Scn
attribute [local go_sem ↓] Go.wp_at_zero Go.wp_at_succ


set_option maxRecDepth 100000 in
set_option maxHeartbeats 4000000 in
theorem uses_f (k : Int) (h0 : k ≠ 0) (h17 : k ≠ 17) (E A : ByteArray) (d : UInt8) (P R : ByteArray) (n : Int) (W : ByteArray) (w : World) (b6 b16 : Bool)
    (U9 : Hid (Wth k 9 10 false)) (U18 : Hid (Wth k 18 19 true)) (U3 : Hid (Wth k 3 12 false)) (U17 : Hid (Wth k 17 19 true)) (U6 : Hid (Wth k 6 10 b6)) (U16 : Hid (Wth k 16 19 b16)) :
    Calls Tryz.prog 68 #[stV k E A d P R n W] w fun x w' => x = .returned (usesV true b6 (k == 9) b16 false true) ∧ Below w.heap.size w w' := by
  have e1 := enter_uses1
  have e0 : (k == 0) = false := by simpa using h0
  have e17 : (k == 17) = false := by simpa using h17
  go_enter Tryz.func68, Tryz.ntmps68
  go_wp2_with fail
  go_at_fn 99
  refine (U9.out _ _ (by simp)).mono ?_; rintro e w' ⟨rfl, rfl⟩
  go_wp2_with fail
  go_at_fn 99
  refine (U18.out _ _ (by simp)).mono ?_; rintro e w' ⟨rfl, rfl⟩
  go_wp2_with fail
  refine wp_region_held_drew (S := (fun w' => w'.cell? ⟨w.heap.size, 0, none⟩ = some (.int .i64 k))) (by kernel_rfl) (by simp) (fun hHeld => ?_)
  refine wpAnyH_take (i := 0) (v := ?_) rfl (by kernel_rfl) (by kernel_rfl) (by kernel_rfl) (fun _ _ _ h => h) (Or.inl ⟨by rfl, ?_⟩) (by assumption) ?_
  rotate_left
  · intro w hSw
    try dsimp only at hSw
    go_simp
    try with_reducible rfl
  (try simp only [List.getElem_toArray]); (try simp only [List.getElem_cons_succ]); (try simp only [List.getElem_cons_zero]); (try simp only [Act.put]); (try simp only [List.setIfInBounds_toArray]); (try simp only [List.set_cons_succ]); (try simp only [List.set_cons_zero]); (try simp only [e0, e17, Bool.false_or, Bool.or_false])
  refine wpAnyH_take (i := 6) (v := ?_) rfl (by kernel_rfl) (by kernel_rfl) (by kernel_rfl) (fun _ _ _ h => h) (Or.inl ⟨by rfl, ?_⟩) (by assumption) ?_
  rotate_left
  · intro w hSw
    try dsimp only at hSw
    go_simp
    try with_reducible rfl
  (try simp only [List.getElem_toArray]); (try simp only [List.getElem_cons_succ]); (try simp only [List.getElem_cons_zero]); (try simp only [Act.put]); (try simp only [List.setIfInBounds_toArray]); (try simp only [List.set_cons_succ]); (try simp only [List.set_cons_zero]); (try simp only [e0, e17, Bool.false_or, Bool.or_false])
  refine wpAnyH_take (i := 8) (v := ?_) rfl (by kernel_rfl) (by kernel_rfl) (by kernel_rfl) (fun _ _ _ h => h) (Or.inl ⟨by rfl, ?_⟩) (by assumption) ?_
  rotate_left
  · intro w hSw
    try dsimp only at hSw
    go_simp
    try with_reducible rfl
  (try simp only [List.getElem_toArray]); (try simp only [List.getElem_cons_succ]); (try simp only [List.getElem_cons_zero]); (try simp only [Act.put]); (try simp only [List.setIfInBounds_toArray]); (try simp only [List.set_cons_succ]); (try simp only [List.set_cons_zero]); (try simp only [e0, e17, Bool.false_or, Bool.or_false])
  refine wpAnyH_take (i := 9) (v := ?_) rfl (by kernel_rfl) (by kernel_rfl) (by kernel_rfl) (fun _ _ _ h => h) (Or.inl ⟨by rfl, ?_⟩) (by assumption) ?_
  rotate_left
  · intro w hSw
    try dsimp only at hSw
    go_simp
    try with_reducible rfl
  (try simp only [List.getElem_toArray]); (try simp only [List.getElem_cons_succ]); (try simp only [List.getElem_cons_zero]); (try simp only [Act.put]); (try simp only [List.setIfInBounds_toArray]); (try simp only [List.set_cons_succ]); (try simp only [List.set_cons_zero]); (try simp only [e0, e17, Bool.false_or, Bool.or_false])
  refine wpAnyH_take (i := 10) (v := ?_) rfl (by kernel_rfl) (by kernel_rfl) (by kernel_rfl) (fun _ _ _ h => h) (Or.inl ⟨by rfl, ?_⟩) (by assumption) ?_
  rotate_left
  · intro w hSw
    try dsimp only at hSw
    go_simp
    try with_reducible rfl
  (try simp only [List.getElem_toArray]); (try simp only [List.getElem_cons_succ]); (try simp only [List.getElem_cons_zero]); (try simp only [Act.put]); (try simp only [List.setIfInBounds_toArray]); (try simp only [List.set_cons_succ]); (try simp only [List.set_cons_zero]); (try simp only [e0, e17, Bool.false_or, Bool.or_false])
  refine wpAnyH_take (i := 11) (v := ?_) rfl (by kernel_rfl) (by kernel_rfl) (by kernel_rfl) (fun _ _ _ h => h) (Or.inl ⟨by rfl, ?_⟩) (by assumption) ?_
  rotate_left
  · intro w hSw
    try dsimp only at hSw
    go_simp
    try with_reducible rfl
  (try simp only [List.getElem_toArray]); (try simp only [List.getElem_cons_succ]); (try simp only [List.getElem_cons_zero]); (try simp only [Act.put]); (try simp only [List.setIfInBounds_toArray]); (try simp only [List.set_cons_succ]); (try simp only [List.set_cons_zero]); (try simp only [e0, e17, Bool.false_or, Bool.or_false])
  refine wpAnyH_take (i := 13) (v := ?_) rfl (by kernel_rfl) (by kernel_rfl) (by kernel_rfl) (fun _ _ _ h => h) (Or.inl ⟨by rfl, ?_⟩) (by assumption) ?_
  rotate_left
  · intro w hSw
    try dsimp only at hSw
    go_simp
    try with_reducible rfl
  (try simp only [List.getElem_toArray]); (try simp only [List.getElem_cons_succ]); (try simp only [List.getElem_cons_zero]); (try simp only [Act.put]); (try simp only [List.setIfInBounds_toArray]); (try simp only [List.set_cons_succ]); (try simp only [List.set_cons_zero]); (try simp only [e0, e17, Bool.false_or, Bool.or_false])
  refine wpAnyH_take (i := 14) (v := ?_) rfl (by kernel_rfl) (by kernel_rfl) (by kernel_rfl) (fun _ _ _ h => h) (Or.inl ⟨by rfl, ?_⟩) (by assumption) ?_
  rotate_left
  · intro w hSw
    try dsimp only at hSw
    go_simp
    try with_reducible rfl
  (try simp only [List.getElem_toArray]); (try simp only [List.getElem_cons_succ]); (try simp only [List.getElem_cons_zero]); (try simp only [Act.put]); (try simp only [List.setIfInBounds_toArray]); (try simp only [List.set_cons_succ]); (try simp only [List.set_cons_zero]); (try simp only [e0, e17, Bool.false_or, Bool.or_false])
  refine wpAnyH_take (i := 15) (v := ?_) rfl (by kernel_rfl) (by kernel_rfl) (by kernel_rfl) (fun _ _ _ h => h) (Or.inl ⟨by rfl, ?_⟩) (by assumption) ?_
  rotate_left
  · intro w hSw
    try dsimp only at hSw
    go_simp
    try with_reducible rfl
  (try simp only [List.getElem_toArray]); (try simp only [List.getElem_cons_succ]); (try simp only [List.getElem_cons_zero]); (try simp only [Act.put]); (try simp only [List.setIfInBounds_toArray]); (try simp only [List.set_cons_succ]); (try simp only [List.set_cons_zero]); (try simp only [e0, e17, Bool.false_or, Bool.or_false])
  refine wpAnyH_take (i := 24) (v := ?_) rfl (by kernel_rfl) (by kernel_rfl) (by kernel_rfl) (fun _ _ _ h => h) (Or.inl ⟨by rfl, ?_⟩) (by assumption) ?_
  rotate_left
  · intro w hSw
    try dsimp only at hSw
    go_simp
    try with_reducible rfl
  (try simp only [List.getElem_toArray]); (try simp only [List.getElem_cons_succ]); (try simp only [List.getElem_cons_zero]); (try simp only [Act.put]); (try simp only [List.setIfInBounds_toArray]); (try simp only [List.set_cons_succ]); (try simp only [List.set_cons_zero]); (try simp only [e0, e17, Bool.false_or, Bool.or_false])
  refine wpAnyH_take (i := 25) (v := ?_) rfl (by kernel_rfl) (by kernel_rfl) (by kernel_rfl) (fun _ _ _ h => h) (Or.inl ⟨by rfl, ?_⟩) (by assumption) ?_
  rotate_left
  · intro w hSw
    try dsimp only at hSw
    go_simp
    try with_reducible rfl
  (try simp only [List.getElem_toArray]); (try simp only [List.getElem_cons_succ]); (try simp only [List.getElem_cons_zero]); (try simp only [Act.put]); (try simp only [List.setIfInBounds_toArray]); (try simp only [List.set_cons_succ]); (try simp only [List.set_cons_zero]); (try simp only [e0, e17, Bool.false_or, Bool.or_false])
  refine wpAnyH_ready (rs := [1]) (by kernel_rfl) (by simp) ?_
  refine AllReadyH.cons rfl (fun K hK => ?_) AllReadyH.nil
  go_simp
  with_reducible refine (U3.out _ _ (by simp)).mono ?_; rintro e w' ⟨rfl, rfl⟩; (try go_wp2_with fail)
  refine hK.out _ _ (by first | exact hHeld | assumption) (fun hHeld => ?_)
  clear hK K
  (try simp only [List.getElem_toArray]); (try simp only [List.getElem_cons_succ]); (try simp only [List.getElem_cons_zero]); (try simp only [Act.put]); (try simp only [List.setIfInBounds_toArray]); (try simp only [List.set_cons_succ]); (try simp only [List.set_cons_zero]); (try simp only [e0, e17, Bool.false_or, Bool.or_false])
  refine wpAnyH_take (i := 2) (v := ?_) rfl (by kernel_rfl) (by kernel_rfl) (by kernel_rfl) (fun _ _ _ h => h) (Or.inl ⟨by rfl, ?_⟩) (by assumption) ?_
  rotate_left
  · intro w hSw
    try dsimp only at hSw
    go_simp
    try with_reducible rfl
  (try simp only [List.getElem_toArray]); (try simp only [List.getElem_cons_succ]); (try simp only [List.getElem_cons_zero]); (try simp only [Act.put]); (try simp only [List.setIfInBounds_toArray]); (try simp only [List.set_cons_succ]); (try simp only [List.set_cons_zero]); (try simp only [e0, e17, Bool.false_or, Bool.or_false])
  refine wpAnyH_take (i := 3) (v := ?_) rfl (by kernel_rfl) (by kernel_rfl) (by kernel_rfl) (fun _ _ _ h => h) (Or.inl ⟨by rfl, ?_⟩) (by assumption) ?_
  rotate_left
  · intro w hSw
    try dsimp only at hSw
    go_simp
    try with_reducible rfl
  (try simp only [List.getElem_toArray]); (try simp only [List.getElem_cons_succ]); (try simp only [List.getElem_cons_zero]); (try simp only [Act.put]); (try simp only [List.setIfInBounds_toArray]); (try simp only [List.set_cons_succ]); (try simp only [List.set_cons_zero]); (try simp only [e0, e17, Bool.false_or, Bool.or_false])
  refine wpAnyH_ready (rs := [4]) (by kernel_rfl) (by simp) ?_
  refine AllReadyH.cons rfl (fun K hK => ?_) AllReadyH.nil
  go_simp
  with_reducible refine (U17.out _ _ (by simp)).mono ?_; rintro e w' ⟨rfl, rfl⟩; (try go_wp2_with fail)
  refine hK.out _ _ (by first | exact hHeld | assumption) (fun hHeld => ?_)
  clear hK K
  (try simp only [List.getElem_toArray]); (try simp only [List.getElem_cons_succ]); (try simp only [List.getElem_cons_zero]); (try simp only [Act.put]); (try simp only [List.setIfInBounds_toArray]); (try simp only [List.set_cons_succ]); (try simp only [List.set_cons_zero]); (try simp only [e0, e17, Bool.false_or, Bool.or_false])
  refine wpAnyH_take (i := 5) (v := ?_) rfl (by kernel_rfl) (by kernel_rfl) (by kernel_rfl) (fun _ _ _ h => h) (Or.inl ⟨by rfl, ?_⟩) (by assumption) ?_
  rotate_left
  · intro w hSw
    try dsimp only at hSw
    go_simp
    try with_reducible rfl
  (try simp only [List.getElem_toArray]); (try simp only [List.getElem_cons_succ]); (try simp only [List.getElem_cons_zero]); (try simp only [Act.put]); (try simp only [List.setIfInBounds_toArray]); (try simp only [List.set_cons_succ]); (try simp only [List.set_cons_zero]); (try simp only [e0, e17, Bool.false_or, Bool.or_false])
  refine wpAnyH_ready (rs := [7]) (by kernel_rfl) (by simp) ?_
  refine AllReadyH.cons rfl (fun K hK => ?_) AllReadyH.nil
  go_simp
  with_reducible refine (U6.out _ _ (by simp)).mono ?_; rintro e w' ⟨rfl, rfl⟩; (try go_wp2_with fail)
  refine hK.out _ _ (by first | exact hHeld | assumption) (fun hHeld => ?_)
  clear hK K
  (try simp only [List.getElem_toArray]); (try simp only [List.getElem_cons_succ]); (try simp only [List.getElem_cons_zero]); (try simp only [Act.put]); (try simp only [List.setIfInBounds_toArray]); (try simp only [List.set_cons_succ]); (try simp only [List.set_cons_zero]); (try simp only [e0, e17, Bool.false_or, Bool.or_false])
  refine wpAnyH_ready (rs := [12]) (by kernel_rfl) (by simp) ?_
  refine AllReadyH.cons rfl (fun K hK => ?_) AllReadyH.nil
  go_simp
  with_reducible refine (U16.out _ _ (by simp)).mono ?_; rintro e w' ⟨rfl, rfl⟩; (try go_wp2_with fail)
  refine hK.out _ _ (by first | exact hHeld | assumption) (fun hHeld => ?_)
  clear hK K
  (try simp only [List.getElem_toArray]); (try simp only [List.getElem_cons_succ]); (try simp only [List.getElem_cons_zero]); (try simp only [Act.put]); (try simp only [List.setIfInBounds_toArray]); (try simp only [List.set_cons_succ]); (try simp only [List.set_cons_zero]); (try simp only [e0, e17, Bool.false_or, Bool.or_false])
  refine wpAnyH_take (i := 16) (v := ?_) rfl (by kernel_rfl) (by kernel_rfl) (by kernel_rfl) (fun _ _ _ h => h) (Or.inl ⟨by rfl, ?_⟩) (by assumption) ?_
  rotate_left
  · intro w hSw
    try dsimp only at hSw
    go_simp
    try with_reducible rfl
  (try simp only [List.getElem_toArray]); (try simp only [List.getElem_cons_succ]); (try simp only [List.getElem_cons_zero]); (try simp only [Act.put]); (try simp only [List.setIfInBounds_toArray]); (try simp only [List.set_cons_succ]); (try simp only [List.set_cons_zero]); (try simp only [e0, e17, Bool.false_or, Bool.or_false])
  refine wpAnyH_take (i := 17) (v := ?_) rfl (by kernel_rfl) (by kernel_rfl) (by kernel_rfl) (fun _ _ _ h => h) (Or.inl ⟨by rfl, ?_⟩) (by assumption) ?_
  rotate_left
  · intro w hSw
    try dsimp only at hSw
    go_simp
    try with_reducible rfl
  (try simp only [List.getElem_toArray]); (try simp only [List.getElem_cons_succ]); (try simp only [List.getElem_cons_zero]); (try simp only [Act.put]); (try simp only [List.setIfInBounds_toArray]); (try simp only [List.set_cons_succ]); (try simp only [List.set_cons_zero]); (try simp only [e0, e17, Bool.false_or, Bool.or_false])
  refine wpAnyH_take (i := 18) (v := ?_) rfl (by kernel_rfl) (by kernel_rfl) (by kernel_rfl) (fun _ _ _ h => h) (Or.inl ⟨by rfl, ?_⟩) (by assumption) ?_
  rotate_left
  · intro w hSw
    try dsimp only at hSw
    go_simp
    try with_reducible rfl
  (try simp only [List.getElem_toArray]); (try simp only [List.getElem_cons_succ]); (try simp only [List.getElem_cons_zero]); (try simp only [Act.put]); (try simp only [List.setIfInBounds_toArray]); (try simp only [List.set_cons_succ]); (try simp only [List.set_cons_zero]); (try simp only [e0, e17, Bool.false_or, Bool.or_false])
  refine wpAnyH_take (i := 19) (v := ?_) rfl (by kernel_rfl) (by kernel_rfl) (by kernel_rfl) (fun _ _ _ h => h) (Or.inl ⟨by rfl, ?_⟩) (by assumption) ?_
  rotate_left
  · intro w hSw
    try dsimp only at hSw
    go_simp
    try with_reducible rfl
  (try simp only [List.getElem_toArray]); (try simp only [List.getElem_cons_succ]); (try simp only [List.getElem_cons_zero]); (try simp only [Act.put]); (try simp only [List.setIfInBounds_toArray]); (try simp only [List.set_cons_succ]); (try simp only [List.set_cons_zero]); (try simp only [e0, e17, Bool.false_or, Bool.or_false])
  refine wpAnyH_take (i := 20) (v := ?_) rfl (by kernel_rfl) (by kernel_rfl) (by kernel_rfl) (fun _ _ _ h => h) (Or.inl ⟨by rfl, ?_⟩) (by assumption) ?_
  rotate_left
  · intro w hSw
    try dsimp only at hSw
    go_simp
    try with_reducible rfl
  (try simp only [List.getElem_toArray]); (try simp only [List.getElem_cons_succ]); (try simp only [List.getElem_cons_zero]); (try simp only [Act.put]); (try simp only [List.setIfInBounds_toArray]); (try simp only [List.set_cons_succ]); (try simp only [List.set_cons_zero]); (try simp only [e0, e17, Bool.false_or, Bool.or_false])
  refine wpAnyH_take (i := 21) (v := ?_) rfl (by kernel_rfl) (by kernel_rfl) (by kernel_rfl) (fun _ _ _ h => h) (Or.inl ⟨by rfl, ?_⟩) (by assumption) ?_
  rotate_left
  · intro w hSw
    try dsimp only at hSw
    go_simp
    try with_reducible rfl
  (try simp only [List.getElem_toArray]); (try simp only [List.getElem_cons_succ]); (try simp only [List.getElem_cons_zero]); (try simp only [Act.put]); (try simp only [List.setIfInBounds_toArray]); (try simp only [List.set_cons_succ]); (try simp only [List.set_cons_zero]); (try simp only [e0, e17, Bool.false_or, Bool.or_false])
  refine wpAnyH_take (i := 22) (v := ?_) rfl (by kernel_rfl) (by kernel_rfl) (by kernel_rfl) (fun _ _ _ h => h) (Or.inl ⟨by rfl, ?_⟩) (by assumption) ?_
  rotate_left
  · intro w hSw
    try dsimp only at hSw
    go_simp
    try with_reducible rfl
  (try simp only [List.getElem_toArray]); (try simp only [List.getElem_cons_succ]); (try simp only [List.getElem_cons_zero]); (try simp only [Act.put]); (try simp only [List.setIfInBounds_toArray]); (try simp only [List.set_cons_succ]); (try simp only [List.set_cons_zero]); (try simp only [e0, e17, Bool.false_or, Bool.or_false])
  refine wpAnyH_take (i := 23) (v := ?_) rfl (by kernel_rfl) (by kernel_rfl) (by kernel_rfl) (fun _ _ _ h => h) (Or.inl ⟨by rfl, ?_⟩) (by assumption) ?_
  rotate_left
  · intro w hSw
    try dsimp only at hSw
    go_simp
    try with_reducible rfl
  (try simp only [List.getElem_toArray]); (try simp only [List.getElem_cons_succ]); (try simp only [List.getElem_cons_zero]); (try simp only [Act.put]); (try simp only [List.setIfInBounds_toArray]); (try simp only [List.set_cons_succ]); (try simp only [List.set_cons_zero]); (try simp only [e0, e17, Bool.false_or, Bool.or_false])
  refine wpAnyH_take (i := 26) (v := ?_) rfl (by kernel_rfl) (by kernel_rfl) (by kernel_rfl) (fun _ _ _ h => h) (Or.inl ⟨by rfl, ?_⟩) (by assumption) ?_
  rotate_left
  · intro w hSw
    try dsimp only at hSw
    go_simp
    try with_reducible rfl
  (try simp only [List.getElem_toArray]); (try simp only [List.getElem_cons_succ]); (try simp only [List.getElem_cons_zero]); (try simp only [Act.put]); (try simp only [List.setIfInBounds_toArray]); (try simp only [List.set_cons_succ]); (try simp only [List.set_cons_zero]); (try simp only [e0, e17, Bool.false_or, Bool.or_false])
  refine wpAnyH_ready (rs := [27]) (by kernel_rfl) (by simp) ?_
  refine AllReadyH.cons rfl (fun K hK => ?_) AllReadyH.nil
  go_simp
  refine hK.out _ _ (by simp) (fun hHeld => ?_)
  clear hK K
  (try simp only [List.getElem_toArray]); (try simp only [List.getElem_cons_succ]); (try simp only [List.getElem_cons_zero]); (try simp only [Act.put]); (try simp only [List.setIfInBounds_toArray]); (try simp only [List.set_cons_succ]); (try simp only [List.set_cons_zero]); (try simp only [e0, e17, Bool.false_or, Bool.or_false])
  refine wpAnyH_done (by kernel_rfl) ?_ _
  go_wp2_with fail
  refine bodyPost_ret (v := usesV true b6 (k == 9) b16 false true) (by simp [results, Tryz.results68, go_sem]) rfl ?_
  exact ⟨rfl, (((Below.refl _ w).alloc (Nat.le_refl _) _).alloc (by simp) _).drew⟩

end Go.Proofs.YtklpbkjplecdpaaGreat.Mks

/-
  Contract of marks.uses, whole.
-/
namespace Go.Proofs.YtklpbkjplecdpaaGreat.Mks
open Go.RowKit Go.Proofs.YtklpbkjplecdpaaGreat.Oct Go.Proofs.YtklpbkjplecdpaaGreat.Num Go.Proofs.YtklpbkjplecdpaaGreat.Scn

theorem uses_c (k : Int) (E A : ByteArray) (d : UInt8) (P R : ByteArray) (n : Int) (W : ByteArray) (m : Int) (hK : KindOf (stV k E A d P R n W) m) (w : World) :
    Calls Tryz.prog 68 #[stV k E A d P R n W] w fun x w' => x = .returned (usesV (betweenB k 3 12 || betweenB k 17 19) (betweenB k 6 10) (k == 9) (betweenB k 16 19)
      (k == 0 || betweenB k 9 10 || k == 17) (betweenB k 18 19 || (betweenB k 9 10 && betweenB m 1 3))) ∧ Below w.heap.size w w' := by
  have U9 := wth_of k 9 10 _ rfl
  have U18 := wth_of k 18 19 _ rfl
  have U3 := wth_of k 3 12 _ rfl
  have U17 := wth_of k 17 19 _ rfl
  have U6 := wth_of k 6 10 _ rfl
  have U16 := wth_of k 16 19 _ rfl
  by_cases h0 : k = 0
  · subst h0
    exact uses_a E A d P R n W w _ _ U9 U18 U3 U17 U6 U16
  by_cases h17 : k = 17
  · subst h17
    exact uses_e E A d P R n W w _ _ U9 U18 U3 U17 U6 U16
  have e0 : (k == 0) = false := by simpa using h0
  have e17 : (k == 17) = false := by simpa using h17
  generalize betweenB k 6 10 = b6 at *
  generalize betweenB k 16 19 = b16 at *
  rcases (by omega : (9 ≤ k ∧ k ≤ 10) ∨ (18 ≤ k ∧ k ≤ 19) ∨ (¬ (9 ≤ k ∧ k ≤ 10) ∧ 3 ≤ k ∧ k ≤ 12) ∨ (¬ (3 ≤ k ∧ k ≤ 12) ∧ ¬ (17 ≤ k ∧ k ≤ 19))) with h | h | h | h
  · have e9 : betweenB k 9 10 = true := decide_eq_true h
    have e18 : betweenB k 18 19 = false := decide_eq_false (by omega)
    have e3 : betweenB k 3 12 = true := decide_eq_true (by omega)
    have e17' : betweenB k 17 19 = false := decide_eq_false (by omega)
    rw [e9] at U9 ⊢
    rw [e18] at U18 ⊢
    rw [e3] at U3 ⊢
    rw [e17'] at U17 ⊢
    rw [e0, e17]
    exact uses_d k h0 h17 E A d P R n W m _ hK rfl w _ _ U9 U18 U3 U17 U6 U16
  · have e9 : betweenB k 9 10 = false := decide_eq_false (by omega)
    have e18 : betweenB k 18 19 = true := decide_eq_true h
    have e3 : betweenB k 3 12 = false := decide_eq_false (by omega)
    have e17' : betweenB k 17 19 = true := decide_eq_true (by omega)
    rw [e9] at U9 ⊢
    rw [e18] at U18 ⊢
    rw [e3] at U3 ⊢
    rw [e17'] at U17 ⊢
    rw [e0, e17]
    exact uses_f k h0 h17 E A d P R n W w _ _ U9 U18 U3 U17 U6 U16
  · have e9 : betweenB k 9 10 = false := decide_eq_false (by omega)
    have e18 : betweenB k 18 19 = false := decide_eq_false (by omega)
    have e3 : betweenB k 3 12 = true := decide_eq_true (by omega)
    have e17' : betweenB k 17 19 = false := decide_eq_false (by omega)
    rw [e9] at U9 ⊢
    rw [e18] at U18 ⊢
    rw [e3] at U3 ⊢
    rw [e17'] at U17 ⊢
    rw [e0, e17]
    exact uses_cc k h0 h17 E A d P R n W w _ _ U9 U18 U3 U17 U6 U16
  · have e9 : betweenB k 9 10 = false := decide_eq_false (by omega)
    have e18 : betweenB k 18 19 = false := decide_eq_false (by omega)
    have e3 : betweenB k 3 12 = false := decide_eq_false (by omega)
    have e17' : betweenB k 17 19 = false := decide_eq_false (by omega)
    rw [e9] at U9 ⊢
    rw [e18] at U18 ⊢
    rw [e3] at U3 ⊢
    rw [e17'] at U17 ⊢
    rw [e0, e17]
    exact uses_b k h0 h17 E A d P R n W w _ _ U9 U18 U3 U17 U6 U16
end Go.Proofs.YtklpbkjplecdpaaGreat.Mks

/-
  Contract of marks.Print.
-/
namespace Go.Proofs.YtklpbkjplecdpaaGreat.Mks
open Go.RowKit Go.Proofs.YtklpbkjplecdpaaGreat.Oct Go.Proofs.YtklpbkjplecdpaaGreat.Num Go.Proofs.YtklpbkjplecdpaaGreat.Scn Go.Proofs.YtklpbkjplecdpaaGreat.Tab Go.Proofs.YtklpbkjplecdpaaGreat.Pct Go.Proofs.YtklpbkjplecdpaaGreat.Utf
attribute [local go_sem ↓] Go.wp_at_zero Go.wp_at_succ

/-- All of w as it lay, and behind it the block o. -/
def Kp (w : World) (o : Obj) (Y : World) : Prop := Below w.heap.size w Y ∧ Y.heap[w.heap.size]? = some o
theorem Kp.lt {w Y : World} {o : Obj} (h : Kp w o Y) : w.heap.size < Y.heap.size := by
  have := h.2
  exact (Array.getElem?_eq_some_iff.1 this).1
theorem Kp.ne {w Y : World} {o : Obj} (h : Kp w o Y) : Y.heap.size ≠ w.heap.size := Nat.ne_of_gt h.lt
theorem Kp.first (w : World) (o : Obj) : Kp w o (w.alloc o) := ⟨(Below.refl _ w).alloc (Nat.le_refl _) _, heap_alloc_new w o⟩
theorem Kp.next {w Y Z : World} {o : Obj} (h : Kp w o Y) (b : Below Y.heap.size Y Z) : Kp w o Z :=
  ⟨h.1.trans (b.mono (Nat.le_of_lt h.lt)), (b.block _ h.lt).trans h.2⟩
theorem Kp.alloc {w Y : World} {o : Obj} (h : Kp w o Y) (p : Obj) : Kp w o (Y.alloc p) := h.next ((Below.refl _ Y).alloc (Nat.le_refl _) _)
theorem Kp.drew {w Y : World} {o : Obj} (h : Kp w o Y) : Kp w o Y.drew := ⟨⟨h.1.os, h.1.tape, h.1.output, h.1.size, h.1.block⟩, h.2⟩
/-- The block that Print writes its eight texts into. -/
abbrev told0 : Array Value := #[.string ⟨#[]⟩, .string ⟨#[]⟩, .string ⟨#[]⟩, .string ⟨#[]⟩, .string ⟨#[]⟩, .string ⟨#[]⟩, .string ⟨#[]⟩, .string ⟨#[]⟩]
theorem row_set {w : World} {g j : Nat} {cs : Array Value} {t : TypeId} {u : Value} (h : w.heap[g]? = some (.cells cs t (0, 0))) : (w.setCell ⟨g, j, none⟩ u).heap[g]? = some (.cells (cs.setIfInBounds j u) t (0, 0)) := by
  have hlt : g < w.heap.size := (Array.getElem?_eq_some_iff.1 h).1
  have h' : w.heap[g] = .cells cs t (0, 0) := by simpa [Array.getElem?_eq_getElem hlt] using h
  show (w.heap.modify g _)[g]? = _
  rw [Array.getElem?_eq_getElem (by simpa using hlt), Array.getElem_modify_self, h']
  rfl
/-- The eight texts, laid into that block. -/
def laid8 (Y : World) (g : Nat) (r0 r1 r2 r3 r4 r5 r6 r7 : ByteArray) : World :=
  (((((((Y.setCell ⟨g, 0, none⟩ (.string r0)).setCell ⟨g, 1, none⟩ (.string r1)).setCell ⟨g, 2, none⟩ (.string r2)).setCell ⟨g, 3, none⟩ (.string r3)).setCell ⟨g, 4, none⟩ (.string r4)).setCell ⟨g, 5, none⟩ (.string r5)).setCell ⟨g, 6, none⟩ (.string r6)).setCell ⟨g, 7, none⟩ (.string r7)
abbrev toldR (r0 r1 r2 r3 r4 r5 r6 r7 : ByteArray) : Array Value := #[.string r0, .string r1, .string r2, .string r3, .string r4, .string r5, .string r6, .string r7]
theorem laid8_below {w Y : World} {g : Nat} (hb : Below w.heap.size w Y) (hg : w.heap.size ≤ g) (r0 r1 r2 r3 r4 r5 r6 r7 : ByteArray) : Below w.heap.size w (laid8 Y g r0 r1 r2 r3 r4 r5 r6 r7) :=
  (((((((hb.setCell hg _).setCell hg _).setCell hg _).setCell hg _).setCell hg _).setCell hg _).setCell hg _).setCell hg _
/-- The cells of a state's box. -/
abbrev boxO (k : Int) (E A : ByteArray) (d : Int) (P R : ByteArray) (n : Int) (W : ByteArray) : Obj := .cells #[.int .i64 k, .string E, .string A, .int .u8 d, .string P, .string R, .int .i64 n, .string W] 24
theorem Kp.cells {w Y : World} {k : Int} {E A : ByteArray} {d : Int} {P R : ByteArray} {n : Int} {W : ByteArray} (h : Kp w (boxO k E A d P R n W) Y) :
    Y.cell? ⟨w.heap.size, 0, none⟩ = some (.int .i64 k) ∧ Y.cell? ⟨w.heap.size, 1, none⟩ = some (.string E) ∧ Y.cell? ⟨w.heap.size, 2, none⟩ = some (.string A) ∧ Y.cell? ⟨w.heap.size, 3, none⟩ = some (.int .u8 d) ∧
      Y.cell? ⟨w.heap.size, 4, none⟩ = some (.string P) ∧ Y.cell? ⟨w.heap.size, 5, none⟩ = some (.string R) ∧ Y.cell? ⟨w.heap.size, 6, none⟩ = some (.int .i64 n) ∧ Y.cell? ⟨w.heap.size, 7, none⟩ = some (.string W) :=
  ⟨cell_of_row Y _ 0 _ _ _ h.2, cell_of_row Y _ 1 _ _ _ h.2, cell_of_row Y _ 2 _ _ _ h.2, cell_of_row Y _ 3 _ _ _ h.2, cell_of_row Y _ 4 _ _ _ h.2, cell_of_row Y _ 5 _ _ _ h.2, cell_of_row Y _ 6 _ _ _ h.2, cell_of_row Y _ 7 _ _ _ h.2⟩

/-- A state as it lies in a call. -/
abbrev stW (s : St) : Value := stV s.k (S s.e) (S s.a) s.d (S s.p) (S s.r) s.n (S s.w)
/-- What comes in is no greater than that. -/
structure Sized (s : St) : Prop where
  k0 : -9223372036854775808 ≤ s.k
  k1 : s.k ≤ 9223372036854775807
  n0 : -9223372036854775808 ≤ s.n
  n1 : s.n ≤ 9223372036854775807
  e : s.e.length ≤ 268435456
  a : s.a.length ≤ 268435456
  p : s.p.length ≤ 268435456
  r : s.r.length ≤ 268435456
  w : s.w.length ≤ 268435456

theorem enc_le (l : List UInt8) : (encT l).length ≤ 12 * l.length := by
  have h1 := enc_len' (rep l)
  have h2 := rep_len (S l)
  rw [list_S, size_S] at h2
  unfold encT
  omega
theorem print_le (n : Int) (h0 : -9223372036854775808 ≤ n) (h1 : n ≤ 9223372036854775807) : (printL n).length ≤ 20 := by
  have h2 := decL_len n.natAbs
  have h3 := lowL_len (u := n.natAbs) (by omega)
  unfold printL
  split
  · rw [List.length_cons]; omega
  · omega
theorem show_le (s : St) (h : Sized s) : (showL s).length ≤ 67 + 12 * (s.e.length + s.a.length + s.p.length + s.r.length + s.w.length) := by
  have e1 := print_le s.k h.k0 h.k1
  have e2 := print_le s.n h.n0 h.n1
  have e3 := print_le (s.d.toNat : Int) (by omega) (by have := s.d.toNat_lt; omega)
  have e4 := enc_le s.e
  have e5 := enc_le s.a
  have e6 := enc_le s.p
  have e7 := enc_le s.r
  have e8 := enc_le s.w
  unfold showL fldsL
  rw [Lib.join_cons]
  simp only [Lib.joinTail, List.map_cons, List.map_nil, List.flatten_cons, List.flatten_nil, List.length_append, List.length_cons, List.length_nil]
  omega

end Go.Proofs.YtklpbkjplecdpaaGreat.Mks

/-
  Contract of marks.read: a text as a state.
-/
namespace Go.Proofs.YtklpbkjplecdpaaGreat.Mks
open Go.RowKit Go.Proofs.YtklpbkjplecdpaaGreat.Oct Go.Proofs.YtklpbkjplecdpaaGreat.Num Go.Proofs.YtklpbkjplecdpaaGreat.Scn Go.Proofs.YtklpbkjplecdpaaGreat.Tab Go.Proofs.YtklpbkjplecdpaaGreat.Pct Go.Proofs.YtklpbkjplecdpaaGreat.Utf
attribute [local go_sem ↓] Go.wp_at_zero Go.wp_at_succ

/-- The eight pieces as they lie in told. -/
def Ps (g : Nat) (t : List UInt8) (Y : World) : Prop := ∀ j, j < 8 → Y.cell? ⟨g, j, none⟩ = some (.string (pieceB t j))
theorem Ps.next {g : Nat} {t : List UInt8} {Y Z : World} (h : Ps g t Y) (b : Below Y.heap.size Y Z) : Ps g t Z := fun j hj => (b.cell (World.block_lt_of_cell? Y _ (h j hj))).trans (h j hj)
theorem u8_oct (n : Int) : IntKind.u8.wrap n = ((octI n).toNat : Int) := by
  unfold octI
  rw [IntKind.wrap_u8, UInt8.toNat_ofNat']
  omega

/-! ### The boxes -/
theorem info_str : (Tryz.prog.info? 9).map (·.size) = some 1 := by kernel_rfl
/-- A block of eight cells, written. -/
def set8 (Y : World) (g : Nat) (r0 r1 r2 r3 r4 r5 r6 r7 : Value) : World :=
  (((((((Y.setCell ⟨g, 0, none⟩ r0).setCell ⟨g, 1, none⟩ r1).setCell ⟨g, 2, none⟩ r2).setCell ⟨g, 3, none⟩ r3).setCell ⟨g, 4, none⟩ r4).setCell ⟨g, 5, none⟩ r5).setCell ⟨g, 6, none⟩ r6).setCell ⟨g, 7, none⟩ r7
theorem set8_row {Y : World} {g : Nat} {a0 a1 a2 a3 a4 a5 a6 a7 : Value} {T : TypeId} (h : Y.heap[g]? = some (.cells #[a0, a1, a2, a3, a4, a5, a6, a7] T (0, 0))) (r0 r1 r2 r3 r4 r5 r6 r7 : Value) : (set8 Y g r0 r1 r2 r3 r4 r5 r6 r7).heap[g]? = some (.cells #[r0, r1, r2, r3, r4, r5, r6, r7] T (0, 0)) := by
  have h8 := row_set (j := 7) (u := r7) (row_set (j := 6) (u := r6) (row_set (j := 5) (u := r5) (row_set (j := 4) (u := r4) (row_set (j := 3) (u := r3) (row_set (j := 2) (u := r2) (row_set (j := 1) (u := r1) (row_set (j := 0) (u := r0) h)))))))
  simp only [List.setIfInBounds_toArray, List.set_cons_zero, List.set_cons_succ] at h8
  exact h8
theorem row8 {Y : World} {g : Nat} {r0 r1 r2 r3 r4 r5 r6 r7 : Value} {T : TypeId} (e : Y.heap[g]? = some (.cells #[r0, r1, r2, r3, r4, r5, r6, r7] T (0, 0))) :
    (Y.cell? ⟨g, 0, none⟩ = some r0 ∧ Y.cell? ⟨g, 1, none⟩ = some r1 ∧ Y.cell? ⟨g, 2, none⟩ = some r2 ∧ Y.cell? ⟨g, 3, none⟩ = some r3 ∧ Y.cell? ⟨g, 4, none⟩ = some r4 ∧ Y.cell? ⟨g, 5, none⟩ = some r5 ∧ Y.cell? ⟨g, 6, none⟩ = some r6 ∧ Y.cell? ⟨g, 7, none⟩ = some r7) ∧
    (Y.frozen? ⟨g, 0, none⟩ = false ∧ Y.frozen? ⟨g, 1, none⟩ = false ∧ Y.frozen? ⟨g, 2, none⟩ = false ∧ Y.frozen? ⟨g, 3, none⟩ = false ∧ Y.frozen? ⟨g, 4, none⟩ = false ∧ Y.frozen? ⟨g, 5, none⟩ = false ∧ Y.frozen? ⟨g, 6, none⟩ = false ∧ Y.frozen? ⟨g, 7, none⟩ = false) :=
  ⟨⟨cell_of_row _ _ 0 _ _ _ e, cell_of_row _ _ 1 _ _ _ e, cell_of_row _ _ 2 _ _ _ e, cell_of_row _ _ 3 _ _ _ e, cell_of_row _ _ 4 _ _ _ e, cell_of_row _ _ 5 _ _ _ e, cell_of_row _ _ 6 _ _ _ e, cell_of_row _ _ 7 _ _ _ e⟩,
   ⟨frozen_of_row _ _ 0 _ _ e, frozen_of_row _ _ 1 _ _ e, frozen_of_row _ _ 2 _ _ e, frozen_of_row _ _ 3 _ _ e, frozen_of_row _ _ 4 _ _ e, frozen_of_row _ _ 5 _ _ e, frozen_of_row _ _ 6 _ _ e, frozen_of_row _ _ 7 _ _ e⟩⟩
theorem set8_below {B : Nat} {w Y : World} {g : Nat} (hb : Below B w Y) (hg : B ≤ g) (r0 r1 r2 r3 r4 r5 r6 r7 : Value) : Below B w (set8 Y g r0 r1 r2 r3 r4 r5 r6 r7) :=
  (((((((hb.setCell hg _).setCell hg _).setCell hg _).setCell hg _).setCell hg _).setCell hg _).setCell hg _).setCell hg _

def MaxAt (w : World) : Prop := ∃ m, w.cell? ⟨0, 0, none⟩ = some (.int .i64 m)
theorem MaxAt.kept {w w' : World} (h : MaxAt w) (hb : Below w.heap.size w w') : MaxAt w' := by
  obtain ⟨m, hm⟩ := h
  exact ⟨m, (hb.cell (World.block_lt_of_cell? w _ hm)).trans hm⟩

abbrev zero8 : Array Value := #[.int .i64 0, .string ⟨#[]⟩, .string ⟨#[]⟩, .int .u8 0, .string ⟨#[]⟩, .string ⟨#[]⟩, .int .i64 0, .string ⟨#[]⟩]
/-- While read asks its closures: all that lay before, the result's box, the pieces. -/
def KR (w : World) (t : List UInt8) (Y : World) : Prop := Below w.heap.size w Y ∧ Y.heap[w.heap.size]? = some (.cells zero8 24 (0, 0)) ∧ Ps (w.heap.size + 1) t Y
theorem KR.lt {w Y : World} {t : List UInt8} (h : KR w t Y) : w.heap.size < Y.heap.size := (Array.getElem?_eq_some_iff.1 h.2.1).1
theorem KR.next {w Y Z : World} {t : List UInt8} (h : KR w t Y) (b : Below Y.heap.size Y Z) : KR w t Z :=
  ⟨h.1.trans (b.mono (Nat.le_of_lt h.lt)), (b.block _ h.lt).trans h.2.1, h.2.2.next b⟩
theorem KR.drew {w Y : World} {t : List UInt8} (h : KR w t Y) : KR w t Y.drew := h.next (Below.refl _ Y).drew

abbrev stW' (t : List UInt8) : Value := stW (readL t)

end Go.Proofs.YtklpbkjplecdpaaGreat.Mks
