/-
  Part 13: PwLeaf, Bytes, PwFields.
-/
import Derived.Test.YtmccbcficbbidaaGreatDoorPwAllP12
import Derived.Test.YtmccbcficbbidaaGreatDoorPwAllP10
import Derived.Test.YtmccbcficbbidaaGreatDoorPwAllP6
import Derived.Lib.BufferRead
import Derived.Lib.Split
/-
  Contracts of leaves of package pipes and of its page: functions' names, constants, signs, what fits.
-/
namespace Go.Proofs.YtmccbcficbbidaaGreatDoor.Pw
open Go.RowKit Go.Proofs.YtmccbcficbbidaaGreatDoor.Oct Go.Proofs.YtmccbcficbbidaaGreatDoor.Lex Go.Proofs.YtmccbcficbbidaaGreatDoor.Lxw Go.Proofs.YtmccbcficbbidaaGreatDoor.Pip

theorem eqK (a b : List UInt8) : ((S a).toList == b) = decide (a = b) := by
  rw [ByteArray.toList_eq]
  simp only
  rw [Bool.eq_iff_iff]
  simp
theorem eqN (a : List UInt8) : (S a).toList.isEmpty = decide (a = []) := by
  rw [ByteArray.toList_eq, list_S]
  cases a <;> simp
/-- What Arity answers. -/
def arityE (l : List UInt8) : Value := match arityL l with
  | some m => .tuple #[.int .i64 (m.1 : Int), .int .i64 (m.2 : Int), .bool true]
  | none => .tuple #[.int .i64 0, .int .i64 0, .bool false]
set_option maxHeartbeats 1000000 in
set_option maxRecDepth 100000 in
theorem arity_c (l : List UInt8) (w : World) : Calls Tryz.prog 41 #[.string (S l)] w fun e w' => e = .returned (arityE l) ∧ w = w' := by
  have q0 : ((S l).toList == [108, 101, 110]) = decide (l = fLen) := eqK l _
  have q1 : ((S l).toList == [110, 111, 116]) = decide (l = fNot) := eqK l _
  have q2 : ((S l).toList == [117, 112, 112, 101, 114]) = decide (l = fUpper) := eqK l _
  have q3 : ((S l).toList == [108, 111, 119, 101, 114]) = decide (l = fLower) := eqK l _
  have q4 : ((S l).toList == [101, 113]) = decide (l = fEq) := eqK l _
  have q5 : ((S l).toList == [108, 116]) = decide (l = fLt) := eqK l _
  have q6 : ((S l).toList == [97, 110, 100]) = decide (l = fAnd) := eqK l _
  have q7 : ((S l).toList == [111, 114]) = decide (l = fOr) := eqK l _
  have q8 : ((S l).toList == [106, 111, 105, 110]) = decide (l = fJoin) := eqK l _
  have q9 : ((S l).toList == [100, 101, 102, 97, 117, 108, 116]) = decide (l = fDefault) := eqK l _
  have q10 : ((S l).toList == [105, 110, 100, 101, 120]) = decide (l = fIndex) := eqK l _
  have q11 : ((S l).toList == [112, 114, 105, 110, 116]) = decide (l = fPrint) := eqK l _
  have hE : Hid (∀ x, arityE l = x → x = arityE l) := fun _ h => h.symm
  by_cases h0 : l = fLen
  · rw [decide_eq_true h0] at q0
    have hA : Hid (arityE l = .tuple #[.int .i64 1, .int .i64 1, .bool true]) := by rw [h0]; rfl
    clear hE h0 q1 q2 q3 q4 q5 q6 q7 q8 q9 q10 q11
    generalize arityE l = ans at hA ⊢
    generalize S l = L at *
    go_enter Tryz.func41, Tryz.ntmps41
    go_wp2_with fail
    go_ret3
    exact ⟨by rw [hA.out]; first | done | rfl, rfl⟩
  rw [decide_eq_false h0] at q0
  by_cases h1 : l = fNot
  · rw [decide_eq_true h1] at q1
    have hA : Hid (arityE l = .tuple #[.int .i64 1, .int .i64 1, .bool true]) := by rw [h1]; rfl
    clear hE h1 q2 q3 q4 q5 q6 q7 q8 q9 q10 q11
    generalize arityE l = ans at hA ⊢
    generalize S l = L at *
    go_enter Tryz.func41, Tryz.ntmps41
    go_wp2_with fail
    go_ret3
    exact ⟨by rw [hA.out]; first | done | rfl, rfl⟩
  rw [decide_eq_false h1] at q1
  by_cases h2 : l = fUpper
  · rw [decide_eq_true h2] at q2
    have hA : Hid (arityE l = .tuple #[.int .i64 1, .int .i64 1, .bool true]) := by rw [h2]; rfl
    clear hE h2 q3 q4 q5 q6 q7 q8 q9 q10 q11
    generalize arityE l = ans at hA ⊢
    generalize S l = L at *
    go_enter Tryz.func41, Tryz.ntmps41
    go_wp2_with fail
    go_ret3
    exact ⟨by rw [hA.out]; first | done | rfl, rfl⟩
  rw [decide_eq_false h2] at q2
  by_cases h3 : l = fLower
  · rw [decide_eq_true h3] at q3
    have hA : Hid (arityE l = .tuple #[.int .i64 1, .int .i64 1, .bool true]) := by rw [h3]; rfl
    clear hE h3 q4 q5 q6 q7 q8 q9 q10 q11
    generalize arityE l = ans at hA ⊢
    generalize S l = L at *
    go_enter Tryz.func41, Tryz.ntmps41
    go_wp2_with fail
    go_ret3
    exact ⟨by rw [hA.out]; first | done | rfl, rfl⟩
  rw [decide_eq_false h3] at q3
  by_cases h4 : l = fEq
  · rw [decide_eq_true h4] at q4
    have hA : Hid (arityE l = .tuple #[.int .i64 2, .int .i64 2, .bool true]) := by rw [h4]; rfl
    clear hE h4 q5 q6 q7 q8 q9 q10 q11
    generalize arityE l = ans at hA ⊢
    generalize S l = L at *
    go_enter Tryz.func41, Tryz.ntmps41
    go_wp2_with fail
    go_ret3
    exact ⟨by rw [hA.out]; first | done | rfl, rfl⟩
  rw [decide_eq_false h4] at q4
  by_cases h5 : l = fLt
  · rw [decide_eq_true h5] at q5
    have hA : Hid (arityE l = .tuple #[.int .i64 2, .int .i64 2, .bool true]) := by rw [h5]; rfl
    clear hE h5 q6 q7 q8 q9 q10 q11
    generalize arityE l = ans at hA ⊢
    generalize S l = L at *
    go_enter Tryz.func41, Tryz.ntmps41
    go_wp2_with fail
    go_ret3
    exact ⟨by rw [hA.out]; first | done | rfl, rfl⟩
  rw [decide_eq_false h5] at q5
  by_cases h6 : l = fAnd
  · rw [decide_eq_true h6] at q6
    have hA : Hid (arityE l = .tuple #[.int .i64 2, .int .i64 2, .bool true]) := by rw [h6]; rfl
    clear hE h6 q7 q8 q9 q10 q11
    generalize arityE l = ans at hA ⊢
    generalize S l = L at *
    go_enter Tryz.func41, Tryz.ntmps41
    go_wp2_with fail
    go_ret3
    exact ⟨by rw [hA.out]; first | done | rfl, rfl⟩
  rw [decide_eq_false h6] at q6
  by_cases h7 : l = fOr
  · rw [decide_eq_true h7] at q7
    have hA : Hid (arityE l = .tuple #[.int .i64 2, .int .i64 2, .bool true]) := by rw [h7]; rfl
    clear hE h7 q8 q9 q10 q11
    generalize arityE l = ans at hA ⊢
    generalize S l = L at *
    go_enter Tryz.func41, Tryz.ntmps41
    go_wp2_with fail
    go_ret3
    exact ⟨by rw [hA.out]; first | done | rfl, rfl⟩
  rw [decide_eq_false h7] at q7
  by_cases h8 : l = fJoin
  · rw [decide_eq_true h8] at q8
    have hA : Hid (arityE l = .tuple #[.int .i64 2, .int .i64 2, .bool true]) := by rw [h8]; rfl
    clear hE h8 q9 q10 q11
    generalize arityE l = ans at hA ⊢
    generalize S l = L at *
    go_enter Tryz.func41, Tryz.ntmps41
    go_wp2_with fail
    go_ret3
    exact ⟨by rw [hA.out]; first | done | rfl, rfl⟩
  rw [decide_eq_false h8] at q8
  by_cases h9 : l = fDefault
  · rw [decide_eq_true h9] at q9
    have hA : Hid (arityE l = .tuple #[.int .i64 2, .int .i64 2, .bool true]) := by rw [h9]; rfl
    clear hE h9 q10 q11
    generalize arityE l = ans at hA ⊢
    generalize S l = L at *
    go_enter Tryz.func41, Tryz.ntmps41
    go_wp2_with fail
    go_ret3
    exact ⟨by rw [hA.out]; first | done | rfl, rfl⟩
  rw [decide_eq_false h9] at q9
  by_cases h10 : l = fIndex
  · rw [decide_eq_true h10] at q10
    have hA : Hid (arityE l = .tuple #[.int .i64 2, .int .i64 2, .bool true]) := by rw [h10]; rfl
    clear hE h10 q11
    generalize arityE l = ans at hA ⊢
    generalize S l = L at *
    go_enter Tryz.func41, Tryz.ntmps41
    go_wp2_with fail
    go_ret3
    exact ⟨by rw [hA.out]; first | done | rfl, rfl⟩
  rw [decide_eq_false h10] at q10
  by_cases h11 : l = fPrint
  · rw [decide_eq_true h11] at q11
    have hA : Hid (arityE l = .tuple #[.int .i64 1, .int .i64 8, .bool true]) := by rw [h11]; rfl
    clear hE h11 
    generalize arityE l = ans at hA ⊢
    generalize S l = L at *
    go_enter Tryz.func41, Tryz.ntmps41
    go_wp2_with fail
    go_ret3
    exact ⟨by rw [hA.out]; first | done | rfl, rfl⟩
  rw [decide_eq_false h11] at q11
  have hA : Hid (arityE l = .tuple #[.int .i64 0, .int .i64 0, .bool false]) := by
    show _ = _
    unfold arityE arityL
    rw [if_neg (by simp [h0, h1, h2, h3]), if_neg (by simp [h4, h5, h6, h7, h8, h9, h10]), if_neg h11]
  clear hE h0 h1 h2 h3 h4 h5 h6 h7 h8 h9 h10 h11
  generalize arityE l = ans at hA ⊢
  generalize S l = L at *
  go_enter Tryz.func41, Tryz.ntmps41
  go_wp2_with fail
  go_ret3
  exact ⟨by rw [hA.out]; first | done | rfl, rfl⟩
set_option maxHeartbeats 1000000 in
set_option maxRecDepth 100000 in
theorem rarity_c (l : List UInt8) (w : World) : Calls Tryz.prog 24 #[.string (S l)] w fun e w' => e = .returned (arityE l) ∧ w = w' := by
  have q0 : ((S l).toList == [108, 101, 110]) = decide (l = fLen) := eqK l _
  have q1 : ((S l).toList == [110, 111, 116]) = decide (l = fNot) := eqK l _
  have q2 : ((S l).toList == [117, 112, 112, 101, 114]) = decide (l = fUpper) := eqK l _
  have q3 : ((S l).toList == [108, 111, 119, 101, 114]) = decide (l = fLower) := eqK l _
  have q4 : ((S l).toList == [101, 113]) = decide (l = fEq) := eqK l _
  have q5 : ((S l).toList == [108, 116]) = decide (l = fLt) := eqK l _
  have q6 : ((S l).toList == [97, 110, 100]) = decide (l = fAnd) := eqK l _
  have q7 : ((S l).toList == [111, 114]) = decide (l = fOr) := eqK l _
  have q8 : ((S l).toList == [106, 111, 105, 110]) = decide (l = fJoin) := eqK l _
  have q9 : ((S l).toList == [100, 101, 102, 97, 117, 108, 116]) = decide (l = fDefault) := eqK l _
  have q10 : ((S l).toList == [105, 110, 100, 101, 120]) = decide (l = fIndex) := eqK l _
  have q11 : ((S l).toList == [112, 114, 105, 110, 116]) = decide (l = fPrint) := eqK l _
  have hE : Hid (∀ x, arityE l = x → x = arityE l) := fun _ h => h.symm
  by_cases h0 : l = fLen
  · rw [decide_eq_true h0] at q0
    have hA : Hid (arityE l = .tuple #[.int .i64 1, .int .i64 1, .bool true]) := by rw [h0]; rfl
    clear hE h0 q1 q2 q3 q4 q5 q6 q7 q8 q9 q10 q11
    generalize arityE l = ans at hA ⊢
    generalize S l = L at *
    go_enter Tryz.func24, Tryz.ntmps24
    go_wp2_with fail
    go_ret3
    exact ⟨by rw [hA.out]; first | done | rfl, rfl⟩
  rw [decide_eq_false h0] at q0
  by_cases h1 : l = fNot
  · rw [decide_eq_true h1] at q1
    have hA : Hid (arityE l = .tuple #[.int .i64 1, .int .i64 1, .bool true]) := by rw [h1]; rfl
    clear hE h1 q2 q3 q4 q5 q6 q7 q8 q9 q10 q11
    generalize arityE l = ans at hA ⊢
    generalize S l = L at *
    go_enter Tryz.func24, Tryz.ntmps24
    go_wp2_with fail
    go_ret3
    exact ⟨by rw [hA.out]; first | done | rfl, rfl⟩
  rw [decide_eq_false h1] at q1
  by_cases h2 : l = fUpper
  · rw [decide_eq_true h2] at q2
    have hA : Hid (arityE l = .tuple #[.int .i64 1, .int .i64 1, .bool true]) := by rw [h2]; rfl
    clear hE h2 q3 q4 q5 q6 q7 q8 q9 q10 q11
    generalize arityE l = ans at hA ⊢
    generalize S l = L at *
    go_enter Tryz.func24, Tryz.ntmps24
    go_wp2_with fail
    go_ret3
    exact ⟨by rw [hA.out]; first | done | rfl, rfl⟩
  rw [decide_eq_false h2] at q2
  by_cases h3 : l = fLower
  · rw [decide_eq_true h3] at q3
    have hA : Hid (arityE l = .tuple #[.int .i64 1, .int .i64 1, .bool true]) := by rw [h3]; rfl
    clear hE h3 q4 q5 q6 q7 q8 q9 q10 q11
    generalize arityE l = ans at hA ⊢
    generalize S l = L at *
    go_enter Tryz.func24, Tryz.ntmps24
    go_wp2_with fail
    go_ret3
    exact ⟨by rw [hA.out]; first | done | rfl, rfl⟩
  rw [decide_eq_false h3] at q3
  by_cases h4 : l = fEq
  · rw [decide_eq_true h4] at q4
    have hA : Hid (arityE l = .tuple #[.int .i64 2, .int .i64 2, .bool true]) := by rw [h4]; rfl
    clear hE h4 q5 q6 q7 q8 q9 q10 q11
    generalize arityE l = ans at hA ⊢
    generalize S l = L at *
    go_enter Tryz.func24, Tryz.ntmps24
    go_wp2_with fail
    go_ret3
    exact ⟨by rw [hA.out]; first | done | rfl, rfl⟩
  rw [decide_eq_false h4] at q4
  by_cases h5 : l = fLt
  · rw [decide_eq_true h5] at q5
    have hA : Hid (arityE l = .tuple #[.int .i64 2, .int .i64 2, .bool true]) := by rw [h5]; rfl
    clear hE h5 q6 q7 q8 q9 q10 q11
    generalize arityE l = ans at hA ⊢
    generalize S l = L at *
    go_enter Tryz.func24, Tryz.ntmps24
    go_wp2_with fail
    go_ret3
    exact ⟨by rw [hA.out]; first | done | rfl, rfl⟩
  rw [decide_eq_false h5] at q5
  by_cases h6 : l = fAnd
  · rw [decide_eq_true h6] at q6
    have hA : Hid (arityE l = .tuple #[.int .i64 2, .int .i64 2, .bool true]) := by rw [h6]; rfl
    clear hE h6 q7 q8 q9 q10 q11
    generalize arityE l = ans at hA ⊢
    generalize S l = L at *
    go_enter Tryz.func24, Tryz.ntmps24
    go_wp2_with fail
    go_ret3
    exact ⟨by rw [hA.out]; first | done | rfl, rfl⟩
  rw [decide_eq_false h6] at q6
  by_cases h7 : l = fOr
  · rw [decide_eq_true h7] at q7
    have hA : Hid (arityE l = .tuple #[.int .i64 2, .int .i64 2, .bool true]) := by rw [h7]; rfl
    clear hE h7 q8 q9 q10 q11
    generalize arityE l = ans at hA ⊢
    generalize S l = L at *
    go_enter Tryz.func24, Tryz.ntmps24
    go_wp2_with fail
    go_ret3
    exact ⟨by rw [hA.out]; first | done | rfl, rfl⟩
  rw [decide_eq_false h7] at q7
  by_cases h8 : l = fJoin
  · rw [decide_eq_true h8] at q8
    have hA : Hid (arityE l = .tuple #[.int .i64 2, .int .i64 2, .bool true]) := by rw [h8]; rfl
    clear hE h8 q9 q10 q11
    generalize arityE l = ans at hA ⊢
    generalize S l = L at *
    go_enter Tryz.func24, Tryz.ntmps24
    go_wp2_with fail
    go_ret3
    exact ⟨by rw [hA.out]; first | done | rfl, rfl⟩
  rw [decide_eq_false h8] at q8
  by_cases h9 : l = fDefault
  · rw [decide_eq_true h9] at q9
    have hA : Hid (arityE l = .tuple #[.int .i64 2, .int .i64 2, .bool true]) := by rw [h9]; rfl
    clear hE h9 q10 q11
    generalize arityE l = ans at hA ⊢
    generalize S l = L at *
    go_enter Tryz.func24, Tryz.ntmps24
    go_wp2_with fail
    go_ret3
    exact ⟨by rw [hA.out]; first | done | rfl, rfl⟩
  rw [decide_eq_false h9] at q9
  by_cases h10 : l = fIndex
  · rw [decide_eq_true h10] at q10
    have hA : Hid (arityE l = .tuple #[.int .i64 2, .int .i64 2, .bool true]) := by rw [h10]; rfl
    clear hE h10 q11
    generalize arityE l = ans at hA ⊢
    generalize S l = L at *
    go_enter Tryz.func24, Tryz.ntmps24
    go_wp2_with fail
    go_ret3
    exact ⟨by rw [hA.out]; first | done | rfl, rfl⟩
  rw [decide_eq_false h10] at q10
  by_cases h11 : l = fPrint
  · rw [decide_eq_true h11] at q11
    have hA : Hid (arityE l = .tuple #[.int .i64 1, .int .i64 8, .bool true]) := by rw [h11]; rfl
    clear hE h11 
    generalize arityE l = ans at hA ⊢
    generalize S l = L at *
    go_enter Tryz.func24, Tryz.ntmps24
    go_wp2_with fail
    go_ret3
    exact ⟨by rw [hA.out]; first | done | rfl, rfl⟩
  rw [decide_eq_false h11] at q11
  have hA : Hid (arityE l = .tuple #[.int .i64 0, .int .i64 0, .bool false]) := by
    show _ = _
    unfold arityE arityL
    rw [if_neg (by simp [h0, h1, h2, h3]), if_neg (by simp [h4, h5, h6, h7, h8, h9, h10]), if_neg h11]
  clear hE h0 h1 h2 h3 h4 h5 h6 h7 h8 h9 h10 h11
  generalize arityE l = ans at hA ⊢
  generalize S l = L at *
  go_enter Tryz.func24, Tryz.ntmps24
  go_wp2_with fail
  go_ret3
  exact ⟨by rw [hA.out]; first | done | rfl, rfl⟩

/-! ### Constants -/
theorem constantOf_c (k : Int) (w : World) : Calls Tryz.prog 51 #[.int .i64 k] w fun e w' => e = .returned (.string (S (if k = 5 then cTrue else if k = 6 then cFalse else if k = 7 then cNil else []))) ∧ w = w' := by
  by_cases h5 : k = 5
  · subst h5
    go_enter Tryz.func51, Tryz.ntmps51
    go_wp2_with fail
    go_ret
    exact ⟨rfl, rfl⟩
  · by_cases h6 : k = 6
    · subst h6
      go_enter Tryz.func51, Tryz.ntmps51
      go_wp2_with fail
      go_ret
      exact ⟨rfl, rfl⟩
    · by_cases h7 : k = 7
      · subst h7
        go_enter Tryz.func51, Tryz.ntmps51
        go_wp2_with fail
        go_ret
        exact ⟨rfl, rfl⟩
      · have hE : Hid ((if k = 5 then cTrue else if k = 6 then cFalse else if k = 7 then cNil else []) = ([] : List UInt8)) := by show _ = _; rw [if_neg h5, if_neg h6, if_neg h7]
        rw [hE.out]
        have b5 : (k == 5) = false := by rw [beq_eq_false_iff_ne]; exact h5
        have b6 : (k == 6) = false := by rw [beq_eq_false_iff_ne]; exact h6
        have b7 : (k == 7) = false := by rw [beq_eq_false_iff_ne]; exact h7
        clear hE
        go_enter Tryz.func51, Tryz.ntmps51
        go_wp2_with fail
        go_ret
        exact ⟨rfl, rfl⟩
/-- The number of a constant's name; 0 of another one. -/
def constK (l : List UInt8) : Int := if l = cTrue then 5 else if l = cFalse then 6 else if l = cNil then 7 else 0
theorem const_zero (l : List UInt8) : constK l = 0 ↔ constB l = false := by
  unfold constK constB
  by_cases h1 : l = cTrue
  · simp [h1]
  · by_cases h2 : l = cFalse
    · simp [h2]
    · by_cases h3 : l = cNil
      · simp [h3]
      · simp [h1, h2, h3]
set_option maxHeartbeats 1000000 in
set_option maxRecDepth 100000 in
theorem constant_c (l : List UInt8) (w : World) : Calls Tryz.prog 114 #[.string (S l)] w fun e w' => e = .returned (.int .i64 (constK l)) ∧ w = w' := by
  have q0 : ((S l).toList == [116, 114, 117, 101]) = decide (l = cTrue) := eqK l _
  have q1 : ((S l).toList == [102, 97, 108, 115, 101]) = decide (l = cFalse) := eqK l _
  have q2 : ((S l).toList == [110, 105, 108]) = decide (l = cNil) := eqK l _
  have HC5 : ∀ W, Calls Tryz.prog 51 #[.int .i64 5] W fun e w' => e = .returned (.string ⟨#[116, 114, 117, 101]⟩) ∧ W = w' := fun W => constantOf_c 5 W
  have HC6 : ∀ W, Calls Tryz.prog 51 #[.int .i64 6] W fun e w' => e = .returned (.string ⟨#[102, 97, 108, 115, 101]⟩) ∧ W = w' := fun W => constantOf_c 6 W
  have HC7 : ∀ W, Calls Tryz.prog 51 #[.int .i64 7] W fun e w' => e = .returned (.string ⟨#[110, 105, 108]⟩) ∧ W = w' := fun W => constantOf_c 7 W
  have hE : Hid (constK l = if decide (l = cTrue) = true then 5 else if decide (l = cFalse) = true then 6 else if decide (l = cNil) = true then 7 else 0) := by
    show _ = _
    unfold constK
    simp only [decide_eq_true_eq]
  generalize decide (l = cTrue) = b0 at *
  generalize decide (l = cFalse) = b1 at *
  generalize decide (l = cNil) = b2 at *
  generalize constK l = ans at *
  generalize S l = L at *
  go_enter Tryz.func114, Tryz.ntmps114
  go_wp2_with fail
  go_loop [3] (fun i => ∃ j : Nat, j ≤ 3 ∧ i = .int .i64 ((5 + j : Nat) : Int) ∧ Hid ((0 < j → b0 = false) ∧ (1 < j → b1 = false) ∧ (2 < j → b2 = false))) (fun i => 8 - (intOf i).toNat)
  case atStart => exact ⟨0, by omega, rfl, fun h => absurd h (by omega), fun h => absurd h (by omega), fun h => absurd h (by omega)⟩
  case round =>
    obtain ⟨j, hj, rfl, hb⟩ := hrel
    rcases (by omega : j = 0 ∨ j = 1 ∨ j = 2 ∨ j = 3) with rfl | rfl | rfl | rfl
    · clear HC6 HC7
      cases b0 with
      | true =>
        have hA : Hid (ans = 5) := hE.out
        clear hE hb
        go_wp2_with (go_at_call 51; refine (HC5 _).mono ?_; rintro e w' ⟨rfl, rfl⟩)
        go_ret
        exact ⟨by rw [hA.out]; rfl, rfl⟩
      | false =>
        clear hE
        have HB : Hid ((0 < 1 → false = false) ∧ (1 < 1 → b1 = false) ∧ (2 < 1 → b2 = false)) := ⟨fun _ => rfl, fun h => absurd h (by omega), fun h => absurd h (by omega)⟩
        go_wp2_with (go_at_call 51; refine (HC5 _).mono ?_; rintro e w' ⟨rfl, rfl⟩)
        go_round
        case rel => exact ⟨1, by omega, by go_num, by first | exact HB.out | simpa using HB.out⟩
        case measure => simp [intOf]
    · clear HC5 HC7
      have h0 := hb.out.1 (by omega)
      subst h0
      cases b1 with
      | true =>
        have hA : Hid (ans = 6) := hE.out
        clear hE hb
        go_wp2_with (go_at_call 51; refine (HC6 _).mono ?_; rintro e w' ⟨rfl, rfl⟩)
        go_ret
        exact ⟨by rw [hA.out]; rfl, rfl⟩
      | false =>
        clear hE
        have HB : Hid ((0 < 2 → false = false) ∧ (1 < 2 → false = false) ∧ (2 < 2 → b2 = false)) := ⟨fun _ => rfl, fun _ => rfl, fun h => absurd h (by omega)⟩
        go_wp2_with (go_at_call 51; refine (HC6 _).mono ?_; rintro e w' ⟨rfl, rfl⟩)
        go_round
        case rel => exact ⟨2, by omega, by go_num, by first | exact HB.out | simpa using HB.out⟩
        case measure => simp [intOf]
    · clear HC5 HC6
      have h0 := hb.out.1 (by omega)
      have h1 := hb.out.2.1 (by omega)
      subst h0
      subst h1
      cases b2 with
      | true =>
        have hA : Hid (ans = 7) := hE.out
        clear hE hb
        go_wp2_with (go_at_call 51; refine (HC7 _).mono ?_; rintro e w' ⟨rfl, rfl⟩)
        go_ret
        exact ⟨by rw [hA.out]; rfl, rfl⟩
      | false =>
        clear hE
        have HB : Hid ((0 < 3 → false = false) ∧ (1 < 3 → false = false) ∧ (2 < 3 → false = false)) := ⟨fun _ => rfl, fun _ => rfl, fun _ => rfl⟩
        go_wp2_with (go_at_call 51; refine (HC7 _).mono ?_; rintro e w' ⟨rfl, rfl⟩)
        go_round
        case rel => exact ⟨3, by omega, by go_num, by first | exact HB.out | simpa using HB.out⟩
        case measure => simp [intOf]
    · have h0 := hb.out.1 (by omega)
      have h1 := hb.out.2.1 (by omega)
      have h2 := hb.out.2.2 (by omega)
      subst h0
      subst h1
      subst h2
      have hA : Hid (ans = 0) := hE.out
      clear hE hb HC5 HC6 HC7
      go_wp2_with fail
      go_ret
      exact ⟨by rw [hA.out]; rfl, rfl⟩
theorem rconstant_c (l : List UInt8) (w : World) : Calls Tryz.prog 62 #[.string (S l)] w fun e w' => e = .returned (.bool (constB l)) ∧ w = w' := by
  have q0 : ((S l).toList == [116, 114, 117, 101]) = decide (l = cTrue) := eqK l _
  have q1 : ((S l).toList == [102, 97, 108, 115, 101]) = decide (l = cFalse) := eqK l _
  have q2 : ((S l).toList == [110, 105, 108]) = decide (l = cNil) := eqK l _
  have hE : Hid (constB l = (decide (l = cTrue) || decide (l = cFalse) || decide (l = cNil))) := by
    show _ = _
    unfold constB
    rw [Bool.eq_iff_iff]
    simp [or_assoc]
  generalize decide (l = cTrue) = b0 at *
  generalize decide (l = cFalse) = b1 at *
  generalize decide (l = cNil) = b2 at *
  generalize constB l = ans at *
  generalize S l = L at *
  cases b0 <;> cases b1 <;> cases b2
  all_goals go_enter Tryz.func62, Tryz.ntmps62
  all_goals go_wp2_with fail
  all_goals go_ret
  all_goals exact ⟨by rw [hE.out]; rfl, rfl⟩

/-! ### Signs, functions, what fits -/
abbrev wdV (x : Wd × Nat) : Value := .agg #[.int .i64 (x.1.k : Int), .string (S x.1.x), .int .i64 (x.2 : Int)]
theorem isSign_c (x : Wd × Nat) (p : List UInt8) (w : World) : Calls Tryz.prog 89 #[wdV x, .string (S p)] w fun e w' => e = .returned (.bool (decide (x.1.k = 6 ∧ x.1.x = p))) ∧ Below w.heap.size w w' := by
  obtain ⟨⟨k, t⟩, n⟩ := x
  have hal : Hid (Below w.heap.size w (w.alloc (.cells #[.int .i64 (k : Int), .string (S t), .int .i64 (n : Int)] 99))) := (Below.refl _ w).alloc (Nat.le_refl _) _
  have hE : Hid (decide (k = 6 ∧ t = p) = (decide ((k : Int) = 6) && decide (t = p))) := by
    show _ = _
    rw [Bool.eq_iff_iff]
    simp
    omega
  have he : ((S t).toList == (S p).toList) = decide (t = p) := by
    rw [ByteArray.toList_eq, ByteArray.toList_eq, list_S, list_S]
    by_cases h : t = p
    · rw [h]; simp
    · rw [decide_eq_false h, beq_eq_false_iff_ne]; exact h
  show Calls Tryz.prog 89 #[.agg #[.int .i64 (k : Int), .string (S t), .int .i64 (n : Int)], .string (S p)] w fun e w' => e = .returned (.bool (decide (k = 6 ∧ t = p))) ∧ Below w.heap.size w w'
  generalize decide (k = 6 ∧ t = p) = ans at *
  generalize decide (t = p) = b at *
  generalize S t = T at *
  generalize S p = P at *
  generalize (n : Int) = n at *
  by_cases h6 : (k : Int) = 6
  · rw [h6] at hal ⊢
    have hA : Hid (ans = b) := by show _ = _; rw [hE.out, decide_eq_true h6, Bool.true_and]
    clear hE h6
    go_enter Tryz.func89, Tryz.ntmps89
    go_wp2_with fail
    go_ret
    exact ⟨by rw [hA.out]; rfl, hal.out⟩
  · have hA : Hid (ans = false) := by show _ = _; rw [hE.out, decide_eq_false h6, Bool.false_and]
    have b6 : ((k : Int) == 6) = false := by rw [beq_eq_false_iff_ne]; exact h6
    clear hE
    generalize (k : Int) = k at *
    go_enter Tryz.func89, Tryz.ntmps89
    go_wp2_with fail
    go_ret
    exact ⟨by rw [hA.out]; rfl, hal.out⟩
theorem within_c (n a b : Int) (w : World) :
    Calls Tryz.prog 18 #[.int .i64 n, .int .i64 a, .int .i64 b] w fun e w' => e = .returned (.bool (decide (a ≤ n ∧ n ≤ b))) ∧ w = w' := by
  go_enter Tryz.func18, Tryz.ntmps18
  go_wp2
  all_goals go_ret
  all_goals (refine ⟨ret_bool ?_, rfl⟩; simp; try omega)
end Go.Proofs.YtmccbcficbbidaaGreatDoor.Pw

/-
  Octets in memory: a slice of octets that the call itself made; what it is as a text.
-/
namespace Go.Proofs.YtmccbcficbbidaaGreatDoor.Oct
open Go.RowKit

/-- An octet's value. -/
abbrev bv (c : UInt8) : Value := .int .u8 (c.toNat : Int)

/-- 'string(b)' of a slice of the call's own that holds the octets l, nil or not. -/
theorem conv_own {w : World} {base n : Nat} {v : Value} {l : List UInt8} (h : w.ownsRow base 5 1 v n (l.map bv)) :
    (convert 58 9 v).run Tryz.prog w = .ok (.string (S l)) w := by
  have hn : l.length = n := by simpa using h.1
  rcases h.2 with ⟨rfl, hz⟩ | ⟨g, cap, cur, rfl, hg, hh, hnc, hcm, hcs, htk⟩
  · have hl : l = [] := List.eq_nil_of_length_eq_zero (by omega)
    subst hl
    exact Lib.run_convert_nil_bytes w _ _ 5 0 Tryz.underlying58 Tryz.underlying5 Tryz.underlying9
  · subst hn
    exact run_convert_bytes_back w _ _ 5 ⟨g, 0, none⟩ cap l Tryz.underlying58 Tryz.underlying5 Tryz.underlying9
      (fun j hj => by
        have h1 := h.cellAt j (by omega)
        rw [Addr.add_lit, Nat.zero_add, h1]
        simp [hj])

/-- The cells of the first k octets of l. -/
def cellsTo (l : List UInt8) (k : Nat) : List Value := (l.take k).map bv
theorem cellsTo_all (l : List UInt8) (k : Nat) (h : l.length ≤ k) : cellsTo l k = l.map bv := by unfold cellsTo; rw [List.take_of_length_le h]
theorem cellsTo_succ (l : List UInt8) (k : Nat) (c : UInt8) (h : l[k]? = some c) : cellsTo l k ++ [bv c] = cellsTo l (k + 1) := by
  unfold cellsTo
  rw [List.take_add_one, h]
  simp

theorem own_base {w : World} {base n : Nat} {e : TypeId} {v : Value} {xs : List Value} (h : w.ownsRow base e 1 v n xs) : ∀ k, v.ownBlock = some k → base ≤ k := by
  intro k hk
  rcases h.2 with ⟨rfl, _⟩ | ⟨g, cap, cur, rfl, hg, _⟩
  · simp [Value.ownBlock] at hk
  · simp [Value.ownBlock] at hk; omega

/-- The new octet's cell, as an append of one octet asks for it. -/
theorem push_cell {w : World} {x : Int} {c : UInt8} (h : x = (c.toNat : Int)) (j : Nat) (u : Value) (hj : [bv c][j]? = some u) :
    (w.alloc (.cells #[.int .u8 x] 5)).cell? ((⟨w.heap.size, 0, none⟩ : Addr).add j) = some u := by
  subst h
  match j, hj with
  | 0, hj => simp at hj; subst hj; simp [Addr.add]
theorem push_one {c : UInt8} (u : Value) (hu : u ∈ [bv c]) : u.oneCell' = true := by simp at hu; subst hu; rfl

/-- Behind an append of one octet. -/
theorem push_own {w wr w1 : World} {B k : Nat} {v v' : Value} {l : List UInt8} {c : UInt8} {o : Obj} (hrow : wr.ownsRow B 5 1 v k (cellsTo l k)) (hbel : Below B w wr) (hB : B ≤ wr.heap.size)
    (hown : w1.ownsRow B 5 1 v' (k + 1) (cellsTo l k ++ [bv c])) (hgrow : (wr.alloc o).grownBy w1 v.ownBlock) (hl : l[k]? = some c) :
    w1.ownsRow B 5 1 v' (k + 1) (cellsTo l (k + 1)) ∧ Below B w w1 :=
  ⟨cellsTo_succ l k c hl ▸ hown, (hbel.alloc hB _).grown hgrow (by simp; omega) (own_base hrow)⟩
end Go.Proofs.YtmccbcficbbidaaGreatDoor.Oct

/-
  Contracts of package pipes: fields, variable.
-/
namespace Go.Proofs.YtmccbcficbbidaaGreatDoor.Pw
open Go.RowKit Go.Proofs.YtmccbcficbbidaaGreatDoor.Oct Go.Proofs.YtmccbcficbbidaaGreatDoor.Lex Go.Proofs.YtmccbcficbbidaaGreatDoor.Lxw Go.Proofs.YtmccbcficbbidaaGreatDoor.Pip

/-! ### Cuts at points -/
theorem idx_none (n : List UInt8) (h : ∀ c ∈ n, c ≠ 46) : Lib.index n [46] = -1 := by
  induction n with
  | nil => rfl
  | cons c n ih =>
    have hc : ((46 : UInt8) == c) = false := by rw [beq_eq_false_iff_ne]; exact fun e => h c (by simp) e.symm
    have e : ([46] : List UInt8).isPrefixOf (c :: n) = false := by simp [List.isPrefixOf, hc]
    unfold Lib.index
    rw [e, ih (fun d hd => h d (by simp [hd]))]
    rfl
theorem idx_dot (n t : List UInt8) (h : ∀ c ∈ n, c ≠ 46) : Lib.index (n ++ 46 :: t) [46] = (n.length : Int) := by
  induction n with
  | nil => rfl
  | cons c n ih =>
    have hc : ((46 : UInt8) == c) = false := by rw [beq_eq_false_iff_ne]; exact fun e => h c (by simp) e.symm
    have e : ([46] : List UInt8).isPrefixOf (c :: (n ++ 46 :: t)) = false := by simp [List.isPrefixOf, hc]
    rw [List.cons_append]
    unfold Lib.index
    rw [e, ih (fun d hd => h d (by simp [hd]))]
    have hm : ((n.length : Int) == -1) = false := by rw [beq_eq_false_iff_ne]; omega
    rw [hm]
    simp
theorem cut_first (n : List UInt8) (ns : List (List UInt8)) (h : ∀ c ∈ n, c ≠ 46) : (Lib.cut (n ++ pathL ns) [46]).1 = n := by
  unfold Lib.cut
  cases ns with
  | nil =>
    have e : n ++ pathL [] = n := List.append_nil n
    rw [e, idx_none n h]
    rfl
  | cons a ns =>
    rw [path_cons, idx_dot n _ h, if_pos (by omega)]
    simp
theorem cut_path (n : List UInt8) (ns : List (List UInt8)) : Lib.cut (pathL (n :: ns)) [46] = ([], n ++ pathL ns, true) := by
  have e : pathL (n :: ns) = [] ++ 46 :: (n ++ pathL ns) := by rw [path_cons]; rfl
  unfold Lib.cut
  rw [e, idx_dot [] _ (fun c hc => nomatch hc)]
  rfl
theorem split_path (ms : List (List UInt8)) : ∀ (n : List UInt8) (k : Nat), (∀ c ∈ n, c ≠ 46) → (∀ m ∈ ms, ∀ c ∈ m, c ≠ 46) → ms.length ≤ k → Lib.splitK [46] 0 k (n ++ pathL ms) = n :: ms := by
  induction ms with
  | nil =>
    intro n k hn _ _
    have e : n ++ pathL [] = n := List.append_nil n
    rw [e]
    cases k with
    | zero => rfl
    | succ k =>
      unfold Lib.splitK
      rw [idx_none n hn]
      rfl
  | cons m ms ih =>
    intro n k hn hm hk
    cases k with
    | zero => simp at hk
    | succ k =>
      unfold Lib.splitK
      rw [path_cons, idx_dot n _ hn]
      have hne : ((n.length : Int) == -1) = false := by rw [beq_eq_false_iff_ne]; omega
      rw [hne, if_neg (by simp), Int.toNat_natCast]
      have e1 : (n ++ 46 :: (m ++ pathL ms)).take (n.length + 0) = n := by rw [Nat.add_zero, List.take_left]
      have e2 : (n ++ 46 :: (m ++ pathL ms)).drop (n.length + ([46] : List UInt8).length) = m ++ pathL ms := by
        rw [← List.drop_drop, List.drop_left]
        rfl
      rw [e1, e2, ih m k (hm m (by simp)) (fun x hx => hm x (by simp [hx])) (by simp at hk; omega)]
theorem count_path (ms : List (List UInt8)) : ∀ (n : List UInt8) (f : Nat), (∀ c ∈ n, c ≠ 46) → (∀ m ∈ ms, ∀ c ∈ m, c ≠ 46) → (n ++ pathL ms).length < f → Lib.countFrom [46] f (n ++ pathL ms) = ms.length := by
  induction ms with
  | nil =>
    intro n f hn _ hf
    have e : n ++ pathL [] = n := List.append_nil n
    rw [e]
    cases f with
    | zero => omega
    | succ f =>
      unfold Lib.countFrom
      rw [idx_none n hn]
      rfl
  | cons m ms ih =>
    intro n f hn hm hf
    cases f with
    | zero => omega
    | succ f =>
      rw [path_cons] at hf ⊢
      unfold Lib.countFrom
      rw [idx_dot n _ hn]
      have hne : ((n.length : Int) == -1) = false := by rw [beq_eq_false_iff_ne]; omega
      have e2 : (n ++ 46 :: (m ++ pathL ms)).drop (n.length + ([46] : List UInt8).length) = m ++ pathL ms := by
        rw [← List.drop_drop, List.drop_left]
        rfl
      rw [hne, if_neg (by simp), Int.toNat_natCast, e2, ih m f (hm m (by simp)) (fun x hx => hm x (by simp [hx])) (by simp at hf ⊢; omega), List.length_cons]
      omega
theorem split_names (n : List UInt8) (ms : List (List UInt8)) (hn : ∀ c ∈ n, c ≠ 46) (hm : ∀ m ∈ ms, ∀ c ∈ m, c ≠ 46) :
    Lib.countB (S (n ++ pathL ms)) (S [46]) = ms.length ∧ (Lib.splitB (S [46]) 0 ms.length (S (n ++ pathL ms))).map Value.string = (n :: ms).map fun x => .string (S x) := by
  constructor
  · show Lib.count (S (n ++ pathL ms)).data.toList (S [46]).data.toList = _
    rw [list_S, list_S]
    exact count_path ms n _ hn hm (Nat.lt_succ_self _)
  · have h := Lib.splitB_data (S [46]) 0 ms.length (S (n ++ pathL ms))
    rw [list_S, list_S, split_path ms n _ hn hm (Nat.le_refl _)] at h
    rw [← h, List.map_map]
    apply List.map_congr_left
    intro x _
    show Value.string x = Value.string (S x.data.toList)
    rw [S_list]

/-! ### fields -/
theorem info_str : (Tryz.prog.info? 9).map (fun i => (i.zero, i.size, i.bytes)) = some (some (.string ⟨#[]⟩), 1, 16) := by kernel_rfl
theorem push_nm (n : List UInt8) : ∀ u ∈ nmC n, u.oneCell' = true := by
  intro u hu
  simp only [List.mem_cons, List.not_mem_nil, or_false] at hu
  subst hu
  rfl
/-- A name is put to the names. -/
theorem PathR.push {base : Nat} {w0 w wB : World} {v v' : Value} {ns : List (List UInt8)} {o : Obj} {n : List UInt8} (h : PathR base w v ns) (hk : Below base w0 w) (hb : base ≤ w.heap.size)
    (hown : wB.ownsRow base 9 1 v' (ns.length + 1) (ns.flatMap nmC ++ nmC n)) (hg : (w.alloc o).grownBy wB v.ownBlock) : PathR base wB v' (ns ++ [n]) ∧ Below base w0 wB := by
  refine ⟨?_, (hk.alloc hb _).grown hg (by simp; omega) fun k he => own_ge h k he⟩
  show World.ownsRow _ _ _ _ _ _ _
  rw [List.length_append, List.length_singleton, List.flatMap_append]
  simpa using hown
/-- What fields answers. -/
def FieldsTo (ns : List (List UInt8)) (w : World) (e : Ending) (w' : World) : Prop := Below w.heap.size w w' ∧ ((ns.length ≤ 16 ∧ ∃ v, e = .returned v ∧ PathR w.heap.size w' v ns) ∨ (16 < ns.length ∧ e = Fault 42))
set_option maxHeartbeats 1000000 in
set_option maxRecDepth 100000 in
theorem fields_c (ns : List (List UInt8)) (hns : ∀ n ∈ ns, nameB n = true) (hl : (pathL ns).length ≤ 4194304) (w : World) (hM : MaxAt w) :
    Calls Tryz.prog 115 #[.string (S (pathL ns))] w (FieldsTo ns w) := by
  obtain ⟨mm, hmm⟩ := hM
  have hcut := Tryz.strings_Cut (S (pathL ns)) (S [46]) mm w (by rw [size_S]; omega) hmm
  rw [list_S, list_S] at hcut
  cases ns with
  | nil =>
    replace hcut : Calls Tryz.prog 128 #[.string ⟨#[]⟩, .string ⟨#[46]⟩] w fun e w' => e = .returned (.tuple #[.string ⟨#[]⟩, .string ⟨#[]⟩, .bool false]) ∧ ∃ n, w' = w.drewN n := hcut
    show Calls Tryz.prog 115 #[.string ⟨#[]⟩] w (FieldsTo [] w)
    go_enter Tryz.func115, Tryz.ntmps115
    go_wp2_with fail
    refine hcut.mono ?_
    rintro e w1 ⟨rfl, q, hw1⟩
    have HB := Lib.hid (grown_q hw1)
    clear hw1
    go_wp2_with (go_at_call 57; refine (demand_yes _ _).mono ?_; rintro e w2 ⟨rfl, rfl⟩)
    go_ret
    exact ⟨HB.out, .inl ⟨Nat.zero_le _, _, rfl, PathR.nil _ _⟩⟩
  | cons n ms =>
    have hnd : ∀ x ∈ n :: ms, ∀ c ∈ x, c ≠ 46 := fun x hx => (name_of (hns x hx)).2.2.2
    obtain ⟨hc1, hc2⟩ := split_names n ms (hnd n (by simp)) fun m hm => hnd m (by simp [hm])
    rw [cut_path] at hcut
    have hpl : pathL (n :: ms) = 46 :: (n ++ pathL ms) := path_cons n ms
    have htl : (n ++ pathL ms).length ≤ 4194304 := by rw [hpl, List.length_cons] at hl; omega
    have HSp := Lib.hid (fun W (h : MaxAt W) => show Calls Tryz.prog 129 #[.string (S (n ++ pathL ms)), .string ⟨#[46]⟩] W fun e w' => e = .returned (.slice (some ⟨W.heap.size, 0, none⟩) (ms.length + 1) (ms.length + 1)) ∧ w' = W.alloc (.cells ((n :: ms).map fun x => .string (S x)).toArray 9) by
      obtain ⟨m, hm⟩ := h
      have hsp := Tryz.strings_Split (S (n ++ pathL ms)) (S [46]) m W (by rw [size_S]; omega) hm (by decide)
      rw [hc1, hc2] at hsp
      exact hsp)
    have hne : (S (pathL (n :: ms))).toList.isEmpty = false := by rw [eqN, hpl]; rfl
    obtain ⟨N, hN⟩ : ∃ N, N = ms.length + 1 := ⟨_, rfl⟩
    have hNl : (n :: ms).length = N := by rw [hN]; rfl
    have HNL := Lib.hid hNl
    have hNb : N ≤ 4194304 := by
      have : ∀ ms : List (List UInt8), ms.length ≤ (pathL ms).length := fun ms => by
        induction ms with
        | nil => exact Nat.zero_le _
        | cons a ms ih => rw [path_cons]; simp; omega
      have := this (n :: ms)
      rw [hNl] at this
      omega
    have HM : Hid (∀ W, Below w.heap.size w W → MaxAt W) := fun W hW => MaxAt.kept ⟨mm, hmm⟩ hW
    have HName := Lib.hid (fun k (h : k < (n :: ms).length) W => show Calls Tryz.prog 64 #[.string (S (n :: ms)[k])] W fun e w' => e = .returned (.bool true) ∧ Below W.heap.size W w' by
      have h5 := name_c (S (n :: ms)[k]) W
      rw [list_S, hns _ (List.getElem_mem h)] at h5
      exact h5)
    have HClone := Lib.hid (fun k (h : k < (n :: ms).length) W => clone_c (S (n :: ms)[k]) W (by
      rw [size_S]
      have := (name_of (hns _ (List.getElem_mem h))).2.1
      omega))
    have hNi : (N : Int) ≤ 4194304 := by omega
    replace hcut : Calls Tryz.prog 128 #[.string (S (pathL (n :: ms))), .string ⟨#[46]⟩] w fun e w' => e = .returned (.tuple #[.string ⟨#[]⟩, .string (S (n ++ pathL ms)), .bool true]) ∧ ∃ n, w' = w.drewN n := hcut
    rw [← hN] at HSp
    clear hc1 hc2 hnd hpl htl hns hl hmm hN hNl
    generalize S (pathL (n :: ms)) = P at *
    generalize S (n ++ pathL ms) = T at *
    generalize n :: ms = ns at *
    go_enter Tryz.func115, Tryz.ntmps115
    go_wp2_with fail
    refine hcut.mono ?_
    clear hcut
    rintro e w1 ⟨rfl, q, hw1⟩
    have HB := Lib.hid (grown_q hw1)
    clear hw1
    have hsp := HSp.out w1 (HM.out w1 HB.out)
    go_wp2_with (go_at_call 57; refine (demand_yes _ _).mono ?_; rintro e w2 ⟨rfl, rfl⟩)
    refine hsp.mono ?_
    clear hsp
    rintro e w2 ⟨rfl, hw2⟩
    have hal : Below w1.heap.size w1 w2 := hw2 ▸ (Below.refl _ w1).alloc (Nat.le_refl _) _
    have HCell : Hid (∀ W, Below w2.heap.size w2 W → ∀ k (h : k < ns.length), W.cell? ⟨w1.heap.size, k, none⟩ = some (.string (S ns[k]))) := fun W hW k hk => by
      have h1 : w2.cell? ⟨w1.heap.size, k, none⟩ = some (.string (S ns[k])) := by
        rw [hw2]
        exact (cell_of_row _ _ k _ _ _ (heap_alloc_new w1 _)).trans (by simp [hk])
      exact some_up h1 hW
    have HB2 := Lib.hid (HB.out.trans (hal.mono HB.out.size))
    clear hal hw2
    go_wp2_with fail
    go_loopw [6, 23] (fun out i wr => ∃ k : Nat, k ≤ N ∧ i = .int .i64 (k : Int) ∧ Hid (PathR w2.heap.size wr out (ns.take k)) ∧ Hid (Below w2.heap.size w2 wr)) (fun _ i _ => N - (intOf i).toNat)
    case atStart => exact ⟨0, Nat.zero_le _, rfl, PathR.nil _ _, Below.refl _ _⟩
    case round =>
      obtain ⟨k, hk, rfl, hP, hBw⟩ := hrel
      obtain ⟨vp, vc, hv⟩ := own_shape hP.out
      have hlen : (ns.take k).length = k := by rw [List.length_take, HNL.out]; omega
      rw [hlen] at hv
      subst hv
      have HLen := Lib.hid hlen
      clear hlen
      have i0 : (0 : Int) ≤ (k : Int) := by omega
      by_cases hlt : k < N
      · have hkl : k < ns.length := by rw [HNL.out]; exact hlt
        have hc := HCell.out wr hBw.out k hkl
        have i1 : (k : Int) < (N : Int) := by omega
        have hd : decide ((k : Int) < (N : Int)) = true := decide_eq_true i1
        have hnm := HName.out k hkl wr
        have hcl := HClone.out k hkl
        have HT : Hid (ns.take (k + 1) = ns.take k ++ [ns[k]]) := List.take_succ_eq_append_getElem hkl
        have HK := Lib.hid hk
        generalize ns[k] = x at *
        go_wp2_with fail
        refine hnm.mono ?_
        clear hnm
        rintro e w3 ⟨rfl, hb3⟩
        have hb23 := hBw.out.trans (hb3.mono hBw.out.size)
        have H3 := Lib.hid (And.intro (hP.out.same (kept_of hb3)) hb23)
        clear hb3 hb23
        go_wp2_with (go_at_call 57; refine (demand_yes _ _).mono ?_; rintro e w4 ⟨rfl, rfl⟩)
        refine (hcl w3).mono ?_
        clear hcl
        rintro e w4 ⟨rfl, hb4⟩
        have H4 := Lib.hid (And.intro (H3.out.1.same (kept_of hb4)) (H3.out.2.trans (hb4.mono H3.out.2.size)))
        clear hb4 H3
        obtain ⟨i9, hi, hz0, hz1, hz2⟩ := info_parts info_str
        have HOne := Lib.hid (push_nm x)
        have HPC := Lib.hid (fun (j : Nat) (u : Value) (h : (nmC x)[j]? = some u) => push_cells (w := w4) (T := 9) (cs := nmC x) j u h)
        have HB4 := Lib.hid H4.out.2.size
        have H5 : Hid (w4.ownsRow w2.heap.size 9 1 (.slice vp k vc) k ((ns.take k).flatMap nmC)) := by
          have := H4.out.1
          unfold PathR at this
          rw [HLen.out] at this
          exact this
        go_wp2_with (at_builtin; refine wpList_append_own _ rfl _ _ 42 rfl w2.heap.size 9 i9 _ 1 16 Tryz.underlying42 hi hz0 hz1 hz2 rfl (by decide) _ _ _ rfl (H5.out.alloc _) ⟨w4.heap.size, 0, none⟩ 1 1 (nmC x) rfl rfl HPC.out HOne.out (by unfold maxLen; omega) (by omega) (by simp; have := HB4.out; omega) ?_)
        intro v' w5 hown' hgrow _
        have HP := Lib.hid (PathR.push (n := x) H4.out.1 H4.out.2 HB4.out (by rw [HLen.out]; exact hown') hgrow)
        clear hown' hgrow H4 H5
        go_wp2_with fail
        go_roundw
        case rel => exact ⟨k + 1, by have := HK.out; omega, by go_num, by rw [HT.out]; exact HP.out.1, HP.out.2⟩
        case measure => simp [intOf]; omega
      · obtain rfl : k = N := by omega
        have hd : decide ((k : Int) < (k : Int)) = false := decide_eq_false (by omega)
        have H3 : Hid (PathR w2.heap.size wr (.slice vp k vc) ns) := by
          have := hP.out
          rw [List.take_of_length_le (by rw [HNL.out]; omega)] at this
          exact this
        have HBe : Hid (Below w.heap.size w wr) := HB2.out.trans (hBw.out.mono HB2.out.size)
        have hwle := Lib.hid HB2.out.size
        by_cases h16 : k ≤ 16
        · have hd2 : decide ((k : Int) ≤ 16) = true := decide_eq_true (by omega)
          have hd3 : (k : Int) ≤ 16 := by omega
          have HL : Hid (ns.length ≤ 16) := by show _ ≤ _; rw [HNL.out]; exact h16
          clear h16
          go_wp2_with (go_at_call 57; refine (demand_yes _ _).mono ?_; rintro e w4 ⟨rfl, rfl⟩)
          go_ret
          exact ⟨HBe.out, .inl ⟨HL.out, _, rfl, H3.out.less hwle.out⟩⟩
        · have hd2 : decide ((k : Int) ≤ 16) = false := decide_eq_false (by omega)
          have hd3 : ¬ (k : Int) ≤ 16 := by omega
          have HL : Hid (16 < ns.length) := by show _ < _; rw [HNL.out]; omega
          clear h16
          go_wp2_with (go_at_call 57; refine (demand_no _ _).mono ?_; rintro e w4 ⟨rfl, rfl⟩)
          exact ⟨rfl, HBe.out, .inr ⟨HL.out, rfl⟩⟩
end Go.Proofs.YtmccbcficbbidaaGreatDoor.Pw
