/-
  Contracts of the leaves of package number: each is called at any numbers of its kinds and changes nothing.
-/
import Derived.Test.YtggbacekmpamjaaNumPure
import Derived.Test.YtggbacekmpamjaaProg
import Derived.Test.YtggbacekmpamjaaShelf
import Derived.Lib.Hide
namespace Go.Proofs.Ytggbacekmpamjaa.Num
open Go.RowKit Go.Proofs.Ytggbacekmpamjaa.Oct

/-- A sum and the error's number. -/
def addL (a b : Int) : Int × Nat := if -9223372036854775808 ≤ a + b ∧ a + b ≤ 9223372036854775807 then (a + b, 0) else (0, 4)
def cmpL (a b : Int) : Int := if a < b then -1 else if b < a then 1 else 0
def betweenB (n a b : Int) : Bool := decide (a ≤ n ∧ n ≤ b)

theorem num_c (n : Int) (w : World) :
    Calls Try.prog 11 #[.int .i64 n] w fun e w' => e = .returned (.int .i64 n) ∧ w = w' := by
  go_enter Try.func11, Try.ntmps11
  go_wp2
  go_ret
  exact ⟨rfl, rfl⟩

theorem within_c (n a b : Int) (w : World) :
    Calls Try.prog 13 #[.int .i64 n, .int .i64 a, .int .i64 b] w fun e w' => e = .returned (.bool (betweenB n a b)) ∧ w = w' := by
  go_enter Try.func13, Try.ntmps13
  go_wp2
  all_goals go_ret
  all_goals (refine ⟨ret_bool ?_, rfl⟩; unfold betweenB; rw [Bool.eq_iff_iff]; simp; try omega)

theorem compareInt_eq (a b : Int) : Lib.compareInt a b = cmpL a b := by
  unfold Lib.compareInt cmpL
  repeat' split
  all_goals omega

theorem compare_c (a b : Int) (w : World) :
    Calls Try.prog 12 #[.int .i64 a, .int .i64 b] w fun e w' => e = .returned (.int .i64 (cmpL a b)) ∧ w = w' := by
  have h := Try.cmp_Compare_int a b w
  rw [compareInt_eq] at h
  go_enter Try.func12, Try.ntmps12
  go_wp2_with fail
  refine h.mono ?_
  rintro e w' ⟨rfl, rfl⟩
  go_wp2_with fail
  go_ret
  exact ⟨rfl, rfl⟩

theorem add_wrap (a b : Int) (a0 : -9223372036854775808 ≤ a) (a1 : a ≤ 9223372036854775807) (b0 : -9223372036854775808 ≤ b) (b1 : b ≤ 9223372036854775807) :
    (-9223372036854775808 ≤ a + b ∧ a + b ≤ 9223372036854775807 → IntKind.i64.wrap (a + b) = a + b ∧ (decide (a + b < a) != decide (b < 0)) = false) ∧
    (¬ (-9223372036854775808 ≤ a + b ∧ a + b ≤ 9223372036854775807) → (decide (wrap64 (a + b) < a) == decide (b < 0)) = false) := by
  rw [IntKind.wrap_i64]
  unfold wrap64
  refine ⟨fun h => ⟨by omega, ?_⟩, fun h => ?_⟩
  · rw [show decide (a + b < a) = decide (b < 0) by rw [decide_eq_decide]; omega]; simp
  · by_cases hb : b < 0
    · rw [decide_eq_true hb, decide_eq_false (by omega)]; rfl
    · rw [decide_eq_false hb, decide_eq_true (by omega)]; rfl

theorem add_c (a b : Int) (w : World) (a0 : -9223372036854775808 ≤ a) (a1 : a ≤ 9223372036854775807) (b0 : -9223372036854775808 ≤ b) (b1 : b ≤ 9223372036854775807) :
    Calls Try.prog 8 #[.int .i64 a, .int .i64 b] w fun e w' => e = .returned (.tuple #[.int .i64 (addL a b).1, .int .i64 ((addL a b).2 : Int)]) ∧ w = w' := by
  have hw := add_wrap a b a0 a1 b0 b1
  by_cases h : -9223372036854775808 ≤ a + b ∧ a + b ≤ 9223372036854775807
  · have F : Hid (addL a b = (a + b, 0)) := if_pos h
    clear hw
    obtain ⟨h0, h1⟩ := h
    by_cases hb : b < 0
    all_goals
      go_enter Try.func8, Try.ntmps8
      go_wp2
      all_goals first
        | (exfalso; simp at *; omega)
        | (go_ret2; exact ⟨by rw [F.out]; rfl, rfl⟩)
  · have F : Hid (addL a b = (0, 4)) := if_neg h
    have e := hw.2 h
    clear hw h
    go_enter Try.func8, Try.ntmps8
    go_wp2
    go_ret2
    exact ⟨by rw [F.out]; rfl, rfl⟩

theorem ret2 {k k' : IntKind} {a b c d : Int} (h : a = b) (h' : c = d) : Ending.returned (.tuple #[.int k a, .int k' c]) = .returned (.tuple #[.int k b, .int k' d]) := by rw [h, h']

theorem sizeOf_c (n : Int) (w : World) (h0 : -9223372036854775808 ≤ n) (h1 : n ≤ 9223372036854775807) :
    Calls Try.prog 22 #[.int .i64 n] w fun e w' => e = .returned (.int .u64 (n.natAbs : Int)) ∧ w = w' := by
  by_cases hn : n < 0
  all_goals
    go_enter Try.func22, Try.ntmps22
    go_wp2
    go_ret
    refine ⟨ret_int ?_, rfl⟩
    (try simp only [IntKind.wrap_u64])
    omega

theorem signed_c (u : Nat) (below : Bool) (w : World) (hu : u < 18446744073709551616) :
    Calls Try.prog 18 #[.int .u64 (u : Int), .bool below] w fun e w' => e = .returned (.tuple #[.int .i64 (signedL u below).1, .int .i64 ((signedL u below).2 : Int)]) ∧ w = w' := by
  cases below with
  | true =>
    by_cases h : u ≤ 9223372036854775808
    · have F : Hid (signedL u true = (-(u : Int), 0)) := by show _ = _; unfold signedL; rw [if_pos rfl, if_pos h]
      go_enter Try.func18, Try.ntmps18
      go_wp2
      go_ret2
      refine ⟨?_, rfl⟩
      rw [F.out]
      exact ret2 (by unfold wrap64; rw [IntKind.wrap_u64]; show _ = -(u : Int); omega) rfl
    · have F : Hid (signedL u true = (0, 4)) := by show _ = _; unfold signedL; rw [if_pos rfl, if_neg h]
      go_enter Try.func18, Try.ntmps18
      go_wp2
      go_ret2
      exact ⟨by rw [F.out]; rfl, rfl⟩
  | false =>
    by_cases h : u ≤ 9223372036854775807
    · have F : Hid (signedL u false = ((u : Int), 0)) := by show _ = _; unfold signedL; rw [if_neg (by simp), if_pos h]
      go_enter Try.func18, Try.ntmps18
      go_wp2
      go_ret2
      refine ⟨?_, rfl⟩
      rw [F.out]
      rfl
    · have F : Hid (signedL u false = (0, 4)) := by show _ = _; unfold signedL; rw [if_neg (by simp), if_neg h]
      go_enter Try.func18, Try.ntmps18
      go_wp2
      go_ret2
      exact ⟨by rw [F.out]; rfl, rfl⟩
end Go.Proofs.Ytggbacekmpamjaa.Num
