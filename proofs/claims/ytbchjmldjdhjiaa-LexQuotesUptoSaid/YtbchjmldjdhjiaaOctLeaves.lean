/-
  Contracts of the leaves of package octets and of the page's answers on octets: each is called at any octet and changes nothing.
-/
import Derived.Test.YtbchjmldjdhjiaaPgOct
import Derived.Test.YtbchjmldjdhjiaaOctPure
import Derived.Test.YtbchjmldjdhjiaaProg
namespace Go.Proofs.Ytbchjmldjdhjiaa.Oct
open Go.RowKit

theorem blank_c (n : Int) (w : World) :
    Calls Try.prog 53 #[.int .u8 n] w fun e w' => e = .returned (.bool (blankI n)) ∧ w = w' := by
  go_enter Try.func53, Try.ntmps53
  go_wp2
  all_goals go_ret
  all_goals (refine ⟨ret_bool ?_, rfl⟩; rw [Bool.eq_iff_iff]; simp [blankI]; try (first | omega | (simp only [beq_iff_eq, beq_eq_false_iff_ne] at *; omega)))

theorem within_c (n a b : Int) (w : World) :
    Calls Try.prog 72 #[.int .u8 n, .int .u8 a, .int .u8 b] w fun e w' => e = .returned (.bool (decide (a ≤ n ∧ n ≤ b))) ∧ w = w' := by
  go_enter Try.func72, Try.ntmps72
  go_wp2
  all_goals go_ret
  all_goals (refine ⟨ret_bool ?_, rfl⟩; simp; try omega)

theorem letter_c (n : Int) (w : World) (h0 : 0 ≤ n) (h1 : n ≤ 255) :
    Calls Try.prog 58 #[.int .u8 n] w fun e w' => e = .returned (.bool (letterI n)) ∧ w = w' := by
  go_enter Try.func58, Try.ntmps58
  go_wp2
  all_goals go_ret
  all_goals (refine ⟨ret_bool ?_, rfl⟩; rw [Bool.eq_iff_iff]; simp [letterI]; try omega)

end Go.Proofs.Ytbchjmldjdhjiaa.Oct
