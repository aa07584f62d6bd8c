/-
  Contracts of the leaves of package octets and of the page's answers on octets: each is called at any octet and changes nothing.
-/
import Derived.Test.YtlekaibiofkleaaPgOct
import Derived.Test.YtlekaibiofkleaaOctPure
import Derived.Test.YtlekaibiofkleaaProg
namespace Go.Proofs.Ytlekaibiofkleaa.Oct
open Go.RowKit

theorem within_c (n a b : Int) (w : World) :
    Calls Try.prog 26 #[.int .u8 n, .int .u8 a, .int .u8 b] w fun e w' => e = .returned (.bool (decide (a ≤ n ∧ n ≤ b))) ∧ w = w' := by
  go_enter Try.func26, Try.ntmps26
  go_wp2
  all_goals go_ret
  all_goals (refine ⟨ret_bool ?_, rfl⟩; simp; try omega)

theorem letter_c (n : Int) (w : World) (h0 : 0 ≤ n) (h1 : n ≤ 255) :
    Calls Try.prog 24 #[.int .u8 n] w fun e w' => e = .returned (.bool (letterI n)) ∧ w = w' := by
  go_enter Try.func24, Try.ntmps24
  go_wp2
  all_goals go_ret
  all_goals (refine ⟨ret_bool ?_, rfl⟩; rw [Bool.eq_iff_iff]; simp [letterI]; try omega)

theorem small_c (n : Int) (w : World) (h0 : 0 ≤ n) (h1 : n ≤ 255) :
    Calls Try.prog 29 #[.int .u8 n] w fun e w' => e = .returned (.int .u8 (lowI n)) ∧ w = w' := by
  go_enter Try.func29, Try.ntmps29
  go_wp2
  all_goals go_ret
  all_goals (refine ⟨ret_int ?_, rfl⟩; unfold lowI; split <;> omega)

end Go.Proofs.Ytlekaibiofkleaa.Oct
