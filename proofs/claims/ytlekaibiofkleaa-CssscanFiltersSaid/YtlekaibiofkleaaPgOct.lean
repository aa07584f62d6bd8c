/-
  Contracts of the page's answers on what an octet is: a letter, a digit; they change nothing.
-/
import Derived.Test.YtlekaibiofkleaaOctPure
import Derived.Test.YtlekaibiofkleaaProg
namespace Go.Proofs.Ytlekaibiofkleaa.Oct
open Go.RowKit

theorem rletter_c (n : Int) (w : World) (h0 : 0 ≤ n) (h1 : n ≤ 255) :
    Calls Try.prog 16 #[.int .u8 n] w fun e w' => e = .returned (.bool (letterI n)) ∧ w = w' := by
  go_enter Try.func16, Try.ntmps16
  go_wp2
  all_goals go_ret
  all_goals (refine ⟨ret_bool ?_, rfl⟩; rw [Bool.eq_iff_iff]; simp [letterI]; try omega)

theorem rdigit_c (n : Int) (w : World) (h0 : 0 ≤ n) (h1 : n ≤ 255) :
    Calls Try.prog 17 #[.int .u8 n] w fun e w' => e = .returned (.bool (digitI n)) ∧ w = w' := by
  go_enter Try.func17, Try.ntmps17
  go_wp2
  all_goals go_ret
  all_goals (refine ⟨ret_bool ?_, rfl⟩; rw [Bool.eq_iff_iff]; simp [digitI]; try omega)
end Go.Proofs.Ytlekaibiofkleaa.Oct
