/-
  Contracts of the page's answers on what an octet is: a letter, a digit; they change nothing.
-/
import Derived.Test.YtamenccdnobjkaaDoorOctPure
import Derived.Test.YtamenccdnobjkaaDoorProg
namespace Go.Proofs.YtamenccdnobjkaaDoor.Oct
open Go.RowKit

theorem rdigit_c (n : Int) (w : World) (h0 : 0 ≤ n) (h1 : n ≤ 255) :
    Calls Tryd.prog 41 #[.int .u8 n] w fun e w' => e = .returned (.bool (digitI n)) ∧ w = w' := by
  go_enter Tryd.func41, Tryd.ntmps41
  go_wp2
  all_goals go_ret
  all_goals (refine ⟨ret_bool ?_, rfl⟩; rw [Bool.eq_iff_iff]; simp [digitI]; try omega)
end Go.Proofs.YtamenccdnobjkaaDoor.Oct
