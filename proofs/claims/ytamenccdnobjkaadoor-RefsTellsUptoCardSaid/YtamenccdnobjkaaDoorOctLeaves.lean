/-
  Contracts of the leaves of package octets and of the page's answers on octets: each is called at any octet and changes nothing.
-/
import Derived.Test.YtamenccdnobjkaaDoorPgOct
import Derived.Test.YtamenccdnobjkaaDoorOctPure
import Derived.Test.YtamenccdnobjkaaDoorProg
namespace Go.Proofs.YtamenccdnobjkaaDoor.Oct
open Go.RowKit

theorem within_c (n a b : Int) (w : World) :
    Calls Tryd.prog 85 #[.int .u8 n, .int .u8 a, .int .u8 b] w fun e w' => e = .returned (.bool (decide (a ≤ n ∧ n ≤ b))) ∧ w = w' := by
  go_enter Tryd.func85, Tryd.ntmps85
  go_wp2
  all_goals go_ret
  all_goals (refine ⟨ret_bool ?_, rfl⟩; simp; try omega)

theorem small_c (n : Int) (w : World) (h0 : 0 ≤ n) (h1 : n ≤ 255) :
    Calls Tryd.prog 73 #[.int .u8 n] w fun e w' => e = .returned (.int .u8 (lowI n)) ∧ w = w' := by
  go_enter Tryd.func73, Tryd.ntmps73
  go_wp2
  all_goals go_ret
  all_goals (refine ⟨ret_int ?_, rfl⟩; unfold lowI; split <;> omega)

theorem rhexdigit_c (n : Int) (w : World) (h0 : 0 ≤ n) (h1 : n ≤ 255) :
    Calls Tryd.prog 55 #[.int .u8 n] w fun e w' => e = .returned (.int .i64 (hexI n)) ∧ w = w' := by
  go_enter Tryd.func55, Tryd.ntmps55
  go_wp2
  all_goals go_ret
  all_goals (refine ⟨ret_int ?_, rfl⟩; unfold hexI; repeat' split)
  all_goals omega

end Go.Proofs.YtamenccdnobjkaaDoor.Oct
