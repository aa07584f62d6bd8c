/-
  Contracts of two leaves of package number that later layers call too: whether a number lies between two others, how great it is without its sign; they change nothing.
-/
import Derived.Test.YtcheiombgnabaaaNumPure
import Derived.Test.YtcheiombgnabaaaProg
import Derived.Test.YtcheiombgnabaaaShelf
import Derived.Lib.Hide
namespace Go.Proofs.Ytcheiombgnabaaa.Num
open Go.RowKit Go.Proofs.Ytcheiombgnabaaa.Oct

def betweenB (n a b : Int) : Bool := decide (a ≤ n ∧ n ≤ b)


theorem within_c (n a b : Int) (w : World) :
    Calls Try.prog 36 #[.int .i64 n, .int .i64 a, .int .i64 b] w fun e w' => e = .returned (.bool (betweenB n a b)) ∧ w = w' := by
  go_enter Try.func36, Try.ntmps36
  go_wp2
  all_goals go_ret
  all_goals (refine ⟨ret_bool ?_, rfl⟩; unfold betweenB; rw [Bool.eq_iff_iff]; simp; try omega)

theorem sizeOf_c (n : Int) (w : World) (h0 : -9223372036854775808 ≤ n) (h1 : n ≤ 9223372036854775807) :
    Calls Try.prog 46 #[.int .i64 n] w fun e w' => e = .returned (.int .u64 (n.natAbs : Int)) ∧ w = w' := by
  by_cases hn : n < 0
  all_goals
    go_enter Try.func46, Try.ntmps46
    go_wp2
    go_ret
    refine ⟨ret_int ?_, rfl⟩
    (try simp only [IntKind.wrap_u64])
    omega

end Go.Proofs.Ytcheiombgnabaaa.Num
