/-
  Contract of marks.uses, whole.
-/
import Derived.Test.YtbpccbdgkkfdpaaDoorMksUsesA
import Derived.Test.YtbpccbdgkkfdpaaDoorMksUsesB
import Derived.Test.YtbpccbdgkkfdpaaDoorMksUsesC
import Derived.Test.YtbpccbdgkkfdpaaDoorMksUsesD
import Derived.Test.YtbpccbdgkkfdpaaDoorMksUsesE
import Derived.Test.YtbpccbdgkkfdpaaDoorMksUsesF
namespace Go.Proofs.YtbpccbdgkkfdpaaDoor.Mks
open Go.RowKit Go.Proofs.YtbpccbdgkkfdpaaDoor.Oct Go.Proofs.YtbpccbdgkkfdpaaDoor.Num Go.Proofs.YtbpccbdgkkfdpaaDoor.Scn

theorem uses_c (k : Int) (E A : ByteArray) (d : UInt8) (P R : ByteArray) (n : Int) (W : ByteArray) (m : Int) (hK : KindOf (stV k E A d P R n W) m) (w : World) :
    Calls Tryd.prog 35 #[stV k E A d P R n W] w fun x w' => x = .returned (usesV (betweenB k 3 12 || betweenB k 17 19) (betweenB k 6 10) (k == 9) (betweenB k 16 19)
      (k == 0 || betweenB k 9 10 || k == 17) (betweenB k 18 19 || (betweenB k 9 10 && betweenB m 1 3))) ∧ Below w.heap.size w w' := by
  have U9 := wth_of k 9 10 _ rfl
  have U18 := wth_of k 18 19 _ rfl
  have U3 := wth_of k 3 12 _ rfl
  have U17 := wth_of k 17 19 _ rfl
  have U6 := wth_of k 6 10 _ rfl
  have U16 := wth_of k 16 19 _ rfl
  by_cases h0 : k = 0
  · subst h0
    exact uses_a E A d P R n W w _ _ U9 U18 U3 U17 U6 U16
  by_cases h17 : k = 17
  · subst h17
    exact uses_e E A d P R n W w _ _ U9 U18 U3 U17 U6 U16
  have e0 : (k == 0) = false := by simpa using h0
  have e17 : (k == 17) = false := by simpa using h17
  generalize betweenB k 6 10 = b6 at *
  generalize betweenB k 16 19 = b16 at *
  rcases (by omega : (9 ≤ k ∧ k ≤ 10) ∨ (18 ≤ k ∧ k ≤ 19) ∨ (¬ (9 ≤ k ∧ k ≤ 10) ∧ 3 ≤ k ∧ k ≤ 12) ∨ (¬ (3 ≤ k ∧ k ≤ 12) ∧ ¬ (17 ≤ k ∧ k ≤ 19))) with h | h | h | h
  · have e9 : betweenB k 9 10 = true := decide_eq_true h
    have e18 : betweenB k 18 19 = false := decide_eq_false (by omega)
    have e3 : betweenB k 3 12 = true := decide_eq_true (by omega)
    have e17' : betweenB k 17 19 = false := decide_eq_false (by omega)
    rw [e9] at U9 ⊢
    rw [e18] at U18 ⊢
    rw [e3] at U3 ⊢
    rw [e17'] at U17 ⊢
    rw [e0, e17]
    exact uses_d k h0 h17 E A d P R n W m _ hK rfl w _ _ U9 U18 U3 U17 U6 U16
  · have e9 : betweenB k 9 10 = false := decide_eq_false (by omega)
    have e18 : betweenB k 18 19 = true := decide_eq_true h
    have e3 : betweenB k 3 12 = false := decide_eq_false (by omega)
    have e17' : betweenB k 17 19 = true := decide_eq_true (by omega)
    rw [e9] at U9 ⊢
    rw [e18] at U18 ⊢
    rw [e3] at U3 ⊢
    rw [e17'] at U17 ⊢
    rw [e0, e17]
    exact uses_f k h0 h17 E A d P R n W w _ _ U9 U18 U3 U17 U6 U16
  · have e9 : betweenB k 9 10 = false := decide_eq_false (by omega)
    have e18 : betweenB k 18 19 = false := decide_eq_false (by omega)
    have e3 : betweenB k 3 12 = true := decide_eq_true (by omega)
    have e17' : betweenB k 17 19 = false := decide_eq_false (by omega)
    rw [e9] at U9 ⊢
    rw [e18] at U18 ⊢
    rw [e3] at U3 ⊢
    rw [e17'] at U17 ⊢
    rw [e0, e17]
    exact uses_cc k h0 h17 E A d P R n W w _ _ U9 U18 U3 U17 U6 U16
  · have e9 : betweenB k 9 10 = false := decide_eq_false (by omega)
    have e18 : betweenB k 18 19 = false := decide_eq_false (by omega)
    have e3 : betweenB k 3 12 = false := decide_eq_false (by omega)
    have e17' : betweenB k 17 19 = false := decide_eq_false (by omega)
    rw [e9] at U9 ⊢
    rw [e18] at U18 ⊢
    rw [e3] at U3 ⊢
    rw [e17'] at U17 ⊢
    rw [e0, e17]
    exact uses_b k h0 h17 E A d P R n W w _ _ U9 U18 U3 U17 U6 U16
end Go.Proofs.YtbpccbdgkkfdpaaDoor.Mks
