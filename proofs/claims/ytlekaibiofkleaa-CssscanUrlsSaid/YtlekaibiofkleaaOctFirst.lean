/-
  Contracts of octets.first, none and made, at whatever function value that is handed in, and of digitValue.
-/
import Derived.Test.YtlekaibiofkleaaOctLeaves
import Derived.Test.YtlekaibiofkleaaShelf
import Derived.Lib.Hide
import Derived.Deep.RegionWith
namespace Go.Proofs.Ytlekaibiofkleaa.Oct
open Go.RowKit

/-- The first place below n that is wanted, or n. -/
def firstOf (p : Nat → Bool) : Nat → Nat → Nat
  | _, 0 => 0
  | k, n + 1 => if p k then 0 else firstOf p (k + 1) n + 1

theorem firstOf_le (p : Nat → Bool) (k n : Nat) : firstOf p k n ≤ n := by
  induction n generalizing k with
  | zero => simp [firstOf]
  | succ n ih => have := ih (k + 1); unfold firstOf; split <;> omega

theorem firstOf_hit (p : Nat → Bool) (k n j : Nat) (hj : j < n) (hp : p (k + j) = true) (hn : ∀ i, i < j → p (k + i) = false) : firstOf p k n = j := by
  induction n generalizing k j with
  | zero => omega
  | succ n ih =>
    unfold firstOf
    cases j with
    | zero => rw [if_pos (by simpa using hp)]
    | succ j =>
      have h0 : p k = false := by simpa using hn 0 (by omega)
      rw [h0, if_neg (by simp), ih (k + 1) j (by omega) (by rw [← hp]; congr 1; omega) (fun i hi => by rw [← hn (i + 1) (by omega)]; congr 1; omega)]

theorem firstOf_miss (p : Nat → Bool) (k n : Nat) (hn : ∀ i, i < n → p (k + i) = false) : firstOf p k n = n := by
  induction n generalizing k with
  | zero => rfl
  | succ n ih =>
    unfold firstOf
    have h0 : p k = false := by simpa using hn 0 (by omega)
    rw [h0, if_neg (by simp), ih (k + 1) (fun i hi => by rw [← hn (i + 1) (by omega)]; congr 1; omega)]

/-- What is asked of a function value that tells of a place whether it is wanted: in every world in which all that lay in w lies unturned, and it leaves such a world again. -/
def Wants (g : Nat) (lb : Array Value) (p : Nat → Bool) (n : Nat) (w : World) : Prop :=
  ∀ (k : Nat) (W : World), k < n → Below w.heap.size w W → Calls Try.prog g (#[.int .i64 (k : Int)] ++ lb) W fun e w' => e = .returned (.bool (p k)) ∧ Below w.heap.size w w'

end Go.Proofs.Ytlekaibiofkleaa.Oct
