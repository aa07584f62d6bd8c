/-
  Contracts of encoded and each of package percent, at whatever function value that is handed in.
-/
import Derived.Test.YtppclkecfggkiaaDoorPctBuild
import Derived.Test.YtppclkecfggkiaaDoorPctLeaf
namespace Go.Proofs.YtppclkecfggkiaaDoor.Pct
open Go.RowKit Go.Proofs.YtppclkecfggkiaaDoor.Oct Go.Proofs.YtppclkecfggkiaaDoor.Build

theorem cutFrom (s : ByteArray) (n : Nat) : s.extract n s.size = S (s.data.toList.drop n) := by
  rw [Lib.extract_eq, List.take_of_length_le (by rw [List.length_drop, size_list]; omega)]
theorem at_S (l : List UInt8) (k : Nat) (h : k < l.length) : (S l)[k]'(by rw [size_S]; exact h) = l[k] := by
  rw [ByteArray.getElem_eq_getElem_data]; simp

/-- What is asked of a function value that tells of a place whether its octet stays: it leaves all memory as it lies. -/
def Tells (g : Nat) (lb : Array Value) (q : Nat → Bool) (n : Nat) (w : World) : Prop :=
  ∀ (k : Nat) (W : World), k < n → Below w.heap.size w W → Calls Tryd.prog g (#[.int .i64 (k : Int)] ++ lb) W fun e w' => e = .returned (.bool (q k)) ∧ Below W.heap.size W w'

end Go.Proofs.YtppclkecfggkiaaDoor.Pct
