/-
  Contract of octets.made, at whatever function value that is handed in: the text of the octets that it tells of the places.
-/
import Derived.Test.YtbchjmldjdhjiaaOctFirst
import Derived.Laws.IdiomStrings
namespace Go.Proofs.Ytbchjmldjdhjiaa.Oct
open Go.RowKit

theorem info_u8 : (Try.prog.info? 5).map (fun i => (i.zero, i.size, i.bytes)) = some (some (.int .u8 0), 1, 1) := by kernel_rfl

/-- What is asked of a function value that tells the octet of a place. -/
def Makes (g : Nat) (lb : Array Value) (f : Nat → UInt8) (n : Nat) (w : World) : Prop :=
  ∀ (k : Nat) (W : World), k < n → Below w.heap.size w W → Calls Try.prog g (#[.int .i64 (k : Int)] ++ lb) W fun e w' => e = .returned (.int .u8 ((f k).toNat : Int)) ∧ W = w'

/-- The cells behind k rounds. -/
def madeAt (f : Nat → UInt8) (n k : Nat) : List Value := (List.range k).map (fun j => Value.int .u8 ((f j).toNat : Int)) ++ List.replicate (n - k) (Value.int .u8 0)

theorem madeAt_zero (f : Nat → UInt8) (n : Nat) : madeAt f n 0 = List.replicate n (Value.int .u8 0) := by simp [madeAt]
theorem madeAt_succ (f : Nat → UInt8) (n k : Nat) (h : k < n) : (madeAt f n k).set k (Value.int .u8 ((f k).toNat : Int)) = madeAt f n (k + 1) := by
  unfold madeAt
  have e : n - k = (n - (k + 1)) + 1 := by omega
  rw [e, List.replicate_succ, List.set_append_right _ _ (by simp)]
  simp [List.range_succ]
theorem madeAt_at (f : Nat → UInt8) (n k : Nat) (h : k < n) : (madeAt f n k)[k]? = some (Value.int .u8 0) := by
  unfold madeAt
  rw [List.getElem?_append_right (by simp), List.length_map, List.length_range, Nat.sub_self, List.getElem?_replicate, if_pos (by omega)]
theorem madeAt_full (f : Nat → UInt8) (n j : Nat) (h : j < n) : (madeAt f n n)[j]? = some (Value.int .u8 ((f j).toNat : Int)) := by
  simp [madeAt, h]

end Go.Proofs.Ytbchjmldjdhjiaa.Oct
