/-
  Contracts of the page's Valid and Chars, and of SameInts: lists of numbers in memory.
-/
import Derived.Test.YtjchebnjbfhooaaDoorPgChars
import Derived.Test.YtjchebnjbfhooaaDoorUtfRepair
namespace Go.Proofs.YtjchebnjbfhooaaDoor.Utf
open Go.RowKit Go.Proofs.YtjchebnjbfhooaaDoor.Oct Go.Proofs.YtjchebnjbfhooaaDoor.Mem
open Go.Lib (encodeRune encodeRuneZ)

theorem valid_step (l : List UInt8) (hl : l ≠ []) : valid l = (decide ((dec l).1 ≠ -1) && valid (l.drop (dec l).2)) := by
  unfold valid
  rw [parts_step l hl, List.all_cons]
theorem valid_nil : valid [] = true := rfl
end Go.Proofs.YtjchebnjbfhooaaDoor.Utf
