/-
  Contracts of octets.Name, Starts and Trim: as plain functions of lists of octets.
-/
import Derived.Test.YtppclkecfggkiaaDoorOctLists
namespace Go.Proofs.YtppclkecfggkiaaDoor.Oct
open Go.RowKit

theorem name_none (s : ByteArray) : (firstOf (fun k => !nameI ((at' s k).toNat : Int)) 0 s.size == s.size) = s.data.toList.all (fun c => nameI (c.toNat : Int)) := by
  rw [firstOf_all, ← all_at]
  simp


end Go.Proofs.YtppclkecfggkiaaDoor.Oct
