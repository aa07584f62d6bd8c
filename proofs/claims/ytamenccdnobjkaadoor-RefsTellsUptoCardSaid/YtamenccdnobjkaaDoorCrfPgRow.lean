/-
  What the contracts of the page's Escape and Decode share.
-/
import Derived.Test.YtamenccdnobjkaaDoorCrfParts
namespace Go.Proofs.YtamenccdnobjkaaDoor.Crf
open Go.RowKit Go.Proofs.YtamenccdnobjkaaDoor.Oct Go.Proofs.YtamenccdnobjkaaDoor.Num Go.Proofs.YtamenccdnobjkaaDoor.Utf Go.Proofs.YtamenccdnobjkaaDoor.Mem
open Go.Lib (encodeRune)

/-- The new octet's cell, as an append of one octet asks for it. -/
theorem push_cell {w : World} {x : Int} {c : UInt8} (h : x = (c.toNat : Int)) (j : Nat) (u : Value) (hj : [Mem.bv c][j]? = some u) :
    (w.alloc (.cells #[.int .u8 x] 5)).cell? ((⟨w.heap.size, 0, none⟩ : Addr).add j) = some u := by
  subst h
  match j, hj with
  | 0, hj => simp at hj; subst hj; simp [Addr.add]
theorem push_one {c : UInt8} (u : Value) (hu : u ∈ [Mem.bv c]) : u.oneCell' = true := by simp at hu; subst hu; rfl

/-- A row of octets of the call's own that holds these. -/
def Row (base : Nat) (v : Value) (o : List UInt8) (w : World) : Prop := w.ownsRow base 5 1 v o.length (o.map Mem.bv)
theorem Row.more {base : Nat} {v' : Value} {o t : List UInt8} {w' : World} (h : w'.ownsRow base 5 1 v' (o.length + t.length) (o.map Mem.bv ++ t.map Mem.bv)) : Row base v' (o ++ t) w' := by
  unfold Row
  rw [List.length_append, List.map_append]
  exact h
theorem cells_S (t : List UInt8) : Lib.strCells (S t) = t.map Mem.bv ∧ (S t).size = t.length := ⟨strCells_S t, size_S t⟩

end Go.Proofs.YtamenccdnobjkaaDoor.Crf
