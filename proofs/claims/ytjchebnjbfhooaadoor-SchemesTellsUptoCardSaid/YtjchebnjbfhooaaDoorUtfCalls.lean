/-
  Contracts of utf.Valid, Count, Repair, Chars.
-/
import Derived.Test.YtjchebnjbfhooaaDoorUtfEach
namespace Go.Proofs.YtjchebnjbfhooaaDoor.Utf
open Go.RowKit Go.Proofs.YtjchebnjbfhooaaDoor.Oct Go.Proofs.YtjchebnjbfhooaaDoor.Mem
open Go.Lib (encodeRune)

/-! ### Valid -/
theorem valid_any (l : List UInt8) : (!(parts l).any (fun c => c == -1)) = valid l := by
  unfold valid
  rw [Bool.eq_iff_iff]
  simp

/-! ### Count -/
theorem each_boxes (w : World) (dov : Value) (s : ByteArray) :
    Boxed (eachWorld w dov s) w.heap.size 54 dov ∧ Boxed (eachWorld w dov s) (w.heap.size + 1) 9 (.string s) ∧ Kept w (eachWorld w dov s) := by
  refine ⟨(Boxed.new w _ _).alloc _, ?_, ((Below.refl _ w).alloc (Nat.le_refl _) _).alloc (by simp) _⟩
  have := Boxed.new (w.alloc (.cells #[dov] 54)) 9 (.string s)
  rwa [World.size_alloc] at this

theorem tabs_own {β : Type} (B : Nat) : OwnFrom B (fun (_ : β) W => Tabs W) := fun _ _ _ _ hs hg hr =>
  ⟨fun c hc => cell_kept (hs.1 c hc) hg (fun r e => (hr r e).2), fun i hi => ⟨cell_kept (hs.2 i hi).1 hg (fun r e => (hr r e).2), cell_kept (hs.2 i hi).2 hg (fun r e => (hr r e).2)⟩⟩

theorem Tabs.below {B : Nat} {w W : World} (h : Tabs w) (hB : w.heap.size ≤ B) (hb : Below B w W) : Tabs W := h.kept (hb.mono hB)

/-- What holds between two rounds of Count. -/
def CountAt (w : World) (b : Nat) (dov : Value) (s : ByteArray) (pre : List Int) (W : World) : Prop :=
  Boxed W b 3 (.int .i64 (pre.length : Int)) ∧ Boxed W (b + 1) 54 dov ∧ Boxed W (b + 2) 9 (.string s) ∧ Tabs W ∧ Kept w W

end Go.Proofs.YtjchebnjbfhooaaDoor.Utf
