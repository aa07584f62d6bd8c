/-
  Contracts of utf.Valid, Count, Repair, Chars.
-/
import Derived.Test.YtppclkecfggkiaaDoorUtfEach
namespace Go.Proofs.YtppclkecfggkiaaDoor.Utf
open Go.RowKit Go.Proofs.YtppclkecfggkiaaDoor.Oct Go.Proofs.YtppclkecfggkiaaDoor.Mem
open Go.Lib (encodeRune)

/-! ### Valid -/
theorem valid_any (l : List UInt8) : (!(parts l).any (fun c => c == -1)) = valid l := by
  unfold valid
  rw [Bool.eq_iff_iff]
  simp

/-! ### Count -/
theorem enter_count1 : ∀ args w, (callFunc 41 args).run Tryd.prog w = .ok (.enter 41 args) w := enters_of Tryd.func41 (by kernel_rfl) rfl

theorem count1_c (c : Int) (b k : Nat) (W : World) (hk : k < 4611686018427387904) (hb : Boxed W b 3 (.int .i64 (k : Int))) :
    Calls Tryd.prog 41 #[.int .i64 c, .pointer (some ⟨b, 0, none⟩)] W fun e W' => (∃ v, e = .returned v) ∧ W' = W.setCell ⟨b, 0, none⟩ (.int .i64 ((k : Int) + 1)) := by
  have hcell := hb.cell
  have hfr := hb.frozen
  go_enter Tryd.func41, Tryd.ntmps41
  go_wp2
  go_end0
  exact ⟨⟨_, rfl⟩, rfl⟩

theorem each_boxes (w : World) (dov : Value) (s : ByteArray) :
    Boxed (eachWorld w dov s) w.heap.size 44 dov ∧ Boxed (eachWorld w dov s) (w.heap.size + 1) 9 (.string s) ∧ Kept w (eachWorld w dov s) := by
  refine ⟨(Boxed.new w _ _).alloc _, ?_, ((Below.refl _ w).alloc (Nat.le_refl _) _).alloc (by simp) _⟩
  have := Boxed.new (w.alloc (.cells #[dov] 44)) 9 (.string s)
  rwa [World.size_alloc] at this

theorem tabs_own {β : Type} (B : Nat) : OwnFrom B (fun (_ : β) W => Tabs W) := fun _ _ _ _ hs hg hr =>
  ⟨fun c hc => cell_kept (hs.1 c hc) hg (fun r e => (hr r e).2), fun i hi => ⟨cell_kept (hs.2 i hi).1 hg (fun r e => (hr r e).2), cell_kept (hs.2 i hi).2 hg (fun r e => (hr r e).2)⟩⟩

theorem Tabs.below {B : Nat} {w W : World} (h : Tabs w) (hB : w.heap.size ≤ B) (hb : Below B w W) : Tabs W := h.kept (hb.mono hB)

/-- What holds between two rounds of Count. -/
def CountAt (w : World) (b : Nat) (dov : Value) (s : ByteArray) (pre : List Int) (W : World) : Prop :=
  Boxed W b 3 (.int .i64 (pre.length : Int)) ∧ Boxed W (b + 1) 44 dov ∧ Boxed W (b + 2) 9 (.string s) ∧ Tabs W ∧ Kept w W

set_option maxHeartbeats 1000000 in
theorem count_c (s : ByteArray) (hs : s.size ≤ 4611686018427387904) (w : World) (hT : Tabs w) :
    Calls Tryd.prog 29 #[.string s] w fun e w' => e = .returned (.int .i64 ((chars s.data.toList).length : Int)) ∧ Kept w w' := by
  obtain ⟨w1, hw1⟩ : ∃ w1, w1 = w.alloc (.cells #[.int .i64 0] 3) := ⟨_, rfl⟩
  have hsz : w1.heap.size = w.heap.size + 1 := by rw [hw1]; simp
  have hk1 : Kept w w1 := by rw [hw1]; exact (Below.refl _ w).alloc (Nat.le_refl _) _
  have hx := each_boxes w1 (.func (.func 41) #[] #[.pointer (some ⟨w.heap.size, 0, none⟩)]) s
  rw [hsz] at hx
  have hc := each_c s hs 41 #[.pointer (some ⟨w.heap.size, 0, none⟩)] w1
    (CountAt w w.heap.size (.func (.func 41) #[] #[.pointer (some ⟨w.heap.size, 0, none⟩)]) s) enter_count1
    (fun pre W h => by rw [hsz]; exact ⟨h.2.1.cell, h.2.2.1.cell, h.2.2.2.1⟩)
    (by
      rw [hsz]
      exact OwnFrom.and (Own.from (boxed_own _ _ (fun pre : List Int => Value.int .i64 (pre.length : Int))) _) (OwnFrom.and (Own.from (boxed_own _ _ (fun _ => _)) _) (OwnFrom.and (Own.from (boxed_own _ _ (fun _ => _)) _) (OwnFrom.and (tabs_own _) (ownFrom_below (Nat.le_refl _) (by omega))))))
    (by
      refine ⟨?_, hx.1, hx.2.1, hT.kept (kept_trans hk1 hx.2.2), kept_trans hk1 hx.2.2⟩
      rw [hw1]
      exact ((Boxed.new w _ _).alloc _).alloc _)
    (fun pre c W h _ _ hlen => (count1_c c w.heap.size pre.length W (by omega) h.1).mono (by
      rintro e W' ⟨he, rfl⟩
      refine ⟨he, ⟨?_, h.2.1.other (by omega) _, h.2.2.1.other (by omega) _, ?_, h.2.2.2.2.setCell (p := ⟨w.heap.size, 0, none⟩) (Nat.le_refl _) _⟩, KeepsOthers.setCell _ _ _⟩
      · have := h.1.set (.int .i64 ((pre.length : Int) + 1))
        simpa using this
      · exact hT.kept (h.2.2.2.2.setCell (p := ⟨w.heap.size, 0, none⟩) (Nat.le_refl _) _)))
  have HC := Lib.hid hc
  rw [hw1] at HC
  clear hc hx hsz hk1 hw1
  generalize chars s.data.toList = cs at HC
  go_enter Tryd.func29, Tryd.ntmps29
  go_wp2_with fail
  refine HC.out.mono ?_
  rintro e w2 ⟨⟨v, rfl⟩, h1, h2, h3, h4, h5⟩
  have hcell := h1.cell
  clear HC h1 h2 h3 h4
  have H5 := Lib.hid h5
  clear h5
  go_wp2
  go_ret
  exact ⟨rfl, H5.out⟩
end Go.Proofs.YtppclkecfggkiaaDoor.Utf
