/-
  Contracts of utf.Valid, Count, Repair, Chars.
-/
import Derived.Test.YtccaoklnifkgjaaDoorUtfEach
namespace Go.Proofs.YtccaoklnifkgjaaDoor.Utf
open Go.RowKit Go.Proofs.YtccaoklnifkgjaaDoor.Oct Go.Proofs.YtccaoklnifkgjaaDoor.Mem
open Go.Lib (encodeRune)

/-! ### Valid -/
theorem enter_valid1 : ∀ args w, (callFunc 26 args).run Tryd.prog w = .ok (.enter 26 args) w := enters_of Tryd.func26 (by kernel_rfl) rfl
theorem valid1_c : Asks 26 #[] (fun c => c == -1) := by
  intro c W
  show Calls Tryd.prog _ #[.int .i64 c] W _
  go_enter Tryd.func26, Tryd.ntmps26
  go_wp2
  go_ret
  exact ⟨rfl, rfl⟩

theorem valid_any (l : List UInt8) : (!(parts l).any (fun c => c == -1)) = valid l := by
  unfold valid
  rw [Bool.eq_iff_iff]
  simp

theorem valid_c (s : ByteArray) (hs : s.size ≤ 4611686018427387904) (w : World) (hT : Tabs w) :
    Calls Tryd.prog 13 #[.string s] w fun e w' => e = .returned (.bool (valid s.data.toList)) ∧ Kept w w' := by
  have hc := anyPart_c s hs 26 #[] (fun c => c == -1) w hT enter_valid1 valid1_c
  have hv := valid_any s.data.toList
  generalize (parts s.data.toList).any (fun c => c == -1) = b at hc hv
  generalize valid s.data.toList = v at hv
  subst hv
  go_enter Tryd.func13, Tryd.ntmps13
  go_wp2_with (go_at_call 25; refine hc.mono ?_; rintro e w' ⟨rfl, hb⟩)
  go_ret
  exact ⟨rfl, hb⟩

/-! ### Count -/
theorem enter_count1 : ∀ args w, (callFunc 29 args).run Tryd.prog w = .ok (.enter 29 args) w := enters_of Tryd.func29 (by kernel_rfl) rfl

theorem count1_c (c : Int) (b k : Nat) (W : World) (hk : k < 4611686018427387904) (hb : Boxed W b 3 (.int .i64 (k : Int))) :
    Calls Tryd.prog 29 #[.int .i64 c, .pointer (some ⟨b, 0, none⟩)] W fun e W' => (∃ v, e = .returned v) ∧ W' = W.setCell ⟨b, 0, none⟩ (.int .i64 ((k : Int) + 1)) := by
  have hcell := hb.cell
  have hfr := hb.frozen
  go_enter Tryd.func29, Tryd.ntmps29
  go_wp2
  go_end0
  exact ⟨⟨_, rfl⟩, rfl⟩

theorem each_boxes (w : World) (dov : Value) (s : ByteArray) :
    Boxed (eachWorld w dov s) w.heap.size 46 dov ∧ Boxed (eachWorld w dov s) (w.heap.size + 1) 9 (.string s) ∧ Kept w (eachWorld w dov s) := by
  refine ⟨(Boxed.new w _ _).alloc _, ?_, ((Below.refl _ w).alloc (Nat.le_refl _) _).alloc (by simp) _⟩
  have := Boxed.new (w.alloc (.cells #[dov] 46)) 9 (.string s)
  rwa [World.size_alloc] at this

theorem tabs_own {β : Type} (B : Nat) : OwnFrom B (fun (_ : β) W => Tabs W) := fun _ _ _ _ hs hg hr =>
  ⟨fun c hc => cell_kept (hs.1 c hc) hg (fun r e => (hr r e).2), fun i hi => ⟨cell_kept (hs.2 i hi).1 hg (fun r e => (hr r e).2), cell_kept (hs.2 i hi).2 hg (fun r e => (hr r e).2)⟩⟩

theorem Tabs.below {B : Nat} {w W : World} (h : Tabs w) (hB : w.heap.size ≤ B) (hb : Below B w W) : Tabs W := h.kept (hb.mono hB)

/-- What holds between two rounds of Count. -/
def CountAt (w : World) (b : Nat) (dov : Value) (s : ByteArray) (pre : List Int) (W : World) : Prop :=
  Boxed W b 3 (.int .i64 (pre.length : Int)) ∧ Boxed W (b + 1) 46 dov ∧ Boxed W (b + 2) 9 (.string s) ∧ Tabs W ∧ Kept w W

set_option maxHeartbeats 1000000 in
theorem count_c (s : ByteArray) (hs : s.size ≤ 4611686018427387904) (w : World) (hT : Tabs w) :
    Calls Tryd.prog 17 #[.string s] w fun e w' => e = .returned (.int .i64 ((chars s.data.toList).length : Int)) ∧ Kept w w' := by
  obtain ⟨w1, hw1⟩ : ∃ w1, w1 = w.alloc (.cells #[.int .i64 0] 3) := ⟨_, rfl⟩
  have hsz : w1.heap.size = w.heap.size + 1 := by rw [hw1]; simp
  have hk1 : Kept w w1 := by rw [hw1]; exact (Below.refl _ w).alloc (Nat.le_refl _) _
  have hx := each_boxes w1 (.func (.func 29) #[] #[.pointer (some ⟨w.heap.size, 0, none⟩)]) s
  rw [hsz] at hx
  have hc := each_c s hs 29 #[.pointer (some ⟨w.heap.size, 0, none⟩)] w1
    (CountAt w w.heap.size (.func (.func 29) #[] #[.pointer (some ⟨w.heap.size, 0, none⟩)]) s) enter_count1
    (fun pre W h => by rw [hsz]; exact ⟨h.2.1.cell, h.2.2.1.cell, h.2.2.2.1⟩)
    (by
      rw [hsz]
      exact OwnFrom.and (Own.from (boxed_own _ _ (fun pre : List Int => Value.int .i64 (pre.length : Int))) _) (OwnFrom.and (Own.from (boxed_own _ _ (fun _ => _)) _) (OwnFrom.and (Own.from (boxed_own _ _ (fun _ => _)) _) (OwnFrom.and (tabs_own _) (ownFrom_below (Nat.le_refl _) (by omega))))))
    (by
      refine ⟨?_, hx.1, hx.2.1, hT.kept (kept_trans hk1 hx.2.2), kept_trans hk1 hx.2.2⟩
      rw [hw1]
      exact ((Boxed.new w _ _).alloc _).alloc _)
    (fun pre c W h _ _ hlen => (count1_c c w.heap.size pre.length W (by omega) h.1).mono (by
      rintro e W' ⟨he, rfl⟩
      refine ⟨he, ⟨?_, h.2.1.other (by omega) _, h.2.2.1.other (by omega) _, ?_, h.2.2.2.2.setCell (p := ⟨w.heap.size, 0, none⟩) (Nat.le_refl _) _⟩, KeepsOthers.setCell _ _ _⟩
      · have := h.1.set (.int .i64 ((pre.length : Int) + 1))
        simpa using this
      · exact hT.kept (h.2.2.2.2.setCell (p := ⟨w.heap.size, 0, none⟩) (Nat.le_refl _) _)))
  have HC := Lib.hid hc
  rw [hw1] at HC
  clear hc hx hsz hk1 hw1
  generalize chars s.data.toList = cs at HC
  go_enter Tryd.func17, Tryd.ntmps17
  go_wp2_with fail
  refine HC.out.mono ?_
  rintro e w2 ⟨⟨v, rfl⟩, h1, h2, h3, h4, h5⟩
  have hcell := h1.cell
  clear HC h1 h2 h3 h4
  have H5 := Lib.hid h5
  clear h5
  go_wp2
  go_ret
  exact ⟨rfl, H5.out⟩
end Go.Proofs.YtccaoklnifkgjaaDoor.Utf
