/-
  Contracts of utf.Repair and utf.Chars.
-/
import Derived.Test.YtjchebnjbfhooaaDoorUtfCalls
import Derived.Maps.AppendAt
namespace Go.Proofs.YtjchebnjbfhooaaDoor.Utf
open Go.RowKit Go.Proofs.YtjchebnjbfhooaaDoor.Oct Go.Proofs.YtjchebnjbfhooaaDoor.Mem
open Go.Lib (encodeRune)

/-! ### Repair -/
theorem enter_repair1 : ∀ args w, (callFunc 45 args).run Tryd.prog w = .ok (.enter 45 args) w := enters_of Tryd.func45 (by kernel_rfl) rfl

/-- Another box than the slice's, of another type than its cells, lies as it lay. -/
theorem other_box {W w1 : World} {n₀ B k : Nat} {t e : TypeId} {v v' u : Value} {n size : Nat} {xs : List Value} {tmp : Obj} (h : Boxed W k t u) (hte : t ≠ e) (hkB : k ≠ B) (hrow : W.ownsRow n₀ e size v n xs) (hgrow : (W.alloc tmp).grownBy w1 v.ownBlock) :
    Boxed (w1.setCell ⟨B, 0, none⟩ v') k t u := ((h.alloc tmp).kept hgrow (h.not_row hte hrow)).other hkB _

set_option maxHeartbeats 1000000 in
theorem repair1_c (c : Int) (hc0 : 0 ≤ c) (hc1 : c ≤ 1114111) (base b n : Nat) (v : Value) (l : List UInt8) (W : World) (hb : Boxed W b 38 v) (hrow : W.ownsRow base 5 1 v n (l.map bv)) (hn : n + 4 ≤ 140737488355328) (hbase : base ≤ W.heap.size) (hbb : base ≤ b) :
    Calls Tryd.prog 45 #[.int .i64 c, .pointer (some ⟨b, 0, none⟩)] W fun e W' => (∃ u, e = .returned u) ∧ ∃ v', Boxed W' b 38 v' ∧ W'.ownsRow base 5 1 v' (n + (encodeRune c).length) ((l ++ encodeRune c).map bv) ∧ KeepsOthers W W' ∧ Below base W W' ∧
      ∀ k t u, t ≠ 5 → k ≠ b → Boxed W k t u → Boxed W' k t u := by
  have ha := Tryd.utf8_AppendRune_plain base v n (l.map bv) c (by omega) (by omega) W hrow hn hbase
  rw [runeCells_eq, List.length_map, ← List.map_append] at ha
  obtain ⟨m, hm⟩ : ∃ m, n + (encodeRune c).length = m + 1 := ⟨n + (encodeRune c).length - 1, by have := enc_len c; omega⟩
  rw [hm] at ha ⊢
  have hcell := hb.cell
  have HB := Lib.hid hb
  have HR := Lib.hid hrow
  clear hm hb hrow
  go_enter Tryd.func45, Tryd.ntmps45
  go_wp2_with fail
  refine ha.mono ?_
  rintro e w1 ⟨v', rfl, hown, o, hg⟩
  clear ha hcell
  obtain ⟨g', cap', rfl⟩ := ownsRow_succ hown
  obtain ⟨hv1, hv2, hr2, hk2, hb2⟩ := HB.out.appended (by decide) HR.out hbase hbb hown hg
  have hoth := Lib.hid (fun k t u (ht : t ≠ 5) (hk : k ≠ b) (hx : Boxed W k t u) => other_box (v' := .slice (some ⟨g', 0, none⟩) (m + 1) cap') hx ht hk HR.out hg)
  have hc1' := hv1.cell
  have hf1' := hv1.frozen
  have H := Lib.hid (And.intro hv2 (And.intro hr2 (And.intro hk2 hb2)))
  clear hv1 hv2 hr2 hk2 hb2 hown hg
  go_wp2
  go_end0
  exact ⟨⟨_, rfl⟩, _, H.out.1, H.out.2.1, H.out.2.2.1, H.out.2.2.2, hoth.out⟩

/-- What holds between two rounds of Repair. -/
def RepairAt (w : World) (b : Nat) (dov : Value) (s : ByteArray) (pre : List Int) (W : World) : Prop :=
  (∃ v, Boxed W b 38 v ∧ W.ownsRow w.heap.size 5 1 v (encs pre).length ((encs pre).map bv) ∧ True) ∧ Boxed W (b + 1) 54 dov ∧ Boxed W (b + 2) 9 (.string s) ∧ Tabs W ∧ Kept w W

set_option maxHeartbeats 1000000 in
theorem repair_each (s : ByteArray) (hs : s.size ≤ 17592186044416) (w w0 : World) (hT : Tabs w) (hk0 : Kept w w0) (v0 : Value) (hown : w0.ownsRow w.heap.size 5 1 v0 0 []) :
    Calls Tryd.prog 44 #[.string s, .func (.func 45) #[] #[.pointer (some ⟨w0.heap.size, 0, none⟩)]] (w0.alloc (.cells #[v0] 38)) fun e W' => (∃ v, e = .returned v) ∧
      RepairAt w w0.heap.size (.func (.func 45) #[] #[.pointer (some ⟨w0.heap.size, 0, none⟩)]) s (chars s.data.toList) W' := by
  obtain ⟨w1, hw1⟩ : ∃ w1, w1 = w0.alloc (.cells #[v0] 38) := ⟨_, rfl⟩
  have hsz : w1.heap.size = w0.heap.size + 1 := by rw [hw1]; simp
  have hk1 : Kept w w1 := kept_trans hk0 (by rw [hw1]; exact (Below.refl _ w0).alloc (Nat.le_refl _) _)
  have hx := each_boxes w1 (.func (.func 45) #[] #[.pointer (some ⟨w0.heap.size, 0, none⟩)]) s
  rw [hsz] at hx
  rw [← hw1]
  refine each_c s (by omega) 45 #[.pointer (some ⟨w0.heap.size, 0, none⟩)] w1 _ enter_repair1 ?_ ?_ ?_ ?_
  · intro pre W h
    rw [hsz]; exact ⟨h.2.1.cell, h.2.2.1.cell, h.2.2.2.1⟩
  · rw [hsz]
    exact OwnFrom.and (Own.from (holdsRow_own _ _ _ _ _ (fun pre : List Int => (encs pre).length) (fun pre => (encs pre).map bv) (fun _ _ => True)) _) (OwnFrom.and (Own.from (boxed_own _ _ (fun _ => _)) _) (OwnFrom.and (Own.from (boxed_own _ _ (fun _ => _)) _) (OwnFrom.and (tabs_own _) (ownFrom_below (Nat.le_refl _) (by have := hk0.size; omega)))))
  · refine ⟨⟨v0, ?_, ?_, trivial⟩, hx.1, hx.2.1, hT.kept (kept_trans hk1 hx.2.2), kept_trans hk1 hx.2.2⟩
    · rw [hw1]
      exact ((Boxed.new w0 _ _).alloc _).alloc _
    · rw [hw1]
      exact ((hown.alloc _).alloc _).alloc _
  · rintro pre c W ⟨⟨v, hv, hr, _⟩, h2, h3, h4, h5⟩ hc h0 hlen
    have hel := encs_len pre
    have hcr : 0 ≤ c ∧ c ≤ 1114111 := by unfold isChar at hc; omega
    refine (repair1_c c hcr.1 hcr.2 w.heap.size w0.heap.size (encs pre).length v (encs pre) W hv hr (by omega) h5.size (hk0.size)).mono ?_
    rintro e W' ⟨he, v', hv', hr', hko, hbl, hoth⟩
    refine ⟨he, ⟨⟨v', hv', ?_, trivial⟩, hoth _ _ _ (by decide) (by omega) h2, hoth _ _ _ (by decide) (by omega) h3, hT.kept (Below.trans h5 hbl), Below.trans h5 hbl⟩, hko⟩
    rw [encs_snoc, List.length_append]; exact hr'

set_option maxHeartbeats 1000000 in
theorem repair_c (s : ByteArray) (hs : s.size ≤ 17592186044416) (w : World) (hT : Tabs w) :
    Calls Tryd.prog 28 #[.string s] w fun e w' => e = .returned (.string (S (rep s.data.toList))) ∧ Kept w w' := by
  obtain ⟨i0, hi, hz0, hz1, hz2⟩ := info_parts info_u8
  go_enter Tryd.func28, Tryd.ntmps28
  go_wp2_with (at_make; refine wpList_make_own _ rfl _ _ 38 rfl w.heap.size 5 i0 (.int .u8 0) 1 Tryd.underlying38 hi hz0 hz1 _ _ _ s.size rfl rfl rfl (by rw [hz2]; omega) (by unfold maxLen; omega) (Nat.le_refl _) ?_; intro w0 hown hgrow)
  refine (repair_each s hs w w0 hT ((Below.refl _ w).grown hgrow (Nat.le_refl _) (fun k hk => by cases hk)) _ hown).mono ?_
  rintro e w2 ⟨⟨u, rfl⟩, ⟨v, hv, hr, _⟩, h2, h3, h4, h5⟩
  have hcell := hv.cell
  have hcv := conv_own hr
  have H5 := Lib.hid h5
  have e1 : encs (chars s.data.toList) = rep s.data.toList := rfl
  rw [e1] at hcv
  clear hv hr h2 h3 h4 h5 hown hgrow hi hz0 hz1 hz2 e1
  go_wp2
  go_ret
  exact ⟨rfl, H5.out⟩

/-! ### Chars -/
/-- What holds between two rounds of Chars. -/
def CharsAt (w : World) (b : Nat) (dov : Value) (s : ByteArray) (pre : List Int) (W : World) : Prop :=
  (∃ v, Boxed W b 66 v ∧ W.ownsRow w.heap.size 3 1 v pre.length (pre.map iv) ∧ True) ∧ Boxed W (b + 1) 54 dov ∧ Boxed W (b + 2) 9 (.string s) ∧ Tabs W ∧ Kept w W

end Go.Proofs.YtjchebnjbfhooaaDoor.Utf
