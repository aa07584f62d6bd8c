/-
  Contracts of utf.Repair and utf.Chars.
-/
import Derived.Test.YtppclkecfggkiaaDoorUtfCalls
import Derived.Maps.AppendAt
namespace Go.Proofs.YtppclkecfggkiaaDoor.Utf
open Go.RowKit Go.Proofs.YtppclkecfggkiaaDoor.Oct Go.Proofs.YtppclkecfggkiaaDoor.Mem
open Go.Lib (encodeRune)

/-! ### Repair -/
/-- Another box than the slice's, of another type than its cells, lies as it lay. -/
theorem other_box {W w1 : World} {n₀ B k : Nat} {t e : TypeId} {v v' u : Value} {n size : Nat} {xs : List Value} {tmp : Obj} (h : Boxed W k t u) (hte : t ≠ e) (hkB : k ≠ B) (hrow : W.ownsRow n₀ e size v n xs) (hgrow : (W.alloc tmp).grownBy w1 v.ownBlock) :
    Boxed (w1.setCell ⟨B, 0, none⟩ v') k t u := ((h.alloc tmp).kept hgrow (h.not_row hte hrow)).other hkB _

/-- What holds between two rounds of Repair. -/
def RepairAt (w : World) (b : Nat) (dov : Value) (s : ByteArray) (pre : List Int) (W : World) : Prop :=
  (∃ v, Boxed W b 31 v ∧ W.ownsRow w.heap.size 5 1 v (encs pre).length ((encs pre).map bv) ∧ True) ∧ Boxed W (b + 1) 44 dov ∧ Boxed W (b + 2) 9 (.string s) ∧ Tabs W ∧ Kept w W

/-! ### Chars -/
theorem enter_chars1 : ∀ args w, (callFunc 31 args).run Tryd.prog w = .ok (.enter 31 args) w := enters_of Tryd.func31 (by kernel_rfl) rfl

set_option maxHeartbeats 1000000 in
theorem chars1_c (c : Int) (base b n : Nat) (v : Value) (l : List Int) (W : World) (hb : Boxed W b 34 v) (hrow : W.ownsRow base 3 1 v n (l.map iv)) (hn : n + 1 ≤ 17592186044416) (hbase : base ≤ W.heap.size) (hbb : base ≤ b) :
    Calls Tryd.prog 31 #[.int .i64 c, .pointer (some ⟨b, 0, none⟩)] W fun e W' => (∃ u, e = .returned u) ∧ ∃ v', Boxed W' b 34 v' ∧ W'.ownsRow base 3 1 v' (n + 1) ((l ++ [c]).map iv) ∧ KeepsOthers W W' ∧ Below base W W' ∧
      ∀ k t u, t ≠ 3 → k ≠ b → Boxed W k t u → Boxed W' k t u := by
  obtain ⟨i0, hi, hz0, hz1, hz2⟩ := info_parts info_int
  have hcell := hb.cell
  have HB := Lib.hid hb
  have HR := Lib.hid hrow
  clear hb hrow
  go_enter Tryd.func31, Tryd.ntmps31
  go_wp2_with (at_builtin; refine wpList_append_own _ rfl _ _ 34 rfl base 3 i0 (.int .i64 0) 1 8 Tryd.underlying34 hi hz0 hz1 hz2 rfl (by decide) _ _ _ rfl (HR.out.alloc _) ⟨W.heap.size, 0, none⟩ 1 1 [iv c] rfl rfl (cell_one_new _ _ _) (by simp [Value.oneCell']) (by unfold maxLen; omega) (by omega) (by simp; omega) ?_; intro v' w1 hown hg _; clear hi hz0 hz1 hz2; obtain ⟨g', cap', rfl⟩ := ownsRow_succ hown; obtain ⟨hv1, hv2, hr2, hk2, hb2⟩ := HB.out.appended (by decide) HR.out hbase hbb hown hg; have hoth := Lib.hid (fun k t u (ht : t ≠ 3) (hk : k ≠ b) (hx : Boxed W k t u) => other_box (v' := .slice (some ⟨g', 0, none⟩) (n + 1) cap') hx ht hk HR.out hg); have hc1' := hv1.cell; have hf1' := hv1.frozen; have H := Lib.hid (And.intro hv2 (And.intro hr2 (And.intro hk2 hb2))); clear hv1 hv2 hr2 hk2 hb2 hown hg hcell)
  go_end0
  refine ⟨⟨_, rfl⟩, _, H.out.1, ?_, H.out.2.2.1, H.out.2.2.2, hoth.out⟩
  rw [List.map_append]; exact H.out.2.1

/-- What holds between two rounds of Chars. -/
def CharsAt (w : World) (b : Nat) (dov : Value) (s : ByteArray) (pre : List Int) (W : World) : Prop :=
  (∃ v, Boxed W b 34 v ∧ W.ownsRow w.heap.size 3 1 v pre.length (pre.map iv) ∧ True) ∧ Boxed W (b + 1) 44 dov ∧ Boxed W (b + 2) 9 (.string s) ∧ Tabs W ∧ Kept w W

set_option maxHeartbeats 1000000 in
theorem chars_each (s : ByteArray) (hs : s.size ≤ 17592186044416) (w w0 : World) (hT : Tabs w) (hk0 : Kept w w0) (v0 : Value) (hown : w0.ownsRow w.heap.size 3 1 v0 0 []) :
    Calls Tryd.prog 30 #[.string s, .func (.func 31) #[] #[.pointer (some ⟨w0.heap.size, 0, none⟩)]] (w0.alloc (.cells #[v0] 34)) fun e W' => (∃ v, e = .returned v) ∧
      CharsAt w w0.heap.size (.func (.func 31) #[] #[.pointer (some ⟨w0.heap.size, 0, none⟩)]) s (chars s.data.toList) W' := by
  obtain ⟨w1, hw1⟩ : ∃ w1, w1 = w0.alloc (.cells #[v0] 34) := ⟨_, rfl⟩
  have hsz : w1.heap.size = w0.heap.size + 1 := by rw [hw1]; simp
  have hk1 : Kept w w1 := kept_trans hk0 (by rw [hw1]; exact (Below.refl _ w0).alloc (Nat.le_refl _) _)
  have hx := each_boxes w1 (.func (.func 31) #[] #[.pointer (some ⟨w0.heap.size, 0, none⟩)]) s
  rw [hsz] at hx
  rw [← hw1]
  refine each_c s (by omega) 31 #[.pointer (some ⟨w0.heap.size, 0, none⟩)] w1 _ enter_chars1 ?_ ?_ ?_ ?_
  · intro pre W h
    rw [hsz]; exact ⟨h.2.1.cell, h.2.2.1.cell, h.2.2.2.1⟩
  · rw [hsz]
    exact OwnFrom.and (Own.from (holdsRow_own _ _ _ _ _ (fun pre : List Int => pre.length) (fun pre => pre.map iv) (fun _ _ => True)) _) (OwnFrom.and (Own.from (boxed_own _ _ (fun _ => _)) _) (OwnFrom.and (Own.from (boxed_own _ _ (fun _ => _)) _) (OwnFrom.and (tabs_own _) (ownFrom_below (Nat.le_refl _) (by have := hk0.size; omega)))))
  · refine ⟨⟨v0, ?_, ?_, trivial⟩, hx.1, hx.2.1, hT.kept (kept_trans hk1 hx.2.2), kept_trans hk1 hx.2.2⟩
    · rw [hw1]
      exact ((Boxed.new w0 _ _).alloc _).alloc _
    · rw [hw1]
      exact ((hown.alloc _).alloc _).alloc _
  · rintro pre c W ⟨⟨v, hv, hr, _⟩, h2, h3, h4, h5⟩ hc h0 hlen
    refine (chars1_c c w.heap.size w0.heap.size pre.length v pre W hv hr (by omega) h5.size (hk0.size)).mono ?_
    rintro e W' ⟨he, v', hv', hr', hko, hbl, hoth⟩
    refine ⟨he, ⟨⟨v', hv', ?_, trivial⟩, hoth _ _ _ (by decide) (by omega) h2, hoth _ _ _ (by decide) (by omega) h3, hT.kept (Below.trans h5 hbl), Below.trans h5 hbl⟩, hko⟩
    rw [List.length_append]; exact hr'

set_option maxHeartbeats 1000000 in
theorem chars_c (s : ByteArray) (hs : s.size ≤ 17592186044416) (w : World) (hT : Tabs w) :
    Calls Tryd.prog 13 #[.string s] w fun e w' => ∃ v, e = .returned v ∧ w'.ownsRow w.heap.size 3 1 v (chars s.data.toList).length ((chars s.data.toList).map iv) ∧ Kept w w' := by
  obtain ⟨i0, hi, hz0, hz1, hz2⟩ := info_parts info_int
  have hcl := chars_len s.data.toList
  rw [size_list] at hcl
  have hcount := count_c s (by omega) w hT
  obtain ⟨n, hn⟩ : ∃ n, n = (chars s.data.toList).length := ⟨_, rfl⟩
  rw [← hn] at hcount hcl
  have HN := Lib.hid hn
  clear hn
  go_enter Tryd.func13, Tryd.ntmps13
  go_wp2_with fail
  refine hcount.mono ?_
  rintro e wc ⟨rfl, hbc⟩
  have hBc := hbc.size
  have HBC := Lib.hid hbc
  clear hbc hcount
  go_wp2_with (at_make; refine wpList_make_own _ rfl _ _ 34 rfl w.heap.size 3 i0 (.int .i64 0) 1 Tryd.underlying34 hi hz0 hz1 _ _ _ n rfl rfl rfl (by rw [hz2]; omega) (by unfold maxLen; omega) hBc ?_; intro w0 hown hgrow)
  refine (chars_each s hs w w0 hT (kept_trans HBC.out ((Below.refl _ wc).grown hgrow (Nat.le_refl _) (fun k hk => by cases hk))) _ hown).mono ?_
  rintro e w2 ⟨⟨u, rfl⟩, ⟨v, hv, hr, _⟩, h2, h3, h4, h5⟩
  have hcell := hv.cell
  have H5 := Lib.hid (And.intro hr h5)
  clear hv hr h2 h3 h4 h5 hown hgrow hi hz0 hz1 hz2 hcl hBc
  go_wp2
  go_ret
  exact ⟨v, rfl, H5.out.1, H5.out.2⟩
end Go.Proofs.YtppclkecfggkiaaDoor.Utf
