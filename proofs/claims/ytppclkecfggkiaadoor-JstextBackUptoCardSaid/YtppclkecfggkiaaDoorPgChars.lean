/-
  Contract of the page's Chars: the characters of a text, as they are repaired, in a list of its own.
-/
import Derived.Test.YtppclkecfggkiaaDoorUtfRefDec
import Derived.Maps.AppendAt
namespace Go.Proofs.YtppclkecfggkiaaDoor.Utf
open Go.RowKit Go.Proofs.YtppclkecfggkiaaDoor.Oct Go.Proofs.YtppclkecfggkiaaDoor.Mem
open Go.Lib (encodeRune encodeRuneZ)

theorem chars_step (l : List UInt8) (hl : l ≠ []) : chars l = fix (dec l).1 :: chars (l.drop (dec l).2) := by
  unfold chars
  rw [parts_step l hl, List.map_cons]
theorem chars_nil : chars [] = [] := rfl
theorem drop_ne (s : ByteArray) (a : Nat) (h : a < s.size) : s.data.toList.drop a ≠ [] := by
  intro e; have := congrArg List.length e; rw [List.length_drop, size_list] at this; simp at this; omega
theorem drop_nil (s : ByteArray) (a : Nat) (h : s.size ≤ a) : s.data.toList.drop a = [] := List.drop_eq_nil_of_le (by rw [size_list]; exact h)

theorem fix_low {c : Int} (h : c = -1 ∨ isChar c) (hc : c ≤ 0) : fix c = 65533 := by
  unfold fix; rw [if_pos]; unfold isChar at h; omega
theorem fix_high {c : Int} (hc : 0 < c) : fix c = c := by
  unfold fix; rw [if_neg]; omega

set_option maxHeartbeats 4000000 in
theorem rchars_c (s : ByteArray) (hs : s.size ≤ 17592186044416) (w : World) :
    Calls Tryd.prog 23 #[.string s] w fun e w' => ∃ v, e = .returned v ∧ w'.ownsRow w.heap.size 3 1 v (chars s.data.toList).length ((chars s.data.toList).map iv) ∧ Kept w w' := by
  obtain ⟨i0, hi, hz0, hz1, hz2⟩ := info_parts info_int
  go_enter Tryd.func23, Tryd.ntmps23
  go_wp2
  go_loopw [3, 4, 5, 6] (fun v i _ _ wr => ∃ (a n : Nat) (pre : List Int), a ≤ s.size ∧ n ≤ a ∧ i = .int .i64 a ∧ Hid (pre ++ chars (s.data.toList.drop a) = chars s.data.toList) ∧ Hid (wr.ownsRow w.heap.size 3 1 v n (pre.map iv)) ∧ Hid (Kept w wr)) (fun _ i _ _ _ => s.size - (intOf i).toNat)
  case atStart => exact ⟨0, 0, [], Nat.zero_le _, Nat.le_refl _, rfl, rfl, World.ownsRow_nil _ _ _ _, Below.refl _ _⟩
  case round =>
    obtain ⟨a, n, pre, ha, hna, rfl, hv, hrow, hb⟩ := hrel
    by_cases hlt : a < s.size
    · have hsz : (s.extract a s.size).size ≤ 4611686018427387904 := by rw [← size_list, cut_list, List.length_drop, size_list]; omega
      have hd := rdecode_c (s.extract a s.size) hsz wr
      rw [cut_list] at hd
      have hne := drop_ne s a hlt
      have hw := dec_width _ hne
      rw [List.length_drop, size_list] at hw
      have hc := dec_char _ hne
      have hst := Lib.hid (chars_step _ hne)
      rw [List.drop_drop] at hst
      clear hne hsz
      generalize dec (s.data.toList.drop a) = d at hd hw hc hst
      obtain ⟨c, k⟩ := d
      simp only at hd hw hc
      have hst' : Hid (chars (s.data.toList.drop a) = fix c :: chars (s.data.toList.drop (a + k))) := hst
      clear hst
      have HC := Lib.hid hc
      clear hc
      go_wp2_with fail
      refine hd.mono ?_
      rintro e w1 ⟨rfl, hb1⟩
      have HB1 := Lib.hid (kept_trans hb.out hb1)
      have HR1 : Hid (w1.ownsRow w.heap.size 3 1 _ n (pre.map iv)) := own_kept hrow.out hb1
      have hB : w.heap.size ≤ w1.heap.size := HB1.out.size
      clear hb1 hd hb hrow
      by_cases hc0 : c ≤ 0
      · have hfx := Lib.hid (fix_low HC.out hc0)
        go_wp2_with (at_builtin; refine wpList_append_own _ rfl _ _ 34 rfl w.heap.size 3 i0 (.int .i64 0) 1 8 Tryd.underlying34 hi hz0 hz1 hz2 rfl (by decide) _ _ _ rfl (HR1.out.alloc _) ⟨w1.heap.size, 0, none⟩ 1 1 [iv 65533] rfl rfl (cell_one_new _ _ _) (by simp [Value.oneCell']) (by unfold maxLen; omega) (by omega) (by simp; omega) ?_)
        intro v' w2 hown hg _
        have HO := Lib.hid hown
        have HB2 : Hid (Kept w w2) := (HB1.out.alloc hB _).grown hg (by simp; omega) (own_base HR1.out)
        clear hown hg HR1 HB1
        go_wp2
        go_roundw
        case rel =>
          refine ⟨a + k, n + 1, pre ++ [65533], by omega, by omega, by go_num, ?_, ?_, HB2⟩
          · show _ = _
            rw [← hv.out, hst'.out, hfx.out]; simp
          · show World.ownsRow _ _ _ _ _ _ _
            rw [List.map_append]; exact HO.out
        case measure => simp [intOf]; omega
      · have hc1 : 0 < c := by omega
        have hfx := Lib.hid (fix_high hc1)
        have d0 : decide (c ≤ 0) = false := by simp; omega
        go_wp2_with (at_builtin; refine wpList_append_own _ rfl _ _ 34 rfl w.heap.size 3 i0 (.int .i64 0) 1 8 Tryd.underlying34 hi hz0 hz1 hz2 rfl (by decide) _ _ _ rfl (HR1.out.alloc _) ⟨w1.heap.size, 0, none⟩ 1 1 [iv c] rfl rfl (cell_one_new _ _ _) (by simp [Value.oneCell']) (by unfold maxLen; omega) (by omega) (by simp; omega) ?_)
        intro v' w2 hown hg _
        have HO := Lib.hid hown
        have HB2 : Hid (Kept w w2) := (HB1.out.alloc hB _).grown hg (by simp; omega) (own_base HR1.out)
        clear hown hg HR1 HB1
        go_wp2
        go_roundw
        case rel =>
          refine ⟨a + k, n + 1, pre ++ [c], by omega, by omega, by go_num, ?_, ?_, HB2⟩
          · show _ = _
            rw [← hv.out, hst'.out, hfx.out]; simp
          · show World.ownsRow _ _ _ _ _ _ _
            rw [List.map_append]; exact HO.out
        case measure => simp [intOf]; omega
    · have hfin : Hid (pre = chars s.data.toList) := by
        show _ = _
        rw [← hv.out, drop_nil s a (by omega), chars_nil, List.append_nil]
      go_wp2
      go_ret
      refine ⟨_, rfl, ?_, hb.out⟩
      have hr := hrow.out
      have hn : pre.length = n := by simpa using hr.1
      rw [← hfin.out, hn]
      exact hr
end Go.Proofs.YtppclkecfggkiaaDoor.Utf
