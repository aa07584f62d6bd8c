/-
  Contracts of the page's Valid and Chars, and of SameInts: lists of numbers in memory.
-/
import Derived.Test.YtppclkecfggkiaaDoorPgChars
import Derived.Test.YtppclkecfggkiaaDoorUtfRepair
namespace Go.Proofs.YtppclkecfggkiaaDoor.Utf
open Go.RowKit Go.Proofs.YtppclkecfggkiaaDoor.Oct Go.Proofs.YtppclkecfggkiaaDoor.Mem
open Go.Lib (encodeRune encodeRuneZ)

theorem valid_step (l : List UInt8) (hl : l ≠ []) : valid l = (decide ((dec l).1 ≠ -1) && valid (l.drop (dec l).2)) := by
  unfold valid
  rw [parts_step l hl, List.all_cons]
theorem valid_nil : valid [] = true := rfl
set_option maxHeartbeats 2000000 in
theorem rvalid_c (s : ByteArray) (hs : s.size ≤ 4611686018427387904) (w : World) :
    Calls Tryd.prog 12 #[.string s] w fun e w' => e = .returned (.bool (valid s.data.toList)) ∧ Kept w w' := by
  go_enter Tryd.func12, Tryd.ntmps12
  go_wp2
  go_loopw [3, 4, 5] (fun i _ _ wr => ∃ a : Nat, a ≤ s.size ∧ i = .int .i64 a ∧ Hid (valid s.data.toList = valid (s.data.toList.drop a)) ∧ Hid (Kept w wr)) (fun i _ _ _ => s.size - (intOf i).toNat)
  case atStart => exact ⟨0, Nat.zero_le _, rfl, rfl, Below.refl _ _⟩
  case round =>
    obtain ⟨a, ha, rfl, hv, hb⟩ := hrel
    by_cases hlt : a < s.size
    · have hsz : (s.extract a s.size).size ≤ 4611686018427387904 := by rw [← size_list, cut_list, List.length_drop, size_list]; omega
      have hd := rdecode_c (s.extract a s.size) hsz wr
      rw [cut_list] at hd
      have hne := drop_ne s a hlt
      have hw := dec_width _ hne
      rw [List.length_drop, size_list] at hw
      have hc := dec_char _ hne
      have hst := Lib.hid (valid_step _ hne)
      rw [List.drop_drop] at hst
      clear hne hsz
      generalize dec (s.data.toList.drop a) = d at hd hw hc hst
      obtain ⟨c, k⟩ := d
      simp only at hd hw hc
      have hst' : Hid (valid (s.data.toList.drop a) = (decide (c ≠ -1) && valid (s.data.toList.drop (a + k)))) := hst
      clear hst
      rcases hc with rfl | hc
      · go_wp2_with (go_at_call 28; refine hd.mono ?_; rintro e w1 ⟨rfl, hb1⟩)
        go_ret
        refine ⟨ret_bool ?_, kept_trans hb.out hb1⟩
        rw [hv.out, hst'.out]; rfl
      · have h0 : 0 ≤ c := by unfold isChar at hc; omega
        have HC := Lib.hid hc
        clear hc
        go_wp2_with (go_at_call 28; refine hd.mono ?_; rintro e w1 ⟨rfl, hb1⟩)
        go_roundw
        case rel =>
          refine ⟨a + k, by omega, by go_num, ?_, kept_trans hb.out hb1⟩
          show _ = _
          rw [hv.out, hst'.out, decide_eq_true (by omega), Bool.true_and]
        case measure => simp [intOf]; omega
    · go_wp2
      go_ret
      refine ⟨ret_bool ?_, hb.out⟩
      rw [hv.out, drop_nil s a (by omega)]; rfl

end Go.Proofs.YtppclkecfggkiaaDoor.Utf
