/-
  The laws UtfBack and UtfRepairs: contracts of the law's own example and of the two laws.
-/
import Derived.Test.YtccaoklnifkgjaaDoorUtfRepair
namespace Go.Proofs.YtccaoklnifkgjaaDoor.Utf
open Go.RowKit Go.Proofs.YtccaoklnifkgjaaDoor.Oct Go.Proofs.YtccaoklnifkgjaaDoor.Mem
open Go.Lib (encodeRune)

theorem alive_enc : S (encodeRune 233) = ⟨#[195, 169]⟩ := by decide +kernel
theorem alive_valid : valid (⟨#[195, 169]⟩ : ByteArray).data.toList = true := by
  have := valid_enc 233 (by decide)
  rwa [← alive_enc, list_S]

theorem alive_c (w : World) (hT : Tabs w) : Calls Tryd.prog 20 #[] w fun e w' => e = .returned (.bool true) ∧ Kept w w' := by
  have h1 := encode_yes 233 w (by decide)
  rw [alive_enc] at h1
  go_enter Tryd.func20, Tryd.ntmps20
  go_wp2_with fail
  refine h1.mono ?_
  rintro e w1 ⟨rfl, hb1⟩
  have h2 := valid_c ⟨#[195, 169]⟩ (by decide) w1 (hT.kept hb1)
  rw [alive_valid] at h2
  have HB1 := Lib.hid hb1
  clear hb1 h1
  go_wp2_with (go_at_call 12; refine (num_c _ _).mono ?_; rintro e w' ⟨rfl, rfl⟩)
  refine h2.mono ?_
  rintro e w2 ⟨rfl, hb2⟩
  go_wp2
  go_ret
  exact ⟨rfl, kept_trans HB1.out hb2⟩

theorem cat_list (t s : ByteArray) : (t ++ s).data.toList = t.data.toList ++ s.data.toList := by
  rw [ByteArray.data_append, Array.toList_append]

set_option maxHeartbeats 1000000 in
theorem law_back_yes (c : Int) (h : charB c = true) (s : ByteArray) (w : World) (hT : Tabs w) (hs : s.size ≤ 140737488351232) :
    Calls Tryd.prog 4 #[.int .i64 c, .string s] w fun e w' => e = .returned (.bool true) ∧ Kept w w' := by
  have hch : isChar c := of_decide_eq_true h
  obtain ⟨t, ht⟩ : ∃ t, t = S (encodeRune c) := ⟨_, rfl⟩
  have hlen : t.size ≤ 4 := by rw [ht, size_S]; exact (enc_len c).2
  have h1 := fun w => encode_yes c w h
  rw [← ht] at h1
  have h2 := fun w hT => decode_c (t ++ s) w hT
  have e2 : (t ++ s).data.toList = encodeRune c ++ s.data.toList := by rw [cat_list, ht, list_S]
  have e3 : (encodeRune c).length = t.size := by rw [ht, size_S]
  rw [e2, dec_enc c hch, e3] at h2
  have h3 := fun w hT => valid_c t (by omega) w hT
  have e4 : valid t.data.toList = true := by rw [ht, list_S]; exact valid_enc c hch
  rw [e4] at h3
  clear e2 e3 e4 ht h hch
  go_enter Tryd.func4, Tryd.ntmps4
  go_wp2_with fail
  refine (alive_c w hT).mono ?_
  rintro e w1 ⟨rfl, hb1⟩
  have HB1 := Lib.hid hb1
  clear hb1
  go_wp2_with fail
  refine (h1 w1).mono ?_
  rintro e w2 ⟨rfl, hb2⟩
  have HB2 := Lib.hid (kept_trans HB1.out hb2)
  clear hb2 h1 HB1
  go_wp2_with (go_at_call 12; refine (num_c _ _).mono ?_; rintro e w' ⟨rfl, rfl⟩)
  refine (h2 w2 (hT.kept HB2.out)).mono ?_
  rintro e w3 ⟨rfl, hb3⟩
  have HB3 := Lib.hid (kept_trans HB2.out hb3)
  clear hb3 h2 HB2
  go_wp2_with fail
  refine (h3 w3 (hT.kept HB3.out)).mono ?_
  rintro e w4 ⟨rfl, hb4⟩
  have HB4 := Lib.hid (kept_trans HB3.out hb4)
  clear hb4 h3 HB3
  go_wp2
  go_ret
  exact ⟨rfl, HB4.out⟩

set_option maxHeartbeats 1000000 in
theorem law_back_no (c : Int) (h : charB c = false) (s : ByteArray) (w : World) (hT : Tabs w) :
    Calls Tryd.prog 4 #[.int .i64 c, .string s] w fun e w' => e = .returned (.bool true) ∧ Kept w w' := by
  have hch : ¬ isChar c := of_decide_eq_false h
  have h1 := fun w => encode_no c w h
  have hcase : c < 0 ∨ 1114111 < c ∨ (55296 ≤ c ∧ c ≤ 57343) := by unfold isChar at hch; omega
  clear h hch
  go_enter Tryd.func4, Tryd.ntmps4
  go_wp2_with fail
  refine (alive_c w hT).mono ?_
  rintro e w1 ⟨rfl, hb1⟩
  have HB1 := Lib.hid hb1
  clear hb1
  go_wp2_with fail
  refine (h1 w1).mono ?_
  rintro e w2 ⟨rfl, hb2⟩
  have HB2 := Lib.hid (kept_trans HB1.out hb2)
  clear hb2 h1 HB1
  rcases hcase with hc | hc | ⟨hc1, hc2⟩
  · go_wp2_with (go_at_call 12; refine (num_c _ _).mono ?_; rintro e w' ⟨rfl, rfl⟩)
    go_ret
    exact ⟨rfl, HB2.out⟩
  · have d0 : decide (c < 0) = false := by simp; omega
    go_wp2_with (go_at_call 12; refine (num_c _ _).mono ?_; rintro e w' ⟨rfl, rfl⟩)
    go_ret
    exact ⟨rfl, HB2.out⟩
  · have d0 : decide (c < 0) = false := by simp; omega
    have d1 : decide (1114111 < c) = false := by simp; omega
    go_wp2_with (go_at_call 12; refine (num_c _ _).mono ?_; rintro e w' ⟨rfl, rfl⟩)
    go_ret
    exact ⟨rfl, HB2.out⟩

theorem law_back (c : Int) (s : ByteArray) (w : World) (hT : Tabs w) (hs : s.size ≤ 140737488351232) :
    Calls Tryd.prog 4 #[.int .i64 c, .string s] w fun e w' => e = .returned (.bool true) ∧ Kept w w' := by
  cases h : charB c with
  | true => exact law_back_yes c h s w hT hs
  | false => exact law_back_no c h s w hT
end Go.Proofs.YtccaoklnifkgjaaDoor.Utf
