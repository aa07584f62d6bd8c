/-
  The laws UtfBack and UtfRepairs: contracts of the law's own example and of the two laws.
-/
import Derived.Test.YtccaoklnifkgjaaDoorUtfRepair
namespace Go.Proofs.YtccaoklnifkgjaaDoor.Utf
open Go.RowKit Go.Proofs.YtccaoklnifkgjaaDoor.Oct Go.Proofs.YtccaoklnifkgjaaDoor.Mem
open Go.Lib (encodeRune)

theorem alive_enc : S (encodeRune 233) = ⟨#[195, 169]⟩ := by decide +kernel
theorem alive_valid : valid (⟨#[195, 169]⟩ : ByteArray).data.toList = true := by
  have := valid_enc 233 (by decide)
  rwa [← alive_enc, list_S]

theorem alive_c (w : World) (hT : Tabs w) : Calls Tryd.prog 20 #[] w fun e w' => e = .returned (.bool true) ∧ Kept w w' := by
  have h1 := encode_yes 233 w (by decide)
  rw [alive_enc] at h1
  go_enter Tryd.func20, Tryd.ntmps20
  go_wp2_with fail
  refine h1.mono ?_
  rintro e w1 ⟨rfl, hb1⟩
  have h2 := valid_c ⟨#[195, 169]⟩ (by decide) w1 (hT.kept hb1)
  rw [alive_valid] at h2
  have HB1 := Lib.hid hb1
  clear hb1 h1
  go_wp2_with (go_at_call 12; refine (num_c _ _).mono ?_; rintro e w' ⟨rfl, rfl⟩)
  refine h2.mono ?_
  rintro e w2 ⟨rfl, hb2⟩
  go_wp2
  go_ret
  exact ⟨rfl, kept_trans HB1.out hb2⟩

theorem cat_list (t s : ByteArray) : (t ++ s).data.toList = t.data.toList ++ s.data.toList := by
  rw [ByteArray.data_append, Array.toList_append]

set_option maxHeartbeats 1000000 in
theorem law_back_yes (c : Int) (h : charB c = true) (s : ByteArray) (w : World) (hT : Tabs w) (hs : s.size ≤ 140737488351232) :
    Calls Tryd.prog 4 #[.int .i64 c, .string s] w fun e w' => e = .returned (.bool true) ∧ Kept w w' := by
  have hch : isChar c := of_decide_eq_true h
  obtain ⟨t, ht⟩ : ∃ t, t = S (encodeRune c) := ⟨_, rfl⟩
  have hlen : t.size ≤ 4 := by rw [ht, size_S]; exact (enc_len c).2
  have h1 := fun w => encode_yes c w h
  rw [← ht] at h1
  have h2 := fun w hT => decode_c (t ++ s) w hT
  have e2 : (t ++ s).data.toList = encodeRune c ++ s.data.toList := by rw [cat_list, ht, list_S]
  have e3 : (encodeRune c).length = t.size := by rw [ht, size_S]
  rw [e2, dec_enc c hch, e3] at h2
  have h3 := fun w hT => valid_c t (by omega) w hT
  have e4 : valid t.data.toList = true := by rw [ht, list_S]; exact valid_enc c hch
  rw [e4] at h3
  clear e2 e3 e4 ht h hch
  go_enter Tryd.func4, Tryd.ntmps4
  go_wp2_with fail
  refine (alive_c w hT).mono ?_
  rintro e w1 ⟨rfl, hb1⟩
  have HB1 := Lib.hid hb1
  clear hb1
  go_wp2_with fail
  refine (h1 w1).mono ?_
  rintro e w2 ⟨rfl, hb2⟩
  have HB2 := Lib.hid (kept_trans HB1.out hb2)
  clear hb2 h1 HB1
  go_wp2_with (go_at_call 12; refine (num_c _ _).mono ?_; rintro e w' ⟨rfl, rfl⟩)
  refine (h2 w2 (hT.kept HB2.out)).mono ?_
  rintro e w3 ⟨rfl, hb3⟩
  have HB3 := Lib.hid (kept_trans HB2.out hb3)
  clear hb3 h2 HB2
  go_wp2_with fail
  refine (h3 w3 (hT.kept HB3.out)).mono ?_
  rintro e w4 ⟨rfl, hb4⟩
  have HB4 := Lib.hid (kept_trans HB3.out hb4)
  clear hb4 h3 HB3
  go_wp2
  go_ret
  exact ⟨rfl, HB4.out⟩

set_option maxHeartbeats 1000000 in
theorem law_back_no (c : Int) (h : charB c = false) (s : ByteArray) (w : World) (hT : Tabs w) :
    Calls Tryd.prog 4 #[.int .i64 c, .string s] w fun e w' => e = .returned (.bool true) ∧ Kept w w' := by
  have hch : ¬ isChar c := of_decide_eq_false h
  have h1 := fun w => encode_no c w h
  have hcase : c < 0 ∨ 1114111 < c ∨ (55296 ≤ c ∧ c ≤ 57343) := by unfold isChar at hch; omega
  clear h hch
  go_enter Tryd.func4, Tryd.ntmps4
  go_wp2_with fail
  refine (alive_c w hT).mono ?_
  rintro e w1 ⟨rfl, hb1⟩
  have HB1 := Lib.hid hb1
  clear hb1
  go_wp2_with fail
  refine (h1 w1).mono ?_
  rintro e w2 ⟨rfl, hb2⟩
  have HB2 := Lib.hid (kept_trans HB1.out hb2)
  clear hb2 h1 HB1
  rcases hcase with hc | hc | ⟨hc1, hc2⟩
  · go_wp2_with (go_at_call 12; refine (num_c _ _).mono ?_; rintro e w' ⟨rfl, rfl⟩)
    go_ret
    exact ⟨rfl, HB2.out⟩
  · have d0 : decide (c < 0) = false := by simp; omega
    go_wp2_with (go_at_call 12; refine (num_c _ _).mono ?_; rintro e w' ⟨rfl, rfl⟩)
    go_ret
    exact ⟨rfl, HB2.out⟩
  · have d0 : decide (c < 0) = false := by simp; omega
    have d1 : decide (1114111 < c) = false := by simp; omega
    go_wp2_with (go_at_call 12; refine (num_c _ _).mono ?_; rintro e w' ⟨rfl, rfl⟩)
    go_ret
    exact ⟨rfl, HB2.out⟩

theorem law_back (c : Int) (s : ByteArray) (w : World) (hT : Tabs w) (hs : s.size ≤ 140737488351232) :
    Calls Tryd.prog 4 #[.int .i64 c, .string s] w fun e w' => e = .returned (.bool true) ∧ Kept w w' := by
  cases h : charB c with
  | true => exact law_back_yes c h s w hT hs
  | false => exact law_back_no c h s w hT

/-! ### UtfRepairs -/
theorem str_eq_iff (a b : ByteArray) : a = b ↔ a.data.toList = b.data.toList := ⟨fun h => by rw [h], fun h => by rw [← S_list a, ← S_list b, h]⟩

/-- Has the text a 0 among its first k octets? -/
def zeroTo (s : ByteArray) (k : Nat) : Bool := (s.data.toList.take k).any (fun x => decide (x = 0))
theorem zeroTo_succ (s : ByteArray) (k : Nat) (h : k < s.size) : zeroTo s (k + 1) = (zeroTo s k || decide (((s[k].toNat : Nat) : Int) = 0)) := by
  unfold zeroTo
  have e : s.data.toList[k]? = some s[k] := by rw [List.getElem?_eq_getElem (by rw [size_list]; exact h)]; rfl
  rw [List.take_add_one, e, List.any_append]
  congr 1
  simp only [Option.toList, List.any_cons, List.any_nil, Bool.or_false]
  rw [Bool.eq_iff_iff]
  simp only [decide_eq_true_eq]
  constructor
  · intro h; rw [h]; rfl
  · intro h; exact UInt8.toNat_inj.1 (by rw [show (0 : UInt8).toNat = 0 from rfl]; omega)
theorem zeroTo_all (s : ByteArray) : zeroTo s s.size = decide ((0 : UInt8) ∈ s.data.toList) := by
  unfold zeroTo
  rw [List.take_of_length_le (by rw [size_list]; exact Nat.le_refl _), Bool.eq_iff_iff, List.any_eq_true]
  simp only [decide_eq_true_eq]
  exact ⟨fun ⟨x, hx, e⟩ => e ▸ hx, fun h => ⟨0, h, rfl⟩⟩

set_option maxHeartbeats 2000000 in
theorem law_repairs (s : ByteArray) (w : World) (hT : Tabs w) (hs : s.size ≤ 1048576) :
    Calls Tryd.prog 5 #[.string s] w fun e w' => e = .returned (.bool true) ∧ Kept w w' := by
  obtain ⟨t, ht⟩ : ∃ t, t = S (rep s.data.toList) := ⟨_, rfl⟩
  have htl : t.data.toList = rep s.data.toList := by rw [ht, list_S]
  have hlen : t.size ≤ 4194304 := by
    have h1 := encs_len (chars s.data.toList)
    have h2 := chars_len s.data.toList
    rw [size_list] at h2
    rw [ht, size_S]; unfold rep; omega
  have h1 := fun w hT => repair_c s (by omega) w hT
  rw [← ht] at h1
  have h2 := fun w hT => valid_c t (by omega) w hT
  rw [htl, valid_rep] at h2
  have h3 := fun w hT => repair_c t (by omega) w hT
  rw [htl, rep_rep, ← ht] at h3
  have h4 := fun w hT => valid_c s (by omega) w hT
  have h5 := fun w hT => count_c t (by omega) w hT
  rw [htl, chars_rep] at h5
  have h6 := fun w hT => count_c s (by omega) w hT
  have hno : Hid (∀ k (h : k < t.size), ((((t[k]'h).toNat : Nat) : Int) == 0) = false) := fun k h => by
    have hm : t[k]'h ∈ t.data.toList := by
      have : t[k]'h = t.data.toList[k]'(by rw [size_list]; exact h) := rfl
      rw [this]; exact List.getElem_mem _
    rw [htl] at hm
    have h0 := rep_no0 s.data.toList
    have : (t[k]'h) ≠ 0 := fun e => h0 (by rw [← e]; exact hm)
    have : (t[k]'h).toNat ≠ 0 := fun e => this (UInt8.toNat_inj.1 (by rw [e]; rfl))
    simp; omega
  have hfin : Hid ((t.toList == s.toList) = (valid s.data.toList && !(zeroTo s s.size))) := by
    show _ = _
    rw [str_beq, zeroTo_all, Bool.eq_iff_iff]
    simp only [decide_eq_true_eq, Bool.and_eq_true, Bool.not_eq_true', decide_eq_false_iff_not]
    rw [str_eq_iff, htl, rep_eq_iff]
  clear ht htl
  generalize valid s.data.toList = v at h4 hfin
  generalize (chars s.data.toList).length = n at h5 h6
  go_enter Tryd.func5, Tryd.ntmps5
  go_wp2_with fail
  refine (alive_c w hT).mono ?_
  rintro e w1 ⟨rfl, hb1⟩
  have HB1 := Lib.hid hb1
  clear hb1
  go_wp2_with fail
  refine (h1 w1 (hT.kept HB1.out)).mono ?_
  rintro e w2 ⟨rfl, hb2⟩
  have HB2 := Lib.hid (kept_trans HB1.out hb2)
  clear hb2 h1 HB1
  go_wp2
  go_loop [4, 5] (fun z i => ∃ k : Nat, k ≤ s.size ∧ i = .int .i64 k ∧ z = .bool (zeroTo s k)) (fun _ i => s.size - (intOf i).toNat)
  case atStart => exact ⟨0, Nat.zero_le _, rfl, by simp [zeroTo]⟩
  case round =>
    obtain ⟨k, hk, rfl, rfl⟩ := hrel
    by_cases hlt : k < s.size
    · have hz := Lib.hid (zeroTo_succ s k hlt)
      cases hq : zeroTo s k with
      | true =>
        rw [hq] at hz
        go_wp2
        go_round
        case rel => exact ⟨k + 1, by omega, by go_num, by rw [hz.out]; rfl⟩
        case measure => simp [intOf]; omega
      | false =>
        rw [hq] at hz
        go_wp2
        go_round
        case rel => exact ⟨k + 1, by omega, by go_num, by rw [hz.out, Bool.false_or]; congr 1⟩
        case measure => simp [intOf]; omega
    · obtain rfl : k = s.size := by omega
      generalize zeroTo s s.size = z at hfin ⊢
      go_wp2
      go_loop [6] (fun i => ∃ k : Nat, k ≤ t.size ∧ i = .int .i64 k) (fun i => t.size - (intOf i).toNat)
      case atStart => exact ⟨0, Nat.zero_le _, rfl⟩
      case round =>
        obtain ⟨k, hk, rfl⟩ := hrel
        by_cases hlt : k < t.size
        · have h0 := hno.out k hlt
          go_wp2
          go_round
          case rel => exact ⟨k + 1, by omega, by go_num⟩
          case measure => simp [intOf]; omega
        · clear hno
          rcases v with _ | _ <;> rcases z with _ | _
          all_goals
            have hq := hfin.out
            simp only [Bool.true_and, Bool.false_and, Bool.not_true, Bool.not_false] at hq
            clear hfin
            go_wp2_with fail
            refine (h2 _ (hT.kept HB2.out)).mono ?_
            rintro e w3 ⟨rfl, hb3⟩
            have HB3 := Lib.hid (kept_trans HB2.out hb3)
            clear hb3 h2 HB2
            go_wp2_with fail
            refine (h3 _ (hT.kept HB3.out)).mono ?_
            rintro e w4 ⟨rfl, hb4⟩
            have HB4 := Lib.hid (kept_trans HB3.out hb4)
            clear hb4 h3 HB3
            go_wp2_with fail
            refine (h4 _ (hT.kept HB4.out)).mono ?_
            rintro e w5 ⟨rfl, hb5⟩
            have HB5 := Lib.hid (kept_trans HB4.out hb5)
            clear hb5 h4 HB4
            go_wp2_with fail
            refine (h5 _ (hT.kept HB5.out)).mono ?_
            rintro e w6 ⟨rfl, hb6⟩
            have HB6 := Lib.hid (kept_trans HB5.out hb6)
            clear hb6 h5 HB5
            go_wp2_with fail
            refine (h6 _ (hT.kept HB6.out)).mono ?_
            rintro e w7 ⟨rfl, hb7⟩
            have HB7 := Lib.hid (kept_trans HB6.out hb7)
            clear hb7 h6 HB6
            go_wp2
            go_ret
            exact ⟨rfl, HB7.out⟩
end Go.Proofs.YtccaoklnifkgjaaDoor.Utf
