/-
  Contract of number.Parse: the number that a text prints, or the error's number; it changes nothing.
-/
import Derived.Test.YtggbacekmpamjaaNumLeaves
namespace Go.Proofs.Ytggbacekmpamjaa.Num
open Go.RowKit Go.Proofs.Ytggbacekmpamjaa.Oct

theorem take_at (s : ByteArray) (k : Nat) (h : k < s.size) : s.data.toList.take (k + 1) = s.data.toList.take k ++ [s[k]] := by
  rw [List.take_succ_eq_append_getElem (by rw [size_list]; exact h)]; rfl
theorem mem_at (s : ByteArray) (k : Nat) (h : k < s.size) : s[k] ∈ s.data.toList := by
  rw [ByteArray.getElem_eq_getElem_data]; simp

set_option maxHeartbeats 1000000 in
theorem read_c (s : ByteArray) (w : World) (hd : ∀ c ∈ s.data.toList, isDig c = true) (hs : s.size ≤ 19) :
    Calls Try.prog 19 #[.string s] w fun e w' => e = .returned (.int .u64 (valD s.data.toList : Int)) ∧ w = w' := by
  have HD := Lib.hid hd
  clear hd
  go_enter Try.func19, Try.ntmps19
  go_wp2
  go_loop [3, 4, 7] (fun n _ i => ∃ k : Nat, k ≤ s.size ∧ i = .int .i64 k ∧ n = .int .u64 (valD (s.data.toList.take k) : Nat)) (fun _ _ i => s.size - (intOf i).toNat)
  case atStart => exact ⟨0, Nat.zero_le _, rfl, rfl⟩
  case round =>
    obtain ⟨k, hk, rfl, rfl⟩ := hrel
    by_cases hlt : k < s.size
    · have hv := valD_take k HD.out (show k ≤ 18 by omega)
      have hdk := of_decide_eq_true (HD.out _ (mem_at s k hlt))
      have HV : Hid (valD (s.data.toList.take (k + 1)) = valD (s.data.toList.take k) * 10 + cnt s[k]) := by show _ = _; rw [take_at s k hlt, valD_snoc]
      obtain ⟨hc0, hc1⟩ := hdk
      generalize valD (s.data.toList.take k) = v at hv HV
      go_wp2
      go_round
      case rel =>
        refine ⟨k + 1, by omega, by go_num, ?_⟩
        rw [HV.out]
        congr 1
        unfold cnt
        omega
      case measure => simp [intOf]; omega
    · go_wp2
      go_ret
      have hke : s.data.toList.take k = s.data.toList := List.take_of_length_le (by rw [size_list]; omega)
      exact ⟨ret_int (by rw [hke]), rfl⟩

theorem enter_odd : ∀ args w, (callFunc 17 args).run Try.prog w = .ok (.enter 17 args) w := enters_of Try.func17 (by kernel_rfl) rfl

theorem odd_c (c : UInt8) (w : World) :
    Calls Try.prog 17 #[.int .u8 (c.toNat : Int)] w fun e w' => e = .returned (.bool (!isDig c)) ∧ w = w' := by
  have h := c.toNat_lt
  go_enter Try.func17, Try.ntmps17
  go_wp2
  all_goals go_ret
  all_goals (refine ⟨ret_bool ?_, rfl⟩; unfold isDig; rw [Bool.eq_iff_iff]; simp; try omega)

set_option maxHeartbeats 1000000 in
theorem anyOctet_c (s : ByteArray) (w : World) (hs : s.size ≤ 9223372036854775807) :
    Calls Try.prog 16 #[.string s, .func (.func 17) #[] #[]] w fun e w' => e = .returned (.bool (!allDig s.data.toList)) ∧ w = w' := by
  have eg := enter_odd
  go_enter Try.func16, Try.ntmps16
  go_wp2
  go_loop [5, 8] (fun _ i => ∃ k : Nat, k ≤ s.size ∧ i = .int .i64 k ∧ Hid (∀ c ∈ s.data.toList.take k, isDig c = true)) (fun _ i => s.size - (intOf i).toNat)
  case atStart => exact ⟨0, Nat.zero_le _, rfl, fun c hc => by simp at hc⟩
  case round =>
    obtain ⟨k, hk, rfl, hno⟩ := hrel
    by_cases hlt : k < s.size
    · have hcall := odd_c s[k] w
      cases hq : isDig s[k] with
      | false =>
        rw [hq] at hcall
        have F : Hid (allDig s.data.toList = false) := allDig_no (mem_at s k hlt) hq
        go_wp2_with (go_at_fn 17; refine hcall.mono ?_; rintro e w' ⟨rfl, rfl⟩)
        go_ret
        exact ⟨by rw [F.out]; rfl, rfl⟩
      | true =>
        rw [hq] at hcall
        have F : Hid (∀ c ∈ s.data.toList.take (k + 1), isDig c = true) := by
          intro c hc
          rw [take_at s k hlt] at hc
          rcases List.mem_append.1 hc with hc | hc
          · exact hno.out c hc
          · rw [List.mem_singleton.1 hc]; exact hq
        clear hq
        go_wp2_with (go_at_fn 17; refine hcall.mono ?_; rintro e w' ⟨rfl, rfl⟩)
        go_round
        case rel => exact ⟨k + 1, by omega, by go_num, F⟩
        case measure => simp [intOf]; omega
    · have hke : s.data.toList.take k = s.data.toList := List.take_of_length_le (by rw [size_list]; omega)
      have F : Hid (allDig s.data.toList = true) := allDig_of (by rw [← hke]; exact hno.out)
      clear hke
      go_wp2
      go_ret
      exact ⟨by rw [F.out]; rfl, rfl⟩

theorem hasMinus (l : List UInt8) : Lib.hasPrefix l [45] = decide (l.head? = some 45) := by
  cases l with
  | nil => rfl
  | cons a l => rw [Bool.eq_iff_iff]; simp [Lib.hasPrefix]; try exact eq_comm
theorem cutMinus (l : List UInt8) : Lib.trimPrefix l [45] = if l.head? = some 45 then l.tail else l := by
  unfold Lib.trimPrefix
  rw [hasMinus]
  by_cases h : l.head? = some 45
  · simp [h]
  · simp [h]

/-- What comes of a text whose sign is cut off. -/
theorem parseL_eq (l : List UInt8) : parseL l = parseT (Lib.hasPrefix l [45]) (Lib.trimPrefix l [45]) := by
  unfold parseL
  rw [hasMinus, cutMinus]
  by_cases h : l.head? = some 45
  · rw [if_pos h, if_pos h, decide_eq_true h]
  · rw [if_neg h, if_neg h, decide_eq_false h]

/-- The one text of 0. -/
theorem zero_text (l : List UInt8) (h : (Lib.trimPrefix l [45]).head? = some 48) : (l = [48]) ↔ ¬ (Lib.hasPrefix l [45] = true ∨ 1 < (Lib.trimPrefix l [45]).length) := by
  rw [hasMinus, cutMinus] at *
  by_cases c : l.head? = some 45
  · rw [if_pos c] at h ⊢
    rw [decide_eq_true c]
    refine ⟨fun e => ?_, fun e => absurd (.inl rfl) e⟩
    rw [e] at c; exact absurd c (by decide)
  · rw [if_neg c] at h ⊢
    rw [decide_eq_false c]
    cases l with
    | nil => cases h
    | cons a l =>
      rw [Option.some.inj h]
      cases l with
      | nil => simp
      | cons b l => simp

set_option maxHeartbeats 1000000 in
theorem parse_core (s T : ByteArray) (B : Bool) (w : World) (hT : T.size ≤ 9223372036854775807)
    (hcut : Calls Try.prog 15 #[.string s, .string ⟨#[45]⟩] w fun e w' => e = .returned (.tuple #[.string T, .bool B]) ∧ w' = w)
    (hz : T.data.toList.head? = some 48 → ((s.toList = [48]) ↔ ¬ (B = true ∨ 1 < T.data.toList.length))) :
    Calls Try.prog 6 #[.string s] w fun e w' => e = .returned (.tuple #[.int .i64 (parseT B T.data.toList).1, .int .i64 ((parseT B T.data.toList).2 : Int)]) ∧ w = w' := by
  by_cases h0 : T.size = 0
  · have hs : T = ⟨#[]⟩ := by
      apply ByteArray.ext
      exact Array.eq_empty_of_size_eq_zero h0
    subst hs
    clear hz h0
    go_enter Try.func6, Try.ntmps6
    go_wp2_with (go_at_call 15; refine hcut.mono ?_; rintro e w' ⟨rfl, rfl⟩)
    go_ret2
    exact ⟨rfl, rfl⟩
  · have hne : T.data.toList ≠ [] := by intro h; apply h0; rw [← size_list, h]; rfl
    have he : T.data.toList.isEmpty = false := by rw [List.isEmpty_eq_false_iff]; exact hne
    have he' : T.toList.isEmpty = false := by rw [ByteArray.toList_eq]; exact he
    have hpos : 0 < T.size := by omega
    have hany := fun w => anyOctet_c T w hT
    by_cases hd : allDig T.data.toList = false
    · have F : Hid (parseT B T.data.toList = (0, 33)) := by
        show _ = _
        unfold parseT
        rw [if_neg hne, if_pos hd]
      rw [hd] at hany
      clear hne h0 hz hd
      go_enter Try.func6, Try.ntmps6
      go_wp2_with fail
      refine hcut.mono ?_
      rintro e w' ⟨rfl, rfl⟩
      go_wp2_with fail
      refine (hany _).mono ?_
      rintro e w' ⟨rfl, rfl⟩
      go_wp2_with fail
      go_ret2
      exact ⟨by rw [F.out]; rfl, rfl⟩
    · have hd' : allDig T.data.toList = true := by simpa using hd
      rw [hd'] at hany
      have hmem := allDig_mem hd'
      have hhead : T.data.toList.head? = some T[0] := by
        rw [List.head?_eq_getElem?, List.getElem?_eq_getElem (by rw [size_list]; exact hpos)]; rfl
      have hsz : T.data.toList.length = T.size := size_list T
      by_cases hbad : T.data.toList.head? = some 48 ∧ (B = true ∨ 1 < T.data.toList.length)
      · have F : Hid (parseT B T.data.toList = (0, 33)) := by
          show _ = _
          unfold parseT
          rw [if_neg hne, if_neg hd, if_pos hbad]
        have hzz : (s.toList == [48]) = false := by
          rw [beq_eq_false_iff_ne]
          exact fun e => (hz hbad.1).1 e hbad.2
        have h48 : T[0] = 48 := Option.some.inj (hhead.symm.trans hbad.1)
        have h48' : ((T[0].toNat : Int) == 48) = true := by rw [h48]; rfl
        clear hne h0 hz hd hd' hmem hhead hsz hbad h48
        go_enter Try.func6, Try.ntmps6
        go_wp2_with fail
        refine hcut.mono ?_
        rintro e w' ⟨rfl, rfl⟩
        go_wp2_with fail
        refine (hany _).mono ?_
        rintro e w' ⟨rfl, rfl⟩
        go_wp2_with fail
        go_ret2
        exact ⟨by rw [F.out]; rfl, rfl⟩
      · have hq : ((s.toList == [48]) = true ∧ ((T[0].toNat : Int) == 48) = true) ∨ ((T[0].toNat : Int) == 48) = false := by
          by_cases h48 : T[0] = 48
          · refine .inl ⟨?_, by rw [h48]; rfl⟩
            rw [beq_iff_eq]
            exact (hz (by rw [hhead, h48])).2 (fun h => hbad ⟨by rw [hhead, h48], h⟩)
          · refine .inr ?_
            rw [beq_eq_false_iff_ne]
            intro e
            apply h48
            apply UInt8.toNat_inj.1
            have : (48 : UInt8).toNat = 48 := rfl
            omega
        by_cases h19 : 19 < T.size
        · have F : Hid (parseT B T.data.toList = (0, 4)) := by
            show _ = _
            unfold parseT
            rw [if_neg hne, if_neg hd, if_neg hbad, if_pos (by rw [hsz]; exact h19)]
          clear hne h0 hz hd hd' hmem hhead hsz hbad
          rcases hq with ⟨hzz, h48'⟩ | h48'
          all_goals
            go_enter Try.func6, Try.ntmps6
            go_wp2_with fail
            refine hcut.mono ?_
            rintro e w' ⟨rfl, rfl⟩
            go_wp2_with fail
            refine (hany _).mono ?_
            rintro e w' ⟨rfl, rfl⟩
            go_wp2_with fail
            go_ret2
            exact ⟨by rw [F.out]; rfl, rfl⟩
        · have F : Hid (parseT B T.data.toList = signedL (valD T.data.toList) B) := by
            show _ = _
            unfold parseT
            rw [if_neg hne, if_neg hd, if_neg hbad, if_neg (by rw [hsz]; exact h19)]
          have hrd := fun w => read_c T w hmem (by omega)
          have hv := valD_all hmem (by omega)
          have hsg := fun w => signed_c (valD T.data.toList) B w (by omega)
          generalize valD T.data.toList = v at F hrd hsg
          clear hne h0 hz hd hd' hmem hhead hsz hbad hv
          rcases hq with ⟨hzz, h48'⟩ | h48'
          all_goals
            go_enter Try.func6, Try.ntmps6
            go_wp2_with fail
            refine hcut.mono ?_
            rintro e w' ⟨rfl, rfl⟩
            go_wp2_with fail
            refine (hany _).mono ?_
            rintro e w' ⟨rfl, rfl⟩
            go_wp2_with fail
            refine (hrd _).mono ?_
            rintro e w' ⟨rfl, rfl⟩
            go_wp2_with fail
            refine (hsg _).mono ?_
            rintro e w' ⟨rfl, rfl⟩
            go_wp2_with fail
            go_ret2
            exact ⟨by rw [F.out]; rfl, rfl⟩

theorem parse_c (s : ByteArray) (w : World) (hs : s.size ≤ 9223372036854775807) :
    Calls Try.prog 6 #[.string s] w fun e w' => e = .returned (.tuple #[.int .i64 (parseL s.data.toList).1, .int .i64 ((parseL s.data.toList).2 : Int)]) ∧ w = w' := by
  have h := parse_core s (S (Lib.trimPrefix s.data.toList [45])) (Lib.hasPrefix s.data.toList [45]) w
    (by
      rw [size_S, cutMinus]
      have := size_list s
      split
      · rw [List.length_tail]; omega
      · omega)
    (Try.strings_CutPrefix s ⟨#[45]⟩ w)
    (by rw [ByteArray.toList_eq]; exact zero_text s.data.toList)
  rw [parseL_eq]
  exact h

end Go.Proofs.Ytggbacekmpamjaa.Num
