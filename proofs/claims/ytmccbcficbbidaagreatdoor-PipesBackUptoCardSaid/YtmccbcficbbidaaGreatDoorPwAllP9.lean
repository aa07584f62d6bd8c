/-
  Part 9: NumParse, PwLex2, PwLex3.
-/
import Derived.Test.YtmccbcficbbidaaGreatDoorPwAllP8
/-
  Contract of number.Parse: the number that a text prints, or the error's number; it changes nothing.
-/
namespace Go.Proofs.YtmccbcficbbidaaGreatDoor.Num
open Go.RowKit Go.Proofs.YtmccbcficbbidaaGreatDoor.Oct

theorem take_at (s : ByteArray) (k : Nat) (h : k < s.size) : s.data.toList.take (k + 1) = s.data.toList.take k ++ [s[k]] := by
  rw [List.take_succ_eq_append_getElem (by rw [size_list]; exact h)]; rfl
theorem mem_at (s : ByteArray) (k : Nat) (h : k < s.size) : s[k] ∈ s.data.toList := by
  rw [ByteArray.getElem_eq_getElem_data]; simp

set_option maxHeartbeats 1000000 in
theorem read_c (s : ByteArray) (w : World) (hd : ∀ c ∈ s.data.toList, isDig c = true) (hs : s.size ≤ 19) :
    Calls Tryz.prog 125 #[.string s] w fun e w' => e = .returned (.int .u64 (valD s.data.toList : Int)) ∧ w = w' := by
  have HD := Lib.hid hd
  clear hd
  go_enter Tryz.func125, Tryz.ntmps125
  go_wp2
  go_loop [3, 4, 7] (fun n _ i => ∃ k : Nat, k ≤ s.size ∧ i = .int .i64 k ∧ n = .int .u64 (valD (s.data.toList.take k) : Nat)) (fun _ _ i => s.size - (intOf i).toNat)
  case atStart => exact ⟨0, Nat.zero_le _, rfl, rfl⟩
  case round =>
    obtain ⟨k, hk, rfl, rfl⟩ := hrel
    by_cases hlt : k < s.size
    · have hv := valD_take k HD.out (show k ≤ 18 by omega)
      have hdk := of_decide_eq_true (HD.out _ (mem_at s k hlt))
      have HV : Hid (valD (s.data.toList.take (k + 1)) = valD (s.data.toList.take k) * 10 + cnt s[k]) := by show _ = _; rw [take_at s k hlt, valD_snoc]
      obtain ⟨hc0, hc1⟩ := hdk
      generalize valD (s.data.toList.take k) = v at hv HV
      go_wp2
      go_round
      case rel =>
        refine ⟨k + 1, by omega, by go_num, ?_⟩
        rw [HV.out]
        congr 1
        unfold cnt
        omega
      case measure => simp [intOf]; omega
    · go_wp2
      go_ret
      have hke : s.data.toList.take k = s.data.toList := List.take_of_length_le (by rw [size_list]; omega)
      exact ⟨ret_int (by rw [hke]), rfl⟩

theorem enter_odd : ∀ args w, (callFunc 123 args).run Tryz.prog w = .ok (.enter 123 args) w := enters_of Tryz.func123 (by kernel_rfl) rfl

theorem odd_c (c : UInt8) (w : World) :
    Calls Tryz.prog 123 #[.int .u8 (c.toNat : Int)] w fun e w' => e = .returned (.bool (!isDig c)) ∧ w = w' := by
  have h := c.toNat_lt
  go_enter Tryz.func123, Tryz.ntmps123
  go_wp2
  all_goals go_ret
  all_goals (refine ⟨ret_bool ?_, rfl⟩; unfold isDig; rw [Bool.eq_iff_iff]; simp; try omega)

set_option maxHeartbeats 1000000 in
theorem anyOctet_c (s : ByteArray) (w : World) (hs : s.size ≤ 9223372036854775807) :
    Calls Tryz.prog 122 #[.string s, .func (.func 123) #[] #[]] w fun e w' => e = .returned (.bool (!allDig s.data.toList)) ∧ w = w' := by
  have eg := enter_odd
  go_enter Tryz.func122, Tryz.ntmps122
  go_wp2
  go_loop [5, 8] (fun _ i => ∃ k : Nat, k ≤ s.size ∧ i = .int .i64 k ∧ Hid (∀ c ∈ s.data.toList.take k, isDig c = true)) (fun _ i => s.size - (intOf i).toNat)
  case atStart => exact ⟨0, Nat.zero_le _, rfl, fun c hc => by simp at hc⟩
  case round =>
    obtain ⟨k, hk, rfl, hno⟩ := hrel
    by_cases hlt : k < s.size
    · have hcall := odd_c s[k] w
      cases hq : isDig s[k] with
      | false =>
        rw [hq] at hcall
        have F : Hid (allDig s.data.toList = false) := allDig_no (mem_at s k hlt) hq
        go_wp2_with (go_at_fn 123; refine hcall.mono ?_; rintro e w' ⟨rfl, rfl⟩)
        go_ret
        exact ⟨by rw [F.out]; rfl, rfl⟩
      | true =>
        rw [hq] at hcall
        have F : Hid (∀ c ∈ s.data.toList.take (k + 1), isDig c = true) := by
          intro c hc
          rw [take_at s k hlt] at hc
          rcases List.mem_append.1 hc with hc | hc
          · exact hno.out c hc
          · rw [List.mem_singleton.1 hc]; exact hq
        clear hq
        go_wp2_with (go_at_fn 123; refine hcall.mono ?_; rintro e w' ⟨rfl, rfl⟩)
        go_round
        case rel => exact ⟨k + 1, by omega, by go_num, F⟩
        case measure => simp [intOf]; omega
    · have hke : s.data.toList.take k = s.data.toList := List.take_of_length_le (by rw [size_list]; omega)
      have F : Hid (allDig s.data.toList = true) := allDig_of (by rw [← hke]; exact hno.out)
      clear hke
      go_wp2
      go_ret
      exact ⟨by rw [F.out]; rfl, rfl⟩

theorem hasMinus (l : List UInt8) : Lib.hasPrefix l [45] = decide (l.head? = some 45) := by
  cases l with
  | nil => rfl
  | cons a l => rw [Bool.eq_iff_iff]; simp [Lib.hasPrefix]; try exact eq_comm
theorem cutMinus (l : List UInt8) : Lib.trimPrefix l [45] = if l.head? = some 45 then l.tail else l := by
  unfold Lib.trimPrefix
  rw [hasMinus]
  by_cases h : l.head? = some 45
  · simp [h]
  · simp [h]

/-- What comes of a text whose sign is cut off. -/
theorem parseL_eq (l : List UInt8) : parseL l = parseT (Lib.hasPrefix l [45]) (Lib.trimPrefix l [45]) := by
  unfold parseL
  rw [hasMinus, cutMinus]
  by_cases h : l.head? = some 45
  · rw [if_pos h, if_pos h, decide_eq_true h]
  · rw [if_neg h, if_neg h, decide_eq_false h]

/-- The one text of 0. -/
theorem zero_text (l : List UInt8) (h : (Lib.trimPrefix l [45]).head? = some 48) : (l = [48]) ↔ ¬ (Lib.hasPrefix l [45] = true ∨ 1 < (Lib.trimPrefix l [45]).length) := by
  rw [hasMinus, cutMinus] at *
  by_cases c : l.head? = some 45
  · rw [if_pos c] at h ⊢
    rw [decide_eq_true c]
    refine ⟨fun e => ?_, fun e => absurd (.inl rfl) e⟩
    rw [e] at c; exact absurd c (by decide)
  · rw [if_neg c] at h ⊢
    rw [decide_eq_false c]
    cases l with
    | nil => cases h
    | cons a l =>
      rw [Option.some.inj h]
      cases l with
      | nil => simp
      | cons b l => simp

set_option maxHeartbeats 1000000 in
theorem parse_core (s T : ByteArray) (B : Bool) (w : World) (hT : T.size ≤ 9223372036854775807)
    (hcut : Calls Tryz.prog 121 #[.string s, .string ⟨#[45]⟩] w fun e w' => e = .returned (.tuple #[.string T, .bool B]) ∧ w' = w)
    (hz : T.data.toList.head? = some 48 → ((s.toList = [48]) ↔ ¬ (B = true ∨ 1 < T.data.toList.length))) :
    Calls Tryz.prog 109 #[.string s] w fun e w' => e = .returned (.tuple #[.int .i64 (parseT B T.data.toList).1, .int .i64 ((parseT B T.data.toList).2 : Int)]) ∧ w = w' := by
  by_cases h0 : T.size = 0
  · have hs : T = ⟨#[]⟩ := by
      apply ByteArray.ext
      exact Array.eq_empty_of_size_eq_zero h0
    subst hs
    clear hz h0
    go_enter Tryz.func109, Tryz.ntmps109
    go_wp2_with (go_at_call 121; refine hcut.mono ?_; rintro e w' ⟨rfl, rfl⟩)
    go_ret2
    exact ⟨rfl, rfl⟩
  · have hne : T.data.toList ≠ [] := by intro h; apply h0; rw [← size_list, h]; rfl
    have he : T.data.toList.isEmpty = false := by rw [List.isEmpty_eq_false_iff]; exact hne
    have he' : T.toList.isEmpty = false := by rw [ByteArray.toList_eq]; exact he
    have hpos : 0 < T.size := by omega
    have hany := fun w => anyOctet_c T w hT
    by_cases hd : allDig T.data.toList = false
    · have F : Hid (parseT B T.data.toList = (0, 33)) := by
        show _ = _
        unfold parseT
        rw [if_neg hne, if_pos hd]
      rw [hd] at hany
      clear hne h0 hz hd
      go_enter Tryz.func109, Tryz.ntmps109
      go_wp2_with fail
      refine hcut.mono ?_
      rintro e w' ⟨rfl, rfl⟩
      go_wp2_with fail
      refine (hany _).mono ?_
      rintro e w' ⟨rfl, rfl⟩
      go_wp2_with fail
      go_ret2
      exact ⟨by rw [F.out]; rfl, rfl⟩
    · have hd' : allDig T.data.toList = true := by simpa using hd
      rw [hd'] at hany
      have hmem := allDig_mem hd'
      have hhead : T.data.toList.head? = some T[0] := by
        rw [List.head?_eq_getElem?, List.getElem?_eq_getElem (by rw [size_list]; exact hpos)]; rfl
      have hsz : T.data.toList.length = T.size := size_list T
      by_cases hbad : T.data.toList.head? = some 48 ∧ (B = true ∨ 1 < T.data.toList.length)
      · have F : Hid (parseT B T.data.toList = (0, 33)) := by
          show _ = _
          unfold parseT
          rw [if_neg hne, if_neg hd, if_pos hbad]
        have hzz : (s.toList == [48]) = false := by
          rw [beq_eq_false_iff_ne]
          exact fun e => (hz hbad.1).1 e hbad.2
        have h48 : T[0] = 48 := Option.some.inj (hhead.symm.trans hbad.1)
        have h48' : ((T[0].toNat : Int) == 48) = true := by rw [h48]; rfl
        clear hne h0 hz hd hd' hmem hhead hsz hbad h48
        go_enter Tryz.func109, Tryz.ntmps109
        go_wp2_with fail
        refine hcut.mono ?_
        rintro e w' ⟨rfl, rfl⟩
        go_wp2_with fail
        refine (hany _).mono ?_
        rintro e w' ⟨rfl, rfl⟩
        go_wp2_with fail
        go_ret2
        exact ⟨by rw [F.out]; rfl, rfl⟩
      · have hq : ((s.toList == [48]) = true ∧ ((T[0].toNat : Int) == 48) = true) ∨ ((T[0].toNat : Int) == 48) = false := by
          by_cases h48 : T[0] = 48
          · refine .inl ⟨?_, by rw [h48]; rfl⟩
            rw [beq_iff_eq]
            exact (hz (by rw [hhead, h48])).2 (fun h => hbad ⟨by rw [hhead, h48], h⟩)
          · refine .inr ?_
            rw [beq_eq_false_iff_ne]
            intro e
            apply h48
            apply UInt8.toNat_inj.1
            have : (48 : UInt8).toNat = 48 := rfl
            omega
        by_cases h19 : 19 < T.size
        · have F : Hid (parseT B T.data.toList = (0, 4)) := by
            show _ = _
            unfold parseT
            rw [if_neg hne, if_neg hd, if_neg hbad, if_pos (by rw [hsz]; exact h19)]
          clear hne h0 hz hd hd' hmem hhead hsz hbad
          rcases hq with ⟨hzz, h48'⟩ | h48'
          all_goals
            go_enter Tryz.func109, Tryz.ntmps109
            go_wp2_with fail
            refine hcut.mono ?_
            rintro e w' ⟨rfl, rfl⟩
            go_wp2_with fail
            refine (hany _).mono ?_
            rintro e w' ⟨rfl, rfl⟩
            go_wp2_with fail
            go_ret2
            exact ⟨by rw [F.out]; rfl, rfl⟩
        · have F : Hid (parseT B T.data.toList = signedL (valD T.data.toList) B) := by
            show _ = _
            unfold parseT
            rw [if_neg hne, if_neg hd, if_neg hbad, if_neg (by rw [hsz]; exact h19)]
          have hrd := fun w => read_c T w hmem (by omega)
          have hv := valD_all hmem (by omega)
          have hsg := fun w => signed_c (valD T.data.toList) B w (by omega)
          generalize valD T.data.toList = v at F hrd hsg
          clear hne h0 hz hd hd' hmem hhead hsz hbad hv
          rcases hq with ⟨hzz, h48'⟩ | h48'
          all_goals
            go_enter Tryz.func109, Tryz.ntmps109
            go_wp2_with fail
            refine hcut.mono ?_
            rintro e w' ⟨rfl, rfl⟩
            go_wp2_with fail
            refine (hany _).mono ?_
            rintro e w' ⟨rfl, rfl⟩
            go_wp2_with fail
            refine (hrd _).mono ?_
            rintro e w' ⟨rfl, rfl⟩
            go_wp2_with fail
            refine (hsg _).mono ?_
            rintro e w' ⟨rfl, rfl⟩
            go_wp2_with fail
            go_ret2
            exact ⟨by rw [F.out]; rfl, rfl⟩

theorem parse_c (s : ByteArray) (w : World) (hs : s.size ≤ 9223372036854775807) :
    Calls Tryz.prog 109 #[.string s] w fun e w' => e = .returned (.tuple #[.int .i64 (parseL s.data.toList).1, .int .i64 ((parseL s.data.toList).2 : Int)]) ∧ w = w' := by
  have h := parse_core s (S (Lib.trimPrefix s.data.toList [45])) (Lib.hasPrefix s.data.toList [45]) w
    (by
      rw [size_S, cutMinus]
      have := size_list s
      split
      · rw [List.length_tail]; omega
      · omega)
    (Tryz.strings_CutPrefix s ⟨#[45]⟩ w)
    (by rw [ByteArray.toList_eq]; exact zero_text s.data.toList)
  rw [parseL_eq]
  exact h

end Go.Proofs.YtmccbcficbbidaaGreatDoor.Num

/-
  Contracts of package lex's reader: paths, variables, numbers, signs, what has been gone over.
-/
namespace Go.Proofs.YtmccbcficbbidaaGreatDoor.Lxw
open Go.RowKit Go.Proofs.YtmccbcficbbidaaGreatDoor.Oct Go.Proofs.YtmccbcficbbidaaGreatDoor.Lex
open Go.Proofs.YtmccbcficbbidaaGreatDoor.Num (parseL)

theorem next_qo {R : Nat} {l : List UInt8} {b p : Int} {k : Nat} (hk : k ≤ l.length) (hl : l.length ≤ 4194304) (w : World) (h : Rx R l b k p w) (n : Nat) :
    Calls Tryz.prog 75 #[.pointer (some ⟨R, 0, none⟩)] (w.drewN n) fun e w' => e = .returned (.int .u8 ((nextO l k).toNat : Int)) ∧ ∃ q, w' = (w.drewN n).drewN q :=
  next_c hk hl (w.drewN n) h
/-- Where a part of a text ends: at a place, or in a fault. -/
def addE (k : Nat) : Except Nat Nat → Except Nat Nat
  | .ok m => .ok (k + m)
  | .error e => .error e
def PassTo (R : Nat) (l : List UInt8) (b p : Int) (r : Except Nat Nat) (w : World) (e : Ending) (w' : World) : Prop := Kr R w w' ∧ match r with
  | .ok q => e = .returned (.tuple #[]) ∧ Rx R l b (q : Int) p w'
  | .error _ => (∃ n, n ≠ 0 ∧ e = Fault n) ∧ ∃ k' p', Rx R l b k' p' w'
theorem PassTo.good {R : Nat} {l : List UInt8} {b p : Int} {r : Except Nat Nat} {q : Nat} {w w' : World} (hr : r = .ok q) (h : Rx R l b (q : Int) p w') (hk : Kr R w w') : PassTo R l b p r w (.returned (.tuple #[])) w' := by
  subst hr
  exact ⟨hk, rfl, h⟩
theorem PassTo.bad {R : Nat} {l : List UInt8} {b p k' p' n : Int} {r : Except Nat Nat} {x : Nat} {w w' : World} (hr : r = .error x) (h : Rx R l b k' p' w') (hk : Kr R w w') (hn : n ≠ 0 := by decide) : PassTo R l b p r w (Fault n) w' := by
  subst hr
  exact ⟨hk, ⟨n, hn, rfl⟩, k', p', h⟩
theorem PassTo.from {R : Nat} {l : List UInt8} {b p : Int} {r : Except Nat Nat} {w w1 w' : World} {e : Ending} (hk : Kr R w w1) (h : PassTo R l b p r w1 e w') : PassTo R l b p r w e w' := ⟨hk.trans h.1, h.2⟩

/-! ### Points and names -/
theorem dots_not (f : Nat) (l : List UInt8) (h : ∀ c t, l ≠ 46 :: c :: t) : dotsF f l = .ok 0 := by
  unfold dotsF
  split
  · rfl
  · exact absurd rfl (h _ _)
  · rfl
theorem dots_fuel (f : Nat) : ∀ (g : Nat) (l : List UInt8), l.length ≤ f → l.length ≤ g → dotsF f l = dotsF g l := by
  induction f with
  | zero =>
    intro g l h _
    have : l = [] := List.eq_nil_of_length_eq_zero (by omega)
    subst this
    cases g <;> rfl
  | succ f ih =>
    intro g l h hg
    match l, h, hg with
    | [], _, _ => cases g <;> rfl
    | [c], _, hg =>
      cases g with
      | zero => simp at hg
      | succ g => rw [dots_not _ _ (fun _ _ e => by simp at e), dots_not _ _ (fun _ _ e => by simp at e)]
    | d :: c :: t, h, hg =>
      cases g with
      | zero => simp at hg
      | succ g =>
        by_cases hd : d = 46
        · subst hd
          rw [dots_step, dots_step]
          by_cases h0 : nameN (c :: t) = 0
          · rw [if_pos h0, if_pos h0]
          · have e := ih g ((c :: t).drop (nameN (c :: t))) (by rw [List.length_drop]; simp at h ⊢; omega) (by rw [List.length_drop]; simp at hg ⊢; omega)
            rw [e]
        · rw [dots_not _ _ (fun _ _ e => hd (by injection e)), dots_not _ _ (fun _ _ e => hd (by injection e))]
/-- A point and a name, or the end. -/
theorem dots_at (l : List UInt8) (j : Nat) :
    (nextO l j = 46 ∧ j + 1 < l.length ∧ (
      (nameN (l.drop (j + 1)) = 0 ∧ addE j (dotsL (l.drop j)) = .error 33) ∨
      (0 < nameN (l.drop (j + 1)) ∧ 32 < nameN (l.drop (j + 1)) ∧ addE j (dotsL (l.drop j)) = .error 5) ∨
      (0 < nameN (l.drop (j + 1)) ∧ nameN (l.drop (j + 1)) ≤ 32 ∧ addE j (dotsL (l.drop j)) = addE (j + 1 + nameN (l.drop (j + 1))) (dotsL (l.drop (j + 1 + nameN (l.drop (j + 1)))))))) ∨
    (¬ (nextO l j = 46 ∧ j + 1 < l.length) ∧ addE j (dotsL (l.drop j)) = .ok j) := by
  by_cases h : nextO l j = 46 ∧ j + 1 < l.length
  · obtain ⟨h1, h2⟩ := h
    refine .inl ⟨h1, h2, ?_⟩
    have e1 : l[j] = 46 := by
      unfold nextO at h1
      simpa [show j < l.length by omega] using h1
    have e2 : l.drop j = 46 :: l.drop (j + 1) := by rw [List.drop_eq_getElem_cons (by omega), e1]
    obtain ⟨c, t, e3⟩ : ∃ c t, l.drop (j + 1) = c :: t := ⟨_, _, List.drop_eq_getElem_cons h2⟩
    obtain ⟨n, hn⟩ : ∃ n, n = nameN (l.drop (j + 1)) := ⟨_, rfl⟩
    have hlen : (l.drop j).length = (c :: t).length + 1 := by rw [e2, e3]; rfl
    have ed : dotsL (l.drop j) = if n = 0 then .error 33 else if 32 < n then .error 5 else (match dotsF (c :: t).length ((c :: t).drop n) with
        | .error e => .error e
        | .ok k => .ok (n + 1 + k)) := by
      unfold dotsL
      rw [hlen, e2, e3, dots_step, hn, e3]
      rfl
    rw [ed, ← hn]
    by_cases h0 : n = 0
    · exact .inl ⟨h0, by rw [if_pos h0]; rfl⟩
    · by_cases h32 : 32 < n
      · exact .inr (.inl ⟨by omega, h32, by rw [if_neg h0, if_pos h32]; rfl⟩)
      · refine .inr (.inr ⟨by omega, by omega, ?_⟩)
        rw [if_neg h0, if_neg h32]
        have e4 : (c :: t).drop n = l.drop (j + 1 + n) := by rw [← e3, List.drop_drop]
        have e5 : dotsF (c :: t).length ((c :: t).drop n) = dotsL (l.drop (j + 1 + n)) := by
          rw [e4]
          exact dots_fuel _ _ _ (by rw [← e3, List.length_drop, List.length_drop]; omega) (Nat.le_refl _)
        rw [e5]
        cases dotsL (l.drop (j + 1 + n)) with
        | error e => rfl
        | ok m =>
          show Except.ok (j + (n + 1 + m)) = Except.ok (j + 1 + n + m)
          congr 1
          omega
  · refine .inr ⟨h, ?_⟩
    have : dotsL (l.drop j) = .ok 0 := dots_not _ _ fun c t e => h (by
      have hlt : j + 1 < l.length := by
        have := congrArg List.length e
        rw [List.length_drop] at this
        simp at this
        omega
      have : l[j] = 46 := by
        rw [List.drop_eq_getElem_cons (by omega)] at e
        injection e
      exact ⟨by unfold nextO; simp [show j < l.length by omega, this], hlt⟩)
    rw [this]
    rfl

set_option maxHeartbeats 1000000 in
set_option maxRecDepth 100000 in
theorem passFields_c {R : Nat} {l : List UInt8} {b p : Int} {k : Nat} (hk : k ≤ l.length) (hl : l.length ≤ 4194304) (w : World) (h : Rx R l b k p w) :
    Calls Tryz.prog 108 #[.pointer (some ⟨R, 0, none⟩)] w (PassTo R l b p (addE k (dotsL (l.drop k))) w) := by
  have hR := h.lt
  have H0 := Lib.hid h
  have hsz : ((S l).size : Int) = (l.length : Int) := by rw [size_S]
  have HNe := Lib.hid (fun j (hj : j ≤ l.length) W (h : Rx R l b j p W) => next_qo hj hl W h)
  have HPn := Lib.hid (fun (j q : Nat) (hj : j ≤ l.length) (hq : q = j + nameN (l.drop j)) W (h : Rx R l b j p W) => passName_c hj hq hl W h)
  clear h
  go_enter Tryz.func108, Tryz.ntmps108
  go_wp2_with fail
  go_loopw [] (fun wr => ∃ j : Nat, j ≤ l.length ∧ Hid (Rx R l b j p wr) ∧ Hid (addE k (dotsL (l.drop k)) = addE j (dotsL (l.drop j))) ∧ Hid (Kr R w wr)) (fun wr => l.length - rAt R wr)
  case atStart => exact ⟨k, hk, H0.out, rfl, Kr.refl _ _⟩
  case round =>
    clear H0
    obtain ⟨j, hj, hT, hE, hK⟩ := hrel
    have hAt := Lib.hid hT.out.rAt
    have hne := HNe.out j hj wr hT.out
    have j0 : (0 : Int) ≤ (j : Int) := by omega
    have j1 : (j : Int) ≤ 4194304 := by omega
    obtain ⟨m, hm⟩ : ∃ m, m = j + 1 := ⟨_, rfl⟩
    have hmi : (j : Int) + 1 = (m : Int) := by omega
    obtain ⟨c0, c1, c2, c3, z2, z3⟩ := hT.out.cells
    rcases dots_at l j with ⟨g1, g2, g3⟩ | ⟨g1, g2⟩
    · have e1 : ((nextO l j).toNat : Int) = 46 := by rw [g1]; rfl
      rw [e1] at hne
      rw [← hm] at g3 g2
      have hml : m ≤ l.length := by omega
      have hml2 : (m : Int) < (l.length : Int) := by omega
      have hd : decide ((m : Int) < (l.length : Int)) = true := decide_eq_true hml2
      have HM : Hid (m = j + 1) := hm
      obtain ⟨q, hq⟩ : ∃ q, q = m + nameN (l.drop m) := ⟨_, rfl⟩
      have hql : q ≤ l.length := by rw [hq]; exact nameN_le l m hml
      have HP := Lib.hid (fun W h => HPn.out m q hml hq W h)
      have HG := Lib.hid g3
      have HQ := Lib.hid hq
      clear g1 g2 g3 hm e1 hq HNe HPn
      go_wp2_with fail
      go_quiet ((go_at_call 75; exact Calls.quiet_of (hne _)))
      have hbq : Below wr.heap.size wr (wr.drewN nq) := Oct.below_drewN (Below.refl _ wr) nq
      have H2 := Lib.hid (And.intro (hT.out.keep hbq) (hK.out.trans (Kr.of (R := R) hbq)))
      clear c0 c1 c2 c3 z2 z3 hne hbq hT hK
      generalize wr.drewN nq = w2 at H2 ⊢
      obtain ⟨c0, c1, c2, c3, z2, z3⟩ := H2.out.1.cells
      go_wp2_with fail
      have H3 := Lib.hid (And.intro (H2.out.1.at_ (m : Int)) (H2.out.2.trans (Kr.set (R := R) (i := 2) w2 (.int .i64 (m : Int)))))
      have hp := HP.out _ H3.out.1
      clear c0 c1 c2 c3 z2 z3 H2
      refine hp.mono ?_
      clear hp
      rintro e w4 ⟨he, h4, k4⟩
      have H4 := Lib.hid (And.intro h4 (H3.out.2.trans k4))
      clear h4 k4 H3
      rcases HG.out with ⟨n1, n2⟩ | ⟨n0, n1, n2⟩ | ⟨n0, n1, n2⟩
      · have he2 : e = .returned (.bool false) := by rw [he, n1]; rfl
        subst he2
        clear he
        have HX : Hid (addE k (dotsL (l.drop k)) = .error 33) := hE.out.trans n2
        clear n1 n2 HG
        go_wp2_with (go_at_call 57; refine (demand_no _ _).mono ?_; rintro e w5 ⟨rfl, rfl⟩)
        exact ⟨rfl, PassTo.bad HX.out H4.out.1 H4.out.2⟩
      · have he2 : e = Fault 5 := by rw [he, if_neg (by omega)]
        subst he2
        clear he
        have HX : Hid (addE k (dotsL (l.drop k)) = .error 5) := hE.out.trans n2
        clear n0 n1 n2 HG
        exact ⟨rfl, PassTo.bad HX.out H4.out.1 H4.out.2⟩
      · have he2 : e = .returned (.bool true) := by rw [he, if_pos n1, decide_eq_true n0]
        subst he2
        clear he
        have HX : Hid (addE k (dotsL (l.drop k)) = addE q (dotsL (l.drop q))) := by
          have := hE.out.trans n2
          rw [← HQ.out] at this
          exact this
        have HQ2 : Hid (j < q) := by show _ < _; have := HQ.out; have := HM.out; omega
        have HAt2 := Lib.hid (H4.out.1.rAt)
        clear n0 n1 n2 HG
        go_wp2_with (go_at_call 57; refine (demand_yes _ _).mono ?_; rintro e w5 ⟨rfl, rfl⟩)
        go_roundw
        case rel => exact ⟨q, hql, H4.out.1, HX, H4.out.2⟩
        case measure =>
          have e1 := hAt.out
          have e2 := HAt2.out
          have e3 := HQ2.out
          show l.length - rAt R _ < l.length - rAt R _
          rw [e1, e2]
          omega
    · have HX : Hid (addE k (dotsL (l.drop k)) = .ok j) := hE.out.trans g2
      clear g2 hE
      by_cases h46 : nextO l j = 46
      · have hge : ¬ (m : Int) < (l.length : Int) := by
          have : ¬ m < l.length := fun hlt => g1 ⟨h46, by omega⟩
          omega
        have hd : decide ((m : Int) < (l.length : Int)) = false := decide_eq_false hge
        have e1 : ((nextO l j).toNat : Int) = 46 := by rw [h46]; rfl
        rw [e1] at hne
        clear g1 hm e1 h46
        go_wp2_with fail
        go_quiet ((go_at_call 75; exact Calls.quiet_of (hne _)))
        have hbq : Below wr.heap.size wr (wr.drewN nq) := Oct.below_drewN (Below.refl _ wr) nq
        have H2 := Lib.hid (And.intro (hT.out.keep hbq) (hK.out.trans (Kr.of (R := R) hbq)))
        clear c0 c1 c2 c3 z2 z3 hne hbq hT hK
        generalize wr.drewN nq = w2 at H2 ⊢
        go_wp2_with fail
        go_end0
        exact PassTo.good HX.out H2.out.1 H2.out.2
      · have q1 : (((nextO l j).toNat : Int) == 46) = false := oct_ne (n := 46) h46 (by decide)
        have q2 : ¬ ((nextO l j).toNat : Int) = 46 := by rw [beq_eq_false_iff_ne] at q1; exact q1
        clear g1 hm h46
        generalize nextO l j = c at *
        go_wp2_with fail
        go_quiet ((go_at_call 75; exact Calls.quiet_of (hne _)))
        have hbq : Below wr.heap.size wr (wr.drewN nq) := Oct.below_drewN (Below.refl _ wr) nq
        have H2 := Lib.hid (And.intro (hT.out.keep hbq) (hK.out.trans (Kr.of (R := R) hbq)))
        clear c0 c1 c2 c3 z2 z3 hne hbq hT hK
        generalize wr.drewN nq = w2 at H2 ⊢
        go_wp2_with fail
        go_end0
        exact PassTo.good HX.out H2.out.1 H2.out.2
end Go.Proofs.YtmccbcficbbidaaGreatDoor.Lxw

/-
  Contracts of package lex's reader: a path, a variable, a number, a sign, what has been gone over.
-/
namespace Go.Proofs.YtmccbcficbbidaaGreatDoor.Lxw
open Go.RowKit Go.Proofs.YtmccbcficbbidaaGreatDoor.Oct Go.Proofs.YtmccbcficbbidaaGreatDoor.Lex
open Go.Proofs.YtmccbcficbbidaaGreatDoor.Num (parseL)

/-- Where a path ends. -/
def pathE (l : List UInt8) (k : Nat) : Except Nat Nat := if nameN (l.drop (k + 1)) = 0 then .ok (k + 1) else addE k (dotsL (l.drop k))
/-- Where a variable ends. -/
def varE (l : List UInt8) (k : Nat) : Except Nat Nat := if 32 < nameN (l.drop (k + 1)) then .error 5 else addE (k + 1 + nameN (l.drop (k + 1))) (dotsL (l.drop (k + 1 + nameN (l.drop (k + 1)))))

set_option maxHeartbeats 1000000 in
set_option maxRecDepth 100000 in
theorem passPath_c {R : Nat} {l : List UInt8} {b p : Int} {k : Nat} (hk : k < l.length) (h46 : nextO l k = 46) (hl : l.length ≤ 4194304) (w : World) (h : Rx R l b k p w) :
    Calls Tryz.prog 79 #[.pointer (some ⟨R, 0, none⟩)] w (PassTo R l b p (pathE l k) w) := by
  have k0 : (0 : Int) ≤ (k : Int) := by omega
  have k1 : (k : Int) ≤ 4194304 := by omega
  obtain ⟨m, hm⟩ : ∃ m, m = k + 1 := ⟨_, rfl⟩
  have hmi : (k : Int) + 1 = (m : Int) := by omega
  have hml : m ≤ l.length := by omega
  obtain ⟨q, hq⟩ : ∃ q, q = m + nameN (l.drop m) := ⟨_, rfl⟩
  have hql : q ≤ l.length := by rw [hq]; exact nameN_le l m hml
  have HP := Lib.hid (fun W h => passName_c (R := R) (b := b) (p := p) hml hq hl W h)
  have HF := Lib.hid (fun W h => passFields_c (R := R) (b := b) (p := p) hql hl W h)
  have HS := Lib.hid (And.intro (h.at_ (m : Int)) (Kr.set (R := R) (i := 2) w (.int .i64 (m : Int))))
  have HE : Hid ((nameN (l.drop m) = 0 ∧ pathE l k = .ok q) ∨ (32 < nameN (l.drop m) ∧ pathE l k = .error 5) ∨ (0 < nameN (l.drop m) ∧ nameN (l.drop m) ≤ 32 ∧ pathE l k = addE q (dotsL (l.drop q)))) := by
    show _ ∨ _ ∨ _
    unfold pathE
    rw [← hm]
    by_cases h0 : nameN (l.drop m) = 0
    · exact .inl ⟨h0, by rw [if_pos h0]; congr 1; omega⟩
    · rw [if_neg h0]
      rcases dots_at l k with ⟨_, _, g⟩ | ⟨g1, _⟩
      · rw [← hm, ← hq] at g
        rcases g with ⟨g, _⟩ | ⟨_, g1, g2⟩ | ⟨g0, g1, g2⟩
        · exact absurd g h0
        · exact .inr (.inl ⟨g1, g2⟩)
        · exact .inr (.inr ⟨g0, g1, g2⟩)
      · refine absurd ⟨h46, ?_⟩ g1
        have := nameN_le l m hml
        omega
  obtain ⟨c0, c1, c2, c3, z2, z3⟩ := h.cells
  clear h h46 hq hm
  go_enter Tryz.func79, Tryz.ntmps79
  go_wp2_with fail
  have hp := HP.out _ HS.out.1
  clear c0 c1 c2 c3 z2 z3
  refine hp.mono ?_
  clear hp
  rintro e w4 ⟨he, h4, k4⟩
  have H4 := Lib.hid (And.intro h4 (HS.out.2.trans k4))
  clear h4 k4 HS
  rcases HE.out with ⟨n1, n2⟩ | ⟨n1, n2⟩ | ⟨n0, n1, n2⟩
  · have he2 : e = .returned (.bool false) := by rw [he, n1]; rfl
    subst he2
    clear he
    have HX := Lib.hid n2
    clear n1 n2 HE
    go_wp2_with fail
    go_end0
    exact PassTo.good HX.out H4.out.1 H4.out.2
  · have he2 : e = Fault 5 := by rw [he, if_neg (by omega)]
    subst he2
    clear he
    have HX := Lib.hid n2
    clear n1 n2 HE
    exact ⟨rfl, PassTo.bad HX.out H4.out.1 H4.out.2⟩
  · have he2 : e = .returned (.bool true) := by rw [he, if_pos n1, decide_eq_true n0]
    subst he2
    clear he
    have HX := Lib.hid n2
    have hf := HF.out _ H4.out.1
    rw [← n2] at hf
    clear n0 n1 n2 HE
    generalize pathE l k = r at *
    go_wp2_with fail
    refine hf.mono ?_
    clear hf
    rintro e w5 hp5
    have H5 := Lib.hid (PassTo.from H4.out.2 hp5)
    clear H4 HX HF HP
    cases r with
    | ok q2 =>
      obtain ⟨_, rfl, _⟩ := hp5
      go_wp2_with fail
      go_end0
      exact H5.out
    | error x =>
      obtain ⟨_, ⟨n, _, rfl⟩, _⟩ := hp5
      exact ⟨rfl, H5.out⟩
set_option maxHeartbeats 1000000 in
set_option maxRecDepth 100000 in
theorem passVariable_c {R : Nat} {l : List UInt8} {b p : Int} {k : Nat} (hk : k < l.length) (hl : l.length ≤ 4194304) (w : World) (h : Rx R l b k p w) :
    Calls Tryz.prog 80 #[.pointer (some ⟨R, 0, none⟩)] w (PassTo R l b p (varE l k) w) := by
  have k0 : (0 : Int) ≤ (k : Int) := by omega
  have k1 : (k : Int) ≤ 4194304 := by omega
  obtain ⟨m, hm⟩ : ∃ m, m = k + 1 := ⟨_, rfl⟩
  have hmi : (k : Int) + 1 = (m : Int) := by omega
  have hml : m ≤ l.length := by omega
  obtain ⟨q, hq⟩ : ∃ q, q = m + nameN (l.drop m) := ⟨_, rfl⟩
  have hql : q ≤ l.length := by rw [hq]; exact nameN_le l m hml
  have HP := Lib.hid (fun W h => passName_c (R := R) (b := b) (p := p) hml hq hl W h)
  have HF := Lib.hid (fun W h => passFields_c (R := R) (b := b) (p := p) hql hl W h)
  have HS := Lib.hid (And.intro (h.at_ (m : Int)) (Kr.set (R := R) (i := 2) w (.int .i64 (m : Int))))
  have HE : Hid ((32 < nameN (l.drop m) ∧ varE l k = .error 5) ∨ (nameN (l.drop m) ≤ 32 ∧ varE l k = addE q (dotsL (l.drop q)))) := by
    show _ ∨ _
    unfold varE
    rw [← hm, ← hq]
    by_cases h0 : 32 < nameN (l.drop m)
    · exact .inl ⟨h0, by rw [if_pos h0]⟩
    · exact .inr ⟨by omega, by rw [if_neg h0]⟩
  obtain ⟨c0, c1, c2, c3, z2, z3⟩ := h.cells
  clear h hq hm
  go_enter Tryz.func80, Tryz.ntmps80
  go_wp2_with fail
  have hp := HP.out _ HS.out.1
  clear c0 c1 c2 c3 z2 z3
  refine hp.mono ?_
  clear hp
  rintro e w4 ⟨he, h4, k4⟩
  have H4 := Lib.hid (And.intro h4 (HS.out.2.trans k4))
  clear h4 k4 HS
  rcases HE.out with ⟨n1, n2⟩ | ⟨n1, n2⟩
  · have he2 : e = Fault 5 := by rw [he, if_neg (by omega)]
    subst he2
    clear he
    have HX := Lib.hid n2
    clear n1 n2 HE
    exact ⟨rfl, PassTo.bad HX.out H4.out.1 H4.out.2⟩
  · have he2 : ∃ b, e = .returned (.bool b) := ⟨_, by rw [he, if_pos n1]⟩
    obtain ⟨bb, he2⟩ := he2
    subst he2
    clear he
    have hf := HF.out _ H4.out.1
    rw [← n2] at hf
    clear n1 n2 HE
    generalize varE l k = r at *
    go_wp2_with fail
    refine hf.mono ?_
    clear hf
    rintro e w5 hp5
    have H5 := Lib.hid (PassTo.from H4.out.2 hp5)
    clear H4 HF HP
    cases r with
    | ok q2 =>
      obtain ⟨_, rfl, _⟩ := hp5
      go_wp2_with fail
      go_end0
      exact H5.out
    | error x =>
      obtain ⟨_, ⟨n, _, rfl⟩, _⟩ := hp5
      exact ⟨rfl, H5.out⟩

/-! ### What has been gone over -/
set_option maxHeartbeats 1000000 in
set_option maxRecDepth 100000 in
theorem passed_c {R : Nat} {l : List UInt8} {b : Int} {p k : Nat} (hpk : p ≤ k) (hk : k ≤ l.length) (hl : l.length ≤ 4194304) (w : World) (h : Rx R l b k p w) :
    Calls Tryz.prog 78 #[.pointer (some ⟨R, 0, none⟩)] w fun e w' => e = .returned (.string (S ((l.take k).drop p))) ∧ Rx R l b k p w' ∧ Kr R w w' := by
  have hcl := fun W => clone_c ((S l).extract p k) W (by rw [cutMid, size_S, List.length_drop, List.length_take]; omega)
  have HC := Lib.hid (cutMid l p k)
  have hsz : ((S l).size : Int) = (l.length : Int) := by rw [size_S]
  have hsn : (S l).size = l.length := size_S l
  have i0 : (0 : Int) ≤ (p : Int) := by omega
  have i1 : (p : Int) ≤ (k : Int) := by omega
  have i2 : (k : Int) ≤ (l.length : Int) := by omega
  obtain ⟨c0, c1, c2, c3, z2, z3⟩ := h.cells
  have HW := Lib.hid (And.intro h.drew (Kr.refl R w).drew)
  clear h
  go_enter Tryz.func78, Tryz.ntmps78
  go_wp2_with fail
  go_still_tail 13, (by kernel_rfl)
  change wpList _ _ _ _ _ w.drew
  go_wp2_with (go_at_call 107; refine (hcl _).mono ?_; rintro e w2 ⟨rfl, hb2⟩)
  go_ret
  rw [HC.out]
  exact ⟨rfl, HW.out.1.keep hb2, HW.out.2.trans (Kr.of hb2)⟩
end Go.Proofs.YtmccbcficbbidaaGreatDoor.Lxw
