/-
  Contracts of the page's answers on numbers: a number's digits, a text as a number; they change nothing.
-/
import Derived.Test.YtggbacekmpamjaaNumParse
namespace Go.Proofs.Ytggbacekmpamjaa.Num
open Go.RowKit Go.Proofs.Ytggbacekmpamjaa.Oct

theorem rdigit_c (c : UInt8) (w : World) :
    Calls Try.prog 20 #[.int .u8 (c.toNat : Int)] w fun e w' => e = .returned (.bool (isDig c)) ∧ w = w' := by
  have h := c.toNat_lt
  go_enter Try.func20, Try.ntmps20
  go_wp2
  all_goals go_ret
  all_goals (refine ⟨ret_bool ?_, rfl⟩; unfold isDig; rw [Bool.eq_iff_iff]; simp; try omega)

theorem digit_cut (d : Nat) (h : d < 10) : (⟨#[48, 49, 50, 51, 52, 53, 54, 55, 56, 57]⟩ : ByteArray).extract d (d + 1) = S [dig d] := by
  have : ∀ d : Fin 10, (⟨#[48, 49, 50, 51, 52, 53, 54, 55, 56, 57]⟩ : ByteArray).extract d.val (d.val + 1) = S [dig d.val] := by decide +kernel
  exact this ⟨d, h⟩

theorem digit_slice (d : Nat) (h : d < 10) (w : World) :
    (Instr.slice 9 (.string ⟨#[48, 49, 50, 51, 52, 53, 54, 55, 56, 57]⟩) (some (.int .i64 (d : Int))) (some (.int .i64 ((d : Int) + 1))) none).run Try.prog w = .ok (.string (S [dig d])) w := by
  have h16 : (⟨#[48, 49, 50, 51, 52, 53, 54, 55, 56, 57]⟩ : ByteArray).size = 10 := rfl
  rw [← digit_cut d h]
  generalize (⟨#[48, 49, 50, 51, 52, 53, 54, 55, 56, 57]⟩ : ByteArray) = s at h16
  have e1 : ((d : Int) + 1).toNat = d + 1 := by omega
  rw [run_slice_string w _ s .i64 .i64 (d : Int) ((d : Int) + 1) Try.underlying9 (by omega) (by omega) (by omega), e1, Int.toNat_natCast]

theorem ret_str {a b : ByteArray} (h : a = b) : Ending.returned (.string a) = .returned (.string b) := by rw [h]
theorem S_append (a b : List UInt8) : S a ++ S b = S (a ++ b) := by simp [S, ByteArray.mk_append_mk]
theorem S_minus (l : List UInt8) : (⟨#[45]⟩ : ByteArray) ++ S l = S (45 :: l) := S_append [45] l

set_option maxHeartbeats 1000000 in
theorem rprint_c (n : Int) (w : World) (h0 : -9223372036854775808 ≤ n) (h1 : n ≤ 9223372036854775807) :
    Calls Try.prog 10 #[.int .i64 n] w fun e w' => e = .returned (.string (S (printL n))) ∧ w = w' := by
  have HL : Hid ((decL n.natAbs).length ≤ 19) := by show _ ≤ _; rw [decL_len]; exact lowL_len (by omega)
  by_cases hn : n < 0
  all_goals
    go_enter Try.func10, Try.ntmps10
    go_wp2
    go_loop [3, 4, 5] (fun u o _ => ∃ (v : Nat) (l : List UInt8), u = .int .u64 (v : Int) ∧ o = .string (S l) ∧ v < 10000000000000000000 ∧ Hid (decL v ++ l = decL n.natAbs)) (fun u _ _ => (intOf u).toNat)
    case atStart =>
      refine ⟨n.natAbs, [], ?_, rfl, by omega, List.append_nil _⟩
      congr 1
      try simp only [IntKind.wrap_u64]
      omega
    case round =>
      obtain ⟨v, l, rfl, rfl, hv, hl⟩ := hrel
      have hll : l.length ≤ 19 := by have := congrArg List.length hl.out; rw [List.length_append] at this; have := HL.out; omega
      have hol : (S l).size ≤ 19 := by rw [size_S]; exact hll
      by_cases hlt : 10 ≤ v
      · have hnext : Hid (S [dig (v % 10)] ++ S l = S (dig (v % 10) :: l)) := S_append _ _
        have hE : Hid (decL (v / 10) ++ (dig (v % 10) :: l) = decL n.natAbs) := by
          show _ = _
          rw [← hl.out, decL_ge hlt, List.append_assoc]
          rfl
        obtain ⟨d, hd⟩ : ∃ d, v % 10 = d := ⟨_, rfl⟩
        have hdI : (v : Int) % 10 = (d : Int) := by omega
        have hd10 : d < 10 := by omega
        rw [hd] at hnext hE
        have hcut := digit_slice d hd10
        have hxl : (S [dig d]).size ≤ 1 := by rw [size_S]; simp
        generalize S [dig d] = x at hnext hcut hxl
        generalize S l = o at hnext hol
        clear hd hl
        go_wp2
        go_round
        case rel => exact ⟨v / 10, dig d :: l, by go_num, by rw [hnext.out], by omega, hE⟩
        case measure => simp [intOf]; omega
      · have hnext : Hid (S [dig v] ++ S l = S (decL n.natAbs)) := by show _ = _; rw [S_append, ← hl.out, decL_lt (by omega)]
        have hcut := digit_slice v (by omega)
        have hxl : (S [dig v]).size ≤ 1 := by rw [size_S]; simp
        have hout : (S (decL n.natAbs)).size ≤ 19 := by rw [size_S]; exact HL.out
        have F : Hid (printL n = if n < 0 then 45 :: decL n.natAbs else decL n.natAbs) := rfl
        generalize S [dig v] = x at hnext hcut hxl
        generalize S l = o at hnext hol
        clear hl
        go_wp2
        go_ret
        exact ⟨ret_str (by rw [hnext.out, F.out]; first | rw [S_minus, if_pos hn] | rw [if_neg (by omega)]), rfl⟩

set_option maxHeartbeats 2000000 in
theorem rparse_minus (s T : ByteArray) (w : World) (hT : T.size ≤ 9223372036854775807) (h0 : 0 < s.size) (h45 : ((s[0].toNat : Int) == 45) = true) (hpos : 0 < T.size)
    (hcut : ∀ w, (Instr.slice 9 (.string s) (some (.int .i64 1)) none none).run Try.prog w = .ok (.string T) w) :
    Calls Try.prog 7 #[.string s] w fun e w' => e = .returned (.tuple #[.int .i64 (parseT true T.data.toList).1, .int .i64 ((parseT true T.data.toList).2 : Int)]) ∧ w = w' := by
  have he : T.data.toList.isEmpty = false := by rw [List.isEmpty_eq_false_iff]; intro h; have := size_list T; rw [h] at this; simp at this; omega
  have hne : T.data.toList ≠ [] := by intro h; rw [h] at he; cases he
  have he' : T.toList.isEmpty = false := by rw [ByteArray.toList_eq]; exact he
  have hsz : T.data.toList.length = T.size := size_list T
  have hhead : T.data.toList.head? = some T[0] := by
    rw [List.head?_eq_getElem?, List.getElem?_eq_getElem (by rw [size_list]; exact hpos)]; rfl
  have HNE := Lib.hid hne
  have HSZ := Lib.hid hsz
  have HH := Lib.hid hhead
  clear hne hsz hhead
  go_enter Try.func7, Try.ntmps7
  go_wp2
  go_loop [6] (fun i => ∃ k : Nat, k ≤ T.size ∧ i = .int .i64 k ∧ Hid (∀ c ∈ T.data.toList.take k, isDig c = true)) (fun i => T.size - (intOf i).toNat)
  case atStart => exact ⟨0, Nat.zero_le _, rfl, fun c hc => by simp at hc⟩
  case round =>
    obtain ⟨k, hk, rfl, hno⟩ := hrel
    by_cases hlt : k < T.size
    · have hcall := rdigit_c T[k] w
      cases hq : isDig T[k] with
      | false =>
        rw [hq] at hcall
        have F : Hid (parseT true T.data.toList = (0, 33)) := by
          show _ = _
          unfold parseT
          rw [if_neg HNE.out, if_pos (allDig_no (mem_at T k hlt) hq)]
        clear hq
        go_wp2_with (go_at_call 20; refine hcall.mono ?_; rintro e w' ⟨rfl, rfl⟩)
        go_ret2
        exact ⟨by rw [F.out]; rfl, rfl⟩
      | true =>
        rw [hq] at hcall
        have F : Hid (∀ c ∈ T.data.toList.take (k + 1), isDig c = true) := by
          intro c hc
          rw [take_at T k hlt] at hc
          rcases List.mem_append.1 hc with hc | hc
          · exact hno.out c hc
          · rw [List.mem_singleton.1 hc]; exact hq
        clear hq
        go_wp2_with (go_at_call 20; refine hcall.mono ?_; rintro e w' ⟨rfl, rfl⟩)
        go_round
        case rel => exact ⟨k + 1, by omega, by go_num, F⟩
        case measure => simp [intOf]; omega
    · have hke : T.data.toList.take k = T.data.toList := List.take_of_length_le (by rw [size_list]; omega)
      have hmem : Hid (∀ c ∈ T.data.toList, isDig c = true) := by
        have := hno.out
        rw [hke] at this
        exact this
      clear hke hno
      have hall : Hid (¬ allDig T.data.toList = false) := by
        show ¬ _
        rw [allDig_of hmem.out]; simp
      by_cases h48 : T[0] = 48
      · have h48' : ((T[0].toNat : Int) == 48) = true := by rw [h48]; rfl
        have H48 : Hid (T.data.toList.head? = some 48) := by show _ = _; rw [HH.out, h48]
        clear h48
        have F : Hid (parseT true T.data.toList = (0, 33)) := by
          show _ = _
          unfold parseT
          rw [if_neg HNE.out, if_neg hall.out, if_pos ⟨H48.out, .inl rfl⟩]
        go_wp2
        go_ret2
        exact ⟨by rw [F.out]; rfl, rfl⟩
      · have h48' : ((T[0].toNat : Int) == 48) = false := by
          rw [beq_eq_false_iff_ne]
          intro e
          apply h48
          apply UInt8.toNat_inj.1
          have : (48 : UInt8).toNat = 48 := rfl
          omega
        have H48 : Hid (¬ (T.data.toList.head? = some 48 ∧ (true = true ∨ 1 < T.data.toList.length))) := fun h => h48 (Option.some.inj (HH.out.symm.trans h.1))
        clear h48
        by_cases h19 : 19 < T.size
        · have F : Hid (parseT true T.data.toList = (0, 4)) := by
            show _ = _
            unfold parseT
            rw [if_neg HNE.out, if_neg hall.out, if_neg H48.out, if_pos (by rw [HSZ.out]; exact h19)]
          go_wp2
          go_ret2
          exact ⟨by rw [F.out]; rfl, rfl⟩
        · have F : Hid (parseT true T.data.toList = signedL (valD T.data.toList) true) := by
            show _ = _
            unfold parseT
            rw [if_neg HNE.out, if_neg hall.out, if_neg H48.out, if_neg (by rw [HSZ.out]; exact h19)]
          have HV : Hid (valD T.data.toList < 10000000000000000000) := valD_all hmem.out (by rw [HSZ.out]; omega)
          go_wp2
          go_loop [7, 8] (fun n i => ∃ k : Nat, k ≤ T.size ∧ i = .int .i64 k ∧ n = .int .u64 (valD (T.data.toList.take k) : Nat)) (fun _ i => T.size - (intOf i).toNat)
          case atStart => exact ⟨0, Nat.zero_le _, rfl, rfl⟩
          case round =>
            obtain ⟨k, hk, rfl, rfl⟩ := hrel
            by_cases hlt : k < T.size
            · have hv := valD_take k hmem.out (show k ≤ 18 by omega)
              have hdk := of_decide_eq_true (hmem.out _ (mem_at T k hlt))
              have HV : Hid (valD (T.data.toList.take (k + 1)) = valD (T.data.toList.take k) * 10 + cnt T[k]) := by show _ = _; rw [take_at T k hlt, valD_snoc]
              obtain ⟨hc0, hc1⟩ := hdk
              generalize valD (T.data.toList.take k) = v at hv HV
              go_wp2
              go_round
              case rel =>
                refine ⟨k + 1, by omega, by go_num, ?_⟩
                rw [HV.out]
                congr 1
                unfold cnt
                omega
              case measure => simp [intOf]; omega
            · have hke : T.data.toList.take k = T.data.toList := List.take_of_length_le (by rw [size_list]; omega)
              rw [hke]
              clear hke
              have hv := HV.out
              generalize valD T.data.toList = v at F hv
              clear HV
              have HR := Lib.hid F.out
              clear F
              by_cases hb : v ≤ 9223372036854775808
              · have G : Hid (signedL v true = (-(v : Int), 0)) := by show _ = _; unfold signedL; rw [if_pos rfl, if_pos hb]
                go_wp2
                go_ret2
                refine ⟨?_, rfl⟩
                rw [HR.out, G.out]
                exact ret2 (by unfold wrap64; rw [IntKind.wrap_u64]; show _ = -(v : Int); omega) rfl
              · have G : Hid (signedL v true = (0, 4)) := by show _ = _; unfold signedL; rw [if_pos rfl, if_neg hb]
                go_wp2
                go_ret2
                exact ⟨by rw [HR.out, G.out]; rfl, rfl⟩

set_option maxHeartbeats 2000000 in
theorem rparse_plain (T : ByteArray) (w : World) (hT : T.size ≤ 9223372036854775807) (hpos : 0 < T.size) (h45 : ((T[0].toNat : Int) == 45) = false) :
    Calls Try.prog 7 #[.string T] w fun e w' => e = .returned (.tuple #[.int .i64 (parseT false T.data.toList).1, .int .i64 ((parseT false T.data.toList).2 : Int)]) ∧ w = w' := by
  have he : T.data.toList.isEmpty = false := by rw [List.isEmpty_eq_false_iff]; intro h; have := size_list T; rw [h] at this; simp at this; omega
  have hne : T.data.toList ≠ [] := by intro h; rw [h] at he; cases he
  have he' : T.toList.isEmpty = false := by rw [ByteArray.toList_eq]; exact he
  have hsz : T.data.toList.length = T.size := size_list T
  have hhead : T.data.toList.head? = some T[0] := by
    rw [List.head?_eq_getElem?, List.getElem?_eq_getElem (by rw [size_list]; exact hpos)]; rfl
  have HNE := Lib.hid hne
  have HSZ := Lib.hid hsz
  have HH := Lib.hid hhead
  clear hne hsz hhead
  go_enter Try.func7, Try.ntmps7
  go_wp2
  go_loop [6] (fun i => ∃ k : Nat, k ≤ T.size ∧ i = .int .i64 k ∧ Hid (∀ c ∈ T.data.toList.take k, isDig c = true)) (fun i => T.size - (intOf i).toNat)
  case atStart => exact ⟨0, Nat.zero_le _, rfl, fun c hc => by simp at hc⟩
  case round =>
    obtain ⟨k, hk, rfl, hno⟩ := hrel
    by_cases hlt : k < T.size
    · have hcall := rdigit_c T[k] w
      cases hq : isDig T[k] with
      | false =>
        rw [hq] at hcall
        have F : Hid (parseT false T.data.toList = (0, 33)) := by
          show _ = _
          unfold parseT
          rw [if_neg HNE.out, if_pos (allDig_no (mem_at T k hlt) hq)]
        clear hq
        go_wp2_with (go_at_call 20; refine hcall.mono ?_; rintro e w' ⟨rfl, rfl⟩)
        go_ret2
        exact ⟨by rw [F.out]; rfl, rfl⟩
      | true =>
        rw [hq] at hcall
        have F : Hid (∀ c ∈ T.data.toList.take (k + 1), isDig c = true) := by
          intro c hc
          rw [take_at T k hlt] at hc
          rcases List.mem_append.1 hc with hc | hc
          · exact hno.out c hc
          · rw [List.mem_singleton.1 hc]; exact hq
        clear hq
        go_wp2_with (go_at_call 20; refine hcall.mono ?_; rintro e w' ⟨rfl, rfl⟩)
        go_round
        case rel => exact ⟨k + 1, by omega, by go_num, F⟩
        case measure => simp [intOf]; omega
    · have hke : T.data.toList.take k = T.data.toList := List.take_of_length_le (by rw [size_list]; omega)
      have hmem : Hid (∀ c ∈ T.data.toList, isDig c = true) := by
        have := hno.out
        rw [hke] at this
        exact this
      clear hke hno
      have hall : Hid (¬ allDig T.data.toList = false) := by
        show ¬ _
        rw [allDig_of hmem.out]; simp
      by_cases h48 : T[0] = 48
      · have h48' : ((T[0].toNat : Int) == 48) = true := by rw [h48]; rfl
        have H48 : Hid (T.data.toList.head? = some 48) := by show _ = _; rw [HH.out, h48]
        clear h48
        by_cases hone : 1 < T.size
        · have F : Hid (parseT false T.data.toList = (0, 33)) := by
            show _ = _
            unfold parseT
            rw [if_neg HNE.out, if_neg hall.out, if_pos ⟨H48.out, .inr (by rw [HSZ.out]; exact hone)⟩]
          go_wp2
          go_ret2
          exact ⟨by rw [F.out]; rfl, rfl⟩
        · have H49 : Hid (¬ (T.data.toList.head? = some 48 ∧ (false = true ∨ 1 < T.data.toList.length))) := by
            rintro ⟨_, h | h⟩
            · cases h
            · exact hone (by rw [← HSZ.out]; exact h)
          clear H48
          have H48 := H49
          clear H49
          by_cases h19 : 19 < T.size
          · exact absurd h19 (by omega)
          · have F : Hid (parseT false T.data.toList = signedL (valD T.data.toList) false) := by
              show _ = _
              unfold parseT
              rw [if_neg HNE.out, if_neg hall.out, if_neg H48.out, if_neg (by rw [HSZ.out]; exact h19)]
            have HV : Hid (valD T.data.toList < 10000000000000000000) := valD_all hmem.out (by rw [HSZ.out]; omega)
            go_wp2
            go_loop [7, 8] (fun n i => ∃ k : Nat, k ≤ T.size ∧ i = .int .i64 k ∧ n = .int .u64 (valD (T.data.toList.take k) : Nat)) (fun _ i => T.size - (intOf i).toNat)
            case atStart => exact ⟨0, Nat.zero_le _, rfl, rfl⟩
            case round =>
              obtain ⟨k, hk, rfl, rfl⟩ := hrel
              by_cases hlt : k < T.size
              · have hv := valD_take k hmem.out (show k ≤ 18 by omega)
                have hdk := of_decide_eq_true (hmem.out _ (mem_at T k hlt))
                have HV : Hid (valD (T.data.toList.take (k + 1)) = valD (T.data.toList.take k) * 10 + cnt T[k]) := by show _ = _; rw [take_at T k hlt, valD_snoc]
                obtain ⟨hc0, hc1⟩ := hdk
                generalize valD (T.data.toList.take k) = v at hv HV
                go_wp2
                go_round
                case rel =>
                  refine ⟨k + 1, by omega, by go_num, ?_⟩
                  rw [HV.out]
                  congr 1
                  unfold cnt
                  omega
                case measure => simp [intOf]; omega
              · have hke : T.data.toList.take k = T.data.toList := List.take_of_length_le (by rw [size_list]; omega)
                rw [hke]
                clear hke
                have hv := HV.out
                generalize valD T.data.toList = v at F hv
                clear HV
                have HR := Lib.hid F.out
                clear F
                by_cases hb : v ≤ 9223372036854775807
                · have G : Hid (signedL v false = ((v : Int), 0)) := by show _ = _; unfold signedL; rw [if_neg (by simp), if_pos hb]
                  have hb' : decide ((9223372036854775808 : Int) ≤ (v : Int)) = false := decide_eq_false (by omega)
                  have HB := Lib.hid hb
                  clear hb
                  go_wp2
                  go_ret2
                  refine ⟨?_, rfl⟩
                  rw [HR.out, G.out]
                  exact ret2 (by have := HB.out; unfold wrap64; show _ = (v : Int); omega) rfl
                · have G : Hid (signedL v false = (0, 4)) := by show _ = _; unfold signedL; rw [if_neg (by simp), if_neg hb]
                  have hb' : decide ((9223372036854775808 : Int) ≤ (v : Int)) = true := decide_eq_true (by omega)
                  clear hb
                  go_wp2
                  go_ret2
                  exact ⟨by rw [HR.out, G.out]; rfl, rfl⟩
      · have h48' : ((T[0].toNat : Int) == 48) = false := by
          rw [beq_eq_false_iff_ne]
          intro e
          apply h48
          apply UInt8.toNat_inj.1
          have : (48 : UInt8).toNat = 48 := rfl
          omega
        have H48 : Hid (¬ (T.data.toList.head? = some 48 ∧ (false = true ∨ 1 < T.data.toList.length))) := fun h => h48 (Option.some.inj (HH.out.symm.trans h.1))
        clear h48
        by_cases h19 : 19 < T.size
        · have F : Hid (parseT false T.data.toList = (0, 4)) := by
            show _ = _
            unfold parseT
            rw [if_neg HNE.out, if_neg hall.out, if_neg H48.out, if_pos (by rw [HSZ.out]; exact h19)]
          go_wp2
          go_ret2
          exact ⟨by rw [F.out]; rfl, rfl⟩
        · have F : Hid (parseT false T.data.toList = signedL (valD T.data.toList) false) := by
            show _ = _
            unfold parseT
            rw [if_neg HNE.out, if_neg hall.out, if_neg H48.out, if_neg (by rw [HSZ.out]; exact h19)]
          have HV : Hid (valD T.data.toList < 10000000000000000000) := valD_all hmem.out (by rw [HSZ.out]; omega)
          go_wp2
          go_loop [7, 8] (fun n i => ∃ k : Nat, k ≤ T.size ∧ i = .int .i64 k ∧ n = .int .u64 (valD (T.data.toList.take k) : Nat)) (fun _ i => T.size - (intOf i).toNat)
          case atStart => exact ⟨0, Nat.zero_le _, rfl, rfl⟩
          case round =>
            obtain ⟨k, hk, rfl, rfl⟩ := hrel
            by_cases hlt : k < T.size
            · have hv := valD_take k hmem.out (show k ≤ 18 by omega)
              have hdk := of_decide_eq_true (hmem.out _ (mem_at T k hlt))
              have HV : Hid (valD (T.data.toList.take (k + 1)) = valD (T.data.toList.take k) * 10 + cnt T[k]) := by show _ = _; rw [take_at T k hlt, valD_snoc]
              obtain ⟨hc0, hc1⟩ := hdk
              generalize valD (T.data.toList.take k) = v at hv HV
              go_wp2
              go_round
              case rel =>
                refine ⟨k + 1, by omega, by go_num, ?_⟩
                rw [HV.out]
                congr 1
                unfold cnt
                omega
              case measure => simp [intOf]; omega
            · have hke : T.data.toList.take k = T.data.toList := List.take_of_length_le (by rw [size_list]; omega)
              rw [hke]
              clear hke
              have hv := HV.out
              generalize valD T.data.toList = v at F hv
              clear HV
              have HR := Lib.hid F.out
              clear F
              by_cases hb : v ≤ 9223372036854775807
              · have G : Hid (signedL v false = ((v : Int), 0)) := by show _ = _; unfold signedL; rw [if_neg (by simp), if_pos hb]
                have hb' : decide ((9223372036854775808 : Int) ≤ (v : Int)) = false := decide_eq_false (by omega)
                have HB := Lib.hid hb
                clear hb
                go_wp2
                go_ret2
                refine ⟨?_, rfl⟩
                rw [HR.out, G.out]
                exact ret2 (by have := HB.out; unfold wrap64; show _ = (v : Int); omega) rfl
              · have G : Hid (signedL v false = (0, 4)) := by show _ = _; unfold signedL; rw [if_neg (by simp), if_neg hb]
                have hb' : decide ((9223372036854775808 : Int) ≤ (v : Int)) = true := decide_eq_true (by omega)
                clear hb
                go_wp2
                go_ret2
                exact ⟨by rw [HR.out, G.out]; rfl, rfl⟩


theorem tail_list (s : ByteArray) : (s.extract 1 s.size).data.toList = s.data.toList.tail := by
  rw [ByteArray.data_extract, Array.toList_extract]
  have := size_list s
  simp only [List.extract_eq_take_drop]
  rw [List.drop_one, List.take_of_length_le (by rw [List.length_tail]; omega)]
theorem tail_text (s : ByteArray) : s.extract 1 s.size = S s.data.toList.tail := by
  rw [← tail_list, S_list]

theorem rparse_c (s : ByteArray) (w : World) (hs : s.size ≤ 9223372036854775807) :
    Calls Try.prog 7 #[.string s] w fun e w' => e = .returned (.tuple #[.int .i64 (parseL s.data.toList).1, .int .i64 ((parseL s.data.toList).2 : Int)]) ∧ w = w' := by
  by_cases h0 : s.size = 0
  · have hs : s = ⟨#[]⟩ := by
      apply ByteArray.ext
      exact Array.eq_empty_of_size_eq_zero h0
    subst hs
    go_enter Try.func7, Try.ntmps7
    go_wp2
    go_ret2
    exact ⟨rfl, rfl⟩
  · have hpos : 0 < s.size := by omega
    have hhead : s.data.toList.head? = some s[0] := by
      rw [List.head?_eq_getElem?, List.getElem?_eq_getElem (by rw [size_list]; exact hpos)]; rfl
    by_cases h45 : s[0] = 45
    · have h45' : ((s[0].toNat : Int) == 45) = true := by rw [h45]; rfl
      have E : parseL s.data.toList = parseT true s.data.toList.tail := by unfold parseL; rw [if_pos (by rw [hhead, h45])]
      rw [E]
      have hcut : ∀ w, (Instr.slice 9 (.string s) (some (.int .i64 1)) none none).run Try.prog w = .ok (.string (S s.data.toList.tail)) w := by
        intro w
        rw [← tail_text s, run_slice_string_from_if w 9 s .i64 1 Try.underlying9, if_pos (by omega)]
        rfl
      by_cases h1 : s.data.toList.tail = []
      · rw [h1] at hcut ⊢
        clear E hhead h45 h1 h0
        go_enter Try.func7, Try.ntmps7
        go_wp2
        go_ret2
        exact ⟨rfl, rfl⟩
      · have hl : s.data.toList.tail.length ≤ 9223372036854775807 := by rw [List.length_tail, size_list]; omega
        have := rparse_minus s (S s.data.toList.tail) w (by rw [size_S]; exact hl) hpos h45' (by rw [size_S]; exact List.length_pos_iff.2 h1) hcut
        exact this
    · have h45' : ((s[0].toNat : Int) == 45) = false := by
        rw [beq_eq_false_iff_ne]
        intro e
        apply h45
        apply UInt8.toNat_inj.1
        have : (45 : UInt8).toNat = 45 := rfl
        omega
      have E : parseL s.data.toList = parseT false s.data.toList := by unfold parseL; rw [if_neg (by rw [hhead]; intro e; exact h45 (Option.some.inj e))]
      rw [E]
      exact rparse_plain s w hs hpos h45'
end Go.Proofs.Ytggbacekmpamjaa.Num
