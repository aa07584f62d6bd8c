/-
  Contracts of the page's answers on digits of base 16.
-/
import Derived.Test.YtnfpgfpendflnaaRefNames
import Derived.Test.YtnfpgfpendflnaaOctBack
namespace Go.Proofs.Ytnfpgfpendflnaa.Oct
open Go.RowKit

theorem hexL_cons (u k : Nat) : hexL u (k + 1) = hexDig (u / 16 ^ k % 16) :: hexL u k := by
  unfold hexL
  rw [List.range_succ_eq_map, List.map_cons, List.map_map]
  congr 1
  · have e : 2 ^ (4 * (k + 1 - 1 - 0)) = 16 ^ k := by
      rw [show k + 1 - 1 - 0 = k by omega, Nat.pow_mul]
    rw [e]
  · apply List.map_congr_left
    intro j hj
    simp only [Function.comp]
    rw [show k + 1 - 1 - (j + 1) = k - 1 - j by omega]

theorem digit_cut (d : Nat) (h : d < 16) : (⟨#[48, 49, 50, 51, 52, 53, 54, 55, 56, 57, 97, 98, 99, 100, 101, 102]⟩ : ByteArray).extract d (d + 1) = S [hexDig d] := by
  have : ∀ d : Fin 16, (⟨#[48, 49, 50, 51, 52, 53, 54, 55, 56, 57, 97, 98, 99, 100, 101, 102]⟩ : ByteArray).extract d.val (d.val + 1) = S [hexDig d.val] := by decide +kernel
  exact this ⟨d, h⟩

theorem digit_slice (d : Nat) (h : d < 16) (w : World) :
    (Instr.slice 9 (.string ⟨#[48, 49, 50, 51, 52, 53, 54, 55, 56, 57, 97, 98, 99, 100, 101, 102]⟩) (some (.int .i64 (d : Int))) (some (.int .i64 ((d : Int) + 1))) none).run Try.prog w = .ok (.string (S [hexDig d])) w := by
  have h16 : (⟨#[48, 49, 50, 51, 52, 53, 54, 55, 56, 57, 97, 98, 99, 100, 101, 102]⟩ : ByteArray).size = 16 := rfl
  rw [← digit_cut d h]
  generalize (⟨#[48, 49, 50, 51, 52, 53, 54, 55, 56, 57, 97, 98, 99, 100, 101, 102]⟩ : ByteArray) = s at h16
  have e1 : ((d : Int) + 1).toNat = d + 1 := by omega
  rw [run_slice_string w _ s .i64 .i64 (d : Int) ((d : Int) + 1) Try.underlying9 (by omega) (by omega) (by omega), e1, Int.toNat_natCast]

theorem S_append (a b : List UInt8) : S a ++ S b = S (a ++ b) := by simp [S, ByteArray.mk_append_mk]

set_option maxHeartbeats 1000000 in
theorem rhex_walk (n : Int) (size : Int) (w : World) (c : Nat) (hc : c ≤ 16) (h : (size < 0 ∧ c = 0) ∨ (16 < size ∧ c = 16) ∨ (size = (c : Int))) :
    Calls Try.prog 25 #[.int .i64 n, .int .i64 size] w fun e w' => e = .returned (.string (S (hexL (u64 n) c))) ∧ w = w' := by
  have hu := u64_wrap n
  have hm := u64_lt n
  have HM : Hid (u64 n < 18446744073709551616) := hm
  clear hm
  rcases (show (size < 0 ∧ c ≤ 0) ∨ (16 < size ∧ 16 ≤ c) ∨ size = (c : Int) from by omega) with ⟨h1, hcc⟩ | ⟨h1, hcc⟩ | rfl
  all_goals
    clear h
    go_enter Try.func25, Try.ntmps25
    go_wp2
    go_loop [5, 6, 7, 8] (fun u o i _ => ∃ k : Nat, k ≤ c ∧ u = .int .u64 ((u64 n / 16 ^ k : Nat) : Int) ∧ o = .string (S (hexL (u64 n) k)) ∧ i = .int .i64 k) (fun _ _ i _ => 16 - (intOf i).toNat)
    case atStart => exact ⟨0, Nat.zero_le _, by simp, rfl, rfl⟩
    case round =>
      obtain ⟨k, hk, rfl, rfl, rfl⟩ := hrel
      by_cases hlt : k < c
      · try (exfalso; omega)
        all_goals
          have hnext : Hid (S [hexDig (u64 n / 16 ^ k % 16)] ++ S (hexL (u64 n) k) = S (hexL (u64 n) (k + 1))) := by show _ = _; rw [S_append, hexL_cons]; rfl
          have hdiv : Hid (u64 n / 16 ^ (k + 1) = u64 n / 16 ^ k / 16) := by show _ = _; rw [Nat.pow_succ, Nat.div_div_eq_div_mul]
          have hvl : u64 n / 16 ^ k < 18446744073709551616 := Nat.lt_of_le_of_lt (Nat.div_le_self _ _) HM.out
          have hol : (S (hexL (u64 n) k)).size ≤ 16 := by rw [size_S, hexL_length]; omega
          generalize S (hexL (u64 n) k) = o at hnext hol
          generalize u64 n / 16 ^ k = v at hnext hdiv hvl
          obtain ⟨d, hd⟩ : ∃ d, v % 16 = d := ⟨_, rfl⟩
          have hdI : (v : Int) % 16 = (d : Int) := by omega
          have hd16 : d < 16 := by omega
          rw [hd] at hnext
          have hcut := digit_slice d hd16
          have hxl : (S [hexDig d]).size ≤ 1 := by rw [size_S]; simp
          generalize S [hexDig d] = x at hnext hcut hxl
          clear hd
          go_wp2
          go_round
          case rel => exact ⟨k + 1, by omega, by rw [hdiv.out]; go_num, by rw [hnext.out], by go_num⟩
          case measure => simp [intOf]; omega
      · go_wp2
        go_ret
        obtain rfl : k = c := by omega
        exact ⟨rfl, rfl⟩

theorem rhex_c (n size : Int) (w : World) :
    Calls Try.prog 25 #[.int .i64 n, .int .i64 size] w fun e w' => e = .returned (.string (S (hexL (u64 n) (clamp size)))) ∧ w = w' :=
  rhex_walk n size w (clamp size) (clamp_le size) (by unfold clamp; omega)

theorem unhex_bad (s : ByteArray) (k : Nat) (hk : k < s.size) (h8 : s.size ≤ 8) (h : hexC s[k] < 0) : unhexL s.data.toList = (0, 33) := by
  unfold unhexL
  have hm : s[k] ∈ s.data.toList := List.mem_iff_getElem?.2 ⟨k, get_at s k hk⟩
  rw [if_neg (by intro e; rw [e] at hm; simp at hm), if_neg (by rw [size_list]; omega), if_neg]
  intro H
  have := List.all_eq_true.1 H s[k] hm
  have := of_decide_eq_true this
  omega

theorem unhex_good (s : ByteArray) (h0 : 0 < s.size) (h8 : s.size ≤ 8) (h : ∀ c ∈ s.data.toList, 0 ≤ hexC c) : unhexL s.data.toList = (valL s.data.toList, 0) := by
  unfold unhexL
  rw [if_neg (by intro e; have := size_list s; rw [e] at this; simp at this; omega), if_neg (by rw [size_list]; omega), if_pos]
  exact List.all_eq_true.2 fun c hc => decide_eq_true (h c hc)

set_option maxHeartbeats 1000000 in
theorem runhex_c (s : ByteArray) (w : World) :
    Calls Try.prog 23 #[.string s] w fun e w' => e = .returned (.tuple #[.int .i64 ((unhexL s.data.toList).1 : Int), .int .i64 ((unhexL s.data.toList).2 : Int)]) ∧ w = w' := by
  by_cases h0 : s.size = 0
  · have hs : s = ⟨#[]⟩ := by
      apply ByteArray.ext
      exact Array.eq_empty_of_size_eq_zero h0
    subst hs
    go_enter Try.func23, Try.ntmps23
    go_wp2
    go_ret2
    exact ⟨rfl, rfl⟩
  · have hne : s.data.toList ≠ [] := by intro h; apply h0; rw [← size_list, h]; rfl
    have he : s.data.toList.isEmpty = false := by rw [List.isEmpty_eq_false_iff]; exact hne
    have he' : s.toList.isEmpty = false := by rw [ByteArray.toList_eq]; exact he
    by_cases h8 : 8 < s.size
    · have F : Hid (unhexL s.data.toList = (0, 5)) := by
        show _ = _
        unfold unhexL
        rw [if_neg hne, if_pos (by rw [size_list]; exact h8)]
      clear hne
      go_enter Try.func23, Try.ntmps23
      go_wp2
      go_ret2
      exact ⟨by rw [F.out]; rfl, rfl⟩
    · have hlen : s.size ≤ 8 := by omega
      have hpos : 0 < s.size := by omega
      have h8b : decide ((8 : Int) < (s.size : Int)) = false := by simp; omega
      clear hne h0 h8
      go_enter Try.func23, Try.ntmps23
      go_wp2
      go_loop [4, 5, 6] (fun n i _ => ∃ k : Nat, k ≤ s.size ∧ i = .int .i64 k ∧ n = .int .i64 (valL (s.data.toList.take k) : Nat) ∧ Hid (∀ c ∈ s.data.toList.take k, 0 ≤ hexC c)) (fun _ i _ => s.size - (intOf i).toNat)
      case atStart => exact ⟨0, Nat.zero_le _, rfl, rfl, fun c hc => by simp at hc⟩
      case round =>
        obtain ⟨k, hk, rfl, rfl, hall⟩ := hrel
        by_cases hlt : k < s.size
        · have hv := valL_le s.data.toList k (by omega)
          have hb1 : (s[k].toNat : Int) ≤ 255 := by have := s[k].toNat_lt; omega
          have HT : Hid (s.data.toList.take (k + 1) = s.data.toList.take k ++ [s[k]]) := take_at s k hlt
          have HV : Hid (valL (s.data.toList.take (k + 1)) = valL (s.data.toList.take k) * 16 + (hexC s[k]).toNat) := by show _ = _; rw [take_at s k hlt, valL_snoc]
          have hd := hexI_range (s[k].toNat : Int)
          have hdd := fun w => rhexdigit_c (s[k].toNat : Int) w (by omega) (by omega)
          have HB : Hid (hexI (s[k].toNat : Int) < 0 → unhexL s.data.toList = (0, 33)) := fun h => unhex_bad s k hlt hlen h
          have HC : Hid (hexC s[k] = hexI (s[k].toNat : Int)) := rfl
          generalize hexI (s[k].toNat : Int) = d at hd hdd HB HC
          obtain ⟨hd1, hd2⟩ := hd
          generalize valL (s.data.toList.take k) = v at hv HV
          by_cases hneg : d < 0
          · go_wp2_with (go_at_call 45; refine (hdd _).mono ?_; rintro e w' ⟨rfl, rfl⟩)
            go_ret2
            exact ⟨by rw [HB.out hneg]; rfl, rfl⟩
          · go_wp2_with (go_at_call 45; refine (hdd _).mono ?_; rintro e w' ⟨rfl, rfl⟩)
            go_round
            case rel =>
              refine ⟨k + 1, by omega, by go_num, ?_, ?_⟩
              · rw [HV.out, HC.out]
                congr 1
                omega
              · show ∀ c ∈ s.data.toList.take (k + 1), 0 ≤ hexC c
                rw [HT.out]
                intro c hc
                rcases List.mem_append.1 hc with hc | hc
                · exact hall.out c hc
                · simp at hc; subst hc; rw [HC.out]; omega
            case measure => simp [intOf]; omega
        · have hke : s.data.toList.take k = s.data.toList := List.take_of_length_le (by rw [size_list]; omega)
          have F : Hid (unhexL s.data.toList = (valL (s.data.toList.take k), 0)) := by
            show _ = _
            rw [unhex_good s hpos hlen (fun c hc => hall.out c (by rw [hke]; exact hc)), hke]
          clear hke
          go_wp2
          go_ret2
          exact ⟨by rw [F.out]; rfl, rfl⟩

end Go.Proofs.Ytnfpgfpendflnaa.Oct
