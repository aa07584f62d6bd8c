/-
  Contract of the page's Hex: the lowest digits of base 16, in two's complement; it changes nothing.
-/
import Derived.Test.YtjchebnjbfhooaaDoorHexPure
import Derived.Test.YtjchebnjbfhooaaDoorProg
import Derived.Lib.Hide
namespace Go.Proofs.YtjchebnjbfhooaaDoor.Oct
open Go.RowKit

theorem digit_slice (d : Nat) (h : d < 16) (w : World) :
    (Instr.slice 9 (.string ⟨#[48, 49, 50, 51, 52, 53, 54, 55, 56, 57, 97, 98, 99, 100, 101, 102]⟩) (some (.int .i64 (d : Int))) (some (.int .i64 ((d : Int) + 1))) none).run Tryd.prog w = .ok (.string (S [hexDig d])) w := by
  have h16 : (⟨#[48, 49, 50, 51, 52, 53, 54, 55, 56, 57, 97, 98, 99, 100, 101, 102]⟩ : ByteArray).size = 16 := rfl
  rw [← digit_cut d h]
  generalize (⟨#[48, 49, 50, 51, 52, 53, 54, 55, 56, 57, 97, 98, 99, 100, 101, 102]⟩ : ByteArray) = s at h16
  have e1 : ((d : Int) + 1).toNat = d + 1 := by omega
  rw [run_slice_string w _ s .i64 .i64 (d : Int) ((d : Int) + 1) Tryd.underlying9 (by omega) (by omega) (by omega), e1, Int.toNat_natCast]


set_option maxHeartbeats 1000000 in
theorem rhex_walk (n : Int) (size : Int) (w : World) (c : Nat) (hc : c ≤ 16) (h : (size < 0 ∧ c = 0) ∨ (16 < size ∧ c = 16) ∨ (size = (c : Int))) :
    Calls Tryd.prog 38 #[.int .i64 n, .int .i64 size] w fun e w' => e = .returned (.string (S (hexL (u64 n) c))) ∧ w = w' := by
  have hu := u64_wrap n
  have hm := u64_lt n
  have HM : Hid (u64 n < 18446744073709551616) := hm
  clear hm
  rcases (show (size < 0 ∧ c ≤ 0) ∨ (16 < size ∧ 16 ≤ c) ∨ size = (c : Int) from by omega) with ⟨h1, hcc⟩ | ⟨h1, hcc⟩ | rfl
  all_goals
    clear h
    go_enter Tryd.func38, Tryd.ntmps38
    go_wp2
    go_loop [5, 6, 7, 8] (fun u o i _ => ∃ k : Nat, k ≤ c ∧ u = .int .u64 ((u64 n / 16 ^ k : Nat) : Int) ∧ o = .string (S (hexL (u64 n) k)) ∧ i = .int .i64 k) (fun _ _ i _ => 16 - (intOf i).toNat)
    case atStart => exact ⟨0, Nat.zero_le _, by simp, rfl, rfl⟩
    case round =>
      obtain ⟨k, hk, rfl, rfl, rfl⟩ := hrel
      by_cases hlt : k < c
      · try (exfalso; omega)
        all_goals
          have hnext : Hid (S [hexDig (u64 n / 16 ^ k % 16)] ++ S (hexL (u64 n) k) = S (hexL (u64 n) (k + 1))) := by show _ = _; rw [S_append, hexL_cons]; rfl
          have hdiv : Hid (u64 n / 16 ^ (k + 1) = u64 n / 16 ^ k / 16) := by show _ = _; rw [Nat.pow_succ, Nat.div_div_eq_div_mul]
          have hvl : u64 n / 16 ^ k < 18446744073709551616 := Nat.lt_of_le_of_lt (Nat.div_le_self _ _) HM.out
          have hol : (S (hexL (u64 n) k)).size ≤ 16 := by rw [size_S, hexL_length]; omega
          generalize S (hexL (u64 n) k) = o at hnext hol
          generalize u64 n / 16 ^ k = v at hnext hdiv hvl
          obtain ⟨d, hd⟩ : ∃ d, v % 16 = d := ⟨_, rfl⟩
          have hdI : (v : Int) % 16 = (d : Int) := by omega
          have hd16 : d < 16 := by omega
          rw [hd] at hnext
          have hcut := digit_slice d hd16
          have hxl : (S [hexDig d]).size ≤ 1 := by rw [size_S]; simp
          generalize S [hexDig d] = x at hnext hcut hxl
          clear hd
          go_wp2
          go_round
          case rel => exact ⟨k + 1, by omega, by rw [hdiv.out]; go_num, by rw [hnext.out], by go_num⟩
          case measure => simp [intOf]; omega
      · go_wp2
        go_ret
        obtain rfl : k = c := by omega
        exact ⟨rfl, rfl⟩

theorem rhex_c (n size : Int) (w : World) :
    Calls Tryd.prog 38 #[.int .i64 n, .int .i64 size] w fun e w' => e = .returned (.string (S (hexL (u64 n) (clamp size)))) ∧ w = w' :=
  rhex_walk n size w (clamp size) (clamp_le size) (by unfold clamp; omega)
end Go.Proofs.YtjchebnjbfhooaaDoor.Oct
