/-
  Contract of octets.Hex: the lowest digits of base 16, in two's complement.
-/
import Derived.Test.YtppclkecfggkiaaDoorOctTrim
import Derived.Test.YtppclkecfggkiaaDoorHexPure
namespace Go.Proofs.YtppclkecfggkiaaDoor.Oct
open Go.RowKit

theorem wraps_u64 (n : Int) (h₀ : 0 ≤ n) (h₁ : n < 2 ^ 64) : IntKind.u64.wrap n = n := by rw [IntKind.wrap_u64]; omega
theorem and15 (m e : Nat) (hm : m < 18446744073709551616) : bits .and .u64 ((m : Int) / 2 ^ e) 15 = ((m / 2 ^ e % 16 : Nat) : Int) := by
  have e1 : ((m : Int) / 2 ^ e) = ((m / 2 ^ e : Nat) : Int) := by simp
  have hle : m / 2 ^ e ≤ m := Nat.div_le_self _ _
  rw [e1]
  generalize m / 2 ^ e = x at hle
  have h := bits_mask .u64 64 (by decide) wraps_u64 4 (by decide) (x : Int) (by omega) (by omega)
  have e2 : ((2 : Int) ^ 4 - 1) = 15 := by decide
  rw [e2] at h
  rw [h]
  omega

theorem enter_hex : ∀ args w, (callFunc 36 args).run Tryd.prog w = .ok (.enter 36 args) w := enters_of Tryd.func36 (by kernel_rfl) rfl

theorem hex1_c (n : Int) (size k b b' : Nat) (w : World) (hk : k < size) (hs : size ≤ 16) (hc : w.cell? ⟨b, 0, none⟩ = some (.int .i64 (size : Int))) (hc' : w.cell? ⟨b', 0, none⟩ = some (.int .i64 n)) :
    Calls Tryd.prog 36 #[.int .i64 (k : Int), .pointer (some ⟨b, 0, none⟩), .pointer (some ⟨b', 0, none⟩)] w
      fun e w' => e = .returned (.int .u8 ((hexDig (u64 n / 2 ^ (4 * (size - 1 - k)) % 16)).toNat : Int)) ∧ w = w' := by
  have hu := u64_wrap n
  have ha := and15 (u64 n) (4 * (size - 1 - k)) (u64_lt n)
  have hd : u64 n / 2 ^ (4 * (size - 1 - k)) % 16 < 16 := Nat.mod_lt _ (by omega)
  generalize u64 n / 2 ^ (4 * (size - 1 - k)) % 16 = d at ha hd ⊢
  generalize u64 n = m at hu ha
  go_enter Tryd.func36, Tryd.ntmps36
  go_wp2_with fail
  go_ret
  exact ⟨ret_int (congrArg (fun c : UInt8 => (c.toNat : Int)) (at_eq ⟨#[48, 49, 50, 51, 52, 53, 54, 55, 56, 57, 97, 98, 99, 100, 101, 102]⟩ d hd)), rfl⟩

theorem hex_c (n size : Int) (w : World) :
    Calls Tryd.prog 19 #[.int .i64 n, .int .i64 size] w fun e w' => e = .returned (.string (S (hexL (u64 n) (clamp size)))) ∧ Below w.heap.size w w' := by
  have hcl := clamp_eq size
  have hle := clamp_le size
  have hm := made_c (clamp size) 36 #[.pointer (some ⟨w.heap.size + 1, 0, none⟩), .pointer (some ⟨w.heap.size, 0, none⟩)] (fun k => hexDig (u64 n / 2 ^ (4 * (clamp size - 1 - k)) % 16))
    ((w.alloc (.cells #[.int .i64 n] 3)).alloc (.cells #[.int .i64 (clamp size : Int)] 3)) (by omega) enter_hex
    (fun k W hk hb => hex1_c n (clamp size) k (w.heap.size + 1) w.heap.size W hk hle (by rw [hb.cell (by simp)]; simp) (by rw [hb.cell (by simp; omega)]; simp))
  have hr : Hid (hexL (u64 n) (clamp size) = List.map (fun k => hexDig (u64 n / 2 ^ (4 * (clamp size - 1 - k)) % 16)) (List.range (clamp size))) := rfl
  generalize List.map (fun k => hexDig (u64 n / 2 ^ (4 * (clamp size - 1 - k)) % 16)) (List.range (clamp size)) = r at hm hr
  generalize clamp size = c at hcl hle hm hr
  go_enter Tryd.func19, Tryd.ntmps19
  go_wp2_with fail
  refine hm.mono ?_
  rintro e w' ⟨rfl, hb⟩
  go_wp2_with fail
  go_ret
  exact ⟨by rw [hr.out]; rfl, (((Below.refl _ w).alloc (Nat.le_refl _) _).alloc (by simp) _).trans (hb.mono (by simp; omega))⟩

end Go.Proofs.YtppclkecfggkiaaDoor.Oct
