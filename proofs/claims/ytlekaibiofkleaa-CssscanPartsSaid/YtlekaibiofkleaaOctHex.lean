/-
  Contract of octets.Hex: the lowest digits of base 16, in two's complement.
-/
import Derived.Test.YtlekaibiofkleaaOctTrim
import Derived.Test.YtlekaibiofkleaaHexPure
namespace Go.Proofs.Ytlekaibiofkleaa.Oct
open Go.RowKit

theorem wraps_u64 (n : Int) (h₀ : 0 ≤ n) (h₁ : n < 2 ^ 64) : IntKind.u64.wrap n = n := by rw [IntKind.wrap_u64]; omega
theorem and15 (m e : Nat) (hm : m < 18446744073709551616) : bits .and .u64 ((m : Int) / 2 ^ e) 15 = ((m / 2 ^ e % 16 : Nat) : Int) := by
  have e1 : ((m : Int) / 2 ^ e) = ((m / 2 ^ e : Nat) : Int) := by simp
  have hle : m / 2 ^ e ≤ m := Nat.div_le_self _ _
  rw [e1]
  generalize m / 2 ^ e = x at hle
  have h := bits_mask .u64 64 (by decide) wraps_u64 4 (by decide) (x : Int) (by omega) (by omega)
  have e2 : ((2 : Int) ^ 4 - 1) = 15 := by decide
  rw [e2] at h
  rw [h]
  omega

end Go.Proofs.Ytlekaibiofkleaa.Oct
