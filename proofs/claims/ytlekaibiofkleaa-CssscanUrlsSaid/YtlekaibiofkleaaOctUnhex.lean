/-
  Contract of octets.Unhex: the number whose digits of base 16 a text is.
-/
import Derived.Test.YtlekaibiofkleaaOctHex
namespace Go.Proofs.Ytlekaibiofkleaa.Oct
open Go.RowKit

def hexC (c : UInt8) : Int := hexI (c.toNat : Int)
def valL (l : List UInt8) : Nat := l.foldl (fun n c => n * 16 + (hexC c).toNat) 0
/-- The number, and the error's. -/
def unhexL (l : List UInt8) : Nat × Nat :=
  if l = [] then (0, 8) else if 8 < l.length then (0, 5) else if l.all (fun c => decide (0 ≤ hexC c)) then (valL l, 0) else (0, 33)

theorem hexC_le (c : UInt8) : hexC c ≤ 15 := (hexI_range _).2
theorem valL_snoc (l : List UInt8) (c : UInt8) : valL (l ++ [c]) = valL l * 16 + (hexC c).toNat := by simp [valL]
theorem valL_lt (l : List UInt8) : valL l < 16 ^ l.length := by
  have gen : ∀ (l : List UInt8) (a e : Nat), a < 16 ^ e → l.foldl (fun n c => n * 16 + (hexC c).toNat) a < 16 ^ (e + l.length) := by
    intro l
    induction l with
    | nil => intro a e h; simpa using h
    | cons c l ih =>
      intro a e h
      have hc := hexC_le c
      have := ih (a * 16 + (hexC c).toNat) (e + 1) (by rw [Nat.pow_succ]; omega)
      rw [List.foldl_cons, List.length_cons, show e + (l.length + 1) = e + 1 + l.length by omega]
      exact this
  have := gen l 0 0 (by simp)
  simpa [valL] using this
theorem valL_le (l : List UInt8) (k : Nat) (h : k ≤ 7) : valL (l.take k) < 268435456 := by
  have h1 := valL_lt (l.take k)
  have h2 : (l.take k).length ≤ 7 := by rw [List.length_take]; omega
  have h3 : 16 ^ (l.take k).length ≤ 16 ^ 7 := Nat.pow_le_pow_right (by omega) h2
  omega
theorem take_at (s : ByteArray) (k : Nat) (h : k < s.size) : s.data.toList.take (k + 1) = s.data.toList.take k ++ [s[k]] := by
  rw [List.take_succ_eq_append_getElem (by rw [size_list]; exact h)]; rfl

theorem unhex_none (s : ByteArray) : (firstOf (fun k => decide (hexC (at' s k) < 0)) 0 s.size == s.size) = s.data.toList.all (fun c => decide (0 ≤ hexC c)) := by
  rw [firstOf_all, ← all_at]
  congr 1
  funext k
  rw [Bool.eq_iff_iff]; simp

theorem or_digit (x : Int) (y : Int) (h0 : 0 ≤ x) (h1 : x ≤ 268435456) (h2 : 0 ≤ y) (h3 : y ≤ 15) : bits .or .i64 (x * 16) y = x * 16 + y := by
  exact bits_join .i64 62 (by decide) (fun n h0 h1 => by rw [IntKind.wrap_i64]; omega) 4 (x * 16) y (by omega) (by omega) (by omega) h2 (by omega) (by omega)

end Go.Proofs.Ytlekaibiofkleaa.Oct
