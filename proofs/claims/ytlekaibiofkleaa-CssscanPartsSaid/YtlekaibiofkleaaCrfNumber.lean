/-
  Contracts of number, standsFor, beginsName and beginsNumber of package refs.
-/
import Derived.Test.YtlekaibiofkleaaCrfLeaf
import Derived.Test.YtlekaibiofkleaaOctUnhex
import Derived.LoopTactic
namespace Go.Proofs.Ytlekaibiofkleaa.Crf
open Go.RowKit Go.Proofs.Ytlekaibiofkleaa.Oct Go.Proofs.Ytlekaibiofkleaa.Num Go.Proofs.Ytlekaibiofkleaa.Utf
open Go.Lib (encodeRune)

theorem starts_x (t : List UInt8) : startsB t [120] = isHex t := by
  cases t with
  | nil => rfl
  | cons c t =>
    have h : ∀ c : Fin 256, startsB [UInt8.ofNat c.val] [120] = isHex [UInt8.ofNat c.val] := by decide +kernel
    have h2 := h ⟨c.toNat, c.toNat_lt⟩
    simp only [UInt8.ofNat_toNat] at h2
    have e1 : startsB (c :: t) [120] = startsB [c] [120] := by simp [startsB]
    have e2 : isHex (c :: t) = isHex [c] := rfl
    rw [e1, e2, h2]

theorem valB_snoc (b : Nat) (l : List UInt8) (c : UInt8) : valB b (l ++ [c]) = valB b l * b + (hx c).toNat := by simp [valB]
theorem valB_lt (b : Nat) (hb : b ≤ 16) (l : List UInt8) : valB b l < 16 ^ l.length := by
  have gen : ∀ (l : List UInt8) (a e : Nat), a < 16 ^ e → l.foldl (fun n c => n * b + (hx c).toNat) a < 16 ^ (e + l.length) := by
    intro l
    induction l with
    | nil => intro a e h; simpa using h
    | cons c l ih =>
      intro a e h
      have hc := hx_le c
      have hm : a * b ≤ a * 16 := Nat.mul_le_mul_left a hb
      have := ih (a * b + (hx c).toNat) (e + 1) (by rw [Nat.pow_succ]; omega)
      rw [List.foldl_cons, List.length_cons, show e + (l.length + 1) = e + 1 + l.length by omega]
      exact this
  have := gen l 0 0 (by simp)
  simpa [valB] using this
theorem valB_small (b : Nat) (hb : b ≤ 16) (l : List UInt8) (k : Nat) (hl : l.length ≤ 7) : valB b (l.take k) < 268435456 := by
  have h1 := valB_lt b hb (l.take k)
  have h2 : (l.take k).length ≤ 7 := by rw [List.length_take]; omega
  have h3 : 16 ^ (l.take k).length ≤ 16 ^ 7 := Nat.pow_le_pow_right (by omega) h2
  omega
theorem unhex_one (c : UInt8) : unhexL [c] = if 0 ≤ hx c then ((hx c).toNat, 0) else (0, 33) := by
  unfold unhexL
  have e : hexC c = hx c := rfl
  by_cases h : 0 ≤ hx c
  · rw [if_pos h, if_neg (by simp), if_neg (by simp), if_pos (by simp [e, h])]
    simp [valL, e]
  · rw [if_neg h, if_neg (by simp), if_neg (by simp), if_neg (by simp [e, h])]

/-- What number tells. -/
def numA (l : List UInt8) : Int × Int := match numR l with | some (n, d) => (n, d) | none => (0, -1)
theorem numA_none {l : List UInt8} (h : ¬ (l.head? = some 35 ∧ (digsOf l.tail).length ≤ 7 ∧ (digsOf l.tail).all (digB (baseOf l.tail)) = true)) : numA l = (0, -1) := by
  unfold numA numR
  rw [if_neg h]
theorem numA_some {l : List UInt8} (h : l.head? = some 35 ∧ (digsOf l.tail).length ≤ 7 ∧ (digsOf l.tail).all (digB (baseOf l.tail)) = true) : numA l = (((valB (baseOf l.tail) (digsOf l.tail) : Nat) : Int), (((digsOf l.tail).length : Nat) : Int)) := by
  unfold numA numR
  rw [if_pos h]
theorem sharp (l : List UInt8) : Lib.hasPrefix l [35] = decide (l.head? = some 35) := by
  cases l with
  | nil => rfl
  | cons a l =>
    by_cases h : a = 35
    · subst h; rfl
    · simp [Lib.hasPrefix, List.isPrefixOf, h, Ne.symm h]
theorem sharp_trim (l : List UInt8) : Lib.trimPrefix l [35] = if l.head? = some 35 then l.tail else l := by
  unfold Lib.trimPrefix
  rw [sharp]
  by_cases h : l.head? = some 35
  · simp [h]
  · simp [h]
theorem digs_le (t : List UInt8) : (digsOf t).length ≤ t.length := by have := digs_len t; omega

end Go.Proofs.Ytlekaibiofkleaa.Crf
