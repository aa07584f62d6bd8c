/-
  Contracts of strings.Cut at one octet, of escaped, character and names of package refs.
-/
import Derived.Test.YtlekaibiofkleaaCrfPure2
import Derived.Test.YtlekaibiofkleaaUtfLeaves
import Derived.Test.YtlekaibiofkleaaOctTrim
import Derived.Deep.QuietTactic
import Derived.BigQuiet
namespace Go.Proofs.Ytlekaibiofkleaa.Crf
open Go.RowKit Go.Proofs.Ytlekaibiofkleaa.Oct Go.Proofs.Ytlekaibiofkleaa.Num Go.Proofs.Ytlekaibiofkleaa.Utf
open Go.Lib (encodeRune)

theorem cutTo (s : ByteArray) (n : Nat) : s.extract 0 n = S (s.data.toList.take n) := by
  rw [Lib.extract_eq]; simp [S]
theorem drewB {B : Nat} {a w : World} (h : Below B a w) (q : Nat) : Below B a (w.drewN q) := ⟨h.os, h.tape, h.output, h.size, h.block⟩
theorem cutFrom (s : ByteArray) (n : Nat) : s.extract n s.size = S (s.data.toList.drop n) := by
  rw [Lib.extract_eq, List.take_of_length_le (by rw [List.length_drop, size_list]; omega)]
theorem cutOne (l : List UInt8) (k : Nat) (h : k < l.length) : (S l).extract k (k + 1) = S [l[k]] := by
  rw [Lib.extract_eq]
  have e : (S l).data.toList = l := list_S l
  rw [e, show k + 1 - k = 1 by omega, List.drop_eq_getElem_cons h]
  rfl

theorem index_no (l : List UInt8) (c : UInt8) (h : c ∉ l) : Lib.indexByte l c = -1 := by
  induction l with
  | nil => rfl
  | cons a l ih =>
    have h1 : (a == c) = false := by
      rw [beq_eq_false_iff_ne]
      exact fun e => h (by rw [e]; simp)
    have h2 := ih (fun hm => h (List.mem_cons_of_mem _ hm))
    rw [Lib.indexByte, h1, h2]
    rfl
theorem index_at (l : List UInt8) (h : 59 ∈ l) : Lib.indexByte l 59 = ((innerOf l).length : Int) := by
  induction l with
  | nil => cases h
  | cons a l ih =>
    by_cases ha : a = 59
    · subst ha; rfl
    · have h1 : (a == 59) = false := by rw [beq_eq_false_iff_ne]; exact ha
      have h2 := ih (by rcases List.mem_cons.1 h with h | h; exact absurd h.symm ha; exact h)
      have h3 : innerOf (a :: l) = a :: innerOf l := by
        unfold innerOf
        rw [List.takeWhile_cons_of_pos (by simp [h1])]
      rw [Lib.indexByte, h1, h2, h3]
      have : (((innerOf l).length : Int) == -1) = false := by simp
      rw [this]
      simp
theorem inner_len (l : List UInt8) (h : 59 ∈ l) : (innerOf l).length + 1 ≤ l.length := by
  obtain ⟨t, ht⟩ := inner_split l h
  have := congrArg List.length ht
  rw [List.length_append, List.length_cons] at this
  omega
theorem inner_take (l : List UInt8) : l.take (innerOf l).length = innerOf l := by
  have h : innerOf l <+: l := List.takeWhile_prefix _
  exact (List.prefix_iff_eq_take.1 h).symm

/-! ### escaped -/
theorem eqB (a b : List UInt8) : ((S a).toList == (S b).toList) = decide (a = b) := by
  rw [ByteArray.toList_eq, ByteArray.toList_eq, list_S, list_S]
  by_cases h : a = b
  · rw [h]; simp
  · rw [decide_eq_false h, beq_eq_false_iff_ne]; exact h
theorem eqL (a b : List UInt8) : ((S a).toList == b) = decide (a = b) := by
  rw [ByteArray.toList_eq, list_S]
  by_cases h : a = b
  · rw [h]; simp
  · rw [decide_eq_false h, beq_eq_false_iff_ne]; exact h
theorem eqB1 (c d : UInt8) {b : Bool} (h : decide (c = d) = b) : ((S [c]).toList == [d]) = b := by
  rw [← h, eqL]
  by_cases e : c = d <;> simp [e]

/-! ### character -/
/-! ### names -/
abbrev namesV : Value := .agg #[.string ⟨#[97, 109, 112]⟩, .string ⟨#[38]⟩, .string ⟨#[108, 116]⟩, .string ⟨#[60]⟩, .string ⟨#[103, 116]⟩, .string ⟨#[62]⟩, .string ⟨#[113, 117, 111, 116]⟩, .string ⟨#[34]⟩, .string ⟨#[97, 112, 111, 115]⟩, .string ⟨#[39]⟩]
end Go.Proofs.Ytlekaibiofkleaa.Crf
