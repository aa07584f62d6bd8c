/-
  Plain facts on lists of octets: trimmed texts; texts that begin with others, whatever their letters are.
-/
import Derived.Test.YtbchjmldjdhjiaaOctNames
namespace Go.Proofs.Ytbchjmldjdhjiaa.Oct
open Go.RowKit

theorem below_drewN {B : Nat} {a w : World} (h : Below B a w) (q : Nat) : Below B a (w.drewN q) := ⟨h.os, h.tape, h.output, h.size, h.block⟩

/-- Does s begin with p, whatever its letters are? -/
def startsB (s p : List UInt8) : Bool := decide (p.length ≤ s.length) && ((s.map low).take p.length == p.map low)

theorem starts_none (s p : ByteArray) (h : p.size ≤ s.size) : (firstOf (fun k => low (at' s k) != low (at' p k)) 0 p.size == p.size) = startsB s.data.toList p.data.toList := by
  unfold startsB
  rw [size_list, size_list, decide_eq_true h, Bool.true_and, firstOf_all, Bool.eq_iff_iff, List.all_eq_true, beq_iff_eq]
  simp only [List.mem_range, bne, Bool.not_not, beq_iff_eq]
  have hs := size_list s
  have hp := size_list p
  constructor
  · intro H
    apply List.ext_getElem
    · simp only [List.length_take, List.length_map]; omega
    · intro i h1 h2
      have hi : i < p.size := by simp only [List.length_map] at h2; omega
      have := H i hi
      rw [← at_eq s i (by omega), ← at_eq p i hi] at this
      simp only [List.getElem_take, List.getElem_map, Array.getElem_toList]
      exact this
  · intro H k hk
    have e := congrArg (fun l => l[k]?) H
    simp only [List.getElem?_take_of_lt hk, List.getElem?_map] at e
    rw [List.getElem?_eq_getElem (by omega), List.getElem?_eq_getElem (by omega)] at e
    simp only [Option.map_some, Option.some.injEq, Array.getElem_toList] at e
    rw [← at_eq s k (by omega), ← at_eq p k hk]
    exact e

def bl (c : UInt8) : Bool := blankI (c.toNat : Int)
/-- Without blanks at both ends. -/
def trimL (l : List UInt8) : List UInt8 := ((l.dropWhile bl).reverse.dropWhile bl).reverse

theorem firstOf_takeWhile (p : Nat → Bool) (q : UInt8 → Bool) (l : List UInt8) (k : Nat) (h : ∀ i (hi : i < l.length), p (k + i) = !q l[i]) : firstOf p k l.length = (l.takeWhile q).length := by
  induction l generalizing k with
  | nil => rfl
  | cons c l ih =>
    have h0 : p k = !q c := h 0 (by simp)
    rw [List.length_cons, firstOf, h0]
    cases hq : q c with
    | true =>
      simp only [Bool.not_true, Bool.false_eq_true, if_false, List.takeWhile_cons, hq, if_true, List.length_cons]
      rw [ih (k + 1) (fun i hi => by have := h (i + 1) (by simp; omega); rw [← Nat.add_assoc, Nat.add_right_comm] at this; simpa using this)]
    | false => simp [hq]

theorem drop_takeWhile (q : UInt8 → Bool) (l : List UInt8) : l.drop (l.takeWhile q).length = l.dropWhile q := by
  induction l with
  | nil => rfl
  | cons c l ih =>
    cases hq : q c with
    | true => simp [hq, ih]
    | false => simp [hq]

theorem trim_ahead (s : ByteArray) : s.data.toList.drop (firstOf (fun k => !blankI ((at' s k).toNat : Int)) 0 s.size) = s.data.toList.dropWhile bl := by
  rw [← drop_takeWhile, ← size_list, firstOf_takeWhile _ bl _ 0 (fun i hi => by
    have hi' : i < s.size := by rw [← size_list]; exact hi
    rw [Nat.zero_add, ← at_eq s i hi', Array.getElem_toList]
    rfl)]

theorem trim_behind (s : ByteArray) : s.data.toList.take (s.size - firstOf (fun k => !blankI ((at' s (s.size - 1 - k)).toNat : Int)) 0 s.size) = (s.data.toList.reverse.dropWhile bl).reverse := by
  have e : firstOf (fun k => !blankI ((at' s (s.size - 1 - k)).toNat : Int)) 0 s.size = (s.data.toList.reverse.takeWhile bl).length := by
    rw [← firstOf_takeWhile (fun k => !blankI ((at' s (s.size - 1 - k)).toNat : Int)) bl s.data.toList.reverse 0 (fun i hi => by
      have hi' : i < s.size := by rw [← size_list]; simpa using hi
      rw [Nat.zero_add, ← at_eq s (s.size - 1 - i) (by omega), List.getElem_reverse, Array.getElem_toList]
      simp only [size_list]
      rfl), List.length_reverse, size_list]
  rw [e, ← drop_takeWhile, List.reverse_drop, List.reverse_reverse, List.length_reverse, size_list]

end Go.Proofs.Ytbchjmldjdhjiaa.Oct
