/-
  Plain facts on texts in styles, with no program: which are plain, a text filtered.
-/
import Derived.Test.YtlekaibiofkleaaOctPure
namespace Go.Proofs.Ytlekaibiofkleaa.Css
open Go.Proofs.Ytlekaibiofkleaa.Oct

/-- Letters, digits, blank and the six. -/
def okI (n : Int) : Bool := letterI n || digitI n || decide (n = 32 ∨ n = 46 ∨ n = 44 ∨ n = 37 ∨ n = 35 ∨ n = 43 ∨ n = 45)
def okC (c : UInt8) : Bool := okI (c.toNat : Int)
/-- Does a text stand somewhere in another one? -/
def hasSub (p : List UInt8) : List UInt8 → Bool
  | [] => p.isPrefixOf []
  | c :: t => p.isPrefixOf (c :: t) || hasSub p t
abbrev expL : List UInt8 := [101, 120, 112, 114, 101, 115, 115, 105, 111, 110]
abbrev urlL : List UInt8 := [117, 114, 108]
abbrev markC : List UInt8 := [90, 103, 111, 116, 109, 112, 108, 90]
def plainB (l : List UInt8) : Bool := decide (l.length ≤ 4096) && l.all okC && !hasSub expL (l.map low) && !hasSub urlL (l.map low)
def filtC (l : List UInt8) : List UInt8 := if plainB l = true then l else markC

theorem sub_iff (p l : List UInt8) : hasSub p l = true ↔ ∃ a b, l = a ++ p ++ b := by
  induction l with
  | nil =>
    constructor
    · intro h
      have h2 := List.isPrefixOf_iff_prefix.1 h
      obtain ⟨b, hb⟩ := h2
      exact ⟨[], b, by rw [List.nil_append]; exact hb.symm⟩
    · rintro ⟨a, b, h⟩
      have h1 : a ++ p = [] := (List.append_eq_nil_iff.1 h.symm).1
      have h2 : p = [] := (List.append_eq_nil_iff.1 h1).2
      subst h2; rfl
  | cons c t ih =>
    show (p.isPrefixOf (c :: t) || hasSub p t) = true ↔ _
    rw [Bool.or_eq_true]
    constructor
    · rintro (h | h)
      · obtain ⟨b, hb⟩ := List.isPrefixOf_iff_prefix.1 h
        exact ⟨[], b, by rw [List.nil_append]; exact hb.symm⟩
      · obtain ⟨a, b, hab⟩ := ih.1 h
        exact ⟨c :: a, b, by rw [hab]; rfl⟩
    · rintro ⟨a, b, h⟩
      cases a with
      | nil => exact .inl (List.isPrefixOf_iff_prefix.2 ⟨b, by rw [h]; rfl⟩)
      | cons d a =>
        right
        rw [List.cons_append, List.cons_append] at h
        injection h with _ h
        exact ih.2 ⟨a, b, h⟩
/-- A piece of a plain text is plain. -/
theorem plain_piece (a m b : List UInt8) (h : plainB (a ++ m ++ b) = true) : plainB m = true := by
  unfold plainB at h ⊢
  simp only [Bool.and_eq_true, decide_eq_true_eq, Bool.not_eq_true'] at h ⊢
  obtain ⟨⟨⟨h1, h2⟩, h3⟩, h4⟩ := h
  have piece : ∀ p, hasSub p ((a ++ m ++ b).map low) = false → hasSub p (m.map low) = false := fun p hp => by
    cases hq : hasSub p (m.map low) with
    | false => rfl
    | true =>
      obtain ⟨x, y, hxy⟩ := (sub_iff p _).1 hq
      have : hasSub p ((a ++ m ++ b).map low) = true := (sub_iff p _).2 ⟨a.map low ++ x, y ++ b.map low, by rw [List.map_append, List.map_append, hxy]; simp⟩
      rw [this] at hp; cases hp
  rw [List.length_append, List.length_append] at h1
  rw [List.all_append, List.all_append, Bool.and_eq_true, Bool.and_eq_true] at h2
  exact ⟨⟨⟨by omega, h2.1.2⟩, piece _ h3⟩, piece _ h4⟩
theorem plain_cut (l : List UInt8) (i j : Nat) (h : plainB l = true) : plainB ((l.drop i).take j) = true := by
  refine plain_piece (l.take i) _ ((l.drop i).drop j) ?_
  rw [List.append_assoc, List.take_append_drop, List.take_append_drop]
  exact h
theorem mark_plain : plainB markC = true := by decide +kernel
/-- What is filtered is plain, and stays. -/
theorem filt_plain (l : List UInt8) : plainB (filtC l) = true := by
  unfold filtC
  split
  · assumption
  · exact mark_plain
theorem filt_own (l : List UInt8) : filtC (filtC l) = filtC l := by
  have h := filt_plain l
  rw [show filtC (filtC l) = if plainB (filtC l) = true then filtC l else markC from rfl, if_pos h]
theorem filt_is (l : List UInt8) : filtC l = l ∨ (filtC l = markC ∧ plainB l = false) := by
  unfold filtC
  split
  · exact .inl rfl
  · rename_i h
    exact .inr ⟨rfl, by cases hq : plainB l <;> simp_all⟩
end Go.Proofs.Ytlekaibiofkleaa.Css
