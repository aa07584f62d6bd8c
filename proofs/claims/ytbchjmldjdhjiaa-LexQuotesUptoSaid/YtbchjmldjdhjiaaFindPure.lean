/-
  Where a text first stands in another one, with no program.
-/
import Derived.Test.YtbchjmldjdhjiaaOctPure
namespace Go.Proofs.Ytbchjmldjdhjiaa.Lex
open Go.Proofs.Ytbchjmldjdhjiaa.Oct

/-- The first place of a text in another one. -/
def findL (p : List UInt8) : List UInt8 → Option Nat
  | [] => if p.isEmpty then some 0 else none
  | c :: t => if p.isPrefixOf (c :: t) then some 0 else (findL p t).map (· + 1)
theorem find_some {p : List UInt8} {l : List UInt8} {n : Nat} (h : findL p l = some n) : p <+: l.drop n := by
  induction l generalizing n with
  | nil =>
    unfold findL at h
    split at h
    · rename_i q
      injection h with h
      subst h
      rw [List.isEmpty_iff.1 q]
      exact List.nil_prefix
    · cases h
  | cons c t ih =>
    unfold findL at h
    split at h
    · rename_i q
      injection h with h
      subst h
      exact List.isPrefixOf_iff_prefix.1 q
    · obtain ⟨m, hm, rfl⟩ := Option.map_eq_some_iff.1 h
      exact ih hm
theorem find_long {p : List UInt8} : ∀ {l : List UInt8}, l.length < p.length → findL p l = none
  | [], h => by
    unfold findL
    rw [if_neg (by cases p with
      | nil => exact absurd h (by simp)
      | cons c t => simp)]
  | c :: t, h => by
    unfold findL
    rw [if_neg (fun q => by have := (List.isPrefixOf_iff_prefix.1 q).length_le; omega), find_long (l := t) (by rw [List.length_cons] at h; omega)]
    rfl
theorem find_yes {p l : List UInt8} (h : p.isPrefixOf l = true) : findL p l = some 0 := by
  cases l with
  | nil =>
    have := List.isPrefixOf_iff_prefix.1 h
    unfold findL
    rw [if_pos (by simpa using this)]
  | cons c t =>
    unfold findL
    rw [if_pos h]
theorem find_no {p l : List UInt8} (h : p.isPrefixOf l = false) (hl : p.length ≤ l.length) : findL p l = (findL p (l.drop 1)).map (· + 1) := by
  cases l with
  | nil =>
    rw [List.length_nil, Nat.le_zero, List.length_eq_zero_iff] at hl
    subst hl
    simp at h
  | cons c t =>
    show findL p (c :: t) = (findL p t).map (· + 1)
    conv => lhs; unfold findL
    rw [if_neg (by rw [h]; simp)]
def findI (p l : List UInt8) : Int := match findL p l with
  | some n => (n : Int)
  | none => -1
end Go.Proofs.Ytbchjmldjdhjiaa.Lex
