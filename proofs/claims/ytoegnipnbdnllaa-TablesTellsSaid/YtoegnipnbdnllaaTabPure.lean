/-
  Plain facts on the tables of elements and attributes, with no program.
-/
import Derived.Test.YtoegnipnbdnllaaOctPure
namespace Go.Proofs.Ytoegnipnbdnllaa.Tab
open Go.Proofs.Ytoegnipnbdnllaa.Oct

abbrev elsL : List (List UInt8) := [[116, 105, 116, 108, 101], [116, 101, 120, 116, 97, 114, 101, 97], [115, 116, 121, 108, 101], [115, 99, 114, 105, 112, 116], [112, 108, 97, 105, 110, 116, 101, 120, 116], [120, 109, 112], [105, 102, 114, 97, 109, 101], [110, 111, 101, 109, 98, 101, 100], [110, 111, 102, 114, 97, 109, 101, 115], [110, 111, 115, 99, 114, 105, 112, 116]]
abbrev urlsL : List (List UInt8) := [[104, 114, 101, 102], [115, 114, 99], [97, 99, 116, 105, 111, 110], [102, 111, 114, 109, 97, 99, 116, 105, 111, 110], [99, 105, 116, 101], [112, 111, 115, 116, 101, 114], [98, 97, 99, 107, 103, 114, 111, 117, 110, 100], [108, 111, 110, 103, 100, 101, 115, 99], [109, 97, 110, 105, 102, 101, 115, 116], [105, 99, 111, 110]]
abbrev nosL : List (List UInt8) := [[115, 114, 99, 100, 111, 99], [115, 114, 99, 115, 101, 116], [104, 116, 116, 112, 45, 101, 113, 117, 105, 118], [112, 105, 110, 103]]
abbrev voidsL : List (List UInt8) := [[97, 114, 101, 97], [98, 97, 115, 101], [98, 114], [99, 111, 108], [101, 109, 98, 101, 100], [104, 114], [105, 109, 103], [105, 110, 112, 117, 116], [108, 105, 110, 107], [109, 101, 116, 97], [112, 97, 114, 97, 109], [115, 111, 117, 114, 99, 101], [116, 114, 97, 99, 107], [119, 98, 114]]
abbrev dataL : List UInt8 := [100, 97, 116, 97]
abbrev objectL : List UInt8 := [111, 98, 106, 101, 99, 116]
abbrev onL : List UInt8 := [111, 110]
abbrev styleL : List UInt8 := [115, 116, 121, 108, 101]
abbrev xmlnsL : List UInt8 := [120, 109, 108, 110, 115]
/-- What an element's number is by its place. -/
def codeN (i : Nat) : Nat := if i < 2 then 1 else if i < 4 then i else 4
/-- The first place of a text in a list. -/
def placeL (s : List UInt8) : List (List UInt8) → Option Nat
  | [] => none
  | x :: r => if x = s then some 0 else (placeL s r).map (· + 1)
def elemN (s : List UInt8) : Nat := match placeL s elsL with
  | some i => codeN i
  | none => 0
def inL (l : List (List UInt8)) (s : List UInt8) : Bool := decide (s ∈ l)
def preL (p s : List UInt8) : Bool := decide (p <+: s)
def attrN (elem attr : List UInt8) : Nat :=
  if inL urlsL attr = true ∨ (attr = dataL ∧ elem = objectL) then 1 else if preL onL attr = true then 2 else if attr = styleL then 3
  else if attr = [] ∨ inL nosL attr = true ∨ preL xmlnsL attr = true then 4 else 0
def voidB (s : List UInt8) : Bool := inL voidsL s

theorem take_ne {p s : List UInt8} {l : List (List UInt8)} (h : ∀ x ∈ l, x.take p.length ≠ p) : inL l (p ++ s) = false := by
  refine decide_eq_false fun hm => h _ hm ?_
  rw [List.take_left]
theorem attr_on (elem s : List UInt8) : attrN elem (onL ++ s) = 2 := by
  unfold attrN
  have h1 : inL urlsL (onL ++ s) = false := take_ne (by decide)
  have h2 : onL ++ s ≠ dataL := fun h => absurd (congrArg (List.take 1) h) (by simp)
  have h3 : preL onL (onL ++ s) = true := decide_eq_true (List.prefix_append ..)
  rw [if_neg (by rw [h1]; exact fun h => h.elim (fun h => Bool.noConfusion h) (fun h => h2 h.1)), if_pos h3]
theorem attr_q (elem s : List UInt8) : attrN elem ([113, 45, 111, 110] ++ s) = 0 := by
  unfold attrN
  have h1 : inL urlsL ([113, 45, 111, 110] ++ s) = false := take_ne (by decide)
  have h2 : [113, 45, 111, 110] ++ s ≠ dataL := fun h => absurd (congrArg (List.take 1) h) (by simp)
  have h3 : preL onL ([113, 45, 111, 110] ++ s) = false := decide_eq_false (by rintro ⟨t, ht⟩; simp at ht)
  have h4 : [113, 45, 111, 110] ++ s ≠ styleL := fun h => absurd (congrArg (List.take 1) h) (by simp)
  have h5 : [113, 45, 111, 110] ++ s ≠ [] := by simp
  have h6 : inL nosL ([113, 45, 111, 110] ++ s) = false := take_ne (by decide)
  have h7 : preL xmlnsL ([113, 45, 111, 110] ++ s) = false := decide_eq_false (by rintro ⟨t, ht⟩; simp at ht)
  rw [if_neg (by rw [h1]; exact fun h => h.elim (fun h => Bool.noConfusion h) (fun h => h2 h.1)), if_neg (by rw [h3]; simp), if_neg h4, if_neg (by rw [h6, h7]; exact fun h => h.elim h5 (fun h => h.elim (fun h => Bool.noConfusion h) (fun h => Bool.noConfusion h)))]

/-! ### A loop that looks a text up -/
theorem place_none {s : List UInt8} : ∀ {l : List (List UInt8)}, (∀ k, (h : k < l.length) → l[k] ≠ s) → placeL s l = none
  | [], _ => rfl
  | x :: r, h => by
    unfold placeL
    rw [if_neg (show x ≠ s from h 0 (by simp)), place_none (fun k hk => by have := h (k + 1) (by simp; omega); simpa using this)]
    rfl
theorem place_some {s : List UInt8} : ∀ {l : List (List UInt8)} {k : Nat} (hk : k < l.length), (∀ j, (h : j < l.length) → j < k → l[j] ≠ s) → l[k] = s → placeL s l = some k
  | [], k, hk, _, _ => absurd hk (by simp)
  | x :: r, 0, _, _, he => by
    unfold placeL
    rw [if_pos (show x = s from he)]
  | x :: r, k + 1, hk, hn, he => by
    unfold placeL
    rw [if_neg (show x ≠ s from hn 0 (by simp) (by omega)), place_some (k := k) (by simpa using hk) (fun j h hj => by have := hn (j + 1) (by simp; omega) (by omega); simpa using this) (by simpa using he)]
    rfl
theorem in_yes {l : List (List UInt8)} {s : List UInt8} {k : Nat} (hk : k < l.length) (he : l[k] = s) : inL l s = true := decide_eq_true (he ▸ List.getElem_mem hk)
theorem in_no {l : List (List UInt8)} {s : List UInt8} (h : ∀ k, (h : k < l.length) → l[k] ≠ s) : inL l s = false := by
  refine decide_eq_false fun hm => ?_
  obtain ⟨k, hk, he⟩ := List.getElem_of_mem hm
  exact h k hk he
end Go.Proofs.Ytoegnipnbdnllaa.Tab
