/-
  Part 1: OctPure, TabPure, ScnState, HexPure, NumPure.
-/
import Derived.WalkKit
/-
  Plain facts on octets and lists of octets, with no program: what a blank, a letter, a digit is; small and great letters; the first place of a property; digits of base 16.
-/
namespace Go.Proofs.YtklpbkjplecdpaaGreat.Oct
open Go.RowKit

/-- A text of these octets. -/
abbrev S (l : List UInt8) : ByteArray := ⟨l.toArray⟩

theorem S_list (s : ByteArray) : S s.data.toList = s := by cases s; simp [S]
theorem list_S (l : List UInt8) : (S l).data.toList = l := by simp
theorem size_S (l : List UInt8) : (S l).size = l.length := by simp [ByteArray.size]
theorem S_append (a b : List UInt8) : S a ++ S b = S (a ++ b) := by simp [S, ByteArray.mk_append_mk]
theorem size_list (s : ByteArray) : s.data.toList.length = s.size := by rw [Array.length_toList]; rfl

def blankI (n : Int) : Bool := decide (n = 9 ∨ n = 10 ∨ n = 12 ∨ n = 13 ∨ n = 32)
def smallI (n : Int) : Bool := decide (97 ≤ n ∧ n ≤ 122)
def greatI (n : Int) : Bool := decide (65 ≤ n ∧ n ≤ 90)
def letterI (n : Int) : Bool := decide ((97 ≤ n ∧ n ≤ 122) ∨ (65 ≤ n ∧ n ≤ 90))
def digitI (n : Int) : Bool := decide (48 ≤ n ∧ n ≤ 57)
def nameI (n : Int) : Bool := decide ((97 ≤ n ∧ n ≤ 122) ∨ (65 ≤ n ∧ n ≤ 90) ∨ (48 ≤ n ∧ n ≤ 57) ∨ n = 95)
def lowI (n : Int) : Int := if 65 ≤ n ∧ n ≤ 90 then n + 32 else n
def upI (n : Int) : Int := if 97 ≤ n ∧ n ≤ 122 then n - 32 else n
/-- What a digit of base 16 counts; -1: none. -/
def hexI (n : Int) : Int := if 48 ≤ n ∧ n ≤ 57 then n - 48 else if 97 ≤ n ∧ n ≤ 102 then n - 87 else if 65 ≤ n ∧ n ≤ 70 then n - 55 else -1

theorem ret_bool {a b : Bool} (h : a = b) : Ending.returned (.bool a) = .returned (.bool b) := by rw [h]
theorem ret_int {k : IntKind} {a b : Int} (h : a = b) : Ending.returned (.int k a) = .returned (.int k b) := by rw [h]

theorem lowI_range {n : Int} (h0 : 0 ≤ n) (h1 : n ≤ 255) : 0 ≤ lowI n ∧ lowI n ≤ 255 := by unfold lowI; split <;> omega
theorem upI_range {n : Int} (h0 : 0 ≤ n) (h1 : n ≤ 255) : 0 ≤ upI n ∧ upI n ≤ 255 := by unfold upI; split <;> omega
theorem hexI_range (n : Int) : -1 ≤ hexI n ∧ hexI n ≤ 15 := by
  unfold hexI
  repeat' split
  all_goals omega

/-- A letter, small; great. -/
def low (c : UInt8) : UInt8 := if 65 ≤ c ∧ c ≤ 90 then c + 32 else c
def up (c : UInt8) : UInt8 := if 97 ≤ c ∧ c ≤ 122 then c - 32 else c

theorem low_all : ∀ k : Fin 256, (((low (UInt8.ofNat k.val)).toNat : Nat) : Int) = lowI ((UInt8.ofNat k.val).toNat : Int) := by decide +kernel
theorem up_all : ∀ k : Fin 256, (((up (UInt8.ofNat k.val)).toNat : Nat) : Int) = upI ((UInt8.ofNat k.val).toNat : Int) := by decide +kernel
theorem low_toNat (c : UInt8) : ((low c).toNat : Int) = lowI (c.toNat : Int) := by
  have := low_all ⟨c.toNat, c.toNat_lt⟩
  simpa using this
theorem up_toNat (c : UInt8) : ((up c).toNat : Int) = upI (c.toNat : Int) := by
  have := up_all ⟨c.toNat, c.toNat_lt⟩
  simpa using this

/-- The octet at a place of a text; 0 behind its end. -/
def at' (s : ByteArray) (k : Nat) : UInt8 := s.data.toList.getD k 0
theorem at_eq (s : ByteArray) (k : Nat) (h : k < s.size) : s[k] = at' s k := by
  have h' : k < s.data.toList.length := by rw [size_list]; exact h
  unfold at'
  rw [List.getD_eq_getElem?_getD, List.getElem?_eq_getElem h', Option.getD_some, Array.getElem_toList]
  rfl
theorem map_at (s : ByteArray) (f : UInt8 → UInt8) : (List.range s.size).map (fun k => f (at' s k)) = s.data.toList.map f := by
  apply List.ext_getElem
  · simp
  · intro i h1 h2
    have h : i < s.data.toList.length := by simpa using h2
    simp only [List.getElem_map, List.getElem_range]
    unfold at'
    rw [List.getD_eq_getElem?_getD, List.getElem?_eq_getElem h, Option.getD_some]

theorem all_at (s : ByteArray) (q : UInt8 → Bool) : (List.range s.size).all (fun k => q (at' s k)) = s.data.toList.all q := by
  have h := map_at s (fun c => if q c then 1 else 0)
  have e : ∀ l : List UInt8, (l.map (fun c => if q c then (1 : UInt8) else 0)).all (· == 1) = l.all q := by
    intro l
    induction l with
    | nil => rfl
    | cons c l ih =>
      simp only [List.map_cons, List.all_cons, ih]
      cases q c <;> simp
  rw [← e, ← h, List.all_map]
  congr 1
  funext k
  simp only [Function.comp]
  cases q (at' s k) <;> simp

theorem at_zero (s : ByteArray) : s.data.toList.getD 0 0 = at' s 0 := rfl

/-- A name, as the page says. -/
def nameB (l : List UInt8) : Bool := decide (1 ≤ l.length ∧ l.length ≤ 32) && !digitI ((l.getD 0 0).toNat : Int) && l.all (fun c => nameI (c.toNat : Int))
end Go.Proofs.YtklpbkjplecdpaaGreat.Oct

/-
  Plain facts on the tables of elements and attributes, with no program.
-/
namespace Go.Proofs.YtklpbkjplecdpaaGreat.Tab
open Go.Proofs.YtklpbkjplecdpaaGreat.Oct

abbrev elsL : List (List UInt8) := [[116, 105, 116, 108, 101], [116, 101, 120, 116, 97, 114, 101, 97], [115, 116, 121, 108, 101], [115, 99, 114, 105, 112, 116], [112, 108, 97, 105, 110, 116, 101, 120, 116], [120, 109, 112], [105, 102, 114, 97, 109, 101], [110, 111, 101, 109, 98, 101, 100], [110, 111, 102, 114, 97, 109, 101, 115], [110, 111, 115, 99, 114, 105, 112, 116]]
abbrev urlsL : List (List UInt8) := [[104, 114, 101, 102], [115, 114, 99], [97, 99, 116, 105, 111, 110], [102, 111, 114, 109, 97, 99, 116, 105, 111, 110], [99, 105, 116, 101], [112, 111, 115, 116, 101, 114], [98, 97, 99, 107, 103, 114, 111, 117, 110, 100], [108, 111, 110, 103, 100, 101, 115, 99], [109, 97, 110, 105, 102, 101, 115, 116], [105, 99, 111, 110]]
abbrev nosL : List (List UInt8) := [[115, 114, 99, 100, 111, 99], [115, 114, 99, 115, 101, 116], [104, 116, 116, 112, 45, 101, 113, 117, 105, 118], [112, 105, 110, 103]]
abbrev voidsL : List (List UInt8) := [[97, 114, 101, 97], [98, 97, 115, 101], [98, 114], [99, 111, 108], [101, 109, 98, 101, 100], [104, 114], [105, 109, 103], [105, 110, 112, 117, 116], [108, 105, 110, 107], [109, 101, 116, 97], [112, 97, 114, 97, 109], [115, 111, 117, 114, 99, 101], [116, 114, 97, 99, 107], [119, 98, 114]]
abbrev dataL : List UInt8 := [100, 97, 116, 97]
abbrev objectL : List UInt8 := [111, 98, 106, 101, 99, 116]
abbrev onL : List UInt8 := [111, 110]
abbrev styleL : List UInt8 := [115, 116, 121, 108, 101]
abbrev xmlnsL : List UInt8 := [120, 109, 108, 110, 115]
/-- What an element's number is by its place. -/
def codeN (i : Nat) : Nat := if i < 2 then 1 else if i < 4 then i else 4
/-- The first place of a text in a list. -/
def placeL (s : List UInt8) : List (List UInt8) → Option Nat
  | [] => none
  | x :: r => if x = s then some 0 else (placeL s r).map (· + 1)
def elemN (s : List UInt8) : Nat := match placeL s elsL with
  | some i => codeN i
  | none => 0
def inL (l : List (List UInt8)) (s : List UInt8) : Bool := decide (s ∈ l)
def preL (p s : List UInt8) : Bool := decide (p <+: s)
def attrN (elem attr : List UInt8) : Nat :=
  if inL urlsL attr = true ∨ (attr = dataL ∧ elem = objectL) then 1 else if preL onL attr = true then 2 else if attr = styleL then 3
  else if attr = [] ∨ inL nosL attr = true ∨ preL xmlnsL attr = true then 4 else 0
def voidB (s : List UInt8) : Bool := inL voidsL s

theorem take_ne {p s : List UInt8} {l : List (List UInt8)} (h : ∀ x ∈ l, x.take p.length ≠ p) : inL l (p ++ s) = false := by
  refine decide_eq_false fun hm => h _ hm ?_
  rw [List.take_left]
theorem attr_on (elem s : List UInt8) : attrN elem (onL ++ s) = 2 := by
  unfold attrN
  have h1 : inL urlsL (onL ++ s) = false := take_ne (by decide)
  have h2 : onL ++ s ≠ dataL := fun h => absurd (congrArg (List.take 1) h) (by simp)
  have h3 : preL onL (onL ++ s) = true := decide_eq_true (List.prefix_append ..)
  rw [if_neg (by rw [h1]; exact fun h => h.elim (fun h => Bool.noConfusion h) (fun h => h2 h.1)), if_pos h3]
theorem attr_q (elem s : List UInt8) : attrN elem ([113, 45, 111, 110] ++ s) = 0 := by
  unfold attrN
  have h1 : inL urlsL ([113, 45, 111, 110] ++ s) = false := take_ne (by decide)
  have h2 : [113, 45, 111, 110] ++ s ≠ dataL := fun h => absurd (congrArg (List.take 1) h) (by simp)
  have h3 : preL onL ([113, 45, 111, 110] ++ s) = false := decide_eq_false (by rintro ⟨t, ht⟩; simp at ht)
  have h4 : [113, 45, 111, 110] ++ s ≠ styleL := fun h => absurd (congrArg (List.take 1) h) (by simp)
  have h5 : [113, 45, 111, 110] ++ s ≠ [] := by simp
  have h6 : inL nosL ([113, 45, 111, 110] ++ s) = false := take_ne (by decide)
  have h7 : preL xmlnsL ([113, 45, 111, 110] ++ s) = false := decide_eq_false (by rintro ⟨t, ht⟩; simp at ht)
  rw [if_neg (by rw [h1]; exact fun h => h.elim (fun h => Bool.noConfusion h) (fun h => h2 h.1)), if_neg (by rw [h3]; simp), if_neg h4, if_neg (by rw [h6, h7]; exact fun h => h.elim h5 (fun h => h.elim (fun h => Bool.noConfusion h) (fun h => Bool.noConfusion h)))]

/-! ### A loop that looks a text up -/
theorem place_none {s : List UInt8} : ∀ {l : List (List UInt8)}, (∀ k, (h : k < l.length) → l[k] ≠ s) → placeL s l = none
  | [], _ => rfl
  | x :: r, h => by
    unfold placeL
    rw [if_neg (show x ≠ s from h 0 (by simp)), place_none (fun k hk => by have := h (k + 1) (by simp; omega); simpa using this)]
    rfl
theorem place_some {s : List UInt8} : ∀ {l : List (List UInt8)} {k : Nat} (hk : k < l.length), (∀ j, (h : j < l.length) → j < k → l[j] ≠ s) → l[k] = s → placeL s l = some k
  | [], k, hk, _, _ => absurd hk (by simp)
  | x :: r, 0, _, _, he => by
    unfold placeL
    rw [if_pos (show x = s from he)]
  | x :: r, k + 1, hk, hn, he => by
    unfold placeL
    rw [if_neg (show x ≠ s from hn 0 (by simp) (by omega)), place_some (k := k) (by simpa using hk) (fun j h hj => by have := hn (j + 1) (by simp; omega) (by omega); simpa using this) (by simpa using he)]
    rfl
theorem in_yes {l : List (List UInt8)} {s : List UInt8} {k : Nat} (hk : k < l.length) (he : l[k] = s) : inL l s = true := decide_eq_true (he ▸ List.getElem_mem hk)
theorem in_no {l : List (List UInt8)} {s : List UInt8} (h : ∀ k, (h : k < l.length) → l[k] ≠ s) : inL l s = false := by
  refine decide_eq_false fun hm => ?_
  obtain ⟨k, hk, he⟩ := List.getElem_of_mem hm
  exact h k hk he
end Go.Proofs.YtklpbkjplecdpaaGreat.Tab

/-
  A place in HTML as a plain state, with no program: its language, whether it may be.
-/
namespace Go.Proofs.YtklpbkjplecdpaaGreat.Scn
open Go.Proofs.YtklpbkjplecdpaaGreat.Oct Go.Proofs.YtklpbkjplecdpaaGreat.Tab

/-- A state: its kind, element, attribute, quote, what is pending, the reference, the part and the word. -/
structure Sc where
  k : Nat
  e : List UInt8
  a : List UInt8
  d : UInt8
  p : List UInt8
  r : List UInt8
  n : Int
  w : List UInt8
deriving DecidableEq
abbrev sc0 : Sc := ⟨0, [], [], 0, [], [], 0, []⟩
abbrev scK (k : Nat) (e : List UInt8) : Sc := ⟨k, e, [], 0, [], [], 0, []⟩

/-- Is it an end tag's? -/
def endE (e : List UInt8) : Bool := e.head? == some 47
def attK (s : Sc) : Nat := if (s.k < 8 ∨ 10 < s.k) ∨ endE s.e = true then 0 else attrN s.e s.a
def langN (s : Sc) : Nat := if s.k = 18 then 3 else if s.k = 19 then 2 else if s.k = 9 ∨ s.k = 10 then (if attK s < 4 then attK s else 0) else 0
def elemK (k : Nat) : Bool := decide ((3 ≤ k ∧ k ≤ 12) ∨ 17 ≤ k)
def attrK (k : Nat) : Bool := decide (6 ≤ k ∧ k ≤ 10)
def refK (k : Nat) : Bool := decide (k = 0 ∨ k = 9 ∨ k = 10 ∨ k = 17)
/-- Whether a state may be. -/
def checkS (s : Sc) : Nat :=
  if 19 < s.k then 4
  else if 33 < s.e.length ∨ 32 < s.a.length ∨ 34 < s.p.length ∨ 16 < s.r.length ∨ 16 < s.w.length then 9
  else if s.n < 0 ∨ 15 < s.n then 9
  else if (elemK s.k = false ∧ s.e ≠ []) ∨ (attrK s.k = false ∧ s.a ≠ []) ∨ (s.k < 16 ∧ s.p ≠ []) ∨ (refK s.k = false ∧ s.r ≠ []) then 9
  else if (s.k = 9 ∧ s.d ≠ 34 ∧ s.d ≠ 39) ∨ (s.k ≠ 9 ∧ s.d ≠ 0) then 9
  else if langN s = 0 ∧ (s.n ≠ 0 ∨ s.w ≠ []) then 9
  else 0
/-- The same of a kind that is any number. -/
def checkI (k : Int) (e a : List UInt8) (d : UInt8) (p r : List UInt8) (n : Int) (w : List UInt8) : Nat :=
  if k < 0 then 4 else checkS ⟨k.toNat, e, a, d, p, r, n, w⟩
end Go.Proofs.YtklpbkjplecdpaaGreat.Scn

/-
  Plain facts on digits of base 16, with no program.
-/
namespace Go.Proofs.YtklpbkjplecdpaaGreat.Oct
open Go.RowKit

/-- A number of 64 bits, in two's complement. -/
def u64 (n : Int) : Nat := (n % 18446744073709551616).toNat
theorem u64_lt (n : Int) : u64 n < 18446744073709551616 := by unfold u64; omega
theorem u64_wrap (n : Int) : IntKind.u64.wrap n = ((u64 n : Nat) : Int) := by rw [IntKind.wrap_u64]; unfold u64; omega

def hexDig (d : Nat) : UInt8 := at' ⟨#[48, 49, 50, 51, 52, 53, 54, 55, 56, 57, 97, 98, 99, 100, 101, 102]⟩ d
/-- The lowest digits of u. -/
def hexL (u size : Nat) : List UInt8 := (List.range size).map fun k => hexDig (u / 2 ^ (4 * (size - 1 - k)) % 16)
/-- A size as the nearest of 0 to 16. -/
def clamp (size : Int) : Nat := (min (max size 0) 16).toNat
theorem clamp_le (size : Int) : clamp size ≤ 16 := by unfold clamp; omega
theorem clamp_eq (size : Int) : min (max size 0) 16 = ((clamp size : Nat) : Int) := by unfold clamp; omega

theorem hexL_length (u n : Nat) : (hexL u n).length = n := by simp [hexL]
theorem hexL_cons (u k : Nat) : hexL u (k + 1) = hexDig (u / 16 ^ k % 16) :: hexL u k := by
  unfold hexL
  rw [List.range_succ_eq_map, List.map_cons, List.map_map]
  congr 1
  · have e : 2 ^ (4 * (k + 1 - 1 - 0)) = 16 ^ k := by
      rw [show k + 1 - 1 - 0 = k by omega, Nat.pow_mul]
    rw [e]
  · apply List.map_congr_left
    intro j hj
    simp only [Function.comp]
    rw [show k + 1 - 1 - (j + 1) = k - 1 - j by omega]

theorem digit_cut (d : Nat) (h : d < 16) : (⟨#[48, 49, 50, 51, 52, 53, 54, 55, 56, 57, 97, 98, 99, 100, 101, 102]⟩ : ByteArray).extract d (d + 1) = S [hexDig d] := by
  have : ∀ d : Fin 16, (⟨#[48, 49, 50, 51, 52, 53, 54, 55, 56, 57, 97, 98, 99, 100, 101, 102]⟩ : ByteArray).extract d.val (d.val + 1) = S [hexDig d.val] := by decide +kernel
  exact this ⟨d, h⟩
end Go.Proofs.YtklpbkjplecdpaaGreat.Oct

/-
  Plain facts on decimal digits, with no program: the digits of a number, a text as a number, there and back.
-/
namespace Go.Proofs.YtklpbkjplecdpaaGreat.Num
open Go.Proofs.YtklpbkjplecdpaaGreat.Oct

/-- The digits of u, the lowest first; none of 0. -/
def rest (u : Nat) : List Nat := if u = 0 then [] else (u % 10) :: rest (u / 10)
termination_by u
decreasing_by omega

/-- The digits of u, the lowest first; one of 0. -/
def lowL (u : Nat) : List Nat := (u % 10) :: rest (u / 10)
/-- A digit's octet. -/
def dig (d : Nat) : UInt8 := UInt8.ofNat (48 + d)
/-- The digits of u as a text. -/
def decL (u : Nat) : List UInt8 := (lowL u).reverse.map dig
/-- A number as a text. -/
def printL (n : Int) : List UInt8 := if n < 0 then 45 :: decL n.natAbs else decL n.natAbs

theorem rest_zero : rest 0 = [] := by rw [rest]; rfl
theorem rest_pos {u : Nat} (h : 0 < u) : rest u = (u % 10) :: rest (u / 10) := by rw [rest, if_neg (by omega)]
theorem rest_low {u : Nat} (h : 0 < u) : rest u = lowL u := rest_pos h
theorem rest_lt (u : Nat) : ∀ d ∈ rest u, d < 10 := by
  induction u using Nat.strongRecOn with
  | ind u ih =>
    intro d hd
    by_cases h : u = 0
    · rw [h, rest_zero] at hd; cases hd
    · rw [rest_pos (by omega)] at hd
      rcases List.mem_cons.1 hd with rfl | hd
      · omega
      · exact ih (u / 10) (by omega) d hd
theorem lowL_lt (u : Nat) : ∀ d ∈ lowL u, d < 10 := by
  intro d hd
  rcases List.mem_cons.1 hd with rfl | hd
  · omega
  · exact rest_lt _ d hd
theorem rest_len (k : Nat) : ∀ u, u < 10 ^ k → (rest u).length ≤ k := by
  induction k with
  | zero => intro u h; have : u = 0 := by simpa using h
            rw [this, rest_zero]; simp
  | succ k ih =>
    intro u h
    by_cases hz : u = 0
    · rw [hz, rest_zero]; simp
    · rw [rest_pos (by omega), List.length_cons]
      have := ih (u / 10) (by rw [Nat.pow_succ] at h; omega)
      omega
theorem lowL_len {u : Nat} (h : u < 10000000000000000000) : (lowL u).length ≤ 19 := by
  have := rest_len 18 (u / 10) (by omega)
  unfold lowL; rw [List.length_cons]; omega
theorem lowL_ne (u : Nat) : lowL u ≠ [] := by unfold lowL; simp

theorem decL_len (u : Nat) : (decL u).length = (lowL u).length := by simp [decL]
theorem decL_ne (u : Nat) : decL u ≠ [] := by
  intro h; have := decL_len u; rw [h] at this; exact lowL_ne u (List.eq_nil_of_length_eq_zero this.symm)
theorem decL_lt {u : Nat} (h : u < 10) : decL u = [dig u] := by
  have e : u / 10 = 0 := by omega
  have m : u % 10 = u := by omega
  simp [decL, lowL, e, m, rest_zero]
theorem decL_ge {u : Nat} (h : 10 ≤ u) : decL u = decL (u / 10) ++ [dig (u % 10)] := by
  unfold decL
  rw [show lowL u = (u % 10) :: lowL (u / 10) by unfold lowL; rw [rest_pos (u := u / 10) (by omega)]]
  simp
theorem decL_snoc {v d : Nat} (hv : 0 < v) (hd : d < 10) : decL (v * 10 + d) = decL v ++ [dig d] := by
  rw [decL_ge (by omega), show (v * 10 + d) / 10 = v by omega, show (v * 10 + d) % 10 = d by omega]

/-- What an octet counts as a digit. -/
def cnt (c : UInt8) : Nat := c.toNat - 48
def isDig (c : UInt8) : Bool := decide (48 ≤ c.toNat ∧ c.toNat ≤ 57)
def valD (l : List UInt8) : Nat := l.foldl (fun n c => n * 10 + cnt c) 0

theorem dig_toNat {d : Nat} (h : d < 10) : (dig d).toNat = 48 + d := by
  unfold dig; rw [UInt8.toNat_ofNat']; omega
theorem cnt_dig {d : Nat} (h : d < 10) : cnt (dig d) = d := by unfold cnt; rw [dig_toNat h]; omega
theorem isDig_dig {d : Nat} (h : d < 10) : isDig (dig d) = true := by unfold isDig; rw [dig_toNat h]; exact decide_eq_true (by omega)
theorem dig_cnt {c : UInt8} (h : isDig c = true) : dig (cnt c) = c := by
  have h' := of_decide_eq_true h
  apply UInt8.toNat_inj.1
  rw [dig_toNat (by unfold cnt; omega)]
  unfold cnt; omega
theorem cnt_lt {c : UInt8} (h : isDig c = true) : cnt c < 10 := by have h' := of_decide_eq_true h; unfold cnt; omega

theorem valD_snoc (l : List UInt8) (c : UInt8) : valD (l ++ [c]) = valD l * 10 + cnt c := by simp [valD]
theorem valD_lt (l : List UInt8) (h : ∀ c ∈ l, isDig c = true) : valD l < 10 ^ l.length := by
  have gen : ∀ (l : List UInt8) (a e : Nat), (∀ c ∈ l, isDig c = true) → a < 10 ^ e → l.foldl (fun n c => n * 10 + cnt c) a < 10 ^ (e + l.length) := by
    intro l
    induction l with
    | nil => intro a e _ h; simpa using h
    | cons c l ih =>
      intro a e hc h
      have h1 := cnt_lt (hc c (List.mem_cons_self ..))
      have := ih (a * 10 + cnt c) (e + 1) (fun d hd => hc d (List.mem_cons_of_mem _ hd)) (by rw [Nat.pow_succ]; omega)
      rw [List.foldl_cons, List.length_cons, show e + (l.length + 1) = e + 1 + l.length by omega]
      exact this
  have := gen l 0 0 h (by simp)
  simpa [valD] using this
theorem valD_take {l : List UInt8} (k : Nat) (h : ∀ c ∈ l, isDig c = true) (hk : k ≤ 18) : valD (l.take k) < 1000000000000000000 := by
  have h1 := valD_lt (l.take k) (fun c hc => h c (List.mem_of_mem_take hc))
  have h2 : 10 ^ (l.take k).length ≤ 10 ^ 18 := Nat.pow_le_pow_right (by omega) (by rw [List.length_take]; omega)
  omega
theorem valD_all {l : List UInt8} (h : ∀ c ∈ l, isDig c = true) (hl : l.length ≤ 19) : valD l < 10000000000000000000 := by
  have h1 := valD_lt l h
  have h2 : 10 ^ l.length ≤ 10 ^ 19 := Nat.pow_le_pow_right (by omega) hl
  omega

theorem decL_dig (u : Nat) : ∀ c ∈ decL u, isDig c = true := by
  intro c hc
  obtain ⟨d, hd, rfl⟩ := List.mem_map.1 hc
  exact isDig_dig (lowL_lt u d (List.mem_reverse.1 hd))
theorem valD_decL (u : Nat) : valD (decL u) = u := by
  induction u using Nat.strongRecOn with
  | ind u ih =>
    by_cases h : u < 10
    · rw [decL_lt h]; simp [valD, cnt_dig h]
    · rw [decL_ge (by omega), valD_snoc, ih _ (by omega), cnt_dig (by omega)]; omega
theorem decL_head (u : Nat) (h : 0 < u) : (decL u).head? ≠ some 48 := by
  induction u using Nat.strongRecOn with
  | ind u ih =>
    by_cases h1 : u < 10
    · rw [decL_lt h1, List.head?_cons]
      intro e
      have e1 := congrArg UInt8.toNat (Option.some.inj e)
      rw [dig_toNat h1] at e1
      have : (48 : UInt8).toNat = 48 := rfl
      omega
    · rw [decL_ge (by omega), List.head?_append]
      have := ih (u / 10) (by omega) (by omega)
      cases hh : (decL (u / 10)).head? with
      | none => exact absurd (List.head?_eq_none_iff.1 hh) (decL_ne _)
      | some c => rw [hh] at this; simpa using this

/-- A text of digits without a 0 ahead is that of its number. -/
theorem decL_valD (n : Nat) : ∀ t : List UInt8, t.length = n → t ≠ [] → (∀ c ∈ t, isDig c = true) → (t.head? = some 48 → t.length = 1) → decL (valD t) = t ∧ (t.head? ≠ some 48 → 0 < valD t) := by
  induction n with
  | zero => intro t hl hne; exact absurd (List.eq_nil_of_length_eq_zero hl) hne
  | succ n ih =>
    intro t hl hne hd hh
    obtain ⟨l, c, rfl⟩ : ∃ l c, t = l ++ [c] := ⟨_, _, (List.dropLast_concat_getLast hne).symm⟩
    have hc := hd c (by simp)
    by_cases hln : l = []
    · subst hln
      have e : valD ([] ++ [c]) = cnt c := by simp [valD]
      rw [e, decL_lt (cnt_lt hc), dig_cnt hc]
      refine ⟨rfl, fun h => ?_⟩
      by_cases h0 : cnt c = 0
      · exfalso; apply h
        rw [← dig_cnt hc, h0]; rfl
      · omega
    · have hll : l.length = n := by simp at hl; exact hl
      have hhd : (l ++ [c]).head? = l.head? := by
        cases l with
        | nil => exact absurd rfl hln
        | cons a l => rfl
      have hn0 : l.head? ≠ some 48 := by
        intro e
        have := hh (by rw [hhd]; exact e)
        rw [List.length_append, List.length_singleton] at this
        exact hln (List.eq_nil_of_length_eq_zero (by omega))
      obtain ⟨h1, h2⟩ := ih l hll hln (fun d hdl => hd d (by simp [hdl])) (fun e => absurd e hn0)
      have hv := h2 hn0
      rw [valD_snoc, decL_snoc hv (cnt_lt hc), h1, dig_cnt hc]
      exact ⟨rfl, fun _ => by omega⟩

/-- Digits alone. -/
def allDig (l : List UInt8) : Bool := l.all isDig
theorem allDig_of {l : List UInt8} (h : ∀ c ∈ l, isDig c = true) : allDig l = true := List.all_eq_true.2 h
theorem allDig_mem {l : List UInt8} (h : allDig l = true) : ∀ c ∈ l, isDig c = true := List.all_eq_true.1 h
theorem allDig_no {l : List UInt8} {c : UInt8} (hc : c ∈ l) (h : isDig c = false) : allDig l = false := List.all_eq_false.2 ⟨c, hc, by rw [h]; simp⟩

/-- The number of that size, below 0 or not, and the error's. -/
def signedL (u : Nat) (below : Bool) : Int × Nat :=
  if below then (if u ≤ 9223372036854775808 then (-(u : Int), 0) else (0, 4)) else (if u ≤ 9223372036854775807 then ((u : Int), 0) else (0, 4))
/-- What comes of the digits t, - ahead or not. -/
def parseT (below : Bool) (t : List UInt8) : Int × Nat :=
  if t = [] then (0, 8) else if allDig t = false then (0, 33) else if t.head? = some 48 ∧ (below = true ∨ 1 < t.length) then (0, 33) else if 19 < t.length then (0, 4) else signedL (valD t) below
def parseL (l : List UInt8) : Int × Nat := if l.head? = some 45 then parseT true l.tail else parseT false l

theorem head_dig {t : List UInt8} (hd : ∀ c ∈ t, isDig c = true) : t.head? ≠ some 45 := by
  intro h
  cases t with
  | nil => cases h
  | cons a t =>
    have ha := hd a (by simp)
    rw [Option.some.inj h] at ha
    exact absurd ha (by decide)

theorem parse_print (n : Int) (h0 : -9223372036854775808 ≤ n) (h1 : n ≤ 9223372036854775807) : parseL (printL n) = (n, 0) := by
  have hall : ∀ u, allDig (decL u) = true := fun u => allDig_of (decL_dig u)
  have hlen : ∀ u, u < 10000000000000000000 → ¬ 19 < (decL u).length := fun u h => by rw [decL_len]; have := lowL_len h; omega
  unfold parseL printL
  by_cases hn : n < 0
  · rw [if_pos hn, if_pos (by rfl), List.tail_cons]
    unfold parseT
    rw [if_neg (decL_ne _), if_neg (by rw [hall]; simp), if_neg (fun h => decL_head _ (by omega) h.1), if_neg (hlen _ (by omega)), valD_decL]
    unfold signedL
    rw [if_pos rfl, if_pos (by omega)]
    congr 1; omega
  · rw [if_neg hn, if_neg (head_dig (decL_dig _))]
    unfold parseT
    rw [if_neg (decL_ne _), if_neg (by rw [hall]; simp)]
    rw [if_neg (by
      intro ⟨h48, h⟩
      by_cases hz : n.natAbs = 0
      · rw [hz, decL_lt (by omega)] at h; simp at h
      · exact decL_head _ (by omega) h48), if_neg (hlen _ (by omega)), valD_decL]
    unfold signedL
    rw [if_neg (by simp), if_pos (by omega)]
    congr 1; omega

theorem print_parse (l : List UInt8) (k : Int) (h : parseL l = (k, 0)) : printL k = l := by
  have gen : ∀ (below : Bool) (t : List UInt8), parseT below t = (k, 0) → printL k = (if below then 45 :: t else t) := by
    intro below t h
    unfold parseT at h
    by_cases c1 : t = []
    · rw [if_pos c1] at h; simp at h
    rw [if_neg c1] at h
    by_cases c2 : allDig t = false
    · rw [if_pos c2] at h; simp at h
    rw [if_neg c2] at h
    by_cases c3 : t.head? = some 48 ∧ (below = true ∨ 1 < t.length)
    · rw [if_pos c3] at h; simp at h
    rw [if_neg c3] at h
    by_cases c4 : 19 < t.length
    · rw [if_pos c4] at h; simp at h
    rw [if_neg c4] at h
    have hd : ∀ c ∈ t, isDig c = true := allDig_mem (by simpa using c2)
    have hlen1 : 0 < t.length := List.length_pos_iff.2 c1
    have hone : t.head? = some 48 → t.length = 1 := fun e => by
      by_cases hq : 1 < t.length
      · exact absurd ⟨e, .inr hq⟩ c3
      · omega
    obtain ⟨hb, hp⟩ := decL_valD t.length t rfl c1 hd hone
    unfold signedL at h
    cases below with
    | true =>
      have hv := hp (fun e => c3 ⟨e, .inl rfl⟩)
      rw [if_pos rfl] at h
      by_cases c5 : valD t ≤ 9223372036854775808
      · rw [if_pos c5] at h
        have hk : k = -(valD t : Int) := (Prod.mk.inj h).1.symm
        unfold printL
        rw [if_pos (by omega), show k.natAbs = valD t by omega, hb]
        rfl
      · rw [if_neg c5] at h; simp at h
    | false =>
      rw [if_neg (by simp)] at h
      by_cases c5 : valD t ≤ 9223372036854775807
      · rw [if_pos c5] at h
        have hk : k = (valD t : Int) := (Prod.mk.inj h).1.symm
        unfold printL
        rw [if_neg (by omega), show k.natAbs = valD t by omega, hb]
        rfl
      · rw [if_neg c5] at h; simp at h
  unfold parseL at h
  by_cases c : l.head? = some 45
  · rw [if_pos c] at h
    have := gen true l.tail h
    rw [this, if_pos rfl]
    cases l with
    | nil => cases c
    | cons a l => rw [Option.some.inj c]; rfl
  · rw [if_neg c] at h
    exact gen false l h
end Go.Proofs.YtklpbkjplecdpaaGreat.Num
