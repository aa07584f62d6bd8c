/-
  Part 1: OctPure, TabPure, ScnState, HexPure, NumPure, UtfPure, CrfPure.
-/
import Derived.WalkKit
import Derived.Lib.DecodeN
import Derived.Lib.RuneBytes
import Derived.Shelf.Unicode.DecodeSlow
/-
  Plain facts on octets and lists of octets, with no program: what a blank, a letter, a digit is; small and great letters; the first place of a property; digits of base 16.
-/
namespace Go.Proofs.YtklpbkjplecdpaaGreat.Oct
open Go.RowKit

abbrev S (l : List UInt8) : ByteArray := ⟨l.toArray⟩

theorem S_list (s : ByteArray) : S s.data.toList = s := by cases s; simp [S]
theorem list_S (l : List UInt8) : (S l).data.toList = l := by simp
theorem size_S (l : List UInt8) : (S l).size = l.length := by simp [ByteArray.size]
theorem S_append (a b : List UInt8) : S a ++ S b = S (a ++ b) := by simp [S, ByteArray.mk_append_mk]
theorem size_list (s : ByteArray) : s.data.toList.length = s.size := by rw [Array.length_toList]; rfl

def blankI (n : Int) : Bool := decide (n = 9 ∨ n = 10 ∨ n = 12 ∨ n = 13 ∨ n = 32)
def smallI (n : Int) : Bool := decide (97 ≤ n ∧ n ≤ 122)
def letterI (n : Int) : Bool := decide ((97 ≤ n ∧ n ≤ 122) ∨ (65 ≤ n ∧ n ≤ 90))
def digitI (n : Int) : Bool := decide (48 ≤ n ∧ n ≤ 57)
def nameI (n : Int) : Bool := decide ((97 ≤ n ∧ n ≤ 122) ∨ (65 ≤ n ∧ n ≤ 90) ∨ (48 ≤ n ∧ n ≤ 57) ∨ n = 95)
def lowI (n : Int) : Int := if 65 ≤ n ∧ n ≤ 90 then n + 32 else n
def hexI (n : Int) : Int := if 48 ≤ n ∧ n ≤ 57 then n - 48 else if 97 ≤ n ∧ n ≤ 102 then n - 87 else if 65 ≤ n ∧ n ≤ 70 then n - 55 else -1

theorem ret_bool {a b : Bool} (h : a = b) : Ending.returned (.bool a) = .returned (.bool b) := by rw [h]
theorem ret_int {k : IntKind} {a b : Int} (h : a = b) : Ending.returned (.int k a) = .returned (.int k b) := by rw [h]

theorem hexI_range (n : Int) : -1 ≤ hexI n ∧ hexI n ≤ 15 := by
  unfold hexI
  repeat' split
  all_goals omega

def low (c : UInt8) : UInt8 := if 65 ≤ c ∧ c ≤ 90 then c + 32 else c

theorem low_all : ∀ k : Fin 256, (((low (UInt8.ofNat k.val)).toNat : Nat) : Int) = lowI ((UInt8.ofNat k.val).toNat : Int) := by decide +kernel
theorem low_toNat (c : UInt8) : ((low c).toNat : Int) = lowI (c.toNat : Int) := by
  have := low_all ⟨c.toNat, c.toNat_lt⟩
  simpa using this

def at' (s : ByteArray) (k : Nat) : UInt8 := s.data.toList.getD k 0
theorem at_eq (s : ByteArray) (k : Nat) (h : k < s.size) : s[k] = at' s k := by
  have h' : k < s.data.toList.length := by rw [size_list]; exact h
  unfold at'
  rw [List.getD_eq_getElem?_getD, List.getElem?_eq_getElem h', Option.getD_some, Array.getElem_toList]
  rfl
theorem map_at (s : ByteArray) (f : UInt8 → UInt8) : (List.range s.size).map (fun k => f (at' s k)) = s.data.toList.map f := by
  apply List.ext_getElem
  · simp
  · intro i h1 h2
    have h : i < s.data.toList.length := by simpa using h2
    simp only [List.getElem_map, List.getElem_range]
    unfold at'
    rw [List.getD_eq_getElem?_getD, List.getElem?_eq_getElem h, Option.getD_some]

theorem all_at (s : ByteArray) (q : UInt8 → Bool) : (List.range s.size).all (fun k => q (at' s k)) = s.data.toList.all q := by
  have h := map_at s (fun c => if q c then 1 else 0)
  have e : ∀ l : List UInt8, (l.map (fun c => if q c then (1 : UInt8) else 0)).all (· == 1) = l.all q := by
    intro l
    induction l with
    | nil => rfl
    | cons c l ih =>
      simp only [List.map_cons, List.all_cons, ih]
      cases q c <;> simp
  rw [← e, ← h, List.all_map]
  congr 1
  funext k
  simp only [Function.comp]
  cases q (at' s k) <;> simp

end Go.Proofs.YtklpbkjplecdpaaGreat.Oct

/-
  Plain facts on the tables of elements and attributes, with no program.
-/
namespace Go.Proofs.YtklpbkjplecdpaaGreat.Tab
open Oct

abbrev elsL : List (List UInt8) := [[116, 105, 116, 108, 101], [116, 101, 120, 116, 97, 114, 101, 97], [115, 116, 121, 108, 101], [115, 99, 114, 105, 112, 116], [112, 108, 97, 105, 110, 116, 101, 120, 116], [120, 109, 112], [105, 102, 114, 97, 109, 101], [110, 111, 101, 109, 98, 101, 100], [110, 111, 102, 114, 97, 109, 101, 115], [110, 111, 115, 99, 114, 105, 112, 116]]
abbrev urlsL : List (List UInt8) := [[104, 114, 101, 102], [115, 114, 99], [97, 99, 116, 105, 111, 110], [102, 111, 114, 109, 97, 99, 116, 105, 111, 110], [99, 105, 116, 101], [112, 111, 115, 116, 101, 114], [98, 97, 99, 107, 103, 114, 111, 117, 110, 100], [108, 111, 110, 103, 100, 101, 115, 99], [109, 97, 110, 105, 102, 101, 115, 116], [105, 99, 111, 110]]
abbrev nosL : List (List UInt8) := [[115, 114, 99, 100, 111, 99], [115, 114, 99, 115, 101, 116], [104, 116, 116, 112, 45, 101, 113, 117, 105, 118], [112, 105, 110, 103]]
abbrev dataL : List UInt8 := [100, 97, 116, 97]
abbrev objectL : List UInt8 := [111, 98, 106, 101, 99, 116]
abbrev onL : List UInt8 := [111, 110]
abbrev styleL : List UInt8 := [115, 116, 121, 108, 101]
abbrev xmlnsL : List UInt8 := [120, 109, 108, 110, 115]
def codeN (i : Nat) : Nat := if i < 2 then 1 else if i < 4 then i else 4
def placeL (s : List UInt8) : List (List UInt8) → Option Nat
  | [] => none
  | x :: r => if x = s then some 0 else (placeL s r).map (· + 1)
def elemN (s : List UInt8) : Nat := match placeL s elsL with
  | some i => codeN i
  | none => 0
def inL (l : List (List UInt8)) (s : List UInt8) : Bool := decide (s ∈ l)
def preL (p s : List UInt8) : Bool := decide (p <+: s)
def attrN (elem attr : List UInt8) : Nat :=
  if inL urlsL attr = true ∨ (attr = dataL ∧ elem = objectL) then 1 else if preL onL attr = true then 2 else if attr = styleL then 3
  else if attr = [] ∨ inL nosL attr = true ∨ preL xmlnsL attr = true then 4 else 0

theorem place_none {s : List UInt8} : ∀ {l : List (List UInt8)}, (∀ k, (h : k < l.length) → l[k] ≠ s) → placeL s l = none
  | [], _ => rfl
  | x :: r, h => by
    unfold placeL
    rw [if_neg (show x ≠ s from h 0 (by simp)), place_none (fun k hk => by have := h (k + 1) (by simp; omega); simpa using this)]
    rfl
theorem place_some {s : List UInt8} : ∀ {l : List (List UInt8)} {k : Nat} (hk : k < l.length), (∀ j, (h : j < l.length) → j < k → l[j] ≠ s) → l[k] = s → placeL s l = some k
  | [], k, hk, _, _ => absurd hk (by simp)
  | x :: r, 0, _, _, he => by
    unfold placeL
    rw [if_pos (show x = s from he)]
  | x :: r, k + 1, hk, hn, he => by
    unfold placeL
    rw [if_neg (show x ≠ s from hn 0 (by simp) (by omega)), place_some (k := k) (by simpa using hk) (fun j h hj => by have := hn (j + 1) (by simp; omega) (by omega); simpa using this) (by simpa using he)]
    rfl
end Go.Proofs.YtklpbkjplecdpaaGreat.Tab

/-
  A place in HTML as a plain state, with no program: its language, whether it may be.
-/
namespace Go.Proofs.YtklpbkjplecdpaaGreat.Scn
open Oct Tab

structure Sc where
  k : Nat
  e : List UInt8
  a : List UInt8
  d : UInt8
  p : List UInt8
  r : List UInt8
  n : Int
  w : List UInt8
deriving DecidableEq
abbrev sc0 : Sc := ⟨0, [], [], 0, [], [], 0, []⟩
abbrev scK (k : Nat) (e : List UInt8) : Sc := ⟨k, e, [], 0, [], [], 0, []⟩

def endE (e : List UInt8) : Bool := e.head? == some 47
def attK (s : Sc) : Nat := if (s.k < 8 ∨ 10 < s.k) ∨ endE s.e = true then 0 else attrN s.e s.a
def langN (s : Sc) : Nat := if s.k = 18 then 3 else if s.k = 19 then 2 else if s.k = 9 ∨ s.k = 10 then (if attK s < 4 then attK s else 0) else 0
def elemK (k : Nat) : Bool := decide ((3 ≤ k ∧ k ≤ 12) ∨ 17 ≤ k)
def attrK (k : Nat) : Bool := decide (6 ≤ k ∧ k ≤ 10)
def refK (k : Nat) : Bool := decide (k = 0 ∨ k = 9 ∨ k = 10 ∨ k = 17)
def checkS (s : Sc) : Nat :=
  if 19 < s.k then 4
  else if 33 < s.e.length ∨ 32 < s.a.length ∨ 34 < s.p.length ∨ 16 < s.r.length ∨ 16 < s.w.length then 9
  else if s.n < 0 ∨ 15 < s.n then 9
  else if (elemK s.k = false ∧ s.e ≠ []) ∨ (attrK s.k = false ∧ s.a ≠ []) ∨ (s.k < 16 ∧ s.p ≠ []) ∨ (refK s.k = false ∧ s.r ≠ []) then 9
  else if (s.k = 9 ∧ s.d ≠ 34 ∧ s.d ≠ 39) ∨ (s.k ≠ 9 ∧ s.d ≠ 0) then 9
  else if langN s = 0 ∧ (s.n ≠ 0 ∨ s.w ≠ []) then 9
  else 0
end Go.Proofs.YtklpbkjplecdpaaGreat.Scn

/-
  Plain facts on digits of base 16, with no program.
-/
namespace Go.Proofs.YtklpbkjplecdpaaGreat.Oct
open Go.RowKit

def hexDig (d : Nat) : UInt8 := at' ⟨#[48, 49, 50, 51, 52, 53, 54, 55, 56, 57, 97, 98, 99, 100, 101, 102]⟩ d
def hexL (u size : Nat) : List UInt8 := (List.range size).map fun k => hexDig (u / 2 ^ (4 * (size - 1 - k)) % 16)

end Go.Proofs.YtklpbkjplecdpaaGreat.Oct

/-
  Plain facts on decimal digits, with no program: the digits of a number, a text as a number, there and back.
-/
namespace Go.Proofs.YtklpbkjplecdpaaGreat.Num
open Oct

def rest (u : Nat) : List Nat := if u = 0 then [] else (u % 10) :: rest (u / 10)
termination_by u
decreasing_by omega

def lowL (u : Nat) : List Nat := (u % 10) :: rest (u / 10)
def dig (d : Nat) : UInt8 := UInt8.ofNat (48 + d)
def decL (u : Nat) : List UInt8 := (lowL u).reverse.map dig
def printL (n : Int) : List UInt8 := if n < 0 then 45 :: decL n.natAbs else decL n.natAbs

end Go.Proofs.YtklpbkjplecdpaaGreat.Num

/-
  Plain facts on characters and their octets, with no program: what a text begins with, its parts, its characters, the text repaired, whether it is valid.
-/
namespace Go.Proofs.YtklpbkjplecdpaaGreat.Utf
open Go.Lib

def isChar (c : Int) : Prop := (0 ≤ c ∧ c < 55296) ∨ (57343 < c ∧ c ≤ 1114111)
instance (c : Int) : Decidable (isChar c) := by unfold isChar; infer_instance

def oct (l : List UInt8) (k : Nat) : Nat := (l.getD k 0).toNat

def dec (l : List UInt8) : Int × Nat :=
  if l = [] then (-1, 0)
  else if (decodeN l.length (oct l 0) (oct l 1) (oct l 2) (oct l 3)).1 = 65533 ∧ (decodeN l.length (oct l 0) (oct l 1) (oct l 2) (oct l 3)).2 ≤ 1 then (-1, 1)
  else (((decodeN l.length (oct l 0) (oct l 1) (oct l 2) (oct l 3)).1 : Int), (decodeN l.length (oct l 0) (oct l 1) (oct l 2) (oct l 3)).2)

def encN (n : Nat) : List Nat :=
  if n < 128 then [n] else if n < 2048 then [192 + n / 64, 128 + n % 64] else if n < 65536 then [224 + n / 4096, 128 + n / 64 % 64, 128 + n % 64]
  else [240 + n / 262144, 128 + n / 4096 % 64, 128 + n / 64 % 64, 128 + n % 64]

theorem enc_eq (n : Nat) (h : isChar n) : encodeRune n = (encN n).map Nat.toUInt8 := by
  unfold isChar at h
  unfold encodeRune encN
  by_cases h1 : n < 128
  · rw [if_pos h1, encodeRuneZ_one (by omega) (by omega)]; simp
  · rw [if_neg h1]
    by_cases h2 : n < 2048
    · rw [if_pos h2, encodeRuneZ_two (by omega) (by omega)]
      simp only [List.map_cons, List.map_nil]
      rw [show (192 + (n : Int) / 64).toNat = 192 + n / 64 by omega, show (128 + (n : Int) % 64).toNat = 128 + n % 64 by omega]
    · rw [if_neg h2]
      by_cases h3 : n < 65536
      · rw [if_pos h3, encodeRuneZ_three (by omega)]
        simp only [List.map_cons, List.map_nil]
        rw [show (224 + (n : Int) / 4096).toNat = 224 + n / 4096 by omega, show (128 + (n : Int) / 64 % 64).toNat = 128 + n / 64 % 64 by omega, show (128 + (n : Int) % 64).toNat = 128 + n % 64 by omega]
      · rw [if_neg h3, encodeRuneZ_four (by omega) (by omega)]
        simp only [List.map_cons, List.map_nil]
        rw [show (240 + (n : Int) / 262144).toNat = 240 + n / 262144 by omega, show (128 + (n : Int) / 4096 % 64).toNat = 128 + n / 4096 % 64 by omega, show (128 + (n : Int) / 64 % 64).toNat = 128 + n / 64 % 64 by omega, show (128 + (n : Int) % 64).toNat = 128 + n % 64 by omega]

theorem u8 (n : Nat) (h : n < 256) : n.toUInt8.toNat = n := by simp; omega

theorem decodeN_enc (n : Nat) (h : isChar n) (t : List UInt8) :
    decodeN (encodeRune n ++ t).length (oct (encodeRune n ++ t) 0) (oct (encodeRune n ++ t) 1) (oct (encodeRune n ++ t) 2) (oct (encodeRune n ++ t) 3) = (n, (encodeRune n).length) := by
  rw [enc_eq n h]
  unfold isChar at h
  unfold encN oct
  by_cases h1 : n < 128
  · rw [if_pos h1]
    simp only [List.map_cons, List.map_nil, List.cons_append, List.nil_append, List.length_cons, List.getD_cons_zero, List.length_nil]
    rw [u8 n (by omega)]
    simp [decodeN, h1]
  · rw [if_neg h1]
    by_cases h2 : n < 2048
    · rw [if_pos h2]
      simp only [List.map_cons, List.map_nil, List.cons_append, List.nil_append, List.length_cons, List.getD_cons_zero, List.getD_cons_succ, List.length_nil]
      rw [u8 (192 + n / 64) (by omega), u8 (128 + n % 64) (by omega)]
      unfold decodeN
      rw [if_neg (by omega), if_pos (by omega), if_pos (by omega)]
      exact Prod.ext (by show _ = n; omega) rfl
    · rw [if_neg h2]
      by_cases h3 : n < 65536
      · rw [if_pos h3]
        simp only [List.map_cons, List.map_nil, List.cons_append, List.nil_append, List.length_cons, List.getD_cons_zero, List.getD_cons_succ, List.length_nil]
        rw [u8 (224 + n / 4096) (by omega), u8 (128 + n / 64 % 64) (by omega), u8 (128 + n % 64) (by omega)]
        unfold decodeN
        have e : (224 + n / 4096) % 16 * 4096 + (128 + n / 64 % 64) % 64 * 64 + (128 + n % 64) % 64 = n := by omega
        rw [if_neg (by omega), if_neg (by omega), if_pos (by omega), e, if_pos (by omega)]
      · rw [if_neg h3]
        simp only [List.map_cons, List.map_nil, List.cons_append, List.nil_append, List.length_cons, List.getD_cons_zero, List.getD_cons_succ, List.length_nil]
        rw [u8 (240 + n / 262144) (by omega), u8 (128 + n / 4096 % 64) (by omega), u8 (128 + n / 64 % 64) (by omega), u8 (128 + n % 64) (by omega)]
        unfold decodeN
        have e : (240 + n / 262144) % 8 * 262144 + (128 + n / 4096 % 64) % 64 * 4096 + (128 + n / 64 % 64) % 64 * 64 + (128 + n % 64) % 64 = n := by omega
        rw [if_neg (by omega), if_neg (by omega), if_neg (by omega), if_pos (by omega), e, if_pos (by omega)]

theorem enc_len (c : Int) : 1 ≤ (encodeRune c).length ∧ (encodeRune c).length ≤ 4 := by
  have := encodeRuneZ_length c
  simpa [encodeRune] using this
theorem enc_ne (c : Int) : encodeRune c ≠ [] := by
  intro h; have := enc_len c; rw [h] at this; simp at this

theorem isChar_nat {c : Int} (h : isChar c) : ∃ n : Nat, c = n ∧ isChar (n : Int) := by
  have h0 : 0 ≤ c := by unfold isChar at h; omega
  obtain ⟨n, rfl⟩ := Int.eq_ofNat_of_zero_le h0
  exact ⟨n, rfl, h⟩

theorem dec_enc (c : Int) (h : isChar c) (t : List UInt8) : dec (encodeRune c ++ t) = (c, (encodeRune c).length) := by
  obtain ⟨n, rfl, hn⟩ := isChar_nat h
  have hl := enc_len n
  unfold dec
  rw [if_neg (by simp [enc_ne]), decodeN_enc n hn t]
  rw [if_neg]
  rintro ⟨h1, h2⟩
  have e : n = 65533 := h1
  subst e
  have : (encodeRune ((65533 : Nat) : Int)).length = 3 := by decide +kernel
  have h2' : (encodeRune ((65533 : Nat) : Int)).length ≤ 1 := h2
  omega

set_option maxRecDepth 100000 in
set_option maxHeartbeats 2000000 in
theorem decodeN_cases (n b0 b1 b2 b3 : Nat) (h0 : b0 < 256) (h1 : b1 < 256) (h2 : b2 < 256) (_ : b3 < 256) :
    decodeN n b0 b1 b2 b3 = (65533, 1) ∨
    (∃ c : Nat, isChar c ∧ ((decodeN n b0 b1 b2 b3 = (c, 1) ∧ encN c = [b0]) ∨ (decodeN n b0 b1 b2 b3 = (c, 2) ∧ 1 < n ∧ encN c = [b0, b1]) ∨ (decodeN n b0 b1 b2 b3 = (c, 3) ∧ 2 < n ∧ encN c = [b0, b1, b2]) ∨
      (decodeN n b0 b1 b2 b3 = (c, 4) ∧ 3 < n ∧ encN c = [b0, b1, b2, b3]))) := by
  unfold decodeN isChar
  split
  · right
    refine ⟨b0, by omega, .inl ⟨rfl, ?_⟩⟩
    unfold encN; rw [if_pos (by omega)]
  · split
    · split
      · right
        refine ⟨_, ?_, .inr (.inl ⟨rfl, by omega, ?_⟩)⟩
        · omega
        · unfold encN; rw [if_neg (by omega), if_pos (by omega)]
          congr 1
          · omega
          · congr 1; omega
      · left; rfl
    · split
      · split
        · right
          refine ⟨_, ?_, .inr (.inr (.inl ⟨rfl, by omega, ?_⟩))⟩
          · omega
          · unfold encN; rw [if_neg (by omega), if_neg (by omega), if_pos (by omega)]
            congr 1
            · omega
            · congr 1
              · omega
              · congr 1; omega
        · left; rfl
      · split
        · split
          · right
            refine ⟨_, ?_, .inr (.inr (.inr ⟨rfl, by omega, ?_⟩))⟩
            · omega
            · unfold encN; rw [if_neg (by omega), if_neg (by omega), if_neg (by omega)]
              congr 1
              · omega
              · congr 1
                · omega
                · congr 1
                  · omega
                  · congr 1; omega
          · left; rfl
        · left; rfl

theorem oct_lt (l : List UInt8) (k : Nat) : oct l k < 256 := (l.getD k 0).toNat_lt

theorem dec_cases (l : List UInt8) (hl : l ≠ []) : dec l = (-1, 1) ∨ ∃ c t, isChar c ∧ l = encodeRune c ++ t := by
  rcases decodeN_cases l.length (oct l 0) (oct l 1) (oct l 2) (oct l 3) (oct_lt _ _) (oct_lt _ _) (oct_lt _ _) (oct_lt _ _) with h | ⟨c, hc, h⟩
  · left
    unfold dec
    rw [if_neg hl, h, if_pos ⟨rfl, Nat.le_refl _⟩]
  · right
    refine ⟨(c : Int), ?_⟩
    rw [enc_eq c hc]
    rcases h with ⟨_, he⟩ | ⟨_, hn, he⟩ | ⟨_, hn, he⟩ | ⟨_, hn, he⟩
    · rw [he]
      match l, hl with
      | x :: t, _ => exact ⟨t, hc, by simp [oct]⟩
    · rw [he]
      match l, hn with
      | x :: y :: t, _ => exact ⟨t, hc, by simp [oct]⟩
    · rw [he]
      match l, hn with
      | x :: y :: z :: t, _ => exact ⟨t, hc, by simp [oct]⟩
    · rw [he]
      match l, hn with
      | x :: y :: z :: u :: t, _ => exact ⟨t, hc, by simp [oct]⟩

theorem dec_nil : dec [] = (-1, 0) := rfl

theorem dec_width (l : List UInt8) (hl : l ≠ []) : 1 ≤ (dec l).2 ∧ (dec l).2 ≤ 4 ∧ (dec l).2 ≤ l.length := by
  have hp : 0 < l.length := List.length_pos_iff.2 hl
  rcases dec_cases l hl with h | ⟨c, t, hc, rfl⟩
  · rw [h]; simp; omega
  · rw [dec_enc c hc t]
    have := enc_len c
    simp
    omega

theorem dec_char (l : List UInt8) (hl : l ≠ []) : (dec l).1 = -1 ∨ isChar (dec l).1 := by
  rcases dec_cases l hl with h | ⟨c, t, hc, rfl⟩
  · rw [h]; exact .inl rfl
  · rw [dec_enc c hc t]; exact .inr hc

def partsF : Nat → List UInt8 → List Int
  | 0, _ => []
  | n + 1, l => if l = [] then [] else (dec l).1 :: partsF n (l.drop (dec l).2)
def parts (l : List UInt8) : List Int := partsF l.length l

theorem partsF_nil (n : Nat) : partsF n [] = [] := by cases n <;> simp [partsF]
theorem partsF_fuel : ∀ (n m : Nat) (l : List UInt8), l.length ≤ n → l.length ≤ m → partsF n l = partsF m l
  | 0, m, l, hn, _ => by
    have : l = [] := List.eq_nil_of_length_eq_zero (by omega)
    subst this; rw [partsF_nil, partsF_nil]
  | n + 1, 0, l, _, hm => by
    have : l = [] := List.eq_nil_of_length_eq_zero (by omega)
    subst this; rw [partsF_nil, partsF_nil]
  | n + 1, m + 1, l, hn, hm => by
    unfold partsF
    by_cases hne : l = []
    · simp [hne]
    · have hw := dec_width l hne
      rw [if_neg hne, if_neg hne, partsF_fuel n m (l.drop (dec l).2) (by rw [List.length_drop]; omega) (by rw [List.length_drop]; omega)]
theorem parts_nil : parts [] = [] := rfl
theorem parts_step (l : List UInt8) (hl : l ≠ []) : parts l = (dec l).1 :: parts (l.drop (dec l).2) := by
  have hp : 0 < l.length := List.length_pos_iff.2 hl
  have hw := dec_width l hl
  obtain ⟨n, hn⟩ : ∃ n, l.length = n + 1 := ⟨l.length - 1, by omega⟩
  unfold parts
  rw [hn]
  show (if l = [] then [] else _) = _
  rw [if_neg hl, partsF_fuel n (l.drop (dec l).2).length _ (by rw [List.length_drop]; omega) (Nat.le_refl _)]

theorem parts_enc1 (c : Int) (hc : isChar c) (t : List UInt8) : parts (encodeRune c ++ t) = c :: parts t := by
  rw [parts_step _ (by simp [enc_ne]), dec_enc c hc t]
  simp

theorem parts_ind {P : List UInt8 → Prop} (h0 : P []) (hbad : ∀ x t, dec (x :: t) = (-1, 1) → P t → P (x :: t)) (hc : ∀ c t, isChar c → P t → P (encodeRune c ++ t)) : ∀ l, P l := by
  intro l
  generalize hn : l.length = n
  induction n using Nat.strongRecOn generalizing l with
  | _ n ih =>
    by_cases hl : l = []
    · subst hl; exact h0
    · rcases dec_cases l hl with h | ⟨c, t, hch, rfl⟩
      · match l, hl with
        | x :: t, _ => exact hbad x t h (ih t.length (by rw [← hn]; simp) t rfl)
      · exact hc c t hch (ih t.length (by have := enc_len c; rw [← hn]; simp; omega) t rfl)

theorem parts_bad (x : UInt8) (t : List UInt8) (h : dec (x :: t) = (-1, 1)) : parts (x :: t) = -1 :: parts t := by
  rw [parts_step _ (by simp), h]; simp

def fix (c : Int) : Int := if c = -1 ∨ c = 0 then 65533 else c
def chars (l : List UInt8) : List Int := (parts l).map fix
def encs (cs : List Int) : List UInt8 := cs.flatMap encodeRune
def rep (l : List UInt8) : List UInt8 := encs (chars l)

theorem parts_char (l : List UInt8) : ∀ c ∈ parts l, c = -1 ∨ isChar c := by
  induction l using parts_ind with
  | h0 => simp [parts_nil]
  | hbad x t h ih => rw [parts_bad x t h]; simp; exact ih
  | hc c t h ih =>
    rw [parts_enc1 c h t]
    intro d hd
    rcases List.mem_cons.1 hd with rfl | hd
    · exact .inr h
    · exact ih d hd

theorem fix_char {c : Int} (h : c = -1 ∨ isChar c) : isChar (fix c) ∧ fix c ≠ 0 := by
  unfold fix
  split
  · exact ⟨by decide, by omega⟩
  · rcases h with h | h
    · omega
    · exact ⟨h, by omega⟩

theorem chars_char (l : List UInt8) : ∀ c ∈ chars l, isChar c ∧ c ≠ 0 := by
  intro c hc
  obtain ⟨d, hd, rfl⟩ := List.mem_map.1 hc
  exact fix_char (parts_char l d hd)

theorem parts_len (l : List UInt8) : (parts l).length ≤ l.length := by
  induction l using parts_ind with
  | h0 => simp [parts_nil]
  | hbad x t h ih => rw [parts_bad x t h]; simp; exact ih
  | hc c t h ih =>
    have := enc_len c
    rw [parts_enc1 c h t]; simp; omega
theorem chars_len (l : List UInt8) : (chars l).length ≤ l.length := by unfold chars; rw [List.length_map]; exact parts_len l

theorem encs_len (cs : List Int) : (encs cs).length ≤ 4 * cs.length := by
  induction cs with
  | nil => simp [encs]
  | cons c r ih =>
    have := enc_len c
    unfold encs at ih ⊢
    rw [List.flatMap_cons, List.length_append, List.length_cons]; omega
theorem encs_snoc (cs : List Int) (c : Int) : encs (cs ++ [c]) = encs cs ++ encodeRune c := by simp [encs]


def charB (c : Int) : Bool := decide (isChar c)

theorem cut_list (s : ByteArray) (a : Nat) : (s.extract a s.size).data.toList = s.data.toList.drop a := by
  rw [Lib.extract_data, List.take_of_length_le (by rw [List.length_drop, Oct.size_list]; exact Nat.le_refl _)]
end Go.Proofs.YtklpbkjplecdpaaGreat.Utf

/-
  Plain facts on character references, with no program: what one stands for, a text escaped, a text decoded, a beginning of one.
-/
namespace Go.Proofs.YtklpbkjplecdpaaGreat.Crf
open Oct Num Utf
open Go.Lib (encodeRune)

def hx (c : UInt8) : Int := hexI (c.toNat : Int)
def digB (base : Int) (c : UInt8) : Bool := decide (0 ≤ hx c ∧ hx c < base)
def valB (base : Nat) (l : List UInt8) : Nat := l.foldl (fun n c => n * base + (hx c).toNat) 0
def isHex (t : List UInt8) : Bool := decide (t.head? = some 120 ∨ t.head? = some 88)
def baseOf (t : List UInt8) : Nat := if isHex t then 16 else 10
def digsOf (t : List UInt8) : List UInt8 := if isHex t then t.tail else t
def numR (l : List UInt8) : Option (Nat × Nat) :=
  if l.head? = some 35 ∧ (digsOf l.tail).length ≤ 7 ∧ (digsOf l.tail).all (digB (baseOf l.tail)) = true then some (valB (baseOf l.tail) (digsOf l.tail), (digsOf l.tail).length) else none
def standL (n : Nat) : List UInt8 := if isChar (n : Int) ∧ n ≠ 0 then encodeRune (n : Int) else [239, 191, 189]
abbrev amp : List UInt8 := [97, 109, 112]
abbrev lt' : List UInt8 := [108, 116]
abbrev gt' : List UInt8 := [103, 116]
abbrev quot : List UInt8 := [113, 117, 111, 116]
abbrev apos : List UInt8 := [97, 112, 111, 115]
def nameR (l : List UInt8) : List UInt8 := if l = amp then [38] else if l = lt' then [60] else if l = gt' then [62] else if l = quot then [34] else if l = apos then [39] else []
def refR (l : List UInt8) : List UInt8 := if nameR l ≠ [] then nameR l else match numR l with | some (n, d) => if d = 0 then [] else standL n | none => []
def innerOf (l : List UInt8) : List UInt8 := l.takeWhile (fun c => !(c == 59))
def oneL : List UInt8 → List UInt8 × Nat
  | 38 :: t => if 59 ∈ t.take 10 ∧ refR (innerOf (t.take 10)) ≠ [] then (refR (innerOf (t.take 10)), (innerOf (t.take 10)).length + 2) else ([], 0)
  | _ => ([], 0)
def begName (l : List UInt8) : Bool := decide (l <+: amp ∨ l <+: lt' ∨ l <+: gt' ∨ l <+: quot ∨ l <+: apos)
def unfL : List UInt8 → Bool
  | 38 :: t => begName t || (numR t).isSome
  | _ => false
def cleanL (l : List UInt8) : Bool := l.all fun c => !(c == 60 || c == 62 || c == 34 || c == 39)
def escO (c : UInt8) : List UInt8 :=
  if c = 38 then [38, 97, 109, 112, 59] else if c = 60 then [38, 108, 116, 59] else if c = 62 then [38, 103, 116, 59] else if c = 34 then [38, 35, 51, 52, 59] else if c = 39 then [38, 35, 51, 57, 59] else if c = 43 then [38, 35, 52, 51, 59] else [c]
def escL (l : List UInt8) : List UInt8 := l.flatMap escO

theorem hx_le (c : UInt8) : hx c ≤ 15 := (hexI_range _).2
theorem no59 (c : UInt8) (b : Int) (h : digB b c = true) : c ≠ 59 := by
  rintro rfl
  have h' := of_decide_eq_true h
  have e : hx 59 = -1 := by decide
  omega
theorem name_cases {l : List UInt8} (h : nameR l ≠ []) : l = amp ∨ l = lt' ∨ l = gt' ∨ l = quot ∨ l = apos := by
  unfold nameR at h
  repeat' split at h
  all_goals first | (exact absurd rfl h) | simp_all
theorem num_some {l : List UInt8} {n d : Nat} (h : numR l = some (n, d)) : ∃ t, l = 35 :: t ∧ (digsOf t).length ≤ 7 ∧ (digsOf t).all (digB (baseOf t)) = true ∧ n = valB (baseOf t) (digsOf t) ∧ d = (digsOf t).length := by
  unfold numR at h
  split at h
  · rename_i hc
    injection h with h
    injection h with h1 h2
    obtain ⟨c1, c2, c3⟩ := hc
    cases l with
    | nil => cases c1
    | cons a t =>
      rw [List.head?_cons] at c1
      injection c1 with c1
      subst c1
      exact ⟨t, rfl, c2, c3, h1.symm, h2.symm⟩
  · cases h
theorem digs_cases (t : List UInt8) : (isHex t = true ∧ ∃ c, (c = 120 ∨ c = 88) ∧ t = c :: digsOf t) ∨ (isHex t = false ∧ digsOf t = t) := by
  unfold digsOf
  cases hh : isHex t with
  | true =>
    refine .inl ⟨rfl, ?_⟩
    have := of_decide_eq_true hh
    cases t with
    | nil => simp at this
    | cons c t => simp at this; exact ⟨c, this, by simp⟩
  | false => exact .inr ⟨rfl, by simp⟩
theorem ref_small {l : List UInt8} (h : refR l ≠ []) : 59 ∉ l ∧ l.length ≤ 9 ∧ l ≠ [] := by
  unfold refR at h
  split at h
  · rename_i hn
    rcases name_cases hn with rfl | rfl | rfl | rfl | rfl <;> decide
  · cases hk : numR l with
    | none => rw [hk] at h; exact absurd rfl h
    | some q =>
      obtain ⟨n, d⟩ := q
      obtain ⟨t, rfl, h1, h2, -, -⟩ := num_some hk
      have hd : 59 ∉ digsOf t := fun hm => no59 59 _ (List.all_eq_true.1 h2 59 hm) rfl
      rcases digs_cases t with ⟨_, c, hc, ht⟩ | ⟨_, ht⟩
      · rw [ht]
        refine ⟨?_, by simp; omega, by simp⟩
        simp only [List.mem_cons, not_or]
        refine ⟨by decide, ?_, hd⟩
        rcases hc with rfl | rfl <;> decide
      · rw [ht] at hd h1
        refine ⟨?_, by simp; omega, by simp⟩
        simp only [List.mem_cons, not_or]
        exact ⟨by decide, hd⟩

theorem inner_split (l : List UInt8) (h : 59 ∈ l) : ∃ t, l = innerOf l ++ 59 :: t := by
  induction l with
  | nil => cases h
  | cons c l ih =>
    unfold innerOf
    by_cases hc : c = 59
    · subst hc; exact ⟨l, by simp⟩
    · obtain ⟨t, ht⟩ := ih (by rcases List.mem_cons.1 h with h | h; exact absurd h.symm hc; exact h)
      refine ⟨t, ?_⟩
      rw [List.takeWhile_cons_of_pos (by simp [hc])]
      unfold innerOf at ht
      rw [List.cons_append, ← ht]
theorem mem_tw (p : UInt8 → Bool) (l : List UInt8) : ∀ c ∈ l.takeWhile p, p c = true := by
  induction l with
  | nil => intro c h; cases h
  | cons a l ih =>
    intro c h
    by_cases ha : p a = true
    · rw [List.takeWhile_cons_of_pos ha] at h
      rcases List.mem_cons.1 h with rfl | h
      · exact ha
      · exact ih c h
    · rw [List.takeWhile_cons_of_neg ha] at h
      cases h
theorem inner_at (l t : List UInt8) (h : 59 ∉ l) : innerOf (l ++ 59 :: t) = l := by
  unfold innerOf
  rw [List.takeWhile_append_of_pos (fun c hc => by
    have : c ≠ 59 := fun e => h (e ▸ hc)
    simp [this])]
  simp

theorem one_of (l t : List UInt8) (h : refR l ≠ []) : oneL (38 :: (l ++ 59 :: t)) = (refR l, l.length + 2) := by
  obtain ⟨h1, h2, _⟩ := ref_small h
  have e : (l ++ 59 :: t).take 10 = l ++ 59 :: t.take (9 - l.length) := by
    rw [List.take_append, List.take_of_length_le (by omega)]
    rw [show 10 - l.length = (9 - l.length) + 1 by omega, List.take_succ_cons]
  unfold oneL
  simp only
  rw [e, inner_at _ _ h1, if_pos ⟨by simp, h⟩]
theorem one_none_head {l : List UInt8} (h : l.head? ≠ some 38) : oneL l = ([], 0) := by
  unfold oneL
  split
  · simp at h
  · rfl
theorem one_some {l : List UInt8} (h : (oneL l).2 ≠ 0) : ∃ i t, l = 38 :: (i ++ 59 :: t) ∧ refR i ≠ [] ∧ oneL l = (refR i, i.length + 2) := by
  by_cases hh : l.head? = some 38
  · cases l with
    | nil => cases hh
    | cons c u =>
      rw [List.head?_cons] at hh
      injection hh with hh
      subst hh
      unfold oneL at h
      simp only at h
      split at h
      · rename_i hc
        obtain ⟨t, ht⟩ := inner_split _ hc.1
        have e : u = innerOf (u.take 10) ++ 59 :: (t ++ u.drop 10) := by
          conv => lhs; rw [← List.take_append_drop 10 u, ht]
          simp
        refine ⟨innerOf (u.take 10), t ++ u.drop 10, by rw [← e], hc.2, ?_⟩
        unfold oneL
        simp only
        rw [if_pos hc]
      · exact absurd rfl h
  · rw [one_none_head hh] at h
    exact absurd rfl h
theorem one_zero {l : List UInt8} (h : (oneL l).2 = 0) : oneL l = ([], 0) := by
  unfold oneL at h ⊢
  split at h
  · split at h
    · rename_i hc
      simp at h
    · rename_i hc
      rw [if_neg hc]
  · rfl
theorem one_len (l : List UInt8) : (oneL l).2 ≤ l.length := by
  by_cases h : (oneL l).2 = 0
  · omega
  · obtain ⟨i, t, rfl, _, e⟩ := one_some h
    rw [e]
    simp

def decF : Nat → List UInt8 → List UInt8
  | 0, _ => []
  | n + 1, l => match l with
    | [] => []
    | c :: t => if (oneL (c :: t)).2 = 0 then c :: decF n t else (oneL (c :: t)).1 ++ decF n ((c :: t).drop (oneL (c :: t)).2)
def decL' (l : List UInt8) : List UInt8 := decF l.length l
theorem decF_fuel : ∀ (n m : Nat) (l : List UInt8), l.length ≤ n → l.length ≤ m → decF n l = decF m l
  | 0, m, l, hn, _ => by
    have : l = [] := List.eq_nil_of_length_eq_zero (by omega)
    subst this; cases m <;> rfl
  | n + 1, 0, l, _, hm => by
    have : l = [] := List.eq_nil_of_length_eq_zero (by omega)
    subst this; rfl
  | n + 1, m + 1, [], hn, hm => rfl
  | n + 1, m + 1, c :: t, hn, hm => by
    rw [decF, decF]
    rw [List.length_cons] at hn hm
    split
    · rw [decF_fuel n m t (by omega) (by omega)]
    · rename_i h
      rw [decF_fuel n m _ (by rw [List.length_drop, List.length_cons]; omega) (by rw [List.length_drop, List.length_cons]; omega)]
theorem dec_nil' : decL' [] = [] := rfl
theorem dec_plain (c : UInt8) (t : List UInt8) (h : (oneL (c :: t)).2 = 0) : decL' (c :: t) = c :: decL' t := by
  unfold decL'
  rw [List.length_cons, decF, if_pos h]
theorem dec_ref (l : List UInt8) (h : (oneL l).2 ≠ 0) : decL' l = (oneL l).1 ++ decL' (l.drop (oneL l).2) := by
  cases l with
  | nil => exact absurd rfl h
  | cons c t =>
    unfold decL'
    rw [List.length_cons, decF, if_neg h, decF_fuel t.length _ _ (by rw [List.length_drop, List.length_cons]; omega) (Nat.le_refl _)]

theorem esc_clean (l : List UInt8) : cleanL (escL l) = true := by
  have h1 : ∀ c : Fin 256, cleanL (escO (UInt8.ofNat c.val)) = true := by decide +kernel
  induction l with
  | nil => rfl
  | cons c l ih =>
    have e : escL (c :: l) = escO c ++ escL l := rfl
    have h2 := h1 ⟨c.toNat, c.toNat_lt⟩
    simp only [UInt8.ofNat_toNat] at h2
    unfold cleanL at ih h2 ⊢
    rw [e, List.all_append, ih, h2]
    rfl
theorem esc_len (l : List UInt8) : (escL l).length ≤ 5 * l.length := by
  have h1 : ∀ c : Fin 256, (escO (UInt8.ofNat c.val)).length ≤ 5 := by decide +kernel
  induction l with
  | nil => simp [escL]
  | cons c l ih =>
    have e : escL (c :: l) = escO c ++ escL l := rfl
    have h2 := h1 ⟨c.toNat, c.toNat_lt⟩
    simp only [UInt8.ofNat_toNat] at h2
    rw [e, List.length_append, List.length_cons]
    omega
theorem esc_snoc (l : List UInt8) (c : UInt8) : escL (l ++ [c]) = escL l ++ escO c := by simp [escL]


theorem stand_ne (n : Nat) : standL n ≠ [] := by
  unfold standL
  split
  · rename_i h
    have := (enc_len (n : Int)).1
    intro e
    rw [e] at this
    simp at this
  · simp
theorem name_35 (t : List UInt8) : nameR (35 :: t) = [] := by simp [nameR]
theorem ref_num (t : List UInt8) (h1 : (digsOf t).length ≤ 7) (h2 : (digsOf t).all (digB (baseOf t)) = true) (h0 : digsOf t ≠ []) : refR (35 :: t) = standL (valB (baseOf t) (digsOf t)) := by
  have : numR (35 :: t) = some (valB (baseOf t) (digsOf t), (digsOf t).length) := by
    unfold numR
    rw [if_pos ⟨rfl, h1, h2⟩]
    rfl
  unfold refR
  rw [name_35, this]
  simp [h0]

theorem unf_small {l : List UInt8} (h : unfL l = true) : 59 ∉ l ∧ l.length ≤ 10 ∧ ∃ b, l = 38 :: b := by
  unfold unfL at h
  split at h
  · rename_i t
    rcases Bool.or_eq_true_iff.1 h with h | h
    · have h := of_decide_eq_true h
      have key : 59 ∉ t ∧ t.length ≤ 5 := by
        rcases h with h | h | h | h | h
        all_goals exact ⟨fun hm => absurd (h.subset hm) (by decide), Nat.le_trans h.length_le (by decide)⟩
      exact ⟨by simp only [List.mem_cons, not_or]; exact ⟨by decide, key.1⟩, by rw [List.length_cons]; omega, t, rfl⟩
    · obtain ⟨q, hq⟩ := Option.isSome_iff_exists.1 h
      obtain ⟨n, d⟩ := q
      obtain ⟨u, rfl, h1, h2, -, -⟩ := num_some hq
      have hd : 59 ∉ digsOf u := fun hm => no59 59 _ (List.all_eq_true.1 h2 59 hm) rfl
      have key : 59 ∉ u ∧ u.length ≤ 8 := by
        rcases digs_cases u with ⟨_, c, hc, ht⟩ | ⟨_, ht⟩
        · rw [ht]
          refine ⟨?_, by simp; omega⟩
          simp only [List.mem_cons, not_or]
          refine ⟨?_, hd⟩
          rcases hc with rfl | rfl <;> decide
        · rw [ht] at hd h1
          exact ⟨hd, by omega⟩
      refine ⟨?_, by simp; omega, _, rfl⟩
      simp only [List.mem_cons, not_or]
      exact ⟨by decide, by decide, key.1⟩
  · cases h
end Go.Proofs.YtklpbkjplecdpaaGreat.Crf
