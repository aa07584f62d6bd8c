/-
  Part 1: OctPure, FindPure, LexPure, NumPure.
-/
import Derived.WalkKit
/-
  Plain facts on octets and lists of octets, with no program: what a blank, a letter, a digit is; small and great letters; the first place of a property; digits of base 16.
-/
namespace Go.Proofs.YtmccbcficbbidaaGreatDoor.Oct
open Go.RowKit

/-- A text of these octets. -/
abbrev S (l : List UInt8) : ByteArray := ⟨l.toArray⟩

theorem S_list (s : ByteArray) : S s.data.toList = s := by cases s; simp [S]
theorem list_S (l : List UInt8) : (S l).data.toList = l := by simp
theorem size_S (l : List UInt8) : (S l).size = l.length := by simp [ByteArray.size]
theorem S_append (a b : List UInt8) : S a ++ S b = S (a ++ b) := by simp [S, ByteArray.mk_append_mk]
theorem size_list (s : ByteArray) : s.data.toList.length = s.size := by rw [Array.length_toList]; rfl

def blankI (n : Int) : Bool := decide (n = 9 ∨ n = 10 ∨ n = 12 ∨ n = 13 ∨ n = 32)
def smallI (n : Int) : Bool := decide (97 ≤ n ∧ n ≤ 122)
def greatI (n : Int) : Bool := decide (65 ≤ n ∧ n ≤ 90)
def letterI (n : Int) : Bool := decide ((97 ≤ n ∧ n ≤ 122) ∨ (65 ≤ n ∧ n ≤ 90))
def digitI (n : Int) : Bool := decide (48 ≤ n ∧ n ≤ 57)
def nameI (n : Int) : Bool := decide ((97 ≤ n ∧ n ≤ 122) ∨ (65 ≤ n ∧ n ≤ 90) ∨ (48 ≤ n ∧ n ≤ 57) ∨ n = 95)
def lowI (n : Int) : Int := if 65 ≤ n ∧ n ≤ 90 then n + 32 else n
def upI (n : Int) : Int := if 97 ≤ n ∧ n ≤ 122 then n - 32 else n
/-- What a digit of base 16 counts; -1: none. -/
def hexI (n : Int) : Int := if 48 ≤ n ∧ n ≤ 57 then n - 48 else if 97 ≤ n ∧ n ≤ 102 then n - 87 else if 65 ≤ n ∧ n ≤ 70 then n - 55 else -1

theorem ret_bool {a b : Bool} (h : a = b) : Ending.returned (.bool a) = .returned (.bool b) := by rw [h]
theorem ret_int {k : IntKind} {a b : Int} (h : a = b) : Ending.returned (.int k a) = .returned (.int k b) := by rw [h]

theorem lowI_range {n : Int} (h0 : 0 ≤ n) (h1 : n ≤ 255) : 0 ≤ lowI n ∧ lowI n ≤ 255 := by unfold lowI; split <;> omega
theorem upI_range {n : Int} (h0 : 0 ≤ n) (h1 : n ≤ 255) : 0 ≤ upI n ∧ upI n ≤ 255 := by unfold upI; split <;> omega
theorem hexI_range (n : Int) : -1 ≤ hexI n ∧ hexI n ≤ 15 := by
  unfold hexI
  repeat' split
  all_goals omega

/-- A letter, small; great. -/
def low (c : UInt8) : UInt8 := if 65 ≤ c ∧ c ≤ 90 then c + 32 else c
def up (c : UInt8) : UInt8 := if 97 ≤ c ∧ c ≤ 122 then c - 32 else c

theorem low_all : ∀ k : Fin 256, (((low (UInt8.ofNat k.val)).toNat : Nat) : Int) = lowI ((UInt8.ofNat k.val).toNat : Int) := by decide +kernel
theorem up_all : ∀ k : Fin 256, (((up (UInt8.ofNat k.val)).toNat : Nat) : Int) = upI ((UInt8.ofNat k.val).toNat : Int) := by decide +kernel
theorem low_toNat (c : UInt8) : ((low c).toNat : Int) = lowI (c.toNat : Int) := by
  have := low_all ⟨c.toNat, c.toNat_lt⟩
  simpa using this
theorem up_toNat (c : UInt8) : ((up c).toNat : Int) = upI (c.toNat : Int) := by
  have := up_all ⟨c.toNat, c.toNat_lt⟩
  simpa using this

/-- The octet at a place of a text; 0 behind its end. -/
def at' (s : ByteArray) (k : Nat) : UInt8 := s.data.toList.getD k 0
theorem at_eq (s : ByteArray) (k : Nat) (h : k < s.size) : s[k] = at' s k := by
  have h' : k < s.data.toList.length := by rw [size_list]; exact h
  unfold at'
  rw [List.getD_eq_getElem?_getD, List.getElem?_eq_getElem h', Option.getD_some, Array.getElem_toList]
  rfl
theorem map_at (s : ByteArray) (f : UInt8 → UInt8) : (List.range s.size).map (fun k => f (at' s k)) = s.data.toList.map f := by
  apply List.ext_getElem
  · simp
  · intro i h1 h2
    have h : i < s.data.toList.length := by simpa using h2
    simp only [List.getElem_map, List.getElem_range]
    unfold at'
    rw [List.getD_eq_getElem?_getD, List.getElem?_eq_getElem h, Option.getD_some]

theorem all_at (s : ByteArray) (q : UInt8 → Bool) : (List.range s.size).all (fun k => q (at' s k)) = s.data.toList.all q := by
  have h := map_at s (fun c => if q c then 1 else 0)
  have e : ∀ l : List UInt8, (l.map (fun c => if q c then (1 : UInt8) else 0)).all (· == 1) = l.all q := by
    intro l
    induction l with
    | nil => rfl
    | cons c l ih =>
      simp only [List.map_cons, List.all_cons, ih]
      cases q c <;> simp
  rw [← e, ← h, List.all_map]
  congr 1
  funext k
  simp only [Function.comp]
  cases q (at' s k) <;> simp

theorem at_zero (s : ByteArray) : s.data.toList.getD 0 0 = at' s 0 := rfl

/-- A name, as the page says. -/
def nameB (l : List UInt8) : Bool := decide (1 ≤ l.length ∧ l.length ≤ 32) && !digitI ((l.getD 0 0).toNat : Int) && l.all (fun c => nameI (c.toNat : Int))
end Go.Proofs.YtmccbcficbbidaaGreatDoor.Oct

/-
  Where a text first stands in another one, with no program.
-/
namespace Go.Proofs.YtmccbcficbbidaaGreatDoor.Lex
open Go.Proofs.YtmccbcficbbidaaGreatDoor.Oct

/-- The first place of a text in another one. -/
def findL (p : List UInt8) : List UInt8 → Option Nat
  | [] => if p.isEmpty then some 0 else none
  | c :: t => if p.isPrefixOf (c :: t) then some 0 else (findL p t).map (· + 1)
theorem find_some {p : List UInt8} {l : List UInt8} {n : Nat} (h : findL p l = some n) : p <+: l.drop n := by
  induction l generalizing n with
  | nil =>
    unfold findL at h
    split at h
    · rename_i q
      injection h with h
      subst h
      rw [List.isEmpty_iff.1 q]
      exact List.nil_prefix
    · cases h
  | cons c t ih =>
    unfold findL at h
    split at h
    · rename_i q
      injection h with h
      subst h
      exact List.isPrefixOf_iff_prefix.1 q
    · obtain ⟨m, hm, rfl⟩ := Option.map_eq_some_iff.1 h
      exact ih hm
theorem find_long {p : List UInt8} : ∀ {l : List UInt8}, l.length < p.length → findL p l = none
  | [], h => by
    unfold findL
    rw [if_neg (by cases p with
      | nil => exact absurd h (by simp)
      | cons c t => simp)]
  | c :: t, h => by
    unfold findL
    rw [if_neg (fun q => by have := (List.isPrefixOf_iff_prefix.1 q).length_le; omega), find_long (l := t) (by rw [List.length_cons] at h; omega)]
    rfl
theorem find_yes {p l : List UInt8} (h : p.isPrefixOf l = true) : findL p l = some 0 := by
  cases l with
  | nil =>
    have := List.isPrefixOf_iff_prefix.1 h
    unfold findL
    rw [if_pos (by simpa using this)]
  | cons c t =>
    unfold findL
    rw [if_pos h]
theorem find_no {p l : List UInt8} (h : p.isPrefixOf l = false) (hl : p.length ≤ l.length) : findL p l = (findL p (l.drop 1)).map (· + 1) := by
  cases l with
  | nil =>
    rw [List.length_nil, Nat.le_zero, List.length_eq_zero_iff] at hl
    subst hl
    simp at h
  | cons c t =>
    show findL p (c :: t) = (findL p t).map (· + 1)
    conv => lhs; unfold findL
    rw [if_neg (by rw [h]; simp)]
def findI (p l : List UInt8) : Int := match findL p l with
  | some n => (n : Int)
  | none => -1
end Go.Proofs.YtmccbcficbbidaaGreatDoor.Lex

/-
  Templates as pieces, and texts as words, with no program: what a text without actions, a trimming action, a remark, a quoted text give.
-/
namespace Go.Proofs.YtmccbcficbbidaaGreatDoor.Lex
open Go.Proofs.YtmccbcficbbidaaGreatDoor.Oct

def bl (c : UInt8) : Bool := blankI (c.toNat : Int)
/-- A piece: 1 a text, 2 an action. -/
structure It where
  k : Nat
  x : List UInt8
  p : Nat
deriving DecidableEq
/-- Where }} stands that no quotes hide. -/
def closesL : Bool → List UInt8 → Option Nat
  | _, [] => none
  | true, 92 :: [] => none
  | true, 92 :: _ :: t => (closesL true t).map (· + 2)
  | q, c :: t => if c = 34 then (closesL (!q) t).map (· + 1) else if q = false ∧ [125, 125].isPrefixOf (c :: t) = true then some 0 else (closesL q t).map (· + 1)
def skipN (l : List UInt8) : Nat := (l.takeWhile bl).length
def backL (l : List UInt8) : List UInt8 := (l.reverse.dropWhile bl).reverse
def frontL (l : List UInt8) : List UInt8 := l.dropWhile bl
/-- What was gathered: the text on its way, its place, whether blanks are left out, the pieces. -/
structure Ls where
  t : List UInt8
  p : Nat
  trim : Bool
  out : List It
def textI (u : Ls) : List It := if u.t = [] then u.out else u.out ++ [⟨1, u.t, u.p⟩]
/-- A text up to an action, or to the end: m octets long, at a place. -/
def gather (u : Ls) (l : List UInt8) (m at_ : Nat) : Ls :=
  if (if u.trim then min (skipN l) m else 0) < m then
    ⟨u.t ++ (l.take m).drop (if u.trim then min (skipN l) m else 0), if u.t = [] then at_ + (if u.trim then min (skipN l) m else 0) else u.p, false, u.out⟩
  else u
def bodyN (l : List UInt8) : Nat := if l.head? = some 45 then 1 + skipN (l.drop 1) else skipN l
def remB (l : List UInt8) : Bool := [47, 42].isPrefixOf (l.drop (bodyN l))
/-- How many octets stand in an action, behind its {{ . -/
def innerN (l : List UInt8) : Option Nat :=
  if remB l then (match findL [42, 47] (l.drop (bodyN l + 2)) with
    | none => none
    | some k => (closesL false (l.drop (bodyN l + 2 + k + 2))).map (· + (bodyN l + 2 + k + 2)))
  else closesL false l
def leadB (t : List UInt8) : Bool := match t with
  | 45 :: c :: _ => bl c
  | _ => false
def tailB (t : List UInt8) : Bool := leadB t.reverse
/-- An action: what is within it (l: all behind its {{ ), at a place. -/
def actI (u : Ls) (t : List UInt8) (rem : Bool) (at_ : Nat) : Ls :=
  let u1 : Ls := if leadB t then { u with t := backL u.t } else u
  let t1 := if leadB t then t.drop 1 else t
  let t2 := if tailB t1 then t1.dropLast else t1
  if rem then { u1 with trim := tailB t1 } else ⟨[], u1.p, tailB t1, textI u1 ++ [⟨2, backL (frontL t2), at_⟩]⟩
/-- The pieces, or the place of an action without an end. -/
def itemsF : Nat → Ls → List UInt8 → Nat → Except Nat (List It)
  | 0, u, _, _ => .ok u.out
  | f + 1, u, l, at_ => match findL [123, 123] l with
    | none => .ok (textI (gather u l l.length at_))
    | some n => match innerN (l.drop (n + 2)) with
      | none => .error (at_ + n)
      | some m => itemsF f (actI (gather u l n at_) ((l.drop (n + 2)).take m) (remB (l.drop (n + 2))) (at_ + n)) (l.drop (n + 2 + m + 2)) (at_ + n + 2 + m + 2)
def itemsL (l : List UInt8) : Except Nat (List It) := itemsF (l.length + 1) ⟨[], 0, false, []⟩ l 0

/-- No {{ in a text. -/
def Plain (l : List UInt8) : Prop := findL [123, 123] l = none
theorem plain_tail {c : UInt8} {t : List UInt8} (h : Plain (c :: t)) : Plain t := by
  unfold Plain findL at h
  split at h
  · cases h
  · exact Option.map_eq_none_iff.1 h
theorem plain_head {c : UInt8} {t : List UInt8} (h : Plain (c :: t)) : [123, 123].isPrefixOf (c :: t) = false := by
  unfold Plain findL at h
  split at h
  · cases h
  · rename_i q
    cases hq : [123, 123].isPrefixOf (c :: t) with
    | false => rfl
    | true => exact absurd hq q
/-- Behind a text that has no {{ , nor makes one, the first is the next one. -/
theorem find_behind (a l : List UInt8) (h : Plain (a ++ [123])) : findL [123, 123] (a ++ 123 :: 123 :: l) = some a.length := by
  induction a with
  | nil =>
    show findL [123, 123] (123 :: 123 :: l) = some 0
    unfold findL
    rw [if_pos (by simp [List.isPrefixOf])]
  | cons c t ih =>
    have h1 := plain_head h
    have h2 := ih (plain_tail h)
    rw [List.cons_append]
    unfold findL
    have e : [123, 123].isPrefixOf (c :: (t ++ 123 :: 123 :: l)) = false := by
      cases t with
      | nil =>
        have h1 : [123, 123].isPrefixOf [c, 123] = false := h1
        simp [List.isPrefixOf] at h1 ⊢
        exact h1
      | cons d t =>
        have h1 : [123, 123].isPrefixOf (c :: d :: (t ++ [123])) = false := h1
        simp [List.isPrefixOf] at h1 ⊢
        exact h1
    rw [if_neg (by rw [e]; simp), h2]
    rfl
theorem items_last (f : Nat) (u : Ls) (l : List UInt8) (at_ : Nat) (h : Plain l) : itemsF (f + 1) u l at_ = .ok (textI (gather u l l.length at_)) := by
  unfold itemsF
  rw [show findL [123, 123] l = none from h]
theorem items_act (f : Nat) (u : Ls) (l : List UInt8) (at_ n m : Nat) (h1 : findL [123, 123] l = some n) (h2 : innerN (l.drop (n + 2)) = some m) :
    itemsF (f + 1) u l at_ = itemsF f (actI (gather u l n at_) ((l.drop (n + 2)).take m) (remB (l.drop (n + 2))) (at_ + n)) (l.drop (n + 2 + m + 2)) (at_ + n + 2 + m + 2) := by
  conv => lhs; unfold itemsF
  rw [h1]
  simp only [h2]
theorem gather_plain (u : Ls) (h : u.trim = false) (l : List UInt8) (m at_ : Nat) : gather u l m at_ = if 0 < m then ⟨u.t ++ l.take m, if u.t = [] then at_ else u.p, false, u.out⟩ else u := by
  unfold gather
  rw [h]
  simp
/-- LexTexts: a text without {{ is one piece. -/
theorem lex_text (l : List UInt8) (h : Plain l) : itemsL l = .ok (if l = [] then [] else [⟨1, l, 0⟩]) := by
  unfold itemsL
  rw [items_last _ _ _ _ h, gather_plain _ rfl]
  cases l with
  | nil => rfl
  | cons c t =>
    rw [if_pos (by simp)]
    simp [textI]
theorem lex_dot (l : List UInt8) (h : Plain l) : itemsL ([123, 123, 46, 125, 125] ++ l) = .ok (⟨2, [46], 0⟩ :: (if l = [] then [] else [⟨1, l, 5⟩])) := by
  unfold itemsL
  have e : ([123, 123, 46, 125, 125] ++ l).length + 1 = (l.length + 4 + 1) + 1 := by simp
  rw [e, items_act _ _ _ _ 0 1 (show findL [123, 123] ([123, 123, 46, 125, 125] ++ l) = some 0 from find_behind [] (46 :: 125 :: 125 :: l) (by unfold Plain; decide)) (by
    show innerN (46 :: 125 :: 125 :: l) = some 1
    unfold innerN
    have e1 : remB (46 :: 125 :: 125 :: l) = false := by
      have e2 : bodyN (46 :: 125 :: 125 :: l) = 0 := rfl
      unfold remB
      rw [e2]
      rfl
    rw [e1, if_neg (by simp)]
    simp [closesL, List.isPrefixOf])]
  show itemsF (l.length + 4 + 1) _ l _ = _
  rw [items_last _ _ _ _ h]
  have e1 : remB (46 :: 125 :: 125 :: l) = false := by
    have e2 : bodyN (46 :: 125 :: 125 :: l) = 0 := rfl
    unfold remB
    rw [e2]
    rfl
  have e3 : actI (gather ⟨[], 0, false, []⟩ ([123, 123, 46, 125, 125] ++ l) 0 0) [46] false 0 = ⟨[], 0, false, [⟨2, [46], 0⟩]⟩ := by
    rw [gather_plain _ rfl, if_neg (by decide)]
    rfl
  show Except.ok (textI (gather (actI (gather ⟨[], 0, false, []⟩ ([123, 123, 46, 125, 125] ++ l) 0 0) [46] (remB (46 :: 125 :: 125 :: l)) 0) l l.length 5)) = _
  rw [e1, e3, gather_plain _ rfl]
  cases l with
  | nil => rfl
  | cons c t =>
    rw [if_pos (by simp)]
    simp [textI]

/-! ### Trims -/
theorem front_drop (l : List UInt8) : frontL l = l.drop (skipN l) := by
  induction l with
  | nil => rfl
  | cons c t ih =>
    unfold frontL skipN at ih ⊢
    cases h : bl c with
    | true => rw [List.dropWhile_cons_of_pos h, List.takeWhile_cons_of_pos h, ih]; rfl
    | false => rw [List.dropWhile_cons_of_neg (by rw [h]; simp), List.takeWhile_cons_of_neg (by rw [h]; simp)]; rfl
theorem skip_le (l : List UInt8) : skipN l ≤ l.length := by
  unfold skipN
  exact (List.takeWhile_prefix _).length_le
/-- A text as a piece, if it is not empty. -/
def pieceL (t : List UInt8) (p : Nat) : List It := if t = [] then [] else [⟨1, t, p⟩]
theorem textI_eq (u : Ls) : textI u = u.out ++ pieceL u.t u.p := by
  unfold textI pieceL
  split <;> simp
theorem gather_trim (o : List It) (p : Nat) (b : List UInt8) (at_ : Nat) : textI (gather ⟨[], p, true, o⟩ b b.length at_) = o ++ pieceL (frontL b) (at_ + skipN b) := by
  have hle := skip_le b
  unfold gather
  simp only [if_true]
  rw [Nat.min_eq_left hle, front_drop]
  by_cases h : skipN b < b.length
  · rw [if_pos h, textI_eq]
    show o ++ pieceL ([] ++ (b.take b.length).drop (skipN b)) (at_ + skipN b) = _
    rw [List.take_length, List.nil_append]
  · rw [if_neg h, textI_eq, List.drop_of_length_le (by omega)]
    rfl
theorem gather_start (a l : List UInt8) : gather ⟨[], 0, false, []⟩ (a ++ l) a.length 0 = ⟨a, 0, false, []⟩ := by
  rw [gather_plain _ rfl, List.take_left]
  cases a with
  | nil => rfl
  | cons c t => rw [if_pos (by simp)]; rfl
abbrev trimI : List UInt8 := [45, 32, 46, 120, 32, 45]
theorem lex_trims (a b : List UInt8) (ha : Plain (a ++ [123])) (hb : Plain b) :
    itemsL (a ++ 123 :: 123 :: (trimI ++ 125 :: 125 :: b)) = .ok (pieceL (backL a) 0 ++ [⟨2, [46, 120], a.length⟩] ++ pieceL (frontL b) (a.length + 10 + skipN b)) := by
  unfold itemsL
  have e : (a ++ 123 :: 123 :: (trimI ++ 125 :: 125 :: b)).length + 1 = (a.length + b.length + 9 + 1) + 1 := by simp; omega
  have hd : (a ++ 123 :: 123 :: (trimI ++ 125 :: 125 :: b)).drop (a.length + 2) = trimI ++ 125 :: 125 :: b := by
    rw [← List.drop_drop, List.drop_left]; rfl
  have hr : remB (trimI ++ 125 :: 125 :: b) = false := by
    have e1 : bodyN (trimI ++ 125 :: 125 :: b) = 2 := rfl
    unfold remB
    rw [e1]
    rfl
  have hi : innerN (trimI ++ 125 :: 125 :: b) = some 6 := by
    unfold innerN
    rw [hr, if_neg (by simp)]
    simp [closesL, List.isPrefixOf]
  rw [e, items_act _ _ _ _ a.length 6 (find_behind a _ ha) (by rw [hd]; exact hi), hd, hr, gather_start]
  have hd2 : (a ++ 123 :: 123 :: (trimI ++ 125 :: 125 :: b)).drop (a.length + 2 + 6 + 2) = b := by
    rw [← List.drop_drop, ← List.drop_drop, hd]; rfl
  rw [hd2, items_last _ _ _ _ hb]
  have ht : (trimI ++ 125 :: 125 :: b).take 6 = trimI := rfl
  rw [ht]
  have hact : actI ⟨a, 0, false, []⟩ trimI false (0 + a.length) = ⟨[], 0, true, pieceL (backL a) 0 ++ [⟨2, [46, 120], a.length⟩]⟩ := by
    unfold actI
    have l1 : leadB trimI = true := by decide +kernel
    have l2 : tailB (trimI.drop 1) = true := by decide +kernel
    have l3 : backL (frontL ((trimI.drop 1).dropLast)) = [46, 120] := by decide +kernel
    simp only [l1, l2, if_true, l3, textI_eq, List.nil_append, Nat.zero_add]
    rfl
  rw [hact, gather_trim]
  congr 3
  omega

/-! ### Remarks -/
theorem find_star (r l : List UInt8) (h : ∀ c ∈ r, c ≠ 42) : findL [42, 47] (r ++ 42 :: 47 :: l) = some r.length := by
  induction r with
  | nil =>
    show findL [42, 47] (42 :: 47 :: l) = some 0
    unfold findL
    rw [if_pos (by simp [List.isPrefixOf])]
  | cons c t ih =>
    rw [List.cons_append]
    unfold findL
    have hc := h c (by simp)
    have e : [42, 47].isPrefixOf (c :: (t ++ 42 :: 47 :: l)) = false := by
      have e1 : ((42 : UInt8) == c) = false := by rw [beq_eq_false_iff_ne]; exact fun q => hc q.symm
      simp [List.isPrefixOf, e1]
    rw [if_neg (by rw [e]; simp), ih (fun d hd => h d (by simp [hd]))]
    rfl
theorem lex_remarks (a r b : List UInt8) (ha : Plain (a ++ [123])) (hb : Plain b) (hr : ∀ c ∈ r, c ≠ 42) :
    ∃ p, itemsL (a ++ 123 :: 123 :: (([47, 42] ++ r ++ [42, 47]) ++ 125 :: 125 :: b)) = .ok (pieceL (a ++ b) p) := by
  have hL : ([47, 42] ++ r ++ [42, 47]) ++ 125 :: 125 :: b = 47 :: 42 :: (r ++ 42 :: 47 :: 125 :: 125 :: b) := by simp
  have e : (a ++ 123 :: 123 :: (([47, 42] ++ r ++ [42, 47]) ++ 125 :: 125 :: b)).length + 1 = (a.length + r.length + b.length + 7 + 1) + 1 := by simp; omega
  have hd : (a ++ 123 :: 123 :: (([47, 42] ++ r ++ [42, 47]) ++ 125 :: 125 :: b)).drop (a.length + 2) = ([47, 42] ++ r ++ [42, 47]) ++ 125 :: 125 :: b := by
    rw [← List.drop_drop, List.drop_left]; rfl
  have hbody : bodyN (([47, 42] ++ r ++ [42, 47]) ++ 125 :: 125 :: b) = 0 := by rw [hL]; rfl
  have hrem : remB (([47, 42] ++ r ++ [42, 47]) ++ 125 :: 125 :: b) = true := by
    unfold remB
    rw [hbody, hL]
    simp [List.isPrefixOf]
  have hi : innerN (([47, 42] ++ r ++ [42, 47]) ++ 125 :: 125 :: b) = some (r.length + 4) := by
    unfold innerN
    rw [hrem, if_pos rfl, hbody, hL]
    have e1 : (47 :: 42 :: (r ++ 42 :: 47 :: 125 :: 125 :: b)).drop (0 + 2) = r ++ 42 :: 47 :: 125 :: 125 :: b := rfl
    rw [e1, find_star r _ hr]
    have e2 : (47 :: 42 :: (r ++ 42 :: 47 :: 125 :: 125 :: b)).drop (0 + 2 + r.length + 2) = 125 :: 125 :: b := by
      rw [show 0 + 2 + r.length + 2 = (0 + 2) + (r.length + 2) by omega, ← List.drop_drop, e1, ← List.drop_drop, List.drop_left]; rfl
    simp only [e2]
    have e3 : closesL false (125 :: 125 :: b) = some 0 := by simp [closesL, List.isPrefixOf]
    rw [e3]
    show some (0 + (0 + 2 + r.length + 2)) = some (r.length + 4)
    congr 1
    omega
  unfold itemsL
  rw [e, items_act _ _ _ _ a.length (r.length + 4) (find_behind a _ ha) (by rw [hd]; exact hi), hd, hrem, gather_start]
  have ht : (([47, 42] ++ r ++ [42, 47]) ++ 125 :: 125 :: b).take (r.length + 4) = [47, 42] ++ r ++ [42, 47] := by
    rw [List.take_append_of_le_length (by simp), List.take_of_length_le (by simp)]
  have hd2 : (a ++ 123 :: 123 :: (([47, 42] ++ r ++ [42, 47]) ++ 125 :: 125 :: b)).drop (a.length + 2 + (r.length + 4) + 2) = b := by
    have e4 : ([47, 42] ++ r ++ [42, 47]).length = r.length + 4 := by simp
    rw [← List.drop_drop, ← List.drop_drop, hd, ← e4, List.drop_left]
    rfl
  rw [ht, hd2, items_last _ _ _ _ hb]
  have hact : actI ⟨a, 0, false, []⟩ ([47, 42] ++ r ++ [42, 47]) true (0 + a.length) = ⟨a, 0, false, []⟩ := by
    have l1 : leadB ([47, 42] ++ r ++ [42, 47]) = false := rfl
    have l2 : tailB ([47, 42] ++ r ++ [42, 47]) = false := by
      unfold tailB
      rw [List.reverse_append]
      rfl
    unfold actI
    simp only [l1, Bool.false_eq_true, if_false, l2, if_true]
  rw [hact, gather_plain _ rfl]
  by_cases h0 : 0 < b.length
  · rw [if_pos h0, textI_eq, List.take_length]
    exact ⟨_, rfl⟩
  · have : b = [] := List.eq_nil_of_length_eq_zero (by omega)
    rw [if_neg h0, textI_eq, this, List.append_nil]
    exact ⟨_, rfl⟩

/-! ### Quoted texts -/
def escQ (c : UInt8) : List UInt8 := if c = 10 then [92, 110] else if c = 9 then [92, 116] else if c = 92 then [92, 92] else if c = 34 then [92, 34] else [c]
def inQ (s : List UInt8) : List UInt8 := s.flatMap escQ
def quoteQ (s : List UInt8) : List UInt8 := 34 :: (inQ s ++ [34])
theorem inQ_cons (c : UInt8) (s : List UInt8) : inQ (c :: s) = escQ c ++ inQ s := by unfold inQ; rw [List.flatMap_cons]
theorem closes_two (c : UInt8) (t : List UInt8) : closesL true (92 :: c :: t) = (closesL true t).map (· + 2) := by
  simp only [closesL]
theorem closes_one (c : UInt8) (t : List UInt8) (h1 : c ≠ 92) (h2 : c ≠ 34) : closesL true (c :: t) = (closesL true t).map (· + 1) := by
  rw [closesL.eq_def]
  split
  all_goals simp_all
theorem closes_in (s t : List UInt8) : closesL true (inQ s ++ 34 :: t) = (closesL false t).map (· + ((inQ s).length + 1)) := by
  induction s with
  | nil =>
    show closesL true (34 :: t) = _
    conv => lhs; unfold closesL
    rfl
  | cons c s ih =>
    rw [inQ_cons, List.append_assoc]
    have hmap : ∀ (o : Option Nat) (x y : Nat), (o.map (· + x)).map (· + y) = o.map (· + (x + y)) := fun o x y => by
      cases o with
      | none => rfl
      | some v => show some (v + x + y) = some (v + (x + y)); congr 1; omega
    unfold escQ
    split
    · rw [List.cons_append, List.cons_append, List.nil_append, closes_two, ih, hmap]; congr 1
    · split
      · rw [List.cons_append, List.cons_append, List.nil_append, closes_two, ih, hmap]; congr 1
      · split
        · rw [List.cons_append, List.cons_append, List.nil_append, closes_two, ih, hmap]; congr 1
        · split
          · rw [List.cons_append, List.cons_append, List.nil_append, closes_two, ih, hmap]; congr 1
          · rename_i h92 h34
            rw [List.singleton_append, closes_one c _ h92 h34, ih, hmap]; congr 1
/-- What a quoted text says, and what stands behind it. -/
def strL : List UInt8 → Option (List UInt8 × List UInt8)
  | [] => none
  | 34 :: t => some ([], t)
  | 92 :: c :: t => if c = 110 then (strL t).map fun x => (10 :: x.1, x.2) else if c = 116 then (strL t).map fun x => (9 :: x.1, x.2)
      else if c = 92 ∨ c = 34 then (strL t).map fun x => (c :: x.1, x.2) else none
  | c :: t => if c = 10 ∨ c = 92 then none else (strL t).map fun x => (c :: x.1, x.2)
theorem str_esc (c : UInt8) (t : List UInt8) : strL (92 :: c :: t) = if c = 110 then (strL t).map fun x => (10 :: x.1, x.2) else if c = 116 then (strL t).map fun x => (9 :: x.1, x.2)
      else if c = 92 ∨ c = 34 then (strL t).map fun x => (c :: x.1, x.2) else none := by simp only [strL]
theorem str_one (c : UInt8) (t : List UInt8) (h1 : c ≠ 92) (h2 : c ≠ 34) (h3 : c ≠ 10) : strL (c :: t) = (strL t).map fun x => (c :: x.1, x.2) := by
  rw [strL.eq_def]
  split
  all_goals simp_all
theorem str_quote (s t : List UInt8) : strL (inQ s ++ 34 :: t) = some (s, t) := by
  induction s with
  | nil => simp [inQ, strL]
  | cons c s ih =>
    rw [inQ_cons, List.append_assoc]
    unfold escQ
    split
    · rename_i h; subst h
      rw [List.cons_append, List.cons_append, List.nil_append, str_esc, if_pos rfl, ih]; rfl
    · split
      · rename_i h; subst h
        rw [List.cons_append, List.cons_append, List.nil_append, str_esc, if_neg (by decide), if_pos rfl, ih]; rfl
      · split
        · rename_i h; subst h
          rw [List.cons_append, List.cons_append, List.nil_append, str_esc, if_neg (by decide), if_neg (by decide), if_pos (.inl rfl), ih]; rfl
        · split
          · rename_i h; subst h
            rw [List.cons_append, List.cons_append, List.nil_append, str_esc, if_neg (by decide), if_neg (by decide), if_pos (.inr rfl), ih]; rfl
          · rename_i h10 h9 h92 h34
            rw [List.singleton_append, str_one c _ h92 h34 h10, ih]; rfl
theorem lex_quote (s : List UInt8) : itemsL (123 :: 123 :: (quoteQ s ++ [125, 125, 121])) = .ok [⟨2, quoteQ s, 0⟩, ⟨1, [121], (quoteQ s).length + 4⟩] := by
  have hL : quoteQ s ++ [125, 125, 121] = 34 :: (inQ s ++ 34 :: [125, 125, 121]) := by unfold quoteQ; simp
  have hbody : bodyN (quoteQ s ++ [125, 125, 121]) = 0 := by rw [hL]; rfl
  have hrem : remB (quoteQ s ++ [125, 125, 121]) = false := by
    unfold remB
    rw [hbody, hL]
    rfl
  have hi : innerN (quoteQ s ++ [125, 125, 121]) = some (quoteQ s).length := by
    unfold innerN
    rw [hrem, if_neg (by simp), hL]
    have e1 : closesL false (34 :: (inQ s ++ 34 :: [125, 125, 121])) = (closesL true (inQ s ++ 34 :: [125, 125, 121])).map (· + 1) := by
      conv => lhs; unfold closesL
      rfl
    have e2 : closesL false [125, 125, 121] = some 0 := by decide +kernel
    rw [e1, closes_in, e2]
    show some (0 + ((inQ s).length + 1) + 1) = some (quoteQ s).length
    unfold quoteQ
    simp
  have e : (123 :: 123 :: (quoteQ s ++ [125, 125, 121])).length + 1 = ((quoteQ s).length + 4 + 1) + 1 := by simp
  unfold itemsL
  rw [e, items_act _ _ _ _ 0 (quoteQ s).length (show findL [123, 123] (123 :: 123 :: (quoteQ s ++ [125, 125, 121])) = some 0 from find_behind [] _ (by unfold Plain; decide)) hi]
  have hd : (123 :: 123 :: (quoteQ s ++ [125, 125, 121])).drop (0 + 2) = quoteQ s ++ [125, 125, 121] := rfl
  have hd2 : (123 :: 123 :: (quoteQ s ++ [125, 125, 121])).drop (0 + 2 + (quoteQ s).length + 2) = [121] := by
    rw [← List.drop_drop, ← List.drop_drop, hd, List.drop_left]; rfl
  have ht : (quoteQ s ++ [125, 125, 121]).take (quoteQ s).length = quoteQ s := List.take_left
  have hg : gather ⟨[], 0, false, []⟩ (123 :: 123 :: (quoteQ s ++ [125, 125, 121])) 0 0 = ⟨[], 0, false, []⟩ := by rw [gather_plain _ rfl, if_neg (by decide)]
  rw [hd, hd2, ht, hrem, items_last _ _ _ _ (by unfold Plain; decide), hg]
  have hact : actI ⟨[], 0, false, []⟩ (quoteQ s) false (0 + 0) = ⟨[], 0, false, [⟨2, quoteQ s, 0⟩]⟩ := by
    have l1 : leadB (quoteQ s) = false := rfl
    have hrev : (quoteQ s).reverse = 34 :: ((inQ s).reverse ++ [34]) := by unfold quoteQ; simp
    have l2 : tailB (quoteQ s) = false := by unfold tailB; rw [hrev]; rfl
    have l3 : frontL (quoteQ s) = quoteQ s := by
      unfold frontL quoteQ
      rw [List.dropWhile_cons_of_neg (by decide)]
    have l4 : backL (quoteQ s) = quoteQ s := by
      unfold backL
      rw [hrev, List.dropWhile_cons_of_neg (by decide), ← hrev, List.reverse_reverse]
    unfold actI
    simp only [l1, Bool.false_eq_true, if_false, l2, l3, l4]
    rfl
  rw [hact, gather_plain _ rfl, textI_eq]
  simp [pieceL]
  omega
end Go.Proofs.YtmccbcficbbidaaGreatDoor.Lex

/-
  Plain facts on decimal digits, with no program: the digits of a number, a text as a number, there and back.
-/
namespace Go.Proofs.YtmccbcficbbidaaGreatDoor.Num
open Go.Proofs.YtmccbcficbbidaaGreatDoor.Oct

/-- The digits of u, the lowest first; none of 0. -/
def rest (u : Nat) : List Nat := if u = 0 then [] else (u % 10) :: rest (u / 10)
termination_by u
decreasing_by omega

/-- The digits of u, the lowest first; one of 0. -/
def lowL (u : Nat) : List Nat := (u % 10) :: rest (u / 10)
/-- A digit's octet. -/
def dig (d : Nat) : UInt8 := UInt8.ofNat (48 + d)
/-- The digits of u as a text. -/
def decL (u : Nat) : List UInt8 := (lowL u).reverse.map dig
/-- A number as a text. -/
def printL (n : Int) : List UInt8 := if n < 0 then 45 :: decL n.natAbs else decL n.natAbs

theorem rest_zero : rest 0 = [] := by rw [rest]; rfl
theorem rest_pos {u : Nat} (h : 0 < u) : rest u = (u % 10) :: rest (u / 10) := by rw [rest, if_neg (by omega)]
theorem rest_low {u : Nat} (h : 0 < u) : rest u = lowL u := rest_pos h
theorem rest_lt (u : Nat) : ∀ d ∈ rest u, d < 10 := by
  induction u using Nat.strongRecOn with
  | ind u ih =>
    intro d hd
    by_cases h : u = 0
    · rw [h, rest_zero] at hd; cases hd
    · rw [rest_pos (by omega)] at hd
      rcases List.mem_cons.1 hd with rfl | hd
      · omega
      · exact ih (u / 10) (by omega) d hd
theorem lowL_lt (u : Nat) : ∀ d ∈ lowL u, d < 10 := by
  intro d hd
  rcases List.mem_cons.1 hd with rfl | hd
  · omega
  · exact rest_lt _ d hd
theorem rest_len (k : Nat) : ∀ u, u < 10 ^ k → (rest u).length ≤ k := by
  induction k with
  | zero => intro u h; have : u = 0 := by simpa using h
            rw [this, rest_zero]; simp
  | succ k ih =>
    intro u h
    by_cases hz : u = 0
    · rw [hz, rest_zero]; simp
    · rw [rest_pos (by omega), List.length_cons]
      have := ih (u / 10) (by rw [Nat.pow_succ] at h; omega)
      omega
theorem lowL_len {u : Nat} (h : u < 10000000000000000000) : (lowL u).length ≤ 19 := by
  have := rest_len 18 (u / 10) (by omega)
  unfold lowL; rw [List.length_cons]; omega
theorem lowL_ne (u : Nat) : lowL u ≠ [] := by unfold lowL; simp

theorem decL_len (u : Nat) : (decL u).length = (lowL u).length := by simp [decL]
theorem decL_ne (u : Nat) : decL u ≠ [] := by
  intro h; have := decL_len u; rw [h] at this; exact lowL_ne u (List.eq_nil_of_length_eq_zero this.symm)
theorem decL_lt {u : Nat} (h : u < 10) : decL u = [dig u] := by
  have e : u / 10 = 0 := by omega
  have m : u % 10 = u := by omega
  simp [decL, lowL, e, m, rest_zero]
theorem decL_ge {u : Nat} (h : 10 ≤ u) : decL u = decL (u / 10) ++ [dig (u % 10)] := by
  unfold decL
  rw [show lowL u = (u % 10) :: lowL (u / 10) by unfold lowL; rw [rest_pos (u := u / 10) (by omega)]]
  simp
theorem decL_snoc {v d : Nat} (hv : 0 < v) (hd : d < 10) : decL (v * 10 + d) = decL v ++ [dig d] := by
  rw [decL_ge (by omega), show (v * 10 + d) / 10 = v by omega, show (v * 10 + d) % 10 = d by omega]

/-- What an octet counts as a digit. -/
def cnt (c : UInt8) : Nat := c.toNat - 48
def isDig (c : UInt8) : Bool := decide (48 ≤ c.toNat ∧ c.toNat ≤ 57)
def valD (l : List UInt8) : Nat := l.foldl (fun n c => n * 10 + cnt c) 0

theorem dig_toNat {d : Nat} (h : d < 10) : (dig d).toNat = 48 + d := by
  unfold dig; rw [UInt8.toNat_ofNat']; omega
theorem cnt_dig {d : Nat} (h : d < 10) : cnt (dig d) = d := by unfold cnt; rw [dig_toNat h]; omega
theorem isDig_dig {d : Nat} (h : d < 10) : isDig (dig d) = true := by unfold isDig; rw [dig_toNat h]; exact decide_eq_true (by omega)
theorem dig_cnt {c : UInt8} (h : isDig c = true) : dig (cnt c) = c := by
  have h' := of_decide_eq_true h
  apply UInt8.toNat_inj.1
  rw [dig_toNat (by unfold cnt; omega)]
  unfold cnt; omega
theorem cnt_lt {c : UInt8} (h : isDig c = true) : cnt c < 10 := by have h' := of_decide_eq_true h; unfold cnt; omega

theorem valD_snoc (l : List UInt8) (c : UInt8) : valD (l ++ [c]) = valD l * 10 + cnt c := by simp [valD]
theorem valD_lt (l : List UInt8) (h : ∀ c ∈ l, isDig c = true) : valD l < 10 ^ l.length := by
  have gen : ∀ (l : List UInt8) (a e : Nat), (∀ c ∈ l, isDig c = true) → a < 10 ^ e → l.foldl (fun n c => n * 10 + cnt c) a < 10 ^ (e + l.length) := by
    intro l
    induction l with
    | nil => intro a e _ h; simpa using h
    | cons c l ih =>
      intro a e hc h
      have h1 := cnt_lt (hc c (List.mem_cons_self ..))
      have := ih (a * 10 + cnt c) (e + 1) (fun d hd => hc d (List.mem_cons_of_mem _ hd)) (by rw [Nat.pow_succ]; omega)
      rw [List.foldl_cons, List.length_cons, show e + (l.length + 1) = e + 1 + l.length by omega]
      exact this
  have := gen l 0 0 h (by simp)
  simpa [valD] using this
theorem valD_take {l : List UInt8} (k : Nat) (h : ∀ c ∈ l, isDig c = true) (hk : k ≤ 18) : valD (l.take k) < 1000000000000000000 := by
  have h1 := valD_lt (l.take k) (fun c hc => h c (List.mem_of_mem_take hc))
  have h2 : 10 ^ (l.take k).length ≤ 10 ^ 18 := Nat.pow_le_pow_right (by omega) (by rw [List.length_take]; omega)
  omega
theorem valD_all {l : List UInt8} (h : ∀ c ∈ l, isDig c = true) (hl : l.length ≤ 19) : valD l < 10000000000000000000 := by
  have h1 := valD_lt l h
  have h2 : 10 ^ l.length ≤ 10 ^ 19 := Nat.pow_le_pow_right (by omega) hl
  omega

theorem decL_dig (u : Nat) : ∀ c ∈ decL u, isDig c = true := by
  intro c hc
  obtain ⟨d, hd, rfl⟩ := List.mem_map.1 hc
  exact isDig_dig (lowL_lt u d (List.mem_reverse.1 hd))
theorem valD_decL (u : Nat) : valD (decL u) = u := by
  induction u using Nat.strongRecOn with
  | ind u ih =>
    by_cases h : u < 10
    · rw [decL_lt h]; simp [valD, cnt_dig h]
    · rw [decL_ge (by omega), valD_snoc, ih _ (by omega), cnt_dig (by omega)]; omega
theorem decL_head (u : Nat) (h : 0 < u) : (decL u).head? ≠ some 48 := by
  induction u using Nat.strongRecOn with
  | ind u ih =>
    by_cases h1 : u < 10
    · rw [decL_lt h1, List.head?_cons]
      intro e
      have e1 := congrArg UInt8.toNat (Option.some.inj e)
      rw [dig_toNat h1] at e1
      have : (48 : UInt8).toNat = 48 := rfl
      omega
    · rw [decL_ge (by omega), List.head?_append]
      have := ih (u / 10) (by omega) (by omega)
      cases hh : (decL (u / 10)).head? with
      | none => exact absurd (List.head?_eq_none_iff.1 hh) (decL_ne _)
      | some c => rw [hh] at this; simpa using this

/-- A text of digits without a 0 ahead is that of its number. -/
theorem decL_valD (n : Nat) : ∀ t : List UInt8, t.length = n → t ≠ [] → (∀ c ∈ t, isDig c = true) → (t.head? = some 48 → t.length = 1) → decL (valD t) = t ∧ (t.head? ≠ some 48 → 0 < valD t) := by
  induction n with
  | zero => intro t hl hne; exact absurd (List.eq_nil_of_length_eq_zero hl) hne
  | succ n ih =>
    intro t hl hne hd hh
    obtain ⟨l, c, rfl⟩ : ∃ l c, t = l ++ [c] := ⟨_, _, (List.dropLast_concat_getLast hne).symm⟩
    have hc := hd c (by simp)
    by_cases hln : l = []
    · subst hln
      have e : valD ([] ++ [c]) = cnt c := by simp [valD]
      rw [e, decL_lt (cnt_lt hc), dig_cnt hc]
      refine ⟨rfl, fun h => ?_⟩
      by_cases h0 : cnt c = 0
      · exfalso; apply h
        rw [← dig_cnt hc, h0]; rfl
      · omega
    · have hll : l.length = n := by simp at hl; exact hl
      have hhd : (l ++ [c]).head? = l.head? := by
        cases l with
        | nil => exact absurd rfl hln
        | cons a l => rfl
      have hn0 : l.head? ≠ some 48 := by
        intro e
        have := hh (by rw [hhd]; exact e)
        rw [List.length_append, List.length_singleton] at this
        exact hln (List.eq_nil_of_length_eq_zero (by omega))
      obtain ⟨h1, h2⟩ := ih l hll hln (fun d hdl => hd d (by simp [hdl])) (fun e => absurd e hn0)
      have hv := h2 hn0
      rw [valD_snoc, decL_snoc hv (cnt_lt hc), h1, dig_cnt hc]
      exact ⟨rfl, fun _ => by omega⟩

/-- Digits alone. -/
def allDig (l : List UInt8) : Bool := l.all isDig
theorem allDig_of {l : List UInt8} (h : ∀ c ∈ l, isDig c = true) : allDig l = true := List.all_eq_true.2 h
theorem allDig_mem {l : List UInt8} (h : allDig l = true) : ∀ c ∈ l, isDig c = true := List.all_eq_true.1 h
theorem allDig_no {l : List UInt8} {c : UInt8} (hc : c ∈ l) (h : isDig c = false) : allDig l = false := List.all_eq_false.2 ⟨c, hc, by rw [h]; simp⟩

/-- The number of that size, below 0 or not, and the error's. -/
def signedL (u : Nat) (below : Bool) : Int × Nat :=
  if below then (if u ≤ 9223372036854775808 then (-(u : Int), 0) else (0, 4)) else (if u ≤ 9223372036854775807 then ((u : Int), 0) else (0, 4))
/-- What comes of the digits t, - ahead or not. -/
def parseT (below : Bool) (t : List UInt8) : Int × Nat :=
  if t = [] then (0, 8) else if allDig t = false then (0, 33) else if t.head? = some 48 ∧ (below = true ∨ 1 < t.length) then (0, 33) else if 19 < t.length then (0, 4) else signedL (valD t) below
def parseL (l : List UInt8) : Int × Nat := if l.head? = some 45 then parseT true l.tail else parseT false l

theorem head_dig {t : List UInt8} (hd : ∀ c ∈ t, isDig c = true) : t.head? ≠ some 45 := by
  intro h
  cases t with
  | nil => cases h
  | cons a t =>
    have ha := hd a (by simp)
    rw [Option.some.inj h] at ha
    exact absurd ha (by decide)

theorem parse_print (n : Int) (h0 : -9223372036854775808 ≤ n) (h1 : n ≤ 9223372036854775807) : parseL (printL n) = (n, 0) := by
  have hall : ∀ u, allDig (decL u) = true := fun u => allDig_of (decL_dig u)
  have hlen : ∀ u, u < 10000000000000000000 → ¬ 19 < (decL u).length := fun u h => by rw [decL_len]; have := lowL_len h; omega
  unfold parseL printL
  by_cases hn : n < 0
  · rw [if_pos hn, if_pos (by rfl), List.tail_cons]
    unfold parseT
    rw [if_neg (decL_ne _), if_neg (by rw [hall]; simp), if_neg (fun h => decL_head _ (by omega) h.1), if_neg (hlen _ (by omega)), valD_decL]
    unfold signedL
    rw [if_pos rfl, if_pos (by omega)]
    congr 1; omega
  · rw [if_neg hn, if_neg (head_dig (decL_dig _))]
    unfold parseT
    rw [if_neg (decL_ne _), if_neg (by rw [hall]; simp)]
    rw [if_neg (by
      intro ⟨h48, h⟩
      by_cases hz : n.natAbs = 0
      · rw [hz, decL_lt (by omega)] at h; simp at h
      · exact decL_head _ (by omega) h48), if_neg (hlen _ (by omega)), valD_decL]
    unfold signedL
    rw [if_neg (by simp), if_pos (by omega)]
    congr 1; omega

theorem print_parse (l : List UInt8) (k : Int) (h : parseL l = (k, 0)) : printL k = l := by
  have gen : ∀ (below : Bool) (t : List UInt8), parseT below t = (k, 0) → printL k = (if below then 45 :: t else t) := by
    intro below t h
    unfold parseT at h
    by_cases c1 : t = []
    · rw [if_pos c1] at h; simp at h
    rw [if_neg c1] at h
    by_cases c2 : allDig t = false
    · rw [if_pos c2] at h; simp at h
    rw [if_neg c2] at h
    by_cases c3 : t.head? = some 48 ∧ (below = true ∨ 1 < t.length)
    · rw [if_pos c3] at h; simp at h
    rw [if_neg c3] at h
    by_cases c4 : 19 < t.length
    · rw [if_pos c4] at h; simp at h
    rw [if_neg c4] at h
    have hd : ∀ c ∈ t, isDig c = true := allDig_mem (by simpa using c2)
    have hlen1 : 0 < t.length := List.length_pos_iff.2 c1
    have hone : t.head? = some 48 → t.length = 1 := fun e => by
      by_cases hq : 1 < t.length
      · exact absurd ⟨e, .inr hq⟩ c3
      · omega
    obtain ⟨hb, hp⟩ := decL_valD t.length t rfl c1 hd hone
    unfold signedL at h
    cases below with
    | true =>
      have hv := hp (fun e => c3 ⟨e, .inl rfl⟩)
      rw [if_pos rfl] at h
      by_cases c5 : valD t ≤ 9223372036854775808
      · rw [if_pos c5] at h
        have hk : k = -(valD t : Int) := (Prod.mk.inj h).1.symm
        unfold printL
        rw [if_pos (by omega), show k.natAbs = valD t by omega, hb]
        rfl
      · rw [if_neg c5] at h; simp at h
    | false =>
      rw [if_neg (by simp)] at h
      by_cases c5 : valD t ≤ 9223372036854775807
      · rw [if_pos c5] at h
        have hk : k = (valD t : Int) := (Prod.mk.inj h).1.symm
        unfold printL
        rw [if_neg (by omega), show k.natAbs = valD t by omega, hb]
        rfl
      · rw [if_neg c5] at h; simp at h
  unfold parseL at h
  by_cases c : l.head? = some 45
  · rw [if_pos c] at h
    have := gen true l.tail h
    rw [this, if_pos rfl]
    cases l with
    | nil => cases c
    | cons a l => rw [Option.some.inj c]; rfl
  · rw [if_neg c] at h
    exact gen false l h
end Go.Proofs.YtmccbcficbbidaaGreatDoor.Num
