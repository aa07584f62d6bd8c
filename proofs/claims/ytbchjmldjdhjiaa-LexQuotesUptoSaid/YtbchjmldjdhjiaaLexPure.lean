/-
  Templates as pieces, and texts as words, with no program: what a text without actions, a trimming action, a remark, a quoted text give.
-/
import Derived.Test.YtbchjmldjdhjiaaFindPure
namespace Go.Proofs.Ytbchjmldjdhjiaa.Lex
open Go.Proofs.Ytbchjmldjdhjiaa.Oct

def bl (c : UInt8) : Bool := blankI (c.toNat : Int)
/-- A piece: 1 a text, 2 an action. -/
structure It where
  k : Nat
  x : List UInt8
  p : Nat
deriving DecidableEq
/-- Where }} stands that no quotes hide. -/
def closesL : Bool → List UInt8 → Option Nat
  | _, [] => none
  | true, 92 :: [] => none
  | true, 92 :: _ :: t => (closesL true t).map (· + 2)
  | q, c :: t => if c = 34 then (closesL (!q) t).map (· + 1) else if q = false ∧ [125, 125].isPrefixOf (c :: t) = true then some 0 else (closesL q t).map (· + 1)
def skipN (l : List UInt8) : Nat := (l.takeWhile bl).length
def backL (l : List UInt8) : List UInt8 := (l.reverse.dropWhile bl).reverse
def frontL (l : List UInt8) : List UInt8 := l.dropWhile bl
/-- What was gathered: the text on its way, its place, whether blanks are left out, the pieces. -/
structure Ls where
  t : List UInt8
  p : Nat
  trim : Bool
  out : List It
def textI (u : Ls) : List It := if u.t = [] then u.out else u.out ++ [⟨1, u.t, u.p⟩]
/-- A text up to an action, or to the end: m octets long, at a place. -/
def gather (u : Ls) (l : List UInt8) (m at_ : Nat) : Ls :=
  if (if u.trim then min (skipN l) m else 0) < m then
    ⟨u.t ++ (l.take m).drop (if u.trim then min (skipN l) m else 0), if u.t = [] then at_ + (if u.trim then min (skipN l) m else 0) else u.p, false, u.out⟩
  else u
def bodyN (l : List UInt8) : Nat := if l.head? = some 45 then 1 + skipN (l.drop 1) else skipN l
def remB (l : List UInt8) : Bool := [47, 42].isPrefixOf (l.drop (bodyN l))
/-- How many octets stand in an action, behind its {{ . -/
def innerN (l : List UInt8) : Option Nat :=
  if remB l then (match findL [42, 47] (l.drop (bodyN l + 2)) with
    | none => none
    | some k => (closesL false (l.drop (bodyN l + 2 + k + 2))).map (· + (bodyN l + 2 + k + 2)))
  else closesL false l
def leadB (t : List UInt8) : Bool := match t with
  | 45 :: c :: _ => bl c
  | _ => false
def tailB (t : List UInt8) : Bool := leadB t.reverse
/-- An action: what is within it (l: all behind its {{ ), at a place. -/
def actI (u : Ls) (t : List UInt8) (rem : Bool) (at_ : Nat) : Ls :=
  let u1 : Ls := if leadB t then { u with t := backL u.t } else u
  let t1 := if leadB t then t.drop 1 else t
  let t2 := if tailB t1 then t1.dropLast else t1
  if rem then { u1 with trim := tailB t1 } else ⟨[], u1.p, tailB t1, textI u1 ++ [⟨2, backL (frontL t2), at_⟩]⟩
/-- The pieces, or the place of an action without an end. -/
def itemsF : Nat → Ls → List UInt8 → Nat → Except Nat (List It)
  | 0, u, _, _ => .ok u.out
  | f + 1, u, l, at_ => match findL [123, 123] l with
    | none => .ok (textI (gather u l l.length at_))
    | some n => match innerN (l.drop (n + 2)) with
      | none => .error (at_ + n)
      | some m => itemsF f (actI (gather u l n at_) ((l.drop (n + 2)).take m) (remB (l.drop (n + 2))) (at_ + n)) (l.drop (n + 2 + m + 2)) (at_ + n + 2 + m + 2)
def itemsL (l : List UInt8) : Except Nat (List It) := itemsF (l.length + 1) ⟨[], 0, false, []⟩ l 0

/-- No {{ in a text. -/
def Plain (l : List UInt8) : Prop := findL [123, 123] l = none
theorem plain_tail {c : UInt8} {t : List UInt8} (h : Plain (c :: t)) : Plain t := by
  unfold Plain findL at h
  split at h
  · cases h
  · exact Option.map_eq_none_iff.1 h
theorem plain_head {c : UInt8} {t : List UInt8} (h : Plain (c :: t)) : [123, 123].isPrefixOf (c :: t) = false := by
  unfold Plain findL at h
  split at h
  · cases h
  · rename_i q
    cases hq : [123, 123].isPrefixOf (c :: t) with
    | false => rfl
    | true => exact absurd hq q
/-- Behind a text that has no {{ , nor makes one, the first is the next one. -/
theorem find_behind (a l : List UInt8) (h : Plain (a ++ [123])) : findL [123, 123] (a ++ 123 :: 123 :: l) = some a.length := by
  induction a with
  | nil =>
    show findL [123, 123] (123 :: 123 :: l) = some 0
    unfold findL
    rw [if_pos (by simp [List.isPrefixOf])]
  | cons c t ih =>
    have h1 := plain_head h
    have h2 := ih (plain_tail h)
    rw [List.cons_append]
    unfold findL
    have e : [123, 123].isPrefixOf (c :: (t ++ 123 :: 123 :: l)) = false := by
      cases t with
      | nil =>
        have h1 : [123, 123].isPrefixOf [c, 123] = false := h1
        simp [List.isPrefixOf] at h1 ⊢
        exact h1
      | cons d t =>
        have h1 : [123, 123].isPrefixOf (c :: d :: (t ++ [123])) = false := h1
        simp [List.isPrefixOf] at h1 ⊢
        exact h1
    rw [if_neg (by rw [e]; simp), h2]
    rfl
theorem items_last (f : Nat) (u : Ls) (l : List UInt8) (at_ : Nat) (h : Plain l) : itemsF (f + 1) u l at_ = .ok (textI (gather u l l.length at_)) := by
  unfold itemsF
  rw [show findL [123, 123] l = none from h]
theorem items_act (f : Nat) (u : Ls) (l : List UInt8) (at_ n m : Nat) (h1 : findL [123, 123] l = some n) (h2 : innerN (l.drop (n + 2)) = some m) :
    itemsF (f + 1) u l at_ = itemsF f (actI (gather u l n at_) ((l.drop (n + 2)).take m) (remB (l.drop (n + 2))) (at_ + n)) (l.drop (n + 2 + m + 2)) (at_ + n + 2 + m + 2) := by
  conv => lhs; unfold itemsF
  rw [h1]
  simp only [h2]
theorem gather_plain (u : Ls) (h : u.trim = false) (l : List UInt8) (m at_ : Nat) : gather u l m at_ = if 0 < m then ⟨u.t ++ l.take m, if u.t = [] then at_ else u.p, false, u.out⟩ else u := by
  unfold gather
  rw [h]
  simp
/-- LexTexts: a text without {{ is one piece. -/
theorem lex_text (l : List UInt8) (h : Plain l) : itemsL l = .ok (if l = [] then [] else [⟨1, l, 0⟩]) := by
  unfold itemsL
  rw [items_last _ _ _ _ h, gather_plain _ rfl]
  cases l with
  | nil => rfl
  | cons c t =>
    rw [if_pos (by simp)]
    simp [textI]
theorem lex_dot (l : List UInt8) (h : Plain l) : itemsL ([123, 123, 46, 125, 125] ++ l) = .ok (⟨2, [46], 0⟩ :: (if l = [] then [] else [⟨1, l, 5⟩])) := by
  unfold itemsL
  have e : ([123, 123, 46, 125, 125] ++ l).length + 1 = (l.length + 4 + 1) + 1 := by simp
  rw [e, items_act _ _ _ _ 0 1 (show findL [123, 123] ([123, 123, 46, 125, 125] ++ l) = some 0 from find_behind [] (46 :: 125 :: 125 :: l) (by unfold Plain; decide)) (by
    show innerN (46 :: 125 :: 125 :: l) = some 1
    unfold innerN
    have e1 : remB (46 :: 125 :: 125 :: l) = false := by
      have e2 : bodyN (46 :: 125 :: 125 :: l) = 0 := rfl
      unfold remB
      rw [e2]
      rfl
    rw [e1, if_neg (by simp)]
    simp [closesL, List.isPrefixOf])]
  show itemsF (l.length + 4 + 1) _ l _ = _
  rw [items_last _ _ _ _ h]
  have e1 : remB (46 :: 125 :: 125 :: l) = false := by
    have e2 : bodyN (46 :: 125 :: 125 :: l) = 0 := rfl
    unfold remB
    rw [e2]
    rfl
  have e3 : actI (gather ⟨[], 0, false, []⟩ ([123, 123, 46, 125, 125] ++ l) 0 0) [46] false 0 = ⟨[], 0, false, [⟨2, [46], 0⟩]⟩ := by
    rw [gather_plain _ rfl, if_neg (by decide)]
    rfl
  show Except.ok (textI (gather (actI (gather ⟨[], 0, false, []⟩ ([123, 123, 46, 125, 125] ++ l) 0 0) [46] (remB (46 :: 125 :: 125 :: l)) 0) l l.length 5)) = _
  rw [e1, e3, gather_plain _ rfl]
  cases l with
  | nil => rfl
  | cons c t =>
    rw [if_pos (by simp)]
    simp [textI]

/-! ### Trims -/
theorem front_drop (l : List UInt8) : frontL l = l.drop (skipN l) := by
  induction l with
  | nil => rfl
  | cons c t ih =>
    unfold frontL skipN at ih ⊢
    cases h : bl c with
    | true => rw [List.dropWhile_cons_of_pos h, List.takeWhile_cons_of_pos h, ih]; rfl
    | false => rw [List.dropWhile_cons_of_neg (by rw [h]; simp), List.takeWhile_cons_of_neg (by rw [h]; simp)]; rfl
theorem skip_le (l : List UInt8) : skipN l ≤ l.length := by
  unfold skipN
  exact (List.takeWhile_prefix _).length_le
/-- A text as a piece, if it is not empty. -/
def pieceL (t : List UInt8) (p : Nat) : List It := if t = [] then [] else [⟨1, t, p⟩]
theorem textI_eq (u : Ls) : textI u = u.out ++ pieceL u.t u.p := by
  unfold textI pieceL
  split <;> simp
theorem gather_trim (o : List It) (p : Nat) (b : List UInt8) (at_ : Nat) : textI (gather ⟨[], p, true, o⟩ b b.length at_) = o ++ pieceL (frontL b) (at_ + skipN b) := by
  have hle := skip_le b
  unfold gather
  simp only [if_true]
  rw [Nat.min_eq_left hle, front_drop]
  by_cases h : skipN b < b.length
  · rw [if_pos h, textI_eq]
    show o ++ pieceL ([] ++ (b.take b.length).drop (skipN b)) (at_ + skipN b) = _
    rw [List.take_length, List.nil_append]
  · rw [if_neg h, textI_eq, List.drop_of_length_le (by omega)]
    rfl
theorem gather_start (a l : List UInt8) : gather ⟨[], 0, false, []⟩ (a ++ l) a.length 0 = ⟨a, 0, false, []⟩ := by
  rw [gather_plain _ rfl, List.take_left]
  cases a with
  | nil => rfl
  | cons c t => rw [if_pos (by simp)]; rfl
abbrev trimI : List UInt8 := [45, 32, 46, 120, 32, 45]
theorem lex_trims (a b : List UInt8) (ha : Plain (a ++ [123])) (hb : Plain b) :
    itemsL (a ++ 123 :: 123 :: (trimI ++ 125 :: 125 :: b)) = .ok (pieceL (backL a) 0 ++ [⟨2, [46, 120], a.length⟩] ++ pieceL (frontL b) (a.length + 10 + skipN b)) := by
  unfold itemsL
  have e : (a ++ 123 :: 123 :: (trimI ++ 125 :: 125 :: b)).length + 1 = (a.length + b.length + 9 + 1) + 1 := by simp; omega
  have hd : (a ++ 123 :: 123 :: (trimI ++ 125 :: 125 :: b)).drop (a.length + 2) = trimI ++ 125 :: 125 :: b := by
    rw [← List.drop_drop, List.drop_left]; rfl
  have hr : remB (trimI ++ 125 :: 125 :: b) = false := by
    have e1 : bodyN (trimI ++ 125 :: 125 :: b) = 2 := rfl
    unfold remB
    rw [e1]
    rfl
  have hi : innerN (trimI ++ 125 :: 125 :: b) = some 6 := by
    unfold innerN
    rw [hr, if_neg (by simp)]
    simp [closesL, List.isPrefixOf]
  rw [e, items_act _ _ _ _ a.length 6 (find_behind a _ ha) (by rw [hd]; exact hi), hd, hr, gather_start]
  have hd2 : (a ++ 123 :: 123 :: (trimI ++ 125 :: 125 :: b)).drop (a.length + 2 + 6 + 2) = b := by
    rw [← List.drop_drop, ← List.drop_drop, hd]; rfl
  rw [hd2, items_last _ _ _ _ hb]
  have ht : (trimI ++ 125 :: 125 :: b).take 6 = trimI := rfl
  rw [ht]
  have hact : actI ⟨a, 0, false, []⟩ trimI false (0 + a.length) = ⟨[], 0, true, pieceL (backL a) 0 ++ [⟨2, [46, 120], a.length⟩]⟩ := by
    unfold actI
    have l1 : leadB trimI = true := by decide +kernel
    have l2 : tailB (trimI.drop 1) = true := by decide +kernel
    have l3 : backL (frontL ((trimI.drop 1).dropLast)) = [46, 120] := by decide +kernel
    simp only [l1, l2, if_true, l3, textI_eq, List.nil_append, Nat.zero_add]
    rfl
  rw [hact, gather_trim]
  congr 3
  omega

/-! ### Remarks -/
theorem find_star (r l : List UInt8) (h : ∀ c ∈ r, c ≠ 42) : findL [42, 47] (r ++ 42 :: 47 :: l) = some r.length := by
  induction r with
  | nil =>
    show findL [42, 47] (42 :: 47 :: l) = some 0
    unfold findL
    rw [if_pos (by simp [List.isPrefixOf])]
  | cons c t ih =>
    rw [List.cons_append]
    unfold findL
    have hc := h c (by simp)
    have e : [42, 47].isPrefixOf (c :: (t ++ 42 :: 47 :: l)) = false := by
      have e1 : ((42 : UInt8) == c) = false := by rw [beq_eq_false_iff_ne]; exact fun q => hc q.symm
      simp [List.isPrefixOf, e1]
    rw [if_neg (by rw [e]; simp), ih (fun d hd => h d (by simp [hd]))]
    rfl
theorem lex_remarks (a r b : List UInt8) (ha : Plain (a ++ [123])) (hb : Plain b) (hr : ∀ c ∈ r, c ≠ 42) :
    ∃ p, itemsL (a ++ 123 :: 123 :: (([47, 42] ++ r ++ [42, 47]) ++ 125 :: 125 :: b)) = .ok (pieceL (a ++ b) p) := by
  have hL : ([47, 42] ++ r ++ [42, 47]) ++ 125 :: 125 :: b = 47 :: 42 :: (r ++ 42 :: 47 :: 125 :: 125 :: b) := by simp
  have e : (a ++ 123 :: 123 :: (([47, 42] ++ r ++ [42, 47]) ++ 125 :: 125 :: b)).length + 1 = (a.length + r.length + b.length + 7 + 1) + 1 := by simp; omega
  have hd : (a ++ 123 :: 123 :: (([47, 42] ++ r ++ [42, 47]) ++ 125 :: 125 :: b)).drop (a.length + 2) = ([47, 42] ++ r ++ [42, 47]) ++ 125 :: 125 :: b := by
    rw [← List.drop_drop, List.drop_left]; rfl
  have hbody : bodyN (([47, 42] ++ r ++ [42, 47]) ++ 125 :: 125 :: b) = 0 := by rw [hL]; rfl
  have hrem : remB (([47, 42] ++ r ++ [42, 47]) ++ 125 :: 125 :: b) = true := by
    unfold remB
    rw [hbody, hL]
    simp [List.isPrefixOf]
  have hi : innerN (([47, 42] ++ r ++ [42, 47]) ++ 125 :: 125 :: b) = some (r.length + 4) := by
    unfold innerN
    rw [hrem, if_pos rfl, hbody, hL]
    have e1 : (47 :: 42 :: (r ++ 42 :: 47 :: 125 :: 125 :: b)).drop (0 + 2) = r ++ 42 :: 47 :: 125 :: 125 :: b := rfl
    rw [e1, find_star r _ hr]
    have e2 : (47 :: 42 :: (r ++ 42 :: 47 :: 125 :: 125 :: b)).drop (0 + 2 + r.length + 2) = 125 :: 125 :: b := by
      rw [show 0 + 2 + r.length + 2 = (0 + 2) + (r.length + 2) by omega, ← List.drop_drop, e1, ← List.drop_drop, List.drop_left]; rfl
    simp only [e2]
    have e3 : closesL false (125 :: 125 :: b) = some 0 := by simp [closesL, List.isPrefixOf]
    rw [e3]
    show some (0 + (0 + 2 + r.length + 2)) = some (r.length + 4)
    congr 1
    omega
  unfold itemsL
  rw [e, items_act _ _ _ _ a.length (r.length + 4) (find_behind a _ ha) (by rw [hd]; exact hi), hd, hrem, gather_start]
  have ht : (([47, 42] ++ r ++ [42, 47]) ++ 125 :: 125 :: b).take (r.length + 4) = [47, 42] ++ r ++ [42, 47] := by
    rw [List.take_append_of_le_length (by simp), List.take_of_length_le (by simp)]
  have hd2 : (a ++ 123 :: 123 :: (([47, 42] ++ r ++ [42, 47]) ++ 125 :: 125 :: b)).drop (a.length + 2 + (r.length + 4) + 2) = b := by
    have e4 : ([47, 42] ++ r ++ [42, 47]).length = r.length + 4 := by simp
    rw [← List.drop_drop, ← List.drop_drop, hd, ← e4, List.drop_left]
    rfl
  rw [ht, hd2, items_last _ _ _ _ hb]
  have hact : actI ⟨a, 0, false, []⟩ ([47, 42] ++ r ++ [42, 47]) true (0 + a.length) = ⟨a, 0, false, []⟩ := by
    have l1 : leadB ([47, 42] ++ r ++ [42, 47]) = false := rfl
    have l2 : tailB ([47, 42] ++ r ++ [42, 47]) = false := by
      unfold tailB
      rw [List.reverse_append]
      rfl
    unfold actI
    simp only [l1, Bool.false_eq_true, if_false, l2, if_true]
  rw [hact, gather_plain _ rfl]
  by_cases h0 : 0 < b.length
  · rw [if_pos h0, textI_eq, List.take_length]
    exact ⟨_, rfl⟩
  · have : b = [] := List.eq_nil_of_length_eq_zero (by omega)
    rw [if_neg h0, textI_eq, this, List.append_nil]
    exact ⟨_, rfl⟩

/-! ### Quoted texts -/
def escQ (c : UInt8) : List UInt8 := if c = 10 then [92, 110] else if c = 9 then [92, 116] else if c = 92 then [92, 92] else if c = 34 then [92, 34] else [c]
def inQ (s : List UInt8) : List UInt8 := s.flatMap escQ
def quoteQ (s : List UInt8) : List UInt8 := 34 :: (inQ s ++ [34])
theorem inQ_cons (c : UInt8) (s : List UInt8) : inQ (c :: s) = escQ c ++ inQ s := by unfold inQ; rw [List.flatMap_cons]
theorem closes_two (c : UInt8) (t : List UInt8) : closesL true (92 :: c :: t) = (closesL true t).map (· + 2) := by
  simp only [closesL]
theorem closes_one (c : UInt8) (t : List UInt8) (h1 : c ≠ 92) (h2 : c ≠ 34) : closesL true (c :: t) = (closesL true t).map (· + 1) := by
  rw [closesL.eq_def]
  split
  all_goals simp_all
theorem closes_in (s t : List UInt8) : closesL true (inQ s ++ 34 :: t) = (closesL false t).map (· + ((inQ s).length + 1)) := by
  induction s with
  | nil =>
    show closesL true (34 :: t) = _
    conv => lhs; unfold closesL
    rfl
  | cons c s ih =>
    rw [inQ_cons, List.append_assoc]
    have hmap : ∀ (o : Option Nat) (x y : Nat), (o.map (· + x)).map (· + y) = o.map (· + (x + y)) := fun o x y => by
      cases o with
      | none => rfl
      | some v => show some (v + x + y) = some (v + (x + y)); congr 1; omega
    unfold escQ
    split
    · rw [List.cons_append, List.cons_append, List.nil_append, closes_two, ih, hmap]; congr 1
    · split
      · rw [List.cons_append, List.cons_append, List.nil_append, closes_two, ih, hmap]; congr 1
      · split
        · rw [List.cons_append, List.cons_append, List.nil_append, closes_two, ih, hmap]; congr 1
        · split
          · rw [List.cons_append, List.cons_append, List.nil_append, closes_two, ih, hmap]; congr 1
          · rename_i h92 h34
            rw [List.singleton_append, closes_one c _ h92 h34, ih, hmap]; congr 1
/-- What a quoted text says, and what stands behind it. -/
def strL : List UInt8 → Option (List UInt8 × List UInt8)
  | [] => none
  | 34 :: t => some ([], t)
  | 92 :: c :: t => if c = 110 then (strL t).map fun x => (10 :: x.1, x.2) else if c = 116 then (strL t).map fun x => (9 :: x.1, x.2)
      else if c = 92 ∨ c = 34 then (strL t).map fun x => (c :: x.1, x.2) else none
  | c :: t => if c = 10 ∨ c = 92 then none else (strL t).map fun x => (c :: x.1, x.2)
theorem str_esc (c : UInt8) (t : List UInt8) : strL (92 :: c :: t) = if c = 110 then (strL t).map fun x => (10 :: x.1, x.2) else if c = 116 then (strL t).map fun x => (9 :: x.1, x.2)
      else if c = 92 ∨ c = 34 then (strL t).map fun x => (c :: x.1, x.2) else none := by simp only [strL]
theorem str_one (c : UInt8) (t : List UInt8) (h1 : c ≠ 92) (h2 : c ≠ 34) (h3 : c ≠ 10) : strL (c :: t) = (strL t).map fun x => (c :: x.1, x.2) := by
  rw [strL.eq_def]
  split
  all_goals simp_all
theorem str_quote (s t : List UInt8) : strL (inQ s ++ 34 :: t) = some (s, t) := by
  induction s with
  | nil => simp [inQ, strL]
  | cons c s ih =>
    rw [inQ_cons, List.append_assoc]
    unfold escQ
    split
    · rename_i h; subst h
      rw [List.cons_append, List.cons_append, List.nil_append, str_esc, if_pos rfl, ih]; rfl
    · split
      · rename_i h; subst h
        rw [List.cons_append, List.cons_append, List.nil_append, str_esc, if_neg (by decide), if_pos rfl, ih]; rfl
      · split
        · rename_i h; subst h
          rw [List.cons_append, List.cons_append, List.nil_append, str_esc, if_neg (by decide), if_neg (by decide), if_pos (.inl rfl), ih]; rfl
        · split
          · rename_i h; subst h
            rw [List.cons_append, List.cons_append, List.nil_append, str_esc, if_neg (by decide), if_neg (by decide), if_pos (.inr rfl), ih]; rfl
          · rename_i h10 h9 h92 h34
            rw [List.singleton_append, str_one c _ h92 h34 h10, ih]; rfl
theorem lex_quote (s : List UInt8) : itemsL (123 :: 123 :: (quoteQ s ++ [125, 125, 121])) = .ok [⟨2, quoteQ s, 0⟩, ⟨1, [121], (quoteQ s).length + 4⟩] := by
  have hL : quoteQ s ++ [125, 125, 121] = 34 :: (inQ s ++ 34 :: [125, 125, 121]) := by unfold quoteQ; simp
  have hbody : bodyN (quoteQ s ++ [125, 125, 121]) = 0 := by rw [hL]; rfl
  have hrem : remB (quoteQ s ++ [125, 125, 121]) = false := by
    unfold remB
    rw [hbody, hL]
    rfl
  have hi : innerN (quoteQ s ++ [125, 125, 121]) = some (quoteQ s).length := by
    unfold innerN
    rw [hrem, if_neg (by simp), hL]
    have e1 : closesL false (34 :: (inQ s ++ 34 :: [125, 125, 121])) = (closesL true (inQ s ++ 34 :: [125, 125, 121])).map (· + 1) := by
      conv => lhs; unfold closesL
      rfl
    have e2 : closesL false [125, 125, 121] = some 0 := by decide +kernel
    rw [e1, closes_in, e2]
    show some (0 + ((inQ s).length + 1) + 1) = some (quoteQ s).length
    unfold quoteQ
    simp
  have e : (123 :: 123 :: (quoteQ s ++ [125, 125, 121])).length + 1 = ((quoteQ s).length + 4 + 1) + 1 := by simp
  unfold itemsL
  rw [e, items_act _ _ _ _ 0 (quoteQ s).length (show findL [123, 123] (123 :: 123 :: (quoteQ s ++ [125, 125, 121])) = some 0 from find_behind [] _ (by unfold Plain; decide)) hi]
  have hd : (123 :: 123 :: (quoteQ s ++ [125, 125, 121])).drop (0 + 2) = quoteQ s ++ [125, 125, 121] := rfl
  have hd2 : (123 :: 123 :: (quoteQ s ++ [125, 125, 121])).drop (0 + 2 + (quoteQ s).length + 2) = [121] := by
    rw [← List.drop_drop, ← List.drop_drop, hd, List.drop_left]; rfl
  have ht : (quoteQ s ++ [125, 125, 121]).take (quoteQ s).length = quoteQ s := List.take_left
  have hg : gather ⟨[], 0, false, []⟩ (123 :: 123 :: (quoteQ s ++ [125, 125, 121])) 0 0 = ⟨[], 0, false, []⟩ := by rw [gather_plain _ rfl, if_neg (by decide)]
  rw [hd, hd2, ht, hrem, items_last _ _ _ _ (by unfold Plain; decide), hg]
  have hact : actI ⟨[], 0, false, []⟩ (quoteQ s) false (0 + 0) = ⟨[], 0, false, [⟨2, quoteQ s, 0⟩]⟩ := by
    have l1 : leadB (quoteQ s) = false := rfl
    have hrev : (quoteQ s).reverse = 34 :: ((inQ s).reverse ++ [34]) := by unfold quoteQ; simp
    have l2 : tailB (quoteQ s) = false := by unfold tailB; rw [hrev]; rfl
    have l3 : frontL (quoteQ s) = quoteQ s := by
      unfold frontL quoteQ
      rw [List.dropWhile_cons_of_neg (by decide)]
    have l4 : backL (quoteQ s) = quoteQ s := by
      unfold backL
      rw [hrev, List.dropWhile_cons_of_neg (by decide), ← hrev, List.reverse_reverse]
    unfold actI
    simp only [l1, Bool.false_eq_true, if_false, l2, l3, l4]
    rfl
  rw [hact, gather_plain _ rfl, textI_eq]
  simp [pieceL]
  omega
end Go.Proofs.Ytbchjmldjdhjiaa.Lex
