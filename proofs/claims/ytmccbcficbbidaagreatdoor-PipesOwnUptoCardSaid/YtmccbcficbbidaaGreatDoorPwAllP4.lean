/-
  Part 4: PwShow, PwMadeP.
-/
import Derived.Test.YtmccbcficbbidaaGreatDoorPwAllP3
/-
  What package pipes prints of any pipeline, with no program; of one that may be it is the words that are read again.
-/
namespace Go.Proofs.YtmccbcficbbidaaGreatDoor.Pw
open Go.Proofs.YtmccbcficbbidaaGreatDoor.Oct Go.Proofs.YtmccbcficbbidaaGreatDoor.Num Go.Proofs.YtmccbcficbbidaaGreatDoor.Lex Go.Proofs.YtmccbcficbbidaaGreatDoor.Pip

/-- The word of any argument. -/
def wordG (a : Ar) : List UInt8 :=
  if a.k = 1 then (if a.p = [] then [46] else pathL a.p) else if a.k = 2 then 36 :: (a.n ++ pathL a.p) else if a.k = 3 then printL a.i else if a.k = 4 then quoteQ a.x
  else if a.k = 5 then cTrue else if a.k = 6 then cFalse else if a.k = 7 then cNil else []
theorem may_kind {a : Ar} (h : mayA a = true) : 1 ≤ a.k ∧ a.k ≤ 7 := by
  unfold mayA at h
  simp only [Bool.and_eq_true, decide_eq_true_eq] at h
  exact ⟨h.1.1.1.1.2.1, h.1.1.1.1.2.2.1⟩
theorem wordG_show {a : Ar} (h : mayA a = true) : wordG a = showA a := by
  have hk := may_kind h
  unfold wordG showA
  repeat' split
  all_goals first | rfl | omega
/-- One more word behind what stands there. -/
def putS (o t : List UInt8) : List UInt8 := if t = [] then o else if o = [] then t else o ++ 32 :: t
theorem put_nil (o : List UInt8) : putS o [] = o := by unfold putS; rw [if_pos rfl]
theorem put_first {t : List UInt8} : putS [] t = t := by
  unfold putS
  split
  · rename_i h; exact h.symm
  · rw [if_pos rfl]
theorem put_next {o t : List UInt8} (ho : o ≠ []) (ht : t ≠ []) : putS o t = o ++ 32 :: t := by unfold putS; rw [if_neg ht, if_neg ho]
theorem put_le (o t : List UInt8) : o.length ≤ (putS o t).length := by
  unfold putS
  split
  · exact Nat.le_refl _
  · split
    · rename_i h; rw [h]; exact Nat.zero_le _
    · rw [List.length_append]; omega
theorem put_ge (o t : List UInt8) : (putS o t).length ≤ o.length + t.length + 1 := by
  unfold putS
  split
  · omega
  · split
    · omega
    · rw [List.length_append, List.length_cons]; omega
theorem puts_le (l : List (List UInt8)) : ∀ o, o.length ≤ (l.foldl putS o).length := by
  induction l with
  | nil => exact fun o => Nat.le_refl _
  | cons t l ih => exact fun o => Nat.le_trans (put_le o t) (ih _)
theorem joinB_cons (l : List (List UInt8)) : ∀ a, joinB (a :: l) = a ++ l.flatMap (fun x => 32 :: x) := by
  induction l with
  | nil => intro a; simp [joinB]
  | cons b l ih => intro a; rw [show joinB (a :: b :: l) = a ++ 32 :: joinB (b :: l) from by simp [joinB], ih b]; simp
theorem puts_flat (l : List (List UInt8)) (h : ∀ x ∈ l, x ≠ []) : ∀ o, o ≠ [] → l.foldl putS o = o ++ l.flatMap (fun x => 32 :: x) := by
  induction l with
  | nil => intro o _; simp
  | cons b l ih =>
    intro o ho
    rw [List.foldl_cons, put_next ho (h b (by simp)), ih (fun x hx => h x (by simp [hx])) _ (by simp)]
    simp
theorem puts_join (l : List (List UInt8)) (h : ∀ x ∈ l, x ≠ []) : l.foldl putS [] = joinB l := by
  cases l with
  | nil => rfl
  | cons a l => rw [List.foldl_cons, put_first, puts_flat l (fun x hx => h x (by simp [hx])) _ (h a (by simp)), joinB_cons]
/-- What is put of one call behind so many, and of many. -/
def piecesC (k : Nat) (c : Ca) : List (List UInt8) := (if 0 < k then [[124]] else []) ++ (c.n :: c.as.map wordG)
def piecesP : Nat → List Ca → List (List UInt8)
  | _, [] => []
  | k, c :: t => piecesC k c ++ piecesP (k + 1) t
/-- What Print tells. -/
def printG (cs : List Ca) : List UInt8 := (piecesP 0 cs).foldl putS []
theorem pieces_snoc (l : List Ca) (c : Ca) : ∀ k, piecesP k (l ++ [c]) = piecesP k l ++ piecesC (k + l.length) c := by
  induction l with
  | nil => intro k; simp [piecesP]
  | cons a l ih =>
    intro k
    rw [List.cons_append]
    show piecesC k a ++ piecesP (k + 1) (l ++ [c]) = (piecesC k a ++ piecesP (k + 1) l) ++ piecesC (k + (l.length + 1)) c
    rw [ih (k + 1), List.append_assoc, show k + 1 + l.length = k + (l.length + 1) from by omega]
theorem pieces_app (l m : List Ca) : ∀ k, piecesP k (l ++ m) = piecesP k l ++ piecesP (k + l.length) m := by
  induction l with
  | nil => intro k; simp [piecesP]
  | cons a l ih =>
    intro k
    rw [List.cons_append]
    show piecesC k a ++ piecesP (k + 1) (l ++ m) = (piecesC k a ++ piecesP (k + 1) l) ++ piecesP (k + (l.length + 1)) m
    rw [ih (k + 1), List.append_assoc, show k + 1 + l.length = k + (l.length + 1) from by omega]
/-- The calls of so many have been put. -/
def outP (cs : List Ca) (i : Nat) : List UInt8 := (piecesP 0 (cs.take i)).foldl putS []
theorem outP_all (cs : List Ca) : outP cs cs.length = printG cs := by unfold outP printG; rw [List.take_length]
theorem outP_zero (cs : List Ca) : outP cs 0 = [] := rfl
/-- Within a call: its bar and name, and so many arguments. -/
def outA (o : List UInt8) (k : Nat) (c : Ca) (j : Nat) : List UInt8 := ((c.as.take j).map wordG).foldl putS (putS (if 0 < k then putS o [124] else o) c.n)
theorem outA_zero (o : List UInt8) (k : Nat) (c : Ca) : outA o k c 0 = putS (if 0 < k then putS o [124] else o) c.n := rfl
theorem outA_next (o : List UInt8) (k : Nat) (c : Ca) (j : Nat) (h : j < c.as.length) : outA o k c (j + 1) = putS (outA o k c j) (wordG c.as[j]) := by
  unfold outA
  rw [List.take_succ_eq_append_getElem h, List.map_append, List.foldl_append]
  rfl
theorem outP_next (cs : List Ca) (i : Nat) (h : i < cs.length) : outP cs (i + 1) = outA (outP cs i) i cs[i] cs[i].as.length := by
  unfold outP outA
  rw [List.take_succ_eq_append_getElem h, pieces_snoc, List.foldl_append, List.take_length, List.length_take, Nat.zero_add, Nat.min_eq_left (by omega)]
  unfold piecesC
  rw [List.foldl_append]
  by_cases h0 : 0 < i
  · rw [if_pos h0, if_pos h0]; rfl
  · rw [if_neg h0, if_neg h0]; rfl
theorem outA_le (o : List UInt8) (k : Nat) (c : Ca) (j : Nat) : (outA o k c j).length ≤ (outA o k c c.as.length).length := by
  unfold outA
  conv => rhs; rw [← List.take_append_drop j (c.as.take c.as.length)]
  rw [List.take_take, List.map_append, List.foldl_append, List.take_length]
  by_cases h : j ≤ c.as.length
  · rw [Nat.min_eq_left h]; exact puts_le _ _
  · rw [Nat.min_eq_right (by omega), List.take_length, List.take_of_length_le (by omega)]; exact puts_le _ _
theorem outP_le (cs : List Ca) (i : Nat) : (outP cs i).length ≤ (printG cs).length := by
  unfold outP printG
  conv => rhs; rw [← List.take_append_drop i cs, pieces_app, List.foldl_append]
  exact puts_le _ _
theorem outA_in (cs : List Ca) (i j : Nat) (h : i < cs.length) : (outA (outP cs i) i cs[i] j).length ≤ (printG cs).length := by
  refine Nat.le_trans (outA_le _ _ _ _) ?_
  rw [← outP_next cs i h]
  exact outP_le cs (i + 1)
/-- Of one that may be: the words that stand for it. -/
theorem pieces_words (cs : List Ca) : ∀ k o, mayF k cs = true → (piecesP k cs).foldl putS o = ((if 0 < k ∧ cs ≠ [] then [[124]] else []) ++ (wordsP cs).map Prod.fst).foldl putS o := by
  induction cs with
  | nil => intro k o _; simp [piecesP, wordsP]
  | cons c t ih =>
    intro k o h
    rw [show mayF k (c :: t) = (mayC k c && mayF (k + 1) t) from rfl, Bool.and_eq_true] at h
    have hall : ∀ a ∈ c.as, mayA a = true := by
      have h1 := h.1
      unfold mayC at h1
      rw [Bool.and_eq_true, List.all_eq_true] at h1
      exact h1.1
    have hmap : c.as.map wordG = c.as.map showA := List.map_congr_left fun a ha => wordG_show (hall a ha)
    have hw : (wordsC c).map Prod.fst = (if c.n = [] then [] else [c.n]) ++ c.as.map showA := by
      unfold wordsC
      rw [List.map_append, List.map_map]
      congr 1
      split <;> rfl
    have hfold : ∀ q, (c.n :: c.as.map wordG).foldl putS q = ((wordsC c).map Prod.fst).foldl putS q := fun q => by
      rw [hw, hmap, List.foldl_append, List.foldl_cons]
      by_cases hn : c.n = []
      · rw [if_pos hn, hn, put_nil]; rfl
      · rw [if_neg hn]; rfl
    have hbar : (if 0 < k ∧ c :: t ≠ [] then [[124]] else [] : List (List UInt8)) = if 0 < k then [[124]] else [] := by
      by_cases h0 : 0 < k
      · rw [if_pos h0, if_pos ⟨h0, by simp⟩]
      · rw [if_neg h0, if_neg (fun h => h0 h.1)]
    rw [show piecesP k (c :: t) = piecesC k c ++ piecesP (k + 1) t from rfl, List.foldl_append, ih _ _ h.2]
    unfold piecesC
    rw [show wordsP (c :: t) = wordsC c ++ (if t = [] then [] else ([124], ⟨6, [124]⟩) :: wordsP t) from rfl, hbar]
    simp only [List.foldl_append, List.map_append]
    rw [hfold]
    by_cases ht : t = []
    · subst ht
      rw [show (if 0 < k + 1 ∧ ([] : List Ca) ≠ [] then [[124]] else [] : List (List UInt8)) = [] from if_neg (fun h => h.2 rfl)]
      rfl
    · rw [show (if 0 < k + 1 ∧ t ≠ [] then [[124]] else [] : List (List UInt8)) = [[124]] from if_pos ⟨by omega, ht⟩, if_neg ht]
      rfl
theorem print_show (p : List Ca) (h : mayP p = true) (hi : Ints p) : printG p = showP p := by
  unfold mayP at h
  rw [Bool.and_eq_true] at h
  unfold printG showP
  rw [pieces_words p 0 [] h.2, if_neg (fun h => absurd h.1 (Nat.lt_irrefl 0)), List.nil_append]
  refine puts_join _ fun x hx => ?_
  obtain ⟨y, hy, rfl⟩ := List.mem_map.1 hx
  exact (words_one p 0 h.2 hi y hy).1
end Go.Proofs.YtmccbcficbbidaaGreatDoor.Pw

/-
  What package pipes asks of an argument, with no program: it is what the page asks.
-/
namespace Go.Proofs.YtmccbcficbbidaaGreatDoor.Pw
open Go.Proofs.YtmccbcficbbidaaGreatDoor.Oct Go.Proofs.YtmccbcficbbidaaGreatDoor.Num Go.Proofs.YtmccbcficbbidaaGreatDoor.Lex Go.Proofs.YtmccbcficbbidaaGreatDoor.Pip

/-- What is left of an argument if only what its kind uses is kept. -/
def usedA (a : Ar) : Ar :=
  if a.k = 1 then ⟨a.k, [], a.p, 0, []⟩ else if a.k = 2 then ⟨a.k, a.n, a.p, 0, []⟩ else if a.k = 3 then ⟨a.k, [], [], a.i, []⟩ else if a.k = 4 then ⟨a.k, [], [], 0, a.x⟩ else ⟨a.k, [], [], 0, []⟩
def madeB (a : Ar) : Bool := decide (a = usedA a) && (decide (a.n = []) || nameB a.n) && (decide (a.p.length ≤ 16) && a.p.all nameB) && decide (a.x.length ≤ 4096)
theorem not_made {a : Ar} (h : ¬ (1 ≤ a.k ∧ a.k ≤ 7)) : mayA a = false := by
  unfold mayA
  rw [decide_eq_false (fun hh => h ⟨hh.1, hh.2.1⟩)]
  simp
theorem may_made {a : Ar} (h : 1 ≤ a.k ∧ a.k ≤ 7) : mayA a = madeB a := by
  obtain ⟨k, n, p, i, x⟩ := a
  simp only at h
  rw [Bool.eq_iff_iff]
  rcases (by omega : k = 1 ∨ k = 2 ∨ k = 3 ∨ k = 4 ∨ k = 5 ∨ k = 6 ∨ k = 7) with rfl | rfl | rfl | rfl | rfl | rfl | rfl
  all_goals simp [mayA, madeB, usedA]
  all_goals grind
/-- Lengths that a string or a list may have. -/
def SzR (a : Ar) : Prop := a.p.length ≤ 9223372036854775807 ∧ a.n.length ≤ 9223372036854775807 ∧ a.x.length ≤ 9223372036854775807 ∧ ∀ n ∈ a.p, n.length ≤ 9223372036854775807
theorem all_at {ns : List (List UInt8)} {i : Nat} (hi : i < ns.length) (h : nameB ns[i] = false) : ns.all nameB = false := by
  rw [List.all_eq_false]
  exact ⟨ns[i], List.getElem_mem hi, by rw [h]; simp⟩
theorem all_take {ns : List (List UInt8)} {i : Nat} (hi : i < ns.length) (h : (ns.take i).all nameB = true) (h2 : nameB ns[i] = true) : (ns.take (i + 1)).all nameB = true := by
  rw [List.take_succ_eq_append_getElem hi, List.all_append, h]
  simp [h2]
theorem all_at2 {al : List Ar} {i : Nat} (hi : i < al.length) (h : mayA al[i] = false) : al.all mayA = false := by
  rw [List.all_eq_false]
  exact ⟨al[i], List.getElem_mem hi, by rw [h]; simp⟩
theorem all_take2 {al : List Ar} {i : Nat} (hi : i < al.length) (h : (al.take i).all mayA = true) (h2 : mayA al[i] = true) : (al.take (i + 1)).all mayA = true := by
  rw [List.take_succ_eq_append_getElem hi, List.all_append, h]
  simp [h2]
end Go.Proofs.YtmccbcficbbidaaGreatDoor.Pw
