/-
  Plain facts on character references, with no program: the page's way of reading one, and a beginning of one, is the same.
-/
import Derived.Test.YtlekaibiofkleaaCrfPure
import Derived.Lib.Strings
namespace Go.Proofs.Ytlekaibiofkleaa.Crf
open Go.Proofs.Ytlekaibiofkleaa.Oct Go.Proofs.Ytlekaibiofkleaa.Num Go.Proofs.Ytlekaibiofkleaa.Utf
open Go.Lib (encodeRune)

/-- How many digits stand at the head. -/
def runN (base : Int) (l : List UInt8) : Nat := (l.takeWhile (digB base)).length
theorem runN_le (base : Int) (l : List UInt8) : runN base l ≤ l.length := (List.takeWhile_prefix _).length_le
theorem runN_take (base : Int) (l : List UInt8) : l.take (runN base l) = l.takeWhile (digB base) := by
  have h : l.takeWhile (digB base) <+: l := List.takeWhile_prefix _
  exact (List.prefix_iff_eq_take.1 h).symm
theorem runN_all (base : Int) (l : List UInt8) : (l.take (runN base l)).all (digB base) = true := by
  rw [runN_take]
  exact List.all_eq_true.2 fun c hc => mem_tw _ _ c hc
theorem runN_at (base : Int) (l t : List UInt8) (h : l.all (digB base) = true) : runN base (l ++ 59 :: t) = l.length := by
  unfold runN
  rw [List.takeWhile_append_of_pos (List.all_eq_true.1 h)]
  have : digB base 59 = false := by
    cases hd : digB base 59 with
    | false => rfl
    | true => exact absurd rfl (no59 59 base hd)
  rw [List.takeWhile_cons_of_neg (by rw [this]; simp)]
  simp
theorem runN_full (base : Int) (l : List UInt8) : runN base l = l.length ↔ l.all (digB base) = true := by
  constructor
  · intro h
    have := runN_all base l
    rw [h, List.take_length] at this
    exact this
  · intro h
    unfold runN
    have : l.takeWhile (digB base) = l := by
      have := List.takeWhile_append_of_pos (l₂ := []) (List.all_eq_true.1 h)
      simpa using this
    rw [this]

/-- The number at the head, u standing behind the sign. -/
def pNum (u : List UInt8) : List UInt8 × Nat :=
  if 1 ≤ runN (baseOf u) (digsOf u) ∧ runN (baseOf u) (digsOf u) ≤ 7 ∧ (digsOf u)[runN (baseOf u) (digsOf u)]? = some 59
  then (standL (valB (baseOf u) ((digsOf u).take (runN (baseOf u) (digsOf u)))), 2 + (if isHex u then 1 else 0) + runN (baseOf u) (digsOf u) + 1) else ([], 0)
def pOne (l : List UInt8) : List UInt8 × Nat :=
  if Lib.hasPrefix l [38, 97, 109, 112, 59] then ([38], 5) else if Lib.hasPrefix l [38, 108, 116, 59] then ([60], 4) else if Lib.hasPrefix l [38, 103, 116, 59] then ([62], 4)
  else if Lib.hasPrefix l [38, 113, 117, 111, 116, 59] then ([34], 6) else if Lib.hasPrefix l [38, 97, 112, 111, 115, 59] then ([39], 6)
  else if Lib.hasPrefix l [38, 35] then pNum (l.drop 2) else ([], 0)
def pUnf (l : List UInt8) : Bool :=
  decide (l.head? = some 38) && (Lib.hasPrefix [38, 97, 109, 112] l || Lib.hasPrefix [38, 108, 116] l || Lib.hasPrefix [38, 103, 116] l || Lib.hasPrefix [38, 113, 117, 111, 116] l || Lib.hasPrefix [38, 97, 112, 111, 115] l
    || (Lib.hasPrefix l [38, 35] && decide (runN (baseOf (l.drop 2)) (digsOf (l.drop 2)) ≤ 7 ∧ runN (baseOf (l.drop 2)) (digsOf (l.drop 2)) = (digsOf (l.drop 2)).length)))

theorem pre_iff (l p : List UInt8) : Lib.hasPrefix l p = true ↔ p <+: l := by
  unfold Lib.hasPrefix
  exact List.isPrefixOf_iff_prefix
theorem pre_cut {l p : List UInt8} (h : Lib.hasPrefix l p = true) : ∃ t, l = p ++ t := by
  obtain ⟨t, ht⟩ := (pre_iff l p).1 h
  exact ⟨t, ht.symm⟩

theorem hex_front (u t : List UInt8) : isHex (u ++ 59 :: t) = isHex u := by
  cases u with
  | nil => rfl
  | cons c u => rfl
theorem digs_front (u t : List UInt8) : digsOf (u ++ 59 :: t) = digsOf u ++ 59 :: t := by
  unfold digsOf
  rw [hex_front]
  cases u with
  | nil => rfl
  | cons c u => cases isHex (c :: u) <;> simp
theorem base_front (u t : List UInt8) : baseOf (u ++ 59 :: t) = baseOf u := by unfold baseOf; rw [hex_front]
theorem digs_len (u : List UInt8) : u.length = (digsOf u).length + if isHex u then 1 else 0 := by
  rcases digs_cases u with ⟨h, c, _, e⟩ | ⟨h, e⟩
  · rw [h]
    have := congrArg List.length e
    simpa using this
  · rw [h, e]; simp

theorem pNum_yes (u t : List UInt8) (h1 : (digsOf u).length ≤ 7) (h2 : (digsOf u).all (digB (baseOf u)) = true) (h0 : digsOf u ≠ []) : pNum (u ++ 59 :: t) = (standL (valB (baseOf u) (digsOf u)), u.length + 3) := by
  have hr := runN_at (baseOf u) (digsOf u) t h2
  have hp := List.length_pos_iff.2 h0
  unfold pNum
  rw [digs_front, base_front, hex_front, hr, if_pos ⟨hp, h1, by simp⟩, List.take_left, digs_len u]
  congr 1
  omega
theorem digs_hex (c : UInt8) (l : List UInt8) (h : isHex (c :: l) = true) : digsOf (c :: l) = l := by
  unfold digsOf
  rw [h]
  rfl
/-- If there is a number, there is a reference. -/
theorem pNum_ref (u : List UInt8) (h : (pNum u).2 ≠ 0) : ∃ i t, 35 :: u = i ++ 59 :: t ∧ refR i ≠ [] := by
  unfold pNum at h
  split at h
  · rename_i hc
    obtain ⟨c1, c2, c3⟩ := hc
    generalize hn : runN (baseOf u) (digsOf u) = n at c1 c2 c3
    have hall := runN_all (baseOf u) (digsOf u)
    rw [hn] at hall
    obtain ⟨hlt, hat⟩ := List.getElem?_eq_some_iff.1 c3
    have hs : digsOf u = (digsOf u).take n ++ 59 :: (digsOf u).drop (n + 1) := by
      conv => lhs; rw [← List.take_append_drop n (digsOf u), List.drop_eq_getElem_cons hlt, hat]
    have hne : (digsOf u).take n ≠ [] := by
      intro e
      have := congrArg List.length e
      rw [List.length_take, List.length_nil] at this
      omega
    rcases digs_cases u with ⟨hh, c, hc, e⟩ | ⟨hh, e⟩
    · have hx1 : isHex (c :: (digsOf u).take n) = true := by rcases hc with rfl | rfl <;> rfl
      have e1 : digsOf (c :: (digsOf u).take n) = (digsOf u).take n := digs_hex c _ hx1
      have e2 : baseOf (c :: (digsOf u).take n) = baseOf u := by unfold baseOf; rw [hx1, hh]
      refine ⟨35 :: c :: (digsOf u).take n, (digsOf u).drop (n + 1), ?_, ?_⟩
      · rw [List.cons_append, List.cons_append, ← hs, ← e]
      · rw [ref_num _ (by rw [e1, List.length_take]; omega) (by rw [e1, e2]; exact hall) (by rw [e1]; exact hne)]
        exact stand_ne _
    · rw [e] at hs hall hne hlt
      have hx1 : isHex (u.take n) = false := by
        rw [← hh]
        cases u with
        | nil => simp
        | cons c u =>
          cases n with
          | zero => omega
          | succ n => rfl
      have e1 : digsOf (u.take n) = u.take n := by unfold digsOf; rw [hx1]; simp
      have e2 : baseOf (u.take n) = baseOf u := by unfold baseOf; rw [hx1, hh]
      refine ⟨35 :: u.take n, u.drop (n + 1), by rw [List.cons_append, ← hs], ?_⟩
      rw [ref_num _ (by rw [e1, List.length_take]; omega) (by rw [e1, e2]; exact hall) (by rw [e1]; exact hne)]
      exact stand_ne _
  · exact absurd rfl h
theorem pNum_zero (u : List UInt8) (h : (pNum u).2 = 0) : pNum u = ([], 0) := by
  unfold pNum at h ⊢
  split
  · rename_i hc
    rw [if_pos hc] at h
    simp at h
  · rfl

theorem one_pos (i t : List UInt8) (h : refR i ≠ []) : (oneL (38 :: (i ++ 59 :: t))).2 ≠ 0 := by rw [one_of i t h]; simp

theorem pOne_eq (l : List UInt8) : pOne l = oneL l := by
  by_cases hz : (oneL l).2 = 0
  · rw [one_zero hz]
    have no : ∀ i t, refR i ≠ [] → l ≠ 38 :: (i ++ 59 :: t) := fun i t hr e => one_pos i t hr (e ▸ hz)
    unfold pOne
    split
    · rename_i hp; obtain ⟨t, e⟩ := pre_cut hp; exact absurd e (no amp t (by decide))
    · split
      · rename_i hp; obtain ⟨t, e⟩ := pre_cut hp; exact absurd e (no lt' t (by decide))
      · split
        · rename_i hp; obtain ⟨t, e⟩ := pre_cut hp; exact absurd e (no gt' t (by decide))
        · split
          · rename_i hp; obtain ⟨t, e⟩ := pre_cut hp; exact absurd e (no quot t (by decide))
          · split
            · rename_i hp; obtain ⟨t, e⟩ := pre_cut hp; exact absurd e (no apos t (by decide))
            · split
              · rename_i hp
                obtain ⟨t, e⟩ := pre_cut hp
                have ed : l.drop 2 = t := by rw [e]; rfl
                rw [ed]
                by_cases hn : (pNum t).2 = 0
                · exact pNum_zero t hn
                · obtain ⟨i, v, e2, hr⟩ := pNum_ref t hn
                  exfalso
                  refine no i v hr ?_
                  rw [e, ← e2]
                  rfl
              · rfl
  · obtain ⟨i, t, rfl, hr, he⟩ := one_some hz
    rw [he]
    by_cases hn : nameR i = []
    · have hr' := hr
      unfold refR at hr'
      rw [hn] at hr'
      cases hk : numR i with
      | none => rw [hk] at hr'; exact absurd rfl hr'
      | some q =>
        obtain ⟨n, d⟩ := q
        obtain ⟨u, rfl, h1, h2, -, h4⟩ := num_some hk
        rw [hk] at hr'
        have h0 : digsOf u ≠ [] := by
          intro e
          rw [e] at h4
          rw [h4] at hr'
          simp at hr'
        have hy := pNum_yes u t h1 h2 h0
        rw [ref_num u h1 h2 h0]
        unfold pOne
        simp only [Lib.hasPrefix, List.cons_append, List.isPrefixOf, List.drop_succ_cons, List.drop_zero]
        rw [hy]
        simp
    · rcases name_cases hn with rfl | rfl | rfl | rfl | rfl
      · simp [pOne, Lib.hasPrefix, List.isPrefixOf, refR, nameR]
      · simp [pOne, Lib.hasPrefix, List.isPrefixOf, refR, nameR]
      · simp [pOne, Lib.hasPrefix, List.isPrefixOf, refR, nameR]
      · simp [pOne, Lib.hasPrefix, List.isPrefixOf, refR, nameR]
      · simp [pOne, Lib.hasPrefix, List.isPrefixOf, refR, nameR]

theorem pUnf_eq (l : List UInt8) : pUnf l = unfL l := by
  by_cases hh : l.head? = some 38
  · cases l with
    | nil => cases hh
    | cons c b =>
      rw [List.head?_cons] at hh
      injection hh with hh
      subst hh
      have hn : (numR b).isSome = (Lib.hasPrefix (38 :: b) [38, 35] && decide (runN (baseOf ((38 :: b).drop 2)) (digsOf ((38 :: b).drop 2)) ≤ 7 ∧ runN (baseOf ((38 :: b).drop 2)) (digsOf ((38 :: b).drop 2)) = (digsOf ((38 :: b).drop 2)).length)) := by
        cases b with
        | nil => rfl
        | cons a b =>
          by_cases ha : a = 35
          · subst ha
            have e : Lib.hasPrefix (38 :: 35 :: b) [38, 35] = true := by rfl
            rw [e, Bool.true_and]
            show (numR (35 :: b)).isSome = decide (runN (baseOf b) (digsOf b) ≤ 7 ∧ runN (baseOf b) (digsOf b) = (digsOf b).length)
            unfold numR
            rw [List.tail_cons, List.head?_cons]
            by_cases hc : (digsOf b).length ≤ 7 ∧ (digsOf b).all (digB (baseOf b)) = true
            · rw [if_pos ⟨rfl, hc⟩]
              have := (runN_full _ _).2 hc.2
              rw [this]
              simp [hc.1]
            · rw [if_neg (fun h => hc h.2)]
              symm
              refine decide_eq_false fun h => hc ⟨by rw [← h.2]; exact h.1, (runN_full _ _).1 h.2⟩
          · have e : Lib.hasPrefix (38 :: a :: b) [38, 35] = false := by
              simp [Lib.hasPrefix, List.isPrefixOf]
              exact fun h => ha h.symm
            rw [e, Bool.false_and]
            unfold numR
            rw [if_neg (by simp [ha])]
            rfl
      show (decide ((38 :: b).head? = some 38) && (_ || _ || _ || _ || _ || _)) = (begName b || (numR b).isSome)
      rw [← hn]
      have hb : begName b = (Lib.hasPrefix [38, 97, 109, 112] (38 :: b) || Lib.hasPrefix [38, 108, 116] (38 :: b) || Lib.hasPrefix [38, 103, 116] (38 :: b) || Lib.hasPrefix [38, 113, 117, 111, 116] (38 :: b) || Lib.hasPrefix [38, 97, 112, 111, 115] (38 :: b)) := by
        unfold begName
        rw [Bool.eq_iff_iff]
        simp only [decide_eq_true_eq, Bool.or_eq_true, pre_iff, List.cons_prefix_cons, true_and, or_assoc]
      rw [hb]
      simp
  · have h1 : unfL l = false := by
      unfold unfL
      split
      · simp at hh
      · rfl
    rw [h1]
    unfold pUnf
    rw [decide_eq_false hh, Bool.false_and]
end Go.Proofs.Ytlekaibiofkleaa.Crf
