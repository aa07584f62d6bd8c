/-
  Part 31: JscPure, RowKit, UtfLaid.
-/
import Derived.Test.YtganmmkdcaphfaaGreatDoorJsBaseP14
import Derived.Test.YtganmmkdcaphfaaGreatDoorRows
import Derived.WalkKit
import Derived.ProofKit
import Derived.OpenShut
import Derived.JoinedCond
import Derived.SizedLaws
import Derived.Test.YtganmmkdcaphfaaGreatDoorCards
import Derived.Test.YtganmmkdcaphfaaGreatDoorTie
import Derived.Test.YtganmmkdcaphfaaGreatDoorJsBaseP9
import Derived.Lib.LaidU8
import Derived.Deep.DeepHandedRow
/-
  Plain facts on where in a script a text stands, with no program: its parts, octet by octet; an escaped text in a string, remarks, a value's literal.
-/
namespace Go.Proofs.YtganmmkdcaphfaaGreatDoor.Jsc
open Go.Proofs.YtganmmkdcaphfaaGreatDoor.Oct Go.Proofs.YtganmmkdcaphfaaGreatDoor.Num Go.Proofs.YtganmmkdcaphfaaGreatDoor.Utf Go.Proofs.YtganmmkdcaphfaaGreatDoor.Val Go.Proofs.YtganmmkdcaphfaaGreatDoor.Lit

abbrev St := Int × List UInt8
def wordB (c : UInt8) : Bool := letterI (c.toNat : Int) || digitI (c.toNat : Int) || c == 95 || c == 36 || decide (127 < c.toNat)
def blankB (c : UInt8) : Bool := blankI (c.toNat : Int)
def lineB (c : UInt8) : Bool := c == 10 || c == 13
/-- return typeof case in of delete void throw new else do instanceof. -/
def keys : List (List UInt8) := [[114, 101, 116, 117, 114, 110], [116, 121, 112, 101, 111, 102], [99, 97, 115, 101], [105, 110], [111, 102], [100, 101, 108, 101, 116, 101], [118, 111, 105, 100], [116, 104, 114, 111, 119], [110, 101, 119], [101, 108, 115, 101], [100, 111], [105, 110, 115, 116, 97, 110, 99, 101, 111, 102]]
def keyB (w : List UInt8) : Bool := keys.contains w
def codeJ (p : Int) (w : List UInt8) (c : UInt8) : St :=
  if wordB c then (1, if w.length < 16 then w ++ [c] else w)
  else if blankB c then (if keyB w then 0 else p, []) else if c = 34 then (2, []) else if c = 39 then (3, []) else if c = 96 then (15, [])
  else if c = 47 then (13 + (if keyB w then 0 else p), []) else if c = 41 ∨ c = 93 ∨ c = 125 then (1, []) else (0, [])
def patJ (c : UInt8) : St := if c = 47 then (1, []) else if c = 92 then (10, []) else if c = 91 then (11, []) else if lineB c then (15, []) else (9, [])
def stepJ (s : St) (c : UInt8) : St :=
  if s.1 = 0 ∨ s.1 = 1 then codeJ s.1 s.2 c
  else if s.1 = 2 then (if c = 34 then (1, []) else if c = 92 then (4, []) else if lineB c then (15, []) else (2, []))
  else if s.1 = 3 then (if c = 39 then (1, []) else if c = 92 then (5, []) else if lineB c then (15, []) else (3, []))
  else if s.1 = 4 then (2, []) else if s.1 = 5 then (3, [])
  else if s.1 = 6 then (if lineB c then (0, []) else (6, []))
  else if s.1 = 7 then (if c = 42 then (8, []) else (7, []))
  else if s.1 = 8 then (if c = 42 then (8, []) else if c = 47 then (0, []) else (7, []))
  else if s.1 = 9 then patJ c
  else if s.1 = 10 then (9, [])
  else if s.1 = 11 then (if c = 93 then (9, []) else if c = 92 then (12, []) else if lineB c then (15, []) else (11, []))
  else if s.1 = 12 then (11, [])
  else if s.1 = 13 then (if c = 47 then (6, []) else if c = 42 then (7, []) else patJ c)
  else if s.1 = 14 then (if c = 47 then (6, []) else if c = 42 then (7, []) else codeJ 0 [] c)
  else (15, [])
def feedJ (s : St) (l : List UInt8) : St := l.foldl stepJ s

theorem feed_append (s : St) (a b : List UInt8) : feedJ s (a ++ b) = feedJ (feedJ s a) b := List.foldl_append ..
theorem feed_cons (s : St) (c : UInt8) (t : List UInt8) : feedJ s (c :: t) = feedJ (stepJ s c) t := rfl
theorem feed_nil (s : St) : feedJ s [] = s := rfl
/-- JsscanParts: what can't be followed stays so. -/
theorem stay_lost (w : List UInt8) (l : List UInt8) : (feedJ (15, w) l).1 = 15 := by
  induction l generalizing w with
  | nil => rfl
  | cons c t ih => rw [feed_cons]; exact ih []

/-! ### Remarks -/
theorem stay_line (l : List UInt8) (h : ∀ c ∈ l, c ≠ 10 ∧ c ≠ 13) (w : List UInt8) : (feedJ (6, w) l).1 = 6 := by
  induction l generalizing w with
  | nil => rfl
  | cons c t ih =>
    rw [feed_cons]
    have hc := h c (by simp)
    have e : stepJ (6, w) c = (6, []) := by
      show (if lineB c then ((0, []) : St) else (6, [])) = _
      rw [if_neg (by unfold lineB; simp [hc.1, hc.2])]
    rw [e]
    exact ih (fun d hd => h d (by simp [hd])) []
theorem stay_mark (l : List UInt8) (h : ∀ c ∈ l, c ≠ 42) (w : List UInt8) : (feedJ (7, w) l).1 = 7 := by
  induction l generalizing w with
  | nil => rfl
  | cons c t ih =>
    rw [feed_cons]
    have hc := h c (by simp)
    have e : stepJ (7, w) c = (7, []) := by
      show (if c = 42 then ((8, []) : St) else (7, [])) = _
      rw [if_neg hc]
    rw [e]
    exact ih (fun d hd => h d (by simp [hd])) []
theorem jsc_line (s : List UInt8) (h : ∀ c ∈ s, c ≠ 10 ∧ c ≠ 13) : (feedJ (0, []) (47 :: 47 :: (s ++ [10]))).1 = 0 := by
  rw [feed_cons, feed_cons, feed_append]
  have e : stepJ (stepJ (0, []) 47) 47 = (6, []) := by decide +kernel
  rw [e]
  have h2 := stay_line s h []
  generalize feedJ (6, []) s = x at h2 ⊢
  obtain ⟨p, w⟩ := x
  have h2 : p = 6 := h2
  subst h2
  rfl
theorem jsc_mark (s : List UInt8) (h : ∀ c ∈ s, c ≠ 42) : (feedJ (1, []) (47 :: 42 :: (s ++ [42, 47]))).1 = 0 := by
  rw [feed_cons, feed_cons, feed_append]
  have e : stepJ (stepJ (1, []) 47) 42 = (7, []) := by decide +kernel
  rw [e]
  have h2 := stay_mark s h []
  generalize feedJ (7, []) s = x at h2 ⊢
  obtain ⟨p, w⟩ := x
  have h2 : p = 7 := h2
  subst h2
  rfl

/-! ### An escaped text stays in its string -/
def calm (q c : UInt8) : Bool := !(c == q || c == 92 || lineB c)
theorem two_calm (w : List UInt8) (c : UInt8) (h : calm 34 c = true) : stepJ (2, w) c = (2, []) := by
  unfold calm at h
  simp only [Bool.not_eq_true', Bool.or_eq_false_iff, beq_eq_false_iff_ne] at h
  show (if c = 34 then ((1, []) : St) else if c = 92 then (4, []) else if lineB c then (15, []) else (2, [])) = _
  rw [if_neg h.1.1, if_neg h.1.2, if_neg (by rw [h.2]; simp)]
theorem three_calm (w : List UInt8) (c : UInt8) (h : calm 39 c = true) : stepJ (3, w) c = (3, []) := by
  unfold calm at h
  simp only [Bool.not_eq_true', Bool.or_eq_false_iff, beq_eq_false_iff_ne] at h
  show (if c = 39 then ((1, []) : St) else if c = 92 then (5, []) else if lineB c then (15, []) else (3, [])) = _
  rw [if_neg h.1.1, if_neg h.1.2, if_neg (by rw [h.2]; simp)]
theorem dig_calm (d : Nat) (h : d < 16) (q : UInt8) (hq : q = 34 ∨ q = 39) : calm q (hexDig d) = true := by
  have h1 : ∀ d : Fin 16, calm 34 (hexDig d.val) = true ∧ calm 39 (hexDig d.val) = true := by decide +kernel
  rcases hq with rfl | rfl
  · exact (h1 ⟨d, h⟩).1
  · exact (h1 ⟨d, h⟩).2
theorem hex_four (n : Nat) : hexL n 4 = [hexDig (n / 4096 % 16), hexDig (n / 256 % 16), hexDig (n / 16 % 16), hexDig (n % 16)] := by
  rw [hexL_cons, hexL_cons, hexL_cons, hexL_cons]
  simp [hexL]
theorem bare_calm (c : Int) (h : bareB c = true) (q : UInt8) (hq : q = 34 ∨ q = 39) : calm q c.toNat.toUInt8 = true := by
  have h1 : ∀ k : Fin 128, bareB (k.val : Int) = true → calm 34 k.val.toUInt8 = true ∧ calm 39 k.val.toUInt8 = true := by decide +kernel
  have h2 : 0 ≤ c ∧ c < 128 := by simp [bareB] at h; omega
  have h3 := h1 ⟨c.toNat, by omega⟩ (by show bareB ((c.toNat : Nat) : Int) = true; rw [Int.toNat_of_nonneg h2.1]; exact h)
  rcases hq with rfl | rfl
  · exact h3.1
  · exact h3.2
theorem two_esc (n : Nat) (w : List UInt8) : feedJ (2, w) (escL n) = (2, []) := by
  have hl : ∀ d, d < 16 → ∀ w, stepJ (2, w) (hexDig d) = (2, []) := fun d h w => two_calm w _ (dig_calm d h 34 (.inl rfl))
  unfold escL
  rw [hex_four]
  rw [List.cons_append, List.cons_append, List.nil_append, feed_cons, feed_cons]
  have e : stepJ (stepJ (2, w) 92) 117 = (2, []) := rfl
  rw [e, feed_cons, hl _ (Nat.mod_lt _ (by decide)), feed_cons, hl _ (Nat.mod_lt _ (by decide)), feed_cons, hl _ (Nat.mod_lt _ (by decide)), feed_cons, hl _ (Nat.mod_lt _ (by decide))]
  rfl
theorem three_esc (n : Nat) (w : List UInt8) : feedJ (3, w) (escL n) = (3, []) := by
  have hl : ∀ d, d < 16 → ∀ w, stepJ (3, w) (hexDig d) = (3, []) := fun d h w => three_calm w _ (dig_calm d h 39 (.inr rfl))
  unfold escL
  rw [hex_four]
  rw [List.cons_append, List.cons_append, List.nil_append, feed_cons, feed_cons]
  have e : stepJ (stepJ (3, w) 92) 117 = (3, []) := rfl
  rw [e, feed_cons, hl _ (Nat.mod_lt _ (by decide)), feed_cons, hl _ (Nat.mod_lt _ (by decide)), feed_cons, hl _ (Nat.mod_lt _ (by decide)), feed_cons, hl _ (Nat.mod_lt _ (by decide))]
  rfl
theorem two_inside (cs : List Int) (w : List UInt8) : (feedJ (2, w) (insideL cs)).1 = 2 := by
  induction cs generalizing w with
  | nil => rfl
  | cons c cs ih =>
    have e : insideL (c :: cs) = charL c ++ insideL cs := rfl
    have h1 : feedJ (2, w) (charL c) = (2, []) := by
      unfold charL
      split
      · rename_i h
        rw [feed_cons, two_calm w _ (bare_calm c h 34 (.inl rfl))]
        rfl
      · split
        · rw [feed_append, two_esc, two_esc]
        · exact two_esc _ _
    rw [e, feed_append, h1]
    exact ih []
theorem three_inside (cs : List Int) (w : List UInt8) : (feedJ (3, w) (insideL cs)).1 = 3 := by
  induction cs generalizing w with
  | nil => rfl
  | cons c cs ih =>
    have e : insideL (c :: cs) = charL c ++ insideL cs := rfl
    have h1 : feedJ (3, w) (charL c) = (3, []) := by
      unfold charL
      split
      · rename_i h
        rw [feed_cons, three_calm w _ (bare_calm c h 39 (.inr rfl))]
        rfl
      · split
        · rw [feed_append, three_esc, three_esc]
        · exact three_esc _ _
    rw [e, feed_append, h1]
    exact ih []
/-- A string ends: behind a value. -/
theorem two_end (cs : List Int) (w : List UInt8) : feedJ (2, w) (insideL cs ++ [34]) = (1, []) := by
  have h := two_inside cs w
  rw [feed_append]
  generalize feedJ (2, w) (insideL cs) = x at h ⊢
  obtain ⟨p, u⟩ := x
  have h : p = 2 := h
  subst h
  rfl
theorem three_end (cs : List Int) (w : List UInt8) : feedJ (3, w) (insideL cs ++ [39]) = (1, []) := by
  have h := three_inside cs w
  rw [feed_append]
  generalize feedJ (3, w) (insideL cs) = x at h ⊢
  obtain ⟨p, u⟩ := x
  have h : p = 3 := h
  subst h
  rfl

/-! ### A value's literal leads to behind a value -/
/-- Behind a value, with no word behind which a value comes. -/
def Done (s : St) : Prop := s.1 = 1 ∧ keyB s.2 = false
def Code (p : Int) : Prop := p = 0 ∨ p = 1
theorem quote_done (s : ByteArray) (p : Int) (hp : Code p) (w : List UInt8) : feedJ (p, w) (quoteL s) = (1, []) := by
  unfold quoteL
  rw [List.append_assoc, feed_append]
  have e : feedJ (p, w) [34] = (2, []) := by
    rcases hp with rfl | rfl <;> rfl
  rw [e]
  exact two_end _ _
/-- Digits: a word, and none of the list. -/
def digB (c : UInt8) : Bool := digitI (c.toNat : Int)
theorem dig_word (c : UInt8) (h : digB c = true) : wordB c = true := by
  unfold wordB
  unfold digB at h
  rw [h]
  simp
theorem dig_step (p : Int) (hp : Code p) (w : List UInt8) (c : UInt8) (h : digB c = true) : stepJ (p, w) c = (1, if w.length < 16 then w ++ [c] else w) := by
  have e : stepJ (p, w) c = codeJ p w c := by
    rcases hp with rfl | rfl <;> rfl
  rw [e]
  unfold codeJ
  rw [if_pos (dig_word c h)]
/-- A word that begins with a digit. -/
def Num (w : List UInt8) : Prop := ∃ c t, w = c :: t ∧ digB c = true
theorem num_key {w : List UInt8} (h : Num w) : keyB w = false := by
  obtain ⟨c, t, rfl, hc⟩ := h
  unfold keyB keys
  have hne : ∀ k : UInt8, digB k = false → c ≠ k := by
    rintro k hk rfl
    rw [hc] at hk
    cases hk
  simp only [List.contains_eq_mem, decide_eq_false_iff_not, List.mem_cons, List.not_mem_nil, or_false, List.cons.injEq]
  rintro (⟨h, _⟩ | ⟨h, _⟩ | ⟨h, _⟩ | ⟨h, _⟩ | ⟨h, _⟩ | ⟨h, _⟩ | ⟨h, _⟩ | ⟨h, _⟩ | ⟨h, _⟩ | ⟨h, _⟩ | ⟨h, _⟩ | ⟨h, _⟩)
  all_goals exact hne _ (by decide) h
theorem num_feed (l : List UInt8) (h : ∀ c ∈ l, digB c = true) (p : Int) (hp : Code p) (w : List UInt8) (hw : Num w) : ∃ u, feedJ (p, w) l = (if l = [] then p else 1, u) ∧ Num u := by
  induction l generalizing p w with
  | nil => exact ⟨w, rfl, hw⟩
  | cons c t ih =>
    rw [feed_cons, dig_step p hp w c (h c (by simp))]
    have hu : Num (if w.length < 16 then w ++ [c] else w) := by
      obtain ⟨d, u, rfl, hd⟩ := hw
      split
      · exact ⟨d, u ++ [c], rfl, hd⟩
      · exact ⟨d, u, rfl, hd⟩
    obtain ⟨v, hv, hn⟩ := ih (fun d hd => h d (by simp [hd])) 1 (.inr rfl) _ hu
    refine ⟨v, ?_, hn⟩
    have e1 : (if t = [] then (1 : Int) else 1) = 1 := by split <;> rfl
    rw [hv, e1, if_neg (by simp)]
theorem digits_done (l : List UInt8) (hne : l ≠ []) (h : ∀ c ∈ l, digB c = true) (p : Int) (hp : Code p) : Done (feedJ (p, []) l) := by
  obtain ⟨c, t, rfl⟩ := List.exists_cons_of_ne_nil hne
  have hc := h c (by simp)
  rw [feed_cons, dig_step p hp [] c hc]
  have e : (if ([] : List UInt8).length < 16 then [] ++ [c] else []) = [c] := rfl
  rw [e]
  obtain ⟨u, hu, hn⟩ := num_feed t (fun d hd => h d (by simp [hd])) 1 (.inr rfl) [c] ⟨c, [], rfl, hc⟩
  rw [hu]
  refine ⟨?_, num_key hn⟩
  show (if t = [] then (1 : Int) else 1) = 1
  split <;> rfl
theorem rest_ne (u : Nat) : lowL u ≠ [] := by unfold lowL; simp
theorem dec_dig (u : Nat) : decL u ≠ [] ∧ ∀ c ∈ decL u, digB c = true := by
  have hd : ∀ k : Fin 10, digB (dig k.val) = true := by decide +kernel
  have hlow : ∀ n u, u < n → ∀ d ∈ rest u, d < 10 := by
    intro n
    induction n with
    | zero => intro u h; omega
    | succ n ih =>
      intro u h d hd
      by_cases h0 : u = 0
      · subst h0
        rw [rest_zero] at hd
        cases hd
      · rw [rest_pos (by omega)] at hd
        rcases List.mem_cons.1 hd with rfl | hd
        · omega
        · exact ih (u / 10) (by omega) d hd
  refine ⟨?_, ?_⟩
  · unfold decL
    intro e
    have := congrArg List.length e
    rw [List.length_map, List.length_reverse] at this
    exact rest_ne u (List.eq_nil_of_length_eq_zero this)
  · intro c hc
    unfold decL at hc
    obtain ⟨d, hd2, rfl⟩ := List.mem_map.1 hc
    rw [List.mem_reverse] at hd2
    have h10 : d < 10 := by
      unfold lowL at hd2
      rcases List.mem_cons.1 hd2 with rfl | hd2
      · omega
      · exact hlow (u / 10 + 1) (u / 10) (by omega) d hd2
    exact hd ⟨d, h10⟩
theorem print_done (n : Int) (p : Int) (hp : Code p) : Done (feedJ (p, []) (if n < 0 then 32 :: printL n else printL n)) := by
  obtain ⟨h1, h2⟩ := dec_dig n.natAbs
  unfold printL
  by_cases h : n < 0
  · rw [if_pos h, if_pos h, feed_cons, feed_cons]
    have e : stepJ (stepJ (p, []) 32) 45 = (0, []) := by
      rcases hp with rfl | rfl <;> decide +kernel
    rw [e]
    exact digits_done _ h1 h2 0 (.inl rfl)
  · rw [if_neg h, if_neg h]
    exact digits_done _ h1 h2 p hp
theorem comma (s : St) (h : Done s) : stepJ s 44 = (0, []) := by
  obtain ⟨p, w⟩ := s
  have h1 : p = 1 := h.1
  subst h1
  rfl
theorem shut (s : St) (h : s.1 = 0 ∨ s.1 = 1) (c : UInt8) (hc : c = 93 ∨ c = 125) : stepJ s c = (1, []) := by
  obtain ⟨p, w⟩ := s
  have h : p = 0 ∨ p = 1 := h
  rcases h with rfl | rfl <;> rcases hc with rfl | rfl <;> rfl
/-- What stands between brackets leads to where they may be shut. -/
theorem join_done (r : Bool) (ks : List ByteArray) (ts : List (List UInt8)) (h : ∀ t ∈ ts, ∀ p, Code p → Done (feedJ (p, []) t)) :
    ∀ k, k ≤ ts.length → (k = 0 → feedJ (0, []) (joinK r ks ts k) = (0, [])) ∧ (0 < k → Done (feedJ (0, []) (joinK r ks ts k))) := by
  intro k
  induction k with
  | zero => exact fun _ => ⟨fun _ => rfl, fun h => absurd h (Nat.lt_irrefl _)⟩
  | succ k ih =>
    intro hk
    refine ⟨fun h => absurd h (by omega), fun _ => ?_⟩
    have hi := ih (by omega)
    have ht : Done (feedJ (0, []) (ts.getD k [])) := by
      rw [List.getD_eq_getElem?_getD, List.getElem?_eq_getElem (by omega)]
      exact h _ (List.getElem_mem (by omega)) 0 (.inl rfl)
    have hkey : feedJ (0, []) (keyAt r ks k ++ ts.getD k []) = feedJ (0, []) (ts.getD k []) := by
      rw [feed_append]
      congr 1
      unfold keyAt
      cases r with
      | false => rfl
      | true =>
        cases ks[k]? with
        | none => rfl
        | some key =>
          show feedJ (0, []) (quoteL key ++ [58]) = (0, [])
          rw [feed_append, quote_done key 0 (.inl rfl)]
          rfl
    show Done (feedJ (0, []) (joinK r ks ts k ++ ((if k = 0 then [] else [44]) ++ (keyAt r ks k ++ ts.getD k []))))
    rw [feed_append]
    by_cases h0 : k = 0
    · rw [hi.1 h0, if_pos h0, List.nil_append, hkey]
      exact ht
    · rw [if_neg h0, List.singleton_append, feed_cons, comma _ (hi.2 (by omega)), hkey]
      exact ht
theorem brack_done (a b : UInt8) (hab : (a = 91 ∧ b = 93) ∨ (a = 123 ∧ b = 125)) (r : Bool) (ks : List ByteArray) (ts : List (List UInt8)) (h : ∀ t ∈ ts, ∀ p, Code p → Done (feedJ (p, []) t)) (p : Int) (hp : Code p) :
    Done (feedJ (p, []) (brackL a b (joinK r ks ts ts.length))) := by
  unfold brackL
  rw [List.append_assoc, feed_append]
  have e : feedJ (p, []) [a] = (0, []) := by
    rcases hab with ⟨rfl, _⟩ | ⟨rfl, _⟩ <;> rcases hp with rfl | rfl <;> rfl
  rw [e, feed_append]
  have hj := join_done r ks ts h ts.length (Nat.le_refl _)
  have h1 : (feedJ (0, []) (joinK r ks ts ts.length)).1 = 0 ∨ (feedJ (0, []) (joinK r ks ts ts.length)).1 = 1 := by
    by_cases h0 : ts.length = 0
    · rw [hj.1 h0]; exact .inl rfl
    · exact .inr (hj.2 (by omega)).1
  rw [feed_cons, feed_nil, shut _ h1 b (by rcases hab with ⟨_, h⟩ | ⟨_, h⟩; exact .inl h; exact .inr h)]
  exact ⟨rfl, by decide +kernel⟩
mutual
/-- JsscanLiterals. -/
theorem lit_done : ∀ (v : V) (p : Int), Code p → Done (feedJ (p, []) (litL v))
  | .mk k n s l ks, p, hp => by
    rw [litL]
    split
    · rcases hp with rfl | rfl <;> exact ⟨by decide +kernel, by decide +kernel⟩
    · split
      · rcases hp with rfl | rfl <;> exact ⟨by decide +kernel, by decide +kernel⟩
      · split
        · rcases hp with rfl | rfl <;> exact ⟨by decide +kernel, by decide +kernel⟩
        · split
          · exact print_done n p hp
          · split
            · exact brack_done 91 93 (.inl ⟨rfl, rfl⟩) false ks _ (lits_done l) p hp
            · split
              · exact brack_done 123 125 (.inr ⟨rfl, rfl⟩) true ks _ (lits_done l) p hp
              · rw [quote_done s p hp]
                exact ⟨rfl, by decide +kernel⟩
theorem lits_done : ∀ (l : List V), ∀ t ∈ litAll l, ∀ p, Code p → Done (feedJ (p, []) t)
  | [], t, ht, _, _ => by rw [litAll] at ht; cases ht
  | x :: l, t, ht, p, hp => by
    rw [litAll] at ht
    rcases List.mem_cons.1 ht with rfl | ht
    · exact lit_done x p hp
    · exact lits_done l t ht p hp
end
/-- With blanks around, from where a value may come, and from behind one. -/
theorem lit_around (v : V) : feedJ (0, []) (32 :: (litL v ++ [32])) = (1, []) := by
  rw [feed_cons]
  have e : stepJ (0, []) 32 = (0, []) := by decide +kernel
  rw [e, feed_append]
  have h := lit_done v 0 (.inl rfl)
  generalize feedJ (0, []) (litL v) = x at h ⊢
  obtain ⟨p, w⟩ := x
  have h1 : p = 1 := h.1
  have h2 : keyB w = false := h.2
  subst h1
  show (if keyB w = true then (0 : Int) else 1, ([] : List UInt8)) = (1, [])
  rw [if_neg (by rw [h2]; simp)]
theorem lit_behind (v : V) (u : List UInt8) : feedJ (1, u) (32 :: (litL v ++ [32])) = (1, []) := by
  rw [feed_cons]
  have e : ∃ q, Code q ∧ stepJ (1, u) 32 = (q, []) := by
    cases hk : keyB u with
    | true => exact ⟨0, .inl rfl, by show (if keyB u = true then (0 : Int) else 1, ([] : List UInt8)) = (0, []); rw [if_pos hk]⟩
    | false => exact ⟨1, .inr rfl, by show (if keyB u = true then (0 : Int) else 1, ([] : List UInt8)) = (1, []); rw [if_neg (by rw [hk]; simp)]⟩
  obtain ⟨q, hq, e⟩ := e
  rw [e, feed_append]
  have h := lit_done v q hq
  generalize feedJ (q, []) (litL v) = x at h ⊢
  obtain ⟨p, w⟩ := x
  have h1 : p = 1 := h.1
  have h2 : keyB w = false := h.2
  subst h1
  show (if keyB w = true then (0 : Int) else 1, ([] : List UInt8)) = (1, [])
  rw [if_neg (by rw [h2]; simp)]
end Go.Proofs.YtganmmkdcaphfaaGreatDoor.Jsc

/-
  The last step of a law's row where the call leaves a world in which all that lay before lies unturned, the arguments are plain values (numbers, truths, texts), and the answer is the truth.
-/
namespace Go.Proofs.YtganmmkdcaphfaaGreatDoor.Kit
open Go.ChangeShapes Go.WideShapes Go.ChangeAt Go.RowKit
variable {H : Type} {enc : TypeId × Value → H} {P : Program}

theorem own : ownKnob Tryz.prog.godebug = none := by kernel_rfl

/-- Arguments without places: what is asked of the world behind the call is that nothing older has turned. -/
theorem post_plain {f : Func} {s : ChangeSpec} {apart fresh handsOn again : Bool} {W W' : World} {args : Array Value} {v : Value} {ds gs : List (DataW H)}
    (hW : DataW.Whole enc P f.params.toList s.vars apart W args.toList ds gs [])
    (hres : ∀ (b : Nat) (sp : Nat → Bool) (hd : Bool), DataW.TrodAll enc P W' b sp hd f.resultTypes.toList (v.resultList f.resultTypes.size) (s.fn H (ds ++ gs)).results [])
    (hargs : ∀ sp : Nat → Bool, DataW.TrodAll enc P W' 0 sp true f.params.toList args.toList (s.fn H (ds ++ gs)).args [])
    (hvars : ∀ sp : Nat → Bool, DataW.TrodVars enc P W' sp s.vars (s.fn H (ds ++ gs)).vars [])
    (hb : Below W.heap.size W W')
    (hok : ∀ (j : Nat) (t : TypeId) (r : Value), f.resultTypes[j]? = some t → (v.resultList f.resultTypes.size)[j]? = some r → Value.okWide P W' .any 0 t r) :
    s.post enc P f apart fresh handsOn again W args v W' :=
  ⟨ds, gs, [], [], [], [], hW, hres _ _ _, hargs _, hvars _, hb.frame _, fun _ =>
    ⟨hok, _, _, [], ⟨[], [], trodAll_append (hargs _) (hres _ _ _), hvars _, rfl, fun _ _ h => by simp at h, fun _ => by simp⟩, fun _ h => by simp at h⟩⟩
end Go.Proofs.YtganmmkdcaphfaaGreatDoor.Kit

/-
  What a row that lists Go's own two tables of characters' first octets gives: the tables, as they lie in memory; and a world that holds them.
-/
namespace Go.Proofs.YtganmmkdcaphfaaGreatDoor.Laid
open Go.ChangeShapes Go.WideShapes Go.ChangeAt Go.RowKit

abbrev list : List (String × DataW Unit) := [("unicode/utf8.acceptRanges", Rows.laid_unicode_utf8_acceptRanges), ("unicode/utf8.first", Rows.laid_unicode_utf8_first)]
set_option maxRecDepth 100000 in
theorem first_eq : Rows.laid_unicode_utf8_first = Lib.firstData := by kernel_rfl
theorem accept_eq : (Rows.laid_unicode_utf8_acceptRanges : DataW Unit) = Lib.acceptData := by kernel_rfl

theorem tabs {W : World} (h : laidMetH Tryz.prog list W) : Utf.Tabs W := by
  have h' : laidMet Tryz.prog list W := h
  have h3 := Lib.laidMet.reads h' (n := "unicode/utf8.first") (d := Rows.laid_unicode_utf8_first) (.tail _ (.head _))
  have h4 := Lib.laidMet.reads h' (n := "unicode/utf8.acceptRanges") (d := Rows.laid_unicode_utf8_acceptRanges) (.head _)
  rw [first_eq] at h3
  rw [accept_eq] at h4
  exact utf8Tabs_of_reads (ρ := Tryz.lays260_ren) Tryz.lays260 ⟨by kernel_rfl, by kernel_rfl, by kernel_rfl, by kernel_rfl, by kernel_rfl, by kernel_rfl, by kernel_rfl⟩ h3 h4

/-- A world that holds the two tables. -/
noncomputable def laidWorld (os : Os) : World :=
  { World.holding Tryz.prog os ⟨#[], #[], []⟩ with heap := (((World.holding Tryz.prog os ⟨#[], #[], []⟩).heap.modify 0 fun
      | .cells _ t frozen => .cells (Lib.firstTab.map fun z => Value.int .u8 z).toArray t frozen
      | o => o).modify 1 fun
      | .cells _ t frozen => .cells ((List.range 16).flatMap fun i => [Value.int .u8 (Lib.accLo i), Value.int .u8 (Lib.accHi i)]).toArray t frozen
      | o => o) }
set_option maxRecDepth 100000 in
theorem laid_met (os : Os) (args : Array Value) : laidMet Tryz.prog list ((laidWorld os).forCall (fun _ _ => 0) ⟨#[], args, []⟩).memory :=
  laidMet_of_run' 8 (by kernel_rfl) (by kernel_rfl)
end Go.Proofs.YtganmmkdcaphfaaGreatDoor.Laid
