/-
  Part 5: JscPure, CssPure, CscPure, ScnPure.
-/
import Derived.Test.YtklpbkjplecdpaaGreatSwBaseP4
import Derived.Test.YtklpbkjplecdpaaGreatSwBaseP1
import Derived.Test.YtklpbkjplecdpaaGreatSwBaseP3
/-
  Plain facts on where in a script a text stands, with no program: its parts, octet by octet; an escaped text in a string, remarks, a value's literal.
-/
namespace Go.Proofs.YtklpbkjplecdpaaGreat.Jsc
open Go.Proofs.YtklpbkjplecdpaaGreat.Oct Go.Proofs.YtklpbkjplecdpaaGreat.Num Go.Proofs.YtklpbkjplecdpaaGreat.Utf Go.Proofs.YtklpbkjplecdpaaGreat.Val Go.Proofs.YtklpbkjplecdpaaGreat.Lit

abbrev St := Int × List UInt8
def wordB (c : UInt8) : Bool := letterI (c.toNat : Int) || digitI (c.toNat : Int) || c == 95 || c == 36 || decide (127 < c.toNat)
def blankB (c : UInt8) : Bool := blankI (c.toNat : Int)
def lineB (c : UInt8) : Bool := c == 10 || c == 13
/-- return typeof case in of delete void throw new else do instanceof. -/
def keys : List (List UInt8) := [[114, 101, 116, 117, 114, 110], [116, 121, 112, 101, 111, 102], [99, 97, 115, 101], [105, 110], [111, 102], [100, 101, 108, 101, 116, 101], [118, 111, 105, 100], [116, 104, 114, 111, 119], [110, 101, 119], [101, 108, 115, 101], [100, 111], [105, 110, 115, 116, 97, 110, 99, 101, 111, 102]]
def keyB (w : List UInt8) : Bool := keys.contains w
def codeJ (p : Int) (w : List UInt8) (c : UInt8) : St :=
  if wordB c then (1, if w.length < 16 then w ++ [c] else w)
  else if blankB c then (if keyB w then 0 else p, []) else if c = 34 then (2, []) else if c = 39 then (3, []) else if c = 96 then (15, [])
  else if c = 47 then (13 + (if keyB w then 0 else p), []) else if c = 41 ∨ c = 93 ∨ c = 125 then (1, []) else (0, [])
def patJ (c : UInt8) : St := if c = 47 then (1, []) else if c = 92 then (10, []) else if c = 91 then (11, []) else if lineB c then (15, []) else (9, [])
def stepJ (s : St) (c : UInt8) : St :=
  if s.1 = 0 ∨ s.1 = 1 then codeJ s.1 s.2 c
  else if s.1 = 2 then (if c = 34 then (1, []) else if c = 92 then (4, []) else if lineB c then (15, []) else (2, []))
  else if s.1 = 3 then (if c = 39 then (1, []) else if c = 92 then (5, []) else if lineB c then (15, []) else (3, []))
  else if s.1 = 4 then (2, []) else if s.1 = 5 then (3, [])
  else if s.1 = 6 then (if lineB c then (0, []) else (6, []))
  else if s.1 = 7 then (if c = 42 then (8, []) else (7, []))
  else if s.1 = 8 then (if c = 42 then (8, []) else if c = 47 then (0, []) else (7, []))
  else if s.1 = 9 then patJ c
  else if s.1 = 10 then (9, [])
  else if s.1 = 11 then (if c = 93 then (9, []) else if c = 92 then (12, []) else if lineB c then (15, []) else (11, []))
  else if s.1 = 12 then (11, [])
  else if s.1 = 13 then (if c = 47 then (6, []) else if c = 42 then (7, []) else patJ c)
  else if s.1 = 14 then (if c = 47 then (6, []) else if c = 42 then (7, []) else codeJ 0 [] c)
  else (15, [])
def feedJ (s : St) (l : List UInt8) : St := l.foldl stepJ s

theorem feed_append (s : St) (a b : List UInt8) : feedJ s (a ++ b) = feedJ (feedJ s a) b := List.foldl_append ..
theorem feed_cons (s : St) (c : UInt8) (t : List UInt8) : feedJ s (c :: t) = feedJ (stepJ s c) t := rfl
theorem feed_nil (s : St) : feedJ s [] = s := rfl
/-- JsscanParts: what can't be followed stays so. -/
theorem stay_lost (w : List UInt8) (l : List UInt8) : (feedJ (15, w) l).1 = 15 := by
  induction l generalizing w with
  | nil => rfl
  | cons c t ih => rw [feed_cons]; exact ih []

/-! ### Remarks -/
theorem stay_line (l : List UInt8) (h : ∀ c ∈ l, c ≠ 10 ∧ c ≠ 13) (w : List UInt8) : (feedJ (6, w) l).1 = 6 := by
  induction l generalizing w with
  | nil => rfl
  | cons c t ih =>
    rw [feed_cons]
    have hc := h c (by simp)
    have e : stepJ (6, w) c = (6, []) := by
      show (if lineB c then ((0, []) : St) else (6, [])) = _
      rw [if_neg (by unfold lineB; simp [hc.1, hc.2])]
    rw [e]
    exact ih (fun d hd => h d (by simp [hd])) []
theorem stay_mark (l : List UInt8) (h : ∀ c ∈ l, c ≠ 42) (w : List UInt8) : (feedJ (7, w) l).1 = 7 := by
  induction l generalizing w with
  | nil => rfl
  | cons c t ih =>
    rw [feed_cons]
    have hc := h c (by simp)
    have e : stepJ (7, w) c = (7, []) := by
      show (if c = 42 then ((8, []) : St) else (7, [])) = _
      rw [if_neg hc]
    rw [e]
    exact ih (fun d hd => h d (by simp [hd])) []
theorem jsc_line (s : List UInt8) (h : ∀ c ∈ s, c ≠ 10 ∧ c ≠ 13) : (feedJ (0, []) (47 :: 47 :: (s ++ [10]))).1 = 0 := by
  rw [feed_cons, feed_cons, feed_append]
  have e : stepJ (stepJ (0, []) 47) 47 = (6, []) := by decide +kernel
  rw [e]
  have h2 := stay_line s h []
  generalize feedJ (6, []) s = x at h2 ⊢
  obtain ⟨p, w⟩ := x
  have h2 : p = 6 := h2
  subst h2
  rfl
theorem jsc_mark (s : List UInt8) (h : ∀ c ∈ s, c ≠ 42) : (feedJ (1, []) (47 :: 42 :: (s ++ [42, 47]))).1 = 0 := by
  rw [feed_cons, feed_cons, feed_append]
  have e : stepJ (stepJ (1, []) 47) 42 = (7, []) := by decide +kernel
  rw [e]
  have h2 := stay_mark s h []
  generalize feedJ (7, []) s = x at h2 ⊢
  obtain ⟨p, w⟩ := x
  have h2 : p = 7 := h2
  subst h2
  rfl

/-! ### An escaped text stays in its string -/
def calm (q c : UInt8) : Bool := !(c == q || c == 92 || lineB c)
theorem two_calm (w : List UInt8) (c : UInt8) (h : calm 34 c = true) : stepJ (2, w) c = (2, []) := by
  unfold calm at h
  simp only [Bool.not_eq_true', Bool.or_eq_false_iff, beq_eq_false_iff_ne] at h
  show (if c = 34 then ((1, []) : St) else if c = 92 then (4, []) else if lineB c then (15, []) else (2, [])) = _
  rw [if_neg h.1.1, if_neg h.1.2, if_neg (by rw [h.2]; simp)]
theorem three_calm (w : List UInt8) (c : UInt8) (h : calm 39 c = true) : stepJ (3, w) c = (3, []) := by
  unfold calm at h
  simp only [Bool.not_eq_true', Bool.or_eq_false_iff, beq_eq_false_iff_ne] at h
  show (if c = 39 then ((1, []) : St) else if c = 92 then (5, []) else if lineB c then (15, []) else (3, [])) = _
  rw [if_neg h.1.1, if_neg h.1.2, if_neg (by rw [h.2]; simp)]
theorem dig_calm (d : Nat) (h : d < 16) (q : UInt8) (hq : q = 34 ∨ q = 39) : calm q (hexDig d) = true := by
  have h1 : ∀ d : Fin 16, calm 34 (hexDig d.val) = true ∧ calm 39 (hexDig d.val) = true := by decide +kernel
  rcases hq with rfl | rfl
  · exact (h1 ⟨d, h⟩).1
  · exact (h1 ⟨d, h⟩).2
theorem hex_four (n : Nat) : hexL n 4 = [hexDig (n / 4096 % 16), hexDig (n / 256 % 16), hexDig (n / 16 % 16), hexDig (n % 16)] := by
  rw [hexL_cons, hexL_cons, hexL_cons, hexL_cons]
  simp [hexL]
theorem bare_calm (c : Int) (h : bareB c = true) (q : UInt8) (hq : q = 34 ∨ q = 39) : calm q c.toNat.toUInt8 = true := by
  have h1 : ∀ k : Fin 128, bareB (k.val : Int) = true → calm 34 k.val.toUInt8 = true ∧ calm 39 k.val.toUInt8 = true := by decide +kernel
  have h2 : 0 ≤ c ∧ c < 128 := by simp [bareB] at h; omega
  have h3 := h1 ⟨c.toNat, by omega⟩ (by show bareB ((c.toNat : Nat) : Int) = true; rw [Int.toNat_of_nonneg h2.1]; exact h)
  rcases hq with rfl | rfl
  · exact h3.1
  · exact h3.2
theorem two_esc (n : Nat) (w : List UInt8) : feedJ (2, w) (escL n) = (2, []) := by
  have hl : ∀ d, d < 16 → ∀ w, stepJ (2, w) (hexDig d) = (2, []) := fun d h w => two_calm w _ (dig_calm d h 34 (.inl rfl))
  unfold escL
  rw [hex_four]
  rw [List.cons_append, List.cons_append, List.nil_append, feed_cons, feed_cons]
  have e : stepJ (stepJ (2, w) 92) 117 = (2, []) := rfl
  rw [e, feed_cons, hl _ (Nat.mod_lt _ (by decide)), feed_cons, hl _ (Nat.mod_lt _ (by decide)), feed_cons, hl _ (Nat.mod_lt _ (by decide)), feed_cons, hl _ (Nat.mod_lt _ (by decide))]
  rfl
theorem three_esc (n : Nat) (w : List UInt8) : feedJ (3, w) (escL n) = (3, []) := by
  have hl : ∀ d, d < 16 → ∀ w, stepJ (3, w) (hexDig d) = (3, []) := fun d h w => three_calm w _ (dig_calm d h 39 (.inr rfl))
  unfold escL
  rw [hex_four]
  rw [List.cons_append, List.cons_append, List.nil_append, feed_cons, feed_cons]
  have e : stepJ (stepJ (3, w) 92) 117 = (3, []) := rfl
  rw [e, feed_cons, hl _ (Nat.mod_lt _ (by decide)), feed_cons, hl _ (Nat.mod_lt _ (by decide)), feed_cons, hl _ (Nat.mod_lt _ (by decide)), feed_cons, hl _ (Nat.mod_lt _ (by decide))]
  rfl
theorem two_inside (cs : List Int) (w : List UInt8) : (feedJ (2, w) (insideL cs)).1 = 2 := by
  induction cs generalizing w with
  | nil => rfl
  | cons c cs ih =>
    have e : insideL (c :: cs) = charL c ++ insideL cs := rfl
    have h1 : feedJ (2, w) (charL c) = (2, []) := by
      unfold charL
      split
      · rename_i h
        rw [feed_cons, two_calm w _ (bare_calm c h 34 (.inl rfl))]
        rfl
      · split
        · rw [feed_append, two_esc, two_esc]
        · exact two_esc _ _
    rw [e, feed_append, h1]
    exact ih []
theorem three_inside (cs : List Int) (w : List UInt8) : (feedJ (3, w) (insideL cs)).1 = 3 := by
  induction cs generalizing w with
  | nil => rfl
  | cons c cs ih =>
    have e : insideL (c :: cs) = charL c ++ insideL cs := rfl
    have h1 : feedJ (3, w) (charL c) = (3, []) := by
      unfold charL
      split
      · rename_i h
        rw [feed_cons, three_calm w _ (bare_calm c h 39 (.inr rfl))]
        rfl
      · split
        · rw [feed_append, three_esc, three_esc]
        · exact three_esc _ _
    rw [e, feed_append, h1]
    exact ih []
/-- A string ends: behind a value. -/
theorem two_end (cs : List Int) (w : List UInt8) : feedJ (2, w) (insideL cs ++ [34]) = (1, []) := by
  have h := two_inside cs w
  rw [feed_append]
  generalize feedJ (2, w) (insideL cs) = x at h ⊢
  obtain ⟨p, u⟩ := x
  have h : p = 2 := h
  subst h
  rfl
theorem three_end (cs : List Int) (w : List UInt8) : feedJ (3, w) (insideL cs ++ [39]) = (1, []) := by
  have h := three_inside cs w
  rw [feed_append]
  generalize feedJ (3, w) (insideL cs) = x at h ⊢
  obtain ⟨p, u⟩ := x
  have h : p = 3 := h
  subst h
  rfl

/-! ### A value's literal leads to behind a value -/
/-- Behind a value, with no word behind which a value comes. -/
def Done (s : St) : Prop := s.1 = 1 ∧ keyB s.2 = false
def Code (p : Int) : Prop := p = 0 ∨ p = 1
theorem quote_done (s : ByteArray) (p : Int) (hp : Code p) (w : List UInt8) : feedJ (p, w) (quoteL s) = (1, []) := by
  unfold quoteL
  rw [List.append_assoc, feed_append]
  have e : feedJ (p, w) [34] = (2, []) := by
    rcases hp with rfl | rfl <;> rfl
  rw [e]
  exact two_end _ _
/-- Digits: a word, and none of the list. -/
def digB (c : UInt8) : Bool := digitI (c.toNat : Int)
theorem dig_word (c : UInt8) (h : digB c = true) : wordB c = true := by
  unfold wordB
  unfold digB at h
  rw [h]
  simp
theorem dig_step (p : Int) (hp : Code p) (w : List UInt8) (c : UInt8) (h : digB c = true) : stepJ (p, w) c = (1, if w.length < 16 then w ++ [c] else w) := by
  have e : stepJ (p, w) c = codeJ p w c := by
    rcases hp with rfl | rfl <;> rfl
  rw [e]
  unfold codeJ
  rw [if_pos (dig_word c h)]
/-- A word that begins with a digit. -/
def Num (w : List UInt8) : Prop := ∃ c t, w = c :: t ∧ digB c = true
theorem num_key {w : List UInt8} (h : Num w) : keyB w = false := by
  obtain ⟨c, t, rfl, hc⟩ := h
  unfold keyB keys
  have hne : ∀ k : UInt8, digB k = false → c ≠ k := by
    rintro k hk rfl
    rw [hc] at hk
    cases hk
  simp only [List.contains_eq_mem, decide_eq_false_iff_not, List.mem_cons, List.not_mem_nil, or_false, List.cons.injEq]
  rintro (⟨h, _⟩ | ⟨h, _⟩ | ⟨h, _⟩ | ⟨h, _⟩ | ⟨h, _⟩ | ⟨h, _⟩ | ⟨h, _⟩ | ⟨h, _⟩ | ⟨h, _⟩ | ⟨h, _⟩ | ⟨h, _⟩ | ⟨h, _⟩)
  all_goals exact hne _ (by decide) h
theorem num_feed (l : List UInt8) (h : ∀ c ∈ l, digB c = true) (p : Int) (hp : Code p) (w : List UInt8) (hw : Num w) : ∃ u, feedJ (p, w) l = (if l = [] then p else 1, u) ∧ Num u := by
  induction l generalizing p w with
  | nil => exact ⟨w, rfl, hw⟩
  | cons c t ih =>
    rw [feed_cons, dig_step p hp w c (h c (by simp))]
    have hu : Num (if w.length < 16 then w ++ [c] else w) := by
      obtain ⟨d, u, rfl, hd⟩ := hw
      split
      · exact ⟨d, u ++ [c], rfl, hd⟩
      · exact ⟨d, u, rfl, hd⟩
    obtain ⟨v, hv, hn⟩ := ih (fun d hd => h d (by simp [hd])) 1 (.inr rfl) _ hu
    refine ⟨v, ?_, hn⟩
    have e1 : (if t = [] then (1 : Int) else 1) = 1 := by split <;> rfl
    rw [hv, e1, if_neg (by simp)]
theorem digits_done (l : List UInt8) (hne : l ≠ []) (h : ∀ c ∈ l, digB c = true) (p : Int) (hp : Code p) : Done (feedJ (p, []) l) := by
  obtain ⟨c, t, rfl⟩ := List.exists_cons_of_ne_nil hne
  have hc := h c (by simp)
  rw [feed_cons, dig_step p hp [] c hc]
  have e : (if ([] : List UInt8).length < 16 then [] ++ [c] else []) = [c] := rfl
  rw [e]
  obtain ⟨u, hu, hn⟩ := num_feed t (fun d hd => h d (by simp [hd])) 1 (.inr rfl) [c] ⟨c, [], rfl, hc⟩
  rw [hu]
  refine ⟨?_, num_key hn⟩
  show (if t = [] then (1 : Int) else 1) = 1
  split <;> rfl
theorem rest_ne (u : Nat) : lowL u ≠ [] := by unfold lowL; simp
theorem dec_dig (u : Nat) : decL u ≠ [] ∧ ∀ c ∈ decL u, digB c = true := by
  have hd : ∀ k : Fin 10, digB (dig k.val) = true := by decide +kernel
  have hlow : ∀ n u, u < n → ∀ d ∈ rest u, d < 10 := by
    intro n
    induction n with
    | zero => intro u h; omega
    | succ n ih =>
      intro u h d hd
      by_cases h0 : u = 0
      · subst h0
        rw [rest_zero] at hd
        cases hd
      · rw [rest_pos (by omega)] at hd
        rcases List.mem_cons.1 hd with rfl | hd
        · omega
        · exact ih (u / 10) (by omega) d hd
  refine ⟨?_, ?_⟩
  · unfold decL
    intro e
    have := congrArg List.length e
    rw [List.length_map, List.length_reverse] at this
    exact rest_ne u (List.eq_nil_of_length_eq_zero this)
  · intro c hc
    unfold decL at hc
    obtain ⟨d, hd2, rfl⟩ := List.mem_map.1 hc
    rw [List.mem_reverse] at hd2
    have h10 : d < 10 := by
      unfold lowL at hd2
      rcases List.mem_cons.1 hd2 with rfl | hd2
      · omega
      · exact hlow (u / 10 + 1) (u / 10) (by omega) d hd2
    exact hd ⟨d, h10⟩
theorem print_done (n : Int) (p : Int) (hp : Code p) : Done (feedJ (p, []) (if n < 0 then 32 :: printL n else printL n)) := by
  obtain ⟨h1, h2⟩ := dec_dig n.natAbs
  unfold printL
  by_cases h : n < 0
  · rw [if_pos h, if_pos h, feed_cons, feed_cons]
    have e : stepJ (stepJ (p, []) 32) 45 = (0, []) := by
      rcases hp with rfl | rfl <;> decide +kernel
    rw [e]
    exact digits_done _ h1 h2 0 (.inl rfl)
  · rw [if_neg h, if_neg h]
    exact digits_done _ h1 h2 p hp
theorem comma (s : St) (h : Done s) : stepJ s 44 = (0, []) := by
  obtain ⟨p, w⟩ := s
  have h1 : p = 1 := h.1
  subst h1
  rfl
theorem shut (s : St) (h : s.1 = 0 ∨ s.1 = 1) (c : UInt8) (hc : c = 93 ∨ c = 125) : stepJ s c = (1, []) := by
  obtain ⟨p, w⟩ := s
  have h : p = 0 ∨ p = 1 := h
  rcases h with rfl | rfl <;> rcases hc with rfl | rfl <;> rfl
/-- What stands between brackets leads to where they may be shut. -/
theorem join_done (r : Bool) (ks : List ByteArray) (ts : List (List UInt8)) (h : ∀ t ∈ ts, ∀ p, Code p → Done (feedJ (p, []) t)) :
    ∀ k, k ≤ ts.length → (k = 0 → feedJ (0, []) (joinK r ks ts k) = (0, [])) ∧ (0 < k → Done (feedJ (0, []) (joinK r ks ts k))) := by
  intro k
  induction k with
  | zero => exact fun _ => ⟨fun _ => rfl, fun h => absurd h (Nat.lt_irrefl _)⟩
  | succ k ih =>
    intro hk
    refine ⟨fun h => absurd h (by omega), fun _ => ?_⟩
    have hi := ih (by omega)
    have ht : Done (feedJ (0, []) (ts.getD k [])) := by
      rw [List.getD_eq_getElem?_getD, List.getElem?_eq_getElem (by omega)]
      exact h _ (List.getElem_mem (by omega)) 0 (.inl rfl)
    have hkey : feedJ (0, []) (keyAt r ks k ++ ts.getD k []) = feedJ (0, []) (ts.getD k []) := by
      rw [feed_append]
      congr 1
      unfold keyAt
      cases r with
      | false => rfl
      | true =>
        cases ks[k]? with
        | none => rfl
        | some key =>
          show feedJ (0, []) (quoteL key ++ [58]) = (0, [])
          rw [feed_append, quote_done key 0 (.inl rfl)]
          rfl
    show Done (feedJ (0, []) (joinK r ks ts k ++ ((if k = 0 then [] else [44]) ++ (keyAt r ks k ++ ts.getD k []))))
    rw [feed_append]
    by_cases h0 : k = 0
    · rw [hi.1 h0, if_pos h0, List.nil_append, hkey]
      exact ht
    · rw [if_neg h0, List.singleton_append, feed_cons, comma _ (hi.2 (by omega)), hkey]
      exact ht
theorem brack_done (a b : UInt8) (hab : (a = 91 ∧ b = 93) ∨ (a = 123 ∧ b = 125)) (r : Bool) (ks : List ByteArray) (ts : List (List UInt8)) (h : ∀ t ∈ ts, ∀ p, Code p → Done (feedJ (p, []) t)) (p : Int) (hp : Code p) :
    Done (feedJ (p, []) (brackL a b (joinK r ks ts ts.length))) := by
  unfold brackL
  rw [List.append_assoc, feed_append]
  have e : feedJ (p, []) [a] = (0, []) := by
    rcases hab with ⟨rfl, _⟩ | ⟨rfl, _⟩ <;> rcases hp with rfl | rfl <;> rfl
  rw [e, feed_append]
  have hj := join_done r ks ts h ts.length (Nat.le_refl _)
  have h1 : (feedJ (0, []) (joinK r ks ts ts.length)).1 = 0 ∨ (feedJ (0, []) (joinK r ks ts ts.length)).1 = 1 := by
    by_cases h0 : ts.length = 0
    · rw [hj.1 h0]; exact .inl rfl
    · exact .inr (hj.2 (by omega)).1
  rw [feed_cons, feed_nil, shut _ h1 b (by rcases hab with ⟨_, h⟩ | ⟨_, h⟩; exact .inl h; exact .inr h)]
  exact ⟨rfl, by decide +kernel⟩
mutual
/-- JsscanLiterals. -/
theorem lit_done : ∀ (v : V) (p : Int), Code p → Done (feedJ (p, []) (litL v))
  | .mk k n s l ks, p, hp => by
    rw [litL]
    split
    · rcases hp with rfl | rfl <;> exact ⟨by decide +kernel, by decide +kernel⟩
    · split
      · rcases hp with rfl | rfl <;> exact ⟨by decide +kernel, by decide +kernel⟩
      · split
        · rcases hp with rfl | rfl <;> exact ⟨by decide +kernel, by decide +kernel⟩
        · split
          · exact print_done n p hp
          · split
            · exact brack_done 91 93 (.inl ⟨rfl, rfl⟩) false ks _ (lits_done l) p hp
            · split
              · exact brack_done 123 125 (.inr ⟨rfl, rfl⟩) true ks _ (lits_done l) p hp
              · rw [quote_done s p hp]
                exact ⟨rfl, by decide +kernel⟩
theorem lits_done : ∀ (l : List V), ∀ t ∈ litAll l, ∀ p, Code p → Done (feedJ (p, []) t)
  | [], t, ht, _, _ => by rw [litAll] at ht; cases ht
  | x :: l, t, ht, p, hp => by
    rw [litAll] at ht
    rcases List.mem_cons.1 ht with rfl | ht
    · exact lit_done x p hp
    · exact lits_done l t ht p hp
end
/-- With blanks around, from where a value may come, and from behind one. -/
theorem lit_around (v : V) : feedJ (0, []) (32 :: (litL v ++ [32])) = (1, []) := by
  rw [feed_cons]
  have e : stepJ (0, []) 32 = (0, []) := by decide +kernel
  rw [e, feed_append]
  have h := lit_done v 0 (.inl rfl)
  generalize feedJ (0, []) (litL v) = x at h ⊢
  obtain ⟨p, w⟩ := x
  have h1 : p = 1 := h.1
  have h2 : keyB w = false := h.2
  subst h1
  show (if keyB w = true then (0 : Int) else 1, ([] : List UInt8)) = (1, [])
  rw [if_neg (by rw [h2]; simp)]
theorem lit_behind (v : V) (u : List UInt8) : feedJ (1, u) (32 :: (litL v ++ [32])) = (1, []) := by
  rw [feed_cons]
  have e : ∃ q, Code q ∧ stepJ (1, u) 32 = (q, []) := by
    cases hk : keyB u with
    | true => exact ⟨0, .inl rfl, by show (if keyB u = true then (0 : Int) else 1, ([] : List UInt8)) = (0, []); rw [if_pos hk]⟩
    | false => exact ⟨1, .inr rfl, by show (if keyB u = true then (0 : Int) else 1, ([] : List UInt8)) = (1, []); rw [if_neg (by rw [hk]; simp)]⟩
  obtain ⟨q, hq, e⟩ := e
  rw [e, feed_append]
  have h := lit_done v q hq
  generalize feedJ (q, []) (litL v) = x at h ⊢
  obtain ⟨p, w⟩ := x
  have h1 : p = 1 := h.1
  have h2 : keyB w = false := h.2
  subst h1
  show (if keyB w = true then (0 : Int) else 1, ([] : List UInt8)) = (1, [])
  rw [if_neg (by rw [h2]; simp)]
end Go.Proofs.YtklpbkjplecdpaaGreat.Jsc

/-
  Plain facts on texts in styles, with no program: which are plain, a text filtered.
-/
namespace Go.Proofs.YtklpbkjplecdpaaGreat.Css
open Go.Proofs.YtklpbkjplecdpaaGreat.Oct

/-- Letters, digits, blank and the six. -/
def okI (n : Int) : Bool := letterI n || digitI n || decide (n = 32 ∨ n = 46 ∨ n = 44 ∨ n = 37 ∨ n = 35 ∨ n = 43 ∨ n = 45)
def okC (c : UInt8) : Bool := okI (c.toNat : Int)
/-- Does a text stand somewhere in another one? -/
def hasSub (p : List UInt8) : List UInt8 → Bool
  | [] => p.isPrefixOf []
  | c :: t => p.isPrefixOf (c :: t) || hasSub p t
abbrev expL : List UInt8 := [101, 120, 112, 114, 101, 115, 115, 105, 111, 110]
abbrev urlL : List UInt8 := [117, 114, 108]
abbrev markC : List UInt8 := [90, 103, 111, 116, 109, 112, 108, 90]
def plainB (l : List UInt8) : Bool := decide (l.length ≤ 4096) && l.all okC && !hasSub expL (l.map low) && !hasSub urlL (l.map low)
def filtC (l : List UInt8) : List UInt8 := if plainB l = true then l else markC

theorem sub_iff (p l : List UInt8) : hasSub p l = true ↔ ∃ a b, l = a ++ p ++ b := by
  induction l with
  | nil =>
    constructor
    · intro h
      have h2 := List.isPrefixOf_iff_prefix.1 h
      obtain ⟨b, hb⟩ := h2
      exact ⟨[], b, by rw [List.nil_append]; exact hb.symm⟩
    · rintro ⟨a, b, h⟩
      have h1 : a ++ p = [] := (List.append_eq_nil_iff.1 h.symm).1
      have h2 : p = [] := (List.append_eq_nil_iff.1 h1).2
      subst h2; rfl
  | cons c t ih =>
    show (p.isPrefixOf (c :: t) || hasSub p t) = true ↔ _
    rw [Bool.or_eq_true]
    constructor
    · rintro (h | h)
      · obtain ⟨b, hb⟩ := List.isPrefixOf_iff_prefix.1 h
        exact ⟨[], b, by rw [List.nil_append]; exact hb.symm⟩
      · obtain ⟨a, b, hab⟩ := ih.1 h
        exact ⟨c :: a, b, by rw [hab]; rfl⟩
    · rintro ⟨a, b, h⟩
      cases a with
      | nil => exact .inl (List.isPrefixOf_iff_prefix.2 ⟨b, by rw [h]; rfl⟩)
      | cons d a =>
        right
        rw [List.cons_append, List.cons_append] at h
        injection h with _ h
        exact ih.2 ⟨a, b, h⟩
/-- A piece of a plain text is plain. -/
theorem plain_piece (a m b : List UInt8) (h : plainB (a ++ m ++ b) = true) : plainB m = true := by
  unfold plainB at h ⊢
  simp only [Bool.and_eq_true, decide_eq_true_eq, Bool.not_eq_true'] at h ⊢
  obtain ⟨⟨⟨h1, h2⟩, h3⟩, h4⟩ := h
  have piece : ∀ p, hasSub p ((a ++ m ++ b).map low) = false → hasSub p (m.map low) = false := fun p hp => by
    cases hq : hasSub p (m.map low) with
    | false => rfl
    | true =>
      obtain ⟨x, y, hxy⟩ := (sub_iff p _).1 hq
      have : hasSub p ((a ++ m ++ b).map low) = true := (sub_iff p _).2 ⟨a.map low ++ x, y ++ b.map low, by rw [List.map_append, List.map_append, hxy]; simp⟩
      rw [this] at hp; cases hp
  rw [List.length_append, List.length_append] at h1
  rw [List.all_append, List.all_append, Bool.and_eq_true, Bool.and_eq_true] at h2
  exact ⟨⟨⟨by omega, h2.1.2⟩, piece _ h3⟩, piece _ h4⟩
theorem plain_cut (l : List UInt8) (i j : Nat) (h : plainB l = true) : plainB ((l.drop i).take j) = true := by
  refine plain_piece (l.take i) _ ((l.drop i).drop j) ?_
  rw [List.append_assoc, List.take_append_drop, List.take_append_drop]
  exact h
theorem mark_plain : plainB markC = true := by decide +kernel
/-- What is filtered is plain, and stays. -/
theorem filt_plain (l : List UInt8) : plainB (filtC l) = true := by
  unfold filtC
  split
  · assumption
  · exact mark_plain
theorem filt_own (l : List UInt8) : filtC (filtC l) = filtC l := by
  have h := filt_plain l
  rw [show filtC (filtC l) = if plainB (filtC l) = true then filtC l else markC from rfl, if_pos h]
theorem filt_is (l : List UInt8) : filtC l = l ∨ (filtC l = markC ∧ plainB l = false) := by
  unfold filtC
  split
  · exact .inl rfl
  · rename_i h
    exact .inr ⟨rfl, by cases hq : plainB l <;> simp_all⟩
end Go.Proofs.YtklpbkjplecdpaaGreat.Css

/-
  Plain facts on where in a style a text stands, with no program: its parts, octet by octet; a filtered text, an address.
-/
namespace Go.Proofs.YtklpbkjplecdpaaGreat.Csc
open Go.Proofs.YtklpbkjplecdpaaGreat.Oct Go.Proofs.YtklpbkjplecdpaaGreat.Css

abbrev St := Int × List UInt8
def wordC (c : UInt8) : Bool := letterI (c.toNat : Int) || digitI (c.toNat : Int) || c == 45 || c == 95
def lineC (c : UInt8) : Bool := c == 10 || c == 13
abbrev holeW : List UInt8 := [63]
def plainC (w : List UInt8) (c : UInt8) : St :=
  if wordC c then (0, if w ≠ holeW ∧ w.length < 16 then w ++ [low c] else w)
  else if c = 34 then (1, []) else if c = 39 then (2, []) else if c = 47 then (5, []) else if c = 92 then (9, [])
  else if c = 40 then (if w = urlL then (8, []) else if w = holeW then (9, []) else (0, [])) else (0, [])
def stepC (s : St) (c : UInt8) : St :=
  if s.1 = 0 then plainC s.2 c
  else if s.1 = 1 then (if c = 34 then (0, []) else if c = 92 then (3, []) else if lineC c then (9, []) else (1, []))
  else if s.1 = 2 then (if c = 39 then (0, []) else if c = 92 then (4, []) else if lineC c then (9, []) else (2, []))
  else if s.1 = 3 then (1, []) else if s.1 = 4 then (2, [])
  else if s.1 = 5 then (if c = 42 then (6, []) else plainC [] c)
  else if s.1 = 6 then (if c = 42 then (7, []) else (6, []))
  else if s.1 = 7 then (if c = 42 then (7, []) else if c = 47 then (0, []) else (6, []))
  else if s.1 = 8 then (if c = 41 then (0, []) else (8, []))
  else (9, [])
def feedC (s : St) (l : List UInt8) : St := l.foldl stepC s

theorem feed_append (s : St) (a b : List UInt8) : feedC s (a ++ b) = feedC (feedC s a) b := List.foldl_append ..
theorem feed_cons (s : St) (c : UInt8) (t : List UInt8) : feedC s (c :: t) = feedC (stepC s c) t := rfl
theorem feed_nil (s : St) : feedC s [] = s := rfl
/-- CssscanParts: what is not followed stays so. -/
theorem stay_lost (w : List UInt8) (l : List UInt8) : (feedC (9, w) l).1 = 9 := by
  induction l generalizing w with
  | nil => rfl
  | cons c t ih => rw [feed_cons]; exact ih []
/-! ### A filtered text -/
theorem ok_step (w : List UInt8) (c : UInt8) (h : okC c = true) : (stepC (0, w) c).1 = 0 := by
  have h1 : ∀ k : Fin 256, okC (UInt8.ofNat k.val) = true → wordC (UInt8.ofNat k.val) = false → ¬ (UInt8.ofNat k.val = 34) ∧ ¬ (UInt8.ofNat k.val = 39) ∧ ¬ (UInt8.ofNat k.val = 47) ∧ ¬ (UInt8.ofNat k.val = 92) ∧ ¬ (UInt8.ofNat k.val = 40) := by decide +kernel
  have h2 := h1 ⟨c.toNat, c.toNat_lt⟩
  simp only [UInt8.ofNat_toNat] at h2
  show (plainC w c).1 = 0
  unfold plainC
  cases hw : wordC c with
  | true => rw [if_pos rfl]
  | false =>
    obtain ⟨a, b, d, e, f⟩ := h2 h hw
    rw [if_neg (by simp), if_neg a, if_neg b, if_neg d, if_neg e, if_neg f]
theorem ok_feed (l : List UInt8) (h : ∀ c ∈ l, okC c = true) (w : List UInt8) : (feedC (0, w) l).1 = 0 := by
  induction l generalizing w with
  | nil => rfl
  | cons c t ih =>
    rw [feed_cons]
    have h1 := ok_step w c (h c (by simp))
    generalize stepC (0, w) c = x at h1 ⊢
    obtain ⟨p, u⟩ := x
    have h1 : p = 0 := h1
    subst h1
    exact ih (fun d hd => h d (by simp [hd])) u
/-- CssscanFilters. -/
theorem csc_filters (l w : List UInt8) : (feedC (0, w) (filtC l)).1 = 0 := by
  refine ok_feed _ ?_ w
  unfold filtC
  split
  · rename_i h
    unfold plainB at h
    simp only [Bool.and_eq_true] at h
    exact fun c hc => List.all_eq_true.1 h.1.1.2 c hc
  · intro c hc
    have hm : (markC).all okC = true := by decide +kernel
    exact List.all_eq_true.1 hm c hc
/-! ### An address -/
theorem stay_addr (l : List UInt8) (h : ∀ c ∈ l, c ≠ 41) (w : List UInt8) : (feedC (8, w) l).1 = 8 := by
  induction l generalizing w with
  | nil => rfl
  | cons c t ih =>
    rw [feed_cons]
    have e : stepC (8, w) c = (8, []) := by
      show (if c = 41 then ((0, []) : St) else (8, [])) = _
      rw [if_neg (h c (by simp))]
    rw [e]
    exact ih (fun d hd => h d (by simp [hd])) []
/-- CssscanUrls: a: uRl( and behind it no ). -/
theorem csc_open (s : List UInt8) (h : ∀ c ∈ s, c ≠ 41) : (feedC (0, []) ([97, 58, 32, 117, 82, 108, 40] ++ s)).1 = 8 := by
  rw [feed_append]
  have e : feedC (0, []) [97, 58, 32, 117, 82, 108, 40] = (8, []) := by decide +kernel
  rw [e]
  exact stay_addr s h []
theorem csc_shut (s : List UInt8) (h : ∀ c ∈ s, c ≠ 41) : (feedC (0, []) ([97, 58, 32, 85, 82, 76, 40] ++ s ++ [41])).1 = 0 := by
  rw [feed_append, feed_append]
  have e : feedC (0, []) [97, 58, 32, 85, 82, 76, 40] = (8, []) := by decide +kernel
  rw [e]
  have h2 := stay_addr s h []
  generalize feedC (8, []) s = x at h2 ⊢
  obtain ⟨p, u⟩ := x
  have h2 : p = 8 := h2
  subst h2
  rfl
end Go.Proofs.YtklpbkjplecdpaaGreat.Csc

/-
  Where in HTML a text stands, as a plain machine, with no program: a state, a step, a text; what may be; where an action may stand.
-/
namespace Go.Proofs.YtklpbkjplecdpaaGreat.Scn
open Go.Proofs.YtklpbkjplecdpaaGreat.Oct Go.Proofs.YtklpbkjplecdpaaGreat.Crf Go.Proofs.YtklpbkjplecdpaaGreat.Tab
open Go.Proofs.YtklpbkjplecdpaaGreat.Tok (blB letB)

abbrev Res := Except Nat Sc
def feedK (k : Nat) (x : Int × List UInt8) (t : List UInt8) : Int × List UInt8 := if k = 1 then Usc.feedU x t else if k = 2 then Jsc.feedJ x t else Csc.feedC x t
def subK (k : Nat) (s : Sc) (t : List UInt8) : Res :=
  if k = 0 then .ok s
  else if k = 1 ∧ s.n = 4 ∧ (feedK k (s.n, s.w) t).1 = 5 then .error 93
  else if k = 2 ∧ (feedK k (s.n, s.w) t).1 = 15 then .error 94
  else if k = 3 ∧ (feedK k (s.n, s.w) t).1 = 9 then .error 95
  else .ok { s with n := (feedK k (s.n, s.w) t).1, w := (feedK k (s.n, s.w) t).2 }
def subS (s : Sc) (t : List UInt8) : Res := subK (langN s) s t
def andThen (x : Res) (f : Sc → Res) : Res := match x with
  | .error e => .error e
  | .ok u => f u
def ampS (s : Sc) (c : UInt8) : Res := if c = 38 then .ok { s with r := [38] } else subS s [c]
def charS (s : Sc) (c : UInt8) : Res :=
  if s.r = [] then ampS s c
  else if (oneL (s.r ++ [c])).2 = (s.r ++ [c]).length then subS { s with r := [] } (oneL (s.r ++ [c])).1
  else if unfL (s.r ++ [c]) = true then .ok { s with r := s.r ++ [c] }
  else andThen (subS { s with r := [] } s.r) fun u => ampS u c
def flushS (s : Sc) : Res := subS { s with r := [] } s.r
def endS (e : List UInt8) : Res :=
  if elemN e = 1 then .ok (scK 17 e) else if elemN e = 2 then .ok (scK 18 e) else if elemN e = 3 then .ok (scK 19 e) else if elemN e = 4 then .error 91 else .ok sc0
def withinS (e : List UInt8) (c : UInt8) : Res :=
  if blB c = true then .ok (scK 5 e) else if c = 47 then .ok (scK 12 e) else if c = 62 then endS e else .ok { scK 6 e with a := [low c] }
def dataS (s : Sc) (c : UInt8) : Res := if c = 60 then .ok (scK 1 []) else charS s c
def openS (c : UInt8) : Res :=
  if letB c = true then .ok (scK 3 [low c]) else if c = 47 then .ok (scK 2 []) else if c = 33 then .ok (scK 13 []) else if c = 63 then .ok (scK 15 []) else dataS sc0 c
def endOpenS (c : UInt8) : Res := if letB c = true then .ok (scK 4 [47, low c]) else if c = 62 then .ok sc0 else .ok (scK 15 [])
def bangS (k : Nat) (c : UInt8) : Res :=
  if c = 45 then (if k = 13 then .ok (scK 14 []) else .ok (scK 16 [])) else if c = 62 then .ok sc0 else .ok (scK 15 [])
def bogusS (s : Sc) (c : UInt8) : Res := if c = 62 then .ok sc0 else .ok s
def commentS (s : Sc) (c : UInt8) : Res :=
  if c = 45 ∧ s.p ≠ [45, 45] then .ok { s with p := s.p ++ [45] } else if c = 62 ∧ s.p = [45, 45] then .ok sc0 else if c ≠ 45 then .ok { s with p := [] } else .ok s
def nameS (s : Sc) (c : UInt8) : Res :=
  if blB c = true ∨ c = 47 ∨ c = 62 then withinS s.e c else if 32 + (s.k - 3) ≤ s.e.length then .error 5 else .ok { s with e := s.e ++ [low c] }
def attrS (s : Sc) (c : UInt8) : Res :=
  if blB c = true then .ok { s with k := 7 } else if c = 61 then .ok { s with k := 8 } else if c = 47 ∨ c = 62 ∨ s.k = 7 then withinS s.e c
  else if 32 ≤ s.a.length then .error 5 else .ok { s with a := s.a ++ [low c] }
def wantS (s : Sc) (c : UInt8) : Res :=
  if blB c = true then .ok s else if c = 34 ∨ c = 39 then .ok { s with k := 9, d := c } else if c = 62 then endS s.e else charS { s with k := 10 } c
def valueS (s : Sc) (c : UInt8) : Res := if c = s.d then andThen (flushS s) fun t => .ok (scK 11 t.e) else charS s c
def bareS (s : Sc) (c : UInt8) : Res := if blB c = true ∨ c = 62 then andThen (flushS s) fun t => withinS t.e c else charS s c
/-- Is a text a beginning of a name's end tag (small or great), or in a script of a remark's beginning? -/
def pendB (s : Sc) (t : List UInt8) : Bool := (t.map low).isPrefixOf ((60 :: 47 :: s.e).map low) || (s.k == 19 && t.isPrefixOf [60, 33, 45, 45])
def rawOne (s : Sc) (c : UInt8) : Res := if c = 60 then .ok { s with p := [60], r := [] } else if s.k = 17 then charS s c else subS s [c]
def rawS (s : Sc) (c : UInt8) : Res :=
  if s.p = [] then rawOne s c
  else if pendB s (s.p ++ [c]) = true then (if s.p ++ [c] = [60, 33, 45, 45] then .error 94 else .ok { s with p := s.p ++ [c] })
  else if s.p.length = s.e.length + 2 ∧ s.p[1]? = some 47 ∧ (blB c = true ∨ c = 47 ∨ c = 62) then withinS (47 :: s.e) c
  else andThen (subS { s with p := [] } s.p) fun u => rawOne u c
/-- A step, of a state that may be. -/
def goS (s : Sc) (c : UInt8) : Res :=
  if s.k = 0 then dataS s c else if s.k = 1 then openS c else if s.k = 2 then endOpenS c
  else if s.k = 3 ∨ s.k = 4 then nameS s c else if s.k = 5 ∨ s.k = 11 ∨ s.k = 12 then withinS s.e c
  else if s.k = 6 ∨ s.k = 7 then attrS s c else if s.k = 8 then wantS s c else if s.k = 9 then valueS s c else if s.k = 10 then bareS s c
  else if s.k = 13 ∨ s.k = 14 then bangS s.k c else if s.k = 15 then bogusS s c else if s.k = 16 then commentS s c else rawS s c
/-- A text: the state behind it, or the error and its place. -/
def runS (s : Sc) : List UInt8 → Except (Nat × Nat) Sc
  | [] => .ok s
  | c :: t => match goS s c with
    | .error e => .error (0, e)
    | .ok u => match runS u t with
      | .error (k, e) => .error (k + 1, e)
      | .ok v => .ok v
theorem runS_nil (s : Sc) : runS s [] = .ok s := rfl
theorem runS_eq (s : Sc) (c : UInt8) (t : List UInt8) : runS s (c :: t) = match goS s c with
    | .error e => .error (0, e)
    | .ok u => match runS u t with
      | .error (k, e) => .error (k + 1, e)
      | .ok v => .ok v := rfl
theorem runS_cons {s v : Sc} {c : UInt8} {t : List UInt8} (h : runS s (c :: t) = .ok v) : ∃ u, goS s c = .ok u ∧ runS u t = .ok v := by
  unfold runS at h
  cases hg : goS s c with
  | error e => rw [hg] at h; cases h
  | ok u =>
    rw [hg] at h
    refine ⟨u, rfl, ?_⟩
    cases hr : runS u t with
    | error x => simp only [hr] at h; cases h
    | ok y => simp only [hr] at h; exact h
theorem runS_snoc {l : List UInt8} : ∀ {s v : Sc} {c : UInt8}, runS s (l ++ [c]) = .ok v → ∃ u, runS s l = .ok u ∧ goS u c = .ok v := by
  induction l with
  | nil =>
    intro s v c h
    obtain ⟨u, h1, h2⟩ := runS_cons h
    refine ⟨s, rfl, ?_⟩
    rw [h1]
    rw [runS_nil] at h2
    injection h2 with h2
    rw [h2]
  | cons d t ih =>
    intro s v c h
    obtain ⟨u, h1, h2⟩ := runS_cons h
    obtain ⟨x, h3, h4⟩ := ih h2
    refine ⟨x, ?_, h4⟩
    unfold runS
    rw [h1]
    simp only [h3]
theorem runS_append (a b : List UInt8) : ∀ (s : Sc), runS s (a ++ b) = match runS s a with
    | .error x => .error x
    | .ok u => match runS u b with
      | .error (k, e) => .error (a.length + k, e)
      | .ok v => .ok v := by
  induction a with
  | nil =>
    intro s
    rw [List.nil_append, runS_nil]
    simp only
    cases runS s b with
    | error x => obtain ⟨k, e⟩ := x; simp
    | ok v => rfl
  | cons c t ih =>
    intro s
    rw [List.cons_append, runS_eq, runS_eq]
    cases goS s c with
    | error e => rfl
    | ok u =>
      simp only [ih u]
      cases runS u t with
      | error x => rfl
      | ok v =>
        simp only
        cases runS v b with
        | error x =>
          obtain ⟨k, e⟩ := x
          simp only [List.length_cons]
          have e1 : t.length + k + 1 = t.length + 1 + k := by omega
          rw [e1]
        | ok y => rfl
end Go.Proofs.YtklpbkjplecdpaaGreat.Scn
