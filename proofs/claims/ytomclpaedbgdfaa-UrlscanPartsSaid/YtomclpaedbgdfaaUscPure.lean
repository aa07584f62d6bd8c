/-
  Plain facts on where in a URL a text stands, with no program: its parts, octet by octet.
-/
import Derived.Test.YtomclpaedbgdfaaSchPure
namespace Go.Proofs.Ytomclpaedbgdfaa.Usc
open Go.Proofs.Ytomclpaedbgdfaa.Oct Go.Proofs.Ytomclpaedbgdfaa.Utf Go.Proofs.Ytomclpaedbgdfaa.Pct Go.Proofs.Ytomclpaedbgdfaa.Sch

/-- A part, and the word on its way. -/
abbrev St := Int × List UInt8
def askB (c : UInt8) : Bool := decide (c = 63 ∨ c = 35)
def headU (w : List UInt8) (c : UInt8) : St :=
  if c = 47 then (2, []) else if askB c = true then (3, []) else if c = 58 then (if allowL w = true then (2, []) else (5, [])) else (1, if w.length < 16 then w ++ [low c] else w)
def stepU (s : St) (c : UInt8) : St :=
  if s.1 = 0 then headU [] c else if s.1 = 1 then headU s.2 c
  else if s.1 = 2 then (if askB c = true then (3, []) else (2, []))
  else if s.1 = 3 then (3, [])
  else if s.1 = 4 then (if c = 47 then (2, []) else if askB c = true then (3, []) else if c = 58 then (5, []) else (4, []))
  else (5, [])
def feedU (s : St) (l : List UInt8) : St := l.foldl stepU s

theorem feed_append (s : St) (a b : List UInt8) : feedU s (a ++ b) = feedU (feedU s a) b := List.foldl_append ..
theorem feed_nil (s : St) : feedU s [] = s := rfl
theorem feed_cons (s : St) (c : UInt8) (t : List UInt8) : feedU s (c :: t) = feedU (stepU s c) t := rfl
theorem step_zero (w : List UInt8) (c : UInt8) : stepU (0, w) c = headU [] c := rfl
theorem step_one (w : List UInt8) (c : UInt8) : stepU (1, w) c = headU w c := rfl
theorem stay_five (w : List UInt8) (l : List UInt8) : (feedU (5, w) l).1 = 5 := by
  induction l generalizing w with
  | nil => rfl
  | cons c t ih => rw [feed_cons]; exact ih []
theorem stay_three (w : List UInt8) (l : List UInt8) : (feedU (3, w) l).1 = 3 := by
  induction l generalizing w with
  | nil => rfl
  | cons c t ih => rw [feed_cons]; exact ih []
theorem stay_two (w : List UInt8) (l : List UInt8) : (feedU (2, w) l).1 = 2 ∨ (feedU (2, w) l).1 = 3 := by
  induction l generalizing w with
  | nil => exact .inl rfl
  | cons c t ih =>
    rw [feed_cons]
    show (feedU (if askB c = true then (3, []) else (2, [])) t).1 = 2 ∨ (feedU (if askB c = true then (3, []) else (2, [])) t).1 = 3
    split
    · exact .inr (stay_three [] t)
    · exact ih []
/-- UrlscanQuery. -/
theorem usc_query (a s : List UInt8) : (feedU (0, []) (47 :: (a ++ 63 :: s))).1 = 3 := by
  rw [feed_cons, feed_append]
  have e : stepU (0, []) 47 = (2, []) := rfl
  rw [e]
  have h : ∀ x : St, (x.1 = 2 ∨ x.1 = 3) → (feedU x (63 :: s)).1 = 3 := by
    rintro ⟨p, w⟩ hp
    rw [feed_cons]
    rcases hp with h | h
    · have h : p = 2 := h
      subst h
      exact stay_three _ _
    · have h : p = 3 := h
      subst h
      exact stay_three _ _
  exact h _ (stay_two _ _)
theorem head_other (w : List UInt8) {c : UInt8} (h1 : c ≠ 58) (h2 : ¬ (c = 47 ∨ c = 63 ∨ c = 35)) : headU w c = (1, if w.length < 16 then w ++ [low c] else w) := by
  unfold headU
  rw [if_neg (fun h => h2 (.inl h)), if_neg (by unfold askB; simp; exact ⟨fun h => h2 (.inr (.inl h)), fun h => h2 (.inr (.inr h))⟩), if_neg h1]
theorem head_stop (w : List UInt8) {c : UInt8} (h2 : c = 47 ∨ c = 63 ∨ c = 35) (t : List UInt8) : (feedU (headU w c) t).1 ≠ 5 := by
  rcases h2 with rfl | rfl | rfl
  · show (feedU (2, []) t).1 ≠ 5
    rcases stay_two [] t with h | h <;> rw [h] <;> decide
  · show (feedU (3, []) t).1 ≠ 5
    rw [stay_three]; decide
  · show (feedU (3, []) t).1 ≠ 5
    rw [stay_three]; decide
theorem none_not (l : List UInt8) : ∀ w, schL l = none → (feedU (1, w) l).1 ≠ 5 := by
  induction l with
  | nil => intro w _; show (1 : Int) ≠ 5; decide
  | cons c t ih =>
    intro w h
    rw [feed_cons, step_one]
    unfold schL at h
    split at h
    · cases h
    · rename_i h1
      split at h
      · rename_i h2
        exact head_stop w h2 t
      · rename_i h2
        rw [head_other w h1 h2]
        exact ih _ (Option.map_eq_none_iff.1 h)
theorem some_iff (l : List UInt8) : ∀ w k, schL l = some k → w.length + k ≤ 16 → (decide ((feedU (1, w) l).1 = 5)) = !allowL (w ++ (l.take k).map low) := by
  induction l with
  | nil => intro w k h; cases h
  | cons c t ih =>
    intro w k h hk
    rw [feed_cons, step_one]
    unfold schL at h
    split at h
    · rename_i h1
      injection h with h
      subst h
      subst h1
      rw [List.take_zero, List.map_nil, List.append_nil]
      have e : headU w 58 = if allowL w = true then (2, []) else (5, []) := rfl
      rw [e]
      cases hw : allowL w with
      | true =>
        rw [if_pos rfl]
        have : ¬ ((feedU (2, []) t).1 = 5) := by rcases stay_two [] t with h | h <;> rw [h] <;> decide
        rw [decide_eq_false this]
        rfl
      | false =>
        rw [if_neg (by simp), decide_eq_true (stay_five [] t)]
        rfl
    · rename_i h1
      split at h
      · cases h
      · rename_i h2
        obtain ⟨j, hj, rfl⟩ := Option.map_eq_some_iff.1 h
        rw [head_other w h1 h2, if_pos (by omega), ih (w ++ [low c]) j hj (by rw [List.length_append, List.length_singleton]; omega)]
        rw [List.take_succ_cons, List.map_cons, List.append_assoc, List.singleton_append]
/-- UrlscanSchemes: whether a part is 5. -/
theorem usc_schemes (l : List UInt8) (h : (schemeL l).1.length ≤ 16) : decide ((feedU (0, []) l).1 = 5) = ((schemeL l).2 && !allowL (schemeL l).1) := by
  have e0 : decide ((feedU (0, []) l).1 = 5) = decide ((feedU (1, []) l).1 = 5) := by
    cases l with
    | nil => rfl
    | cons c t => rfl
  rw [e0]
  unfold schemeL at h ⊢
  cases hs : schL l with
  | none =>
    rw [decide_eq_false (none_not l [] hs)]
    rfl
  | some k =>
    rw [hs] at h
    have hk := sch_le hs
    have hl : ((l.take k).map low).length = k := by rw [List.length_map, List.length_take]; omega
    have h : ((l.take k).map low).length ≤ 16 := h
    rw [some_iff l [] k hs (by rw [List.length_nil]; omega), List.nil_append]
    rfl
end Go.Proofs.Ytomclpaedbgdfaa.Usc
