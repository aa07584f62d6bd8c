/-
  Plain facts on schemes, with no program: where one ends, which are allowed, a text filtered.
-/
import Derived.Test.YtomclpaedbgdfaaPctPure
namespace Go.Proofs.Ytomclpaedbgdfaa.Sch
open Go.Proofs.Ytomclpaedbgdfaa.Oct Go.Proofs.Ytomclpaedbgdfaa.Utf Go.Proofs.Ytomclpaedbgdfaa.Pct
open Go.Lib (encodeRune)

/-- Where a text's scheme ends: the place of the first : , if no / ? # stands ahead of it. -/
def schL : List UInt8 → Option Nat
  | [] => none
  | c :: t => if c = 58 then some 0 else if c = 47 ∨ c = 63 ∨ c = 35 then none else (schL t).map (· + 1)
/-- The scheme in small letters, and whether there is one. -/
def schemeL (l : List UInt8) : List UInt8 × Bool := match schL l with
  | some k => ((l.take k).map low, true)
  | none => ([], false)
abbrev httpL : List UInt8 := [104, 116, 116, 112]
abbrev httpsL : List UInt8 := [104, 116, 116, 112, 115]
abbrev mailtoL : List UInt8 := [109, 97, 105, 108, 116, 111]
abbrev markL : List UInt8 := [35, 90, 103, 111, 116, 109, 112, 108, 90]
def allowL (l : List UInt8) : Bool := decide (l = httpL ∨ l = httpsL ∨ l = mailtoL)
def filtL (l : List UInt8) : List UInt8 := if (schemeL l).2 = true ∧ allowL (schemeL l).1 = false then markL else norL (rep l)

theorem sch_le {l : List UInt8} {k : Nat} (h : schL l = some k) : k < l.length := by
  induction l generalizing k with
  | nil => cases h
  | cons c t ih =>
    unfold schL at h
    split at h
    · injection h with h; subst h; simp
    · split at h
      · cases h
      · obtain ⟨j, hj, rfl⟩ := Option.map_eq_some_iff.1 h
        have := ih hj
        simp; omega

/-! ### The four octets that part a URL at its beginning -/
def isM (c : UInt8) : Bool := decide (c = 58 ∨ c = 47 ∨ c = 63 ∨ c = 35)
def marks (l : List UInt8) : List UInt8 := l.filter isM
theorem marks_append (a b : List UInt8) : marks (a ++ b) = marks a ++ marks b := List.filter_append ..
theorem marks_none {l : List UInt8} (h : ∀ c ∈ l, isM c = false) : marks l = [] := by
  unfold marks
  rw [List.filter_eq_nil_iff]
  intro c hc
  rw [h c hc]; simp
theorem sch_marks (l : List UInt8) : (schL l).isSome = decide ((marks l).head? = some 58) := by
  induction l with
  | nil => rfl
  | cons c t ih =>
    unfold schL
    by_cases h1 : c = 58
    · subst h1; rfl
    · rw [if_neg h1]
      by_cases h2 : c = 47 ∨ c = 63 ∨ c = 35
      · rw [if_pos h2]
        have hm : isM c = true := decide_eq_true (.inr h2)
        unfold marks
        rw [List.filter_cons_of_pos hm]
        simp [h1]
      · rw [if_neg h2, Option.isSome_map, ih]
        have hm : ¬ isM c = true := by
          intro h
          rcases of_decide_eq_true h with h | h
          · exact h1 h
          · exact h2 h
        unfold marks
        rw [List.filter_cons_of_neg hm]
theorem small_oct (c : UInt8) (h : isM c = true) : (unr c = false ∧ res c = true ∧ c ≠ 37) := by
  rcases of_decide_eq_true h with h | h | h | h <;> subst h <;> decide
theorem marks_hex (c : UInt8) : marks (37 :: hexL c.toNat 2) = [] := by
  rw [hexL2]
  refine marks_none fun d hd => ?_
  have h2 := digit_unr _ _ (hex_two c).1
  have hn : ∀ d, unr d = true → isM d = false := fun d hu => by
    cases hq : isM d with
    | false => rfl
    | true => rw [(small_oct d hq).1] at hu; cases hu
  rcases List.mem_cons.1 hd with rfl | hd
  · decide
  · rcases List.mem_cons.1 hd with rfl | hd
    · exact hn _ h2.1
    · rw [List.mem_singleton] at hd
      subst hd
      exact hn _ h2.2
theorem marks_nor (l : List UInt8) : marks (norL l) = marks l := by
  induction l with
  | nil => rfl
  | cons c t ih =>
    rw [nor_cons, marks_append, ih]
    have e : marks (c :: t) = marks [c] ++ marks t := marks_append [c] t
    rw [e]
    congr 1
    by_cases hp : norP (c :: t) = true
    · rw [if_pos hp]
    · rw [if_neg hp, marks_hex]
      refine (marks_none fun d hd => ?_).symm
      rw [List.mem_singleton] at hd
      subst hd
      cases hq : isM d with
      | false => rfl
      | true => exact absurd (norP_stay d t (.inr (small_oct d hq).2.1)) hp
theorem isM_small (c : UInt8) (h : isM c = true) : c.toNat < 128 ∧ c.toNat ≠ 0 := stay_small c (.inr (.inr (small_oct c h).2.1))
theorem bad_big (x : UInt8) (t : List UInt8) (h : dec (x :: t) = (-1, 1)) : isM x = false := by
  cases hq : isM x with
  | false => rfl
  | true =>
    have hs := isM_small x hq
    have hch : isChar (x.toNat : Int) := .inl (by omega)
    have h2 := dec_enc (x.toNat : Int) hch t
    rw [enc_small x hs.1] at h2
    rw [show [x] ++ t = x :: t from rfl, h] at h2
    have h3 := congrArg Prod.fst h2
    simp at h3
theorem marks_fix (c : Int) : marks (encodeRune (fix c)) = marks (encodeRune c) ∨ c = -1 := by
  unfold fix
  by_cases h : c = -1 ∨ c = 0
  · rw [if_pos h]
    rcases h with rfl | rfl
    · exact .inr rfl
    · left
      decide +kernel
  · rw [if_neg h]; exact .inl rfl
theorem marks_rep (l : List UInt8) : marks (rep l) = marks l := by
  induction l using parts_ind with
  | h0 => rfl
  | hbad x t h ih =>
    have e : rep (x :: t) = encodeRune 65533 ++ rep t := by
      unfold rep chars encs
      rw [parts_bad x t h, List.map_cons, List.flatMap_cons]
      rfl
    have e2 : marks (x :: t) = marks t := by
      unfold marks
      rw [List.filter_cons_of_neg (by rw [bad_big x t h]; simp)]
    have e3 : marks (encodeRune 65533) = [] := by decide +kernel
    rw [e, marks_append, ih, e2, e3, List.nil_append]
  | hc c t hc ih =>
    rw [rep_step c t hc, marks_append, marks_append, ih]
    rcases marks_fix c with h | h
    · rw [h]
    · subst h
      exact absurd hc (by decide)

/-! ### Filtered -/
theorem sch_split {l : List UInt8} {k : Nat} (h : schL l = some k) : l = l.take k ++ 58 :: l.drop (k + 1) ∧ ∀ c ∈ l.take k, isM c = false := by
  induction l generalizing k with
  | nil => cases h
  | cons c t ih =>
    unfold schL at h
    by_cases h1 : c = 58
    · rw [if_pos h1] at h
      injection h with h
      subst h; subst h1
      exact ⟨rfl, fun c hc => by cases hc⟩
    · rw [if_neg h1] at h
      by_cases h2 : c = 47 ∨ c = 63 ∨ c = 35
      · rw [if_pos h2] at h; cases h
      · rw [if_neg h2] at h
        obtain ⟨j, hj, rfl⟩ := Option.map_eq_some_iff.1 h
        have hi := ih hj
        refine ⟨?_, ?_⟩
        · rw [List.take_succ_cons, List.drop_succ_cons, List.cons_append, ← hi.1]
        · rw [List.take_succ_cons]
          intro d hd
          rcases List.mem_cons.1 hd with rfl | hd
          · refine decide_eq_false ?_
            rintro (h | h)
            · exact h1 h
            · exact h2 h
          · exact hi.2 d hd
theorem sch_at (p t : List UInt8) (h : ∀ c ∈ p, isM c = false) : schL (p ++ 58 :: t) = some p.length := by
  induction p with
  | nil => rfl
  | cons c p ih =>
    have hc := of_decide_eq_false (h c (by simp))
    rw [List.cons_append]
    unfold schL
    rw [if_neg (fun e => hc (.inl e)), if_neg (fun e => hc (.inr e)), ih (fun d hd => h d (by simp [hd]))]
    rfl
theorem scheme_at (p t : List UInt8) (h : ∀ c ∈ p, isM c = false) : schemeL (p ++ 58 :: t) = (p.map low, true) := by
  unfold schemeL
  rw [sch_at p t h]
  show ((List.take p.length (p ++ 58 :: t)).map low, true) = _
  rw [List.take_left]
theorem scheme_none {l : List UInt8} (h : (marks l).head? ≠ some 58) : schemeL l = ([], false) := by
  have h1 := sch_marks l
  rw [decide_eq_false h] at h1
  unfold schemeL
  cases hs : schL l with
  | none => rfl
  | some k => rw [hs] at h1; cases h1
theorem rep_front (p t : List UInt8) (h : ∀ c ∈ p, c.toNat < 128 ∧ c.toNat ≠ 0) : rep (p ++ t) = p ++ rep t := by
  induction p with
  | nil => rfl
  | cons c p ih =>
    have hc := h c (by simp)
    have hch : isChar (c.toNat : Int) := .inl (by omega)
    have e := rep_step (c.toNat : Int) (p ++ t) hch
    rw [fix_id hch (by omega), enc_small c hc.1, ih (fun d hd => h d (by simp [hd]))] at e
    exact e
theorem nor_front (p t : List UInt8) (h : ∀ c ∈ p, unr c = true ∨ res c = true) : norL (p ++ t) = p ++ norL t := by
  induction p with
  | nil => rfl
  | cons c p ih => rw [List.cons_append, nor_cons, if_pos (norP_stay c _ (h c (by simp))), ih (fun d hd => h d (by simp [hd]))]; rfl
theorem allow_letters (p : List UInt8) (h : allowL (p.map low) = true) : ∀ c ∈ p, unr c = true := by
  have h1 : ∀ c : Fin 256, low (UInt8.ofNat c.val) ∈ httpL ++ httpsL ++ mailtoL → unr (UInt8.ofNat c.val) = true := by decide +kernel
  intro c hc
  have h2 : low c ∈ httpL ++ httpsL ++ mailtoL := by
    have h3 : low c ∈ p.map low := List.mem_map.2 ⟨c, hc, rfl⟩
    rcases of_decide_eq_true h with h | h | h
    · rw [h] at h3; exact List.mem_append.2 (.inl (List.mem_append.2 (.inl h3)))
    · rw [h] at h3; exact List.mem_append.2 (.inl (List.mem_append.2 (.inr h3)))
    · rw [h] at h3; exact List.mem_append.2 (.inr h3)
  have h4 := h1 ⟨c.toNat, c.toNat_lt⟩
  simp only [UInt8.ofNat_toNat] at h4
  exact h4 h2
/-- What is normal stays, repaired and told anew. -/
theorem nor_again (l : List UInt8) : norL (rep (norL l)) = norL l := by
  have hm := norm_nor _ l (Nat.le_refl _)
  rw [rep_small _ (fun c hc => stay_small c (norm_all hm c hc)), norm_own hm]
theorem filt_cases (l : List UInt8) : (filtL l = markL) ∨ (filtL l = norL (rep l) ∧ ((marks l).head? ≠ some 58 ∨ ∃ p t, l = p ++ 58 :: t ∧ (∀ c ∈ p, isM c = false) ∧ allowL (p.map low) = true)) := by
  unfold filtL
  by_cases h : (schemeL l).2 = true ∧ allowL (schemeL l).1 = false
  · rw [if_pos h]; exact .inl rfl
  · rw [if_neg h]
    refine .inr ⟨rfl, ?_⟩
    by_cases hm : (marks l).head? = some 58
    · right
      have h1 := sch_marks l
      rw [decide_eq_true hm] at h1
      obtain ⟨k, hk⟩ := Option.isSome_iff_exists.1 h1
      have hs := sch_split hk
      have he : schemeL l = ((l.take k).map low, true) := by unfold schemeL; rw [hk]
      rw [he] at h
      refine ⟨l.take k, l.drop (k + 1), hs.1, hs.2, ?_⟩
      cases hq : allowL ((l.take k).map low) with
      | true => rfl
      | false => exact absurd ⟨rfl, hq⟩ h
    · exact .inl hm
/-- A filtered text has no scheme, or one that is allowed. -/
theorem filt_scheme (l : List UInt8) : (schemeL (filtL l)).2 = false ∨ allowL (schemeL (filtL l)).1 = true := by
  rcases filt_cases l with h | ⟨h, hm | ⟨p, t, rfl, hp, ha⟩⟩
  · rw [h]; exact .inl (by decide)
  · rw [h]
    left
    rw [scheme_none (by rw [marks_nor, marks_rep]; exact hm)]
  · right
    have hl := allow_letters p ha
    rw [h, rep_front p _ (fun c hc => stay_small c (.inr (.inl (hl c hc)))), nor_front p _ (fun c hc => .inl (hl c hc))]
    have e1 : rep (58 :: t) = 58 :: rep t := rep_front [58] t (fun c hc => by rw [List.mem_singleton] at hc; subst hc; decide)
    have e2 : norL (58 :: rep t) = 58 :: norL (rep t) := nor_front [58] (rep t) (fun c hc => by rw [List.mem_singleton] at hc; subst hc; decide)
    rw [e1, e2, scheme_at p _ hp]
    exact ha
/-- Filtered again it stays. -/
theorem filt_again (l : List UInt8) : filtL (filtL l) = filtL l := by
  have hs := filt_scheme l
  have e : filtL (filtL l) = norL (rep (filtL l)) := by
    have h : ¬ ((schemeL (filtL l)).2 = true ∧ allowL (schemeL (filtL l)).1 = false) := by
      rintro ⟨h1, h2⟩
      rcases hs with h | h
      · rw [h1] at h; cases h
      · rw [h2] at h; cases h
    rw [show filtL (filtL l) = if (schemeL (filtL l)).2 = true ∧ allowL (schemeL (filtL l)).1 = false then markL else norL (rep (filtL l)) from rfl, if_neg h]
  rw [e]
  rcases filt_cases l with h | ⟨h, _⟩
  · rw [h]; decide +kernel
  · rw [h, nor_again]
theorem filt_len (l : List UInt8) (n : Nat) (h : (rep l).length ≤ n) (h9 : 3 ≤ n) : (filtL l).length ≤ 3 * n := by
  rcases filt_cases l with e | ⟨e, _⟩
  · rw [e]; show 9 ≤ _; omega
  · rw [e]
    have := cod_len norP (rep l)
    unfold norL
    omega
/-- Behind a / ? # there is no scheme. -/
theorem hidden (a b : List UInt8) (c : UInt8) (h : ∀ d ∈ a, isM d = false) (hc : c = 47 ∨ c = 63 ∨ c = 35) : schemeL (a ++ c :: b) = ([], false) := by
  refine scheme_none ?_
  rw [marks_append, marks_none h, List.nil_append]
  have hm : isM c = true := decide_eq_true (.inr hc)
  unfold marks
  rw [List.filter_cons_of_pos hm]
  simp
  rcases hc with rfl | rfl | rfl <;> decide
end Go.Proofs.Ytomclpaedbgdfaa.Sch
