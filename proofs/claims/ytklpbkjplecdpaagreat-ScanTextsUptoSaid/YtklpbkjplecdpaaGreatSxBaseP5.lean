/-
  Part 5: ScnMay, ScnLaws, ScnStr, PgOct, OctLeaves, Shelf, OctFirst.
-/
import Derived.Test.YtklpbkjplecdpaaGreatSxBaseP4
import Derived.Test.YtklpbkjplecdpaaGreatSxBaseP1
import Derived.Test.YtklpbkjplecdpaaGreatProg
import Derived.Shelf.Small.Utf8
import Derived.Shelf.Small.Strs
import Derived.Shelf.Small.Wraps
import Derived.Shelf.Utf8.AppendRune
import Derived.Shelf.Utf8.AppendRunePlain
import Derived.Shelf.LaysM
import Derived.Shelf.Strconv.Clone
import Derived.Shelf.Strings.Search1
import Derived.Shelf.Strings.Search2
import Derived.Shelf.Strings.Cut
import Derived.Shelf.Strings.Shaped
import Derived.Shelf.Strings.Prefix
import Derived.Shelf.Slices.Turned
import Derived.Lib.Hide
import Derived.Deep.RegionWith
/-
  Where in HTML a text stands, with no program: a state that octets make may be.
-/
namespace Go.Proofs.YtklpbkjplecdpaaGreat.Scn
open Oct Crf Tab Tok

structure May (s : Sc) : Prop where
  k : s.k ≤ 19
  e1 : elemK s.k = true ∨ s.e = []
  e2 : s.e.length ≤ 33
  a1 : attrK s.k = true ∨ s.a = []
  a2 : s.a.length ≤ 32
  d : (s.k = 9 ∧ (s.d = 34 ∨ s.d = 39)) ∨ (s.k ≠ 9 ∧ s.d = 0)
  p1 : 16 ≤ s.k ∨ s.p = []
  p2 : s.p.length ≤ 34
  r1 : refK s.k = true ∨ s.r = []
  r2 : s.r.length ≤ 16
  n1 : 0 ≤ s.n
  n2 : s.n ≤ 15
  w : s.w.length ≤ 16
  l : langN s = 0 → s.n = 0 ∧ s.w = []
  x : 17 ≤ s.k → elemN s.e + 16 = s.k
  q : s.k = 16 → s.p = [] ∨ s.p = [45] ∨ s.p = [45, 45]

def Good (x : Int × List UInt8) : Prop := 0 ≤ x.1 ∧ x.1 ≤ 15 ∧ x.2.length ≤ 16
theorem good_word (w : List UInt8) (c : UInt8) (h : w.length ≤ 16) : (if w.length < 16 then w ++ [c] else w).length ≤ 16 := by
  split
  · rw [List.length_append, List.length_singleton]; omega
  · exact h
theorem good_if {q : Prop} [Decidable q] {a b : Int × List UInt8} (ha : Good a) (hb : Good b) : Good (if q then a else b) := by split <;> assumption
theorem good_u (x : Int × List UInt8) (c : UInt8) (h : Good x) : Good (Usc.stepU x c) := by
  have head : ∀ w : List UInt8, w.length ≤ 16 → Good (Usc.headU w c) := fun w hw => by
    unfold Usc.headU
    repeat' split
    all_goals first | exact ⟨by decide, by decide, Nat.zero_le _⟩ | skip
    all_goals exact ⟨by show (0 : Int) ≤ 1; decide, by show (1 : Int) ≤ 15; decide, by first | (show (w ++ [low c]).length ≤ 16; rw [List.length_append, List.length_singleton]; omega) | exact hw⟩
  unfold Usc.stepU
  repeat' split
  all_goals first | exact ⟨by decide, by decide, Nat.zero_le _⟩ | exact head [] (Nat.zero_le _) | exact head _ h.2.2
theorem good_j (x : Int × List UInt8) (c : UInt8) (h : Good x) : Good (Jsc.stepJ x c) := by
  have code : ∀ (p : Int) (w : List UInt8), (p = 0 ∨ p = 1) → w.length ≤ 16 → Good (Jsc.codeJ p w c) := fun p w hp hw => by
    have hq : (if Jsc.keyB w = true then (0 : Int) else p) = 0 ∨ (if Jsc.keyB w = true then (0 : Int) else p) = 1 := by
      split
      · exact .inl rfl
      · exact hp
    unfold Jsc.codeJ
    split
    · exact ⟨by show (0 : Int) ≤ 1; decide, by show (1 : Int) ≤ 15; decide, good_word w c hw⟩
    · split
      · refine ⟨?_, ?_, Nat.zero_le _⟩
        · show (0 : Int) ≤ (if Jsc.keyB w = true then (0 : Int) else p); omega
        · show (if Jsc.keyB w = true then (0 : Int) else p) ≤ 15; omega
      · split
        · exact ⟨by decide, by decide, Nat.zero_le _⟩
        · split
          · exact ⟨by decide, by decide, Nat.zero_le _⟩
          · split
            · exact ⟨by decide, by decide, Nat.zero_le _⟩
            · split
              · refine ⟨?_, ?_, Nat.zero_le _⟩
                · show (0 : Int) ≤ 13 + (if Jsc.keyB w = true then (0 : Int) else p); omega
                · show 13 + (if Jsc.keyB w = true then (0 : Int) else p) ≤ 15; omega
              · split
                · exact ⟨by decide, by decide, Nat.zero_le _⟩
                · exact ⟨by decide, by decide, Nat.zero_le _⟩
  have pat : Good (Jsc.patJ c) := by
    unfold Jsc.patJ
    repeat' split
    all_goals exact ⟨by decide, by decide, Nat.zero_le _⟩
  unfold Jsc.stepJ
  by_cases hp : x.1 = 0 ∨ x.1 = 1
  · rw [if_pos hp]
    exact code _ _ hp h.2.2
  · rw [if_neg hp]
    repeat' (first | exact pat | exact code 0 [] (.inl rfl) (Nat.zero_le _) | refine good_if ?_ ?_ | exact ⟨by decide, by decide, Nat.zero_le _⟩)
theorem good_c (x : Int × List UInt8) (c : UInt8) (h : Good x) : Good (Csc.stepC x c) := by
  have pl : ∀ w : List UInt8, w.length ≤ 16 → Good (Csc.plainC w c) := fun w hw => by
    unfold Csc.plainC
    split
    · refine ⟨by show (0 : Int) ≤ 0; decide, by show (0 : Int) ≤ 15; decide, ?_⟩
      show (if w ≠ Csc.holeW ∧ w.length < 16 then w ++ [low c] else w).length ≤ 16
      split
      · rw [List.length_append, List.length_singleton]; omega
      · exact hw
    · repeat' split
      all_goals exact ⟨by decide, by decide, Nat.zero_le _⟩
  unfold Csc.stepC
  repeat' split
  all_goals first | exact ⟨by decide, by decide, Nat.zero_le _⟩ | exact pl _ h.2.2 | exact pl [] (Nat.zero_le _)
theorem good_feed (k : Nat) (l : List UInt8) : ∀ x, Good x → Good (feedK k x l) := by
  have gen : ∀ (f : Int × List UInt8 → UInt8 → Int × List UInt8), (∀ x c, Good x → Good (f x c)) → ∀ x, Good x → Good (l.foldl f x) := by
    intro f hf
    induction l with
    | nil => intro x h; exact h
    | cons c t ih => intro x h; exact ih _ (hf x c h)
  intro x h
  unfold feedK
  split
  · exact gen _ good_u x h
  · split
    · exact gen _ good_j x h
    · exact gen _ good_c x h

theorem lang_keeps {s t : Sc} (h : t.k = s.k ∧ t.e = s.e ∧ t.a = s.a) : langN t = langN s := by
  unfold langN attK
  rw [h.1, h.2.1, h.2.2]
theorem sub_may {s t : Sc} {x : List UInt8} (h : May s) (g : subS s x = .ok t) : May t := by
  unfold subS subK at g
  split at g
  · injection g with g; subst g; exact h
  · rename_i hl
    split at g
    · cases g
    · split at g
      · cases g
      · split at g
        · cases g
        · injection g with g
          subst g
          obtain ⟨q1, q2, q3⟩ := good_feed (langN s) x (s.n, s.w) ⟨h.n1, h.n2, h.w⟩
          exact { h with n1 := q1, n2 := q2, w := q3, l := fun q => absurd q hl }
theorem noref_may {s : Sc} (h : May s) : May { s with r := [] } := { h with r1 := .inr rfl, r2 := Nat.zero_le _ }
theorem ref_may {s : Sc} (h : May s) (hk : refK s.k = true) (t : List UInt8) (ht : t.length ≤ 16) : May { s with r := t } := { h with r1 := .inl hk, r2 := ht }
theorem amp_may {s t : Sc} {c : UInt8} (h : May s) (hk : refK s.k = true) (g : ampS s c = .ok t) : May t := by
  unfold ampS at g
  split at g
  · injection g with g; subst g; exact ref_may h hk _ (by decide)
  · exact sub_may h g
theorem char_may {s t : Sc} {c : UInt8} (h : May s) (hk : refK s.k = true) (g : charS s c = .ok t) : May t := by
  unfold charS at g
  split at g
  · exact amp_may h hk g
  · split at g
    · exact sub_may (noref_may h) g
    · split at g
      · rename_i hu
        injection g with g; subst g
        have := (unf_small hu).2.1
        exact ref_may h hk _ (by omega)
      · obtain ⟨u, g1, g2⟩ := andThen_ok g
        have hu := sub_may (noref_may h) g1
        exact amp_may hu (by rw [(sub_keeps g1).1]; exact hk) g2
theorem plain_may (k : Nat) (e : List UInt8) (hk : k ≤ 19) (h9 : k ≠ 9) (he : elemK k = true ∨ e = []) (hl : e.length ≤ 33) (hx : 17 ≤ k → elemN e + 16 = k) : May (scK k e) where
  k := hk
  e1 := he
  e2 := hl
  a1 := .inr rfl
  a2 := Nat.zero_le _
  d := .inr ⟨h9, rfl⟩
  p1 := .inr rfl
  p2 := Nat.zero_le _
  r1 := .inr rfl
  r2 := Nat.zero_le _
  n1 := by show (0 : Int) ≤ 0; decide
  n2 := by show (0 : Int) ≤ 15; decide
  w := Nat.zero_le _
  l := fun _ => ⟨rfl, rfl⟩
  x := hx
  q := fun _ => .inl rfl
theorem end_may {e : List UInt8} {t : Sc} (hl : e.length ≤ 33) (g : endS e = .ok t) : May t := by
  unfold endS at g
  split at g
  · rename_i q; injection g with g; subst g; exact plain_may 17 e (by decide) (by decide) (.inl rfl) hl (fun _ => by rw [q])
  · split at g
    · rename_i q; injection g with g; subst g; exact plain_may 18 e (by decide) (by decide) (.inl rfl) hl (fun _ => by rw [q])
    · split at g
      · rename_i q; injection g with g; subst g; exact plain_may 19 e (by decide) (by decide) (.inl rfl) hl (fun _ => by rw [q])
      · split at g
        · cases g
        · injection g with g; subst g; exact plain_may 0 [] (by decide) (by decide) (.inr rfl) (Nat.zero_le _) (fun q => absurd q (by decide))
theorem within_may {e : List UInt8} {c : UInt8} {t : Sc} (hl : e.length ≤ 33) (g : withinS e c = .ok t) : May t := by
  unfold withinS at g
  split at g
  · injection g with g; subst g; exact plain_may 5 e (by decide) (by decide) (.inl rfl) hl (fun q => absurd q (by decide))
  · split at g
    · injection g with g; subst g; exact plain_may 12 e (by decide) (by decide) (.inl rfl) hl (fun q => absurd q (by decide))
    · split at g
      · exact end_may hl g
      · injection g with g
        subst g
        exact { plain_may 6 e (by decide) (by decide) (.inl rfl) hl (fun q => absurd q (by decide)) with a1 := .inl rfl, a2 := by show 1 ≤ 32; decide, l := fun _ => ⟨rfl, rfl⟩ }
theorem none_may (k : Nat) (hk : k ≤ 16) (h9 : k ≠ 9) : May (scK k []) := plain_may k [] (by omega) h9 (.inr rfl) (Nat.zero_le _) (fun q => by omega)
theorem data_may {s t : Sc} {c : UInt8} (h : May s) (hk : s.k = 0) (g : dataS s c = .ok t) : May t := by
  unfold dataS at g
  split at g
  · injection g with g; subst g; exact none_may 1 (by decide) (by decide)
  · exact char_may h (by rw [hk]; rfl) g
theorem open_may {t : Sc} {c : UInt8} (g : openS c = .ok t) : May t := by
  unfold openS at g
  split at g
  · injection g with g; subst g; exact plain_may 3 [low c] (by decide) (by decide) (.inl rfl) (by show 1 ≤ 33; decide) (fun q => absurd q (by decide))
  · split at g
    · injection g with g; subst g; exact none_may 2 (by decide) (by decide)
    · split at g
      · injection g with g; subst g; exact none_may 13 (by decide) (by decide)
      · split at g
        · injection g with g; subst g; exact none_may 15 (by decide) (by decide)
        · exact data_may (none_may 0 (by decide) (by decide)) rfl g
theorem endOpen_may {t : Sc} {c : UInt8} (g : endOpenS c = .ok t) : May t := by
  unfold endOpenS at g
  split at g
  · injection g with g; subst g; exact plain_may 4 [47, low c] (by decide) (by decide) (.inl rfl) (by show 2 ≤ 33; decide) (fun q => absurd q (by decide))
  · split at g
    · injection g with g; subst g; exact none_may 0 (by decide) (by decide)
    · injection g with g; subst g; exact none_may 15 (by decide) (by decide)
theorem lang_none {s : Sc} (h : s.k ≠ 18 ∧ s.k ≠ 19 ∧ s.k ≠ 9 ∧ s.k ≠ 10) : langN s = 0 := by
  unfold langN
  rw [if_neg h.1, if_neg h.2.1, if_neg (by rintro (q | q); exact h.2.2.1 q; exact h.2.2.2 q)]
theorem name_may {s t : Sc} {c : UInt8} (h : May s) (hk : s.k = 3 ∨ s.k = 4) (g : nameS s c = .ok t) : May t := by
  unfold nameS at g
  split at g
  · exact within_may h.e2 g
  · split at g
    · cases g
    · rename_i hlen
      injection g with g
      subst g
      have hl0 : langN s = 0 := lang_none (by omega)
      have hek : elemK s.k = true := by rcases hk with q | q <;> rw [q] <;> rfl
      have hle : (s.e ++ [low c]).length ≤ 33 := by rw [List.length_append, List.length_singleton]; omega
      exact { h with e1 := .inl hek, e2 := hle, l := fun _ => h.l hl0, x := fun q => absurd q (by show ¬ 17 ≤ s.k; omega) }
theorem attr_may {s t : Sc} {c : UInt8} (h : May s) (hk : s.k = 6 ∨ s.k = 7) (g : attrS s c = .ok t) : May t := by
  have hl0 : langN s = 0 := lang_none (by omega)
  have hd0 : s.d = 0 := by
    rcases h.d with ⟨q, _⟩ | ⟨_, q⟩
    · omega
    · exact q
  have hr0 : s.r = [] := by
    rcases h.r1 with q | q
    · have q := of_decide_eq_true q
      omega
    · exact q
  have hp0 : s.p = [] := by
    rcases h.p1 with q | q
    · omega
    · exact q
  have hak : attrK s.k = true := decide_eq_true (by omega)
  have h7 : May { s with k := 7 } := { h with k := (by show 7 ≤ 19; decide), e1 := .inl rfl, a1 := .inl rfl, d := .inr ⟨(by show 7 ≠ 9; decide), hd0⟩, p1 := .inr hp0, r1 := .inr hr0, l := fun _ => h.l hl0, x := fun q => absurd q (by show ¬ 17 ≤ 7; decide), q := fun q => absurd q (by show 7 ≠ 16; decide) }
  have h8 : May { s with k := 8 } := { h with k := (by show 8 ≤ 19; decide), e1 := .inl rfl, a1 := .inl rfl, d := .inr ⟨(by show 8 ≠ 9; decide), hd0⟩, p1 := .inr hp0, r1 := .inr hr0, l := fun _ => h.l hl0, x := fun q => absurd q (by show ¬ 17 ≤ 8; decide), q := fun q => absurd q (by show 8 ≠ 16; decide) }
  unfold attrS at g
  split at g
  · injection g with g; subst g; exact h7
  · split at g
    · injection g with g; subst g; exact h8
    · split at g
      · exact within_may h.e2 g
      · split at g
        · cases g
        · rename_i hlen
          injection g with g
          subst g
          have hle : (s.a ++ [low c]).length ≤ 32 := by rw [List.length_append, List.length_singleton]; omega
          exact { h with a1 := .inl hak, a2 := hle, l := fun _ => h.l hl0 }
theorem want_may {s t : Sc} {c : UInt8} (h : May s) (hk : s.k = 8) (g : wantS s c = .ok t) : May t := by
  have hl0 : langN s = 0 := lang_none (by omega)
  have hd0 : s.d = 0 := by
    rcases h.d with ⟨q, _⟩ | ⟨_, q⟩
    · omega
    · exact q
  have hp0 : s.p = [] := by
    rcases h.p1 with q | q
    · omega
    · exact q
  unfold wantS at g
  split at g
  · injection g with g; subst g; exact h
  · split at g
    · rename_i hq
      injection g with g
      subst g
      exact { h with k := (by show 9 ≤ 19; decide), e1 := .inl rfl, a1 := .inl rfl, d := .inl ⟨rfl, hq⟩, p1 := .inr hp0, r1 := .inl rfl, l := fun _ => h.l hl0, x := fun q => absurd q (by show ¬ 17 ≤ 9; decide), q := fun q => absurd q (by show 9 ≠ 16; decide) }
    · split at g
      · exact end_may h.e2 g
      · exact char_may (s := { s with k := 10 }) { h with k := (by show 10 ≤ 19; decide), e1 := .inl rfl, a1 := .inl rfl, d := .inr ⟨(by show 10 ≠ 9; decide), hd0⟩, p1 := .inr hp0, r1 := .inl rfl, l := fun _ => h.l hl0, x := fun q => absurd q (by show ¬ 17 ≤ 10; decide), q := fun q => absurd q (by show 10 ≠ 16; decide) } rfl g
theorem value_may {s t : Sc} {c : UInt8} (h : May s) (hk : s.k = 9) (g : valueS s c = .ok t) : May t := by
  unfold valueS at g
  split at g
  · obtain ⟨u, g1, g2⟩ := andThen_ok g
    injection g2 with g2
    subst g2
    exact plain_may 11 u.e (by decide) (by decide) (.inl rfl) (by rw [(flush_keeps g1).2.1]; exact h.e2) (fun q => absurd q (by decide))
  · exact char_may h (by rw [hk]; rfl) g
theorem bare_may {s t : Sc} {c : UInt8} (h : May s) (hk : s.k = 10) (g : bareS s c = .ok t) : May t := by
  unfold bareS at g
  split at g
  · obtain ⟨u, g1, g2⟩ := andThen_ok g
    exact within_may (by rw [(flush_keeps g1).2.1]; exact h.e2) g2
  · exact char_may h (by rw [hk]; rfl) g
theorem bang_may {k : Nat} {t : Sc} {c : UInt8} (g : bangS k c = .ok t) : May t := by
  unfold bangS at g
  split at g
  · split at g
    · injection g with g; subst g; exact none_may 14 (by decide) (by decide)
    · injection g with g; subst g; exact none_may 16 (by decide) (by decide)
  · split at g
    · injection g with g; subst g; exact none_may 0 (by decide) (by decide)
    · injection g with g; subst g; exact none_may 15 (by decide) (by decide)
theorem bogus_may {s t : Sc} {c : UInt8} (h : May s) (g : bogusS s c = .ok t) : May t := by
  unfold bogusS at g
  split at g
  · injection g with g; subst g; exact none_may 0 (by decide) (by decide)
  · injection g with g; subst g; exact h
theorem comment_may {s t : Sc} {c : UInt8} (h : May s) (hk : s.k = 16) (g : commentS s c = .ok t) : May t := by
  unfold commentS at g
  split at g
  · rename_i hc
    injection g with g
    subst g
    have h2 : s.p ++ [45] = [] ∨ s.p ++ [45] = [45] ∨ s.p ++ [45] = [45, 45] := by
      rcases h.q hk with q | q | q
      · exact .inr (.inl (by rw [q]; rfl))
      · exact .inr (.inr (by rw [q]; rfl))
      · exact absurd q hc.2
    have h3 : (s.p ++ [45]).length ≤ 34 := by rcases h2 with q | q | q <;> rw [q] <;> decide
    exact { h with p1 := .inl (by show 16 ≤ s.k; omega), p2 := h3, q := fun _ => h2 }
  · split at g
    · injection g with g; subst g; exact none_may 0 (by decide) (by decide)
    · split at g
      · injection g with g; subst g; exact { h with p1 := .inr rfl, p2 := Nat.zero_le _, q := fun _ => .inl rfl }
      · injection g with g; subst g; exact h
theorem raw_short {e : List UInt8} (h1 : 1 ≤ elemN e) (h2 : elemN e ≤ 3) : e.length ≤ 8 := by
  unfold elemN at h1 h2
  cases hp : placeL e elsL with
  | none => rw [hp] at h1; exact absurd h1 (by decide)
  | some i =>
    rw [hp] at h1 h2
    have hi : i < 4 := by
      have h2 : codeN i ≤ 3 := h2
      unfold codeN at h2
      split at h2
      · omega
      · split at h2
        · omega
        · omega
    have ha := place_at hp
    have hall : ∀ k : Fin 4, (elsL[k.val]?.getD []).length ≤ 8 := by decide +kernel
    have h3 := hall ⟨i, hi⟩
    rw [ha] at h3
    exact h3
theorem rawOne_may {s t : Sc} {c : UInt8} (h : May s) (hk : 17 ≤ s.k) (g : rawOne s c = .ok t) : May t := by
  unfold rawOne at g
  split at g
  · injection g with g
    subst g
    exact { h with p1 := .inl (by show 16 ≤ s.k; omega), p2 := (by show 1 ≤ 34; decide), r1 := .inr rfl, r2 := Nat.zero_le _, q := fun q => absurd q (by show s.k ≠ 16; omega) }
  · split at g
    · rename_i q
      exact char_may h (by rw [q]; rfl) g
    · exact sub_may h g
theorem raw_may {s t : Sc} {c : UInt8} (h : May s) (hk : 17 ≤ s.k) (g : rawS s c = .ok t) : May t := by
  have hx := h.x hk
  have hk19 := h.k
  have h8 := raw_short (e := s.e) (by omega) (by omega)
  unfold rawS at g
  split at g
  · exact rawOne_may h hk g
  · split at g
    · rename_i hpb
      split at g
      · cases g
      · injection g with g
        subst g
        have hlen : (s.p ++ [c]).length ≤ 34 := by
          rcases pend_len hpb with q | ⟨_, q⟩
          · have := q.length_le; simp at this ⊢; omega
          · have := q.length_le; simp at this ⊢; omega
        exact { h with p1 := .inl (by show 16 ≤ s.k; omega), p2 := hlen, q := fun q => absurd q (by show s.k ≠ 16; omega) }
    · split at g
      · exact within_may (by rw [List.length_cons]; omega) g
      · obtain ⟨u, g1, g2⟩ := andThen_ok g
        have hn : May { s with p := [] } := { h with p1 := .inr rfl, p2 := Nat.zero_le _, q := fun _ => .inl rfl }
        exact rawOne_may (sub_may hn g1) (by rw [(sub_keeps g1).1]; exact hk) g2
theorem go_may {s t : Sc} {c : UInt8} (h : May s) (g : goS s c = .ok t) : May t := by
  unfold goS at g
  by_cases h0 : s.k = 0
  · rw [if_pos h0] at g; exact data_may h h0 g
  rw [if_neg h0] at g
  by_cases h1 : s.k = 1
  · rw [if_pos h1] at g; exact open_may g
  rw [if_neg h1] at g
  by_cases h2 : s.k = 2
  · rw [if_pos h2] at g; exact endOpen_may g
  rw [if_neg h2] at g
  by_cases h3 : s.k = 3 ∨ s.k = 4
  · rw [if_pos h3] at g; exact name_may h h3 g
  rw [if_neg h3] at g
  by_cases h5 : s.k = 5 ∨ s.k = 11 ∨ s.k = 12
  · rw [if_pos h5] at g; exact within_may h.e2 g
  rw [if_neg h5] at g
  by_cases h6 : s.k = 6 ∨ s.k = 7
  · rw [if_pos h6] at g; exact attr_may h h6 g
  rw [if_neg h6] at g
  by_cases h8 : s.k = 8
  · rw [if_pos h8] at g; exact want_may h h8 g
  rw [if_neg h8] at g
  by_cases h9 : s.k = 9
  · rw [if_pos h9] at g; exact value_may h h9 g
  rw [if_neg h9] at g
  by_cases h10 : s.k = 10
  · rw [if_pos h10] at g; exact bare_may h h10 g
  rw [if_neg h10] at g
  by_cases h13 : s.k = 13 ∨ s.k = 14
  · rw [if_pos h13] at g; exact bang_may g
  rw [if_neg h13] at g
  by_cases h15 : s.k = 15
  · rw [if_pos h15] at g; exact bogus_may h g
  rw [if_neg h15] at g
  by_cases h16 : s.k = 16
  · rw [if_pos h16] at g; exact comment_may h h16 g
  rw [if_neg h16] at g
  exact raw_may h (by omega) g
theorem run_may (a : List UInt8) : ∀ {s t : Sc}, May s → runS s a = .ok t → May t := by
  induction a with
  | nil =>
    intro s t h g
    rw [runS_nil] at g
    injection g with g
    subst g
    exact h
  | cons c x ih =>
    intro s t h g
    obtain ⟨v, h1, h2⟩ := runS_cons g
    exact ih (go_may h h1) h2
theorem start_may {a : List UInt8} {s : Sc} (h : runS sc0 a = .ok s) : May s := run_may a (none_may 0 (by decide) (by decide)) h
end Go.Proofs.YtklpbkjplecdpaaGreat.Scn

/-
  Plain facts on where in HTML a text stands: ScanData, ScanTexts, ScanEnds, with no program.
-/
namespace Go.Proofs.YtklpbkjplecdpaaGreat.Scn
open Oct Crf Tab Tok

def langHole (s : Sc) : Except Nat (Sc × Nat) :=
  if langN s = 1 then (if s.n = 0 then .ok ({ s with n := 4, w := [] }, 4) else if s.n = 2 then .ok ({ s with w := [] }, 5) else if s.n = 3 then .ok ({ s with w := [] }, 6) else .error 91)
  else if langN s = 2 then (if s.n = 0 ∨ s.n = 1 then .ok ({ s with n := 1, w := [] }, if s.k = 9 then 9 else 7) else if s.n = 2 ∨ s.n = 3 then .ok ({ s with w := [] }, if s.k = 9 then 10 else 8) else .error 91)
  else if langN s = 3 then (if s.n = 0 then .ok ({ s with w := [63] }, if s.k = 9 then 12 else 11) else .error 91)
  else .error 91
def holeS (s : Sc) : Except Nat (Sc × Nat) :=
  if checkS s ≠ 0 then .error (checkS s)
  else if s.p ≠ [] ∨ s.r ≠ [] then .error 91
  else if s.k = 0 then .ok (s, 1) else if s.k = 17 then .ok (s, 2)
  else if s.k = 9 ∧ attK s = 0 ∧ endE s.e = false then .ok (s, 3)
  else if s.k = 9 ∨ s.k = 18 ∨ s.k = 19 then langHole s
  else .error 91
theorem hole_small {s u : Sc} {k : Nat} (h : holeS s = .ok (u, k)) (hk : k ≤ 3) : (s.k = 0 ∨ s.k = 17 ∨ s.k = 9) ∧ s.p = [] ∧ s.r = [] := by
  unfold holeS at h
  split at h
  · cases h
  · split at h
    · cases h
    · rename_i hpr
      have hp : s.p = [] := Classical.byContradiction fun q => hpr (.inl q)
      have hr : s.r = [] := Classical.byContradiction fun q => hpr (.inr q)
      split at h
      · rename_i q; exact ⟨.inl q, hp, hr⟩
      · split at h
        · rename_i q; exact ⟨.inr (.inl q), hp, hr⟩
        · split at h
          · rename_i q; exact ⟨.inr (.inr q.1), hp, hr⟩
          · split at h
            · exfalso
              unfold langHole at h
              repeat' split at h
              all_goals first | (cases h; done) | (injection h with h; injection h with _ h; omega)
            · cases h

theorem base_eqv {r : Rd} (hst : r.st = 0) (hb : Base r) : Eqv (shL r.out) r rd0 where
  st := hst
  out := by show shL r.out = shL r.out ++ shL []; rw [show shL [] = [] from rfl, List.append_nil]
  tx := .inl (.inl hst)
  tg := by rw [hb.1]
  av := by rw [hb.2]
  q := fun e => by rw [hst] at e; cases e
  rw := fun e => by rw [hst] at e; cases e
theorem scan_data {a : List UInt8} {s : Sc} (h : runS sc0 a = .ok s) (hk : s.k = 0) (b : List UInt8) : shL (tokL (a ++ b)) = shL (tokL a) ++ shL (tokL b) := by
  obtain ⟨u, r, h1, h2⟩ := start_sim h
  have hu : u = [] ∧ r.st = 0 ∧ Base r := by
    cases h2 with
    | data _ hst hb => exact ⟨rfl, hst, hb⟩
    | opn g => omega
    | endOpn g => omega
    | name g => omega
    | within g => omega
    | attr g => omega
    | value g => omega
    | bang g => omega
    | dash g => omega
    | bogus g => omega
    | comment g => omega
    | raw g => omega
  obtain ⟨rfl, hst, hb⟩ := hu
  have e1 := h1 b
  have e2 := h1 []
  rw [List.append_nil, List.nil_append, run_nil] at e2
  rw [List.nil_append] at e1
  unfold tokL
  rw [e1, e2, eqv_shape b (by omega) (base_eqv hst hb)]
  congr 1
  unfold lastR
  rw [if_pos hst, sh_textR]
theorem clean_at {x : List UInt8} (h : cleanL x = true) : ∀ c ∈ x, c ≠ 60 ∧ c ≠ 62 ∧ c ≠ 34 ∧ c ≠ 39 := by
  intro c hc
  have h1 := List.all_eq_true.1 h c hc
  simp only [Bool.not_eq_true', Bool.or_eq_false_iff, beq_eq_false_iff_ne] at h1
  exact ⟨h1.1.1.1, h1.1.1.2, h1.1.2, h1.2⟩
theorem run_val (x t : List UInt8) : ∀ (r : Rd), r.st = 8 → (∀ c ∈ x, c ≠ r.q) → runR (x ++ t) r = runR t { r with av := { r.av with v := r.av.v ++ x } } := by
  induction x with
  | nil => intro r _ _; simp
  | cons c x ih =>
    intro r hst h
    have h1 : runR (c :: (x ++ t)) r = runR (x ++ t) (addV c r) := go1 (by rw [in_value r hst]; unfold valueR; rw [if_neg (h c (by simp))]; rfl)
    rw [List.cons_append, h1, ih (addV c r) hst (fun d hd => h d (by simp [hd]))]
    congr 1
    unfold addV
    simp
theorem scan_texts {a : List UInt8} {s u : Sc} {k : Nat} (h : runS sc0 a = .ok s) (hh : holeS s = .ok (u, k)) (hk : k ≤ 3) (x b : List UInt8) (hx : cleanL x = true) :
    shL (tokL (a ++ (x ++ b))) = shL (tokL (a ++ b)) := by
  have hm := start_may h
  obtain ⟨hkk, hp, _⟩ := hole_small hh hk
  obtain ⟨v, r, h1, h2⟩ := start_sim h
  have hc := clean_at hx
  have key : ∃ r1, v = [] ∧ r1.st ≤ 15 ∧ runR (x ++ b) r = runR b r1 ∧ Eqv [] r1 r := by
    cases h2 with
    | data g hst hb =>
      exact ⟨{ r with tx := r.tx ++ x }, rfl, by show r.st ≤ 15; omega, run_text x b r hst (fun c q => (hc c q).1), ⟨rfl, rfl, .inl (.inl hst), rfl, rfl, fun _ => rfl, fun _ => rfl⟩⟩
    | opn g => omega
    | endOpn g => omega
    | name g => omega
    | within g => omega
    | attr g => omega
    | value g hst hq ht =>
      have hd : s.d = 34 ∨ s.d = 39 := by
        rcases hm.d with ⟨_, q⟩ | ⟨q, _⟩
        · exact q
        · exact absurd g q
      refine ⟨{ r with av := { r.av with v := r.av.v ++ x } }, rfl, by show r.st ≤ 15; omega, run_val x b r hst (fun c q => ?_), ⟨rfl, rfl, .inr rfl, rfl, rfl, fun _ => rfl, fun _ => rfl⟩⟩
      rw [hq]
      rcases hd with e | e
      · rw [e]; exact (hc c q).2.2.1
      · rw [e]; exact (hc c q).2.2.2
    | bang g => omega
    | dash g => omega
    | bogus g => omega
    | comment g => omega
    | raw g he g2 hpo hst hw hb =>
      refine ⟨{ r with tx := r.tx ++ x }, hp, by show r.st ≤ 15; omega, run_raw x b r hst (fun i hi => ?_), ⟨rfl, rfl, .inl (.inr hst), rfl, rfl, fun _ => rfl, fun _ => rfl⟩⟩
      rw [List.drop_append_of_le_length (by omega), List.drop_eq_getElem_cons hi, List.cons_append]
      exact hits_other _ _ _ (hc _ (List.getElem_mem hi)).1
  obtain ⟨r1, rfl, hst1, e1, e2⟩ := key
  have e3 := h1 (x ++ b)
  have e4 := h1 b
  rw [List.nil_append] at e3 e4
  unfold tokL
  rw [e3, e4, e1, eqv_shape b hst1 e2, List.nil_append]
end Go.Proofs.YtklpbkjplecdpaaGreat.Scn

/-
  Plain facts on where in HTML a text stands: ScanStrings, with no program.
-/
namespace Go.Proofs.YtklpbkjplecdpaaGreat.Scn
open Oct Utf Crf Tab Tok
open Go.Proofs.YtklpbkjplecdpaaGreat.Lit (insideL quoteL charL bareB litL)



end Go.Proofs.YtklpbkjplecdpaaGreat.Scn

/-
  Contracts of the page's answers on what an octet is: a letter, a digit; they change nothing.
-/
namespace Go.Proofs.YtklpbkjplecdpaaGreat.Oct
open Go.RowKit

theorem rletter_c (n : Int) (w : World) (h0 : 0 ≤ n) (h1 : n ≤ 255) :
    Calls Tryz.prog 57 #[.int .u8 n] w fun e w' => e = .returned (.bool (letterI n)) ∧ w = w' := by
  go_enter Tryz.func57, Tryz.ntmps57
  go_wp2
  all_goals go_ret
  all_goals (refine ⟨ret_bool ?_, rfl⟩; rw [Bool.eq_iff_iff]; simp [letterI]; try omega)

theorem rdigit_c (n : Int) (w : World) (h0 : 0 ≤ n) (h1 : n ≤ 255) :
    Calls Tryz.prog 67 #[.int .u8 n] w fun e w' => e = .returned (.bool (digitI n)) ∧ w = w' := by
  go_enter Tryz.func67, Tryz.ntmps67
  go_wp2
  all_goals go_ret
  all_goals (refine ⟨ret_bool ?_, rfl⟩; rw [Bool.eq_iff_iff]; simp [digitI]; try omega)
end Go.Proofs.YtklpbkjplecdpaaGreat.Oct

/-
  Contracts of the leaves of package octets and of the page's answers on octets: each is called at any octet and changes nothing.
-/
namespace Go.Proofs.YtklpbkjplecdpaaGreat.Oct
open Go.RowKit

theorem blank_c (n : Int) (w : World) :
    Calls Tryz.prog 79 #[.int .u8 n] w fun e w' => e = .returned (.bool (blankI n)) ∧ w = w' := by
  go_enter Tryz.func79, Tryz.ntmps79
  go_wp2
  all_goals go_ret
  all_goals (refine ⟨ret_bool ?_, rfl⟩; rw [Bool.eq_iff_iff]; simp [blankI]; try (first | omega | (simp only [beq_iff_eq, beq_eq_false_iff_ne] at *; omega)))

theorem rblank_c (n : Int) (w : World) (h0 : 0 ≤ n) (h1 : n ≤ 255) :
    Calls Tryz.prog 53 #[.int .u8 n] w fun e w' => e = .returned (.bool (blankI n)) ∧ w = w' := by
  go_enter Tryz.func53, Tryz.ntmps53
  go_wp2
  all_goals go_ret
  all_goals (refine ⟨ret_bool ?_, rfl⟩; rw [Bool.eq_iff_iff]; simp [blankI]; try omega)

theorem within_c (n a b : Int) (w : World) :
    Calls Tryz.prog 103 #[.int .u8 n, .int .u8 a, .int .u8 b] w fun e w' => e = .returned (.bool (decide (a ≤ n ∧ n ≤ b))) ∧ w = w' := by
  go_enter Tryz.func103, Tryz.ntmps103
  go_wp2
  all_goals go_ret
  all_goals (refine ⟨ret_bool ?_, rfl⟩; simp; try omega)

theorem letter_c (n : Int) (w : World) (h0 : 0 ≤ n) (h1 : n ≤ 255) :
    Calls Tryz.prog 73 #[.int .u8 n] w fun e w' => e = .returned (.bool (letterI n)) ∧ w = w' := by
  go_enter Tryz.func73, Tryz.ntmps73
  go_wp2
  all_goals go_ret
  all_goals (refine ⟨ret_bool ?_, rfl⟩; rw [Bool.eq_iff_iff]; simp [letterI]; try omega)

theorem small_c (n : Int) (w : World) (h0 : 0 ≤ n) (h1 : n ≤ 255) :
    Calls Tryz.prog 108 #[.int .u8 n] w fun e w' => e = .returned (.int .u8 (lowI n)) ∧ w = w' := by
  go_enter Tryz.func108, Tryz.ntmps108
  go_wp2
  all_goals go_ret
  all_goals (refine ⟨ret_int ?_, rfl⟩; unfold lowI; split <;> omega)

end Go.Proofs.YtklpbkjplecdpaaGreat.Oct

/-
  DERIVED: THE SHELF's CONTRACTS AT THIS DUMP, IN PLAIN WORDS (tools/lay-plain.mjs out of 'YtklpbkjplecdpaaGreatShelf.lean', which tools/lay-shelf.mjs wrote): THE SAME DECLARATIONS UNDER THE SAME NAMES: 'import', 'namespace', 'open', 'def', 'theorem' AND NOTHING ELSE: no command of the shelf's: FOR A HAND-IN. Each laying: the table of numbers ('.._ren') and one theorem, a field a fact of the dump's own or the kernel's comparison; each contract: ONE APPLICATION.
-/
namespace Go.Proofs
open Go.Shelf
def Tryz.lays119_ren : Go.Shelf.Ren := ⟨fun | 119 => 184 | n => n, fun | 21 => 21 | 4 => 4 | n => n, fun | n => n⟩
theorem Tryz.lays119 : Go.Proofs.Lays.n119 Tryz.prog Tryz.lays119_ren := {
  mixed := by kernel_rfl
  f119 := Tryz.func184.trans (congrArg some (by kernel_rfl))
  t4 := Tryz.underlying4
  a4 := Tryz.isAgg4
  z4 := Tryz.sizeOf4
  v4 := Tryz.zeroValue4
  t21 := Tryz.underlying21
  a21 := Tryz.isAgg21
  z21 := Tryz.sizeOf21
  v21 := Tryz.zeroValue21 }
theorem Tryz.utf8_ValidRune (r : Int) (w : World) :
    Calls Tryz.prog 184 #[.int .i32 r] w fun e w' => e = .returned (.bool (Lib.validRune r)) ∧ w' = w := Any.utf8_ValidRune Tryz.lays119 r w
def Tryz.lays137_ren : Go.Shelf.Ren := ⟨fun | 137 => 175 | 217 => 176 | 266 => 182 | n => n, fun | 9 => 9 | 5 => 5 | 3 => 3 | n => n, fun | n => n⟩
theorem Tryz.lays137 : Go.Proofs.Lays.n137 Tryz.prog Tryz.lays137_ren := {
  mixed := by kernel_rfl
  f137 := Tryz.func175.trans (congrArg some (by kernel_rfl))
  f217 := Tryz.func176.trans (congrArg some (by kernel_rfl))
  f266 := Tryz.func182.trans (congrArg some (by kernel_rfl))
  t3 := Tryz.underlying3
  a3 := Tryz.isAgg3
  z3 := Tryz.sizeOf3
  v3 := Tryz.zeroValue3
  t5 := Tryz.underlying5
  a5 := Tryz.isAgg5
  z5 := Tryz.sizeOf5
  v5 := Tryz.zeroValue5
  t9 := Tryz.underlying9
  a9 := Tryz.isAgg9
  z9 := Tryz.sizeOf9
  v9 := Tryz.zeroValue9 }
open Go.RowKit in
theorem Tryz.strings_IndexByte (s : ByteArray) (c : Int) (w : World) :
    Calls Tryz.prog 175 #[.string s, .int .u8 c] w fun e w' => e = .returned (.int .i64 (Lib.indexByte s.data.toList c.toNat.toUInt8)) ∧ w' = w := Any.strings_IndexByte Tryz.lays137 s c w
def Tryz.lays103_ren : Go.Shelf.Ren := ⟨fun | 103 => 117 | 210 => 133 | 206 => 109 | n => n, fun | 9 => 9 | 4 => 4 | 24 => 113 | 3 => 3 | n => n, fun | n => n⟩
theorem Tryz.lays103 : Go.Proofs.Lays.n103 Tryz.prog Tryz.lays103_ren := {
  mixed := by kernel_rfl
  f103 := Tryz.func117.trans (congrArg some (by kernel_rfl))
  f206 := Tryz.func109.trans (congrArg some (by kernel_rfl))
  f210 := Tryz.func133.trans (congrArg some (by kernel_rfl))
  t3 := Tryz.underlying3
  a3 := Tryz.isAgg3
  z3 := Tryz.sizeOf3
  v3 := Tryz.zeroValue3
  t4 := Tryz.underlying4
  a4 := Tryz.isAgg4
  z4 := Tryz.sizeOf4
  v4 := Tryz.zeroValue4
  t9 := Tryz.underlying9
  a9 := Tryz.isAgg9
  z9 := Tryz.sizeOf9
  v9 := Tryz.zeroValue9
  t24 := Tryz.underlying113
  a24 := Tryz.isAgg113
  z24 := Tryz.sizeOf113
  v24 := Tryz.zeroValue113 }
open Go.RowKit in
theorem Tryz.strings_CutPrefix (s p : ByteArray) (w : World) :
    Calls Tryz.prog 117 #[.string s, .string p] w fun e w' => e = .returned (.tuple #[.string ⟨(Lib.trimPrefix s.data.toList p.data.toList).toArray⟩, .bool (Lib.hasPrefix s.data.toList p.data.toList)]) ∧ w' = w := Any.strings_CutPrefix Tryz.lays103 s p w
def Tryz.lays242_ren : Go.Shelf.Ren := ⟨fun | 242 => 181 | 278 => 185 | n => n, fun | 37 => 49 | 21 => 21 | 51 => 150 | 4 => 4 | 5 => 5 | 46 => 143 | n => n, fun | n => n⟩
theorem Tryz.lays242 : Go.Proofs.Lays.n242 Tryz.prog Tryz.lays242_ren := {
  mixed := by kernel_rfl
  f242 := Tryz.func181.trans (congrArg some (by kernel_rfl))
  f278 := Tryz.func185.trans (congrArg some (by kernel_rfl))
  t4 := Tryz.underlying4
  a4 := Tryz.isAgg4
  z4 := Tryz.sizeOf4
  v4 := Tryz.zeroValue4
  t5 := Tryz.underlying5
  a5 := Tryz.isAgg5
  z5 := Tryz.sizeOf5
  v5 := Tryz.zeroValue5
  t21 := Tryz.underlying21
  a21 := Tryz.isAgg21
  z21 := Tryz.sizeOf21
  v21 := Tryz.zeroValue21
  t37 := Tryz.underlying49
  a37 := Tryz.isAgg49
  z37 := Tryz.sizeOf49
  v37 := Tryz.zeroValue49
  t46 := Tryz.underlying143
  a46 := Tryz.isAgg143
  z46 := Tryz.sizeOf143
  v46 := Tryz.zeroValue143
  t51 := Tryz.underlying150
  a51 := Tryz.isAgg150
  z51 := Tryz.sizeOf150
  v51 := Tryz.zeroValue150 }
open Go.RowKit in
theorem Tryz.utf8_AppendRune_plain (B : Nat) (v : Value) (n : Nat) (xs : List Value) (r : Int) (hr0 : -2147483648 ≤ r) (hr1 : r ≤ 2147483647) (w : World) (hown : w.ownsRow B 5 1 v n xs) (hlen : n + 4 ≤ 140737488355328) (hBw : B ≤ w.heap.size) :
    Calls Tryz.prog 181 #[v, .int .i32 r] w fun e w' => ∃ v', e = .returned v' ∧ w'.ownsRow B 5 1 v' (n + (Lib.runeCells r).length) (xs ++ Lib.runeCells r) ∧ ∃ o, (w.alloc o).grownBy w' v.ownBlock := Any.utf8_AppendRune_plain Tryz.lays242 (by kernel_rfl) B v n xs r hr0 hr1 w hown hlen hBw
def Tryz.laysM316_ren : Go.Shelf.Ren := ⟨fun | 316 => 91 | n => n, fun | 9 => 9 | 3 => 3 | 4 => 4 | 37 => 49 | 0 => 0 | 127 => 106 | 5 => 5 | n => n, fun | n => n⟩
theorem Tryz.laysM316 : Go.Proofs.LaysM.n316 Tryz.prog Tryz.laysM316_ren := {
  mixed := by kernel_rfl
  f316 := Tryz.func91.trans (congrArg some (by kernel_rfl))
  t0 := Tryz.underlying0
  a0 := Tryz.isAgg0
  z0 := Tryz.sizeOf0
  v0 := Tryz.zeroValue0
  t3 := Tryz.underlying3
  a3 := Tryz.isAgg3
  z3 := Tryz.sizeOf3
  v3 := Tryz.zeroValue3
  t4 := Tryz.underlying4
  a4 := Tryz.isAgg4
  z4 := Tryz.sizeOf4
  v4 := Tryz.zeroValue4
  t9 := Tryz.underlying9
  a9 := Tryz.isAgg9
  z9 := Tryz.sizeOf9
  v9 := Tryz.zeroValue9
  t37 := Tryz.underlying49
  a37 := Tryz.isAgg49
  z37 := Tryz.sizeOf49
  v37 := Tryz.zeroValue49
  t127 := Tryz.underlying106
  a127 := Tryz.isAgg106
  z127 := Tryz.sizeOf106
  v127 := Tryz.zeroValue106
  t5 := Tryz.underlying5
  a5 := Tryz.isAgg5
  z5 := Tryz.sizeOf5
  v5 := Tryz.zeroValue5
  i0 := by kernel_rfl
  i3 := by kernel_rfl
  i4 := by kernel_rfl
  i5 := by kernel_rfl
  i9 := by kernel_rfl
  i37 := by kernel_rfl
  i127 := by kernel_rfl }
open Go.RowKit in
theorem Tryz.stringslite_Clone (s : ByteArray) (w : World) (hlim : s.size ≤ 281474976710656) :
    Calls Tryz.prog 91 #[.string s] w fun e w' => e = .returned (.string s) ∧ Below w.heap.size w w' := Any.stringslite_Clone Tryz.laysM316 s w hlim
def Tryz.lays219_ren : Go.Shelf.Ren := ⟨fun | 219 => 157 | 217 => 176 | 225 => 177 | 224 => 178 | 267 => 179 | 266 => 182 | 314 => 183 | n => n, fun | 9 => 9 | 3 => 3 | 4 => 4 | 5 => 5 | 46 => 143 | 146 => 151 | 51 => 150 | n => n, fun | 1 => 0 | n => n⟩
theorem Tryz.lays219 : Go.Proofs.Lays.n219 Tryz.prog Tryz.lays219_ren := {
  mixed := by kernel_rfl
  f217 := Tryz.func176.trans (congrArg some (by kernel_rfl))
  f219 := Tryz.func157.trans (congrArg some (by kernel_rfl))
  f224 := Tryz.func178.trans (congrArg some (by kernel_rfl))
  f225 := Tryz.func177.trans (congrArg some (by kernel_rfl))
  f266 := Tryz.func182.trans (congrArg some (by kernel_rfl))
  f267 := Tryz.func179.trans (congrArg some (by kernel_rfl))
  f314 := Tryz.func183.trans (congrArg some (by kernel_rfl))
  t3 := Tryz.underlying3
  a3 := Tryz.isAgg3
  z3 := Tryz.sizeOf3
  v3 := Tryz.zeroValue3
  t4 := Tryz.underlying4
  a4 := Tryz.isAgg4
  z4 := Tryz.sizeOf4
  v4 := Tryz.zeroValue4
  t5 := Tryz.underlying5
  a5 := Tryz.isAgg5
  z5 := Tryz.sizeOf5
  v5 := Tryz.zeroValue5
  t9 := Tryz.underlying9
  a9 := Tryz.isAgg9
  z9 := Tryz.sizeOf9
  v9 := Tryz.zeroValue9
  t46 := Tryz.underlying143
  a46 := Tryz.isAgg143
  z46 := Tryz.sizeOf143
  v46 := Tryz.zeroValue143
  t51 := Tryz.underlying150
  a51 := Tryz.isAgg150
  z51 := Tryz.sizeOf150
  v51 := Tryz.zeroValue150
  t146 := Tryz.underlying151
  a146 := Tryz.isAgg151
  z146 := Tryz.sizeOf151
  v146 := Tryz.zeroValue151
  g1 := by kernel_rfl }
open Go.RowKit Go.Lib in
theorem Tryz.stringslite_Index_one (s : ByteArray) (c : UInt8) (w : World) :
    Calls Tryz.prog 157 #[.string s, .string ⟨#[c]⟩] w fun e w' => e = .returned (.int .i64 (Lib.indexByte s.data.toList c)) ∧ w' = w := Any.stringslite_Index_one Tryz.lays219 s c w
def Tryz.lays99_ren : Go.Shelf.Ren := ⟨fun | 99 => 88 | 206 => 109 | n => n, fun | 9 => 9 | 4 => 4 | 3 => 3 | n => n, fun | n => n⟩
theorem Tryz.lays99 : Go.Proofs.Lays.n99 Tryz.prog Tryz.lays99_ren := {
  mixed := by kernel_rfl
  f99 := Tryz.func88.trans (congrArg some (by kernel_rfl))
  f206 := Tryz.func109.trans (congrArg some (by kernel_rfl))
  t3 := Tryz.underlying3
  a3 := Tryz.isAgg3
  z3 := Tryz.sizeOf3
  v3 := Tryz.zeroValue3
  t4 := Tryz.underlying4
  a4 := Tryz.isAgg4
  z4 := Tryz.sizeOf4
  v4 := Tryz.zeroValue4
  t9 := Tryz.underlying9
  a9 := Tryz.isAgg9
  z9 := Tryz.sizeOf9
  v9 := Tryz.zeroValue9 }
open Go.RowKit Go.Lib in
theorem Tryz.strings_HasPrefix (s p : ByteArray) (w : World) :
    Calls Tryz.prog 88 #[.string s, .string p] w fun e w' => e = .returned (.bool (Lib.hasPrefix s.data.toList p.data.toList)) ∧ w' = w := Any.strings_HasPrefix Tryz.lays99 s p w
def Tryz.lays110_ren : Go.Shelf.Ren := ⟨fun | 110 => 131 | 109 => 142 | n => n, fun | 31 => 107 | 9 => 9 | 4 => 4 | 3 => 3 | 0 => 0 | n => n, fun | n => n⟩
theorem Tryz.lays110 : Go.Proofs.Lays.n110 Tryz.prog Tryz.lays110_ren := {
  mixed := by kernel_rfl
  f109 := Tryz.func142.trans (congrArg some (by kernel_rfl))
  f110 := Tryz.func131.trans (congrArg some (by kernel_rfl))
  t0 := Tryz.underlying0
  a0 := Tryz.isAgg0
  z0 := Tryz.sizeOf0
  v0 := Tryz.zeroValue0
  t3 := Tryz.underlying3
  a3 := Tryz.isAgg3
  z3 := Tryz.sizeOf3
  v3 := Tryz.zeroValue3
  t4 := Tryz.underlying4
  a4 := Tryz.isAgg4
  z4 := Tryz.sizeOf4
  v4 := Tryz.zeroValue4
  t9 := Tryz.underlying9
  a9 := Tryz.isAgg9
  z9 := Tryz.sizeOf9
  v9 := Tryz.zeroValue9
  t31 := Tryz.underlying107
  a31 := Tryz.isAgg107
  z31 := Tryz.sizeOf107
  v31 := Tryz.zeroValue107 }
open Go.Lib in
theorem Tryz.slices_Contains_string (b off n c : Nat) (zs : List ByteArray) (x : ByteArray) (w : World) (hz : n ≤ zs.length) (hbig : n ≤ 9223372036854775807) (hc : ∀ j, j < zs.length → w.cell? ⟨b, off + j, none⟩ = some (.string (zs.getD j ByteArray.empty))) :
    Calls Tryz.prog 131 #[.slice (some ⟨b, off, none⟩) n c, .string x] w fun e w' => e = .returned (.bool (Lib.containsS (zs.take n) x)) ∧ w' = w := Any.slices_Contains_string Tryz.lays110 b off n c zs x w hz hbig hc
end Go.Proofs

/-
  Contracts of octets.first, none and made, at whatever function value that is handed in, and of digitValue.
-/
namespace Go.Proofs.YtklpbkjplecdpaaGreat.Oct
open Go.RowKit

def firstOf (p : Nat → Bool) : Nat → Nat → Nat
  | _, 0 => 0
  | k, n + 1 => if p k then 0 else firstOf p (k + 1) n + 1

theorem firstOf_le (p : Nat → Bool) (k n : Nat) : firstOf p k n ≤ n := by
  induction n generalizing k with
  | zero => simp [firstOf]
  | succ n ih => have := ih (k + 1); unfold firstOf; split <;> omega

theorem firstOf_hit (p : Nat → Bool) (k n j : Nat) (hj : j < n) (hp : p (k + j) = true) (hn : ∀ i, i < j → p (k + i) = false) : firstOf p k n = j := by
  induction n generalizing k j with
  | zero => omega
  | succ n ih =>
    unfold firstOf
    cases j with
    | zero => rw [if_pos (by simpa using hp)]
    | succ j =>
      have h0 : p k = false := by simpa using hn 0 (by omega)
      rw [h0, if_neg (by simp), ih (k + 1) j (by omega) (by rw [← hp]; congr 1; omega) (fun i hi => by rw [← hn (i + 1) (by omega)]; congr 1; omega)]

theorem firstOf_miss (p : Nat → Bool) (k n : Nat) (hn : ∀ i, i < n → p (k + i) = false) : firstOf p k n = n := by
  induction n generalizing k with
  | zero => rfl
  | succ n ih =>
    unfold firstOf
    have h0 : p k = false := by simpa using hn 0 (by omega)
    rw [h0, if_neg (by simp), ih (k + 1) (fun i hi => by rw [← hn (i + 1) (by omega)]; congr 1; omega)]

def Wants (g : Nat) (lb : Array Value) (p : Nat → Bool) (n : Nat) (w : World) : Prop :=
  ∀ (k : Nat) (W : World), k < n → Below w.heap.size w W → Calls Tryz.prog g (#[.int .i64 (k : Int)] ++ lb) W fun e w' => e = .returned (.bool (p k)) ∧ Below w.heap.size w w'

set_option maxHeartbeats 1000000 in
theorem first_c (n : Nat) (g : Nat) (lb : Array Value) (p : Nat → Bool) (w : World) (hn : n ≤ 9223372036854775807)
    (eg : ∀ args w, (callFunc g args).run Tryz.prog w = .ok (.enter g args) w) (hp : Wants g lb p n w) :
    Calls Tryz.prog 127 #[.int .i64 (n : Int), .func (.func g) #[] lb] w fun e w' => e = .returned (.int .i64 (firstOf p 0 n : Nat)) ∧ Below w.heap.size w w' := by
  go_enter Tryz.func127, Tryz.ntmps127
  go_wp2
  go_loopw [5, 7] (fun _ i wr => ∃ k : Nat, k ≤ n ∧ i = .int .i64 k ∧ Hid (∀ i, i < k → p i = false) ∧ Hid (Below w.heap.size w wr)) (fun _ i _ => n - (intOf i).toNat)
  case atStart => exact ⟨0, Nat.zero_le _, rfl, fun i hi => absurd hi (Nat.not_lt_zero _), Below.refl _ _⟩
  case round =>
    obtain ⟨k, hk, rfl, hno, hbel⟩ := hrel
    by_cases hlt : k < n
    · have hcall := hp k wr hlt hbel.out
      cases hq : p k with
      | true =>
        rw [hq] at hcall
        go_wp2_with (go_at_fn g; refine hcall.mono ?_; rintro e w' ⟨rfl, hb'⟩)
        go_ret
        exact ⟨ret_int (by rw [firstOf_hit p 0 n k hlt (by simpa using hq) (fun i hi => by simpa using hno.out i hi)]), hb'⟩
      | false =>
        rw [hq] at hcall
        go_wp2_with (go_at_fn g; refine hcall.mono ?_; rintro e w' ⟨rfl, hb'⟩)
        go_roundw
        case rel =>
          refine ⟨k + 1, by omega, by go_num, fun i hi => ?_, hb'⟩
          by_cases e : i = k
          · rw [e]; exact hq
          · exact hno.out i (by omega)
        case measure => simp [intOf]; omega
    · go_wp2
      go_ret
      have : k = n := by omega
      subst this
      exact ⟨ret_int (by rw [firstOf_miss p 0 k (fun i hi => by simpa using hno.out i hi)]), hbel.out⟩

end Go.Proofs.YtklpbkjplecdpaaGreat.Oct
