/-
  Part 8: ScnMay, ScnLaws.
-/
import Derived.Test.YtklpbkjplecdpaaGreatSwBaseP7
/-
  Where in HTML a text stands, with no program: a state that octets make may be.
-/
namespace Go.Proofs.YtklpbkjplecdpaaGreat.Scn
open Go.Proofs.YtklpbkjplecdpaaGreat.Oct Go.Proofs.YtklpbkjplecdpaaGreat.Crf Go.Proofs.YtklpbkjplecdpaaGreat.Tab Go.Proofs.YtklpbkjplecdpaaGreat.Tok

structure May (s : Sc) : Prop where
  k : s.k ≤ 19
  e1 : elemK s.k = true ∨ s.e = []
  e2 : s.e.length ≤ 33
  a1 : attrK s.k = true ∨ s.a = []
  a2 : s.a.length ≤ 32
  d : (s.k = 9 ∧ (s.d = 34 ∨ s.d = 39)) ∨ (s.k ≠ 9 ∧ s.d = 0)
  p1 : 16 ≤ s.k ∨ s.p = []
  p2 : s.p.length ≤ 34
  r1 : refK s.k = true ∨ s.r = []
  r2 : s.r.length ≤ 16
  n1 : 0 ≤ s.n
  n2 : s.n ≤ 15
  w : s.w.length ≤ 16
  l : langN s = 0 → s.n = 0 ∧ s.w = []
  x : 17 ≤ s.k → elemN s.e + 16 = s.k
  q : s.k = 16 → s.p = [] ∨ s.p = [45] ∨ s.p = [45, 45]
theorem may_check {s : Sc} (h : May s) : checkS s = 0 := by
  have h1 := h.k
  have h2 := h.e2
  have h3 := h.a2
  have h4 := h.p2
  have h5 := h.r2
  have h6 := h.w
  have h7 := h.n1
  have h8 := h.n2
  unfold checkS
  rw [if_neg (by omega), if_neg (by omega), if_neg (by omega), if_neg, if_neg, if_neg]
  · rintro ⟨g, g1 | g1⟩
    · exact g1 (h.l g).1
    · exact g1 (h.l g).2
  · rintro (⟨g1, g2, g3⟩ | ⟨g1, g2⟩)
    · rcases h.d with ⟨_, q | q⟩ | ⟨q, _⟩
      · exact g2 q
      · exact g3 q
      · exact q g1
    · rcases h.d with ⟨q, _⟩ | ⟨_, q⟩
      · exact g1 q
      · exact g2 q
  · rintro (⟨g1, g2⟩ | ⟨g1, g2⟩ | ⟨g1, g2⟩ | ⟨g1, g2⟩)
    · rcases h.e1 with q | q
      · rw [g1] at q; cases q
      · exact g2 q
    · rcases h.a1 with q | q
      · rw [g1] at q; cases q
      · exact g2 q
    · rcases h.p1 with q | q
      · omega
      · exact g2 q
    · rcases h.r1 with q | q
      · rw [g1] at q; cases q
      · exact g2 q

/-! ### Parts and words -/
def Good (x : Int × List UInt8) : Prop := 0 ≤ x.1 ∧ x.1 ≤ 15 ∧ x.2.length ≤ 16
theorem good_word (w : List UInt8) (c : UInt8) (h : w.length ≤ 16) : (if w.length < 16 then w ++ [c] else w).length ≤ 16 := by
  split
  · rw [List.length_append, List.length_singleton]; omega
  · exact h
theorem good_if {q : Prop} [Decidable q] {a b : Int × List UInt8} (ha : Good a) (hb : Good b) : Good (if q then a else b) := by split <;> assumption
theorem good_u (x : Int × List UInt8) (c : UInt8) (h : Good x) : Good (Usc.stepU x c) := by
  have head : ∀ w : List UInt8, w.length ≤ 16 → Good (Usc.headU w c) := fun w hw => by
    unfold Usc.headU
    repeat' split
    all_goals first | exact ⟨by decide, by decide, Nat.zero_le _⟩ | skip
    all_goals exact ⟨by show (0 : Int) ≤ 1; decide, by show (1 : Int) ≤ 15; decide, by first | (show (w ++ [low c]).length ≤ 16; rw [List.length_append, List.length_singleton]; omega) | exact hw⟩
  unfold Usc.stepU
  repeat' split
  all_goals first | exact ⟨by decide, by decide, Nat.zero_le _⟩ | exact head [] (Nat.zero_le _) | exact head _ h.2.2
theorem good_j (x : Int × List UInt8) (c : UInt8) (h : Good x) : Good (Jsc.stepJ x c) := by
  have code : ∀ (p : Int) (w : List UInt8), (p = 0 ∨ p = 1) → w.length ≤ 16 → Good (Jsc.codeJ p w c) := fun p w hp hw => by
    have hq : (if Jsc.keyB w = true then (0 : Int) else p) = 0 ∨ (if Jsc.keyB w = true then (0 : Int) else p) = 1 := by
      split
      · exact .inl rfl
      · exact hp
    unfold Jsc.codeJ
    split
    · exact ⟨by show (0 : Int) ≤ 1; decide, by show (1 : Int) ≤ 15; decide, good_word w c hw⟩
    · split
      · refine ⟨?_, ?_, Nat.zero_le _⟩
        · show (0 : Int) ≤ (if Jsc.keyB w = true then (0 : Int) else p); omega
        · show (if Jsc.keyB w = true then (0 : Int) else p) ≤ 15; omega
      · split
        · exact ⟨by decide, by decide, Nat.zero_le _⟩
        · split
          · exact ⟨by decide, by decide, Nat.zero_le _⟩
          · split
            · exact ⟨by decide, by decide, Nat.zero_le _⟩
            · split
              · refine ⟨?_, ?_, Nat.zero_le _⟩
                · show (0 : Int) ≤ 13 + (if Jsc.keyB w = true then (0 : Int) else p); omega
                · show 13 + (if Jsc.keyB w = true then (0 : Int) else p) ≤ 15; omega
              · split
                · exact ⟨by decide, by decide, Nat.zero_le _⟩
                · exact ⟨by decide, by decide, Nat.zero_le _⟩
  have pat : Good (Jsc.patJ c) := by
    unfold Jsc.patJ
    repeat' split
    all_goals exact ⟨by decide, by decide, Nat.zero_le _⟩
  unfold Jsc.stepJ
  by_cases hp : x.1 = 0 ∨ x.1 = 1
  · rw [if_pos hp]
    exact code _ _ hp h.2.2
  · rw [if_neg hp]
    repeat' (first | exact pat | exact code 0 [] (.inl rfl) (Nat.zero_le _) | refine good_if ?_ ?_ | exact ⟨by decide, by decide, Nat.zero_le _⟩)
theorem good_c (x : Int × List UInt8) (c : UInt8) (h : Good x) : Good (Csc.stepC x c) := by
  have pl : ∀ w : List UInt8, w.length ≤ 16 → Good (Csc.plainC w c) := fun w hw => by
    unfold Csc.plainC
    split
    · refine ⟨by show (0 : Int) ≤ 0; decide, by show (0 : Int) ≤ 15; decide, ?_⟩
      show (if w ≠ Csc.holeW ∧ w.length < 16 then w ++ [low c] else w).length ≤ 16
      split
      · rw [List.length_append, List.length_singleton]; omega
      · exact hw
    · repeat' split
      all_goals exact ⟨by decide, by decide, Nat.zero_le _⟩
  unfold Csc.stepC
  repeat' split
  all_goals first | exact ⟨by decide, by decide, Nat.zero_le _⟩ | exact pl _ h.2.2 | exact pl [] (Nat.zero_le _)
theorem good_feed (k : Nat) (l : List UInt8) : ∀ x, Good x → Good (feedK k x l) := by
  have gen : ∀ (f : Int × List UInt8 → UInt8 → Int × List UInt8), (∀ x c, Good x → Good (f x c)) → ∀ x, Good x → Good (l.foldl f x) := by
    intro f hf
    induction l with
    | nil => intro x h; exact h
    | cons c t ih => intro x h; exact ih _ (hf x c h)
  intro x h
  unfold feedK
  split
  · exact gen _ good_u x h
  · split
    · exact gen _ good_j x h
    · exact gen _ good_c x h

/-! ### The steps -/
theorem lang_keeps {s t : Sc} (h : t.k = s.k ∧ t.e = s.e ∧ t.a = s.a) : langN t = langN s := by
  unfold langN attK
  rw [h.1, h.2.1, h.2.2]
theorem sub_may {s t : Sc} {x : List UInt8} (h : May s) (g : subS s x = .ok t) : May t := by
  unfold subS subK at g
  split at g
  · injection g with g; subst g; exact h
  · rename_i hl
    split at g
    · cases g
    · split at g
      · cases g
      · split at g
        · cases g
        · injection g with g
          subst g
          obtain ⟨q1, q2, q3⟩ := good_feed (langN s) x (s.n, s.w) ⟨h.n1, h.n2, h.w⟩
          exact { h with n1 := q1, n2 := q2, w := q3, l := fun q => absurd q hl }
theorem noref_may {s : Sc} (h : May s) : May { s with r := [] } := { h with r1 := .inr rfl, r2 := Nat.zero_le _ }
theorem ref_may {s : Sc} (h : May s) (hk : refK s.k = true) (t : List UInt8) (ht : t.length ≤ 16) : May { s with r := t } := { h with r1 := .inl hk, r2 := ht }
theorem amp_may {s t : Sc} {c : UInt8} (h : May s) (hk : refK s.k = true) (g : ampS s c = .ok t) : May t := by
  unfold ampS at g
  split at g
  · injection g with g; subst g; exact ref_may h hk _ (by decide)
  · exact sub_may h g
theorem char_may {s t : Sc} {c : UInt8} (h : May s) (hk : refK s.k = true) (g : charS s c = .ok t) : May t := by
  unfold charS at g
  split at g
  · exact amp_may h hk g
  · split at g
    · exact sub_may (noref_may h) g
    · split at g
      · rename_i hu
        injection g with g; subst g
        have := (unf_small hu).2.1
        exact ref_may h hk _ (by omega)
      · obtain ⟨u, g1, g2⟩ := andThen_ok g
        have hu := sub_may (noref_may h) g1
        exact amp_may hu (by rw [(sub_keeps g1).1]; exact hk) g2
theorem plain_may (k : Nat) (e : List UInt8) (hk : k ≤ 19) (h9 : k ≠ 9) (he : elemK k = true ∨ e = []) (hl : e.length ≤ 33) (hx : 17 ≤ k → elemN e + 16 = k) : May (scK k e) where
  k := hk
  e1 := he
  e2 := hl
  a1 := .inr rfl
  a2 := Nat.zero_le _
  d := .inr ⟨h9, rfl⟩
  p1 := .inr rfl
  p2 := Nat.zero_le _
  r1 := .inr rfl
  r2 := Nat.zero_le _
  n1 := by show (0 : Int) ≤ 0; decide
  n2 := by show (0 : Int) ≤ 15; decide
  w := Nat.zero_le _
  l := fun _ => ⟨rfl, rfl⟩
  x := hx
  q := fun _ => .inl rfl
theorem end_may {e : List UInt8} {t : Sc} (hl : e.length ≤ 33) (g : endS e = .ok t) : May t := by
  unfold endS at g
  split at g
  · rename_i q; injection g with g; subst g; exact plain_may 17 e (by decide) (by decide) (.inl rfl) hl (fun _ => by rw [q])
  · split at g
    · rename_i q; injection g with g; subst g; exact plain_may 18 e (by decide) (by decide) (.inl rfl) hl (fun _ => by rw [q])
    · split at g
      · rename_i q; injection g with g; subst g; exact plain_may 19 e (by decide) (by decide) (.inl rfl) hl (fun _ => by rw [q])
      · split at g
        · cases g
        · injection g with g; subst g; exact plain_may 0 [] (by decide) (by decide) (.inr rfl) (Nat.zero_le _) (fun q => absurd q (by decide))
theorem within_may {e : List UInt8} {c : UInt8} {t : Sc} (hl : e.length ≤ 33) (g : withinS e c = .ok t) : May t := by
  unfold withinS at g
  split at g
  · injection g with g; subst g; exact plain_may 5 e (by decide) (by decide) (.inl rfl) hl (fun q => absurd q (by decide))
  · split at g
    · injection g with g; subst g; exact plain_may 12 e (by decide) (by decide) (.inl rfl) hl (fun q => absurd q (by decide))
    · split at g
      · exact end_may hl g
      · injection g with g
        subst g
        exact { plain_may 6 e (by decide) (by decide) (.inl rfl) hl (fun q => absurd q (by decide)) with a1 := .inl rfl, a2 := by show 1 ≤ 32; decide, l := fun _ => ⟨rfl, rfl⟩ }
theorem none_may (k : Nat) (hk : k ≤ 16) (h9 : k ≠ 9) : May (scK k []) := plain_may k [] (by omega) h9 (.inr rfl) (Nat.zero_le _) (fun q => by omega)
theorem data_may {s t : Sc} {c : UInt8} (h : May s) (hk : s.k = 0) (g : dataS s c = .ok t) : May t := by
  unfold dataS at g
  split at g
  · injection g with g; subst g; exact none_may 1 (by decide) (by decide)
  · exact char_may h (by rw [hk]; rfl) g
theorem open_may {t : Sc} {c : UInt8} (g : openS c = .ok t) : May t := by
  unfold openS at g
  split at g
  · injection g with g; subst g; exact plain_may 3 [low c] (by decide) (by decide) (.inl rfl) (by show 1 ≤ 33; decide) (fun q => absurd q (by decide))
  · split at g
    · injection g with g; subst g; exact none_may 2 (by decide) (by decide)
    · split at g
      · injection g with g; subst g; exact none_may 13 (by decide) (by decide)
      · split at g
        · injection g with g; subst g; exact none_may 15 (by decide) (by decide)
        · exact data_may (none_may 0 (by decide) (by decide)) rfl g
theorem endOpen_may {t : Sc} {c : UInt8} (g : endOpenS c = .ok t) : May t := by
  unfold endOpenS at g
  split at g
  · injection g with g; subst g; exact plain_may 4 [47, low c] (by decide) (by decide) (.inl rfl) (by show 2 ≤ 33; decide) (fun q => absurd q (by decide))
  · split at g
    · injection g with g; subst g; exact none_may 0 (by decide) (by decide)
    · injection g with g; subst g; exact none_may 15 (by decide) (by decide)
theorem lang_none {s : Sc} (h : s.k ≠ 18 ∧ s.k ≠ 19 ∧ s.k ≠ 9 ∧ s.k ≠ 10) : langN s = 0 := by
  unfold langN
  rw [if_neg h.1, if_neg h.2.1, if_neg (by rintro (q | q); exact h.2.2.1 q; exact h.2.2.2 q)]
theorem name_may {s t : Sc} {c : UInt8} (h : May s) (hk : s.k = 3 ∨ s.k = 4) (g : nameS s c = .ok t) : May t := by
  unfold nameS at g
  split at g
  · exact within_may h.e2 g
  · split at g
    · cases g
    · rename_i hlen
      injection g with g
      subst g
      have hl0 : langN s = 0 := lang_none (by omega)
      have hek : elemK s.k = true := by rcases hk with q | q <;> rw [q] <;> rfl
      have hle : (s.e ++ [low c]).length ≤ 33 := by rw [List.length_append, List.length_singleton]; omega
      exact { h with e1 := .inl hek, e2 := hle, l := fun _ => h.l hl0, x := fun q => absurd q (by show ¬ 17 ≤ s.k; omega) }
theorem attr_may {s t : Sc} {c : UInt8} (h : May s) (hk : s.k = 6 ∨ s.k = 7) (g : attrS s c = .ok t) : May t := by
  have hl0 : langN s = 0 := lang_none (by omega)
  have hd0 : s.d = 0 := by
    rcases h.d with ⟨q, _⟩ | ⟨_, q⟩
    · omega
    · exact q
  have hr0 : s.r = [] := by
    rcases h.r1 with q | q
    · have q := of_decide_eq_true q
      omega
    · exact q
  have hp0 : s.p = [] := by
    rcases h.p1 with q | q
    · omega
    · exact q
  have hak : attrK s.k = true := decide_eq_true (by omega)
  have h7 : May { s with k := 7 } := { h with k := (by show 7 ≤ 19; decide), e1 := .inl rfl, a1 := .inl rfl, d := .inr ⟨(by show 7 ≠ 9; decide), hd0⟩, p1 := .inr hp0, r1 := .inr hr0, l := fun _ => h.l hl0, x := fun q => absurd q (by show ¬ 17 ≤ 7; decide), q := fun q => absurd q (by show 7 ≠ 16; decide) }
  have h8 : May { s with k := 8 } := { h with k := (by show 8 ≤ 19; decide), e1 := .inl rfl, a1 := .inl rfl, d := .inr ⟨(by show 8 ≠ 9; decide), hd0⟩, p1 := .inr hp0, r1 := .inr hr0, l := fun _ => h.l hl0, x := fun q => absurd q (by show ¬ 17 ≤ 8; decide), q := fun q => absurd q (by show 8 ≠ 16; decide) }
  unfold attrS at g
  split at g
  · injection g with g; subst g; exact h7
  · split at g
    · injection g with g; subst g; exact h8
    · split at g
      · exact within_may h.e2 g
      · split at g
        · cases g
        · rename_i hlen
          injection g with g
          subst g
          have hle : (s.a ++ [low c]).length ≤ 32 := by rw [List.length_append, List.length_singleton]; omega
          exact { h with a1 := .inl hak, a2 := hle, l := fun _ => h.l hl0 }
theorem want_may {s t : Sc} {c : UInt8} (h : May s) (hk : s.k = 8) (g : wantS s c = .ok t) : May t := by
  have hl0 : langN s = 0 := lang_none (by omega)
  have hd0 : s.d = 0 := by
    rcases h.d with ⟨q, _⟩ | ⟨_, q⟩
    · omega
    · exact q
  have hp0 : s.p = [] := by
    rcases h.p1 with q | q
    · omega
    · exact q
  unfold wantS at g
  split at g
  · injection g with g; subst g; exact h
  · split at g
    · rename_i hq
      injection g with g
      subst g
      exact { h with k := (by show 9 ≤ 19; decide), e1 := .inl rfl, a1 := .inl rfl, d := .inl ⟨rfl, hq⟩, p1 := .inr hp0, r1 := .inl rfl, l := fun _ => h.l hl0, x := fun q => absurd q (by show ¬ 17 ≤ 9; decide), q := fun q => absurd q (by show 9 ≠ 16; decide) }
    · split at g
      · exact end_may h.e2 g
      · exact char_may (s := { s with k := 10 }) { h with k := (by show 10 ≤ 19; decide), e1 := .inl rfl, a1 := .inl rfl, d := .inr ⟨(by show 10 ≠ 9; decide), hd0⟩, p1 := .inr hp0, r1 := .inl rfl, l := fun _ => h.l hl0, x := fun q => absurd q (by show ¬ 17 ≤ 10; decide), q := fun q => absurd q (by show 10 ≠ 16; decide) } rfl g
theorem value_may {s t : Sc} {c : UInt8} (h : May s) (hk : s.k = 9) (g : valueS s c = .ok t) : May t := by
  unfold valueS at g
  split at g
  · obtain ⟨u, g1, g2⟩ := andThen_ok g
    injection g2 with g2
    subst g2
    exact plain_may 11 u.e (by decide) (by decide) (.inl rfl) (by rw [(flush_keeps g1).2.1]; exact h.e2) (fun q => absurd q (by decide))
  · exact char_may h (by rw [hk]; rfl) g
theorem bare_may {s t : Sc} {c : UInt8} (h : May s) (hk : s.k = 10) (g : bareS s c = .ok t) : May t := by
  unfold bareS at g
  split at g
  · obtain ⟨u, g1, g2⟩ := andThen_ok g
    exact within_may (by rw [(flush_keeps g1).2.1]; exact h.e2) g2
  · exact char_may h (by rw [hk]; rfl) g
theorem bang_may {k : Nat} {t : Sc} {c : UInt8} (g : bangS k c = .ok t) : May t := by
  unfold bangS at g
  split at g
  · split at g
    · injection g with g; subst g; exact none_may 14 (by decide) (by decide)
    · injection g with g; subst g; exact none_may 16 (by decide) (by decide)
  · split at g
    · injection g with g; subst g; exact none_may 0 (by decide) (by decide)
    · injection g with g; subst g; exact none_may 15 (by decide) (by decide)
theorem bogus_may {s t : Sc} {c : UInt8} (h : May s) (g : bogusS s c = .ok t) : May t := by
  unfold bogusS at g
  split at g
  · injection g with g; subst g; exact none_may 0 (by decide) (by decide)
  · injection g with g; subst g; exact h
theorem comment_may {s t : Sc} {c : UInt8} (h : May s) (hk : s.k = 16) (g : commentS s c = .ok t) : May t := by
  unfold commentS at g
  split at g
  · rename_i hc
    injection g with g
    subst g
    have h2 : s.p ++ [45] = [] ∨ s.p ++ [45] = [45] ∨ s.p ++ [45] = [45, 45] := by
      rcases h.q hk with q | q | q
      · exact .inr (.inl (by rw [q]; rfl))
      · exact .inr (.inr (by rw [q]; rfl))
      · exact absurd q hc.2
    have h3 : (s.p ++ [45]).length ≤ 34 := by rcases h2 with q | q | q <;> rw [q] <;> decide
    exact { h with p1 := .inl (by show 16 ≤ s.k; omega), p2 := h3, q := fun _ => h2 }
  · split at g
    · injection g with g; subst g; exact none_may 0 (by decide) (by decide)
    · split at g
      · injection g with g; subst g; exact { h with p1 := .inr rfl, p2 := Nat.zero_le _, q := fun _ => .inl rfl }
      · injection g with g; subst g; exact h
theorem raw_short {e : List UInt8} (h1 : 1 ≤ elemN e) (h2 : elemN e ≤ 3) : e.length ≤ 8 := by
  unfold elemN at h1 h2
  cases hp : placeL e elsL with
  | none => rw [hp] at h1; exact absurd h1 (by decide)
  | some i =>
    rw [hp] at h1 h2
    have hi : i < 4 := by
      have h2 : codeN i ≤ 3 := h2
      unfold codeN at h2
      split at h2
      · omega
      · split at h2
        · omega
        · omega
    have ha := place_at hp
    have hall : ∀ k : Fin 4, (elsL[k.val]?.getD []).length ≤ 8 := by decide +kernel
    have h3 := hall ⟨i, hi⟩
    rw [ha] at h3
    exact h3
theorem rawOne_may {s t : Sc} {c : UInt8} (h : May s) (hk : 17 ≤ s.k) (g : rawOne s c = .ok t) : May t := by
  unfold rawOne at g
  split at g
  · injection g with g
    subst g
    exact { h with p1 := .inl (by show 16 ≤ s.k; omega), p2 := (by show 1 ≤ 34; decide), r1 := .inr rfl, r2 := Nat.zero_le _, q := fun q => absurd q (by show s.k ≠ 16; omega) }
  · split at g
    · rename_i q
      exact char_may h (by rw [q]; rfl) g
    · exact sub_may h g
theorem raw_may {s t : Sc} {c : UInt8} (h : May s) (hk : 17 ≤ s.k) (g : rawS s c = .ok t) : May t := by
  have hx := h.x hk
  have hk19 := h.k
  have h8 := raw_short (e := s.e) (by omega) (by omega)
  unfold rawS at g
  split at g
  · exact rawOne_may h hk g
  · split at g
    · rename_i hpb
      split at g
      · cases g
      · injection g with g
        subst g
        have hlen : (s.p ++ [c]).length ≤ 34 := by
          rcases pend_len hpb with q | ⟨_, q⟩
          · have := q.length_le; simp at this ⊢; omega
          · have := q.length_le; simp at this ⊢; omega
        exact { h with p1 := .inl (by show 16 ≤ s.k; omega), p2 := hlen, q := fun q => absurd q (by show s.k ≠ 16; omega) }
    · split at g
      · exact within_may (by rw [List.length_cons]; omega) g
      · obtain ⟨u, g1, g2⟩ := andThen_ok g
        have hn : May { s with p := [] } := { h with p1 := .inr rfl, p2 := Nat.zero_le _, q := fun _ => .inl rfl }
        exact rawOne_may (sub_may hn g1) (by rw [(sub_keeps g1).1]; exact hk) g2
theorem go_may {s t : Sc} {c : UInt8} (h : May s) (g : goS s c = .ok t) : May t := by
  unfold goS at g
  by_cases h0 : s.k = 0
  · rw [if_pos h0] at g; exact data_may h h0 g
  rw [if_neg h0] at g
  by_cases h1 : s.k = 1
  · rw [if_pos h1] at g; exact open_may g
  rw [if_neg h1] at g
  by_cases h2 : s.k = 2
  · rw [if_pos h2] at g; exact endOpen_may g
  rw [if_neg h2] at g
  by_cases h3 : s.k = 3 ∨ s.k = 4
  · rw [if_pos h3] at g; exact name_may h h3 g
  rw [if_neg h3] at g
  by_cases h5 : s.k = 5 ∨ s.k = 11 ∨ s.k = 12
  · rw [if_pos h5] at g; exact within_may h.e2 g
  rw [if_neg h5] at g
  by_cases h6 : s.k = 6 ∨ s.k = 7
  · rw [if_pos h6] at g; exact attr_may h h6 g
  rw [if_neg h6] at g
  by_cases h8 : s.k = 8
  · rw [if_pos h8] at g; exact want_may h h8 g
  rw [if_neg h8] at g
  by_cases h9 : s.k = 9
  · rw [if_pos h9] at g; exact value_may h h9 g
  rw [if_neg h9] at g
  by_cases h10 : s.k = 10
  · rw [if_pos h10] at g; exact bare_may h h10 g
  rw [if_neg h10] at g
  by_cases h13 : s.k = 13 ∨ s.k = 14
  · rw [if_pos h13] at g; exact bang_may g
  rw [if_neg h13] at g
  by_cases h15 : s.k = 15
  · rw [if_pos h15] at g; exact bogus_may h g
  rw [if_neg h15] at g
  by_cases h16 : s.k = 16
  · rw [if_pos h16] at g; exact comment_may h h16 g
  rw [if_neg h16] at g
  exact raw_may h (by omega) g
theorem run_may (a : List UInt8) : ∀ {s t : Sc}, May s → runS s a = .ok t → May t := by
  induction a with
  | nil =>
    intro s t h g
    rw [runS_nil] at g
    injection g with g
    subst g
    exact h
  | cons c x ih =>
    intro s t h g
    obtain ⟨v, h1, h2⟩ := runS_cons g
    exact ih (go_may h h1) h2
theorem start_may {a : List UInt8} {s : Sc} (h : runS sc0 a = .ok s) : May s := run_may a (none_may 0 (by decide) (by decide)) h
end Go.Proofs.YtklpbkjplecdpaaGreat.Scn

/-
  Plain facts on where in HTML a text stands: ScanData, ScanTexts, ScanEnds, with no program.
-/
namespace Go.Proofs.YtklpbkjplecdpaaGreat.Scn
open Go.Proofs.YtklpbkjplecdpaaGreat.Oct Go.Proofs.YtklpbkjplecdpaaGreat.Crf Go.Proofs.YtklpbkjplecdpaaGreat.Tab Go.Proofs.YtklpbkjplecdpaaGreat.Tok

/-- Where an action may stand: the state behind it, and its kind. -/
def langHole (s : Sc) : Except Nat (Sc × Nat) :=
  if langN s = 1 then (if s.n = 0 then .ok ({ s with n := 4, w := [] }, 4) else if s.n = 2 then .ok ({ s with w := [] }, 5) else if s.n = 3 then .ok ({ s with w := [] }, 6) else .error 91)
  else if langN s = 2 then (if s.n = 0 ∨ s.n = 1 then .ok ({ s with n := 1, w := [] }, if s.k = 9 then 9 else 7) else if s.n = 2 ∨ s.n = 3 then .ok ({ s with w := [] }, if s.k = 9 then 10 else 8) else .error 91)
  else if langN s = 3 then (if s.n = 0 then .ok ({ s with w := [63] }, if s.k = 9 then 12 else 11) else .error 91)
  else .error 91
def holeS (s : Sc) : Except Nat (Sc × Nat) :=
  if checkS s ≠ 0 then .error (checkS s)
  else if s.p ≠ [] ∨ s.r ≠ [] then .error 91
  else if s.k = 0 then .ok (s, 1) else if s.k = 17 then .ok (s, 2)
  else if s.k = 9 ∧ attK s = 0 ∧ endE s.e = false then .ok (s, 3)
  else if s.k = 9 ∨ s.k = 18 ∨ s.k = 19 then langHole s
  else .error 91
theorem hole_small {s u : Sc} {k : Nat} (h : holeS s = .ok (u, k)) (hk : k ≤ 3) : (s.k = 0 ∨ s.k = 17 ∨ s.k = 9) ∧ s.p = [] ∧ s.r = [] := by
  unfold holeS at h
  split at h
  · cases h
  · split at h
    · cases h
    · rename_i hpr
      have hp : s.p = [] := Classical.byContradiction fun q => hpr (.inl q)
      have hr : s.r = [] := Classical.byContradiction fun q => hpr (.inr q)
      split at h
      · rename_i q; exact ⟨.inl q, hp, hr⟩
      · split at h
        · rename_i q; exact ⟨.inr (.inl q), hp, hr⟩
        · split at h
          · rename_i q; exact ⟨.inr (.inr q.1), hp, hr⟩
          · split at h
            · exfalso
              unfold langHole at h
              repeat' split at h
              all_goals first | (cases h; done) | (injection h with h; injection h with _ h; omega)
            · cases h

/-- In data the reader's tag is none: it goes on as from the start. -/
theorem base_eqv {r : Rd} (hst : r.st = 0) (hb : Base r) : Eqv (shL r.out) r rd0 where
  st := hst
  out := by show shL r.out = shL r.out ++ shL []; rw [show shL [] = [] from rfl, List.append_nil]
  tx := .inl (.inl hst)
  tg := by rw [hb.1]
  av := by rw [hb.2]
  q := fun e => by rw [hst] at e; cases e
  rw := fun e => by rw [hst] at e; cases e
/-- ScanData. -/
theorem scan_data {a : List UInt8} {s : Sc} (h : runS sc0 a = .ok s) (hk : s.k = 0) (b : List UInt8) : shL (tokL (a ++ b)) = shL (tokL a) ++ shL (tokL b) := by
  obtain ⟨u, r, h1, h2⟩ := start_sim h
  have hu : u = [] ∧ r.st = 0 ∧ Base r := by
    cases h2 with
    | data _ hst hb => exact ⟨rfl, hst, hb⟩
    | opn g => omega
    | endOpn g => omega
    | name g => omega
    | within g => omega
    | attr g => omega
    | value g => omega
    | bang g => omega
    | dash g => omega
    | bogus g => omega
    | comment g => omega
    | raw g => omega
  obtain ⟨rfl, hst, hb⟩ := hu
  have e1 := h1 b
  have e2 := h1 []
  rw [List.append_nil, List.nil_append, run_nil] at e2
  rw [List.nil_append] at e1
  unfold tokL
  rw [e1, e2, eqv_shape b (by omega) (base_eqv hst hb)]
  congr 1
  unfold lastR
  rw [if_pos hst, sh_textR]
theorem clean_at {x : List UInt8} (h : cleanL x = true) : ∀ c ∈ x, c ≠ 60 ∧ c ≠ 62 ∧ c ≠ 34 ∧ c ≠ 39 := by
  intro c hc
  have h1 := List.all_eq_true.1 h c hc
  simp only [Bool.not_eq_true', Bool.or_eq_false_iff, beq_eq_false_iff_ne] at h1
  exact ⟨h1.1.1.1, h1.1.1.2, h1.1.2, h1.2⟩
theorem run_val (x t : List UInt8) : ∀ (r : Rd), r.st = 8 → (∀ c ∈ x, c ≠ r.q) → runR (x ++ t) r = runR t { r with av := { r.av with v := r.av.v ++ x } } := by
  induction x with
  | nil => intro r _ _; simp
  | cons c x ih =>
    intro r hst h
    have h1 : runR (c :: (x ++ t)) r = runR (x ++ t) (addV c r) := go1 (by rw [in_value r hst]; unfold valueR; rw [if_neg (h c (by simp))]; rfl)
    rw [List.cons_append, h1, ih (addV c r) hst (fun d hd => h d (by simp [hd]))]
    congr 1
    unfold addV
    simp
/-- ScanTexts: what is told where an action may stand leaves the shape as it is. -/
theorem scan_texts {a : List UInt8} {s u : Sc} {k : Nat} (h : runS sc0 a = .ok s) (hh : holeS s = .ok (u, k)) (hk : k ≤ 3) (x b : List UInt8) (hx : cleanL x = true) :
    shL (tokL (a ++ (x ++ b))) = shL (tokL (a ++ b)) := by
  have hm := start_may h
  obtain ⟨hkk, hp, _⟩ := hole_small hh hk
  obtain ⟨v, r, h1, h2⟩ := start_sim h
  have hc := clean_at hx
  have key : ∃ r1, v = [] ∧ r1.st ≤ 15 ∧ runR (x ++ b) r = runR b r1 ∧ Eqv [] r1 r := by
    cases h2 with
    | data g hst hb =>
      exact ⟨{ r with tx := r.tx ++ x }, rfl, by show r.st ≤ 15; omega, run_text x b r hst (fun c q => (hc c q).1), ⟨rfl, rfl, .inl (.inl hst), rfl, rfl, fun _ => rfl, fun _ => rfl⟩⟩
    | opn g => omega
    | endOpn g => omega
    | name g => omega
    | within g => omega
    | attr g => omega
    | value g hst hq ht =>
      have hd : s.d = 34 ∨ s.d = 39 := by
        rcases hm.d with ⟨_, q⟩ | ⟨q, _⟩
        · exact q
        · exact absurd g q
      refine ⟨{ r with av := { r.av with v := r.av.v ++ x } }, rfl, by show r.st ≤ 15; omega, run_val x b r hst (fun c q => ?_), ⟨rfl, rfl, .inr rfl, rfl, rfl, fun _ => rfl, fun _ => rfl⟩⟩
      rw [hq]
      rcases hd with e | e
      · rw [e]; exact (hc c q).2.2.1
      · rw [e]; exact (hc c q).2.2.2
    | bang g => omega
    | dash g => omega
    | bogus g => omega
    | comment g => omega
    | raw g he g2 hpo hst hw hb =>
      refine ⟨{ r with tx := r.tx ++ x }, hp, by show r.st ≤ 15; omega, run_raw x b r hst (fun i hi => ?_), ⟨rfl, rfl, .inl (.inr hst), rfl, rfl, fun _ => rfl, fun _ => rfl⟩⟩
      rw [List.drop_append_of_le_length (by omega), List.drop_eq_getElem_cons hi, List.cons_append]
      exact hits_other _ _ _ (hc _ (List.getElem_mem hi)).1
  obtain ⟨r1, rfl, hst1, e1, e2⟩ := key
  have e3 := h1 (x ++ b)
  have e4 := h1 b
  rw [List.nil_append] at e3 e4
  unfold tokL
  rw [e3, e4, e1, eqv_shape b hst1 e2, List.nil_append]
/-- ScanEnds: in data a > is text. -/
theorem sub_none {s : Sc} (h : langN s = 0) (x : List UInt8) : subS s x = .ok s := by
  unfold subS subK
  rw [if_pos h]
theorem scan_ends {s : Sc} (hk : s.k = 0) : ∃ u, runS s [62] = .ok u ∧ u.k = 0 := by
  have hl : ∀ t : Sc, t.k = 0 → langN t = 0 := fun t ht => lang_none (by omega)
  have hc : ∃ u, goS s 62 = .ok u := by
    unfold goS dataS charS ampS
    rw [if_pos hk, if_neg (by decide)]
    split
    · exact ⟨s, sub_none (hl s hk) _⟩
    · split
      · exact ⟨_, sub_none (hl { s with r := [] } hk) _⟩
      · split
        · exact ⟨_, rfl⟩
        · rw [sub_none (hl { s with r := [] } hk) s.r]
          exact ⟨_, sub_none (hl { s with r := [] } hk) _⟩
  obtain ⟨u, hu⟩ := hc
  refine ⟨u, ?_, ?_⟩
  · rw [runS_eq, hu]; rfl
  · have h2 := hu
    unfold goS at h2
    rw [if_pos hk] at h2
    unfold dataS at h2
    rw [if_neg (by decide)] at h2
    exact (char_keeps h2).1.trans hk
end Go.Proofs.YtklpbkjplecdpaaGreat.Scn
