/-
  Part 9: ScnStr, PgOct, OctLeaves.
-/
import Derived.Test.YtklpbkjplecdpaaGreatSwBaseP8
import Derived.Test.YtklpbkjplecdpaaGreatSwBaseP1
import Derived.Test.YtklpbkjplecdpaaGreatProg
/-
  Plain facts on where in HTML a text stands: ScanStrings, with no program.
-/
namespace Go.Proofs.YtklpbkjplecdpaaGreat.Scn
open Go.Proofs.YtklpbkjplecdpaaGreat.Oct Go.Proofs.YtklpbkjplecdpaaGreat.Utf Go.Proofs.YtklpbkjplecdpaaGreat.Crf Go.Proofs.YtklpbkjplecdpaaGreat.Tab Go.Proofs.YtklpbkjplecdpaaGreat.Tok
open Go.Proofs.YtklpbkjplecdpaaGreat.Lit (insideL quoteL charL bareB litL)

/-! ### In a script the word is empty but on the way -/
def Wl (x : Int × List UInt8) : Prop := x.1 = 1 ∨ x.2 = []
theorem wl_if {q : Prop} [Decidable q] {a b : Int × List UInt8} (ha : Wl a) (hb : Wl b) : Wl (if q then a else b) := by split <;> assumption
theorem wl_step (x : Int × List UInt8) (c : UInt8) : Wl (Jsc.stepJ x c) := by
  have code : ∀ p w, Wl (Jsc.codeJ p w c) := fun p w => by
    unfold Jsc.codeJ
    split
    · exact .inl rfl
    · repeat' (first | exact .inr rfl | refine wl_if ?_ ?_)
  have pat : Wl (Jsc.patJ c) := by
    unfold Jsc.patJ
    repeat' (first | exact .inr rfl | refine wl_if ?_ ?_)
  unfold Jsc.stepJ
  by_cases hp : x.1 = 0 ∨ x.1 = 1
  · rw [if_pos hp]; exact code _ _
  · rw [if_neg hp]
    repeat' (first | exact .inr rfl | exact .inl rfl | exact pat | exact code 0 [] | refine wl_if ?_ ?_)
theorem wl_feed (l : List UInt8) : ∀ x, Wl x → Wl (Jsc.feedJ x l) := by
  induction l with
  | nil => intro x h; exact h
  | cons c t ih => intro x _; exact ih _ (wl_step x c)
def Ws (s : Sc) : Prop := langN s = 2 → Wl (s.n, s.w)
theorem ws_plain {s : Sc} (h : s.w = []) : Ws s := fun _ => .inr h
theorem sub_ws {s t : Sc} {x : List UInt8} (h : Ws s) (g : subS s x = .ok t) : Ws t := by
  have hke := sub_keeps g
  have hl := lang_keeps (s := s) (t := t) ⟨hke.1, hke.2.1, hke.2.2.1⟩
  unfold subS subK at g
  split at g
  · injection g with g; subst g; exact h
  · split at g
    · cases g
    · split at g
      · cases g
      · split at g
        · cases g
        · injection g with g
          intro q
          rw [hl] at q
          subst g
          rw [q]
          exact wl_feed x _ (h q)
theorem noref_ws {s : Sc} {t : List UInt8} (h : Ws s) : Ws { s with r := t } := h
theorem amp_ws {s t : Sc} {c : UInt8} (h : Ws s) (g : ampS s c = .ok t) : Ws t := by
  unfold ampS at g
  split at g
  · injection g with g; subst g; exact h
  · exact sub_ws h g
theorem char_ws {s t : Sc} {c : UInt8} (h : Ws s) (g : charS s c = .ok t) : Ws t := by
  unfold charS at g
  split at g
  · exact amp_ws h g
  · split at g
    · exact sub_ws (noref_ws (t := []) h) g
    · split at g
      · injection g with g; subst g; exact h
      · obtain ⟨u, g1, g2⟩ := andThen_ok g
        exact amp_ws (sub_ws (noref_ws (t := []) h) g1) g2
theorem end_ws {e : List UInt8} {t : Sc} (g : endS e = .ok t) : Ws t := by
  unfold endS at g
  repeat' split at g
  all_goals first | (cases g; done) | (injection g with g; subst g; exact ws_plain rfl)
theorem within_ws {e : List UInt8} {c : UInt8} {t : Sc} (g : withinS e c = .ok t) : Ws t := by
  unfold withinS at g
  split at g
  · injection g with g; subst g; exact ws_plain rfl
  · split at g
    · injection g with g; subst g; exact ws_plain rfl
    · split at g
      · exact end_ws g
      · injection g with g; subst g; exact ws_plain rfl
theorem data_ws {s t : Sc} {c : UInt8} (h : Ws s) (g : dataS s c = .ok t) : Ws t := by
  unfold dataS at g
  split at g
  · injection g with g; subst g; exact ws_plain rfl
  · exact char_ws h g
theorem rawOne_ws {s t : Sc} {c : UInt8} (h : Ws s) (g : rawOne s c = .ok t) : Ws t := by
  unfold rawOne at g
  split at g
  · injection g with g; subst g; exact h
  · split at g
    · exact char_ws h g
    · exact sub_ws h g
/-- The word is empty in all that a script's language is not. -/
theorem go_ws {s t : Sc} {c : UInt8} (hm : May s) (h : Ws s) (g : goS s c = .ok t) : Ws t := by
  have none : langN s = 0 → s.w = [] := fun q => (hm.l q).2
  unfold goS at g
  by_cases h0 : s.k = 0
  · rw [if_pos h0] at g; exact data_ws h g
  rw [if_neg h0] at g
  by_cases h1 : s.k = 1
  · rw [if_pos h1] at g
    unfold openS at g
    repeat' split at g
    all_goals first | (injection g with g; subst g; exact ws_plain rfl) | exact data_ws (ws_plain rfl) g
  rw [if_neg h1] at g
  by_cases h2 : s.k = 2
  · rw [if_pos h2] at g
    unfold endOpenS at g
    repeat' split at g
    all_goals (injection g with g; subst g; exact ws_plain rfl)
  rw [if_neg h2] at g
  by_cases h3 : s.k = 3 ∨ s.k = 4
  · rw [if_pos h3] at g
    unfold nameS at g
    split at g
    · exact within_ws g
    · split at g
      · cases g
      · injection g with g; subst g; exact ws_plain (none (lang_none (by omega)))
  rw [if_neg h3] at g
  by_cases h5 : s.k = 5 ∨ s.k = 11 ∨ s.k = 12
  · rw [if_pos h5] at g; exact within_ws g
  rw [if_neg h5] at g
  by_cases h6 : s.k = 6 ∨ s.k = 7
  · rw [if_pos h6] at g
    have hw := none (lang_none (by omega))
    unfold attrS at g
    split at g
    · injection g with g; subst g; exact ws_plain hw
    · split at g
      · injection g with g; subst g; exact ws_plain hw
      · split at g
        · exact within_ws g
        · split at g
          · cases g
          · injection g with g; subst g; exact ws_plain hw
  rw [if_neg h6] at g
  by_cases h8 : s.k = 8
  · rw [if_pos h8] at g
    have hw := none (lang_none (by omega))
    unfold wantS at g
    split at g
    · injection g with g; subst g; exact h
    · split at g
      · injection g with g; subst g; exact ws_plain hw
      · split at g
        · exact end_ws g
        · exact char_ws (s := { s with k := 10 }) (ws_plain hw) g
  rw [if_neg h8] at g
  by_cases h9 : s.k = 9
  · rw [if_pos h9] at g
    unfold valueS at g
    split at g
    · obtain ⟨u, _, g2⟩ := andThen_ok g
      injection g2 with g2; subst g2; exact ws_plain rfl
    · exact char_ws h g
  rw [if_neg h9] at g
  by_cases h10 : s.k = 10
  · rw [if_pos h10] at g
    unfold bareS at g
    split at g
    · obtain ⟨u, _, g2⟩ := andThen_ok g
      exact within_ws g2
    · exact char_ws h g
  rw [if_neg h10] at g
  by_cases h13 : s.k = 13 ∨ s.k = 14
  · rw [if_pos h13] at g
    unfold bangS at g
    repeat' split at g
    all_goals (injection g with g; subst g; exact ws_plain rfl)
  rw [if_neg h13] at g
  by_cases h15 : s.k = 15
  · rw [if_pos h15] at g
    unfold bogusS at g
    split at g
    · injection g with g; subst g; exact ws_plain rfl
    · injection g with g; subst g; exact h
  rw [if_neg h15] at g
  by_cases h16 : s.k = 16
  · rw [if_pos h16] at g
    unfold commentS at g
    split at g
    · injection g with g; subst g; exact h
    · split at g
      · injection g with g; subst g; exact ws_plain rfl
      · split at g
        · injection g with g; subst g; exact h
        · injection g with g; subst g; exact h
  rw [if_neg h16] at g
  unfold rawS at g
  split at g
  · exact rawOne_ws h g
  · split at g
    · split at g
      · cases g
      · injection g with g; subst g; exact h
    · split at g
      · exact within_ws g
      · obtain ⟨u, g1, g2⟩ := andThen_ok g
        exact rawOne_ws (sub_ws (s := { s with p := [] }) h g1) g2
theorem run_ws (a : List UInt8) : ∀ {s t : Sc}, May s → Ws s → runS s a = .ok t → Ws t := by
  induction a with
  | nil =>
    intro s t _ h g
    rw [runS_nil] at g
    injection g with g
    subst g
    exact h
  | cons c x ih =>
    intro s t hm h g
    obtain ⟨v, h1, h2⟩ := runS_cons g
    exact ih (go_may hm h1) (go_ws hm h h1) h2
theorem start_ws {a : List UInt8} {s : Sc} (h : runS sc0 a = .ok s) : Ws s := run_ws a (none_may 0 (by decide) (by decide)) (ws_plain rfl) h

/-! ### A text goes through a script -/
theorem sub_two {s : Sc} (hl : langN s = 2) (x : List UInt8) (h : (Jsc.feedJ (s.n, s.w) x).1 ≠ 15) : subS s x = .ok { s with n := (Jsc.feedJ (s.n, s.w) x).1, w := (Jsc.feedJ (s.n, s.w) x).2 } := by
  have e : feedK 2 (s.n, s.w) x = Jsc.feedJ (s.n, s.w) x := rfl
  unfold subS subK
  rw [hl, if_neg (by decide), if_neg (by rintro ⟨q, _⟩; exact absurd q (by decide)), e, if_neg (fun q => h q.2), if_neg (by rintro ⟨q, _⟩; exact absurd q (by decide))]
theorem not_lost {x : Int × List UInt8} {c : UInt8} {t : List UInt8} (h : (Jsc.feedJ x (c :: t)).1 ≠ 15) : (Jsc.stepJ x c).1 ≠ 15 := fun q => h (by
  rw [Jsc.feed_cons]
  generalize Jsc.stepJ x c = y at q ⊢
  obtain ⟨p, w⟩ := y
  have q : p = 15 := q
  subst q
  exact Jsc.stay_lost w t)
/-- In a script's raw text, without a <. -/
theorem run_script (x : List UInt8) : ∀ {s : Sc}, s.k = 19 → s.p = [] → (∀ c ∈ x, c ≠ 60) → (Jsc.feedJ (s.n, s.w) x).1 ≠ 15 →
    runS s x = .ok { s with n := (Jsc.feedJ (s.n, s.w) x).1, w := (Jsc.feedJ (s.n, s.w) x).2 } := by
  induction x with
  | nil => intro s _ _ _ _; rfl
  | cons c t ih =>
    intro s hk hp hx h
    have hl : langN s = 2 := by unfold langN; rw [if_neg (by omega), if_pos hk]
    have hs := sub_two hl [c] (not_lost h)
    have hg : goS s c = .ok { s with n := (Jsc.stepJ (s.n, s.w) c).1, w := (Jsc.stepJ (s.n, s.w) c).2 } := by
      unfold goS
      rw [if_neg (by omega), if_neg (by omega), if_neg (by omega), if_neg (by omega), if_neg (by omega), if_neg (by omega), if_neg (by omega), if_neg (by omega), if_neg (by omega), if_neg (by omega), if_neg (by omega), if_neg (by omega)]
      unfold rawS rawOne
      rw [if_pos hp, if_neg (hx c (by simp)), if_neg (by omega)]
      exact hs
    have hi := ih (s := { s with n := (Jsc.stepJ (s.n, s.w) c).1, w := (Jsc.stepJ (s.n, s.w) c).2 }) hk hp (fun d hd => hx d (by simp [hd])) h
    rw [runS_eq, hg]
    simp only [hi]
    rfl
/-- In a value that is a script, without a reference or a quote. -/
theorem run_value_script (x : List UInt8) : ∀ {s : Sc}, s.k = 9 → langN s = 2 → s.r = [] → (∀ c ∈ x, c ≠ s.d ∧ c ≠ 38) → (Jsc.feedJ (s.n, s.w) x).1 ≠ 15 →
    runS s x = .ok { s with n := (Jsc.feedJ (s.n, s.w) x).1, w := (Jsc.feedJ (s.n, s.w) x).2 } := by
  induction x with
  | nil => intro s _ _ _ _ _; rfl
  | cons c t ih =>
    intro s hk hl hr hx h
    have hs := sub_two hl [c] (not_lost h)
    have hg : goS s c = .ok { s with n := (Jsc.stepJ (s.n, s.w) c).1, w := (Jsc.stepJ (s.n, s.w) c).2 } := by
      unfold goS
      rw [if_neg (by omega), if_neg (by omega), if_neg (by omega), if_neg (by omega), if_neg (by omega), if_neg (by omega), if_neg (by omega), if_pos hk]
      unfold valueS charS ampS
      rw [if_neg (hx c (by simp)).1, if_pos hr, if_neg (hx c (by simp)).2]
      exact hs
    have hi := ih (s := { s with n := (Jsc.stepJ (s.n, s.w) c).1, w := (Jsc.stepJ (s.n, s.w) c).2 }) hk (by rw [← hl]; exact lang_keeps ⟨rfl, rfl, rfl⟩) hr (fun d hd => hx d (by simp [hd])) h
    rw [runS_eq, hg]
    simp only [hi]
    rfl
/-- A quote that is escaped, in a value. -/
theorem run_quot {s : Sc} (hk : s.k = 9) (hl : langN s = 2) (hr : s.r = []) (hd : s.d = 34 ∨ s.d = 39) (h : (Jsc.stepJ (s.n, s.w) 34).1 ≠ 15) :
    runS s [38, 35, 51, 52, 59] = .ok { s with n := (Jsc.stepJ (s.n, s.w) 34).1, w := (Jsc.stepJ (s.n, s.w) 34).2 } := by
  have hval : ∀ (t : Sc) (c : UInt8), t.k = 9 → t.d = s.d → c ≠ 34 → c ≠ 39 → goS t c = charS t c := fun t c h1 h2 h3 h4 => by
    unfold goS
    rw [if_neg (by omega), if_neg (by omega), if_neg (by omega), if_neg (by omega), if_neg (by omega), if_neg (by omega), if_neg (by omega), if_pos h1]
    unfold valueS
    rw [if_neg (by rw [h2]; rcases hd with e | e <;> rw [e]; exact h3; exact h4)]
  have step : ∀ (q : List UInt8) (c : UInt8), q ≠ [] → c ≠ 34 → c ≠ 39 → (oneL (q ++ [c])).2 ≠ (q ++ [c]).length → unfL (q ++ [c]) = true → goS { s with r := q } c = .ok { s with r := q ++ [c] } := fun q c h1 h2 h3 h4 h5 => by
    rw [hval { s with r := q } c hk rfl h2 h3]
    unfold charS
    rw [if_neg h1, if_neg h4, if_pos h5]
  have g1 : goS s 38 = .ok { s with r := [38] } := by
    rw [hval s 38 hk rfl (by decide) (by decide)]
    unfold charS ampS
    rw [if_pos hr, if_pos rfl]
  have g2 := step [38] 35 (by decide) (by decide) (by decide) (by decide +kernel) (by decide +kernel)
  have g3 := step [38, 35] 51 (by decide) (by decide) (by decide) (by decide +kernel) (by decide +kernel)
  have g4 := step [38, 35, 51] 52 (by decide) (by decide) (by decide) (by decide +kernel) (by decide +kernel)
  have g6 : goS { s with r := [38, 35, 51, 52] } 59 = .ok { s with n := (Jsc.stepJ (s.n, s.w) 34).1, w := (Jsc.stepJ (s.n, s.w) 34).2 } := by
    rw [hval { s with r := [38, 35, 51, 52] } 59 hk rfl (by decide) (by decide)]
    have e1 : oneL [38, 35, 51, 52, 59] = ([34], 5) := by decide +kernel
    unfold charS
    show (if ([38, 35, 51, 52] : List UInt8) = [] then _ else if (oneL [38, 35, 51, 52, 59]).2 = ([38, 35, 51, 52, 59] : List UInt8).length then subS { s with r := [] } (oneL [38, 35, 51, 52, 59]).1 else _) = _
    rw [if_neg (by decide), e1, if_pos (by decide)]
    have hs0 : ({ s with r := [] } : Sc) = s := by rw [← hr]
    rw [hs0]
    exact sub_two hl [34] h
  rw [runS_eq, g1]
  simp only
  rw [runS_eq, g2]
  simp only [List.cons_append, List.nil_append]
  rw [runS_eq, g3]
  simp only [List.cons_append, List.nil_append]
  rw [runS_eq, g4]
  simp only [List.cons_append, List.nil_append]
  rw [runS_eq, g6]
  rfl

/-! ### ScanStrings -/
theorem run_then {s u : Sc} {a b : List UInt8} (h : runS s a = .ok u) : runS s (a ++ b) = match runS u b with
    | .error (k, e) => .error (a.length + k, e)
    | .ok v => .ok v := by
  rw [runS_append, h]
  rfl
theorem inside_calm (cs : List Int) : ∀ c ∈ insideL cs, c ≠ 60 ∧ c ≠ 62 ∧ c ≠ 34 ∧ c ≠ 39 ∧ c ≠ 38 ∧ c ≠ 43 := by
  have hdig : ∀ d : Fin 16, hexDig d.val ≠ 60 ∧ hexDig d.val ≠ 62 ∧ hexDig d.val ≠ 34 ∧ hexDig d.val ≠ 39 ∧ hexDig d.val ≠ 38 ∧ hexDig d.val ≠ 43 := by decide +kernel
  have hesc : ∀ n, ∀ c ∈ Lit.escL n, c ≠ 60 ∧ c ≠ 62 ∧ c ≠ 34 ∧ c ≠ 39 ∧ c ≠ 38 ∧ c ≠ 43 := by
    intro n c hc
    unfold Lit.escL at hc
    rw [Jsc.hex_four] at hc
    simp only [List.cons_append, List.nil_append, List.mem_cons, List.not_mem_nil, or_false] at hc
    rcases hc with rfl | rfl | rfl | rfl | rfl | rfl
    · decide
    · decide
    all_goals exact hdig ⟨_, Nat.mod_lt _ (by decide)⟩
  have hbare : ∀ k : Fin 128, bareB (k.val : Int) = true → k.val.toUInt8 ≠ 60 ∧ k.val.toUInt8 ≠ 62 ∧ k.val.toUInt8 ≠ 34 ∧ k.val.toUInt8 ≠ 39 ∧ k.val.toUInt8 ≠ 38 ∧ k.val.toUInt8 ≠ 43 := by decide +kernel
  intro c hc
  unfold insideL at hc
  obtain ⟨n, _, hn⟩ := List.mem_flatMap.1 hc
  unfold charL at hn
  split at hn
  · rename_i hb
    have h2 : 0 ≤ n ∧ n < 128 := by simp [bareB] at hb; omega
    rw [List.mem_singleton] at hn
    rw [hn]
    exact hbare ⟨n.toNat, by omega⟩ (by show bareB ((n.toNat : Nat) : Int) = true; rw [Int.toNat_of_nonneg h2.1]; exact hb)
  · split at hn
    · rcases List.mem_append.1 hn with q | q
      · exact hesc _ c q
      · exact hesc _ c q
    · exact hesc _ c hn
theorem esc_same (x : List UInt8) (h : ∀ c ∈ x, c ≠ 60 ∧ c ≠ 62 ∧ c ≠ 34 ∧ c ≠ 39 ∧ c ≠ 38 ∧ c ≠ 43) : escL x = x := by
  induction x with
  | nil => rfl
  | cons c t ih =>
    obtain ⟨h1, h2, h3, h4, h5, h6⟩ := h c (by simp)
    have e : escO c = [c] := by
      unfold escO
      simp [h1, h2, h3, h4, h5, h6]
    have e2 : escL (c :: t) = escO c ++ escL t := by unfold escL; rw [List.flatMap_cons]
    rw [e2, e, ih (fun d hd => h d (by simp [hd]))]
    rfl
/-- What a string's text, and a text as a literal, tell the script. -/
theorem blank_code (p : Int) (hp : p = 0 ∨ p = 1) (w : List UInt8) : ∃ q, (q = 0 ∨ q = 1) ∧ Jsc.stepJ (p, w) 32 = (q, []) := by
  refine ⟨if Jsc.keyB w = true then 0 else p, ?_, ?_⟩
  · split
    · exact .inl rfl
    · exact hp
  · rcases hp with rfl | rfl <;> rfl
theorem quote_around (s : ByteArray) (p : Int) (hp : p = 0 ∨ p = 1) (w : List UInt8) : Jsc.feedJ (p, w) (32 :: (quoteL s ++ [32])) = (1, []) := by
  obtain ⟨q, hq, e⟩ := blank_code p hp w
  rw [Jsc.feed_cons, e, Jsc.feed_append, Jsc.quote_done s q hq []]
  decide +kernel
theorem inside_two (cs : List Int) (n : Int) (hn : n = 2 ∨ n = 3) : Jsc.feedJ (n, []) (insideL cs) = (n, []) := by
  have hw := wl_feed (insideL cs) (n, []) (.inr rfl)
  have h1 : (Jsc.feedJ (n, []) (insideL cs)).1 = n := by
    rcases hn with rfl | rfl
    · exact Jsc.two_inside cs []
    · exact Jsc.three_inside cs []
  generalize Jsc.feedJ (n, []) (insideL cs) = x at hw h1 ⊢
  obtain ⟨p, u⟩ := x
  have h1 : p = n := h1
  subst h1
  rcases hw with q | q
  · have q : p = 1 := q
    omega
  · have q : u = [] := q
    rw [q]
/-- A script's value or string, in its element or in a value: the kind of the action, and what is told. -/
def toldX (s : ByteArray) (k : Nat) : List UInt8 :=
  if k = 7 then 32 :: (quoteL s ++ [32]) else if k = 8 then insideL (chars s.data.toList) else if k = 9 then escL (32 :: (quoteL s ++ [32])) else escL (insideL (chars s.data.toList))
theorem hole_big {s u : Sc} {k : Nat} (h : holeS s = .ok (u, k)) (h1 : 7 ≤ k) (h2 : k ≤ 10) :
    s.p = [] ∧ s.r = [] ∧ langN s = 2 ∧ (((s.n = 0 ∨ s.n = 1) ∧ u = { s with n := 1, w := [] } ∧ k = if s.k = 9 then 9 else 7) ∨ ((s.n = 2 ∨ s.n = 3) ∧ u = { s with w := [] } ∧ k = if s.k = 9 then 10 else 8)) := by
  unfold holeS at h
  split at h
  · cases h
  · split at h
    · cases h
    · rename_i hpr
      have hp : s.p = [] := Classical.byContradiction fun q => hpr (.inl q)
      have hr : s.r = [] := Classical.byContradiction fun q => hpr (.inr q)
      split at h
      · injection h with h; injection h with _ h; omega
      · split at h
        · injection h with h; injection h with _ h; omega
        · split at h
          · injection h with h; injection h with _ h; omega
          · split at h
            · unfold langHole at h
              split at h
              · repeat' split at h
                all_goals first | (cases h; done) | (injection h with h; injection h with _ h; omega)
              · split at h
                · rename_i hl
                  split at h
                  · rename_i hn
                    injection h with h; injection h with e1 e2
                    exact ⟨hp, hr, hl, .inl ⟨hn, e1.symm, e2.symm⟩⟩
                  · split at h
                    · rename_i hn
                      injection h with h; injection h with e1 e2
                      exact ⟨hp, hr, hl, .inr ⟨hn, e1.symm, e2.symm⟩⟩
                    · cases h
                · split at h
                  · split at h
                    · injection h with h; injection h with _ h
                      split at h <;> omega
                    · cases h
                  · cases h
            · cases h
theorem lang_two {s : Sc} (h : langN s = 2) : s.k = 19 ∨ s.k = 9 ∨ s.k = 10 := by
  unfold langN at h
  split at h
  · omega
  · split at h
    · rename_i q; exact .inl q
    · split at h
      · rename_i q; exact .inr q
      · omega
theorem scan_strings {a : List UInt8} {t u : Sc} {k : Nat} (h : runS sc0 a = .ok t) (hh : holeS t = .ok (u, k)) (h1 : 7 ≤ k) (h2 : k ≤ 10) (s : ByteArray) : runS t (toldX s k) = .ok u := by
  have hm := start_may h
  have hws := start_ws h
  obtain ⟨hp, hr, hl, hc⟩ := hole_big hh h1 h2
  have hk9 : t.k = 19 ∨ t.k = 9 := by
    rcases lang_two hl with q | q | q
    · exact .inl q
    · exact .inr q
    · exfalso
      unfold holeS at hh
      rw [may_check hm, if_neg (by simp), if_neg (by rintro (g | g); exact g hp; exact g hr), if_neg (by omega), if_neg (by omega), if_neg (by omega), if_neg (by omega)] at hh
      cases hh
  have hq60 : ∀ c ∈ (32 :: (quoteL s ++ [32])), c ≠ 60 := by
    intro c hc
    unfold quoteL at hc
    simp only [List.mem_cons, List.mem_append, List.not_mem_nil, or_false] at hc
    rcases hc with rfl | ((rfl | q) | rfl) | rfl
    · decide
    · decide
    · exact (inside_calm _ c q).1
    · decide
    · decide
  rcases hc with ⟨hn, rfl, e⟩ | ⟨hn, rfl, e⟩
  · have hf := quote_around s t.n hn t.w
    rcases hk9 with q | q
    · rw [if_neg (by omega)] at e
      subst e
      have hx : toldX s 7 = 32 :: (quoteL s ++ [32]) := rfl
      rw [hx, run_script _ q hp hq60 (by rw [hf]; show (1 : Int) ≠ 15; decide), hf]
    · rw [if_pos q] at e
      subst e
      have hd : t.d = 34 ∨ t.d = 39 := by
        rcases hm.d with ⟨_, g⟩ | ⟨g, _⟩
        · exact g
        · exact absurd q g
      have hdn : ∀ c : UInt8, c ≠ 34 → c ≠ 39 → c ≠ t.d := fun c g1 g2 => by rcases hd with e | e <;> rw [e]; exact g1; exact g2
      have hin := inside_calm (chars s.data.toList)
      have hx : toldX s 9 = [32] ++ ([38, 35, 51, 52, 59] ++ (insideL (chars s.data.toList) ++ ([38, 35, 51, 52, 59] ++ [32]))) := by
        show escL (32 :: (quoteL s ++ [32])) = _
        unfold quoteL
        have e1 : escL (32 :: ([34] ++ insideL (chars s.data.toList) ++ [34] ++ [32])) = escO 32 ++ (escO 34 ++ (escL (insideL (chars s.data.toList)) ++ (escO 34 ++ escO 32))) := by
          unfold escL
          simp
        rw [e1, esc_same _ hin]
        rfl
      obtain ⟨q1, hq1, e1⟩ := blank_code t.n hn t.w
      rw [hx]
      have s1 : runS t [32] = .ok { t with n := q1, w := [] } := by
        have := run_value_script [32] q hl hr (fun c g => by rw [List.mem_singleton] at g; subst g; exact ⟨hdn 32 (by decide) (by decide), by decide⟩) (by rw [Jsc.feed_cons, e1, Jsc.feed_nil]; show q1 ≠ 15; omega)
        rw [this, Jsc.feed_cons, e1, Jsc.feed_nil]
      have e2 : Jsc.stepJ (q1, []) 34 = (2, []) := by rcases hq1 with rfl | rfl <;> rfl
      have s2 := run_quot (s := { t with n := q1, w := [] }) q (by rw [← hl]; exact lang_keeps ⟨rfl, rfl, rfl⟩) hr hd (by show (Jsc.stepJ (q1, []) 34).1 ≠ 15; rw [e2]; show (2 : Int) ≠ 15; decide)
      have hi := inside_two (chars s.data.toList) 2 (.inl rfl)
      have s3 := run_value_script (insideL (chars s.data.toList)) (s := { t with n := 2, w := [] }) q (by rw [← hl]; exact lang_keeps ⟨rfl, rfl, rfl⟩) hr (fun c g => ⟨hdn c (hin c g).2.2.1 (hin c g).2.2.2.1, (hin c g).2.2.2.2.1⟩) (by show (Jsc.feedJ (2, []) _).1 ≠ 15; rw [hi]; show (2 : Int) ≠ 15; decide)
      have e4 : Jsc.stepJ (2, []) 34 = (1, []) := rfl
      have s4 := run_quot (s := { t with n := 2, w := [] }) q (by rw [← hl]; exact lang_keeps ⟨rfl, rfl, rfl⟩) hr hd (by show (Jsc.stepJ (2, []) 34).1 ≠ 15; rw [e4]; show (1 : Int) ≠ 15; decide)
      have e5 : Jsc.feedJ (1, []) [32] = (1, []) := by decide +kernel
      have s5 := run_value_script [32] (s := { t with n := 1, w := [] }) q (by rw [← hl]; exact lang_keeps ⟨rfl, rfl, rfl⟩) hr (fun c g => by rw [List.mem_singleton] at g; subst g; exact ⟨hdn 32 (by decide) (by decide), by decide⟩) (by show (Jsc.feedJ (1, []) [32]).1 ≠ 15; rw [e5]; show (1 : Int) ≠ 15; decide)
      have t2 : runS { t with n := q1, w := [] } [38, 35, 51, 52, 59] = .ok { t with n := 2, w := [] } := by
        rw [s2]
        show Except.ok ({ t with n := (Jsc.stepJ (q1, []) 34).1, w := (Jsc.stepJ (q1, []) 34).2 } : Sc) = _
        rw [e2]
      have t3 : runS { t with n := 2, w := [] } (insideL (chars s.data.toList)) = .ok { t with n := 2, w := [] } := by
        rw [s3]
        show Except.ok ({ t with n := (Jsc.feedJ (2, []) (insideL (chars s.data.toList))).1, w := (Jsc.feedJ (2, []) (insideL (chars s.data.toList))).2 } : Sc) = _
        rw [hi]
      have t4 : runS { t with n := 2, w := [] } [38, 35, 51, 52, 59] = .ok { t with n := 1, w := [] } := s4
      have t5 : runS { t with n := 1, w := [] } [32] = .ok { t with n := 1, w := [] } := by
        rw [s5]
        show Except.ok ({ t with n := (Jsc.feedJ (1, []) [32]).1, w := (Jsc.feedJ (1, []) [32]).2 } : Sc) = _
        rw [e5]
      rw [run_then s1, run_then t2, run_then t3, run_then t4, t5]
  · have hw : t.w = [] := by
      rcases hws hl with g | g
      · have g : t.n = 1 := g
        omega
      · exact g
    have hf := inside_two (chars s.data.toList) t.n hn
    have hin := inside_calm (chars s.data.toList)
    have hu : ({ t with w := [] } : Sc) = { t with n := t.n, w := [] } := rfl
    rcases hk9 with q | q
    · rw [if_neg (by omega)] at e
      subst e
      have hx : toldX s 8 = insideL (chars s.data.toList) := rfl
      rw [hx, run_script _ q hp (fun c g => (hin c g).1) (by rw [hw, hf]; show t.n ≠ 15; omega), hw, hf]
    · rw [if_pos q] at e
      subst e
      have hd : t.d = 34 ∨ t.d = 39 := by
        rcases hm.d with ⟨_, g⟩ | ⟨g, _⟩
        · exact g
        · exact absurd q g
      have hx : toldX s 10 = insideL (chars s.data.toList) := by
        show escL (insideL (chars s.data.toList)) = _
        exact esc_same _ hin
      rw [hx, run_value_script _ q hl hr (fun c g => ⟨by rcases hd with e | e <;> rw [e]; exact (hin c g).2.2.1; exact (hin c g).2.2.2.1, (hin c g).2.2.2.2.1⟩) (by rw [hw, hf]; show t.n ≠ 15; omega), hw, hf]
end Go.Proofs.YtklpbkjplecdpaaGreat.Scn

/-
  Contracts of the page's answers on what an octet is: a letter, a digit; they change nothing.
-/
namespace Go.Proofs.YtklpbkjplecdpaaGreat.Oct
open Go.RowKit

theorem rletter_c (n : Int) (w : World) (h0 : 0 ≤ n) (h1 : n ≤ 255) :
    Calls Tryz.prog 57 #[.int .u8 n] w fun e w' => e = .returned (.bool (letterI n)) ∧ w = w' := by
  go_enter Tryz.func57, Tryz.ntmps57
  go_wp2
  all_goals go_ret
  all_goals (refine ⟨ret_bool ?_, rfl⟩; rw [Bool.eq_iff_iff]; simp [letterI]; try omega)

theorem rdigit_c (n : Int) (w : World) (h0 : 0 ≤ n) (h1 : n ≤ 255) :
    Calls Tryz.prog 67 #[.int .u8 n] w fun e w' => e = .returned (.bool (digitI n)) ∧ w = w' := by
  go_enter Tryz.func67, Tryz.ntmps67
  go_wp2
  all_goals go_ret
  all_goals (refine ⟨ret_bool ?_, rfl⟩; rw [Bool.eq_iff_iff]; simp [digitI]; try omega)
end Go.Proofs.YtklpbkjplecdpaaGreat.Oct

/-
  Contracts of the leaves of package octets and of the page's answers on octets: each is called at any octet and changes nothing.
-/
namespace Go.Proofs.YtklpbkjplecdpaaGreat.Oct
open Go.RowKit

theorem blank_c (n : Int) (w : World) :
    Calls Tryz.prog 79 #[.int .u8 n] w fun e w' => e = .returned (.bool (blankI n)) ∧ w = w' := by
  go_enter Tryz.func79, Tryz.ntmps79
  go_wp2
  all_goals go_ret
  all_goals (refine ⟨ret_bool ?_, rfl⟩; rw [Bool.eq_iff_iff]; simp [blankI]; try (first | omega | (simp only [beq_iff_eq, beq_eq_false_iff_ne] at *; omega)))

theorem rblank_c (n : Int) (w : World) (h0 : 0 ≤ n) (h1 : n ≤ 255) :
    Calls Tryz.prog 53 #[.int .u8 n] w fun e w' => e = .returned (.bool (blankI n)) ∧ w = w' := by
  go_enter Tryz.func53, Tryz.ntmps53
  go_wp2
  all_goals go_ret
  all_goals (refine ⟨ret_bool ?_, rfl⟩; rw [Bool.eq_iff_iff]; simp [blankI]; try omega)

theorem within_c (n a b : Int) (w : World) :
    Calls Tryz.prog 103 #[.int .u8 n, .int .u8 a, .int .u8 b] w fun e w' => e = .returned (.bool (decide (a ≤ n ∧ n ≤ b))) ∧ w = w' := by
  go_enter Tryz.func103, Tryz.ntmps103
  go_wp2
  all_goals go_ret
  all_goals (refine ⟨ret_bool ?_, rfl⟩; simp; try omega)

theorem letter_c (n : Int) (w : World) (h0 : 0 ≤ n) (h1 : n ≤ 255) :
    Calls Tryz.prog 73 #[.int .u8 n] w fun e w' => e = .returned (.bool (letterI n)) ∧ w = w' := by
  go_enter Tryz.func73, Tryz.ntmps73
  go_wp2
  all_goals go_ret
  all_goals (refine ⟨ret_bool ?_, rfl⟩; rw [Bool.eq_iff_iff]; simp [letterI]; try omega)

theorem small_c (n : Int) (w : World) (h0 : 0 ≤ n) (h1 : n ≤ 255) :
    Calls Tryz.prog 108 #[.int .u8 n] w fun e w' => e = .returned (.int .u8 (lowI n)) ∧ w = w' := by
  go_enter Tryz.func108, Tryz.ntmps108
  go_wp2
  all_goals go_ret
  all_goals (refine ⟨ret_int ?_, rfl⟩; unfold lowI; split <;> omega)

theorem rhexdigit_c (n : Int) (w : World) (h0 : 0 ≤ n) (h1 : n ≤ 255) :
    Calls Tryz.prog 141 #[.int .u8 n] w fun e w' => e = .returned (.int .i64 (hexI n)) ∧ w = w' := by
  go_enter Tryz.func141, Tryz.ntmps141
  go_wp2
  all_goals go_ret
  all_goals (refine ⟨ret_int ?_, rfl⟩; unfold hexI; repeat' split)
  all_goals omega

end Go.Proofs.YtklpbkjplecdpaaGreat.Oct
