/-
  Part 4: ScnSim2, ScnSim3.
-/
import Derived.Test.YtklpbkjplecdpaaGreatSxBaseP3
/-
  Where in HTML a text stands, held against the reader of HTML: the states, one by one, but for raw text.
-/
namespace Go.Proofs.YtklpbkjplecdpaaGreat.Scn
open Oct Crf Tab Tok

theorem data_sim {s s' : Sc} {c : UInt8} {r : Rd} (hk : s.k = 0) (hst : r.st = 0) (hb : Base r) (h : dataS s c = .ok s') : Next s' [] c r := by
  unfold dataS at h
  by_cases h60 : c = 60
  · rw [if_pos h60] at h
    injection h with h
    subst h; subst h60
    exact ⟨[60], r, fun _ => rfl, .opn rfl hst hb⟩
  · rw [if_neg h60] at h
    have hke := char_keeps h
    refine ⟨[], addT c r, fun x => go1 ?_, .data (hke.1.trans hk) hst hb⟩
    rw [in_data r hst]
    unfold dataR
    rw [opens_no c x h60]
    rfl
theorem open_sim {s' : Sc} {c : UInt8} {r : Rd} (hst : r.st = 0) (hb : Base r) (h : openS c = .ok s') : Next s' [60] c r := by
  unfold openS at h
  by_cases hl : letB c = true
  · rw [if_pos hl] at h
    injection h with h
    subst h
    obtain ⟨l47, l33, l63, l62, l60, lbl⟩ := let_not c hl
    refine ⟨[], { goR 1 (textR true r) with st := 3, tg := { noTk with k := 1, n := [low c] } }, fun x => ?_, .name (.inl ⟨rfl, rfl, rfl⟩) rfl hb.2⟩
    show runR (60 :: c :: x) r = runR x _
    refine (go1 (r' := goR 1 (textR true r)) ?_).trans ((go0 (r' := { goR 1 (textR true r) with st := 3, tg := { noTk with k := 1 } }) ?_).trans (go1 ?_))
    · rw [in_data r hst]; unfold dataR; rw [if_pos (by rw [opens_60, hl]; rfl)]
    · rw [in_open _ rfl]; unfold openR; rw [if_neg l47, if_neg l33, if_neg l63]
    · rw [in_name _ rfl]; unfold tnameR; rw [lbl, if_neg (by simp), if_neg l47, if_neg l62]; rfl
  · rw [if_neg hl] at h
    have hl0 : letB c = false := by simpa using hl
    by_cases h47 : c = 47
    · rw [if_pos h47] at h
      injection h with h
      subst h; subst h47
      exact ⟨[60, 47], r, fun _ => rfl, .endOpn rfl hst hb⟩
    · rw [if_neg h47] at h
      by_cases h33 : c = 33
      · rw [if_pos h33] at h
        injection h with h
        subst h; subst h33
        refine ⟨[], goR 12 (goR 1 (textR true r)), fun x => ?_, .bang rfl rfl hb⟩
        show runR (60 :: 33 :: x) r = runR x _
        refine (go1 (r' := goR 1 (textR true r)) ?_).trans (go1 ?_)
        · rw [in_data r hst]; unfold dataR; rw [if_pos (by rw [opens_60]; rfl)]
        · rw [in_open _ rfl]; rfl
      · rw [if_neg h33] at h
        by_cases h63 : c = 63
        · rw [if_pos h63] at h
          injection h with h
          subst h; subst h63
          refine ⟨[], goR 13 (goR 1 (textR true r)), fun x => ?_, .bogus rfl rfl hb⟩
          show runR (60 :: 63 :: x) r = runR x _
          refine (go1 (r' := goR 1 (textR true r)) ?_).trans (go1 ?_)
          · rw [in_data r hst]; unfold dataR; rw [if_pos (by rw [opens_60]; rfl)]
          · rw [in_open _ rfl]; rfl
        · rw [if_neg h63] at h
          have hno : ∀ x, opens 60 (c :: x) = false := fun x => by
            rw [opens_60, hl0]; simp [h33, h63, h47]
          have h1 : ∀ x, runR (60 :: c :: x) r = runR (c :: x) (addT 60 r) := fun x => go1 (by rw [in_data r hst]; unfold dataR; rw [hno x]; rfl)
          obtain ⟨u', r', h2, h3⟩ := data_sim (s := sc0) (r := addT 60 r) rfl hst hb h
          exact ⟨u', r', fun x => (h1 x).trans (h2 x), h3⟩
theorem endOpen_sim {s' : Sc} {c : UInt8} {r : Rd} (hst : r.st = 0) (hb : Base r) (h : endOpenS c = .ok s') : Next s' [60, 47] c r := by
  have h1 : ∀ x, runR (60 :: 47 :: c :: x) r = runR (c :: x) (goR 2 (goR 1 (textR true r))) := fun x => by
    refine (go1 (r' := goR 1 (textR true r)) ?_).trans (go1 ?_)
    · rw [in_data r hst]; unfold dataR; rw [if_pos (by rw [opens_60]; rfl)]
    · rw [in_open _ rfl]; rfl
  unfold endOpenS at h
  by_cases hl : letB c = true
  · rw [if_pos hl] at h
    injection h with h
    subst h
    obtain ⟨l47, l33, l63, l62, l60, lbl⟩ := let_not c hl
    refine ⟨[], { goR 2 (goR 1 (textR true r)) with st := 3, tg := { noTk with k := 2, n := [low c] } }, fun x => (h1 x).trans ?_, .name (.inr ⟨rfl, rfl, rfl⟩) rfl hb.2⟩
    refine (go0 (r' := { goR 2 (goR 1 (textR true r)) with st := 3, tg := { noTk with k := 2 } }) ?_).trans (go1 ?_)
    · rw [in_endOpen _ rfl]; unfold endOpenR; rw [if_pos hl]
    · rw [in_name _ rfl]; unfold tnameR; rw [lbl, if_neg (by simp), if_neg l47, if_neg l62]; rfl
  · rw [if_neg hl] at h
    by_cases h62 : c = 62
    · rw [if_pos h62] at h
      injection h with h
      subst h
      refine ⟨[], goR 0 (goR 2 (goR 1 (textR true r))), fun x => (h1 x).trans (go1 ?_), .data rfl rfl hb⟩
      rw [in_endOpen _ rfl]; unfold endOpenR; rw [if_neg hl, if_pos h62]
    · rw [if_neg h62] at h
      injection h with h
      subst h
      refine ⟨[], goR 13 (goR 2 (goR 1 (textR true r))), fun x => (h1 x).trans ((go0 (r' := goR 13 (goR 2 (goR 1 (textR true r)))) ?_).trans (go1 ?_)), .bogus rfl rfl hb⟩
      · rw [in_endOpen _ rfl]; unfold endOpenR; rw [if_neg hl, if_neg h62]
      · rw [in_bogus _ rfl]; unfold bogusR; rw [if_neg h62]
theorem name_sim {s s' : Sc} {c : UInt8} {r : Rd} (hk : (s.k = 3 ∧ r.tg.k = 1 ∧ r.tg.n = s.e) ∨ (s.k = 4 ∧ r.tg.k = 2 ∧ s.e = 47 :: r.tg.n)) (hst : r.st = 3) (ha : r.av = noAt) (h : nameS s c = .ok s') : Next s' [] c r := by
  have ht : TagE r s.e := by
    rcases hk with ⟨_, h1, h2⟩ | ⟨_, h1, h2⟩
    · exact .inl ⟨h1, h2⟩
    · exact .inr ⟨h1, h2⟩
  unfold nameS at h
  by_cases hc : blB c = true ∨ c = 47 ∨ c = 62
  · rw [if_pos hc] at h
    exact within_at h (goR 4 r) rfl ht ha (name_as r hst c hc)
  · rw [if_neg hc] at h
    split at h
    · cases h
    · injection h with h
      subst h
      refine ⟨[], { r with tg := { r.tg with n := r.tg.n ++ [low c] } }, fun x => go1 ?_, .name ?_ hst ha⟩
      · rw [in_name r hst]; unfold tnameR
        rw [if_neg (fun q => hc (.inl q)), if_neg (fun q => hc (.inr (.inl q))), if_neg (fun q => hc (.inr (.inr q)))]
        rfl
      · rcases hk with ⟨h0, h1, h2⟩ | ⟨h0, h1, h2⟩
        · exact .inl ⟨h0, h1, by show r.tg.n ++ [low c] = s.e ++ [low c]; rw [h2]⟩
        · exact .inr ⟨h0, h1, by show s.e ++ [low c] = 47 :: (r.tg.n ++ [low c]); rw [h2]; rfl⟩
theorem tag_sim {s s' : Sc} {c : UInt8} {r : Rd} (hk : (s.k = 5 ∧ r.st = 4) ∨ (s.k = 11 ∧ r.st = 10) ∨ (s.k = 12 ∧ r.st = 11)) (ht : TagE r s.e) (ha : r.av = noAt) (h : withinS s.e c = .ok s') : Next s' [] c r := by
  rcases hk with ⟨_, hst⟩ | ⟨_, hst⟩ | ⟨_, hst⟩
  · exact within_at h r hst ht ha (fun _ => rfl)
  · exact within_at h (goR 4 r) rfl ht ha (fun x => go0 (in_behind r hst c x))
  · by_cases h62 : c = 62
    · subst h62
      have h2 : endS s.e = .ok s' := h
      have ht2 : TagE { r with tg := { r.tg with c := true } } s.e := ht
      refine ⟨[], endR { r with tg := { r.tg with c := true } }, fun x => go1 ?_, end_sim h2 ht2 ha⟩
      rw [in_slash r hst]; rfl
    · refine within_at h (goR 4 r) rfl ht ha (fun x => go0 ?_)
      rw [in_slash r hst]; unfold slashR; rw [if_neg h62]; rfl
theorem attr_sim {s s' : Sc} {c : UInt8} {r : Rd} (hk : (s.k = 6 ∧ r.st = 5) ∨ (s.k = 7 ∧ r.st = 6)) (ht : TagE r s.e) (h : attrS s c = .ok s') : Next s' [] c r := by
  have hst : r.st = 5 ∨ r.st = 6 := by
    rcases hk with ⟨_, h⟩ | ⟨_, h⟩
    · exact .inl h
    · exact .inr h
  unfold attrS at h
  by_cases hb : blB c = true
  · rw [if_pos hb] at h
    injection h with h
    subst h
    refine ⟨[], goR 6 r, fun x => go1 ?_, .attr (.inr (.inl ⟨rfl, rfl⟩)) ht⟩
    rw [in_attr r hst]; unfold attrR; rw [if_pos hb]; rfl
  · rw [if_neg hb] at h
    have hb0 : blB c = false := by simpa using hb
    by_cases h61 : c = 61
    · rw [if_pos h61] at h
      injection h with h
      subst h
      refine ⟨[], goR 7 r, fun x => go1 ?_, .attr (.inr (.inr (.inl ⟨rfl, rfl⟩))) ht⟩
      rw [in_attr r hst]; unfold attrR; rw [if_neg hb, if_pos h61]; rfl
    · rw [if_neg h61] at h
      by_cases hw : c = 47 ∨ c = 62 ∨ s.k = 7
      · rw [if_pos hw] at h
        refine within_at h (goR 4 (putR r)) rfl ht rfl (attr_as r hst c hb0 h61 ?_)
        rcases hw with q | q | q
        · exact .inl q
        · exact .inr (.inl q)
        · refine .inr (.inr ?_)
          rcases hk with ⟨g, _⟩ | ⟨_, g⟩
          · omega
          · exact g
      · rw [if_neg hw] at h
        split at h
        · cases h
        · injection h with h
          subst h
          have h5 : s.k = 6 ∧ r.st = 5 := by
            rcases hk with g | ⟨g, _⟩
            · exact g
            · exact absurd (.inr (.inr g)) hw
          refine ⟨[], { r with av := { r.av with n := r.av.n ++ [low c] } }, fun x => go1 ?_, .attr (.inl ⟨h5.1, h5.2⟩) ht⟩
          rw [in_attr r hst]; unfold attrR
          rw [if_neg hb, if_neg h61, if_neg (fun q => hw (.inl q)), if_neg (fun q => hw (.inr (.inl q))), if_neg (by omega)]
          rfl
theorem want_sim {s s' : Sc} {c : UInt8} {r : Rd} (hst : r.st = 7) (hk : s.k = 8) (ht : TagE r s.e) (h : wantS s c = .ok s') : Next s' [] c r := by
  unfold wantS at h
  by_cases hb : blB c = true
  · rw [if_pos hb] at h
    injection h with h
    subst h
    refine ⟨[], r, fun x => go1 ?_, .attr (.inr (.inr (.inl ⟨hk, hst⟩))) ht⟩
    rw [in_want r hst]; unfold wantR; rw [if_pos hb]; rfl
  · rw [if_neg hb] at h
    by_cases hq : c = 34 ∨ c = 39
    · rw [if_pos hq] at h
      injection h with h
      subst h
      refine ⟨[], { r with st := 8, q := c }, fun x => go1 ?_, .value rfl rfl rfl ht⟩
      rw [in_want r hst]; unfold wantR; rw [if_neg hb, if_pos hq]; rfl
    · rw [if_neg hq] at h
      by_cases h62 : c = 62
      · rw [if_pos h62] at h
        refine ⟨[], endR (putR r), fun x => go1 ?_, end_sim h ht rfl⟩
        rw [in_want r hst]; unfold wantR; rw [if_neg hb, if_neg hq, if_pos h62]; rfl
      · rw [if_neg h62] at h
        have hke := char_keeps h
        have hse : s'.e = s.e := hke.2.1
        refine ⟨[], addV c (goR 9 r), fun x => (go0 (r' := goR 9 r) ?_).trans (go1 ?_), .attr (.inr (.inr (.inr ⟨hke.1, rfl⟩))) (by rw [hse]; exact ht)⟩
        · rw [in_want r hst]; unfold wantR; rw [if_neg hb, if_neg hq, if_neg h62]; rfl
        · rw [in_bare _ rfl]; unfold bareR; rw [if_neg (by rintro (q | q); exact hb q; exact h62 q)]; rfl
theorem value_sim {s s' : Sc} {c : UInt8} {r : Rd} (hk : s.k = 9) (hst : r.st = 8) (hq : r.q = s.d) (ht : TagE r s.e) (h : valueS s c = .ok s') : Next s' [] c r := by
  unfold valueS at h
  by_cases hc : c = s.d
  · rw [if_pos hc] at h
    obtain ⟨t, h1, h2⟩ := andThen_ok h
    have hke := flush_keeps h1
    injection h2 with h2
    subst h2
    refine ⟨[], goR 10 (putR r), fun x => go1 ?_, .within (.inr (.inl ⟨rfl, rfl⟩)) (by show TagE _ t.e; rw [hke.2.1]; exact ht) rfl⟩
    rw [in_value r hst]; unfold valueR; rw [if_pos (by rw [hq]; exact hc)]; rfl
  · rw [if_neg hc] at h
    have hke := char_keeps h
    refine ⟨[], addV c r, fun x => go1 ?_, .value (hke.1.trans hk) hst (by rw [hke.2.2.2.1]; exact hq) (by rw [hke.2.1]; exact ht)⟩
    rw [in_value r hst]; unfold valueR; rw [if_neg (by rw [hq]; exact hc)]; rfl
theorem bare_sim {s s' : Sc} {c : UInt8} {r : Rd} (hk : s.k = 10) (hst : r.st = 9) (ht : TagE r s.e) (h : bareS s c = .ok s') : Next s' [] c r := by
  unfold bareS at h
  by_cases hc : blB c = true ∨ c = 62
  · rw [if_pos hc] at h
    obtain ⟨t, h1, h2⟩ := andThen_ok h
    have hke := flush_keeps h1
    refine within_at h2 (goR 4 (putR r)) rfl (by rw [hke.2.1]; exact ht) rfl (fun x => go0 ?_)
    rw [in_bare r hst]; unfold bareR; rw [if_pos hc]; rfl
  · rw [if_neg hc] at h
    have hke := char_keeps h
    refine ⟨[], addV c r, fun x => go1 ?_, .attr (.inr (.inr (.inr ⟨hke.1.trans hk, hst⟩))) (by rw [hke.2.1]; exact ht)⟩
    rw [in_bare r hst]; unfold bareR; rw [if_neg hc]; rfl
theorem pre2 (c : UInt8) (x : List UInt8) (h : c ≠ 45) : [45, 45].isPrefixOf (c :: x) = false := by
  have e : ((45 : UInt8) == c) = false := by rw [beq_eq_false_iff_ne]; exact fun q => h q.symm
  simp [List.isPrefixOf, e]
theorem bang_sim {s s' : Sc} {c : UInt8} {r : Rd} (hk : s.k = 13) (hst : r.st = 12) (hb : Base r) (h : bangS s.k c = .ok s') : Next s' [] c r := by
  rw [hk] at h
  unfold bangS at h
  by_cases h45 : c = 45
  · rw [if_pos h45, if_pos rfl] at h
    injection h with h
    subst h; subst h45
    exact ⟨[45], r, fun _ => rfl, .dash rfl hst hb⟩
  · rw [if_neg h45] at h
    have h1 : ∀ x, runR (c :: x) r = runR (c :: x) (goR 13 r) := fun x => go0 (by rw [in_bang r hst]; unfold bangR; rw [pre2 c x h45]; rfl)
    by_cases h62 : c = 62
    · rw [if_pos h62] at h
      injection h with h
      subst h
      refine ⟨[], goR 0 (goR 13 r), fun x => (h1 x).trans (go1 ?_), .data rfl rfl hb⟩
      rw [in_bogus _ rfl]; unfold bogusR; rw [if_pos h62]
    · rw [if_neg h62] at h
      injection h with h
      subst h
      refine ⟨[], goR 13 r, fun x => (h1 x).trans (go1 ?_), .bogus rfl rfl hb⟩
      rw [in_bogus _ rfl]; unfold bogusR; rw [if_neg h62]
theorem pre2b (c : UInt8) (x : List UInt8) (h : c ≠ 45) : [45, 45].isPrefixOf (45 :: c :: x) = false := by
  have e : ((45 : UInt8) == c) = false := by rw [beq_eq_false_iff_ne]; exact fun q => h q.symm
  simp [List.isPrefixOf, e]
theorem dash_sim {s s' : Sc} {c : UInt8} {r : Rd} (hk : s.k = 14) (hst : r.st = 12) (hb : Base r) (h : bangS s.k c = .ok s') : Next s' [45] c r := by
  rw [hk] at h
  unfold bangS at h
  by_cases h45 : c = 45
  · rw [if_pos h45, if_neg (by decide)] at h
    injection h with h
    subst h; subst h45
    refine ⟨[], goR 14 r, fun x => ?_, .comment (s := scK 16 []) rfl (.inl rfl) rfl hb⟩
    have e : stepR 45 (45 :: x) r = (goR 14 r, 2) := by
      rw [in_bang r hst]; unfold bangR
      rw [if_pos (by simp [List.isPrefixOf])]
    show runR (45 :: 45 :: x) r = _
    rw [run_cons, e]; rfl
  · rw [if_neg h45] at h
    have h1 : ∀ x, runR (45 :: c :: x) r = runR (c :: x) (goR 13 r) := fun x => by
      refine (go0 (r' := goR 13 r) ?_).trans (go1 ?_)
      · rw [in_bang r hst]; unfold bangR; rw [pre2b c x h45]; rfl
      · rw [in_bogus _ rfl]; rfl
    by_cases h62 : c = 62
    · rw [if_pos h62] at h
      injection h with h
      subst h
      refine ⟨[], goR 0 (goR 13 r), fun x => (h1 x).trans (go1 ?_), .data rfl rfl hb⟩
      rw [in_bogus _ rfl]; unfold bogusR; rw [if_pos h62]
    · rw [if_neg h62] at h
      injection h with h
      subst h
      refine ⟨[], goR 13 r, fun x => (h1 x).trans (go1 ?_), .bogus rfl rfl hb⟩
      rw [in_bogus _ rfl]; unfold bogusR; rw [if_neg h62]
theorem bogus_sim {s s' : Sc} {c : UInt8} {r : Rd} (hk : s.k = 15) (hst : r.st = 13) (hb : Base r) (h : bogusS s c = .ok s') : Next s' [] c r := by
  unfold bogusS at h
  by_cases h62 : c = 62
  · rw [if_pos h62] at h
    injection h with h
    subst h
    refine ⟨[], goR 0 r, fun x => go1 ?_, .data rfl rfl hb⟩
    rw [in_bogus _ hst]; unfold bogusR; rw [if_pos h62]
  · rw [if_neg h62] at h
    injection h with h
    subst h
    refine ⟨[], r, fun x => go1 ?_, .bogus hk hst hb⟩
    rw [in_bogus _ hst]; unfold bogusR; rw [if_neg h62]
theorem rem_add (r : Rd) (hst : r.st = 14) (c : UInt8) (x : List UInt8) (h : [45, 45, 62].isPrefixOf (c :: x) = false) : runR (c :: x) r = runR x (addT c r) := go1 (by
  rw [in_comment r hst]; unfold commentR; rw [h]; rfl)
theorem pre3 (c : UInt8) (x : List UInt8) (h : c ≠ 45) : [45, 45, 62].isPrefixOf (c :: x) = false := by
  have e : ((45 : UInt8) == c) = false := by rw [beq_eq_false_iff_ne]; exact fun q => h q.symm
  simp [List.isPrefixOf, e]
theorem pre3b (c : UInt8) (x : List UInt8) (h : c ≠ 45) : [45, 45, 62].isPrefixOf (45 :: c :: x) = false := by
  have e : ((45 : UInt8) == c) = false := by rw [beq_eq_false_iff_ne]; exact fun q => h q.symm
  simp [List.isPrefixOf, e]
theorem pre3c (c : UInt8) (x : List UInt8) (h : c ≠ 62) : [45, 45, 62].isPrefixOf (45 :: 45 :: c :: x) = false := by
  have e : ((62 : UInt8) == c) = false := by rw [beq_eq_false_iff_ne]; exact fun q => h q.symm
  simp [List.isPrefixOf, e]
theorem comment_sim {s s' : Sc} {c : UInt8} {r : Rd} (hk : s.k = 16) (hp : s.p = [] ∨ s.p = [45] ∨ s.p = [45, 45]) (hst : r.st = 14) (hb : Base r) (h : commentS s c = .ok s') : Next s' s.p c r := by
  unfold commentS at h
  by_cases h1 : c = 45 ∧ s.p ≠ [45, 45]
  · rw [if_pos h1] at h
    injection h with h
    have hp2 : s.p ++ [45] = [] ∨ s.p ++ [45] = [45] ∨ s.p ++ [45] = [45, 45] := by
      rcases hp with q | q | q
      · exact .inr (.inl (by rw [q]; rfl))
      · exact .inr (.inr (by rw [q]; rfl))
      · exact absurd q h1.2
    have hr := Rel.comment (s := { s with p := s.p ++ [45] }) hk hp2 hst hb
    rw [h] at hr
    have e : s'.p = s.p ++ [45] := by rw [← h]
    refine ⟨s'.p, r, fun x => ?_, hr⟩
    rw [e, h1.1]
    simp
  · rw [if_neg h1] at h
    by_cases h2 : c = 62 ∧ s.p = [45, 45]
    · rw [if_pos h2] at h
      injection h with h
      subst h
      refine ⟨[], { r with out := r.out ++ [⟨4, [], r.tx, [], false⟩], tx := [], st := 0 }, fun x => ?_, .data rfl rfl hb⟩
      rw [h2.1, h2.2]
      have e : stepR 45 (45 :: 62 :: x) r = ({ r with out := r.out ++ [⟨4, [], r.tx, [], false⟩], tx := [], st := 0 }, 3) := by
        rw [in_comment r hst]; unfold commentR
        rw [if_pos (by simp [List.isPrefixOf])]
      show runR (45 :: 45 :: 62 :: x) r = _
      rw [run_cons, e]; rfl
    · rw [if_neg h2] at h
      by_cases h45 : c = 45
      · rw [if_neg (by rw [h45]; simp)] at h
        injection h with h
        subst h; subst h45
        have hpp : s.p = [45, 45] := by
          by_cases q : s.p = [45, 45]
          · exact q
          · exact absurd ⟨rfl, q⟩ h1
        have hr := Rel.comment (r := addT 45 r) hk hp hst hb
        refine ⟨s.p, addT 45 r, fun x => ?_, hr⟩
        rw [hpp]
        exact rem_add r hst 45 (45 :: 45 :: x) (pre3c 45 x (by decide))
      · rw [if_pos h45] at h
        injection h with h
        have hr : ∀ r2 : Rd, r2.st = 14 → Base r2 → Rel s' [] r2 := fun r2 q1 q2 => by
          have := Rel.comment (s := { s with p := [] }) (r := r2) hk (.inl rfl) q1 q2
          rw [h] at this
          have e : s'.p = [] := by rw [← h]
          rw [e] at this
          exact this
        rcases hp with q | q | q
        · refine ⟨[], addT c r, fun x => ?_, hr _ hst hb⟩
          rw [q]
          exact rem_add r hst c x (pre3 c x h45)
        · refine ⟨[], addT c (addT 45 r), fun x => ?_, hr _ hst hb⟩
          rw [q]
          exact (rem_add r hst 45 (c :: x) (pre3b c x h45)).trans (rem_add (addT 45 r) hst c x (pre3 c x h45))
        · refine ⟨[], addT c (addT 45 (addT 45 r)), fun x => ?_, hr _ hst hb⟩
          rw [q]
          have h62 : c ≠ 62 := fun g => h2 ⟨g, q⟩
          exact (rem_add r hst 45 (45 :: c :: x) (pre3c c x h62)).trans ((rem_add (addT 45 r) hst 45 (c :: x) (pre3b c x h45)).trans (rem_add (addT 45 (addT 45 r)) hst c x (pre3 c x h45)))
end Go.Proofs.YtklpbkjplecdpaaGreat.Scn

/-
  Where in HTML a text stands, held against the reader of HTML: raw text, and all together.
-/
namespace Go.Proofs.YtklpbkjplecdpaaGreat.Scn
open Oct Crf Tab Tok

theorem place_at {s : List UInt8} : ∀ {l : List (List UInt8)} {i : Nat}, placeL s l = some i → l[i]? = some s := by
  intro l
  induction l with
  | nil => intro i h; cases h
  | cons x t ih =>
    intro i h
    unfold placeL at h
    split at h
    · rename_i e
      injection h with h
      subst h
      rw [e]; rfl
    · obtain ⟨j, hj, rfl⟩ := Option.map_eq_some_iff.1 h
      exact ih hj
theorem raw_names {e : List UInt8} (h1 : 1 ≤ elemN e) (h2 : elemN e ≤ 3) : 5 ≤ e.length ∧ e.map low = e ∧ ∀ x ∈ e, x ≠ 60 := by
  unfold elemN at h1 h2
  cases hp : placeL e elsL with
  | none => rw [hp] at h1; exact absurd h1 (by decide)
  | some i =>
    rw [hp] at h1 h2
    have hi : i < 4 := by
      have h2 : codeN i ≤ 3 := h2
      unfold codeN at h2
      split at h2
      · omega
      · split at h2
        · omega
        · omega
    have ha := place_at hp
    have hall : ∀ k : Fin 4, 5 ≤ (elsL[k.val]?.getD []).length ∧ (elsL[k.val]?.getD []).map low = elsL[k.val]?.getD [] ∧ ∀ x ∈ elsL[k.val]?.getD [], x ≠ 60 := by decide +kernel
    have h3 := hall ⟨i, hi⟩
    rw [ha] at h3
    exact h3
theorem low_60 (c : UInt8) : low c = 60 ↔ c = 60 := by
  have h : ∀ k : Fin 256, low (UInt8.ofNat k.val) = 60 ↔ UInt8.ofNat k.val = 60 := by decide +kernel
  have h2 := h ⟨c.toNat, c.toNat_lt⟩
  simpa using h2
theorem low_47 (c : UInt8) (h : low c = 47) : c = 47 := by
  have h1 : ∀ k : Fin 256, low (UInt8.ofNat k.val) = 47 → UInt8.ofNat k.val = 47 := by decide +kernel
  have h2 := h1 ⟨c.toNat, c.toNat_lt⟩
  simp only [UInt8.ofNat_toNat] at h2
  exact h2 h
theorem hits_other (rw : List UInt8) (c : UInt8) (x : List UInt8) (h : c ≠ 60) : hits rw (c :: x) = false := by
  have e : ((60 : UInt8) == low c) = false := by rw [beq_eq_false_iff_ne]; exact fun q => h ((low_60 c).1 q.symm)
  have e2 : ((60 :: 47 :: rw).map low).isPrefixOf ((c :: x).map low) = false := by
    show ((low 60 == low c) && _) = false
    rw [show low 60 = 60 from rfl, e]
    rfl
  unfold hits
  rw [e2]
  rfl
theorem raw_add (r : Rd) (hst : r.st = 15) (c : UInt8) (x : List UInt8) (h : hits r.rw (c :: x) = false) : runR (c :: x) r = runR x (addT c r) := go1 (by
  rw [in_raw r hst]; unfold rawR; rw [h]; rfl)
theorem rawOne_sim {s s' : Sc} {c : UInt8} {r : Rd} (hk : 17 ≤ s.k) (he : elemN s.e + 16 = s.k) (hk2 : s.k ≤ 19) (hp : s.p = []) (hst : r.st = 15) (hw : r.rw = s.e) (hb : Base r) (h : rawOne s c = .ok s') : Next s' [] c r := by
  unfold rawOne at h
  by_cases h60 : c = 60
  · rw [if_pos h60] at h
    injection h with h
    subst h60
    have hpo : PendOk s' := by
      refine .inr ?_
      rw [← h]
      refine ⟨rfl, ?_, by show ([60] : List UInt8) ≠ [60, 33, 45, 45]; decide⟩
      show ((([60] : List UInt8).map low).isPrefixOf ((60 :: 47 :: s.e).map low) || (s.k == 19 && ([60] : List UInt8).isPrefixOf [60, 33, 45, 45])) = true
      simp [List.isPrefixOf]
    have hr : Rel s' s'.p r := Rel.raw (by rw [← h]; exact hk) (by rw [← h]; exact he) (by rw [← h]; exact hk2) hpo hst (by rw [← h]; exact hw) hb
    have e : s'.p = [60] := by rw [← h]
    rw [e] at hr
    exact ⟨[60], r, fun _ => rfl, hr⟩
  · rw [if_neg h60] at h
    have hke : Keeps s s' := by
      split at h
      · exact char_keeps h
      · exact sub_keeps h
    have e : s'.p = [] := hke.2.2.2.2.trans hp
    have hr : Rel s' s'.p (addT c r) := Rel.raw (by rw [hke.1]; exact hk) (by rw [hke.1, hke.2.1]; exact he) (by rw [hke.1]; exact hk2) (.inl e) hst (by rw [hke.2.1]; exact hw) hb
    rw [e] at hr
    exact ⟨[], addT c r, fun x => raw_add r hst c x (hits_other _ c x h60), hr⟩
theorem pend_len {s : Sc} {t : List UInt8} (h : pendB s t = true) : (t.map low <+: (60 :: 47 :: s.e).map low) ∨ (s.k = 19 ∧ t <+: [60, 33, 45, 45]) := by
  unfold pendB at h
  rcases (Bool.or_eq_true _ _).mp h with h | h
  · exact .inl (List.isPrefixOf_iff_prefix.1 h)
  · have h2 := Bool.and_eq_true_iff.1 h
    exact .inr ⟨by simpa using h2.1, List.isPrefixOf_iff_prefix.1 h2.2⟩
theorem raw_sim {s s' : Sc} {c : UInt8} {r : Rd} (hk : 17 ≤ s.k) (he : elemN s.e + 16 = s.k) (hk2 : s.k ≤ 19) (hp : PendOk s) (hst : r.st = 15) (hw : r.rw = s.e) (hb : Base r) (h : rawS s c = .ok s') : Next s' s.p c r := by
  unfold rawS at h
  by_cases hp0 : s.p = []
  · rw [if_pos hp0] at h
    rw [hp0]
    exact rawOne_sim hk he hk2 hp0 hst hw hb h
  · rw [if_neg hp0] at h
    obtain ⟨hhd, hpb, hne⟩ : s.p.head? = some 60 ∧ pendB s s.p = true ∧ s.p ≠ [60, 33, 45, 45] := by
      rcases hp with q | q
      · exact absurd q hp0
      · exact q
    obtain ⟨hl5, hlow, hno⟩ := raw_names (e := s.e) (by omega) (by omega)
    have hN : (60 :: 47 :: s.e).map low = 60 :: 47 :: s.e := by rw [List.map_cons, List.map_cons, hlow]; rfl
    obtain ⟨q, hq⟩ : ∃ q, s.p = 60 :: q := by
      cases hh : s.p with
      | nil => exact absurd hh hp0
      | cons a t =>
        rw [hh] at hhd
        have : a = 60 := by simpa using hhd
        exact ⟨t, by rw [this]⟩
    have hpl := pend_len hpb
    have hlen : s.p.length ≤ s.e.length + 2 := by
      rcases hpl with g | ⟨_, g⟩
      · have := g.length_le; simpa using this
      · have := g.length_le; simp at this; omega
    have hq60 : ∀ x ∈ q, x ≠ 60 := by
      intro x hx
      rcases hpl with g | ⟨_, g⟩
      · rw [hN, hq, List.map_cons, show low 60 = 60 from rfl, List.cons_prefix_cons] at g
        have hm : low x ∈ 47 :: s.e := g.2.subset (List.mem_map_of_mem hx)
        rintro rfl
        rw [show low 60 = 60 from rfl] at hm
        rcases List.mem_cons.1 hm with e | e
        · exact absurd e (by decide)
        · exact hno 60 e rfl
      · rw [hq, List.cons_prefix_cons] at g
        have hm : x ∈ ([33, 45, 45] : List UInt8) := g.2.subset hx
        rintro rfl
        exact absurd hm (by decide)
    by_cases hpc : pendB s (s.p ++ [c]) = true
    · rw [if_pos hpc] at h
      split at h
      · cases h
      · rename_i hn4
        injection h with h
        have e : s'.p = s.p ++ [c] := by rw [← h]
        have hpo : PendOk s' := by
          refine .inr ?_
          rw [← h]
          refine ⟨?_, hpc, hn4⟩
          show (s.p ++ [c]).head? = some 60
          rw [hq]; rfl
        have hr : Rel s' s'.p r := Rel.raw (by rw [← h]; exact hk) (by rw [← h]; exact he) (by rw [← h]; exact hk2) hpo hst (by rw [← h]; exact hw) hb
        refine ⟨s'.p, r, fun x => ?_, hr⟩
        rw [e]
        simp
    · rw [if_neg hpc] at h
      by_cases hend : s.p.length = s.e.length + 2 ∧ s.p[1]? = some 47 ∧ (blB c = true ∨ c = 47 ∨ c = 62)
      · rw [if_pos hend] at h
        have hpm : s.p.map low = 60 :: 47 :: s.e := by
          rcases hpl with g | ⟨_, g⟩
          · rw [hN] at g
            exact g.eq_of_length (by simp; omega)
          · have := g.length_le
            simp at this
            omega
        have hdrop : ∀ x, (s.p ++ c :: x).drop (2 + s.e.length) = c :: x := fun x => by
          rw [show 2 + s.e.length = s.p.length by omega, List.drop_left]
        have hhit : ∀ x, hits s.e (s.p ++ c :: x) = true := fun x => by
          unfold hits
          rw [hdrop x, hN]
          rw [Bool.and_eq_true]
          refine ⟨List.isPrefixOf_iff_prefix.2 ?_, ?_⟩
          · rw [List.map_append, hpm]
            exact List.prefix_append _ _
          · show (blB c || c == 47 || c == 62) = true
            rcases hend.2.2 with g | g | g
            · rw [g]; rfl
            · rw [g]; simp
            · rw [g]; simp
        have hnm : ∀ x, (((s.p ++ c :: x).drop 2).take s.e.length).map low = s.e := fun x => by
          rw [List.drop_append_of_le_length (by omega), List.take_append_of_le_length (by rw [List.length_drop]; omega), List.take_of_length_le (by rw [List.length_drop]; omega), List.map_drop, hpm]
          rfl
        have hrun : ∀ x, runR (s.p ++ c :: x) r = runR (c :: x) { textR (r.kd == 1) r with st := 3, tg := { noTk with k := 2, n := s.e } } := fun x => by
          have e : stepR 60 (q ++ c :: x) r = ({ textR (r.kd == 1) r with st := 3, tg := { noTk with k := 2, n := s.e } }, 2 + s.e.length) := by
            rw [in_raw r hst]
            unfold rawR
            have e1 : (60 :: (q ++ c :: x)) = s.p ++ c :: x := by rw [hq]; rfl
            rw [e1, hw, hhit x, if_pos rfl, hnm x]
          have e1 : s.p ++ c :: x = 60 :: (q ++ c :: x) := by rw [hq]; rfl
          rw [e1, run_cons, e]
          show runR ((60 :: (q ++ c :: x)).drop (2 + s.e.length)) _ = _
          rw [← e1, hdrop x]
        obtain ⟨u', r', g1, g2⟩ := within_at (r := { textR (r.kd == 1) r with st := 3, tg := { noTk with k := 2, n := s.e } }) h
          (goR 4 { textR (r.kd == 1) r with st := 3, tg := { noTk with k := 2, n := s.e } }) rfl (.inr ⟨rfl, rfl⟩) hb.2 (name_as _ rfl c hend.2.2)
        exact ⟨u', r', fun x => (hrun x).trans (g1 x), g2⟩
      · rw [if_neg hend] at h
        obtain ⟨u, h1, h2⟩ := andThen_ok h
        have hke := sub_keeps h1
        have hnohit : ∀ x, hits s.e (s.p ++ c :: x) = false := fun x => by
          cases hh : hits s.e (s.p ++ c :: x) with
          | false => rfl
          | true =>
            exfalso
            unfold hits at hh
            obtain ⟨g1, g2⟩ := Bool.and_eq_true_iff.1 hh
            have g3 := List.isPrefixOf_iff_prefix.1 g1
            have e2 : (s.p ++ c :: x).map low = (s.p ++ [c]).map low ++ x.map low := by simp
            rcases Nat.lt_or_ge s.p.length (s.e.length + 2) with hlt | hge
            · apply hpc
              unfold pendB
              rw [Bool.or_eq_true]
              refine .inl (List.isPrefixOf_iff_prefix.2 ?_)
              have g4 : (s.p ++ [c]).map low <+: (s.p ++ c :: x).map low := by rw [e2]; exact List.prefix_append _ _
              exact List.prefix_of_prefix_length_le g4 g3 (by simp; omega)
            · have hle : s.p.length = s.e.length + 2 := by omega
              apply hend
              have g5 : s.p.map low = 60 :: 47 :: s.e := by
                have g6 : s.p.map low <+: (s.p ++ c :: x).map low := by rw [List.map_append]; exact List.prefix_append _ _
                have g7 := List.prefix_of_prefix_length_le g6 g3 (by simp; omega)
                rw [hN] at g7
                exact g7.eq_of_length (by simp; omega)
              refine ⟨hle, ?_, ?_⟩
              · rw [hq] at g5 ⊢
                cases q with
                | nil => simp at g5
                | cons y z =>
                  rw [List.map_cons, List.map_cons] at g5
                  injection g5 with _ g5
                  injection g5 with g5 _
                  rw [low_47 y g5]
                  rfl
              · rw [show 2 + s.e.length = s.p.length by omega, List.drop_left] at g2
                have g2 : (blB c || c == 47 || c == 62) = true := g2
                simp only [Bool.or_eq_true, beq_iff_eq] at g2
                rcases g2 with (g | g) | g
                · exact .inl g
                · exact .inr (.inl g)
                · exact .inr (.inr g)
        have hrun : ∀ x, runR (s.p ++ c :: x) r = runR (c :: x) { r with tx := r.tx ++ s.p } := fun x => run_raw s.p (c :: x) r hst (fun i hi => by
          rw [hw]
          cases i with
          | zero => exact hnohit x
          | succ i =>
            rw [hq, List.cons_append, List.drop_succ_cons]
            rw [hq, List.length_cons] at hi
            rw [List.drop_append_of_le_length (by omega), List.drop_eq_getElem_cons (by omega), List.cons_append]
            exact hits_other _ _ _ (hq60 _ (List.getElem_mem (by omega))))
        obtain ⟨u', r', g1, g2⟩ := rawOne_sim (s := u) (r := { r with tx := r.tx ++ s.p }) (by rw [hke.1]; exact hk) (by rw [hke.1, hke.2.1]; exact he) (by rw [hke.1]; exact hk2) hke.2.2.2.2 hst (by rw [hke.2.1]; exact hw) hb h2
        exact ⟨u', r', fun x => (hrun x).trans (g1 x), g2⟩

theorem go_sim {s s' : Sc} {u : List UInt8} {c : UInt8} {r : Rd} (hr : Rel s u r) (h : goS s c = .ok s') : Next s' u c r := by
  unfold goS at h
  cases hr with
  | data hk hst hb =>
    rw [if_pos hk] at h
    exact data_sim hk hst hb h
  | opn hk hst hb =>
    rw [if_neg (by omega), if_pos hk] at h
    exact open_sim hst hb h
  | endOpn hk hst hb =>
    rw [if_neg (by omega), if_neg (by omega), if_pos hk] at h
    exact endOpen_sim hst hb h
  | name hk hst ha =>
    have h3 : s.k = 3 ∨ s.k = 4 := by
      rcases hk with ⟨g, _⟩ | ⟨g, _⟩
      · exact .inl g
      · exact .inr g
    rw [if_neg (by omega), if_neg (by omega), if_neg (by omega), if_pos h3] at h
    exact name_sim hk hst ha h
  | within hk ht ha =>
    rw [if_neg (by omega), if_neg (by omega), if_neg (by omega), if_neg (by omega), if_pos (by omega)] at h
    exact tag_sim hk ht ha h
  | attr hk ht =>
    rcases hk with g | g | g | g
    · rw [if_neg (by omega), if_neg (by omega), if_neg (by omega), if_neg (by omega), if_neg (by omega), if_pos (by omega)] at h
      exact attr_sim (.inl g) ht h
    · rw [if_neg (by omega), if_neg (by omega), if_neg (by omega), if_neg (by omega), if_neg (by omega), if_pos (by omega)] at h
      exact attr_sim (.inr g) ht h
    · rw [if_neg (by omega), if_neg (by omega), if_neg (by omega), if_neg (by omega), if_neg (by omega), if_neg (by omega), if_pos g.1] at h
      exact want_sim g.2 g.1 ht h
    · rw [if_neg (by omega), if_neg (by omega), if_neg (by omega), if_neg (by omega), if_neg (by omega), if_neg (by omega), if_neg (by omega), if_neg (by omega), if_pos g.1] at h
      exact bare_sim g.1 g.2 ht h
  | value hk hst hq ht =>
    rw [if_neg (by omega), if_neg (by omega), if_neg (by omega), if_neg (by omega), if_neg (by omega), if_neg (by omega), if_neg (by omega), if_pos hk] at h
    exact value_sim hk hst hq ht h
  | bang hk hst hb =>
    rw [if_neg (by omega), if_neg (by omega), if_neg (by omega), if_neg (by omega), if_neg (by omega), if_neg (by omega), if_neg (by omega), if_neg (by omega), if_neg (by omega), if_pos (by omega)] at h
    exact bang_sim hk hst hb h
  | dash hk hst hb =>
    rw [if_neg (by omega), if_neg (by omega), if_neg (by omega), if_neg (by omega), if_neg (by omega), if_neg (by omega), if_neg (by omega), if_neg (by omega), if_neg (by omega), if_pos (by omega)] at h
    exact dash_sim hk hst hb h
  | bogus hk hst hb =>
    rw [if_neg (by omega), if_neg (by omega), if_neg (by omega), if_neg (by omega), if_neg (by omega), if_neg (by omega), if_neg (by omega), if_neg (by omega), if_neg (by omega), if_neg (by omega), if_pos hk] at h
    exact bogus_sim hk hst hb h
  | comment hk hp hst hb =>
    rw [if_neg (by omega), if_neg (by omega), if_neg (by omega), if_neg (by omega), if_neg (by omega), if_neg (by omega), if_neg (by omega), if_neg (by omega), if_neg (by omega), if_neg (by omega), if_neg (by omega), if_pos hk] at h
    exact comment_sim hk hp hst hb h
  | raw hk he hk2 hp hst hw hb =>
    rw [if_neg (by omega), if_neg (by omega), if_neg (by omega), if_neg (by omega), if_neg (by omega), if_neg (by omega), if_neg (by omega), if_neg (by omega), if_neg (by omega), if_neg (by omega), if_neg (by omega), if_neg (by omega)] at h
    exact raw_sim hk he hk2 hp hst hw hb h
theorem run_sim (a : List UInt8) : ∀ {s s' : Sc} {u : List UInt8} {r : Rd}, Rel s u r → runS s a = .ok s' → ∃ u' r', (∀ x, runR (u ++ (a ++ x)) r = runR (u' ++ x) r') ∧ Rel s' u' r' := by
  induction a with
  | nil =>
    intro s s' u r hr h
    rw [runS_nil] at h
    injection h with h
    subst h
    exact ⟨u, r, fun x => rfl, hr⟩
  | cons c t ih =>
    intro s s' u r hr h
    obtain ⟨v, h1, h2⟩ := runS_cons h
    obtain ⟨u1, r1, h3, h4⟩ := go_sim hr h1
    obtain ⟨u2, r2, h5, h6⟩ := ih h4 h2
    exact ⟨u2, r2, fun x => (h3 (t ++ x)).trans (h5 x), h6⟩
theorem start_sim {a : List UInt8} {s : Sc} (h : runS sc0 a = .ok s) : ∃ u r, (∀ x, runR (a ++ x) rd0 = runR (u ++ x) r) ∧ Rel s u r :=
  run_sim a (Rel.data (s := sc0) (r := rd0) rfl rfl ⟨rfl, rfl⟩) h
end Go.Proofs.YtklpbkjplecdpaaGreat.Scn
