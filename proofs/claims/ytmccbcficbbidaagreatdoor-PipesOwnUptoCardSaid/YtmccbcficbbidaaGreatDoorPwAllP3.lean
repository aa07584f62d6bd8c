/-
  Part 3: PipMay, PwPlain.
-/
import Derived.Test.YtmccbcficbbidaaGreatDoorPwAllP2
/-
  What is read as a pipeline may be one.
-/
namespace Go.Proofs.YtmccbcficbbidaaGreatDoor.Pip
open Go.Proofs.YtmccbcficbbidaaGreatDoor.Oct Go.Proofs.YtmccbcficbbidaaGreatDoor.Num Go.Proofs.YtmccbcficbbidaaGreatDoor.Lex

theorem nameB_of {a : List UInt8} (h : NameL a) (h32 : a.length ≤ 32) : nameB a = true := by
  obtain ⟨c, t, rfl, hc, ht⟩ := h
  have h1 : ∀ k : Fin 256, (begB (UInt8.ofNat k.val) = true → digitI ((UInt8.ofNat k.val).toNat : Int) = false ∧ nameI ((UInt8.ofNat k.val).toNat : Int) = true) ∧ (nameC (UInt8.ofNat k.val) = true → nameI ((UInt8.ofNat k.val).toNat : Int) = true) := by decide +kernel
  have h2 : ∀ d : UInt8, (begB d = true → digitI (d.toNat : Int) = false ∧ nameI (d.toNat : Int) = true) ∧ (nameC d = true → nameI (d.toNat : Int) = true) := fun d => by
    have := h1 ⟨d.toNat, d.toNat_lt⟩
    simp only [UInt8.ofNat_toNat] at this
    exact this
  unfold nameB
  simp only [Bool.and_eq_true, decide_eq_true_eq, Bool.not_eq_true', List.all_eq_true]
  refine ⟨⟨⟨by simp, h32⟩, ((h2 c).1 hc).1⟩, fun d hd => ?_⟩
  rcases List.mem_cons.1 hd with rfl | hd
  · exact ((h2 d).1 hc).2
  · exact (h2 d).2 (ht d hd)
theorem name_take {l : List UInt8} (h : nameN l ≠ 0) : NameL (l.take (nameN l)) ∧ (l.take (nameN l)).length = nameN l := by
  cases l with
  | nil => exact absurd rfl h
  | cons c t =>
    have e : nameN (c :: t) = if begB c = true then (t.takeWhile nameC).length + 1 else 0 := rfl
    by_cases hc : begB c = true
    · rw [e, if_pos hc, List.take_succ_cons]
      have e2 : t.take (t.takeWhile nameC).length = t.takeWhile nameC := by
        conv => lhs; rw [← List.takeWhile_append_dropWhile (p := nameC) (l := t)]
        rw [List.takeWhile_append_dropWhile]
        exact (List.prefix_iff_eq_take.1 (List.takeWhile_prefix nameC)).symm
      rw [e2]
      refine ⟨⟨c, _, rfl, hc, fun d hd => ?_⟩, by simp⟩
      exact List.all_eq_true.1 (List.all_takeWhile) d hd
    · rw [e, if_neg hc] at h
      exact absurd rfl h
theorem name_le (l : List UInt8) : nameN l ≤ l.length := by
  cases l with
  | nil => exact Nat.le_refl _
  | cons c t =>
    have e : nameN (c :: t) = if begB c = true then (t.takeWhile nameC).length + 1 else 0 := rfl
    rw [e]
    split
    · have := (List.takeWhile_prefix nameC (l := t)).length_le
      simp only [List.length_cons]
      omega
    · exact Nat.zero_le _
theorem dots_else (f : Nat) (l : List UInt8) (h : ∀ c t, l ≠ 46 :: c :: t) : dotsF (f + 1) l = .ok 0 := by
  unfold dotsF
  split
  · rename_i heq
    cases heq
  · exact absurd rfl (h _ _)
  · rfl
/-- What dots reads is a path. -/
theorem dots_ok (f : Nat) : ∀ (l : List UInt8) (k : Nat), dotsF f l = .ok k → ∃ ns, l.take k = pathL ns ∧ k = (pathL ns).length ∧ ∀ n ∈ ns, nameB n = true := by
  induction f with
  | zero =>
    intro l k h
    injection h with h
    subst h
    exact ⟨[], by rw [List.take_zero]; rfl, rfl, fun n hn => nomatch hn⟩
  | succ f ih =>
    intro l k h
    have h0 : ∀ k', dotsF (f + 1) l = .ok k' → k' = 0 → ∃ ns, l.take k' = pathL ns ∧ k' = (pathL ns).length ∧ ∀ n ∈ ns, nameB n = true := fun k' _ hk => by
      subst hk
      exact ⟨[], by rw [List.take_zero]; rfl, rfl, fun n hn => nomatch hn⟩
    match l, h, h0 with
    | [], h, h0 => exact h0 k h (by injection h with h; exact h.symm)
    | [c], h, h0 =>
      refine h0 k h ?_
      rw [dots_else f [c] (fun _ _ e => by simp at e)] at h
      injection h with h
      exact h.symm
    | d :: c :: t, h, h0 =>
      by_cases hd : d = 46
      · subst hd
        rw [dots_step] at h
        by_cases h1 : nameN (c :: t) = 0
        · rw [if_pos h1] at h; cases h
        · rw [if_neg h1] at h
          by_cases h2 : 32 < nameN (c :: t)
          · rw [if_pos h2] at h; cases h
          · rw [if_neg h2] at h
            cases hr : dotsF f ((c :: t).drop (nameN (c :: t))) with
            | error e => rw [hr] at h; cases h
            | ok m =>
              rw [hr] at h
              injection h with h
              obtain ⟨ns, g1, g2, g3⟩ := ih _ _ hr
              obtain ⟨n1, n2⟩ := name_take h1
              refine ⟨(c :: t).take (nameN (c :: t)) :: ns, ?_, ?_, fun n hn => ?_⟩
              · rw [path_cons, ← h, show nameN (c :: t) + 1 + m = (nameN (c :: t) + m) + 1 by omega, List.take_succ_cons, List.take_add, g1]
              · rw [path_cons, List.length_cons, List.length_append, n2, ← g2]
                omega
              · rcases List.mem_cons.1 hn with rfl | hn
                · exact nameB_of n1 (by rw [n2]; omega)
                · exact g3 n hn
      · refine h0 k h ?_
        have e : dotsF (f + 1) (d :: c :: t) = .ok 0 := dots_else f _ (fun _ _ e => hd (by injection e))
        rw [e] at h
        injection h with h
        exact h.symm
theorem signed_range (u : Nat) (b : Bool) (k : Int) (h : signedL u b = (k, 0)) : -9223372036854775808 ≤ k ∧ k ≤ 9223372036854775807 := by
  unfold signedL at h
  repeat' split at h
  all_goals (simp only [Prod.mk.injEq] at h; omega)
theorem parse_range (l : List UInt8) (k : Int) (h : parseL l = (k, 0)) : -9223372036854775808 ≤ k ∧ k ≤ 9223372036854775807 := by
  have hT : ∀ b t, parseT b t = (k, 0) → -9223372036854775808 ≤ k ∧ k ≤ 9223372036854775807 := fun b t h => by
    unfold parseT at h
    repeat' split at h
    all_goals first | exact signed_range _ _ _ h | (simp only [Prod.mk.injEq] at h; omega)
  unfold parseL at h
  split at h
  · exact hT _ _ h
  · exact hT _ _ h
/-- What a word that was read is. -/
def GoodW (w : Wd) : Prop :=
  (w.k = 2 → (∀ n ∈ pathN w.x, nameB n = true)) ∧
  (w.k = 3 → (((w.x.drop 1).takeWhile notDot = [] ∨ nameB ((w.x.drop 1).takeWhile notDot) = true) ∧ ∀ n ∈ pathN ((w.x.drop 1).dropWhile notDot), nameB n = true)) ∧
  (w.k = 4 → ∃ n, parseL w.x = (n, 0)) ∧ (w.k = 5 → w.x.length ≤ 4096)
theorem paths_good {ns : List (List UInt8)} (h : ∀ n ∈ ns, nameB n = true) : pathN (pathL ns) = ns := path_names ns fun n hn => (name_of (h n hn)).2.2
theorem word_good (l : List UInt8) (w : Wd) (m : Nat) (h : wordL l = .ok (w, m)) : GoodW w := by
  cases l with
  | nil => cases h
  | cons c t =>
    unfold wordL at h
    dsimp only at h
    by_cases h1 : begB c = true
    · rw [if_pos h1] at h
      by_cases h2 : 32 < nameN (c :: t)
      · rw [if_pos h2] at h; cases h
      · rw [if_neg h2] at h
        injection h with h
        injection h with h _
        subst h
        exact ⟨fun h => absurd h (by simp), fun h => absurd h (by simp), fun h => absurd h (by simp), fun h => absurd h (by simp)⟩
    · rw [if_neg h1] at h
      by_cases h2 : c = 46
      · rw [if_pos h2] at h
        by_cases h3 : nameN t = 0
        · rw [if_pos h3] at h
          injection h with h
          injection h with h _
          subst h
          exact ⟨fun _ n hn => by have : pathN [46] = [] := rfl; rw [this] at hn; exact (nomatch hn), fun h => absurd h (by simp), fun h => absurd h (by simp), fun h => absurd h (by simp)⟩
        · rw [if_neg h3] at h
          cases hd : dotsL (c :: t) with
          | error e => rw [hd] at h; cases h
          | ok k =>
            rw [hd] at h
            dsimp only at h
            injection h with h
            injection h with h _
            obtain ⟨ns, g1, _, g3⟩ := dots_ok _ _ _ hd
            rw [g1] at h
            subst h
            exact ⟨fun _ n hn => by simp only at hn; rw [paths_good g3] at hn; exact g3 n hn, fun h => absurd h (by simp), fun h => absurd h (by simp), fun h => absurd h (by simp)⟩
      · rw [if_neg h2] at h
        by_cases h3 : c = 36
        · rw [if_pos h3] at h
          by_cases h4 : 32 < nameN t
          · rw [if_pos h4] at h; cases h
          · rw [if_neg h4] at h
            cases hd : dotsL (t.drop (nameN t)) with
            | error e => rw [hd] at h; cases h
            | ok k =>
              rw [hd] at h
              dsimp only at h
              injection h with h
              injection h with h _
              obtain ⟨ns, g1, _, g3⟩ := dots_ok _ _ _ hd
              have hx : w.x.drop 1 = t.take (nameN t) ++ pathL ns := by
                rw [← h]
                show ((c :: t).take (1 + nameN t + k)).drop 1 = _
                rw [show 1 + nameN t + k = (nameN t + k) + 1 by omega, List.take_succ_cons, List.drop_succ_cons, List.drop_zero, List.take_add, g1]
              have hk : w.k = 3 := by rw [← h]
              have hnm : t.take (nameN t) = [] ∨ nameB (t.take (nameN t)) = true := by
                by_cases h5 : nameN t = 0
                · left; rw [h5, List.take_zero]
                · obtain ⟨n1, n2⟩ := name_take h5
                  exact .inr (nameB_of n1 (by rw [n2]; omega))
              have hnd : ∀ c ∈ t.take (nameN t), c ≠ 46 := by
                rcases hnm with h | h
                · rw [h]; exact fun c hc => nomatch hc
                · exact (name_of h).2.2.2
              obtain ⟨q1, q2⟩ := take_var hnd ns
              refine ⟨fun h => absurd h (by omega), fun _ => ?_, fun h => absurd h (by omega), fun h => absurd h (by omega)⟩
              rw [hx, q1, q2, paths_good g3]
              exact ⟨hnm, g3⟩
        · rw [if_neg h3] at h
          by_cases h4 : c = 45 ∨ digC c = true
          · rw [if_pos h4] at h
            by_cases h5 : (parseL ((c :: t).take (1 + digN t))).2 = 4
            · rw [if_pos h5] at h; cases h
            · rw [if_neg h5] at h
              by_cases h6 : (parseL ((c :: t).take (1 + digN t))).2 ≠ 0
              · rw [if_pos h6] at h; cases h
              · rw [if_neg h6] at h
                injection h with h
                injection h with h _
                subst h
                refine ⟨fun h => absurd h (by simp), fun h => absurd h (by simp), fun _ => ⟨(parseL ((c :: t).take (1 + digN t))).1, ?_⟩, fun h => absurd h (by simp)⟩
                have h7 : (parseL ((c :: t).take (1 + digN t))).2 = 0 := by simpa using h6
                show parseL ((c :: t).take (1 + digN t)) = _
                rw [← h7]
          · rw [if_neg h4] at h
            by_cases h5 : c = 34
            · rw [if_pos h5] at h
              cases hs : strL t with
              | none => rw [hs] at h; cases h
              | some x =>
                rw [hs] at h
                dsimp only at h
                by_cases h6 : 4096 < x.1.length
                · rw [if_pos h6] at h; cases h
                · rw [if_neg h6] at h
                  injection h with h
                  injection h with h _
                  subst h
                  exact ⟨fun h => absurd h (by simp), fun h => absurd h (by simp), fun h => absurd h (by simp), fun _ => by simp only; omega⟩
            · rw [if_neg h5] at h
              have fin : ∀ x, (w = ⟨6, x⟩) → GoodW w := fun x hx => by
                subst hx
                exact ⟨fun h => absurd h (by simp), fun h => absurd h (by simp), fun h => absurd h (by simp), fun h => absurd h (by simp)⟩
              by_cases h6 : [58, 61].isPrefixOf (c :: t) = true
              · rw [if_pos h6] at h
                injection h with h
                injection h with h _
                exact fin _ h.symm
              · rw [if_neg h6] at h
                by_cases h7 : c = 124
                · rw [if_pos h7] at h
                  injection h with h
                  injection h with h _
                  exact fin _ h.symm
                · rw [if_neg h7] at h; cases h
theorem words_good (f : Nat) : ∀ (l : List UInt8) (p : Nat) (r : List (Wd × Nat)), wordsF f l p = .ok r → ∀ x ∈ r, GoodW x.1 := by
  induction f with
  | zero =>
    intro l p r h x hx
    injection h with h
    subst h
    exact nomatch hx
  | succ f ih =>
    intro l p r h x hx
    unfold wordsF at h
    split at h
    · injection h with h
      subst h
      exact nomatch hx
    · rename_i c t hct
      cases hw : wordL (c :: t) with
      | error e => rw [hw] at h; cases h
      | ok wn =>
        obtain ⟨w, n⟩ := wn
        rw [hw] at h
        dsimp only at h
        cases hr : wordsF f ((c :: t).drop n) (p + skipN l + n) with
        | error e => rw [hr] at h; cases h
        | ok q =>
          rw [hr] at h
          dsimp only at h
          injection h with h
          subst h
          rcases List.mem_cons.1 hx with rfl | hx
          · exact word_good _ _ _ hw
          · exact ih _ _ _ hr x hx

/-! ### What is read may be -/
def IntA (a : Ar) : Prop := -9223372036854775808 ≤ a.i ∧ a.i ≤ 9223372036854775807
theorem arg_may (w : Wd) (a : Ar) (hg : GoodW w) (h : argL w = some a) : mayA a = true ∧ IntA a := by
  unfold argL at h
  split at h
  · repeat' split at h
    all_goals first | (injection h with h; subst h; exact ⟨by decide, by unfold IntA; decide⟩) | cases h
  · split at h
    · rename_i h2
      split at h
      · cases h
      · rename_i h16
        injection h with h
        subst h
        refine ⟨?_, by unfold IntA; simp⟩
        unfold mayA
        have hp := hg.1 h2
        have hall : (pathN w.x).all nameB = true := List.all_eq_true.2 hp
        simp only [hall]
        simp
        omega
    · split at h
      · rename_i h3
        split at h
        · cases h
        · rename_i h16
          injection h with h
          subst h
          refine ⟨?_, by unfold IntA; simp⟩
          obtain ⟨hn, hp⟩ := hg.2.1 h3
          unfold mayA
          have hall : (pathN ((w.x.drop 1).dropWhile notDot)).all nameB = true := List.all_eq_true.2 hp
          simp only [hall]
          simp only [Bool.true_and, Bool.and_eq_true, Bool.or_eq_true, Bool.not_eq_true', decide_eq_true_eq, decide_eq_false_iff_not]
          refine ⟨⟨⟨⟨⟨by omega, by omega, by omega, by simp⟩, by omega⟩, by simp⟩, by simp⟩, ?_⟩
          rcases hn with hn | hn
          · exact .inl hn
          · exact .inr ⟨by trivial, hn⟩
      · split at h
        · rename_i h4
          injection h with h
          subst h
          obtain ⟨n, hn⟩ := hg.2.2.1 h4
          rw [hn]
          exact ⟨by unfold mayA; simp, parse_range _ _ hn⟩
        · split at h
          · rename_i h5
            injection h with h
            subst h
            refine ⟨?_, by unfold IntA; simp⟩
            have := hg.2.2.2 h5
            unfold mayA
            simp
            exact this
          · cases h
theorem args_may : ∀ (l : List Wd) (as : List Ar), (∀ w ∈ l, GoodW w) → argsL l = some as → ∀ a ∈ as, mayA a = true ∧ IntA a
  | [], as, _, h, a, ha => by
    injection h with h
    subst h
    exact nomatch ha
  | w :: t, as, hg, h, a, ha => by
    unfold argsL at h
    cases h1 : argL w with
    | none => rw [h1] at h; cases h
    | some b =>
      rw [h1] at h
      dsimp only at h
      cases h2 : argsL t with
      | none => rw [h2] at h; cases h
      | some bs =>
        rw [h2] at h
        injection h with h
        subst h
        rcases List.mem_cons.1 ha with rfl | ha
        · exact arg_may w _ (hg w (by simp)) h1
        · exact args_may t bs (fun v hv => hg v (by simp [hv])) h2 a ha
theorem call_may (l : List Wd) (k : Nat) (c : Ca) (hg : ∀ w ∈ l, GoodW w) (h : callL l (decide (0 < k)) = some c) : mayC k c = true ∧ ∀ a ∈ c.as, IntA a := by
  cases l with
  | nil => cases h
  | cons w t =>
    unfold callL at h
    dsimp only at h
    split at h
    · split at h
      · cases h
      · rename_i hk
        cases h1 : argL w with
        | none => rw [h1] at h; cases h
        | some a =>
          rw [h1] at h
          dsimp only at h
          split at h
          · injection h with h
            subst h
            obtain ⟨m1, m2⟩ := arg_may w a (hg w (by simp)) h1
            have hk0 : k = 0 := by simpa using hk
            refine ⟨?_, fun b hb => ?_⟩
            · unfold mayC
              simp [m1, hk0]
            · have : b = a := by simpa using hb
              rw [this]
              exact m2
          · cases h
    · rename_i hn
      cases h1 : arityL w.x with
      | none => rw [h1] at h; cases h
      | some m =>
        rw [h1] at h
        dsimp only at h
        cases h2 : argsL t with
        | none => rw [h2] at h; cases h
        | some as =>
          rw [h2] at h
          dsimp only at h
          by_cases hq : as.length + (if decide (0 < k) = true then 1 else 0) < m.1 ∨ m.2 < as.length + (if decide (0 < k) = true then 1 else 0)
          · rw [if_pos hq] at h
            cases h
          · rw [if_neg hq] at h
            injection h with h
            subst h
            have hm := args_may t as (fun v hv => hg v (by simp [hv])) h2
            refine ⟨?_, fun b hb => (hm b hb).2⟩
            have hne : w.x ≠ [] := (arity_name h1).2.2.2
            unfold mayC
            rw [if_neg hne, h1]
            rw [Bool.and_eq_true]
            refine ⟨List.all_eq_true.2 fun a ha => (hm a ha).1, ?_⟩
            dsimp only
            have ek : (if decide (0 < k) = true then 1 else 0) = (if 0 < k then 1 else 0 : Nat) := by
              by_cases hk : 0 < k
              · rw [decide_eq_true hk, if_pos rfl, if_pos hk]
              · rw [decide_eq_false hk, if_neg (by simp), if_neg hk]
            rw [ek] at hq
            exact decide_eq_true (by omega)
theorem pipe_may (f : Nat) : ∀ (l : List Wd) (k : Nat) (p : List Ca), k ≤ 16 → (∀ w ∈ l, GoodW w) → pipeF f l k = some p → mayF k p = true ∧ k + p.length ≤ 16 ∧ p ≠ [] ∧ ∀ c ∈ p, ∀ a ∈ c.as, IntA a := by
  induction f with
  | zero => intro l k p _ _ h; cases h
  | succ f ih =>
    intro l k p hk hg h
    unfold pipeF at h
    cases h1 : callL (l.takeWhile isWord) (decide (0 < k)) with
    | none => rw [h1] at h; cases h
    | some c =>
      rw [h1] at h
      dsimp only at h
      have hgt : ∀ w ∈ l.takeWhile isWord, GoodW w := fun w hw => hg w ((List.takeWhile_prefix isWord).subset hw)
      obtain ⟨m1, m2⟩ := call_may _ k c hgt h1
      by_cases h16 : k = 16
      · rw [if_pos h16] at h; cases h
      · rw [if_neg h16] at h
        split at h
        · injection h with h
          subst h
          refine ⟨?_, by simp; omega, by simp, fun d hd => ?_⟩
          · unfold mayF
            rw [m1]
            rfl
          · have : d = c := by simpa using hd
            rw [this]
            exact m2
        · rename_i w t hwt
          split at h
          · cases h
          · split at h
            · cases h
            · cases h2 : pipeF f t (k + 1) with
              | none => rw [h2] at h; cases h
              | some q =>
                rw [h2] at h
                injection h with h
                subst h
                have hgd : ∀ v ∈ t, GoodW v := fun v hv => hg v ((List.dropWhile_suffix isWord).subset (by rw [hwt]; simp [hv]))
                obtain ⟨g1, g2, g3, g4⟩ := ih t (k + 1) q (by omega) hgd h2
                refine ⟨?_, by simp; omega, by simp, fun d hd => ?_⟩
                · unfold mayF
                  rw [m1, g1]
                  rfl
                · rcases List.mem_cons.1 hd with rfl | hd
                  · exact m2
                  · exact g4 d hd
/-- PipesMay: what is read of a text's words may be, and is read again of its own. -/
theorem read_may (l : List UInt8) (r : List (Wd × Nat)) (p : List Ca) (h : wordsL l = .ok r) (hp : pipeL (r.map Prod.fst) = some p) : mayP p = true ∧ Ints p := by
  have hg : ∀ w ∈ r.map Prod.fst, GoodW w := fun w hw => by
    obtain ⟨x, hx, rfl⟩ := List.mem_map.1 hw
    exact words_good _ _ _ _ h x hx
  unfold pipeL at hp
  obtain ⟨g1, g2, g3, g4⟩ := pipe_may _ _ 0 p (by omega) hg hp
  refine ⟨?_, g4⟩
  unfold mayP
  rw [g1, Bool.and_true]
  exact decide_eq_true ⟨List.length_pos_iff.2 g3, by omega⟩
end Go.Proofs.YtmccbcficbbidaaGreatDoor.Pip

/-
  Pipelines with their errors, with no program; what a word that was read is.
-/
namespace Go.Proofs.YtmccbcficbbidaaGreatDoor.Pip
open Go.Proofs.YtmccbcficbbidaaGreatDoor.Oct Go.Proofs.YtmccbcficbbidaaGreatDoor.Num Go.Proofs.YtmccbcficbbidaaGreatDoor.Lex

/-! ### Errors -/
def errA (w : Wd) : Nat := if w.k = 2 ∨ w.k = 3 then 42 else 33
def argE (w : Wd) : Except Nat Ar := match argL w with
  | some a => .ok a
  | none => .error (errA w)
def argsE : List Wd → Except Nat (List Ar)
  | [] => .ok []
  | w :: t => match argE w with
    | .error e => .error e
    | .ok a => match argsE t with
      | .error e => .error e
      | .ok as => .ok (a :: as)
def tooMany (m : Nat × Nat) (n : Nat) (ahead : Bool) : Bool := decide (n + (if ahead = true then 1 else 0) < m.1 ∨ m.2 < n + (if ahead = true then 1 else 0))
def callE (l : List Wd) (ahead : Bool) : Except Nat Ca := match l with
  | [] => .error 33
  | w :: t =>
    if w.k ≠ 1 ∨ constB w.x = true then (if ahead = true then .error 33 else match argE w with
      | .error e => .error e
      | .ok a => if t = [] then .ok ⟨[], [a]⟩ else .error 33)
    else match arityL w.x with
      | none => .error 31
      | some m => match argsE t with
        | .error e => .error e
        | .ok as => if tooMany m as.length ahead = true then .error 3 else .ok ⟨w.x, as⟩
def pipeG : Nat → List Wd → Nat → Except Nat (List Ca)
  | 0, _, _ => .error 33
  | f + 1, l, k => match callE (l.takeWhile isWord) (decide (0 < k)) with
    | .error e => .error e
    | .ok c => if k = 16 then .error 3 else match l.dropWhile isWord with
      | [] => .ok [c]
      | w :: t => if w.x ≠ [124] then .error 33 else if t = [] then .error 33 else (match pipeG f t (k + 1) with
        | .error e => .error e
        | .ok r => .ok (c :: r))
/-- Words as a pipeline, or the error's number. -/
def pipeE (l : List Wd) : Except Nat (List Ca) := if l = [] then .error 8 else pipeG l.length l 0
theorem arg_e (w : Wd) : (argE w).toOption = argL w := by
  unfold argE
  cases argL w <;> rfl
theorem args_e (l : List Wd) : (argsE l).toOption = argsL l := by
  induction l with
  | nil => rfl
  | cons w t ih =>
    unfold argsE argsL
    rw [← arg_e, ← ih]
    cases argE w with
    | error e => rfl
    | ok a => cases argsE t <;> rfl
theorem call_e (l : List Wd) (ahead : Bool) : (callE l ahead).toOption = callL l ahead := by
  cases l with
  | nil => rfl
  | cons w t =>
    unfold callE callL
    dsimp only
    rw [← arg_e, ← args_e]
    by_cases h1 : w.k ≠ 1 ∨ constB w.x = true
    · rw [if_pos h1, if_pos h1]
      by_cases h2 : ahead = true
      · rw [if_pos h2, if_pos h2]; rfl
      · rw [if_neg h2, if_neg h2]
        cases argE w with
        | error e => rfl
        | ok a =>
          show Except.toOption (if t = [] then _ else _) = if t = [] then _ else _
          by_cases h3 : t = []
          · rw [if_pos h3, if_pos h3]; rfl
          · rw [if_neg h3, if_neg h3]; rfl
    · rw [if_neg h1, if_neg h1]
      cases arityL w.x with
      | none => rfl
      | some m =>
        dsimp only
        cases argsE t with
        | error e => rfl
        | ok as =>
          show Except.toOption (if tooMany m as.length ahead = true then _ else _) = if _ then _ else _
          by_cases h4 : as.length + (if ahead = true then 1 else 0) < m.1 ∨ m.2 < as.length + (if ahead = true then 1 else 0)
          · have ht : tooMany m as.length ahead = true := decide_eq_true h4
            rw [if_pos h4, if_pos ht]; rfl
          · rw [if_neg h4, if_neg (by unfold tooMany; rw [decide_eq_false h4]; simp)]; rfl
theorem pipe_g (f : Nat) : ∀ (l : List Wd) (k : Nat), (pipeG f l k).toOption = pipeF f l k := by
  induction f with
  | zero => intro l k; rfl
  | succ f ih =>
    intro l k
    unfold pipeG pipeF
    rw [← call_e]
    cases callE (l.takeWhile isWord) (decide (0 < k)) with
    | error e => rfl
    | ok c =>
      show Except.toOption (if k = 16 then _ else _) = if k = 16 then _ else _
      by_cases h1 : k = 16
      · rw [if_pos h1, if_pos h1]; rfl
      · rw [if_neg h1, if_neg h1]
        cases l.dropWhile isWord with
        | nil => rfl
        | cons w t =>
          dsimp only
          by_cases h2 : w.x ≠ [124]
          · rw [if_pos h2, if_pos h2]; rfl
          · rw [if_neg h2, if_neg h2]
            by_cases h3 : t = []
            · rw [if_pos h3, if_pos h3]; rfl
            · rw [if_neg h3, if_neg h3, ← ih]
              cases pipeG f t (k + 1) <;> rfl
theorem pipe_e (l : List Wd) : (pipeE l).toOption = pipeL l := by
  unfold pipeE pipeL
  by_cases h : l = []
  · subst h; rfl
  · rw [if_neg h]; exact pipe_g _ _ _
theorem pipe_some {l : List Wd} {p : List Ca} (h : pipeL l = some p) : pipeE l = .ok p := by
  rw [← pipe_e] at h
  cases hp : pipeE l with
  | error e => rw [hp] at h; cases h
  | ok q => rw [hp] at h; injection h with h; rw [h]
theorem pipe_ok {l : List Wd} {p : List Ca} (h : pipeE l = .ok p) : pipeL l = some p := by
  rw [← pipe_e, h]
  rfl
theorem pipe_fuel (f : Nat) : ∀ (g : Nat) (l : List Wd) (k : Nat), l.length ≤ f → l.length ≤ g → l ≠ [] → pipeG f l k = pipeG g l k := by
  induction f with
  | zero =>
    intro g l k h _ h0
    exact absurd (List.eq_nil_of_length_eq_zero (by omega)) h0
  | succ f ih =>
    intro g l k h hg h0
    cases g with
    | zero => exact absurd (List.eq_nil_of_length_eq_zero (by omega)) h0
    | succ g =>
      unfold pipeG
      cases callE (l.takeWhile isWord) (decide (0 < k)) with
      | error e => rfl
      | ok c =>
        dsimp only
        split
        · rfl
        · cases hd : l.dropWhile isWord with
          | nil => rfl
          | cons w t =>
            dsimp only
            split
            · rfl
            · split
              · rfl
              · rename_i ht
                have hs : (w :: t).length ≤ l.length := by rw [← hd]; exact (List.dropWhile_suffix isWord).length_le
                rw [List.length_cons] at hs
                rw [ih g t (k + 1) (by omega) (by omega) ht]

/-! ### What is read -/
/-- What a word that was read is. -/
structure GoodX (w : Wd) : Prop where
  kind : 1 ≤ w.k ∧ w.k ≤ 6
  len : w.x.length ≤ 4194304
  path : w.k = 2 → w.x = [46] ∨ ∃ ns, ns ≠ [] ∧ (∀ n ∈ ns, nameB n = true) ∧ w.x = pathL ns
  var : w.k = 3 → ∃ n ns, (n = [] ∨ nameB n = true) ∧ (∀ m ∈ ns, nameB m = true) ∧ w.x = 36 :: (n ++ pathL ns)
  num : w.k = 4 → (parseL w.x).2 = 0
  text : w.k = 5 → w.x.length ≤ 4096
  sign : w.k = 6 → w.x = [124] ∨ w.x = [58, 61]
theorem word_goodx (l : List UInt8) (hl : l.length ≤ 4194304) (w : Wd) (m : Nat) (h : wordL l = .ok (w, m)) : GoodX w := by
  have htake : ∀ n, (l.take n).length ≤ 4194304 := fun n => by rw [List.length_take]; omega
  cases l with
  | nil => cases h
  | cons c t =>
    unfold wordL at h
    dsimp only at h
    by_cases h1 : begB c = true
    · rw [if_pos h1] at h
      by_cases h2 : 32 < nameN (c :: t)
      · rw [if_pos h2] at h; cases h
      · rw [if_neg h2] at h
        injection h with h
        injection h with h _
        subst h
        exact ⟨by simp, htake _, fun h => absurd h (by simp), fun h => absurd h (by simp), fun h => absurd h (by simp), fun h => absurd h (by simp), fun h => absurd h (by simp)⟩
    · rw [if_neg h1] at h
      by_cases h2 : c = 46
      · rw [if_pos h2] at h
        by_cases h3 : nameN t = 0
        · rw [if_pos h3] at h
          injection h with h
          injection h with h _
          subst h
          exact ⟨by simp, by simp, fun _ => .inl rfl, fun h => absurd h (by simp), fun h => absurd h (by simp), fun h => absurd h (by simp), fun h => absurd h (by simp)⟩
        · rw [if_neg h3] at h
          cases hd : dotsL (c :: t) with
          | error e => rw [hd] at h; cases h
          | ok k =>
            rw [hd] at h
            dsimp only at h
            injection h with h
            injection h with h _
            have htk := htake k
            obtain ⟨ns, g1, g2, g3⟩ := dots_ok _ _ _ hd
            rw [g1] at h htk
            subst h
            refine ⟨by simp, htk, fun _ => ?_, fun h => absurd h (by simp), fun h => absurd h (by simp), fun h => absurd h (by simp), fun h => absurd h (by simp)⟩
            refine .inr ⟨ns, fun e => ?_, g3, rfl⟩
            subst e
            have hk0 : k = 0 := g2
            subst h2
            cases t with
            | nil => exact absurd rfl h3
            | cons d t =>
              unfold dotsL at hd
              rw [List.length_cons, dots_step, if_neg h3] at hd
              split at hd
              · cases hd
              · split at hd
                · cases hd
                · injection hd with hd
                  omega
      · rw [if_neg h2] at h
        by_cases h3 : c = 36
        · rw [if_pos h3] at h
          by_cases h4 : 32 < nameN t
          · rw [if_pos h4] at h; cases h
          · rw [if_neg h4] at h
            cases hd : dotsL (t.drop (nameN t)) with
            | error e => rw [hd] at h; cases h
            | ok k =>
              rw [hd] at h
              dsimp only at h
              injection h with h
              injection h with h _
              obtain ⟨ns, g1, _, g3⟩ := dots_ok _ _ _ hd
              have hx : (c :: t).take (1 + nameN t + k) = 36 :: (t.take (nameN t) ++ pathL ns) := by
                rw [show 1 + nameN t + k = (nameN t + k) + 1 by omega, List.take_succ_cons, List.take_add, g1, h3]
              have hnm : t.take (nameN t) = [] ∨ nameB (t.take (nameN t)) = true := by
                by_cases h5 : nameN t = 0
                · left; rw [h5, List.take_zero]
                · obtain ⟨n1, n2⟩ := name_take h5
                  exact .inr (nameB_of n1 (by rw [n2]; omega))
              have htk := htake (1 + nameN t + k)
              subst h
              exact ⟨by simp, htk, fun h => absurd h (by simp), fun _ => ⟨_, ns, hnm, g3, hx⟩, fun h => absurd h (by simp), fun h => absurd h (by simp), fun h => absurd h (by simp)⟩
        · rw [if_neg h3] at h
          by_cases h4 : c = 45 ∨ digC c = true
          · rw [if_pos h4] at h
            by_cases h5 : (parseL ((c :: t).take (1 + digN t))).2 = 4
            · rw [if_pos h5] at h; cases h
            · rw [if_neg h5] at h
              by_cases h6 : (parseL ((c :: t).take (1 + digN t))).2 ≠ 0
              · rw [if_pos h6] at h; cases h
              · rw [if_neg h6] at h
                injection h with h
                injection h with h _
                have htk := htake (1 + digN t)
                subst h
                exact ⟨by simp, htk, fun h => absurd h (by simp), fun h => absurd h (by simp), fun _ => by simpa using h6, fun h => absurd h (by simp), fun h => absurd h (by simp)⟩
          · rw [if_neg h4] at h
            by_cases h5 : c = 34
            · rw [if_pos h5] at h
              cases hs : strL t with
              | none => rw [hs] at h; cases h
              | some x =>
                rw [hs] at h
                dsimp only at h
                by_cases h6 : 4096 < x.1.length
                · rw [if_pos h6] at h; cases h
                · rw [if_neg h6] at h
                  injection h with h
                  injection h with h _
                  subst h
                  exact ⟨by simp, by simp only; omega, fun h => absurd h (by simp), fun h => absurd h (by simp), fun h => absurd h (by simp), fun _ => by simp only; omega, fun h => absurd h (by simp)⟩
            · rw [if_neg h5] at h
              have fin : ∀ x, (x = [124] ∨ x = [58, 61]) → w = ⟨6, x⟩ → GoodX w := fun x hx hw => by
                subst hw
                exact ⟨by simp, by rcases hx with rfl | rfl <;> simp, fun h => absurd h (by simp), fun h => absurd h (by simp), fun h => absurd h (by simp), fun h => absurd h (by simp), fun _ => hx⟩
              by_cases h6 : [58, 61].isPrefixOf (c :: t) = true
              · rw [if_pos h6] at h
                injection h with h
                injection h with h _
                exact fin _ (.inr rfl) h.symm
              · rw [if_neg h6] at h
                by_cases h7 : c = 124
                · rw [if_pos h7] at h
                  injection h with h
                  injection h with h _
                  exact fin _ (.inl rfl) h.symm
                · rw [if_neg h7] at h; cases h
theorem words_goodx (f : Nat) : ∀ (l : List UInt8) (p : Nat) (r : List (Wd × Nat)), l.length ≤ 4194304 → wordsF f l p = .ok r → ∀ x ∈ r, GoodX x.1 := by
  induction f with
  | zero =>
    intro l p r _ h x hx
    injection h with h
    subst h
    exact nomatch hx
  | succ f ih =>
    intro l p r hl h x hx
    unfold wordsF at h
    have hld : ∀ n, (l.drop n).length ≤ 4194304 := fun n => by rw [List.length_drop]; omega
    split at h
    · injection h with h
      subst h
      exact nomatch hx
    · rename_i c t hct
      have hct2 := hld (skipN l)
      rw [hct] at hct2
      cases hw : wordL (c :: t) with
      | error e => rw [hw] at h; cases h
      | ok wn =>
        obtain ⟨w, n⟩ := wn
        rw [hw] at h
        dsimp only at h
        cases hr : wordsF f ((c :: t).drop n) (p + skipN l + n) with
        | error e => rw [hr] at h; cases h
        | ok q =>
          rw [hr] at h
          dsimp only at h
          injection h with h
          subst h
          rcases List.mem_cons.1 hx with rfl | hx
          · exact word_goodx _ hct2 _ _ hw
          · exact ih _ _ _ (by rw [List.length_drop]; omega) hr x hx
end Go.Proofs.YtmccbcficbbidaaGreatDoor.Pip
