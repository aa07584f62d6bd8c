/-
  Part 8: ScnGo3, TabPage, TabCode, OctTrim.
-/
import Derived.Test.YtklpbkjplecdpaaGreatSxBaseP7
import Derived.Test.YtklpbkjplecdpaaGreatSxBaseP1
import Derived.Test.YtklpbkjplecdpaaGreatProg
import Derived.Lib.Hide
import Derived.Deep.QuietTactic
import Derived.BigQuiet
import Derived.Lib.Strings
import Derived.Test.YtklpbkjplecdpaaGreatSxBaseP5
import Derived.OwnWalk
import Derived.ProofKit
import Derived.Test.YtklpbkjplecdpaaGreatSxBaseP6
/-
  Where in HTML a text stands, as the code goes: each state that octets make keeps what the code leans on; a text, octet by octet.
-/
namespace Go.Proofs.YtklpbkjplecdpaaGreat.Scn
open Oct Crf Tab Tok

structure Inv (s : Sc) : Prop where
  t3 : s.k = 3 → endE s.e = false
  t4 : s.k = 4 → endE s.e = true
  y : s.p = [] ∨ s.r = []
  z : 17 ≤ s.k → PendOk s
abbrev Reach (s : Sc) : Prop := May s ∧ Inv s
theorem Reach.met {s : Sc} (h : Reach s) : Met s where
  k := h.1.k
  e1 := h.1.e1
  e2 := h.1.e2
  a1 := h.1.a1
  a2 := h.1.a2
  d := h.1.d
  p1 := h.1.p1
  p2 := h.1.p2
  r1 := h.1.r1
  r2 := h.1.r2
  n1 := h.1.n1
  n2 := h.1.n2
  w := h.1.w
  l := h.1.l
  q := h.1.q
  t3 := h.2.t3
  t4 := h.2.t4
  x := fun g => by
    have h1 := h.1.x g
    have h2 := h.1.k
    have := raw_short (e := s.e) (by omega) (by omega)
    omega
  y := h.2.y
  z := h.2.z
theorem inv_plain {s : Sc} (hp : s.p = []) (h3 : s.k ≠ 3) (h4 : s.k ≠ 4) : Inv s := ⟨fun g => absurd g h3, fun g => absurd g h4, .inl hp, fun _ => .inl hp⟩
theorem end_inv {e : List UInt8} {t : Sc} (g : endS e = .ok t) : Inv t := by
  unfold endS at g
  repeat' split at g
  all_goals first | (cases g; done) | (injection g with g; subst g; exact inv_plain rfl (by simp) (by simp))
theorem within_inv {e : List UInt8} {c : UInt8} {t : Sc} (g : withinS e c = .ok t) : Inv t := by
  unfold withinS at g
  split at g
  · injection g with g; subst g; exact inv_plain rfl (by simp) (by simp)
  · split at g
    · injection g with g; subst g; exact inv_plain rfl (by simp) (by simp)
    · split at g
      · exact end_inv g
      · injection g with g; subst g; exact inv_plain rfl (by simp) (by simp)
theorem char_inv {s t : Sc} {c : UInt8} (hp : s.p = []) (h3 : s.k ≠ 3) (h4 : s.k ≠ 4) (g : charS s c = .ok t) : Inv t := by
  have hk := char_keeps g
  exact inv_plain (hk.2.2.2.2.trans hp) (by rw [hk.1]; exact h3) (by rw [hk.1]; exact h4)
theorem rawOne_inv {s t : Sc} {c : UInt8} (hk : 17 ≤ s.k) (hp : s.p = []) (g : rawOne s c = .ok t) : Inv t := by
  unfold rawOne at g
  split at g
  · injection g with g
    subst g
    refine ⟨fun q => absurd q (by show s.k ≠ 3; omega), fun q => absurd q (by show s.k ≠ 4; omega), .inr rfl, fun _ => .inr ⟨rfl, ?_, by show ([60] : List UInt8) ≠ [60, 33, 45, 45]; decide⟩⟩
    show ((([60] : List UInt8).map low).isPrefixOf ((60 :: 47 :: s.e).map low) || (s.k == 19 && ([60] : List UInt8).isPrefixOf [60, 33, 45, 45])) = true
    simp [List.isPrefixOf]
  · split at g
    · exact char_inv hp (by omega) (by omega) g
    · have hke := sub_keeps g
      exact inv_plain (hke.2.2.2.2.trans hp) (by rw [hke.1]; omega) (by rw [hke.1]; omega)
theorem raw_inv {s t : Sc} {c : UInt8} (hk : 17 ≤ s.k) (h : Inv s) (g : rawS s c = .ok t) : Inv t := by
  unfold rawS at g
  split at g
  · rename_i hp
    exact rawOne_inv hk hp g
  · rename_i hp
    obtain ⟨hhd, hpb, hne⟩ : s.p.head? = some 60 ∧ pendB s s.p = true ∧ s.p ≠ [60, 33, 45, 45] := by
      rcases h.z hk with q | q
      · exact absurd q hp
      · exact q
    have hr : s.r = [] := by
      rcases h.y with q | q
      · exact absurd q hp
      · exact q
    split at g
    · rename_i hpc
      split at g
      · cases g
      · rename_i hre
        injection g with g
        subst g
        refine ⟨fun q => absurd q (by show s.k ≠ 3; omega), fun q => absurd q (by show s.k ≠ 4; omega), .inr hr, fun _ => .inr ⟨?_, hpc, hre⟩⟩
        show (s.p ++ [c]).head? = some 60
        cases hsp : s.p with
        | nil => exact absurd hsp hp
        | cons a x => rw [hsp] at hhd; exact hhd
    · split at g
      · exact within_inv g
      · obtain ⟨u, g1, g2⟩ := andThen_ok g
        have hke := sub_keeps g1
        exact rawOne_inv (by rw [hke.1]; exact hk) hke.2.2.2.2 g2
theorem end_snoc (e : List UInt8) (x : UInt8) (hx : x ≠ 47) : endE (e ++ [x]) = endE e := by
  cases e with
  | nil =>
    unfold endE
    simp
    exact hx
  | cons a t => rfl
theorem low_ne {c : UInt8} (h : c ≠ 47) : low c ≠ 47 := fun g => h (low_is g)
theorem go_inv {s t : Sc} {c : UInt8} (hm : May s) (h : Inv s) (g : goS s c = .ok t) : Inv t := by
  have pz : s.k < 16 → s.p = [] := fun q => by
    rcases hm.p1 with r | r
    · omega
    · exact r
  unfold goS at g
  by_cases h0 : s.k = 0
  · rw [if_pos h0] at g
    unfold dataS at g
    split at g
    · injection g with g; subst g; exact inv_plain rfl (by simp) (by simp)
    · exact char_inv (pz (by omega)) (by omega) (by omega) g
  rw [if_neg h0] at g
  by_cases h1 : s.k = 1
  · rw [if_pos h1] at g
    unfold openS at g
    split at g
    · rename_i hl
      injection g with g
      subst g
      refine ⟨fun _ => ?_, fun q => absurd q (by simp), .inl rfl, fun q => absurd q (by simp)⟩
      show ([low c].head? == some 47) = false
      have := (let_at hl).2.2.2
      simp [this]
    · split at g
      · injection g with g; subst g; exact inv_plain rfl (by simp) (by simp)
      · split at g
        · injection g with g; subst g; exact inv_plain rfl (by simp) (by simp)
        · split at g
          · injection g with g; subst g; exact inv_plain rfl (by simp) (by simp)
          · unfold dataS at g
            split at g
            · injection g with g; subst g; exact inv_plain rfl (by simp) (by simp)
            · exact char_inv (s := sc0) rfl (by simp) (by simp) g
  rw [if_neg h1] at g
  by_cases h2 : s.k = 2
  · rw [if_pos h2] at g
    unfold endOpenS at g
    split at g
    · injection g with g
      subst g
      exact ⟨fun q => absurd q (by simp), fun _ => rfl, .inl rfl, fun q => absurd q (by simp)⟩
    · split at g
      · injection g with g; subst g; exact inv_plain rfl (by simp) (by simp)
      · injection g with g; subst g; exact inv_plain rfl (by simp) (by simp)
  rw [if_neg h2] at g
  by_cases h3 : s.k = 3 ∨ s.k = 4
  · rw [if_pos h3] at g
    unfold nameS at g
    split at g
    · exact within_inv g
    · rename_i hq
      split at g
      · cases g
      · injection g with g
        subst g
        have hx := low_ne (c := c) (fun q => hq (.inr (.inl q)))
        refine ⟨fun q => ?_, fun q => ?_, .inl (pz (by omega)), fun q => absurd q (by show ¬ 17 ≤ s.k; omega)⟩
        · show endE (s.e ++ [low c]) = false
          rw [end_snoc _ _ hx]
          exact h.t3 q
        · show endE (s.e ++ [low c]) = true
          rw [end_snoc _ _ hx]
          exact h.t4 q
  rw [if_neg h3] at g
  by_cases h5 : s.k = 5 ∨ s.k = 11 ∨ s.k = 12
  · rw [if_pos h5] at g; exact within_inv g
  rw [if_neg h5] at g
  by_cases h6 : s.k = 6 ∨ s.k = 7
  · rw [if_pos h6] at g
    have hp := pz (by omega)
    unfold attrS at g
    split at g
    · injection g with g; subst g; exact inv_plain hp (by simp) (by simp)
    · split at g
      · injection g with g; subst g; exact inv_plain hp (by simp) (by simp)
      · split at g
        · exact within_inv g
        · split at g
          · cases g
          · injection g with g; subst g; exact inv_plain hp (by show s.k ≠ 3; omega) (by show s.k ≠ 4; omega)
  rw [if_neg h6] at g
  by_cases h8 : s.k = 8
  · rw [if_pos h8] at g
    have hp := pz (by omega)
    unfold wantS at g
    split at g
    · injection g with g; subst g; exact h
    · split at g
      · injection g with g; subst g; exact inv_plain hp (by simp) (by simp)
      · split at g
        · exact end_inv g
        · exact char_inv (s := { s with k := 10 }) hp (by simp) (by simp) g
  rw [if_neg h8] at g
  by_cases h9 : s.k = 9
  · rw [if_pos h9] at g
    unfold valueS at g
    split at g
    · obtain ⟨u, _, g2⟩ := andThen_ok g
      injection g2 with g2; subst g2; exact inv_plain rfl (by simp) (by simp)
    · exact char_inv (pz (by omega)) (by omega) (by omega) g
  rw [if_neg h9] at g
  by_cases h10 : s.k = 10
  · rw [if_pos h10] at g
    unfold bareS at g
    split at g
    · obtain ⟨u, _, g2⟩ := andThen_ok g
      exact within_inv g2
    · exact char_inv (pz (by omega)) (by omega) (by omega) g
  rw [if_neg h10] at g
  by_cases h13 : s.k = 13 ∨ s.k = 14
  · rw [if_pos h13] at g
    unfold bangS at g
    repeat' split at g
    all_goals (injection g with g; subst g; exact inv_plain rfl (by simp) (by simp))
  rw [if_neg h13] at g
  by_cases h15 : s.k = 15
  · rw [if_pos h15] at g
    unfold bogusS at g
    split at g
    · injection g with g; subst g; exact inv_plain rfl (by simp) (by simp)
    · injection g with g; subst g; exact h
  rw [if_neg h15] at g
  by_cases h16 : s.k = 16
  · rw [if_pos h16] at g
    have hr : s.r = [] := by
      rcases hm.r1 with q | q
      · rw [h16] at q; exact absurd q (by decide)
      · exact q
    have mk : ∀ p : List UInt8, Inv { s with p := p } := fun p => ⟨fun q => absurd q (by show s.k ≠ 3; omega), fun q => absurd q (by show s.k ≠ 4; omega), .inr hr, fun q => absurd q (by show ¬ 17 ≤ s.k; omega)⟩
    unfold commentS at g
    split at g
    · injection g with g; subst g; exact mk _
    · split at g
      · injection g with g; subst g; exact inv_plain rfl (by simp) (by simp)
      · split at g
        · injection g with g; subst g; exact mk _
        · injection g with g; subst g; exact h
  rw [if_neg h16] at g
  have := hm.k
  exact raw_inv (by omega) h g
theorem go_reach {s t : Sc} {c : UInt8} (h : Reach s) (g : goS s c = .ok t) : Reach t := ⟨go_may h.1 g, go_inv h.1 h.2 g⟩
theorem start_reach : Reach sc0 := ⟨none_may 0 (by decide) (by decide), inv_plain rfl (by simp) (by simp)⟩

theorem goC_ok {s u : Sc} {c : UInt8} : goC s c = .ok u ↔ goS s c = .ok u := by
  unfold goC
  by_cases h : s.k = 10 ∧ c = 62 ∧ elemN s.e = 4
  · rw [if_pos h]
    refine ⟨fun g => (by cases g), fun g => ?_⟩
    exfalso
    obtain ⟨h1, h2, h3⟩ := h
    unfold goS at g
    rw [if_neg (by omega), if_neg (by omega), if_neg (by omega), if_neg (by omega), if_neg (by omega), if_neg (by omega), if_neg (by omega), if_neg (by omega), if_pos h1] at g
    unfold bareS at g
    rw [if_pos (.inr h2)] at g
    obtain ⟨v, g1, g2⟩ := andThen_ok g
    have he := (flush_keeps g1).2.1
    unfold withinS at g2
    rw [if_neg (by rw [h2]; decide), if_neg (by rw [h2]; decide), if_pos h2, he] at g2
    unfold endS at g2
    rw [if_neg (by omega), if_neg (by omega), if_neg (by omega), if_pos h3] at g2
    cases g2
  · rw [if_neg h]
def runC (s : Sc) : List UInt8 → Except (Nat × Nat) Sc
  | [] => .ok s
  | c :: t => match goC s c with
    | .error e => .error (0, e)
    | .ok u => match runC u t with
      | .error (k, e) => .error (k + 1, e)
      | .ok v => .ok v
theorem runC_eq (s : Sc) (c : UInt8) (t : List UInt8) : runC s (c :: t) = match goC s c with
    | .error e => .error (0, e)
    | .ok u => match runC u t with
      | .error (k, e) => .error (k + 1, e)
      | .ok v => .ok v := rfl
theorem runC_ok (l : List UInt8) : ∀ {s v : Sc}, runC s l = .ok v ↔ runS s l = .ok v := by
  induction l with
  | nil => intro s v; rfl
  | cons c t ih =>
    intro s v
    rw [runC_eq, runS_eq]
    constructor
    · intro h
      cases hg : goC s c with
      | error e => rw [hg] at h; cases h
      | ok u =>
        rw [hg] at h
        simp only at h
        rw [goC_ok.1 hg]
        simp only
        cases hr : runC u t with
        | error x => rw [hr] at h; cases h
        | ok y =>
          rw [hr] at h
          rw [ih.1 hr]
          exact h
    · intro h
      cases hg : goS s c with
      | error e => rw [hg] at h; cases h
      | ok u =>
        rw [hg] at h
        simp only at h
        rw [goC_ok.2 hg]
        simp only
        cases hr : runS u t with
        | error x => rw [hr] at h; cases h
        | ok y =>
          rw [hr] at h
          rw [ih.2 hr]
          exact h
theorem run_reach (l : List UInt8) : ∀ {s v : Sc}, Reach s → runC s l = .ok v → Reach v := by
  induction l with
  | nil =>
    intro s v h g
    injection g with g
    subst g
    exact h
  | cons c t ih =>
    intro s v h g
    obtain ⟨u, h1, h2⟩ := runS_cons ((runC_ok (c :: t)).1 g)
    exact ih (go_reach h h1) ((runC_ok t).2 h2)
theorem runC_append (a b : List UInt8) : ∀ (s : Sc), runC s (a ++ b) = match runC s a with
    | .error x => .error x
    | .ok u => match runC u b with
      | .error (k, e) => .error (a.length + k, e)
      | .ok v => .ok v := by
  induction a with
  | nil =>
    intro s
    show runC s b = match runC s b with
      | .error (k, e) => .error (0 + k, e)
      | .ok v => .ok v
    cases runC s b with
    | error x => obtain ⟨k, e⟩ := x; simp
    | ok v => rfl
  | cons c t ih =>
    intro s
    rw [List.cons_append, runC_eq, runC_eq]
    cases goC s c with
    | error e => rfl
    | ok u =>
      simp only [ih u]
      cases runC u t with
      | error x => rfl
      | ok v =>
        simp only
        cases runC v b with
        | error x =>
          obtain ⟨k, e⟩ := x
          simp only [List.length_cons]
          have e1 : t.length + k + 1 = t.length + 1 + k := by omega
          rw [e1]
        | ok y => rfl
theorem err_sub {k : Nat} {s : Sc} {x : List UInt8} {e : Nat} (h : subK k s x = .error e) : e ≠ 0 ∧ e < 100 := by
  unfold subK at h
  repeat' split at h
  all_goals first | (cases h; done) | (injection h with h; omega)
theorem err_then {x : Res} {f : Sc → Res} {e : Nat} (hx : ∀ e, x = .error e → e ≠ 0 ∧ e < 100) (hf : ∀ u e, f u = .error e → e ≠ 0 ∧ e < 100) (h : andThen x f = .error e) : e ≠ 0 ∧ e < 100 := by
  cases x with
  | error d => injection h with h; subst h; exact hx _ rfl
  | ok u => exact hf u e h
theorem err_amp {s : Sc} {c : UInt8} {e : Nat} (h : ampS s c = .error e) : e ≠ 0 ∧ e < 100 := by
  unfold ampS at h
  split at h
  · cases h
  · exact err_sub h
theorem err_char {s : Sc} {c : UInt8} {e : Nat} (h : charS s c = .error e) : e ≠ 0 ∧ e < 100 := by
  unfold charS at h
  split at h
  · exact err_amp h
  · split at h
    · exact err_sub h
    · split at h
      · cases h
      · exact err_then (fun _ => err_sub) (fun _ _ => err_amp) h
theorem err_end {l : List UInt8} {e : Nat} (h : endS l = .error e) : e ≠ 0 ∧ e < 100 := by
  unfold endS at h
  repeat' split at h
  all_goals first | (cases h; done) | (injection h with h; omega)
theorem err_within {l : List UInt8} {c : UInt8} {e : Nat} (h : withinS l c = .error e) : e ≠ 0 ∧ e < 100 := by
  unfold withinS at h
  repeat' split at h
  all_goals first | (cases h; done) | exact err_end h
theorem err_data {s : Sc} {c : UInt8} {e : Nat} (h : dataS s c = .error e) : e ≠ 0 ∧ e < 100 := by
  unfold dataS at h
  split at h
  · cases h
  · exact err_char h
theorem err_rawOne {s : Sc} {c : UInt8} {e : Nat} (h : rawOne s c = .error e) : e ≠ 0 ∧ e < 100 := by
  unfold rawOne at h
  split at h
  · cases h
  · split at h
    · exact err_char h
    · exact err_sub h
theorem err_go {s : Sc} {c : UInt8} {e : Nat} (h : goC s c = .error e) : e ≠ 0 ∧ e < 100 := by
  unfold goC at h
  split at h
  · injection h with h; omega
  · unfold goS at h
    by_cases h0 : s.k = 0
    · rw [if_pos h0] at h; exact err_data h
    rw [if_neg h0] at h
    by_cases h1 : s.k = 1
    · rw [if_pos h1] at h
      unfold openS at h
      repeat' split at h
      all_goals first | (cases h; done) | exact err_data h
    rw [if_neg h1] at h
    by_cases h2 : s.k = 2
    · rw [if_pos h2] at h
      unfold endOpenS at h
      repeat' split at h
      all_goals (cases h; done)
    rw [if_neg h2] at h
    by_cases h3 : s.k = 3 ∨ s.k = 4
    · rw [if_pos h3] at h
      unfold nameS at h
      repeat' split at h
      all_goals first | (cases h; done) | exact err_within h | (injection h with h; omega)
    rw [if_neg h3] at h
    by_cases h5 : s.k = 5 ∨ s.k = 11 ∨ s.k = 12
    · rw [if_pos h5] at h; exact err_within h
    rw [if_neg h5] at h
    by_cases h6 : s.k = 6 ∨ s.k = 7
    · rw [if_pos h6] at h
      unfold attrS at h
      repeat' split at h
      all_goals first | (cases h; done) | exact err_within h | (injection h with h; omega)
    rw [if_neg h6] at h
    by_cases h8 : s.k = 8
    · rw [if_pos h8] at h
      unfold wantS at h
      repeat' split at h
      all_goals first | (cases h; done) | exact err_end h | exact err_char h
    rw [if_neg h8] at h
    by_cases h9 : s.k = 9
    · rw [if_pos h9] at h
      unfold valueS at h
      split at h
      · exact err_then (fun _ => err_sub) (fun _ _ q => by cases q) h
      · exact err_char h
    rw [if_neg h9] at h
    by_cases h10 : s.k = 10
    · rw [if_pos h10] at h
      unfold bareS at h
      split at h
      · exact err_then (fun _ => err_sub) (fun _ _ => err_within) h
      · exact err_char h
    rw [if_neg h10] at h
    by_cases h13 : s.k = 13 ∨ s.k = 14
    · rw [if_pos h13] at h
      unfold bangS at h
      repeat' split at h
      all_goals (cases h; done)
    rw [if_neg h13] at h
    by_cases h15 : s.k = 15
    · rw [if_pos h15] at h
      unfold bogusS at h
      split at h
      all_goals (cases h; done)
    rw [if_neg h15] at h
    by_cases h16 : s.k = 16
    · rw [if_pos h16] at h
      unfold commentS at h
      repeat' split at h
      all_goals (cases h; done)
    rw [if_neg h16] at h
    unfold rawS at h
    split at h
    · exact err_rawOne h
    · split at h
      · split at h
        · injection h with h; omega
        · cases h
      · split at h
        · exact err_within h
        · exact err_then (fun _ => err_sub) (fun _ _ => err_rawOne) h
theorem err_run (l : List UInt8) : ∀ {s : Sc} {k e : Nat}, runC s l = .error (k, e) → e ≠ 0 ∧ e < 100 ∧ k < l.length := by
  induction l with
  | nil => intro s k e h; cases h
  | cons c t ih =>
    intro s k e h
    rw [runC_eq] at h
    cases hg : goC s c with
    | error d =>
      rw [hg] at h
      injection h with h
      injection h with h1 h2
      subst h1 h2
      have := err_go hg
      exact ⟨this.1, this.2, by simp⟩
    | ok u =>
      rw [hg] at h
      simp only at h
      cases hr : runC u t with
      | error x =>
        obtain ⟨k2, e2⟩ := x
        rw [hr] at h
        injection h with h
        injection h with h1 h2
        subst h2
        obtain ⟨q1, q2, q3⟩ := ih hr
        refine ⟨q1, q2, ?_⟩
        rw [List.length_cons]
        omega
      | ok y => rw [hr] at h; cases h
end Go.Proofs.YtklpbkjplecdpaaGreat.Scn

/-
  Contracts of the page's Elements, Element, Attribute and Void.
-/
namespace Go.Proofs.YtklpbkjplecdpaaGreat.Tab
open Go.RowKit Oct

theorem eqT (a b : List UInt8) : ((S a).toList == (S b).toList) = decide (a = b) := by
  rw [ByteArray.toList_eq, ByteArray.toList_eq, list_S, list_S, Bool.eq_iff_iff]
  simp
theorem eqTL (a b : List UInt8) : ((S a).toList == b) = decide (a = b) := by
  rw [ByteArray.toList_eq, list_S, Bool.eq_iff_iff]
  simp
def Texts (g : Nat) (ls : List (List UInt8)) (w : World) : Prop := ∀ j, (h : j < ls.length) → w.cell? ⟨g, j, none⟩ = some (.string (S ls[j]))

theorem laid_texts (ls : List (List UInt8)) (w : World) : Texts w.heap.size ls (w.alloc (.cells (ls.map (fun l => Value.string (S l))).toArray 9)) := by
  intro j h
  have hh : (w.alloc (.cells (ls.map (fun l => Value.string (S l))).toArray 9)).heap[w.heap.size]? = some (.cells (ls.map (fun l => Value.string (S l))).toArray 9 (0, 0)) := heap_alloc_new w _
  unfold World.cell?
  rw [hh]
  simp [h]

theorem rElements_c (w : World) :
    Calls Tryz.prog 112 #[] w fun e w' => e = .returned (.slice (some ⟨w.heap.size, 0, none⟩) 10 10) ∧ Texts w.heap.size elsL w' ∧ Below w.heap.size w w' := by
  go_enter Tryz.func112, Tryz.ntmps112
  go_wp2_with fail
  go_ret
  exact ⟨rfl, laid_texts elsL w, (Below.refl _ w).alloc (Nat.le_refl _) _⟩

set_option maxHeartbeats 1000000 in
theorem rElement_c (s : List UInt8) (w : World) :
    Calls Tryz.prog 92 #[.string (S s)] w fun e w' => e = .returned (.int .i64 (elemN s : Nat)) ∧ Below w.heap.size w w' := by
  have hel := rElements_c w
  have HE := Lib.hid (fun a => eqT a s)
  have HP : Hid (∀ k, (hk : k < elsL.length) → (∀ j, (h : j < elsL.length) → j < k → elsL[j] ≠ s) → elsL[k] = s → elemN s = codeN k) := fun k hk hn he => by
    unfold elemN
    rw [place_some hk hn he]
  have HQ : Hid ((∀ k, (h : k < elsL.length) → elsL[k] ≠ s) → elemN s = 0) := fun h => by
    unfold elemN
    rw [place_none h]
  generalize elemN s = ans at HP HQ ⊢
  generalize S s = T at HE
  go_enter Tryz.func92, Tryz.ntmps92
  go_wp2_with fail
  refine hel.mono ?_
  rintro e w1 ⟨rfl, ht, hb1⟩
  have H := Lib.hid ht
  have HB := Lib.hid hb1
  clear ht hb1 hel
  go_wp2_with fail
  go_loop [4] (fun i => ∃ k : Nat, k ≤ 10 ∧ i = .int .i64 k ∧ Hid (∀ j, (h : j < elsL.length) → j < k → elsL[j] ≠ s)) (fun i => 10 - (intOf i).toNat)
  case atStart => exact ⟨0, Nat.zero_le _, rfl, fun j _ h => absurd h (by omega)⟩
  case round =>
    obtain ⟨k, hk, rfl, hno⟩ := hrel
    by_cases hlt : k < 10
    · have hlt2 : k < elsL.length := hlt
      have hc := H.out k hlt2
      have he := HE.out elsL[k]
      have hp := HP.out k hlt2 hno.out
      have i0 : (0 : Int) ≤ (k : Int) := by omega
      have i1 : (k : Int) < 10 := by omega
      obtain ⟨x, hx⟩ : ∃ x, x = elsL[k] := ⟨_, rfl⟩
      rw [← hx] at hc he hp
      have HX := Lib.hid hx
      clear hx
      by_cases hq : x = s
      · have HR := Lib.hid (hp hq)
        rw [decide_eq_true hq] at he
        clear hq hp
        generalize S x = X at hc he
        go_wp2_with fail
        all_goals go_ret
        all_goals refine ⟨ret_int ?_, HB.out⟩
        all_goals (rw [HR.out]; unfold codeN; repeat' split)
        all_goals omega
      · have HN : Hid (∀ j, (h : j < elsL.length) → j < k + 1 → elsL[j] ≠ s) := fun j h hj => by
          rcases Nat.lt_or_ge j k with h2 | h2
          · exact hno.out j h h2
          · obtain rfl : j = k := by omega
            rw [← HX.out]; exact hq
        rw [decide_eq_false hq] at he
        clear hq hp
        generalize S x = X at hc he
        go_wp2_with fail
        go_round
        case rel => exact ⟨k + 1, by omega, by go_num, HN⟩
        case measure => simp [intOf]; omega
    · have HR := Lib.hid (HQ.out fun j h => hno.out j h (by have : j < 10 := h; omega))
      go_wp2_with fail
      go_ret
      exact ⟨ret_int (by rw [HR.out]; rfl), HB.out⟩

end Go.Proofs.YtklpbkjplecdpaaGreat.Tab

/-
  Contracts of package tables: specials, Element, Elements, Attribute, Void, and of the closures that they look by.
-/
namespace Go.Proofs.YtklpbkjplecdpaaGreat.Tab
open Go.RowKit Oct

def Specs (g : Nat) (w : World) : Prop := ∀ j, (h : j < elsL.length) → w.cell? ⟨g, j * 2, none⟩ = some (.string (S elsL[j])) ∧ w.cell? ⟨g, j * 2 + 1, none⟩ = some (.int .i64 (codeN j : Nat))
theorem Specs.kept {g : Nat} {w w' : World} (h : Specs g w) (hb : Below w.heap.size w w') : Specs g w' := fun j hj =>
  ⟨(hb.cell (World.block_lt_of_cell? w _ (h j hj).1)).trans (h j hj).1, (hb.cell (World.block_lt_of_cell? w _ (h j hj).2)).trans (h j hj).2⟩
abbrev specA : Array Value := (((List.range 10).zip elsL).flatMap fun p => [Value.string (S p.2), Value.int .i64 (codeN p.1 : Nat)]).toArray
theorem laid_specs (w : World) : Specs w.heap.size (w.alloc (.cells specA 119)) := by
  have hh : (w.alloc (.cells specA 119)).heap[w.heap.size]? = some (.cells specA 119 (0, 0)) := heap_alloc_new w _
  have hall : ∀ j : Fin 10, specA[j.val * 2]? = some (.string (S elsL[j.val])) ∧ specA[j.val * 2 + 1]? = some (.int .i64 (codeN j.val : Nat)) := by
    intro ⟨j, hj⟩
    have : j = 0 ∨ j = 1 ∨ j = 2 ∨ j = 3 ∨ j = 4 ∨ j = 5 ∨ j = 6 ∨ j = 7 ∨ j = 8 ∨ j = 9 := by omega
    rcases this with rfl | rfl | rfl | rfl | rfl | rfl | rfl | rfl | rfl | rfl <;> exact ⟨rfl, rfl⟩
  intro j h
  have hj := hall ⟨j, h⟩
  unfold World.cell?
  rw [hh]
  exact ⟨by simpa using hj.1, by simpa using hj.2⟩
theorem specials_c (w : World) :
    Calls Tryz.prog 121 #[] w fun e w' => ∃ g, e = .returned (.slice (some ⟨g, 0, none⟩) 10 10) ∧ Specs g w' ∧ Below w.heap.size w w' := by
  go_enter Tryz.func121, Tryz.ntmps121
  go_wp2_with fail
  go_ret
  exact ⟨_, rfl, laid_specs w, (Below.refl _ w).alloc (Nat.le_refl _) _⟩

theorem same_name (x s : List UInt8) (c : Int) (b : Nat) (w : World) (hb : w.cell? ⟨b, 0, none⟩ = some (.string (S s))) (hlt : b < w.heap.size) :
    Calls Tryz.prog 123 #[.agg #[.string (S x), .int .i64 c], .pointer (some ⟨b, 0, none⟩)] w fun e w' => e = .returned (.bool (decide (x = s))) ∧ Below w.heap.size w w' := by
  have he := eqT x s
  generalize decide (x = s) = ans at he ⊢
  generalize S x = X at he ⊢
  generalize S s = T at he hb
  have hb2 : (w.alloc (.cells #[.string X, .int .i64 c] 119)).cell? ⟨b, 0, none⟩ = some (.string T) := by rw [World.cell?_alloc_past _ _ _ hlt]; exact hb
  go_enter Tryz.func123, Tryz.ntmps123
  go_wp2_with fail
  go_ret
  exact ⟨rfl, (Below.refl _ w).alloc (Nat.le_refl _) _⟩
theorem enter_same : ∀ args w, (callFunc 123 args).run Tryz.prog w = .ok (.enter 123 args) w := enters_of Tryz.func123 (by kernel_rfl) rfl
def placeI (s : List UInt8) : Int := match placeL s elsL with
  | some k => (k : Nat)
  | none => -1
set_option maxHeartbeats 2000000 in
theorem index_c (s : List UInt8) (g b : Nat) (w : World) (hs : Specs g w) (hb : w.cell? ⟨b, 0, none⟩ = some (.string (S s))) :
    Calls Tryz.prog 122 #[.slice (some ⟨g, 0, none⟩) 10 10, .func (.func 123) #[] #[.pointer (some ⟨b, 0, none⟩)]] w
      fun e w' => e = .returned (.int .i64 (placeI s)) ∧ Below w.heap.size w w' := by
  have hlt := World.block_lt_of_cell? w _ hb
  have eg := enter_same
  have HS := Lib.hid hs
  have HC := Lib.hid (fun (W : World) (h : Below w.heap.size w W) (x : List UInt8) (c : Int) => same_name x s c b W ((h.cell hlt).trans hb) (Nat.lt_of_lt_of_le hlt h.size))
  have HP : Hid (∀ k, (hk : k < elsL.length) → (∀ j, (h : j < elsL.length) → j < k → elsL[j] ≠ s) → elsL[k] = s → placeI s = (k : Nat)) := fun k hk hn he => by
    unfold placeI
    rw [place_some hk hn he]
  have HQ : Hid ((∀ k, (h : k < elsL.length) → elsL[k] ≠ s) → placeI s = -1) := fun h => by
    unfold placeI
    rw [place_none h]
  generalize placeI s = ans at HP HQ ⊢
  clear hs hb hlt
  go_enter Tryz.func122, Tryz.ntmps122
  go_wp2
  go_loopw [5, 8] (fun _ i wr => ∃ k : Nat, k ≤ 10 ∧ i = .int .i64 k ∧ Hid (Below w.heap.size w wr) ∧ Hid (∀ j, (h : j < elsL.length) → j < k → elsL[j] ≠ s)) (fun _ i _ => 10 - (intOf i).toNat)
  case atStart => exact ⟨0, Nat.zero_le _, rfl, Below.refl _ _, fun j _ h => absurd h (by omega)⟩
  case round =>
    obtain ⟨k, hk, rfl, hbel, hno⟩ := hrel
    by_cases hlt : k < 10
    · have hlt2 : k < elsL.length := hlt
      obtain ⟨c1, c2⟩ := (HS.out.kept hbel.out) k hlt2
      have hcall := HC.out wr hbel.out elsL[k] (codeN k : Nat)
      have hp := HP.out k hlt2 hno.out
      have i0 : (0 : Int) ≤ (k : Int) := by omega
      have i1 : (k : Int) < 10 := by omega
      generalize (codeN k : Int) = c at c2 hcall
      obtain ⟨x, hx⟩ : ∃ x, x = elsL[k] := ⟨_, rfl⟩
      rw [← hx] at c1 hcall hp
      have HX := Lib.hid hx
      clear hx
      by_cases hq : x = s
      · have HR := Lib.hid (hp hq)
        rw [decide_eq_true hq] at hcall
        clear hq hp
        generalize S x = X at c1 hcall
        go_wp2_with (go_at_fn 123; refine hcall.mono ?_; rintro e w' ⟨rfl, hb'⟩)
        go_ret
        exact ⟨ret_int (by rw [HR.out]), hbel.out.trans (hb'.mono hbel.out.size)⟩
      · have HN : Hid (∀ j, (h : j < elsL.length) → j < k + 1 → elsL[j] ≠ s) := fun j h hj => by
          rcases Nat.lt_or_ge j k with h2 | h2
          · exact hno.out j h h2
          · obtain rfl : j = k := by omega
            rw [← HX.out]; exact hq
        rw [decide_eq_false hq] at hcall
        clear hq hp
        generalize S x = X at c1 hcall
        go_wp2_with (go_at_fn 123; refine hcall.mono ?_; rintro e w' ⟨rfl, hb'⟩)
        go_roundw
        case rel => exact ⟨k + 1, by omega, by go_num, hbel.out.trans (hb'.mono hbel.out.size), HN⟩
        case measure => simp [intOf]; omega
    · have HR := Lib.hid (HQ.out fun j h => hno.out j h (by have : j < 10 := h; omega))
      go_wp2
      go_ret
      exact ⟨ret_int (by rw [HR.out]), hbel.out⟩

theorem place_lt {s : List UInt8} : ∀ {l : List (List UInt8)} {k : Nat}, placeL s l = some k → k < l.length
  | [], k, h => by cases h
  | x :: r, k, h => by
    unfold placeL at h
    split at h
    · cases h; simp
    · cases hp : placeL s r with
      | none => rw [hp] at h; cases h
      | some m =>
        rw [hp] at h
        cases h
        have := place_lt hp
        simp only [List.length_cons]
        omega
set_option maxHeartbeats 1000000 in
theorem element_c (s : List UInt8) (w : World) :
    Calls Tryz.prog 104 #[.string (S s)] w fun e w' => e = .returned (.int .i64 (elemN s : Nat)) ∧ Below w.heap.size w w' := by
  have hx := fun g b W => index_c s g b W
  have E0 : Hid (placeL s elsL = none → placeI s = -1 ∧ elemN s = 0) := fun h => by unfold placeI elemN; rw [h]; exact ⟨rfl, rfl⟩
  have E1 : Hid (∀ k, placeL s elsL = some k → placeI s = (k : Nat) ∧ elemN s = codeN k ∧ k < 10) := fun k h => by
    have hl : k < elsL.length := place_lt h
    unfold placeI elemN
    rw [h]
    exact ⟨rfl, rfl, hl⟩
  generalize elemN s = ans at E0 E1 ⊢
  generalize placeI s = at0 at E0 E1 hx
  generalize placeL s elsL = pl at E0 E1
  generalize S s = T at hx ⊢
  have hc0 : (w.alloc (.cells #[.string T] 9)).cell? ⟨w.heap.size, 0, none⟩ = some (.string T) := by simp
  have HC0 := Lib.hid hc0
  clear hc0
  go_enter Tryz.func104, Tryz.ntmps104
  go_wp2_with fail
  refine (specials_c _).mono ?_
  rintro e w1 ⟨g, rfl, hs, hb1⟩
  have hcell : w1.cell? ⟨w.heap.size, 0, none⟩ = some (.string T) := (hb1.cell (by simp)).trans HC0.out
  have HB1 : Hid (Below w.heap.size w w1) := ((Below.refl _ w).alloc (Nat.le_refl _) _).trans (hb1.mono (by simp))
  have hcall := hx g w.heap.size w1 hs hcell
  have HS := Lib.hid hs
  clear hs hb1 hx HC0 hcell
  go_wp2_with fail
  refine hcall.mono ?_
  rintro e w2 ⟨rfl, hb2⟩
  have HS2 := Lib.hid (HS.out.kept hb2)
  have HB2 : Hid (Below w.heap.size w w2) := HB1.out.trans (hb2.mono HB1.out.size)
  clear hb2 hcall HS HB1
  cases pl with
  | none =>
    obtain ⟨rfl, rfl⟩ := E0.out rfl
    clear E0 E1
    go_wp2_with fail
    go_ret
    exact ⟨rfl, HB2.out⟩
  | some k =>
    obtain ⟨rfl, rfl, hk⟩ := E1.out k rfl
    clear E0 E1
    have c2 := (HS2.out k hk).2
    have i0 : (0 : Int) ≤ (k : Int) := by omega
    have i1 : (k : Int) < 10 := by omega
    have i2 : ¬ (k : Int) < 0 := by omega
    generalize hcd : (codeN k : Int) = c at c2
    have HD := Lib.hid hcd
    clear hcd
    go_wp2_with fail
    go_ret
    exact ⟨ret_int HD.out.symm, HB2.out⟩

theorem is_c (ls : List (List UInt8)) (hl : ls.length ≤ 1000) (s : List UInt8) (g cap b : Nat) (w : World) (ht : Texts g ls w) (hb : w.cell? ⟨b, 0, none⟩ = some (.string (S s))) :
    Calls Tryz.prog 130 #[.slice (some ⟨g, 0, none⟩) ls.length cap, .pointer (some ⟨b, 0, none⟩)] w fun e w' => e = .returned (.bool (inL ls s)) ∧ w = w' := by
  have hc := Tryz.slices_Contains_string g 0 ls.length cap (ls.map S) (S s) w (by simp) (by omega) (fun j hj => by
    have hj2 : j < ls.length := by simpa using hj
    rw [Nat.zero_add, ht j hj2, List.getD_eq_getElem?_getD, List.getElem?_map, List.getElem?_eq_getElem hj2]
    rfl)
  have e : Lib.containsS ((ls.map S).take ls.length) (S s) = inL ls s := by
    rw [List.take_of_length_le (by simp), Bool.eq_iff_iff, Lib.containsS_iff]
    unfold inL
    rw [decide_eq_true_eq, List.mem_map]
    constructor
    · rintro ⟨x, hx, hxs⟩
      have : x = s := by
        have h2 := congrArg (fun t : ByteArray => t.data.toList) hxs
        simpa using h2
      exact this ▸ hx
    · exact fun h => ⟨s, h, rfl⟩
  rw [e] at hc
  generalize inL ls s = ans at hc ⊢
  generalize S s = T at hc hb
  clear ht e hl
  generalize ls.length = n at hc ⊢
  go_enter Tryz.func130, Tryz.ntmps130
  go_wp2_with (go_at_call 131; refine hc.mono ?_; rintro e w' ⟨rfl, rfl⟩)
  go_ret
  exact ⟨rfl, rfl⟩
theorem begins_c (p s : List UInt8) (b : Nat) (w : World) (hb : w.cell? ⟨b, 0, none⟩ = some (.string (S s))) :
    Calls Tryz.prog 132 #[.string (S p), .pointer (some ⟨b, 0, none⟩)] w fun e w' => e = .returned (.bool (preL p s)) ∧ w = w' := by
  have hc := Tryz.strings_HasPrefix (S s) (S p) w
  have e : Lib.hasPrefix (S s).data.toList (S p).data.toList = preL p s := by
    rw [list_S, list_S]
    unfold Lib.hasPrefix preL
    rw [Bool.eq_iff_iff, List.isPrefixOf_iff_prefix, decide_eq_true_eq]
  rw [e] at hc
  generalize preL p s = ans at hc ⊢
  generalize S s = T at hc hb
  generalize S p = P at hc ⊢
  clear e
  go_enter Tryz.func132, Tryz.ntmps132
  go_wp2_with (go_at_call 88; refine hc.mono ?_; rintro e w' ⟨rfl, rfl⟩)
  go_ret
  exact ⟨rfl, rfl⟩
theorem enter_is : ∀ args w, (callFunc 130 args).run Tryz.prog w = .ok (.enter 130 args) w := enters_of Tryz.func130 (by kernel_rfl) rfl
theorem enter_begins : ∀ args w, (callFunc 132 args).run Tryz.prog w = .ok (.enter 132 args) w := enters_of Tryz.func132 (by kernel_rfl) rfl
theorem asked_c (ls : List (List UInt8)) (hl : ls.length ≤ 1000) (s : List UInt8) (b n : Nat) (w W : World) (hw : Hid (Below w.heap.size w W)) (hb : Hid (W.cell? ⟨b, 0, none⟩ = some (.string (S s)))) (hn : W.heap.size = n) :
    Calls Tryz.prog 130 #[.slice (some ⟨n, 0, none⟩) ls.length ls.length, .pointer (some ⟨b, 0, none⟩)] (W.alloc (.cells (ls.map (fun l => Value.string (S l))).toArray 9))
      fun e w' => e = .returned (.bool (inL ls s)) ∧ Hid (Below w.heap.size w w') ∧ Hid (w'.cell? ⟨b, 0, none⟩ = some (.string (S s))) := by
  subst hn
  have hlt := World.block_lt_of_cell? W _ hb.out
  refine (is_c ls hl s W.heap.size ls.length b _ (laid_texts ls W) (by rw [World.cell?_alloc_past _ _ _ hlt]; exact hb.out)).mono ?_
  rintro e w' ⟨rfl, rfl⟩
  exact ⟨rfl, hw.out.trans ((Below.refl _ W).alloc (Nat.le_refl _) _ |>.mono hw.out.size), by show _ = _; rw [World.cell?_alloc_past _ _ _ hlt]; exact hb.out⟩
abbrev noneL : List (List UInt8) := [] :: nosL
set_option maxHeartbeats 4000000 in
set_option maxRecDepth 100000 in
theorem attribute_c (elem attr : List UInt8) (w : World) :
    Calls Tryz.prog 116 #[.string (S elem), .string (S attr)] w fun e w' => e = .returned (.int .i64 (attrN elem attr : Nat)) ∧ Below w.heap.size w w' := by
  have E : Hid (attrN elem attr = if inL urlsL attr = true ∨ (inL [dataL] attr = true ∧ decide (elem = objectL) = true) then 1 else if preL onL attr = true then 2 else if inL [styleL] attr = true then 3
    else if inL noneL attr = true ∨ preL xmlnsL attr = true then 4 else 0) := by
    show _ = _
    unfold attrN inL noneL nosL
    simp only [decide_eq_true_eq, List.mem_cons, List.not_mem_nil, or_false, or_assoc]
  have e3 : ((S elem).toList == [111, 98, 106, 101, 99, 116]) = decide (elem = objectL) := eqTL elem objectL
  have hc0 : Hid ((w.alloc (.cells #[.string (S attr)] 9)).cell? ⟨w.heap.size, 0, none⟩ = some (.string (S attr))) := by show _ = _; simp
  have hw0 : Hid (Below w.heap.size w (w.alloc (.cells #[.string (S attr)] 9))) := (Below.refl _ w).alloc (Nat.le_refl _) _
  have q1 := asked_c urlsL (by decide) attr w.heap.size (w.heap.size + 1) w _ hw0 hc0 (by simp)
  have q2 := fun W h1 h2 => asked_c [dataL] (by decide) attr w.heap.size W.heap.size w W h1 h2 rfl
  have q5 := fun W h1 h2 => asked_c [styleL] (by decide) attr w.heap.size W.heap.size w W h1 h2 rfl
  have q6 := fun W h1 h2 => asked_c noneL (by decide) attr w.heap.size W.heap.size w W h1 h2 rfl
  have p4 := fun W h => begins_c onL attr w.heap.size W h
  have p7 := fun W h => begins_c xmlnsL attr w.heap.size W h
  have ei := enter_is
  have eb := enter_begins
  generalize inL urlsL attr = b1 at q1 E
  generalize inL [dataL] attr = b2 at q2 E
  generalize decide (elem = objectL) = b3 at e3 E
  generalize preL onL attr = b4 at p4 E
  generalize inL [styleL] attr = b5 at q5 E
  generalize inL noneL attr = b6 at q6 E
  generalize preL xmlnsL attr = b7 at p7 E
  generalize attrN elem attr = ans at E ⊢
  generalize S elem = U at e3 ⊢
  generalize S attr = T at q1 q2 q5 q6 p4 p7 hc0 hw0 ⊢
  have Q2 := Lib.hid q2
  have Q5 := Lib.hid q5
  have Q6 := Lib.hid q6
  have P4 := Lib.hid p4
  have P7 := Lib.hid p7
  clear q2 q5 q6 p4 p7 hc0 hw0
  go_enter Tryz.func116, Tryz.ntmps116
  have q := q1
  clear q1
  cases b1 with
  | true =>
    go_wp2_with (go_at_fn 130; refine q.mono ?_; rintro e w1 ⟨rfl, HB, HC⟩; clear q)
    go_ret
    exact ⟨ret_int (by rw [E.out]; rfl), HB.out⟩
  | false =>
    go_wp2_with (go_at_fn 130; refine q.mono ?_; rintro e w1 ⟨rfl, HB, HC⟩; clear q)
    have q := Q2.out w1 HB HC
    cases b2 with
    | false =>
      go_wp2_with (go_at_fn 130; refine q.mono ?_; rintro e w2 ⟨rfl, HB2, HC2⟩; clear q)
      have q := P4.out w2 HC2.out
      cases b4 with
      | true =>
        go_wp2_with (go_at_fn 132; refine q.mono ?_; rintro e v ⟨rfl, rfl⟩; clear q)
        go_ret
        exact ⟨ret_int (by rw [E.out]; rfl), HB2.out⟩
      | false =>
        go_wp2_with (go_at_fn 132; refine q.mono ?_; rintro e v ⟨rfl, rfl⟩; clear q)
        have q := Q5.out w2 HB2 HC2
        cases b5 with
        | true =>
          go_wp2_with (go_at_fn 130; refine q.mono ?_; rintro e w5 ⟨rfl, HB5, HC5⟩; clear q)
          go_ret
          exact ⟨ret_int (by rw [E.out]; rfl), HB5.out⟩
        | false =>
          go_wp2_with (go_at_fn 130; refine q.mono ?_; rintro e w5 ⟨rfl, HB5, HC5⟩; clear q)
          have q := Q6.out w5 HB5 HC5
          cases b6 with
          | true =>
            go_wp2_with (go_at_fn 130; refine q.mono ?_; rintro e w6 ⟨rfl, HB6, HC6⟩; clear q)
            go_ret
            exact ⟨ret_int (by rw [E.out]; rfl), HB6.out⟩
          | false =>
            go_wp2_with (go_at_fn 130; refine q.mono ?_; rintro e w6 ⟨rfl, HB6, HC6⟩; clear q)
            have q := P7.out w6 HC6.out
            cases b7 with
            | true =>
              go_wp2_with (go_at_fn 132; refine q.mono ?_; rintro e v ⟨rfl, rfl⟩; clear q)
              go_ret
              exact ⟨ret_int (by rw [E.out]; rfl), HB6.out⟩
            | false =>
              go_wp2_with (go_at_fn 132; refine q.mono ?_; rintro e v ⟨rfl, rfl⟩; clear q)
              go_ret
              exact ⟨ret_int (by rw [E.out]; rfl), HB6.out⟩
    | true =>
      cases b3 with
      | true =>
        go_wp2_with (go_at_fn 130; refine q.mono ?_; rintro e w2 ⟨rfl, HB2, HC2⟩; clear q)
        go_ret
        exact ⟨ret_int (by rw [E.out]; rfl), HB2.out⟩
      | false =>
        go_wp2_with (go_at_fn 130; refine q.mono ?_; rintro e w2 ⟨rfl, HB2, HC2⟩; clear q)
        have q := P4.out w2 HC2.out
        cases b4 with
        | true =>
          go_wp2_with (go_at_fn 132; refine q.mono ?_; rintro e v ⟨rfl, rfl⟩; clear q)
          go_ret
          exact ⟨ret_int (by rw [E.out]; rfl), HB2.out⟩
        | false =>
          go_wp2_with (go_at_fn 132; refine q.mono ?_; rintro e v ⟨rfl, rfl⟩; clear q)
          have q := Q5.out w2 HB2 HC2
          cases b5 with
          | true =>
            go_wp2_with (go_at_fn 130; refine q.mono ?_; rintro e w5 ⟨rfl, HB5, HC5⟩; clear q)
            go_ret
            exact ⟨ret_int (by rw [E.out]; rfl), HB5.out⟩
          | false =>
            go_wp2_with (go_at_fn 130; refine q.mono ?_; rintro e w5 ⟨rfl, HB5, HC5⟩; clear q)
            have q := Q6.out w5 HB5 HC5
            cases b6 with
            | true =>
              go_wp2_with (go_at_fn 130; refine q.mono ?_; rintro e w6 ⟨rfl, HB6, HC6⟩; clear q)
              go_ret
              exact ⟨ret_int (by rw [E.out]; rfl), HB6.out⟩
            | false =>
              go_wp2_with (go_at_fn 130; refine q.mono ?_; rintro e w6 ⟨rfl, HB6, HC6⟩; clear q)
              have q := P7.out w6 HC6.out
              cases b7 with
              | true =>
                go_wp2_with (go_at_fn 132; refine q.mono ?_; rintro e v ⟨rfl, rfl⟩; clear q)
                go_ret
                exact ⟨ret_int (by rw [E.out]; rfl), HB6.out⟩
              | false =>
                go_wp2_with (go_at_fn 132; refine q.mono ?_; rintro e v ⟨rfl, rfl⟩; clear q)
                go_ret
                exact ⟨ret_int (by rw [E.out]; rfl), HB6.out⟩
end Go.Proofs.YtklpbkjplecdpaaGreat.Tab

/-
  Contracts of octets.Name, Starts and Trim: as plain functions of lists of octets.
-/
namespace Go.Proofs.YtklpbkjplecdpaaGreat.Oct
open Go.RowKit

theorem starts_c (s p : ByteArray) (w : World) (hp : p.size ≤ 9223372036854775807) :
    Calls Tryz.prog 87 #[.string s, .string p] w fun e w' => e = .returned (.bool (startsB s.data.toList p.data.toList)) ∧ Below w.heap.size w w' := by
  by_cases hl : s.size < p.size
  · go_enter Tryz.func87, Tryz.ntmps87
    go_wp2
    go_ret
    exact ⟨ret_bool (by unfold startsB; rw [size_list, size_list, decide_eq_false (by omega)]; rfl), ((Below.refl _ w).alloc (Nat.le_refl _) _).alloc (by simp) _⟩
  · have hl' : p.size ≤ s.size := by omega
    have hn := none_c p.size 107 #[.pointer (some ⟨w.heap.size, 0, none⟩), .pointer (some ⟨w.heap.size + 1, 0, none⟩)] (fun k => low (at' s k) != low (at' p k))
      ((w.alloc (.cells #[.string s] 9)).alloc (.cells #[.string p] 9)) hp enter_starts
      (fun k W hk hb => (starts1_c s p k w.heap.size (w.heap.size + 1) W (by omega) hk (by rw [hb.cell (by simp; omega)]; simp) (by rw [hb.cell (by simp)]; simp)).mono
        fun _ _ ⟨he, q, hw⟩ => ⟨he, hw ▸ below_drewN hb q⟩)
    rw [starts_none s p hl'] at hn
    go_enter Tryz.func87, Tryz.ntmps87
    go_wp2_with (go_at_call 106; refine hn.mono ?_; rintro e w' ⟨rfl, hb⟩)
    go_ret
    exact ⟨rfl, (((Below.refl _ w).alloc (Nat.le_refl _) _).alloc (by simp) _).trans (hb.mono (by simp; omega))⟩

theorem clone_c (s : ByteArray) (w : World) (hs : s.size ≤ 281474976710656) :
    Calls Tryz.prog 52 #[.string s] w fun e w' => e = .returned (.string s) ∧ Below w.heap.size w w' := by
  go_enter Tryz.func52, Tryz.ntmps52
  go_wp2_with (go_at_call 91; refine (Tryz.stringslite_Clone _ _ hs).mono ?_; rintro e w' ⟨rfl, hb⟩)
  go_ret
  exact ⟨rfl, hb⟩

end Go.Proofs.YtklpbkjplecdpaaGreat.Oct
