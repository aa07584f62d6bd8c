/-
  Part 7: TkcPure.
-/
import Derived.Test.YtidfcajhmldieaaGreatDoorBackBaseP6
/-
  What the reader's plain machine does within a tag, place by place, as the code of package tokens asks for it: its calls lead from one place to the next.
-/
namespace Go.Proofs.YtidfcajhmldieaaGreatDoor.Tkc
open Go.Proofs.YtidfcajhmldieaaGreatDoor.Oct Go.Proofs.YtidfcajhmldieaaGreatDoor.Utf Go.Proofs.YtidfcajhmldieaaGreatDoor.Crf Go.Proofs.YtidfcajhmldieaaGreatDoor.Tab Go.Proofs.YtidfcajhmldieaaGreatDoor.Tok

/-- What is told in the end from the place k on, by the reader r. -/
def LL (l : List UInt8) (k : Nat) (r : Rd) : List Tk := lastR (runR (l.drop k) r)
theorem ll_step {l : List UInt8} {k : Nat} (hk : k < l.length) {r r' : Rd} {n : Nat} (h : stepR l[k] (l.drop (k + 1)) r = (r', n)) : LL l k r = LL l (k + n) r' := by
  unfold LL
  rw [List.drop_eq_getElem_cons hk, run_cons, h]
  show lastR (runR ((l[k] :: l.drop (k + 1)).drop n) r') = _
  rw [← List.drop_eq_getElem_cons hk, List.drop_drop]
theorem ll_end {l : List UInt8} {k : Nat} (hk : ¬ k < l.length) (r : Rd) : LL l k r = lastR r := by
  unfold LL
  rw [List.drop_eq_nil_of_le (by omega), run_nil]
theorem last_tag {r : Rd} (h : 1 ≤ r.st ∧ r.st ≤ 13) : lastR r = r.out := by
  unfold lastR
  rw [if_neg (by omega), if_neg (by omega), if_neg (by omega)]

/-- What is told only grows. -/
theorem out_text (d : Bool) (r : Rd) : r.out.length ≤ (textR d r).out.length := by
  unfold textR
  generalize (if d = true then decL' r.tx else r.tx) = x
  show _ ≤ (if x = [] then r.out else r.out ++ [txTk x]).length
  by_cases h : x = []
  · rw [if_pos h]; exact Nat.le_refl _
  · rw [if_neg h, List.length_append]; exact Nat.le_add_right _ _
theorem out_endR (r : Rd) : r.out.length ≤ (endR r).out.length := by unfold endR; split <;> simp
theorem out_tag (c : UInt8) (r : Rd) : r.out.length ≤ (tagR c r).1.out.length := by
  have h1 := out_endR (putR r)
  have h2 := out_endR r
  have h3 := out_endR { r with tg := { r.tg with c := true } }
  unfold tagR tnameR beforeR attrR slashR
  repeat' split
  all_goals first | exact h2 | exact h1 | exact h3 | exact Nat.le_refl _
theorem out_val (c : UInt8) (r : Rd) : r.out.length ≤ (valR c r).1.out.length := by
  have h1 := out_endR (putR r)
  unfold valR wantR valueR bareR
  repeat' split
  all_goals first | exact h1 | exact Nat.le_refl _
theorem out_out (c : UInt8) (t : List UInt8) (r : Rd) : r.out.length ≤ (outR c t r).1.out.length := by
  have h1 := out_text true r
  have h2 := out_text (r.kd == 1) r
  unfold outR dataR openR endOpenR bangR bogusR commentR rawR
  repeat' split
  all_goals first | exact h1 | exact h2 | exact Nat.le_refl _ | (simp; done)
theorem out_step (c : UInt8) (t : List UInt8) (r : Rd) : r.out.length ≤ (stepR c t r).1.out.length := by
  unfold stepR again
  split
  · exact out_tag c r
  · split
    · exact out_val c r
    · exact out_out c t r
theorem out_run (f : Nat) : ∀ (l : List UInt8) (r : Rd), r.out.length ≤ (runF f l r).out.length := by
  induction f with
  | zero => intro l r; exact Nat.le_refl _
  | succ f ih =>
    intro l r
    cases l with
    | nil => exact Nat.le_refl _
    | cons c t => exact Nat.le_trans (out_step c t r) (ih _ _)
theorem ll_out (l : List UInt8) (k : Nat) (r : Rd) : r.out.length ≤ (LL l k r).length := by
  unfold LL
  have h : r.out.length ≤ (runR (l.drop k) r).out.length := out_run (meas (l.drop k) r.st) (l.drop k) r
  refine Nat.le_trans h ?_
  generalize runR (l.drop k) r = q
  unfold lastR
  split
  · exact out_text _ _
  · split
    · exact out_text _ _
    · split
      · simp
      · exact Nat.le_refl _

/-! ### Within a tag -/
def inNm (c : UInt8) : Bool := !blB c && !(c == 47 || c == 62)
def inAt (c : UInt8) : Bool := inNm c && !(c == 61)
def inBare (c : UInt8) : Bool := !blB c && !(c == 62)
/-- The reader stands at k in the state s of a tag, with what it has of it. -/
def TagAt (l : List UInt8) (k0 : Nat) (r0 : Rd) (kd : Int) (s k : Nat) (n : List UInt8) (al : List At) (φ : Rd → Prop) : Prop :=
  ∃ r, LL l k0 r0 = LL l k r ∧ r.st = s ∧ r.tg = ⟨kd, n, [], al, false⟩ ∧ φ r ∧ r.out = r0.out ∧ r.tx = r0.tx
/-- The tag has ended. -/
def TagEnd (l : List UInt8) (k0 : Nat) (r0 : Rd) (kd : Int) (k : Nat) (n : List UInt8) (al : List At) (cl : Bool) : Prop :=
  ∃ r, LL l k0 r0 = LL l k (endR r) ∧ r.tg = ⟨kd, n, [], al, cl⟩ ∧ r.out = r0.out ∧ r.tx = r0.tx
abbrev yes : Rd → Prop := fun _ => True
def avIs (n v : List UInt8) : Rd → Prop := fun r => r.av = ⟨n, v⟩
def avq (n v : List UInt8) (q : UInt8) : Rd → Prop := fun r => r.av = ⟨n, v⟩ ∧ r.q = q

theorem in_nm {c : UInt8} (h : inNm c = true) : blB c = false ∧ c ≠ 47 ∧ c ≠ 62 := by
  unfold inNm at h
  simp only [Bool.and_eq_true, Bool.not_eq_true', Bool.or_eq_false_iff, beq_eq_false_iff_ne] at h
  exact ⟨h.1, h.2.1, h.2.2⟩
theorem no_nm {c : UInt8} (h : inNm c = false) : blB c = true ∨ (blB c = false ∧ c = 47) ∨ (blB c = false ∧ c ≠ 47 ∧ c = 62) := by
  unfold inNm at h
  cases hb : blB c with
  | true => exact .inl rfl
  | false =>
    rw [hb] at h
    simp only [Bool.not_false, Bool.true_and, Bool.not_eq_false', Bool.or_eq_true, beq_iff_eq] at h
    by_cases h1 : c = 47
    · exact .inr (.inl ⟨rfl, h1⟩)
    · exact .inr (.inr ⟨rfl, h1, h.resolve_left h1⟩)
section
variable {l : List UInt8} {k0 : Nat} {r0 : Rd} {kd : Int} {k : Nat} {n : List UInt8} {al : List At}
theorem name_pass (hk : k < l.length) (hc : inNm l[k] = true) {φ : Rd → Prop} (h : TagAt l k0 r0 kd 3 k n al φ) : TagAt l k0 r0 kd 3 (k + 1) (n ++ [low l[k]]) al yes := by
  obtain ⟨r, e, s, g, _, o, x⟩ := h
  obtain ⟨c1, c2, c3⟩ := in_nm hc
  refine ⟨{ r with tg := { r.tg with n := r.tg.n ++ [low l[k]] } }, e.trans (ll_step hk ?_), s, ?_, trivial, o, x⟩
  · rw [step_name _ _ _ s]
    unfold tnameR again
    rw [c1, if_neg (by simp), if_neg c2, if_neg c3]
    rfl
  · show ({ r.tg with n := r.tg.n ++ [low l[k]] } : Tk) = _
    rw [g]
theorem name_stop (hc : (hk : k < l.length) → inNm l[k] = false) {φ : Rd → Prop} (h : TagAt l k0 r0 kd 3 k n al φ) : TagAt l k0 r0 kd 4 k n al yes := by
  obtain ⟨r, e, s, g, _, o, x⟩ := h
  refine ⟨goR 4 r, e.trans ?_, rfl, g, trivial, o, x⟩
  by_cases hk : k < l.length
  · have e3 := step_name l[k] (l.drop (k + 1)) r s
    have e4 := step_before l[k] (l.drop (k + 1)) (goR 4 r) rfl
    unfold tnameR again at e3
    unfold beforeR again at e4
    rcases no_nm (hc hk) with c1 | ⟨c1, c2⟩ | ⟨c1, c2, c3⟩
    · rw [if_pos c1] at e3 e4
      rw [ll_step hk e3, ll_step hk e4]
    · rw [if_neg (by rw [c1]; simp), if_pos c2] at e3 e4
      rw [ll_step hk e3, ll_step hk e4]
      rfl
    · rw [if_neg (by rw [c1]; simp), if_neg c2, if_pos c3] at e3 e4
      rw [ll_step hk e3, ll_step hk e4]
      rfl
  · rw [ll_end hk, ll_end hk, last_tag (by omega), last_tag (by show 1 ≤ 4 ∧ 4 ≤ 13; omega)]
    rfl
theorem before_blank (hk : k < l.length) (hc : blB l[k] = true) {φ : Rd → Prop} (h : TagAt l k0 r0 kd 4 k n al φ) : TagAt l k0 r0 kd 4 (k + 1) n al yes := by
  obtain ⟨r, e, s, g, _, o, x⟩ := h
  refine ⟨r, e.trans (ll_step hk ?_), s, g, trivial, o, x⟩
  rw [step_before _ _ _ s]
  unfold beforeR again
  rw [if_pos hc]
  rfl
theorem before_slash (hk : k < l.length) (hb : blB l[k] = false) (hc : l[k] = 47) {φ : Rd → Prop} (h : TagAt l k0 r0 kd 4 k n al φ) : TagAt l k0 r0 kd 11 (k + 1) n al yes := by
  obtain ⟨r, e, s, g, _, o, x⟩ := h
  refine ⟨goR 11 r, e.trans (ll_step hk ?_), rfl, g, trivial, o, x⟩
  rw [step_before _ _ _ s]
  unfold beforeR again
  rw [if_neg (by rw [hb]; simp), if_pos hc]
  rfl
theorem before_end (hk : k < l.length) (hb : blB l[k] = false) (h1 : l[k] ≠ 47) (hc : l[k] = 62) {φ : Rd → Prop} (h : TagAt l k0 r0 kd 4 k n al φ) : TagEnd l k0 r0 kd (k + 1) n al false := by
  obtain ⟨r, e, s, g, _, o, x⟩ := h
  refine ⟨r, e.trans (ll_step hk ?_), g, o, x⟩
  rw [step_before _ _ _ s]
  unfold beforeR again
  rw [if_neg (by rw [hb]; simp), if_neg h1, if_pos hc]
  rfl
theorem tag_none {s : Nat} (hs : 1 ≤ s ∧ s ≤ 13) (hk : ¬ k < l.length) {φ : Rd → Prop} (h : TagAt l k0 r0 kd s k n al φ) : LL l k0 r0 = r0.out := by
  obtain ⟨r, e, s, g, _, o, x⟩ := h
  rw [e, ll_end hk, last_tag (by omega), o]
theorem before_attr (hk : k < l.length) (hb : blB l[k] = false) (h1 : l[k] ≠ 47) (h2 : l[k] ≠ 62) {φ : Rd → Prop} (h : TagAt l k0 r0 kd 4 k n al φ) : TagAt l k0 r0 kd 5 (k + 1) n al (avIs [low l[k]] []) := by
  obtain ⟨r, e, s, g, _, o, x⟩ := h
  refine ⟨{ r with st := 5, av := ⟨[low l[k]], []⟩ }, e.trans (ll_step hk ?_), rfl, g, rfl, o, x⟩
  rw [step_before _ _ _ s]
  unfold beforeR again
  rw [if_neg (by rw [hb]; simp), if_neg h1, if_neg h2]
  rfl
theorem step_attr6 (c : UInt8) (t : List UInt8) (r : Rd) (h0 : r.st = 6) : stepR c t r = again (attrR c r) := by
  unfold stepR tagR
  rw [h0]
  rfl
theorem attr_pass {a : List UInt8} (hk : k < l.length) (hc : inAt l[k] = true) (h : TagAt l k0 r0 kd 5 k n al (avIs a [])) : TagAt l k0 r0 kd 5 (k + 1) n al (avIs (a ++ [low l[k]]) []) := by
  obtain ⟨r, e, s, g, v, o, x⟩ := h
  unfold avIs at v
  unfold inAt at hc
  simp only [Bool.and_eq_true, Bool.not_eq_true', beq_eq_false_iff_ne] at hc
  obtain ⟨c1, c2, c3⟩ := in_nm hc.1
  refine ⟨{ r with av := { r.av with n := r.av.n ++ [low l[k]] } }, e.trans (ll_step hk ?_), s, g, ?_, o, x⟩
  · rw [step_attr _ _ _ s]
    unfold attrR again
    rw [if_neg (by rw [c1]; simp), if_neg hc.2, if_neg c2, if_neg c3, if_neg (by omega)]
    rfl
  · show ({ r.av with n := r.av.n ++ [low l[k]] } : At) = _
    rw [v]
theorem attr_stop {a : List UInt8} (hc : (hk : k < l.length) → inAt l[k] = false) (h : TagAt l k0 r0 kd 5 k n al (avIs a [])) : TagAt l k0 r0 kd 6 k n al (avIs a []) := by
  obtain ⟨r, e, s, g, v, o, x⟩ := h
  refine ⟨goR 6 r, e.trans ?_, rfl, g, v, o, x⟩
  by_cases hk : k < l.length
  · have e3 := step_attr l[k] (l.drop (k + 1)) r s
    have e4 := step_attr6 l[k] (l.drop (k + 1)) (goR 6 r) rfl
    unfold attrR again at e3 e4
    have hc := hc hk
    by_cases c0 : blB l[k] = true
    · rw [if_pos c0] at e3 e4
      rw [ll_step hk e3, ll_step hk e4]
      rfl
    · by_cases c1 : l[k] = 61
      · rw [if_neg c0, if_pos c1] at e3 e4
        rw [ll_step hk e3, ll_step hk e4]
        rfl
      · have hn : inNm l[k] = false := by
          unfold inAt at hc
          rw [beq_eq_false_iff_ne.2 c1] at hc
          simpa using hc
        rcases no_nm hn with h1 | ⟨_, h2⟩ | ⟨_, h2, h3⟩
        · exact absurd h1 c0
        · rw [if_neg c0, if_neg c1, if_pos h2] at e3 e4
          rw [ll_step hk e3, ll_step hk e4]
          rfl
        · rw [if_neg c0, if_neg c1, if_neg h2, if_pos h3] at e3 e4
          rw [ll_step hk e3, ll_step hk e4]
          rfl
  · rw [ll_end hk, ll_end hk, last_tag (by omega), last_tag (by show 1 ≤ 6 ∧ 6 ≤ 13; omega)]
    rfl
theorem after_blank {a : List UInt8} (hk : k < l.length) (hc : blB l[k] = true) (h : TagAt l k0 r0 kd 6 k n al (avIs a [])) : TagAt l k0 r0 kd 6 (k + 1) n al (avIs a []) := by
  obtain ⟨r, e, s, g, v, o, x⟩ := h
  refine ⟨goR 6 r, e.trans (ll_step hk ?_), rfl, g, v, o, x⟩
  rw [step_attr6 _ _ _ s]
  unfold attrR again
  rw [if_pos hc]
  rfl
theorem after_eq {a : List UInt8} (hk : k < l.length) (hb : blB l[k] = false) (hc : l[k] = 61) (h : TagAt l k0 r0 kd 6 k n al (avIs a [])) : TagAt l k0 r0 kd 7 (k + 1) n al (avIs a []) := by
  obtain ⟨r, e, s, g, v, o, x⟩ := h
  refine ⟨goR 7 r, e.trans (ll_step hk ?_), rfl, g, v, o, x⟩
  rw [step_attr6 _ _ _ s]
  unfold attrR again
  rw [if_neg (by rw [hb]; simp), if_pos hc]
  rfl
theorem put_tg {r : Rd} {a v : List UInt8} (g : r.tg = ⟨kd, n, [], al, false⟩) (hv : r.av = ⟨a, v⟩) : (putR r).tg = ⟨kd, n, [], al ++ [⟨a, decL' v⟩], false⟩ := by
  unfold putR
  rw [g, hv]
theorem dec_nil : decL' [] = [] := rfl
theorem after_else {a : List UInt8} (hb : (hk : k < l.length) → blB l[k] = false ∧ l[k] ≠ 61) (h : TagAt l k0 r0 kd 6 k n al (avIs a [])) : TagAt l k0 r0 kd 4 k n (al ++ [⟨a, []⟩]) yes := by
  obtain ⟨r, e, s, g, v, o, x⟩ := h
  refine ⟨goR 4 (putR r), e.trans ?_, rfl, ?_, trivial, o, x⟩
  · by_cases hk : k < l.length
    · have e3 := step_attr6 l[k] (l.drop (k + 1)) r s
      have e4 := step_before l[k] (l.drop (k + 1)) (goR 4 (putR r)) rfl
      unfold attrR again at e3
      unfold beforeR again at e4
      obtain ⟨b1, b2⟩ := hb hk
      rw [if_neg (by rw [b1]; simp), if_neg b2] at e3
      rw [if_neg (by rw [b1]; simp)] at e4
      by_cases c1 : l[k] = 47
      · rw [if_pos c1] at e3 e4
        rw [ll_step hk e3, ll_step hk e4]
        rfl
      · by_cases c2 : l[k] = 62
        · rw [if_neg c1, if_pos c2] at e3 e4
          rw [ll_step hk e3, ll_step hk e4]
          rfl
        · rw [if_neg c1, if_neg c2, if_pos s] at e3
          rw [ll_step hk e3]
          rfl
    · rw [ll_end hk, ll_end hk, last_tag (by omega), last_tag (by show 1 ≤ 4 ∧ 4 ≤ 13; omega)]
      rfl
  · exact put_tg g v
theorem want_blank {a : List UInt8} (hk : k < l.length) (hc : blB l[k] = true) (h : TagAt l k0 r0 kd 7 k n al (avIs a [])) : TagAt l k0 r0 kd 7 (k + 1) n al (avIs a []) := by
  obtain ⟨r, e, s, g, v, o, x⟩ := h
  refine ⟨r, e.trans (ll_step hk ?_), s, g, v, o, x⟩
  rw [step_want _ _ _ s]
  unfold wantR again
  rw [if_pos hc]
  rfl
theorem want_quote {a : List UInt8} (hk : k < l.length) (hb : blB l[k] = false) (hc : l[k] = 34 ∨ l[k] = 39) (h : TagAt l k0 r0 kd 7 k n al (avIs a [])) : TagAt l k0 r0 kd 8 (k + 1) n al (avq a [] l[k]) := by
  obtain ⟨r, e, s, g, v, o, x⟩ := h
  refine ⟨{ r with st := 8, q := l[k] }, e.trans (ll_step hk ?_), rfl, g, ⟨v, rfl⟩, o, x⟩
  rw [step_want _ _ _ s]
  unfold wantR again
  rw [if_neg (by rw [hb]; simp), if_pos hc]
  rfl
theorem step_bare (c : UInt8) (t : List UInt8) (r : Rd) (h0 : r.st = 9) : stepR c t r = again (bareR c r) := by
  unfold stepR valR
  rw [h0]
  rfl
theorem want_else {a : List UInt8} (hb : (hk : k < l.length) → blB l[k] = false ∧ l[k] ≠ 34 ∧ l[k] ≠ 39) (h : TagAt l k0 r0 kd 7 k n al (avIs a [])) : TagAt l k0 r0 kd 9 k n al (avIs a []) := by
  obtain ⟨r, e, s, g, v, o, x⟩ := h
  refine ⟨goR 9 r, e.trans ?_, rfl, g, v, o, x⟩
  by_cases hk : k < l.length
  · have e3 := step_want l[k] (l.drop (k + 1)) r s
    unfold wantR again at e3
    obtain ⟨b1, b2, b3⟩ := hb hk
    rw [if_neg (by rw [b1]; simp), if_neg (by rintro (h | h) <;> contradiction)] at e3
    by_cases c2 : l[k] = 62
    · rw [if_pos c2] at e3
      have e4 := step_bare l[k] (l.drop (k + 1)) (goR 9 r) rfl
      unfold bareR again at e4
      rw [if_pos (.inr c2)] at e4
      have e5 := step_before l[k] (l.drop (k + 1)) (goR 4 (putR (goR 9 r))) rfl
      unfold beforeR again at e5
      rw [if_neg (by rw [b1]; simp), if_neg (by rw [c2]; decide), if_pos c2] at e5
      rw [ll_step hk e3, ll_step hk e4]
      show _ = LL l k _
      rw [ll_step hk e5]
      rfl
    · rw [if_neg c2] at e3
      rw [ll_step hk e3]
      rfl
  · rw [ll_end hk, ll_end hk, last_tag (by omega), last_tag (by show 1 ≤ 9 ∧ 9 ≤ 13; omega)]
    rfl
theorem bare_pass {a v : List UInt8} (hk : k < l.length) (hc : inBare l[k] = true) (h : TagAt l k0 r0 kd 9 k n al (avIs a v)) : TagAt l k0 r0 kd 9 (k + 1) n al (avIs a (v ++ [l[k]])) := by
  obtain ⟨r, e, s, g, hv, o, x⟩ := h
  unfold avIs at hv
  unfold inBare at hc
  simp only [Bool.and_eq_true, Bool.not_eq_true', beq_eq_false_iff_ne] at hc
  refine ⟨addV l[k] r, e.trans (ll_step hk ?_), s, g, ?_, o, x⟩
  · rw [step_bare _ _ _ s]
    unfold bareR again
    rw [if_neg (by rintro (h | h); (rw [hc.1] at h; cases h); exact hc.2 h)]
    rfl
  · show ({ r.av with v := r.av.v ++ [l[k]] } : At) = _
    rw [hv]
theorem bare_stop {a v : List UInt8} (hc : (hk : k < l.length) → inBare l[k] = false) (h : TagAt l k0 r0 kd 9 k n al (avIs a v)) : TagAt l k0 r0 kd 4 k n (al ++ [⟨a, decL' v⟩]) yes := by
  obtain ⟨r, e, s, g, hv, o, x⟩ := h
  refine ⟨goR 4 (putR r), e.trans ?_, rfl, put_tg g hv, trivial, o, x⟩
  by_cases hk : k < l.length
  · have e3 := step_bare l[k] (l.drop (k + 1)) r s
    unfold bareR again at e3
    have hc := hc hk
    unfold inBare at hc
    rw [if_pos (by
      cases hb : blB l[k] with
      | true => exact .inl rfl
      | false => rw [hb] at hc; simp at hc; exact .inr hc)] at e3
    rw [ll_step hk e3]
    rfl
  · rw [ll_end hk, ll_end hk, last_tag (by omega), last_tag (by show 1 ≤ 4 ∧ 4 ≤ 13; omega)]
    rfl
theorem value_pass {a v : List UInt8} {q : UInt8} (hk : k < l.length) (hc : l[k] ≠ q) (h : TagAt l k0 r0 kd 8 k n al (avq a v q)) : TagAt l k0 r0 kd 8 (k + 1) n al (avq a (v ++ [l[k]]) q) := by
  obtain ⟨r, e, s, g, ⟨hv, hq⟩, o, x⟩ := h
  refine ⟨addV l[k] r, e.trans (ll_step hk ?_), s, g, ⟨?_, hq⟩, o, x⟩
  · rw [step_value _ _ _ s]
    unfold valueR again
    rw [if_neg (by rw [hq]; exact hc)]
    rfl
  · show ({ r.av with v := r.av.v ++ [l[k]] } : At) = _
    rw [hv]
theorem value_stop {a v : List UInt8} {q : UInt8} (hk : k < l.length) (hc : l[k] = q) (h : TagAt l k0 r0 kd 8 k n al (avq a v q)) : TagAt l k0 r0 kd 4 (k + 1) n (al ++ [⟨a, decL' v⟩]) yes := by
  obtain ⟨r, e, s, g, ⟨hv, hq⟩, o, x⟩ := h
  refine ⟨goR 4 (putR r), e.trans ?_, rfl, put_tg g hv, trivial, o, x⟩
  have e3 := step_value l[k] (l.drop (k + 1)) r s
  unfold valueR again at e3
  rw [if_pos (by rw [hq]; exact hc)] at e3
  rw [ll_step hk e3]
  show LL l (k + 1) (goR 10 (putR r)) = _
  by_cases h1 : k + 1 < l.length
  · rw [ll_step h1 (step_behind _ _ _ rfl)]
    rfl
  · rw [ll_end h1, ll_end h1, last_tag (by show 1 ≤ 10 ∧ 10 ≤ 13; omega), last_tag (by show 1 ≤ 4 ∧ 4 ≤ 13; omega)]
    rfl
theorem value_end {a v : List UInt8} {q : UInt8} (hk : ¬ k < l.length) (h : TagAt l k0 r0 kd 8 k n al (avq a v q)) : TagAt l k0 r0 kd 4 k n (al ++ [⟨a, decL' v⟩]) yes := by
  obtain ⟨r, e, s, g, ⟨hv, hq⟩, o, x⟩ := h
  refine ⟨goR 4 (putR r), e.trans ?_, rfl, put_tg g hv, trivial, o, x⟩
  rw [ll_end hk, ll_end hk, last_tag (by omega), last_tag (by show 1 ≤ 4 ∧ 4 ≤ 13; omega)]
  rfl
theorem slash_end (hk : k < l.length) (hc : l[k] = 62) {φ : Rd → Prop} (h : TagAt l k0 r0 kd 11 k n al φ) : TagEnd l k0 r0 kd (k + 1) n al true := by
  obtain ⟨r, e, s, g, _, o, x⟩ := h
  refine ⟨{ r with tg := { r.tg with c := true } }, e.trans (ll_step hk ?_), ?_, o, x⟩
  · rw [step_slash _ _ _ s]
    unfold slashR again
    rw [if_pos hc]
    rfl
  · show ({ r.tg with c := true } : Tk) = _
    rw [g]
theorem slash_else (hc : (hk : k < l.length) → l[k] ≠ 62) {φ : Rd → Prop} (h : TagAt l k0 r0 kd 11 k n al φ) : TagAt l k0 r0 kd 4 k n al yes := by
  obtain ⟨r, e, s, g, _, o, x⟩ := h
  refine ⟨goR 4 r, e.trans ?_, rfl, g, trivial, o, x⟩
  by_cases hk : k < l.length
  · have e3 := step_slash l[k] (l.drop (k + 1)) r s
    unfold slashR again at e3
    rw [if_neg (hc hk)] at e3
    rw [ll_step hk e3]
    rfl
  · rw [ll_end hk, ll_end hk, last_tag (by omega), last_tag (by show 1 ≤ 4 ∧ 4 ≤ 13; omega)]
    rfl
end
end Go.Proofs.YtidfcajhmldieaaGreatDoor.Tkc
