/-
  Part 5: TokPure2.
-/
import Derived.Test.YtidfcajhmldieaaGreatDoorBackBaseP4
/-
  What a run does in data, in raw text, within quotes: an escaped text is one token; within quotes it is a value; in raw text all is text up to its own end tag.
-/
namespace Go.Proofs.YtidfcajhmldieaaGreatDoor.Tok
open Go.Proofs.YtidfcajhmldieaaGreatDoor.Oct Go.Proofs.YtidfcajhmldieaaGreatDoor.Utf Go.Proofs.YtidfcajhmldieaaGreatDoor.Crf Go.Proofs.YtidfcajhmldieaaGreatDoor.Tab

theorem opens_no {c : UInt8} (t : List UInt8) (h : c ≠ 60) : opens c t = false := by
  unfold opens
  rw [beq_eq_false_iff_ne.2 h]
  rfl
theorem step_data (c : UInt8) (t : List UInt8) (r : Rd) (h0 : r.st = 0) : stepR c t r = dataR c t r := by
  unfold stepR outR
  rw [h0]
  rfl
theorem step_raw (c : UInt8) (t : List UInt8) (r : Rd) (h0 : r.st = 15) : stepR c t r = rawR (c :: t) c r := by
  unfold stepR outR
  rw [h0]
  rfl
theorem step_comment (c : UInt8) (t : List UInt8) (r : Rd) (h0 : r.st = 14) : stepR c t r = commentR (c :: t) c r := by
  unfold stepR outR
  rw [h0]
  rfl
theorem step_value (c : UInt8) (t : List UInt8) (r : Rd) (h0 : r.st = 8) : stepR c t r = again (valueR c r) := by
  unfold stepR valR
  rw [h0]
  rfl
theorem step_name (c : UInt8) (t : List UInt8) (r : Rd) (h0 : r.st = 3) : stepR c t r = again (tnameR c r) := by
  unfold stepR tagR
  rw [h0]
  rfl
theorem step_before (c : UInt8) (t : List UInt8) (r : Rd) (h0 : r.st = 4) : stepR c t r = again (beforeR c r) := by
  unfold stepR tagR
  rw [h0]
  rfl
theorem step_attr (c : UInt8) (t : List UInt8) (r : Rd) (h0 : r.st = 5) : stepR c t r = again (attrR c r) := by
  unfold stepR tagR
  rw [h0]
  rfl
theorem step_want (c : UInt8) (t : List UInt8) (r : Rd) (h0 : r.st = 7) : stepR c t r = again (wantR c r) := by
  unfold stepR valR
  rw [h0]
  rfl
theorem step_behind (c : UInt8) (t : List UInt8) (r : Rd) (h0 : r.st = 10) : stepR c t r = (goR 4 r, 0) := by
  unfold stepR tagR
  rw [h0]
  rfl
theorem step_slash (c : UInt8) (t : List UInt8) (r : Rd) (h0 : r.st = 11) : stepR c t r = again (slashR c r) := by
  unfold stepR tagR
  rw [h0]
  rfl
theorem step_open (c : UInt8) (t : List UInt8) (r : Rd) (h0 : r.st = 1) : stepR c t r = openR c r := by
  unfold stepR outR
  rw [h0]
  rfl
theorem step_endOpen (c : UInt8) (t : List UInt8) (r : Rd) (h0 : r.st = 2) : stepR c t r = endOpenR c r := by
  unfold stepR outR
  rw [h0]
  rfl
theorem step_bang (c : UInt8) (t : List UInt8) (r : Rd) (h0 : r.st = 12) : stepR c t r = bangR (c :: t) r := by
  unfold stepR outR
  rw [h0]
  rfl

/-! ### Runs of one state -/
theorem run_text (p t : List UInt8) (r : Rd) (h0 : r.st = 0) (h : ∀ c ∈ p, c ≠ 60) : runR (p ++ t) r = runR t { r with tx := r.tx ++ p } := by
  induction p generalizing r with
  | nil => simp
  | cons c p ih =>
    have e : stepR c (p ++ t) r = (addT c r, 1) := by
      rw [step_data _ _ _ h0]
      unfold dataR
      rw [opens_no _ (h c (by simp))]
      rfl
    rw [List.cons_append, run_cons, e]
    show runR (p ++ t) (addT c r) = _
    rw [ih (addT c r) h0 (fun d hd => h d (by simp [hd]))]
    unfold addT
    simp
theorem run_raw (p t : List UInt8) (r : Rd) (h0 : r.st = 15) (h : ∀ i, i < p.length → hits r.rw ((p ++ t).drop i) = false) : runR (p ++ t) r = runR t { r with tx := r.tx ++ p } := by
  induction p generalizing r with
  | nil => simp
  | cons c p ih =>
    have hh := h 0 (by simp)
    rw [List.drop_zero, List.cons_append] at hh
    have e : stepR c (p ++ t) r = (addT c r, 1) := by
      rw [step_raw _ _ _ h0]
      unfold rawR
      rw [hh]
      rfl
    rw [List.cons_append, run_cons, e]
    show runR (p ++ t) (addT c r) = _
    rw [ih (addT c r) h0 (fun i hi => by
      have := h (i + 1) (by simp; omega)
      rw [List.cons_append, List.drop_succ_cons] at this
      exact this)]
    unfold addT
    simp
theorem run_comment (p t : List UInt8) (r : Rd) (h0 : r.st = 14) (h : ∀ i, i < p.length → [45, 45, 62].isPrefixOf ((p ++ t).drop i) = false) : runR (p ++ t) r = runR t { r with tx := r.tx ++ p } := by
  induction p generalizing r with
  | nil => simp
  | cons c p ih =>
    have hh := h 0 (by simp)
    rw [List.drop_zero, List.cons_append] at hh
    have e : stepR c (p ++ t) r = (addT c r, 1) := by
      rw [step_comment _ _ _ h0]
      unfold commentR
      rw [hh]
      rfl
    rw [List.cons_append, run_cons, e]
    show runR (p ++ t) (addT c r) = _
    rw [ih (addT c r) h0 (fun i hi => by
      have := h (i + 1) (by simp; omega)
      rw [List.cons_append, List.drop_succ_cons] at this
      exact this)]
    unfold addT
    simp
theorem run_value (p t : List UInt8) (r : Rd) (h0 : r.st = 8) (h : ∀ c ∈ p, c ≠ r.q) : runR (p ++ r.q :: t) r = runR t (goR 10 (putR { r with av := { r.av with v := r.av.v ++ p } })) := by
  induction p generalizing r with
  | nil =>
    have e : stepR r.q t r = (goR 10 (putR r), 1) := by
      rw [step_value _ _ _ h0]
      unfold valueR again
      rw [if_pos rfl]
      rfl
    rw [List.nil_append, run_cons, e]
    simp
  | cons c p ih =>
    have e : stepR c (p ++ r.q :: t) r = (addV c r, 1) := by
      rw [step_value _ _ _ h0]
      unfold valueR again
      rw [if_neg (h c (by simp))]
      rfl
    rw [List.cons_append, run_cons, e]
    show runR (p ++ r.q :: t) (addV c r) = _
    have := ih (addV c r) h0 (fun d hd => h d (by simp [hd]))
    rw [show (addV c r).q = r.q from rfl] at this
    rw [this]
    unfold addV
    simp
/-- An octet of a name: it stays as it is, and ends nothing. -/
def wordC (c : UInt8) : Bool := smallI (c.toNat : Int) || digitI (c.toNat : Int) || c == 45
theorem word_facts (c : UInt8) (h : wordC c = true) : blB c = false ∧ c ≠ 47 ∧ c ≠ 62 ∧ c ≠ 61 ∧ low c = c := by
  have h1 : ∀ x : Fin 256, wordC (UInt8.ofNat x.val) = true → blB (UInt8.ofNat x.val) = false ∧ UInt8.ofNat x.val ≠ 47 ∧ UInt8.ofNat x.val ≠ 62 ∧ UInt8.ofNat x.val ≠ 61 ∧ low (UInt8.ofNat x.val) = UInt8.ofNat x.val := by decide +kernel
  have h2 := h1 ⟨c.toNat, c.toNat_lt⟩
  simp only [UInt8.ofNat_toNat] at h2
  exact h2 h
theorem run_name (p t : List UInt8) (r : Rd) (h0 : r.st = 3) (h : ∀ c ∈ p, wordC c = true) : runR (p ++ t) r = runR t { r with tg := { r.tg with n := r.tg.n ++ p } } := by
  induction p generalizing r with
  | nil => simp
  | cons c p ih =>
    obtain ⟨h1, h2, h3, h4, h5⟩ := word_facts c (h c (by simp))
    have e : stepR c (p ++ t) r = ({ r with tg := { r.tg with n := r.tg.n ++ [low c] } }, 1) := by
      rw [step_name _ _ _ h0]
      unfold tnameR again
      rw [h1, if_neg (by simp), if_neg h2, if_neg h3]
      rfl
    rw [List.cons_append, run_cons, e]
    show runR (p ++ t) _ = _
    rw [ih _ (by exact h0) (fun d hd => h d (by simp [hd])), h5]
    simp
theorem run_attr (p t : List UInt8) (r : Rd) (h0 : r.st = 5) (h : ∀ c ∈ p, wordC c = true) : runR (p ++ t) r = runR t { r with av := { r.av with n := r.av.n ++ p } } := by
  induction p generalizing r with
  | nil => simp
  | cons c p ih =>
    obtain ⟨h1, h2, h3, h4, h5⟩ := word_facts c (h c (by simp))
    have e : stepR c (p ++ t) r = ({ r with av := { r.av with n := r.av.n ++ [low c] } }, 1) := by
      rw [step_attr _ _ _ h0]
      unfold attrR again
      rw [h1, if_neg (by simp), if_neg h4, if_neg h2, if_neg h3, if_neg (by rw [h0]; decide)]
      rfl
    rw [List.cons_append, run_cons, e]
    show runR (p ++ t) _ = _
    rw [ih _ (by exact h0) (fun d hd => h d (by simp [hd])), h5]
    simp

/-! ### An escaped text -/
theorem esc_no (x : List UInt8) : ∀ c ∈ escL x, c ≠ 60 ∧ c ≠ 34 := by
  have h := esc_clean x
  unfold cleanL at h
  intro c hc
  have := List.all_eq_true.1 h c hc
  simp at this
  exact ⟨this.1.1.1, this.1.2⟩
theorem text_out (d : Bool) (r : Rd) (x : List UInt8) (h : (if d then decL' r.tx else r.tx) = x) : (textR d r).out = if x = [] then r.out else r.out ++ [txTk x] := by
  unfold textR
  rw [h]
theorem tok_plain (x : List UInt8) : tokL (escL x) = if x = [] then [] else [txTk x] := by
  unfold tokL
  have h := run_text (escL x) [] rd0 rfl (fun c hc => (esc_no x c hc).1)
  rw [List.append_nil, run_nil] at h
  rw [h]
  unfold lastR
  rw [if_pos rfl, text_out true _ x (by show decL' ([] ++ escL x) = x; rw [List.nil_append, dec_esc])]
  split <;> rfl
abbrev preV : List UInt8 := [60, 98, 62, 120, 60, 112, 32, 97, 61, 34]
abbrev postV : List UInt8 := [34, 32, 99, 62, 121]
theorem tok_values (x : List UInt8) : tokL (preV ++ (escL x ++ postV)) = [⟨1, [98], [], [], false⟩, txTk [120], ⟨1, [112], [], [⟨[97], x⟩, ⟨[99], []⟩], false⟩, txTk [121]] := by
  unfold tokL
  have h1 : ∀ t, stepsN 12 (preV ++ t) rd0 = (t, ⟨[⟨1, [98], [], [], false⟩, txTk [120]], 8, [], ⟨1, [112], [], [], false⟩, ⟨[97], []⟩, 34, [], 0⟩) := fun t => by kernel_rfl
  rw [run_to 12 (h1 _)]
  have h2 := run_value (escL x) [32, 99, 62, 121] ⟨[⟨1, [98], [], [], false⟩, txTk [120]], 8, [], ⟨1, [112], [], [], false⟩, ⟨[97], []⟩, 34, [], 0⟩ rfl (fun c hc => (esc_no x c hc).2)
  rw [show escL x ++ postV = escL x ++ (34 :: [32, 99, 62, 121]) from rfl, h2]
  have h3 : goR 10 (putR { (⟨[⟨1, [98], [], [], false⟩, txTk [120]], 8, [], ⟨1, [112], [], [], false⟩, ⟨[97], []⟩, 34, [], 0⟩ : Rd) with av := ⟨[97], [] ++ escL x⟩ }) = ⟨[⟨1, [98], [], [], false⟩, txTk [120]], 10, [], ⟨1, [112], [], [⟨[97], x⟩], false⟩, noAt, 34, [], 0⟩ := by
    unfold putR goR
    simp [dec_esc]
  rw [show (⟨[⟨1, [98], [], [], false⟩, txTk [120]], 8, [], ⟨1, [112], [], [], false⟩, ⟨[97], []⟩, 34, [], 0⟩ : Rd).av.v = [] from rfl] at *
  rw [h3]
  have h4 : stepsN 9 [32, 99, 62, 121] ⟨[⟨1, [98], [], [], false⟩, txTk [120]], 10, [], ⟨1, [112], [], [⟨[97], x⟩], false⟩, noAt, 34, [], 0⟩ = ([], ⟨[⟨1, [98], [], [], false⟩, txTk [120], ⟨1, [112], [], [⟨[97], x⟩, ⟨[99], []⟩], false⟩], 0, [121], noTk, noAt, 34, [], 0⟩) := by kernel_rfl
  rw [run_to 9 h4, run_nil]
  rfl

/-! ### Raw text -/
abbrev rawsL : List (List UInt8) := [[116, 105, 116, 108, 101], [116, 101, 120, 116, 97, 114, 101, 97], [115, 116, 121, 108, 101], [115, 99, 114, 105, 112, 116]]
def rawKd (i : Nat) : Nat := if i < 2 then 1 else i
end Go.Proofs.YtidfcajhmldieaaGreatDoor.Tok
