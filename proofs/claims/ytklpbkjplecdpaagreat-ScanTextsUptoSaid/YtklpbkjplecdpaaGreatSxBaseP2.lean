/-
  Part 2: TokPure, PctPure, SchPure, UscPure, ValTree, LitPure, JscPure, CssPure, CscPure, ScnPure, TokPure2.
-/
import Derived.Test.YtklpbkjplecdpaaGreatSxBaseP1
import Derived.Test.YtklpbkjplecdpaaGreatProg
import Derived.Lib.Hide
import Derived.Laws.Rows
/-
  The reader of HTML as a plain machine, with no program: its states, its step, its run; what a run does in data, in raw text, within quotes.
-/
namespace Go.Proofs.YtklpbkjplecdpaaGreat.Tok
open Oct Utf Crf Tab

structure At where
  n : List UInt8
  v : List UInt8
deriving DecidableEq
structure Tk where
  k : Int
  n : List UInt8
  x : List UInt8
  a : List At
  c : Bool
deriving DecidableEq
abbrev noAt : At := ⟨[], []⟩
abbrev noTk : Tk := ⟨0, [], [], [], false⟩
abbrev txTk (x : List UInt8) : Tk := ⟨3, [], x, [], false⟩
structure Rd where
  out : List Tk
  st : Nat
  tx : List UInt8
  tg : Tk
  av : At
  q : UInt8
  rw : List UInt8
  kd : Nat
deriving DecidableEq
abbrev rd0 : Rd := ⟨[], 0, [], noTk, noAt, 0, [], 0⟩

def blB (c : UInt8) : Bool := blankI (c.toNat : Int)
def letB (c : UInt8) : Bool := letterI (c.toNat : Int)
def textR (d : Bool) (r : Rd) : Rd :=
  { r with out := if (if d then decL' r.tx else r.tx) = [] then r.out else r.out ++ [txTk (if d then decL' r.tx else r.tx)], tx := [] }
def putR (r : Rd) : Rd := { r with tg := { r.tg with a := r.tg.a ++ [⟨r.av.n, decL' r.av.v⟩] }, av := noAt }
def toldT (t : Tk) : Tk := if t.k = 2 then { t with a := [], c := false } else t
def rawK (t : Tk) : Bool := decide (t.k = 1 ∧ 1 ≤ elemN t.n ∧ elemN t.n ≤ 3)
def endR (r : Rd) : Rd :=
  if rawK (toldT r.tg) then { r with out := r.out ++ [toldT r.tg], tg := noTk, st := 15, rw := (toldT r.tg).n, kd := elemN (toldT r.tg).n }
  else { r with out := r.out ++ [toldT r.tg], tg := noTk, st := 0 }
def goR (s : Nat) (r : Rd) : Rd := { r with st := s }
def tnameR (c : UInt8) (r : Rd) : Rd × Bool :=
  if blB c then (goR 4 r, false) else if c = 47 then (goR 11 r, false) else if c = 62 then (endR r, false) else ({ r with tg := { r.tg with n := r.tg.n ++ [low c] } }, false)
def beforeR (c : UInt8) (r : Rd) : Rd × Bool :=
  if blB c then (r, false) else if c = 47 then (goR 11 r, false) else if c = 62 then (endR r, false) else ({ r with st := 5, av := ⟨[low c], []⟩ }, false)
def attrR (c : UInt8) (r : Rd) : Rd × Bool :=
  if blB c then (goR 6 r, false) else if c = 61 then (goR 7 r, false) else if c = 47 then (goR 11 (putR r), false) else if c = 62 then (endR (putR r), false)
  else if r.st = 6 then (goR 4 (putR r), true) else ({ r with av := { r.av with n := r.av.n ++ [low c] } }, false)
def slashR (c : UInt8) (r : Rd) : Rd × Bool :=
  if c = 62 then (endR { r with tg := { r.tg with c := true } }, false) else (goR 4 r, true)
def tagR (c : UInt8) (r : Rd) : Rd × Bool :=
  if r.st = 3 then tnameR c r else if r.st = 4 then beforeR c r else if r.st = 5 ∨ r.st = 6 then attrR c r else if r.st = 10 then (goR 4 r, true) else slashR c r
def wantR (c : UInt8) (r : Rd) : Rd × Bool :=
  if blB c then (r, false) else if c = 34 ∨ c = 39 then ({ r with st := 8, q := c }, false) else if c = 62 then (endR (putR r), false) else (goR 9 r, true)
def addV (c : UInt8) (r : Rd) : Rd := { r with av := { r.av with v := r.av.v ++ [c] } }
def valueR (c : UInt8) (r : Rd) : Rd × Bool := if c = r.q then (goR 10 (putR r), false) else (addV c r, false)
def bareR (c : UInt8) (r : Rd) : Rd × Bool := if blB c = true ∨ c = 62 then (goR 4 (putR r), true) else (addV c r, false)
def valR (c : UInt8) (r : Rd) : Rd × Bool := if r.st = 7 then wantR c r else if r.st = 8 then valueR c r else bareR c r
def opens (c : UInt8) (t : List UInt8) : Bool :=
  (c == 60) && (match t with | [] => false | d :: u => letB d || d == 33 || d == 63 || (d == 47 && !u.isEmpty))
def addT (c : UInt8) (r : Rd) : Rd := { r with tx := r.tx ++ [c] }
def dataR (c : UInt8) (t : List UInt8) (r : Rd) : Rd × Nat := if opens c t then (goR 1 (textR true r), 1) else (addT c r, 1)
def openR (c : UInt8) (r : Rd) : Rd × Nat :=
  if c = 47 then (goR 2 r, 1) else if c = 33 then (goR 12 r, 1) else if c = 63 then (goR 13 r, 1) else ({ r with st := 3, tg := { noTk with k := 1 } }, 0)
def endOpenR (c : UInt8) (r : Rd) : Rd × Nat :=
  if letB c then ({ r with st := 3, tg := { noTk with k := 2 } }, 0) else if c = 62 then (goR 0 r, 1) else (goR 13 r, 0)
def bangR (l : List UInt8) (r : Rd) : Rd × Nat := if [45, 45].isPrefixOf l then (goR 14 r, 2) else (goR 13 r, 0)
def bogusR (c : UInt8) (r : Rd) : Rd × Nat := if c = 62 then (goR 0 r, 1) else (r, 1)
def commentR (l : List UInt8) (c : UInt8) (r : Rd) : Rd × Nat :=
  if [45, 45, 62].isPrefixOf l then ({ r with out := r.out ++ [⟨4, [], r.tx, [], false⟩], tx := [], st := 0 }, 3) else (addT c r, 1)
def hits (rw l : List UInt8) : Bool :=
  ((60 :: 47 :: rw).map low).isPrefixOf (l.map low) && (match l.drop (2 + rw.length) with | [] => false | d :: _ => blB d || d == 47 || d == 62)
def rawR (l : List UInt8) (c : UInt8) (r : Rd) : Rd × Nat :=
  if hits r.rw l then ({ textR (r.kd == 1) r with st := 3, tg := { noTk with k := 2, n := ((l.drop 2).take r.rw.length).map low } }, 2 + r.rw.length) else (addT c r, 1)
def outR (c : UInt8) (t : List UInt8) (r : Rd) : Rd × Nat :=
  if r.st = 0 then dataR c t r else if r.st = 1 then openR c r else if r.st = 2 then endOpenR c r else if r.st = 12 then bangR (c :: t) r
  else if r.st = 13 then bogusR c r else if r.st = 14 then commentR (c :: t) c r else rawR (c :: t) c r
def inTag (s : Nat) : Bool := decide ((3 ≤ s ∧ s ≤ 6) ∨ s = 10 ∨ s = 11)
def inVal (s : Nat) : Bool := decide (7 ≤ s ∧ s ≤ 9)
def again (p : Rd × Bool) : Rd × Nat := (p.1, if p.2 then 0 else 1)
def stepR (c : UInt8) (t : List UInt8) (r : Rd) : Rd × Nat :=
  if inTag r.st then again (tagR c r) else if inVal r.st then again (valR c r) else outR c t r

def rank (s : Nat) : Nat := if s = 7 then 2 else if s = 9 ∨ s = 6 ∨ s = 10 ∨ s = 11 ∨ s = 1 ∨ s = 2 ∨ s = 12 then 1 else 0
def runF : Nat → List UInt8 → Rd → Rd
  | 0, _, r => r
  | _ + 1, [], r => r
  | f + 1, c :: t, r => runF f ((c :: t).drop (stepR c t r).2) (stepR c t r).1
def meas (l : List UInt8) (s : Nat) : Nat := 3 * l.length + rank s
def runR (l : List UInt8) (r : Rd) : Rd := runF (meas l r.st) l r

theorem rank_le (s : Nat) : rank s ≤ 2 := by
  unfold rank
  split
  · omega
  · split <;> omega
theorem tag_again (c : UInt8) (r : Rd) (hs : inTag r.st = true) (h : (tagR c r).2 = true) : rank (tagR c r).1.st < rank r.st := by
  have hs := of_decide_eq_true hs
  revert h
  unfold tagR
  split
  · intro h; exfalso; revert h; unfold tnameR; repeat' split
    all_goals simp
  · split
    · intro h; exfalso; revert h; unfold beforeR; repeat' split
      all_goals simp
    · split
      · unfold attrR
        repeat' split
        all_goals intro h
        all_goals first | (exfalso; revert h; simp; done) | skip
        rename_i h6
        rw [h6]
        exact (by decide : (0 : Nat) < 1)
      · split
        · rename_i h10
          intro _
          rw [h10]
          exact (by decide : (0 : Nat) < 1)
        · have h11 : r.st = 11 := by omega
          unfold slashR
          split
          · intro h; exfalso; revert h; simp
          · intro _
            rw [h11]
            exact (by decide : (0 : Nat) < 1)
theorem val_again (c : UInt8) (r : Rd) (hs : inVal r.st = true) (h : (valR c r).2 = true) : rank (valR c r).1.st < rank r.st := by
  have hs := of_decide_eq_true hs
  revert h
  unfold valR
  split
  · rename_i h7
    unfold wantR
    repeat' split
    all_goals intro h
    all_goals first | (exfalso; revert h; simp; done) | skip
    rw [h7]
    exact (by decide : (1 : Nat) < 2)
  · split
    · unfold valueR
      split <;> (intro h; exfalso; revert h; simp)
    · have h9 : r.st = 9 := by omega
      unfold bareR
      split
      · intro _
        rw [h9]
        exact (by decide : (0 : Nat) < 1)
      · intro h; exfalso; revert h; simp
theorem out_again (c : UInt8) (t : List UInt8) (r : Rd) (h : (outR c t r).2 = 0) : rank (outR c t r).1.st < rank r.st := by
  revert h
  unfold outR
  split
  · unfold dataR; split <;> (intro h; exfalso; revert h; simp)
  · split
    · rename_i hs
      unfold openR
      repeat' split
      all_goals intro h
      all_goals first | (exfalso; revert h; simp; done) | skip
      rw [hs]
      exact (by decide : (0 : Nat) < 1)
    · split
      · rename_i hs
        unfold endOpenR
        repeat' split
        all_goals intro h
        all_goals first | (exfalso; revert h; simp; done) | skip
        all_goals rw [hs]
        all_goals exact (by decide : (0 : Nat) < 1)
      · split
        · rename_i hs
          unfold bangR
          split
          · intro h; exfalso; revert h; simp
          · intro _
            rw [hs]
            exact (by decide : (0 : Nat) < 1)
        · split
          · unfold bogusR; split <;> (intro h; exfalso; revert h; simp)
          · split
            · unfold commentR; split <;> (intro h; exfalso; revert h; simp)
            · unfold rawR
              split
              · intro h; exfalso; revert h; simp
              · intro h; exfalso; revert h; simp
theorem step_less (c : UInt8) (t : List UInt8) (r : Rd) : meas ((c :: t).drop (stepR c t r).2) (stepR c t r).1.st < meas (c :: t) r.st := by
  unfold meas
  have hr := rank_le (stepR c t r).1.st
  by_cases h0 : (stepR c t r).2 = 0
  · rw [h0, List.drop_zero]
    have : rank (stepR c t r).1.st < rank r.st := by
      revert h0
      unfold stepR
      split
      · rename_i hs
        intro h0
        refine tag_again c r hs ?_
        unfold again at h0
        revert h0
        cases (tagR c r).2 <;> simp
      · split
        · rename_i hs
          intro h0
          refine val_again c r hs ?_
          unfold again at h0
          revert h0
          cases (valR c r).2 <;> simp
        · intro h0
          exact out_again c t r h0
    omega
  · rw [List.length_drop, List.length_cons]
    omega
theorem run_enough (f : Nat) : ∀ (g : Nat) (l : List UInt8) (r : Rd), meas l r.st ≤ f → meas l r.st ≤ g → runF f l r = runF g l r := by
  induction f with
  | zero =>
    intro g l r h1 _
    have hl : l = [] := by
      cases l with
      | nil => rfl
      | cons c t => unfold meas at h1; simp at h1
    subst hl
    cases g <;> rfl
  | succ f ih =>
    intro g l r h1 h2
    cases l with
    | nil => cases g <;> rfl
    | cons c t =>
      cases g with
      | zero => unfold meas at h2; simp at h2
      | succ g =>
        have := step_less c t r
        show runF f _ _ = runF g _ _
        exact ih g _ _ (by omega) (by omega)
theorem run_nil (r : Rd) : runR [] r = r := by
  unfold runR
  cases meas [] r.st <;> rfl
theorem run_cons (c : UInt8) (t : List UInt8) (r : Rd) : runR (c :: t) r = runR ((c :: t).drop (stepR c t r).2) (stepR c t r).1 := by
  have hl := step_less c t r
  unfold runR
  obtain ⟨f, hf⟩ : ∃ f, meas (c :: t) r.st = f + 1 := ⟨meas (c :: t) r.st - 1, by omega⟩
  rw [hf]
  show runF f _ _ = _
  exact run_enough _ _ _ _ (by omega) (Nat.le_refl _)
def lastR (r : Rd) : List Tk :=
  if r.st = 0 then (textR true r).out else if r.st = 15 then (textR (r.kd == 1) r).out else if r.st = 14 then r.out ++ [⟨4, [], r.tx, [], false⟩] else r.out
def tokL (l : List UInt8) : List Tk := lastR (runR l rd0)

def Bd (M m : Nat) (r : Rd) : Prop :=
  r.out.length + m ≤ M ∧ r.tx.length + m ≤ M ∧ r.tg.n.length + m ≤ M ∧ r.tg.a.length + m ≤ M ∧ r.av.n.length + m ≤ M ∧ r.av.v.length + m ≤ M ∧ r.rw.length ≤ M
def Gr (r r' : Rd) : Prop :=
  r'.out.length ≤ r.out.length + 1 ∧ r'.tx.length ≤ r.tx.length + 1 ∧ r'.tg.n.length ≤ r.tg.n.length + 1 ∧ r'.tg.a.length ≤ r.tg.a.length + 1 ∧ r'.av.n.length ≤ r.av.n.length + 1 ∧ r'.av.v.length ≤ r.av.v.length + 1 ∧ (r'.rw.length ≤ r.rw.length ∨ r'.rw.length ≤ r.tg.n.length)
theorem told_n (t : Tk) : (toldT t).n = t.n := by unfold toldT; split <;> rfl
theorem gr_refl (r : Rd) : Gr r r := by unfold Gr; omega
theorem gr_end (r : Rd) : Gr r (endR r) := by
  unfold endR Gr
  split <;> simp [told_n]
theorem gr_endput (r : Rd) : Gr r (endR (putR r)) := by
  unfold endR Gr
  split <;> simp [told_n, putR]
theorem gr_put (s : Nat) (r : Rd) : Gr r (goR s (putR r)) := by unfold Gr goR putR; simp
theorem gr_go (s : Nat) (r : Rd) : Gr r (goR s r) := by unfold Gr goR; simp
theorem text_facts (d : Bool) (r : Rd) : (textR d r).out.length ≤ r.out.length + 1 ∧ (textR d r).tx = [] ∧ (textR d r).av = r.av ∧ (textR d r).rw = r.rw ∧ (textR d r).tg = r.tg := by
  unfold textR
  refine ⟨?_, rfl, rfl, rfl, rfl⟩
  generalize (if d = true then decL' r.tx else r.tx) = x
  show (if x = [] then r.out else r.out ++ [txTk x]).length ≤ _
  split <;> simp
theorem gr_text (d : Bool) (s : Nat) (r : Rd) : Gr r (goR s (textR d r)) := by
  obtain ⟨h1, h2, h3, h4, h5⟩ := text_facts d r
  unfold Gr goR
  simp only [h2, h3, h4, h5]
  simp
  exact h1
theorem gr_tag (c : UInt8) (r : Rd) : Gr r (tagR c r).1 := by
  unfold tagR tnameR beforeR attrR slashR
  repeat' split
  all_goals first | exact gr_refl _ | exact gr_go _ _ | exact gr_end _ | exact gr_endput _ | exact gr_put _ _ | skip
  all_goals first | (unfold Gr; simp; done) | skip
theorem gr_val (c : UInt8) (r : Rd) : Gr r (valR c r).1 := by
  unfold valR wantR valueR bareR addV
  repeat' split
  all_goals first | exact gr_refl _ | exact gr_go _ _ | exact gr_end _ | exact gr_endput _ | exact gr_put _ _ | skip
  all_goals (unfold Gr; simp)
theorem gr_out (c : UInt8) (t : List UInt8) (r : Rd) (h : r.st ≠ 15) (h1 : inTag r.st = false) (h2 : inVal r.st = false) (hs : r.st ≤ 15) : Gr r (outR c t r).1 := by
  unfold outR
  have e1 := of_decide_eq_false h1
  have e2 := of_decide_eq_false h2
  unfold dataR openR endOpenR bangR bogusR commentR addT
  repeat' split
  all_goals first | exact gr_refl _ | exact gr_go _ _ | exact gr_text _ _ _ | skip
  all_goals first | (unfold Gr; simp; done) | skip
  all_goals (exfalso; omega)
theorem gr_bd {M m m' : Nat} {r r' : Rd} (h : Gr r r') (hm : m' < m) (hb : Bd M m r) : Bd M m' r' := by
  unfold Gr at h
  unfold Bd at hb ⊢
  omega
theorem end_st (r : Rd) : (endR r).st ≤ 15 := by unfold endR; split <;> simp
theorem step_st (c : UInt8) (t : List UInt8) (r : Rd) (h : r.st ≤ 15) : (stepR c t r).1.st ≤ 15 := by
  unfold stepR again
  split
  · unfold tagR tnameR beforeR attrR slashR goR
    repeat' split
    all_goals first | exact end_st _ | (simp; done) | exact h
  · split
    · unfold valR wantR valueR bareR goR addV
      repeat' split
      all_goals first | exact end_st _ | (simp; done) | exact h
    · unfold outR dataR openR endOpenR bangR bogusR commentR rawR goR addT
      repeat' split
      all_goals first | (simp; done) | exact h
theorem step_bd {M : Nat} (c : UInt8) (t : List UInt8) (r : Rd) (hs : r.st ≤ 15) (h : Bd M (meas (c :: t) r.st) r) : Bd M (meas ((c :: t).drop (stepR c t r).2) (stepR c t r).1.st) (stepR c t r).1 := by
  have hl := step_less c t r
  by_cases h15 : r.st = 15
  · have e : stepR c t r = rawR (c :: t) c r := by
      unfold stepR outR
      rw [h15]
      rfl
    rw [e] at hl ⊢
    clear e
    unfold rawR at hl ⊢
    split
    · rename_i hh
      rw [if_pos hh] at hl
      unfold Bd at h ⊢
      have hx := text_facts (r.kd == 1) r
      refine ⟨?_, ?_, ?_, ?_, ?_, ?_, ?_⟩
      · have := hx.1; simp only at hl ⊢; omega
      · have := hx.2.1; simp only [this] at hl ⊢; simp; omega
      · simp only [List.length_map, List.length_take, List.length_drop]
        unfold meas at hl h ⊢
        simp only [List.length_drop, List.length_cons] at hl h ⊢
        have e3 : rank 3 = 0 := rfl
        simp only [e3] at hl ⊢
        omega
      · simp only at hl ⊢; simp; omega
      · have := hx.2.2.1; simp only [this] at hl ⊢; omega
      · have := hx.2.2.1; simp only [this] at hl ⊢; omega
      · have := hx.2.2.2.1; simp only [this] at hl ⊢; omega
    · rename_i hh
      rw [if_neg hh] at hl
      refine gr_bd ?_ hl h
      unfold Gr addT
      simp
  · refine gr_bd ?_ hl h
    unfold stepR again
    split
    · exact gr_tag c r
    · split
      · exact gr_val c r
      · rename_i h1 h2
        exact gr_out c t r h15 (by simpa using h1) (by simpa using h2) hs
theorem bd0 (l : List UInt8) : Bd (meas l 0) (meas l 0) rd0 := by
  unfold Bd
  simp
end Go.Proofs.YtklpbkjplecdpaaGreat.Tok

/-
  Plain facts on percent signs, with no program: what is unreserved, what is reserved; a text encoded, a normal one, a text decoded.
-/
namespace Go.Proofs.YtklpbkjplecdpaaGreat.Pct
open Oct Utf
open Go.Lib (encodeRune)

def resI (n : Int) : Bool := decide (n ∈ [33, 35, 36, 38, 42, 43, 44, 47, 58, 59, 61, 63, 64, 91, 93])
def res (c : UInt8) : Bool := resI (c.toNat : Int)
def hc (c : UInt8) : Int := hexI (c.toNat : Int)




end Go.Proofs.YtklpbkjplecdpaaGreat.Pct

/-
  Plain facts on schemes, with no program: where one ends, which are allowed, a text filtered.
-/
namespace Go.Proofs.YtklpbkjplecdpaaGreat.Sch
open Oct Utf Pct
open Go.Lib (encodeRune)

abbrev httpL : List UInt8 := [104, 116, 116, 112]
abbrev httpsL : List UInt8 := [104, 116, 116, 112, 115]
abbrev mailtoL : List UInt8 := [109, 97, 105, 108, 116, 111]
def allowL (l : List UInt8) : Bool := decide (l = httpL ∨ l = httpsL ∨ l = mailtoL)


end Go.Proofs.YtklpbkjplecdpaaGreat.Sch

/-
  Plain facts on where in a URL a text stands, with no program: its parts, octet by octet.
-/
namespace Go.Proofs.YtklpbkjplecdpaaGreat.Usc
open Oct Utf Pct Sch

abbrev St := Int × List UInt8
def askB (c : UInt8) : Bool := decide (c = 63 ∨ c = 35)
def headU (w : List UInt8) (c : UInt8) : St :=
  if c = 47 then (2, []) else if askB c = true then (3, []) else if c = 58 then (if allowL w = true then (2, []) else (5, [])) else (1, if w.length < 16 then w ++ [low c] else w)
def stepU (s : St) (c : UInt8) : St :=
  if s.1 = 0 then headU [] c else if s.1 = 1 then headU s.2 c
  else if s.1 = 2 then (if askB c = true then (3, []) else (2, []))
  else if s.1 = 3 then (3, [])
  else if s.1 = 4 then (if c = 47 then (2, []) else if askB c = true then (3, []) else if c = 58 then (5, []) else (4, []))
  else (5, [])
def feedU (s : St) (l : List UInt8) : St := l.foldl stepU s

theorem feed_cons (s : St) (c : UInt8) (t : List UInt8) : feedU s (c :: t) = feedU (stepU s c) t := rfl
theorem step_zero (w : List UInt8) (c : UInt8) : stepU (0, w) c = headU [] c := rfl
theorem stay_five (w : List UInt8) (l : List UInt8) : (feedU (5, w) l).1 = 5 := by
  induction l generalizing w with
  | nil => rfl
  | cons c t ih => rw [feed_cons]; exact ih []
theorem stay_three (w : List UInt8) (l : List UInt8) : (feedU (3, w) l).1 = 3 := by
  induction l generalizing w with
  | nil => rfl
  | cons c t ih => rw [feed_cons]; exact ih []
theorem stay_two (w : List UInt8) (l : List UInt8) : (feedU (2, w) l).1 = 2 ∨ (feedU (2, w) l).1 = 3 := by
  induction l generalizing w with
  | nil => exact .inl rfl
  | cons c t ih =>
    rw [feed_cons]
    show (feedU (if askB c = true then (3, []) else (2, [])) t).1 = 2 ∨ (feedU (if askB c = true then (3, []) else (2, [])) t).1 = 3
    split
    · exact .inr (stay_three [] t)
    · exact ih []
end Go.Proofs.YtklpbkjplecdpaaGreat.Usc

/-
  Values in memory: a value as a tree of plain data, and what a world must hold so that it reads as that tree.
-/
namespace Go.Proofs.YtklpbkjplecdpaaGreat.Val
open Go.RowKit Oct

inductive V where
  | mk (kind num : Int) (text : ByteArray) (list : List V) (keys : List ByteArray)

abbrev Cond := Bool → Nat → Nat → Nat → Prop

def Texts (C : Cond) (w : World) (K : Value) (ks : List ByteArray) : Prop :=
  ∃ (p : Option Addr) (cap b off : Nat), K = .slice p ks.length cap ∧ (ks.length * 16 ≤ 140737488351232 ∧ ∀ s ∈ ks, s.size ≤ 140737488351232) ∧
    (0 < ks.length → p = some ⟨b, off, none⟩ ∧ C true b off ks.length) ∧ ∀ i (h : i < ks.length), w.cell? ⟨b, off + i, none⟩ = some (.string ks[i])

theorem Texts.frame {C C' : Cond} {w w' : World} {K : Value} {ks : List ByteArray} (h : Texts C w K ks) (hC : ∀ t b off n, C t b off n → w'.heap[b]? = w.heap[b]?) (hC' : ∀ t b off n, C t b off n → C' t b off n) : Texts C' w' K ks := by
  obtain ⟨p, cap, b, off, h1, h2, h3, h4⟩ := h
  refine ⟨p, cap, b, off, h1, h2, fun h0 => ⟨(h3 h0).1, hC' _ _ _ _ (h3 h0).2⟩, fun i hi => ?_⟩
  have := hC _ _ _ _ (h3 (by omega)).2
  rw [← h4 i hi]
  simp [World.cell?, this]

end Go.Proofs.YtklpbkjplecdpaaGreat.Val

/-
  Plain facts on literals, with no program: a character, a text, a value as a script's literal.
-/
namespace Go.Proofs.YtklpbkjplecdpaaGreat.Lit
open Oct Num Utf Val

def bareB (c : Int) : Bool := decide ((97 ≤ c ∧ c ≤ 122) ∨ (65 ≤ c ∧ c ≤ 90) ∨ (48 ≤ c ∧ c ≤ 57) ∨ c = 32 ∨ c = 95 ∨ c = 46 ∨ c = 44)
def escL (n : Nat) : List UInt8 := [92, 117] ++ hexL n 4
def charL (c : Int) : List UInt8 :=
  if bareB c then [c.toNat.toUInt8] else if 65536 ≤ c then escL (55296 + (c - 65536).toNat / 1024) ++ escL (56320 + (c - 65536).toNat % 1024) else escL c.toNat
def insideL (cs : List Int) : List UInt8 := cs.flatMap charL
def quoteL (s : ByteArray) : List UInt8 := [34] ++ insideL (chars s.data.toList) ++ [34]

def keyAt (r : Bool) (ks : List ByteArray) (k : Nat) : List UInt8 := if r then (match ks[k]? with | some key => quoteL key ++ [58] | none => []) else []
def joinK (r : Bool) (ks : List ByteArray) (ts : List (List UInt8)) : Nat → List UInt8
  | 0 => []
  | k + 1 => joinK r ks ts k ++ ((if k = 0 then [] else [44]) ++ (keyAt r ks k ++ ts.getD k []))

def brackL (a b : UInt8) (t : List UInt8) : List UInt8 := [a] ++ t ++ [b]

mutual
def litL : V → List UInt8
  | .mk k n s l ks => if k = 0 then [110, 117, 108, 108] else if k = 1 then [102, 97, 108, 115, 101] else if k = 2 then [116, 114, 117, 101]
    else if k = 3 then (if n < 0 then 32 :: printL n else printL n)
    else if k = 5 then brackL 91 93 (joinK false ks (litAll l) (litAll l).length)
    else if k = 6 then brackL 123 125 (joinK true ks (litAll l) (litAll l).length) else quoteL s
def litAll : List V → List (List UInt8)
  | [] => []
  | x :: l => litL x :: litAll l
end

end Go.Proofs.YtklpbkjplecdpaaGreat.Lit

/-
  Plain facts on where in a script a text stands, with no program: its parts, octet by octet; an escaped text in a string, remarks, a value's literal.
-/
namespace Go.Proofs.YtklpbkjplecdpaaGreat.Jsc
open Oct Num Utf Val Go.Proofs.YtklpbkjplecdpaaGreat.Lit

abbrev St := Int × List UInt8
def wordB (c : UInt8) : Bool := letterI (c.toNat : Int) || digitI (c.toNat : Int) || c == 95 || c == 36 || decide (127 < c.toNat)
def blankB (c : UInt8) : Bool := blankI (c.toNat : Int)
def lineB (c : UInt8) : Bool := c == 10 || c == 13
def keys : List (List UInt8) := [[114, 101, 116, 117, 114, 110], [116, 121, 112, 101, 111, 102], [99, 97, 115, 101], [105, 110], [111, 102], [100, 101, 108, 101, 116, 101], [118, 111, 105, 100], [116, 104, 114, 111, 119], [110, 101, 119], [101, 108, 115, 101], [100, 111], [105, 110, 115, 116, 97, 110, 99, 101, 111, 102]]
def keyB (w : List UInt8) : Bool := keys.contains w
def codeJ (p : Int) (w : List UInt8) (c : UInt8) : St :=
  if wordB c then (1, if w.length < 16 then w ++ [c] else w)
  else if blankB c then (if keyB w then 0 else p, []) else if c = 34 then (2, []) else if c = 39 then (3, []) else if c = 96 then (15, [])
  else if c = 47 then (13 + (if keyB w then 0 else p), []) else if c = 41 ∨ c = 93 ∨ c = 125 then (1, []) else (0, [])
def patJ (c : UInt8) : St := if c = 47 then (1, []) else if c = 92 then (10, []) else if c = 91 then (11, []) else if lineB c then (15, []) else (9, [])
def stepJ (s : St) (c : UInt8) : St :=
  if s.1 = 0 ∨ s.1 = 1 then codeJ s.1 s.2 c
  else if s.1 = 2 then (if c = 34 then (1, []) else if c = 92 then (4, []) else if lineB c then (15, []) else (2, []))
  else if s.1 = 3 then (if c = 39 then (1, []) else if c = 92 then (5, []) else if lineB c then (15, []) else (3, []))
  else if s.1 = 4 then (2, []) else if s.1 = 5 then (3, [])
  else if s.1 = 6 then (if lineB c then (0, []) else (6, []))
  else if s.1 = 7 then (if c = 42 then (8, []) else (7, []))
  else if s.1 = 8 then (if c = 42 then (8, []) else if c = 47 then (0, []) else (7, []))
  else if s.1 = 9 then patJ c
  else if s.1 = 10 then (9, [])
  else if s.1 = 11 then (if c = 93 then (9, []) else if c = 92 then (12, []) else if lineB c then (15, []) else (11, []))
  else if s.1 = 12 then (11, [])
  else if s.1 = 13 then (if c = 47 then (6, []) else if c = 42 then (7, []) else patJ c)
  else if s.1 = 14 then (if c = 47 then (6, []) else if c = 42 then (7, []) else codeJ 0 [] c)
  else (15, [])
def feedJ (s : St) (l : List UInt8) : St := l.foldl stepJ s

theorem feed_cons (s : St) (c : UInt8) (t : List UInt8) : feedJ s (c :: t) = feedJ (stepJ s c) t := rfl
theorem stay_lost (w : List UInt8) (l : List UInt8) : (feedJ (15, w) l).1 = 15 := by
  induction l generalizing w with
  | nil => rfl
  | cons c t ih => rw [feed_cons]; exact ih []



def digB (c : UInt8) : Bool := digitI (c.toNat : Int)
def Num (w : List UInt8) : Prop := ∃ c t, w = c :: t ∧ digB c = true
end Go.Proofs.YtklpbkjplecdpaaGreat.Jsc

/-
  Plain facts on texts in styles, with no program: which are plain, a text filtered.
-/
namespace Go.Proofs.YtklpbkjplecdpaaGreat.Css
open Oct

abbrev urlL : List UInt8 := [117, 114, 108]

end Go.Proofs.YtklpbkjplecdpaaGreat.Css

/-
  Plain facts on where in a style a text stands, with no program: its parts, octet by octet; a filtered text, an address.
-/
namespace Go.Proofs.YtklpbkjplecdpaaGreat.Csc
open Oct Css

abbrev St := Int × List UInt8
def wordC (c : UInt8) : Bool := letterI (c.toNat : Int) || digitI (c.toNat : Int) || c == 45 || c == 95
def lineC (c : UInt8) : Bool := c == 10 || c == 13
abbrev holeW : List UInt8 := [63]
def plainC (w : List UInt8) (c : UInt8) : St :=
  if wordC c then (0, if w ≠ holeW ∧ w.length < 16 then w ++ [low c] else w)
  else if c = 34 then (1, []) else if c = 39 then (2, []) else if c = 47 then (5, []) else if c = 92 then (9, [])
  else if c = 40 then (if w = urlL then (8, []) else if w = holeW then (9, []) else (0, [])) else (0, [])
def stepC (s : St) (c : UInt8) : St :=
  if s.1 = 0 then plainC s.2 c
  else if s.1 = 1 then (if c = 34 then (0, []) else if c = 92 then (3, []) else if lineC c then (9, []) else (1, []))
  else if s.1 = 2 then (if c = 39 then (0, []) else if c = 92 then (4, []) else if lineC c then (9, []) else (2, []))
  else if s.1 = 3 then (1, []) else if s.1 = 4 then (2, [])
  else if s.1 = 5 then (if c = 42 then (6, []) else plainC [] c)
  else if s.1 = 6 then (if c = 42 then (7, []) else (6, []))
  else if s.1 = 7 then (if c = 42 then (7, []) else if c = 47 then (0, []) else (6, []))
  else if s.1 = 8 then (if c = 41 then (0, []) else (8, []))
  else (9, [])
def feedC (s : St) (l : List UInt8) : St := l.foldl stepC s

theorem feed_cons (s : St) (c : UInt8) (t : List UInt8) : feedC s (c :: t) = feedC (stepC s c) t := rfl
theorem stay_lost (w : List UInt8) (l : List UInt8) : (feedC (9, w) l).1 = 9 := by
  induction l generalizing w with
  | nil => rfl
  | cons c t ih => rw [feed_cons]; exact ih []
end Go.Proofs.YtklpbkjplecdpaaGreat.Csc

/-
  Where in HTML a text stands, as a plain machine, with no program: a state, a step, a text; what may be; where an action may stand.
-/
namespace Go.Proofs.YtklpbkjplecdpaaGreat.Scn
open Oct Crf Tab
open Tok (blB letB)

abbrev Res := Except Nat Sc
def feedK (k : Nat) (x : Int × List UInt8) (t : List UInt8) : Int × List UInt8 := if k = 1 then Usc.feedU x t else if k = 2 then Jsc.feedJ x t else Csc.feedC x t
def subK (k : Nat) (s : Sc) (t : List UInt8) : Res :=
  if k = 0 then .ok s
  else if k = 1 ∧ s.n = 4 ∧ (feedK k (s.n, s.w) t).1 = 5 then .error 93
  else if k = 2 ∧ (feedK k (s.n, s.w) t).1 = 15 then .error 94
  else if k = 3 ∧ (feedK k (s.n, s.w) t).1 = 9 then .error 95
  else .ok { s with n := (feedK k (s.n, s.w) t).1, w := (feedK k (s.n, s.w) t).2 }
def subS (s : Sc) (t : List UInt8) : Res := subK (langN s) s t
def andThen (x : Res) (f : Sc → Res) : Res := match x with
  | .error e => .error e
  | .ok u => f u
def ampS (s : Sc) (c : UInt8) : Res := if c = 38 then .ok { s with r := [38] } else subS s [c]
def charS (s : Sc) (c : UInt8) : Res :=
  if s.r = [] then ampS s c
  else if (oneL (s.r ++ [c])).2 = (s.r ++ [c]).length then subS { s with r := [] } (oneL (s.r ++ [c])).1
  else if unfL (s.r ++ [c]) = true then .ok { s with r := s.r ++ [c] }
  else andThen (subS { s with r := [] } s.r) fun u => ampS u c
def flushS (s : Sc) : Res := subS { s with r := [] } s.r
def endS (e : List UInt8) : Res :=
  if elemN e = 1 then .ok (scK 17 e) else if elemN e = 2 then .ok (scK 18 e) else if elemN e = 3 then .ok (scK 19 e) else if elemN e = 4 then .error 91 else .ok sc0
def withinS (e : List UInt8) (c : UInt8) : Res :=
  if blB c = true then .ok (scK 5 e) else if c = 47 then .ok (scK 12 e) else if c = 62 then endS e else .ok { scK 6 e with a := [low c] }
def dataS (s : Sc) (c : UInt8) : Res := if c = 60 then .ok (scK 1 []) else charS s c
def openS (c : UInt8) : Res :=
  if letB c = true then .ok (scK 3 [low c]) else if c = 47 then .ok (scK 2 []) else if c = 33 then .ok (scK 13 []) else if c = 63 then .ok (scK 15 []) else dataS sc0 c
def endOpenS (c : UInt8) : Res := if letB c = true then .ok (scK 4 [47, low c]) else if c = 62 then .ok sc0 else .ok (scK 15 [])
def bangS (k : Nat) (c : UInt8) : Res :=
  if c = 45 then (if k = 13 then .ok (scK 14 []) else .ok (scK 16 [])) else if c = 62 then .ok sc0 else .ok (scK 15 [])
def bogusS (s : Sc) (c : UInt8) : Res := if c = 62 then .ok sc0 else .ok s
def commentS (s : Sc) (c : UInt8) : Res :=
  if c = 45 ∧ s.p ≠ [45, 45] then .ok { s with p := s.p ++ [45] } else if c = 62 ∧ s.p = [45, 45] then .ok sc0 else if c ≠ 45 then .ok { s with p := [] } else .ok s
def nameS (s : Sc) (c : UInt8) : Res :=
  if blB c = true ∨ c = 47 ∨ c = 62 then withinS s.e c else if 32 + (s.k - 3) ≤ s.e.length then .error 5 else .ok { s with e := s.e ++ [low c] }
def attrS (s : Sc) (c : UInt8) : Res :=
  if blB c = true then .ok { s with k := 7 } else if c = 61 then .ok { s with k := 8 } else if c = 47 ∨ c = 62 ∨ s.k = 7 then withinS s.e c
  else if 32 ≤ s.a.length then .error 5 else .ok { s with a := s.a ++ [low c] }
def wantS (s : Sc) (c : UInt8) : Res :=
  if blB c = true then .ok s else if c = 34 ∨ c = 39 then .ok { s with k := 9, d := c } else if c = 62 then endS s.e else charS { s with k := 10 } c
def valueS (s : Sc) (c : UInt8) : Res := if c = s.d then andThen (flushS s) fun t => .ok (scK 11 t.e) else charS s c
def bareS (s : Sc) (c : UInt8) : Res := if blB c = true ∨ c = 62 then andThen (flushS s) fun t => withinS t.e c else charS s c
def pendB (s : Sc) (t : List UInt8) : Bool := (t.map low).isPrefixOf ((60 :: 47 :: s.e).map low) || (s.k == 19 && t.isPrefixOf [60, 33, 45, 45])
def rawOne (s : Sc) (c : UInt8) : Res := if c = 60 then .ok { s with p := [60], r := [] } else if s.k = 17 then charS s c else subS s [c]
def rawS (s : Sc) (c : UInt8) : Res :=
  if s.p = [] then rawOne s c
  else if pendB s (s.p ++ [c]) = true then (if s.p ++ [c] = [60, 33, 45, 45] then .error 94 else .ok { s with p := s.p ++ [c] })
  else if s.p.length = s.e.length + 2 ∧ s.p[1]? = some 47 ∧ (blB c = true ∨ c = 47 ∨ c = 62) then withinS (47 :: s.e) c
  else andThen (subS { s with p := [] } s.p) fun u => rawOne u c
def goS (s : Sc) (c : UInt8) : Res :=
  if s.k = 0 then dataS s c else if s.k = 1 then openS c else if s.k = 2 then endOpenS c
  else if s.k = 3 ∨ s.k = 4 then nameS s c else if s.k = 5 ∨ s.k = 11 ∨ s.k = 12 then withinS s.e c
  else if s.k = 6 ∨ s.k = 7 then attrS s c else if s.k = 8 then wantS s c else if s.k = 9 then valueS s c else if s.k = 10 then bareS s c
  else if s.k = 13 ∨ s.k = 14 then bangS s.k c else if s.k = 15 then bogusS s c else if s.k = 16 then commentS s c else rawS s c
def runS (s : Sc) : List UInt8 → Except (Nat × Nat) Sc
  | [] => .ok s
  | c :: t => match goS s c with
    | .error e => .error (0, e)
    | .ok u => match runS u t with
      | .error (k, e) => .error (k + 1, e)
      | .ok v => .ok v
theorem runS_nil (s : Sc) : runS s [] = .ok s := rfl
theorem runS_eq (s : Sc) (c : UInt8) (t : List UInt8) : runS s (c :: t) = match goS s c with
    | .error e => .error (0, e)
    | .ok u => match runS u t with
      | .error (k, e) => .error (k + 1, e)
      | .ok v => .ok v := rfl
theorem runS_cons {s v : Sc} {c : UInt8} {t : List UInt8} (h : runS s (c :: t) = .ok v) : ∃ u, goS s c = .ok u ∧ runS u t = .ok v := by
  unfold runS at h
  cases hg : goS s c with
  | error e => rw [hg] at h; cases h
  | ok u =>
    rw [hg] at h
    refine ⟨u, rfl, ?_⟩
    cases hr : runS u t with
    | error x => simp only [hr] at h; cases h
    | ok y => simp only [hr] at h; exact h
end Go.Proofs.YtklpbkjplecdpaaGreat.Scn

/-
  What a run does in data, in raw text, within quotes: an escaped text is one token; within quotes it is a value; in raw text all is text up to its own end tag.
-/
namespace Go.Proofs.YtklpbkjplecdpaaGreat.Tok
open Oct Utf Crf Tab

theorem opens_no {c : UInt8} (t : List UInt8) (h : c ≠ 60) : opens c t = false := by
  unfold opens
  rw [beq_eq_false_iff_ne.2 h]
  rfl
theorem step_data (c : UInt8) (t : List UInt8) (r : Rd) (h0 : r.st = 0) : stepR c t r = dataR c t r := by
  unfold stepR outR
  rw [h0]
  rfl
theorem step_raw (c : UInt8) (t : List UInt8) (r : Rd) (h0 : r.st = 15) : stepR c t r = rawR (c :: t) c r := by
  unfold stepR outR
  rw [h0]
  rfl

theorem run_text (p t : List UInt8) (r : Rd) (h0 : r.st = 0) (h : ∀ c ∈ p, c ≠ 60) : runR (p ++ t) r = runR t { r with tx := r.tx ++ p } := by
  induction p generalizing r with
  | nil => simp
  | cons c p ih =>
    have e : stepR c (p ++ t) r = (addT c r, 1) := by
      rw [step_data _ _ _ h0]
      unfold dataR
      rw [opens_no _ (h c (by simp))]
      rfl
    rw [List.cons_append, run_cons, e]
    show runR (p ++ t) (addT c r) = _
    rw [ih (addT c r) h0 (fun d hd => h d (by simp [hd]))]
    unfold addT
    simp
theorem run_raw (p t : List UInt8) (r : Rd) (h0 : r.st = 15) (h : ∀ i, i < p.length → hits r.rw ((p ++ t).drop i) = false) : runR (p ++ t) r = runR t { r with tx := r.tx ++ p } := by
  induction p generalizing r with
  | nil => simp
  | cons c p ih =>
    have hh := h 0 (by simp)
    rw [List.drop_zero, List.cons_append] at hh
    have e : stepR c (p ++ t) r = (addT c r, 1) := by
      rw [step_raw _ _ _ h0]
      unfold rawR
      rw [hh]
      rfl
    rw [List.cons_append, run_cons, e]
    show runR (p ++ t) (addT c r) = _
    rw [ih (addT c r) h0 (fun i hi => by
      have := h (i + 1) (by simp; omega)
      rw [List.cons_append, List.drop_succ_cons] at this
      exact this)]
    unfold addT
    simp
def wordC (c : UInt8) : Bool := smallI (c.toNat : Int) || digitI (c.toNat : Int) || c == 45


end Go.Proofs.YtklpbkjplecdpaaGreat.Tok
