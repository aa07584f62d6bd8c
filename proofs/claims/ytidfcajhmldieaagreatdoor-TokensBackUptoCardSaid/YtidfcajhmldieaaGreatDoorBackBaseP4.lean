/-
  Part 4: TabPure, TokPure.
-/
import Derived.Test.YtidfcajhmldieaaGreatDoorBackBaseP1
import Derived.Test.YtidfcajhmldieaaGreatDoorBackBaseP3
/-
  Plain facts on the tables of elements and attributes, with no program.
-/
namespace Go.Proofs.YtidfcajhmldieaaGreatDoor.Tab
open Go.Proofs.YtidfcajhmldieaaGreatDoor.Oct

abbrev elsL : List (List UInt8) := [[116, 105, 116, 108, 101], [116, 101, 120, 116, 97, 114, 101, 97], [115, 116, 121, 108, 101], [115, 99, 114, 105, 112, 116], [112, 108, 97, 105, 110, 116, 101, 120, 116], [120, 109, 112], [105, 102, 114, 97, 109, 101], [110, 111, 101, 109, 98, 101, 100], [110, 111, 102, 114, 97, 109, 101, 115], [110, 111, 115, 99, 114, 105, 112, 116]]
abbrev urlsL : List (List UInt8) := [[104, 114, 101, 102], [115, 114, 99], [97, 99, 116, 105, 111, 110], [102, 111, 114, 109, 97, 99, 116, 105, 111, 110], [99, 105, 116, 101], [112, 111, 115, 116, 101, 114], [98, 97, 99, 107, 103, 114, 111, 117, 110, 100], [108, 111, 110, 103, 100, 101, 115, 99], [109, 97, 110, 105, 102, 101, 115, 116], [105, 99, 111, 110]]
abbrev nosL : List (List UInt8) := [[115, 114, 99, 100, 111, 99], [115, 114, 99, 115, 101, 116], [104, 116, 116, 112, 45, 101, 113, 117, 105, 118], [112, 105, 110, 103]]
abbrev voidsL : List (List UInt8) := [[97, 114, 101, 97], [98, 97, 115, 101], [98, 114], [99, 111, 108], [101, 109, 98, 101, 100], [104, 114], [105, 109, 103], [105, 110, 112, 117, 116], [108, 105, 110, 107], [109, 101, 116, 97], [112, 97, 114, 97, 109], [115, 111, 117, 114, 99, 101], [116, 114, 97, 99, 107], [119, 98, 114]]
abbrev dataL : List UInt8 := [100, 97, 116, 97]
abbrev objectL : List UInt8 := [111, 98, 106, 101, 99, 116]
abbrev onL : List UInt8 := [111, 110]
abbrev styleL : List UInt8 := [115, 116, 121, 108, 101]
abbrev xmlnsL : List UInt8 := [120, 109, 108, 110, 115]
/-- What an element's number is by its place. -/
def codeN (i : Nat) : Nat := if i < 2 then 1 else if i < 4 then i else 4
/-- The first place of a text in a list. -/
def placeL (s : List UInt8) : List (List UInt8) → Option Nat
  | [] => none
  | x :: r => if x = s then some 0 else (placeL s r).map (· + 1)
def elemN (s : List UInt8) : Nat := match placeL s elsL with
  | some i => codeN i
  | none => 0
def inL (l : List (List UInt8)) (s : List UInt8) : Bool := decide (s ∈ l)
def preL (p s : List UInt8) : Bool := decide (p <+: s)
def attrN (elem attr : List UInt8) : Nat :=
  if inL urlsL attr = true ∨ (attr = dataL ∧ elem = objectL) then 1 else if preL onL attr = true then 2 else if attr = styleL then 3
  else if attr = [] ∨ inL nosL attr = true ∨ preL xmlnsL attr = true then 4 else 0
def voidB (s : List UInt8) : Bool := inL voidsL s

theorem take_ne {p s : List UInt8} {l : List (List UInt8)} (h : ∀ x ∈ l, x.take p.length ≠ p) : inL l (p ++ s) = false := by
  refine decide_eq_false fun hm => h _ hm ?_
  rw [List.take_left]
theorem attr_on (elem s : List UInt8) : attrN elem (onL ++ s) = 2 := by
  unfold attrN
  have h1 : inL urlsL (onL ++ s) = false := take_ne (by decide)
  have h2 : onL ++ s ≠ dataL := fun h => absurd (congrArg (List.take 1) h) (by simp)
  have h3 : preL onL (onL ++ s) = true := decide_eq_true (List.prefix_append ..)
  rw [if_neg (by rw [h1]; exact fun h => h.elim (fun h => Bool.noConfusion h) (fun h => h2 h.1)), if_pos h3]
theorem attr_q (elem s : List UInt8) : attrN elem ([113, 45, 111, 110] ++ s) = 0 := by
  unfold attrN
  have h1 : inL urlsL ([113, 45, 111, 110] ++ s) = false := take_ne (by decide)
  have h2 : [113, 45, 111, 110] ++ s ≠ dataL := fun h => absurd (congrArg (List.take 1) h) (by simp)
  have h3 : preL onL ([113, 45, 111, 110] ++ s) = false := decide_eq_false (by rintro ⟨t, ht⟩; simp at ht)
  have h4 : [113, 45, 111, 110] ++ s ≠ styleL := fun h => absurd (congrArg (List.take 1) h) (by simp)
  have h5 : [113, 45, 111, 110] ++ s ≠ [] := by simp
  have h6 : inL nosL ([113, 45, 111, 110] ++ s) = false := take_ne (by decide)
  have h7 : preL xmlnsL ([113, 45, 111, 110] ++ s) = false := decide_eq_false (by rintro ⟨t, ht⟩; simp at ht)
  rw [if_neg (by rw [h1]; exact fun h => h.elim (fun h => Bool.noConfusion h) (fun h => h2 h.1)), if_neg (by rw [h3]; simp), if_neg h4, if_neg (by rw [h6, h7]; exact fun h => h.elim h5 (fun h => h.elim (fun h => Bool.noConfusion h) (fun h => Bool.noConfusion h)))]

/-! ### A loop that looks a text up -/
theorem place_none {s : List UInt8} : ∀ {l : List (List UInt8)}, (∀ k, (h : k < l.length) → l[k] ≠ s) → placeL s l = none
  | [], _ => rfl
  | x :: r, h => by
    unfold placeL
    rw [if_neg (show x ≠ s from h 0 (by simp)), place_none (fun k hk => by have := h (k + 1) (by simp; omega); simpa using this)]
    rfl
theorem place_some {s : List UInt8} : ∀ {l : List (List UInt8)} {k : Nat} (hk : k < l.length), (∀ j, (h : j < l.length) → j < k → l[j] ≠ s) → l[k] = s → placeL s l = some k
  | [], k, hk, _, _ => absurd hk (by simp)
  | x :: r, 0, _, _, he => by
    unfold placeL
    rw [if_pos (show x = s from he)]
  | x :: r, k + 1, hk, hn, he => by
    unfold placeL
    rw [if_neg (show x ≠ s from hn 0 (by simp) (by omega)), place_some (k := k) (by simpa using hk) (fun j h hj => by have := hn (j + 1) (by simp; omega) (by omega); simpa using this) (by simpa using he)]
    rfl
theorem in_yes {l : List (List UInt8)} {s : List UInt8} {k : Nat} (hk : k < l.length) (he : l[k] = s) : inL l s = true := decide_eq_true (he ▸ List.getElem_mem hk)
theorem in_no {l : List (List UInt8)} {s : List UInt8} (h : ∀ k, (h : k < l.length) → l[k] ≠ s) : inL l s = false := by
  refine decide_eq_false fun hm => ?_
  obtain ⟨k, hk, he⟩ := List.getElem_of_mem hm
  exact h k hk he
end Go.Proofs.YtidfcajhmldieaaGreatDoor.Tab

/-
  The reader of HTML as a plain machine, with no program: its states, its step, its run; what a run does in data, in raw text, within quotes.
-/
namespace Go.Proofs.YtidfcajhmldieaaGreatDoor.Tok
open Go.Proofs.YtidfcajhmldieaaGreatDoor.Oct Go.Proofs.YtidfcajhmldieaaGreatDoor.Utf Go.Proofs.YtidfcajhmldieaaGreatDoor.Crf Go.Proofs.YtidfcajhmldieaaGreatDoor.Tab

/-- An attribute: its name, its value. -/
structure At where
  n : List UInt8
  v : List UInt8
deriving DecidableEq
/-- A token. -/
structure Tk where
  k : Int
  n : List UInt8
  x : List UInt8
  a : List At
  c : Bool
deriving DecidableEq
abbrev noAt : At := ⟨[], []⟩
abbrev noTk : Tk := ⟨0, [], [], [], false⟩
abbrev txTk (x : List UInt8) : Tk := ⟨3, [], x, [], false⟩
/-- The reader: what was told, the state, the text, the tag and the attribute on their way, the quote, the raw text's name and its kind. -/
structure Rd where
  out : List Tk
  st : Nat
  tx : List UInt8
  tg : Tk
  av : At
  q : UInt8
  rw : List UInt8
  kd : Nat
deriving DecidableEq
abbrev rd0 : Rd := ⟨[], 0, [], noTk, noAt, 0, [], 0⟩

def blB (c : UInt8) : Bool := blankI (c.toNat : Int)
def letB (c : UInt8) : Bool := letterI (c.toNat : Int)
def textR (d : Bool) (r : Rd) : Rd :=
  { r with out := if (if d then decL' r.tx else r.tx) = [] then r.out else r.out ++ [txTk (if d then decL' r.tx else r.tx)], tx := [] }
def putR (r : Rd) : Rd := { r with tg := { r.tg with a := r.tg.a ++ [⟨r.av.n, decL' r.av.v⟩] }, av := noAt }
def toldT (t : Tk) : Tk := if t.k = 2 then { t with a := [], c := false } else t
def rawK (t : Tk) : Bool := decide (t.k = 1 ∧ 1 ≤ elemN t.n ∧ elemN t.n ≤ 3)
def endR (r : Rd) : Rd :=
  if rawK (toldT r.tg) then { r with out := r.out ++ [toldT r.tg], tg := noTk, st := 15, rw := (toldT r.tg).n, kd := elemN (toldT r.tg).n }
  else { r with out := r.out ++ [toldT r.tg], tg := noTk, st := 0 }
def goR (s : Nat) (r : Rd) : Rd := { r with st := s }
def tnameR (c : UInt8) (r : Rd) : Rd × Bool :=
  if blB c then (goR 4 r, false) else if c = 47 then (goR 11 r, false) else if c = 62 then (endR r, false) else ({ r with tg := { r.tg with n := r.tg.n ++ [low c] } }, false)
def beforeR (c : UInt8) (r : Rd) : Rd × Bool :=
  if blB c then (r, false) else if c = 47 then (goR 11 r, false) else if c = 62 then (endR r, false) else ({ r with st := 5, av := ⟨[low c], []⟩ }, false)
def attrR (c : UInt8) (r : Rd) : Rd × Bool :=
  if blB c then (goR 6 r, false) else if c = 61 then (goR 7 r, false) else if c = 47 then (goR 11 (putR r), false) else if c = 62 then (endR (putR r), false)
  else if r.st = 6 then (goR 4 (putR r), true) else ({ r with av := { r.av with n := r.av.n ++ [low c] } }, false)
def slashR (c : UInt8) (r : Rd) : Rd × Bool :=
  if c = 62 then (endR { r with tg := { r.tg with c := true } }, false) else (goR 4 r, true)
/-- The states within a tag; true: the octet is asked anew. -/
def tagR (c : UInt8) (r : Rd) : Rd × Bool :=
  if r.st = 3 then tnameR c r else if r.st = 4 then beforeR c r else if r.st = 5 ∨ r.st = 6 then attrR c r else if r.st = 10 then (goR 4 r, true) else slashR c r
def wantR (c : UInt8) (r : Rd) : Rd × Bool :=
  if blB c then (r, false) else if c = 34 ∨ c = 39 then ({ r with st := 8, q := c }, false) else if c = 62 then (endR (putR r), false) else (goR 9 r, true)
def addV (c : UInt8) (r : Rd) : Rd := { r with av := { r.av with v := r.av.v ++ [c] } }
def valueR (c : UInt8) (r : Rd) : Rd × Bool := if c = r.q then (goR 10 (putR r), false) else (addV c r, false)
def bareR (c : UInt8) (r : Rd) : Rd × Bool := if blB c = true ∨ c = 62 then (goR 4 (putR r), true) else (addV c r, false)
def valR (c : UInt8) (r : Rd) : Rd × Bool := if r.st = 7 then wantR c r else if r.st = 8 then valueR c r else bareR c r
def opens (c : UInt8) (t : List UInt8) : Bool :=
  (c == 60) && (match t with | [] => false | d :: u => letB d || d == 33 || d == 63 || (d == 47 && !u.isEmpty))
def addT (c : UInt8) (r : Rd) : Rd := { r with tx := r.tx ++ [c] }
def dataR (c : UInt8) (t : List UInt8) (r : Rd) : Rd × Nat := if opens c t then (goR 1 (textR true r), 1) else (addT c r, 1)
def openR (c : UInt8) (r : Rd) : Rd × Nat :=
  if c = 47 then (goR 2 r, 1) else if c = 33 then (goR 12 r, 1) else if c = 63 then (goR 13 r, 1) else ({ r with st := 3, tg := { noTk with k := 1 } }, 0)
def endOpenR (c : UInt8) (r : Rd) : Rd × Nat :=
  if letB c then ({ r with st := 3, tg := { noTk with k := 2 } }, 0) else if c = 62 then (goR 0 r, 1) else (goR 13 r, 0)
def bangR (l : List UInt8) (r : Rd) : Rd × Nat := if [45, 45].isPrefixOf l then (goR 14 r, 2) else (goR 13 r, 0)
def bogusR (c : UInt8) (r : Rd) : Rd × Nat := if c = 62 then (goR 0 r, 1) else (r, 1)
def commentR (l : List UInt8) (c : UInt8) (r : Rd) : Rd × Nat :=
  if [45, 45, 62].isPrefixOf l then ({ r with out := r.out ++ [⟨4, [], r.tx, [], false⟩], tx := [], st := 0 }, 3) else (addT c r, 1)
/-- Raw text's end: its tag, and behind it an octet that ends a name. -/
def hits (rw l : List UInt8) : Bool :=
  ((60 :: 47 :: rw).map low).isPrefixOf (l.map low) && (match l.drop (2 + rw.length) with | [] => false | d :: _ => blB d || d == 47 || d == 62)
def rawR (l : List UInt8) (c : UInt8) (r : Rd) : Rd × Nat :=
  if hits r.rw l then ({ textR (r.kd == 1) r with st := 3, tg := { noTk with k := 2, n := ((l.drop 2).take r.rw.length).map low } }, 2 + r.rw.length) else (addT c r, 1)
/-- The states outside of tags; how many octets were read. -/
def outR (c : UInt8) (t : List UInt8) (r : Rd) : Rd × Nat :=
  if r.st = 0 then dataR c t r else if r.st = 1 then openR c r else if r.st = 2 then endOpenR c r else if r.st = 12 then bangR (c :: t) r
  else if r.st = 13 then bogusR c r else if r.st = 14 then commentR (c :: t) c r else rawR (c :: t) c r
def inTag (s : Nat) : Bool := decide ((3 ≤ s ∧ s ≤ 6) ∨ s = 10 ∨ s = 11)
def inVal (s : Nat) : Bool := decide (7 ≤ s ∧ s ≤ 9)
def again (p : Rd × Bool) : Rd × Nat := (p.1, if p.2 then 0 else 1)
def stepR (c : UInt8) (t : List UInt8) (r : Rd) : Rd × Nat :=
  if inTag r.st then again (tagR c r) else if inVal r.st then again (valR c r) else outR c t r

/-! ### The run -/
def rank (s : Nat) : Nat := if s = 7 then 2 else if s = 9 ∨ s = 6 ∨ s = 10 ∨ s = 11 ∨ s = 1 ∨ s = 2 ∨ s = 12 then 1 else 0
def runF : Nat → List UInt8 → Rd → Rd
  | 0, _, r => r
  | _ + 1, [], r => r
  | f + 1, c :: t, r => runF f ((c :: t).drop (stepR c t r).2) (stepR c t r).1
def meas (l : List UInt8) (s : Nat) : Nat := 3 * l.length + rank s
def runR (l : List UInt8) (r : Rd) : Rd := runF (meas l r.st) l r

theorem rank_le (s : Nat) : rank s ≤ 2 := by
  unfold rank
  split
  · omega
  · split <;> omega
theorem tag_again (c : UInt8) (r : Rd) (hs : inTag r.st = true) (h : (tagR c r).2 = true) : rank (tagR c r).1.st < rank r.st := by
  have hs := of_decide_eq_true hs
  revert h
  unfold tagR
  split
  · intro h; exfalso; revert h; unfold tnameR; repeat' split
    all_goals simp
  · split
    · intro h; exfalso; revert h; unfold beforeR; repeat' split
      all_goals simp
    · split
      · unfold attrR
        repeat' split
        all_goals intro h
        all_goals first | (exfalso; revert h; simp; done) | skip
        rename_i h6
        rw [h6]
        exact (by decide : (0 : Nat) < 1)
      · split
        · rename_i h10
          intro _
          rw [h10]
          exact (by decide : (0 : Nat) < 1)
        · have h11 : r.st = 11 := by omega
          unfold slashR
          split
          · intro h; exfalso; revert h; simp
          · intro _
            rw [h11]
            exact (by decide : (0 : Nat) < 1)
theorem val_again (c : UInt8) (r : Rd) (hs : inVal r.st = true) (h : (valR c r).2 = true) : rank (valR c r).1.st < rank r.st := by
  have hs := of_decide_eq_true hs
  revert h
  unfold valR
  split
  · rename_i h7
    unfold wantR
    repeat' split
    all_goals intro h
    all_goals first | (exfalso; revert h; simp; done) | skip
    rw [h7]
    exact (by decide : (1 : Nat) < 2)
  · split
    · unfold valueR
      split <;> (intro h; exfalso; revert h; simp)
    · have h9 : r.st = 9 := by omega
      unfold bareR
      split
      · intro _
        rw [h9]
        exact (by decide : (0 : Nat) < 1)
      · intro h; exfalso; revert h; simp
theorem out_again (c : UInt8) (t : List UInt8) (r : Rd) (h : (outR c t r).2 = 0) : rank (outR c t r).1.st < rank r.st := by
  revert h
  unfold outR
  split
  · unfold dataR; split <;> (intro h; exfalso; revert h; simp)
  · split
    · rename_i hs
      unfold openR
      repeat' split
      all_goals intro h
      all_goals first | (exfalso; revert h; simp; done) | skip
      rw [hs]
      exact (by decide : (0 : Nat) < 1)
    · split
      · rename_i hs
        unfold endOpenR
        repeat' split
        all_goals intro h
        all_goals first | (exfalso; revert h; simp; done) | skip
        all_goals rw [hs]
        all_goals exact (by decide : (0 : Nat) < 1)
      · split
        · rename_i hs
          unfold bangR
          split
          · intro h; exfalso; revert h; simp
          · intro _
            rw [hs]
            exact (by decide : (0 : Nat) < 1)
        · split
          · unfold bogusR; split <;> (intro h; exfalso; revert h; simp)
          · split
            · unfold commentR; split <;> (intro h; exfalso; revert h; simp)
            · unfold rawR
              split
              · intro h; exfalso; revert h; simp
              · intro h; exfalso; revert h; simp
/-- Each step brings the end nearer. -/
theorem step_less (c : UInt8) (t : List UInt8) (r : Rd) : meas ((c :: t).drop (stepR c t r).2) (stepR c t r).1.st < meas (c :: t) r.st := by
  unfold meas
  have hr := rank_le (stepR c t r).1.st
  by_cases h0 : (stepR c t r).2 = 0
  · rw [h0, List.drop_zero]
    have : rank (stepR c t r).1.st < rank r.st := by
      revert h0
      unfold stepR
      split
      · rename_i hs
        intro h0
        refine tag_again c r hs ?_
        unfold again at h0
        revert h0
        cases (tagR c r).2 <;> simp
      · split
        · rename_i hs
          intro h0
          refine val_again c r hs ?_
          unfold again at h0
          revert h0
          cases (valR c r).2 <;> simp
        · intro h0
          exact out_again c t r h0
    omega
  · rw [List.length_drop, List.length_cons]
    omega
theorem run_enough (f : Nat) : ∀ (g : Nat) (l : List UInt8) (r : Rd), meas l r.st ≤ f → meas l r.st ≤ g → runF f l r = runF g l r := by
  induction f with
  | zero =>
    intro g l r h1 _
    have hl : l = [] := by
      cases l with
      | nil => rfl
      | cons c t => unfold meas at h1; simp at h1
    subst hl
    cases g <;> rfl
  | succ f ih =>
    intro g l r h1 h2
    cases l with
    | nil => cases g <;> rfl
    | cons c t =>
      cases g with
      | zero => unfold meas at h2; simp at h2
      | succ g =>
        have := step_less c t r
        show runF f _ _ = runF g _ _
        exact ih g _ _ (by omega) (by omega)
theorem run_nil (r : Rd) : runR [] r = r := by
  unfold runR
  cases meas [] r.st <;> rfl
theorem run_cons (c : UInt8) (t : List UInt8) (r : Rd) : runR (c :: t) r = runR ((c :: t).drop (stepR c t r).2) (stepR c t r).1 := by
  have hl := step_less c t r
  unfold runR
  obtain ⟨f, hf⟩ : ∃ f, meas (c :: t) r.st = f + 1 := ⟨meas (c :: t) r.st - 1, by omega⟩
  rw [hf]
  show runF f _ _ = _
  exact run_enough _ _ _ _ (by omega) (Nat.le_refl _)
/-- What is on its way at the end. -/
def lastR (r : Rd) : List Tk :=
  if r.st = 0 then (textR true r).out else if r.st = 15 then (textR (r.kd == 1) r).out else if r.st = 14 then r.out ++ [⟨4, [], r.tx, [], false⟩] else r.out
/-- A text's tokens. -/
def tokL (l : List UInt8) : List Tk := lastR (runR l rd0)
/-- So many steps on. -/
def stepsN : Nat → List UInt8 → Rd → List UInt8 × Rd
  | 0, l, r => (l, r)
  | _ + 1, [], r => ([], r)
  | f + 1, c :: t, r => stepsN f ((c :: t).drop (stepR c t r).2) (stepR c t r).1
theorem run_steps (f : Nat) : ∀ (l : List UInt8) (r : Rd), runR l r = runR (stepsN f l r).1 (stepsN f l r).2 := by
  induction f with
  | zero => intro l r; rfl
  | succ f ih =>
    intro l r
    cases l with
    | nil => rfl
    | cons c t => rw [run_cons]; exact ih _ _
theorem run_to {l l' : List UInt8} {r r' : Rd} (f : Nat) (h : stepsN f l r = (l', r')) : runR l r = runR l' r' := by rw [run_steps f, h]

/-! ### Bounds -/
/-- No list of the reader is longer than M less what is still to come. -/
def Bd (M m : Nat) (r : Rd) : Prop :=
  r.out.length + m ≤ M ∧ r.tx.length + m ≤ M ∧ r.tg.n.length + m ≤ M ∧ r.tg.a.length + m ≤ M ∧ r.av.n.length + m ≤ M ∧ r.av.v.length + m ≤ M ∧ r.rw.length ≤ M
/-- What a step makes longer by one at most. -/
def Gr (r r' : Rd) : Prop :=
  r'.out.length ≤ r.out.length + 1 ∧ r'.tx.length ≤ r.tx.length + 1 ∧ r'.tg.n.length ≤ r.tg.n.length + 1 ∧ r'.tg.a.length ≤ r.tg.a.length + 1 ∧ r'.av.n.length ≤ r.av.n.length + 1 ∧ r'.av.v.length ≤ r.av.v.length + 1 ∧ (r'.rw.length ≤ r.rw.length ∨ r'.rw.length ≤ r.tg.n.length)
theorem told_n (t : Tk) : (toldT t).n = t.n := by unfold toldT; split <;> rfl
theorem gr_refl (r : Rd) : Gr r r := by unfold Gr; omega
theorem gr_end (r : Rd) : Gr r (endR r) := by
  unfold endR Gr
  split <;> simp [told_n]
theorem gr_endput (r : Rd) : Gr r (endR (putR r)) := by
  unfold endR Gr
  split <;> simp [told_n, putR]
theorem gr_put (s : Nat) (r : Rd) : Gr r (goR s (putR r)) := by unfold Gr goR putR; simp
theorem gr_go (s : Nat) (r : Rd) : Gr r (goR s r) := by unfold Gr goR; simp
theorem text_facts (d : Bool) (r : Rd) : (textR d r).out.length ≤ r.out.length + 1 ∧ (textR d r).tx = [] ∧ (textR d r).av = r.av ∧ (textR d r).rw = r.rw ∧ (textR d r).tg = r.tg := by
  unfold textR
  refine ⟨?_, rfl, rfl, rfl, rfl⟩
  generalize (if d = true then decL' r.tx else r.tx) = x
  show (if x = [] then r.out else r.out ++ [txTk x]).length ≤ _
  split <;> simp
theorem gr_text (d : Bool) (s : Nat) (r : Rd) : Gr r (goR s (textR d r)) := by
  obtain ⟨h1, h2, h3, h4, h5⟩ := text_facts d r
  unfold Gr goR
  simp only [h2, h3, h4, h5]
  simp
  exact h1
theorem gr_tag (c : UInt8) (r : Rd) : Gr r (tagR c r).1 := by
  unfold tagR tnameR beforeR attrR slashR
  repeat' split
  all_goals first | exact gr_refl _ | exact gr_go _ _ | exact gr_end _ | exact gr_endput _ | exact gr_put _ _ | skip
  all_goals first | (unfold Gr; simp; done) | skip
theorem gr_val (c : UInt8) (r : Rd) : Gr r (valR c r).1 := by
  unfold valR wantR valueR bareR addV
  repeat' split
  all_goals first | exact gr_refl _ | exact gr_go _ _ | exact gr_end _ | exact gr_endput _ | exact gr_put _ _ | skip
  all_goals (unfold Gr; simp)
theorem gr_out (c : UInt8) (t : List UInt8) (r : Rd) (h : r.st ≠ 15) (h1 : inTag r.st = false) (h2 : inVal r.st = false) (hs : r.st ≤ 15) : Gr r (outR c t r).1 := by
  unfold outR
  have e1 := of_decide_eq_false h1
  have e2 := of_decide_eq_false h2
  unfold dataR openR endOpenR bangR bogusR commentR addT
  repeat' split
  all_goals first | exact gr_refl _ | exact gr_go _ _ | exact gr_text _ _ _ | skip
  all_goals first | (unfold Gr; simp; done) | skip
  all_goals (exfalso; omega)
theorem gr_bd {M m m' : Nat} {r r' : Rd} (h : Gr r r') (hm : m' < m) (hb : Bd M m r) : Bd M m' r' := by
  unfold Gr at h
  unfold Bd at hb ⊢
  omega
/-- The states are those sixteen. -/
theorem end_st (r : Rd) : (endR r).st ≤ 15 := by unfold endR; split <;> simp
theorem step_st (c : UInt8) (t : List UInt8) (r : Rd) (h : r.st ≤ 15) : (stepR c t r).1.st ≤ 15 := by
  unfold stepR again
  split
  · unfold tagR tnameR beforeR attrR slashR goR
    repeat' split
    all_goals first | exact end_st _ | (simp; done) | exact h
  · split
    · unfold valR wantR valueR bareR goR addV
      repeat' split
      all_goals first | exact end_st _ | (simp; done) | exact h
    · unfold outR dataR openR endOpenR bangR bogusR commentR rawR goR addT
      repeat' split
      all_goals first | (simp; done) | exact h
theorem step_bd {M : Nat} (c : UInt8) (t : List UInt8) (r : Rd) (hs : r.st ≤ 15) (h : Bd M (meas (c :: t) r.st) r) : Bd M (meas ((c :: t).drop (stepR c t r).2) (stepR c t r).1.st) (stepR c t r).1 := by
  have hl := step_less c t r
  by_cases h15 : r.st = 15
  · have e : stepR c t r = rawR (c :: t) c r := by
      unfold stepR outR
      rw [h15]
      rfl
    rw [e] at hl ⊢
    clear e
    unfold rawR at hl ⊢
    split
    · rename_i hh
      rw [if_pos hh] at hl
      unfold Bd at h ⊢
      have hx := text_facts (r.kd == 1) r
      refine ⟨?_, ?_, ?_, ?_, ?_, ?_, ?_⟩
      · have := hx.1; simp only at hl ⊢; omega
      · have := hx.2.1; simp only [this] at hl ⊢; simp; omega
      · simp only [List.length_map, List.length_take, List.length_drop]
        unfold meas at hl h ⊢
        simp only [List.length_drop, List.length_cons] at hl h ⊢
        have e3 : rank 3 = 0 := rfl
        simp only [e3] at hl ⊢
        omega
      · simp only at hl ⊢; simp; omega
      · have := hx.2.2.1; simp only [this] at hl ⊢; omega
      · have := hx.2.2.1; simp only [this] at hl ⊢; omega
      · have := hx.2.2.2.1; simp only [this] at hl ⊢; omega
    · rename_i hh
      rw [if_neg hh] at hl
      refine gr_bd ?_ hl h
      unfold Gr addT
      simp
  · refine gr_bd ?_ hl h
    unfold stepR again
    split
    · exact gr_tag c r
    · split
      · exact gr_val c r
      · rename_i h1 h2
        exact gr_out c t r h15 (by simpa using h1) (by simpa using h2) hs
theorem bd0 (l : List UInt8) : Bd (meas l 0) (meas l 0) rd0 := by
  unfold Bd
  simp
end Go.Proofs.YtidfcajhmldieaaGreatDoor.Tok
