/-
  Part 3: TokShape, ScnSim.
-/
import Derived.Test.YtklpbkjplecdpaaGreatSxBaseP2
/-
  Plain facts on the shape of what is read as HTML, with no program: it does not hang on texts, nor on attributes' values.
-/
namespace Go.Proofs.YtklpbkjplecdpaaGreat.Tok
open Oct Utf Crf Tab

def shA (l : List At) : List At := l.map fun a => ⟨a.n, []⟩
def shT (t : Tk) : Tk := ⟨t.k, t.n, t.x, shA t.a, t.c⟩
def shL (l : List Tk) : List Tk := (l.filter fun t => !(t.k == 3)).map shT
theorem shL_append (a b : List Tk) : shL (a ++ b) = shL a ++ shL b := by unfold shL; rw [List.filter_append, List.map_append]
theorem shL_text (x : List UInt8) : shL [txTk x] = [] := rfl
theorem shL_one {t : Tk} (h : t.k ≠ 3) : shL [t] = [shT t] := by
  have e : (!(t.k == 3)) = true := by simp [h]
  unfold shL
  rw [List.filter_cons_of_pos (p := fun t : Tk => !(t.k == 3)) e]
  rfl
theorem shk {t u : Tk} (h : shT t = shT u) : t.k = u.k := by have e := congrArg Tk.k h; exact e
theorem shn {t u : Tk} (h : shT t = shT u) : t.n = u.n := by have e := congrArg Tk.n h; exact e
theorem shx {t u : Tk} (h : shT t = shT u) : t.x = u.x := by have e := congrArg Tk.x h; exact e
theorem sha {t u : Tk} (h : shT t = shT u) : shA t.a = shA u.a := by have e := congrArg Tk.a h; exact e
theorem shc {t u : Tk} (h : shT t = shT u) : t.c = u.c := by have e := congrArg Tk.c h; exact e
theorem shL_eq {t u : Tk} (h : shT t = shT u) : shL [t] = shL [u] := by
  have hk : t.k = u.k := shk h
  by_cases h3 : t.k = 3
  · have e1 : shL [t] = [] := by
      unfold shL
      rw [List.filter_cons_of_neg (p := fun t : Tk => !(t.k == 3)) (by simp [h3])]
      rfl
    have e2 : shL [u] = [] := by
      unfold shL
      rw [List.filter_cons_of_neg (p := fun t : Tk => !(t.k == 3)) (by simp [← hk, h3])]
      rfl
    rw [e1, e2]
  · rw [shL_one h3, shL_one (by rw [← hk]; exact h3), h]
theorem sh_textR (d : Bool) (r : Rd) : shL (textR d r).out = shL r.out := by
  unfold textR
  generalize (if d = true then decL' r.tx else r.tx) = x
  show shL (if x = [] then r.out else r.out ++ [txTk x]) = _
  split
  · rfl
  · rw [shL_append, shL_text, List.append_nil]

structure Eqv (p : List Tk) (r r' : Rd) : Prop where
  st : r.st = r'.st
  out : shL r.out = p ++ shL r'.out
  tx : (r.st = 0 ∨ r.st = 15) ∨ r.tx = r'.tx
  tg : shT r.tg = shT r'.tg
  av : r.av.n = r'.av.n
  q : r.st = 8 → r.q = r'.q
  rw : r.st = 15 → r.rw = r'.rw

section
variable {p : List Tk} {r r' : Rd}
theorem Eqv.tgk (h : Eqv p r r') : r.tg.k = r'.tg.k := shk h.tg
theorem Eqv.tgn (h : Eqv p r r') : r.tg.n = r'.tg.n := shn h.tg
theorem Eqv.tgx (h : Eqv p r r') : r.tg.x = r'.tg.x := shx h.tg
theorem Eqv.tga (h : Eqv p r r') : shA r.tg.a = shA r'.tg.a := sha h.tg
theorem Eqv.tgc (h : Eqv p r r') : r.tg.c = r'.tg.c := shc h.tg
theorem Eqv.txe (h : Eqv p r r') (h1 : r.st ≠ 0) (h2 : r.st ≠ 15) : r.tx = r'.tx := by
  rcases h.tx with (h | h) | h
  · exact absurd h h1
  · exact absurd h h2
  · exact h
theorem Eqv.go (h : Eqv p r r') (s : Nat) (ht : r.tx = r'.tx) (h8 : s ≠ 8) (h15 : s ≠ 15) : Eqv p (goR s r) (goR s r') where
  st := rfl
  out := h.out
  tx := .inr ht
  tg := h.tg
  av := h.av
  q := fun e => absurd e h8
  rw := fun e => absurd e h15
theorem told_sh {t u : Tk} (h : shT t = shT u) : shT (toldT t) = shT (toldT u) := by
  have hk : t.k = u.k := shk h
  have hn : t.n = u.n := shn h
  have hx : t.x = u.x := shx h
  unfold toldT
  rw [hk]
  split
  · show (⟨u.k, t.n, t.x, [], false⟩ : Tk) = ⟨u.k, u.n, u.x, [], false⟩
    rw [hn, hx]
  · exact h
theorem Eqv.endE (h : Eqv p r r') (ht : r.tx = r'.tx) : Eqv p (endR r) (endR r') := by
  have ht2 := told_sh h.tg
  have hk : (toldT r.tg).k = (toldT r'.tg).k := shk ht2
  have hn : (toldT r.tg).n = (toldT r'.tg).n := shn ht2
  have hr : rawK (toldT r.tg) = rawK (toldT r'.tg) := by unfold rawK; rw [hk, hn]
  have ho : shL (r.out ++ [toldT r.tg]) = p ++ shL (r'.out ++ [toldT r'.tg]) := by
    rw [shL_append, shL_append, h.out, shL_eq ht2, List.append_assoc]
  unfold endR
  rw [← hr]
  split
  · exact ⟨rfl, ho, .inr ht, rfl, h.av, by intro e; simp at e, fun _ => hn⟩
  · exact ⟨rfl, ho, .inr ht, rfl, h.av, by intro e; simp at e, by intro e; simp at e⟩
theorem Eqv.put (h : Eqv p r r') : Eqv p (putR r) (putR r') where
  st := h.st
  out := h.out
  tx := h.tx
  tg := by
    show (⟨r.tg.k, r.tg.n, r.tg.x, shA (r.tg.a ++ [⟨r.av.n, decL' r.av.v⟩]), r.tg.c⟩ : Tk) = ⟨r'.tg.k, r'.tg.n, r'.tg.x, shA (r'.tg.a ++ [⟨r'.av.n, decL' r'.av.v⟩]), r'.tg.c⟩
    have ha := h.tga
    unfold shA at ha ⊢
    rw [List.map_append, List.map_append, ha, h.tgk, h.tgn, h.tgx, h.tgc]
    simp [h.av]
  av := rfl
  q := h.q
  rw := h.rw

theorem eqv_tag (c : UInt8) (h : Eqv p r r') (hs : inTag r.st = true) : (tagR c r).2 = (tagR c r').2 ∧ Eqv p (tagR c r).1 (tagR c r').1 := by
  have hs := of_decide_eq_true hs
  have ht := h.txe (by omega) (by omega)
  unfold tagR
  rw [← h.st]
  split
  · rename_i h3
    unfold tnameR
    split
    · exact ⟨rfl, h.go 4 ht (by decide) (by decide)⟩
    · split
      · exact ⟨rfl, h.go 11 ht (by decide) (by decide)⟩
      · split
        · exact ⟨rfl, h.endE ht⟩
        · refine ⟨rfl, ⟨h.st, h.out, .inr ht, ?_, h.av, h.q, h.rw⟩⟩
          show (⟨r.tg.k, r.tg.n ++ [low c], r.tg.x, shA r.tg.a, r.tg.c⟩ : Tk) = ⟨r'.tg.k, r'.tg.n ++ [low c], r'.tg.x, shA r'.tg.a, r'.tg.c⟩
          rw [h.tgk, h.tgn, h.tgx, h.tga, h.tgc]
  · split
    · unfold beforeR
      split
      · exact ⟨rfl, h⟩
      · split
        · exact ⟨rfl, h.go 11 ht (by decide) (by decide)⟩
        · split
          · exact ⟨rfl, h.endE ht⟩
          · exact ⟨rfl, ⟨rfl, h.out, .inr ht, h.tg, rfl, by intro e; simp at e, by intro e; simp at e⟩⟩
    · split
      · unfold attrR
        rw [← h.st]
        split
        · exact ⟨rfl, h.go 6 ht (by decide) (by decide)⟩
        · split
          · exact ⟨rfl, h.go 7 ht (by decide) (by decide)⟩
          · split
            · exact ⟨rfl, h.put.go 11 ht (by decide) (by decide)⟩
            · split
              · exact ⟨rfl, h.put.endE ht⟩
              · split
                · exact ⟨rfl, h.put.go 4 ht (by decide) (by decide)⟩
                · refine ⟨rfl, ⟨rfl, h.out, .inr ht, h.tg, ?_, h.q, h.rw⟩⟩
                  show r.av.n ++ [low c] = r'.av.n ++ [low c]
                  rw [h.av]
      · split
        · exact ⟨rfl, h.go 4 ht (by decide) (by decide)⟩
        · unfold slashR
          split
          · refine ⟨rfl, Eqv.endE ⟨h.st, h.out, h.tx, ?_, h.av, h.q, h.rw⟩ ht⟩
            show (⟨r.tg.k, r.tg.n, r.tg.x, shA r.tg.a, true⟩ : Tk) = ⟨r'.tg.k, r'.tg.n, r'.tg.x, shA r'.tg.a, true⟩
            rw [h.tgk, h.tgn, h.tgx, h.tga]
          · exact ⟨rfl, h.go 4 ht (by decide) (by decide)⟩
theorem Eqv.addv (c : UInt8) (h : Eqv p r r') : Eqv p (addV c r) (addV c r') := ⟨h.st, h.out, h.tx, h.tg, h.av, h.q, h.rw⟩
theorem eqv_val (c : UInt8) (h : Eqv p r r') (hs : inVal r.st = true) : (valR c r).2 = (valR c r').2 ∧ Eqv p (valR c r).1 (valR c r').1 := by
  have hs := of_decide_eq_true hs
  have ht := h.txe (by omega) (by omega)
  unfold valR
  rw [← h.st]
  split
  · unfold wantR
    split
    · exact ⟨rfl, h⟩
    · split
      · exact ⟨rfl, ⟨rfl, h.out, .inr ht, h.tg, h.av, fun _ => rfl, by intro e; simp at e⟩⟩
      · split
        · exact ⟨rfl, h.put.endE ht⟩
        · exact ⟨rfl, h.go 9 ht (by decide) (by decide)⟩
  · split
    · rename_i h8
      unfold valueR
      rw [← h.q h8]
      split
      · exact ⟨rfl, h.put.go 10 ht (by decide) (by decide)⟩
      · exact ⟨rfl, h.addv c⟩
    · unfold bareR
      split
      · exact ⟨rfl, h.put.go 4 ht (by decide) (by decide)⟩
      · exact ⟨rfl, h.addv c⟩
theorem Eqv.textE (h : Eqv p r r') (d d' : Bool) (s : Nat) (h8 : s ≠ 8) (h15 : s ≠ 15) : Eqv p (goR s (textR d r)) (goR s (textR d' r')) where
  st := rfl
  out := by
    show shL (textR d r).out = p ++ shL (textR d' r').out
    rw [sh_textR, sh_textR, h.out]
  tx := .inr rfl
  tg := h.tg
  av := h.av
  q := fun e => absurd e h8
  rw := fun e => absurd e h15
theorem Eqv.addt (c : UInt8) (h : Eqv p r r') : Eqv p (addT c r) (addT c r') := ⟨h.st, h.out, by
  rcases h.tx with e | e
  · exact .inl e
  · exact .inr (by show r.tx ++ [c] = r'.tx ++ [c]; rw [e]), h.tg, h.av, h.q, h.rw⟩
theorem eqv_out (c : UInt8) (t : List UInt8) (h : Eqv p r r') (h1 : inTag r.st = false) (h2 : inVal r.st = false) (hs : r.st ≤ 15) : (outR c t r).2 = (outR c t r').2 ∧ Eqv p (outR c t r).1 (outR c t r').1 := by
  have h1 := of_decide_eq_false h1
  have h2 := of_decide_eq_false h2
  unfold outR
  rw [← h.st]
  split
  · unfold dataR
    split
    · exact ⟨rfl, h.textE true true 1 (by decide) (by decide)⟩
    · exact ⟨rfl, h.addt c⟩
  · rename_i h0
    split
    · rename_i e1
      have ht := h.txe (by omega) (by omega)
      unfold openR
      split
      · exact ⟨rfl, h.go 2 ht (by decide) (by decide)⟩
      · split
        · exact ⟨rfl, h.go 12 ht (by decide) (by decide)⟩
        · split
          · exact ⟨rfl, h.go 13 ht (by decide) (by decide)⟩
          · exact ⟨rfl, ⟨rfl, h.out, .inr ht, rfl, h.av, by intro e; simp at e, by intro e; simp at e⟩⟩
    · split
      · have ht := h.txe (by omega) (by omega)
        unfold endOpenR
        split
        · exact ⟨rfl, ⟨rfl, h.out, .inr ht, rfl, h.av, by intro e; simp at e, by intro e; simp at e⟩⟩
        · split
          · exact ⟨rfl, h.go 0 ht (by decide) (by decide)⟩
          · exact ⟨rfl, h.go 13 ht (by decide) (by decide)⟩
      · split
        · have ht := h.txe (by omega) (by omega)
          unfold bangR
          split
          · exact ⟨rfl, h.go 14 ht (by decide) (by decide)⟩
          · exact ⟨rfl, h.go 13 ht (by decide) (by decide)⟩
        · split
          · have ht := h.txe (by omega) (by omega)
            unfold bogusR
            split
            · exact ⟨rfl, h.go 0 ht (by decide) (by decide)⟩
            · exact ⟨rfl, h⟩
          · split
            · have ht := h.txe (by omega) (by omega)
              unfold commentR
              split
              · refine ⟨rfl, ⟨rfl, ?_, .inr rfl, h.tg, h.av, by intro e; simp at e, by intro e; simp at e⟩⟩
                show shL (r.out ++ [⟨4, [], r.tx, [], false⟩]) = p ++ shL (r'.out ++ [⟨4, [], r'.tx, [], false⟩])
                rw [shL_append, shL_append, h.out, ht, List.append_assoc]
              · exact ⟨rfl, h.addt c⟩
            · have h15 : r.st = 15 := by omega
              have hrw := h.rw h15
              unfold rawR
              rw [← hrw]
              split
              · refine ⟨rfl, ⟨rfl, ?_, .inr rfl, rfl, h.av, by intro e; simp at e, by intro e; simp at e⟩⟩
                show shL (textR (r.kd == 1) r).out = p ++ shL (textR (r'.kd == 1) r').out
                rw [sh_textR, sh_textR, h.out]
              · exact ⟨rfl, h.addt c⟩
theorem st_tag (c : UInt8) (t : List UInt8) (r : Rd) (h : inTag r.st = true) : stepR c t r = again (tagR c r) := by unfold stepR; rw [if_pos h]
theorem st_val (c : UInt8) (t : List UInt8) (r : Rd) (h1 : inTag r.st = false) (h : inVal r.st = true) : stepR c t r = again (valR c r) := by unfold stepR; rw [if_neg (by rw [h1]; simp), if_pos h]
theorem st_out (c : UInt8) (t : List UInt8) (r : Rd) (h1 : inTag r.st = false) (h : inVal r.st = false) : stepR c t r = outR c t r := by unfold stepR; rw [if_neg (by rw [h1]; simp), if_neg (by rw [h]; simp)]
theorem eqv_step (c : UInt8) (t : List UInt8) (h : Eqv p r r') (hs : r.st ≤ 15) : (stepR c t r).2 = (stepR c t r').2 ∧ Eqv p (stepR c t r).1 (stepR c t r').1 := by
  cases h1 : inTag r.st with
  | true =>
    rw [st_tag c t r h1, st_tag c t r' (by rw [← h.st]; exact h1)]
    have h3 := eqv_tag c h h1
    unfold again
    rw [h3.1]
    exact ⟨rfl, h3.2⟩
  | false =>
    cases h2 : inVal r.st with
    | true =>
      rw [st_val c t r h1 h2, st_val c t r' (by rw [← h.st]; exact h1) (by rw [← h.st]; exact h2)]
      have h3 := eqv_val c h h2
      unfold again
      rw [h3.1]
      exact ⟨rfl, h3.2⟩
    | false =>
      rw [st_out c t r h1 h2, st_out c t r' (by rw [← h.st]; exact h1) (by rw [← h.st]; exact h2)]
      exact eqv_out c t h h1 h2 hs
end
theorem eqv_run {p : List Tk} (n : Nat) : ∀ (l : List UInt8) (r r' : Rd), meas l r.st ≤ n → r.st ≤ 15 → Eqv p r r' → Eqv p (runR l r) (runR l r') := by
  induction n with
  | zero =>
    intro l r r' hn _ h
    cases l with
    | nil => rw [run_nil, run_nil]; exact h
    | cons c t => unfold meas at hn; simp at hn
  | succ n ih =>
    intro l r r' hn hs h
    cases l with
    | nil => rw [run_nil, run_nil]; exact h
    | cons c t =>
      have hl := step_less c t r
      obtain ⟨e1, e2⟩ := eqv_step c t h hs
      rw [run_cons, run_cons c t r', ← e1]
      exact ih _ _ _ (by omega) (step_st c t r hs) e2
theorem eqv_last {p : List Tk} {r r' : Rd} (h : Eqv p r r') : shL (lastR r) = p ++ shL (lastR r') := by
  unfold lastR
  rw [← h.st]
  split
  · rw [sh_textR, sh_textR, h.out]
  · split
    · rw [sh_textR, sh_textR, h.out]
    · split
      · rename_i h0 h15 _
        rw [shL_append, shL_append, h.out, h.txe h0 h15, List.append_assoc]
      · exact h.out
theorem eqv_shape {p : List Tk} {r r' : Rd} (l : List UInt8) (hs : r.st ≤ 15) (h : Eqv p r r') : shL (lastR (runR l r)) = p ++ shL (lastR (runR l r')) := eqv_last (eqv_run _ l r r' (Nat.le_refl _) hs h)
end Go.Proofs.YtklpbkjplecdpaaGreat.Tok

/-
  Where in HTML a text stands, held against the reader of HTML: behind a text that is taken the reader stands where the state says, but for what is pending.
-/
namespace Go.Proofs.YtklpbkjplecdpaaGreat.Scn
open Oct Crf Tab Tok

def Keeps (s t : Sc) : Prop := t.k = s.k ∧ t.e = s.e ∧ t.a = s.a ∧ t.d = s.d ∧ t.p = s.p
theorem Keeps.trans {s t u : Sc} (h : Keeps s t) (g : Keeps t u) : Keeps s u := ⟨g.1.trans h.1, g.2.1.trans h.2.1, g.2.2.1.trans h.2.2.1, g.2.2.2.1.trans h.2.2.2.1, g.2.2.2.2.trans h.2.2.2.2⟩
theorem sub_keeps {s t : Sc} {x : List UInt8} (h : subS s x = .ok t) : Keeps s t := by
  unfold subS subK at h
  split at h
  · injection h with h; subst h; exact ⟨rfl, rfl, rfl, rfl, rfl⟩
  · split at h
    · cases h
    · split at h
      · cases h
      · split at h
        · cases h
        · injection h with h; subst h; exact ⟨rfl, rfl, rfl, rfl, rfl⟩
theorem andThen_ok {x : Res} {f : Sc → Res} {t : Sc} (h : andThen x f = .ok t) : ∃ u, x = .ok u ∧ f u = .ok t := by
  unfold andThen at h
  cases x with
  | error e => cases h
  | ok u => exact ⟨u, rfl, h⟩
theorem amp_keeps {s t : Sc} {c : UInt8} (h : ampS s c = .ok t) : Keeps s t := by
  unfold ampS at h
  split at h
  · injection h with h; subst h; exact ⟨rfl, rfl, rfl, rfl, rfl⟩
  · exact sub_keeps h
theorem noref_keeps (s : Sc) : Keeps s { s with r := [] } := ⟨rfl, rfl, rfl, rfl, rfl⟩
theorem char_keeps {s t : Sc} {c : UInt8} (h : charS s c = .ok t) : Keeps s t := by
  unfold charS at h
  split at h
  · exact amp_keeps h
  · split at h
    · exact (noref_keeps s).trans (sub_keeps h)
    · split at h
      · injection h with h; subst h; exact ⟨rfl, rfl, rfl, rfl, rfl⟩
      · obtain ⟨u, h1, h2⟩ := andThen_ok h
        exact ((noref_keeps s).trans (sub_keeps h1)).trans (amp_keeps h2)
theorem flush_keeps {s t : Sc} (h : flushS s = .ok t) : Keeps s t := (noref_keeps s).trans (sub_keeps h)

theorem go1 {c : UInt8} {x : List UInt8} {r r' : Rd} (h : stepR c x r = (r', 1)) : runR (c :: x) r = runR x r' := by rw [run_cons, h]; rfl
theorem go0 {c : UInt8} {x : List UInt8} {r r' : Rd} (h : stepR c x r = (r', 0)) : runR (c :: x) r = runR (c :: x) r' := by rw [run_cons, h]; rfl
theorem step_ot {c : UInt8} {x : List UInt8} {r : Rd} (h1 : inTag r.st = false) (h : inVal r.st = false) {q : Rd × Nat} (hp : outR c x r = q) : stepR c x r = q := by
  rw [st_out c x r h1 h, hp]
theorem in_data (r : Rd) (h : r.st = 0) (c : UInt8) (x : List UInt8) : stepR c x r = dataR c x r := step_ot (by rw [h]; rfl) (by rw [h]; rfl) (by unfold outR; rw [if_pos h])
theorem in_open (r : Rd) (h : r.st = 1) (c : UInt8) (x : List UInt8) : stepR c x r = openR c r := step_ot (by rw [h]; rfl) (by rw [h]; rfl) (by unfold outR; rw [if_neg (by omega), if_pos h])
theorem in_endOpen (r : Rd) (h : r.st = 2) (c : UInt8) (x : List UInt8) : stepR c x r = endOpenR c r := step_ot (by rw [h]; rfl) (by rw [h]; rfl) (by unfold outR; rw [if_neg (by omega), if_neg (by omega), if_pos h])
theorem in_bang (r : Rd) (h : r.st = 12) (c : UInt8) (x : List UInt8) : stepR c x r = bangR (c :: x) r := step_ot (by rw [h]; rfl) (by rw [h]; rfl) (by unfold outR; rw [if_neg (by omega), if_neg (by omega), if_neg (by omega), if_pos h])
theorem in_bogus (r : Rd) (h : r.st = 13) (c : UInt8) (x : List UInt8) : stepR c x r = bogusR c r := step_ot (by rw [h]; rfl) (by rw [h]; rfl) (by unfold outR; rw [if_neg (by omega), if_neg (by omega), if_neg (by omega), if_neg (by omega), if_pos h])
theorem in_comment (r : Rd) (h : r.st = 14) (c : UInt8) (x : List UInt8) : stepR c x r = commentR (c :: x) c r := step_ot (by rw [h]; rfl) (by rw [h]; rfl) (by unfold outR; rw [if_neg (by omega), if_neg (by omega), if_neg (by omega), if_neg (by omega), if_neg (by omega), if_pos h])
theorem in_raw (r : Rd) (h : r.st = 15) (c : UInt8) (x : List UInt8) : stepR c x r = rawR (c :: x) c r := step_ot (by rw [h]; rfl) (by rw [h]; rfl) (by unfold outR; rw [if_neg (by omega), if_neg (by omega), if_neg (by omega), if_neg (by omega), if_neg (by omega), if_neg (by omega)])
theorem in_name (r : Rd) (h : r.st = 3) (c : UInt8) (x : List UInt8) : stepR c x r = again (tnameR c r) := by
  rw [st_tag c x r (by rw [h]; rfl)]; unfold tagR; rw [if_pos h]
theorem in_before (r : Rd) (h : r.st = 4) (c : UInt8) (x : List UInt8) : stepR c x r = again (beforeR c r) := by
  rw [st_tag c x r (by rw [h]; rfl)]; unfold tagR; rw [if_neg (by omega), if_pos h]
theorem in_attr (r : Rd) (h : r.st = 5 ∨ r.st = 6) (c : UInt8) (x : List UInt8) : stepR c x r = again (attrR c r) := by
  rw [st_tag c x r (by rcases h with h | h <;> rw [h] <;> rfl)]; unfold tagR; rw [if_neg (by omega), if_neg (by omega), if_pos h]
theorem in_behind (r : Rd) (h : r.st = 10) (c : UInt8) (x : List UInt8) : stepR c x r = (goR 4 r, 0) := by
  rw [st_tag c x r (by rw [h]; rfl)]; unfold tagR; rw [if_neg (by omega), if_neg (by omega), if_neg (by omega), if_pos h]; rfl
theorem in_slash (r : Rd) (h : r.st = 11) (c : UInt8) (x : List UInt8) : stepR c x r = again (slashR c r) := by
  rw [st_tag c x r (by rw [h]; rfl)]; unfold tagR; rw [if_neg (by omega), if_neg (by omega), if_neg (by omega), if_neg (by omega)]
theorem in_want (r : Rd) (h : r.st = 7) (c : UInt8) (x : List UInt8) : stepR c x r = again (wantR c r) := by
  rw [st_val c x r (by rw [h]; rfl) (by rw [h]; rfl)]; unfold valR; rw [if_pos h]
theorem in_value (r : Rd) (h : r.st = 8) (c : UInt8) (x : List UInt8) : stepR c x r = again (valueR c r) := by
  rw [st_val c x r (by rw [h]; rfl) (by rw [h]; rfl)]; unfold valR; rw [if_neg (by omega), if_pos h]
theorem in_bare (r : Rd) (h : r.st = 9) (c : UInt8) (x : List UInt8) : stepR c x r = again (bareR c r) := by
  rw [st_val c x r (by rw [h]; rfl) (by rw [h]; rfl)]; unfold valR; rw [if_neg (by omega), if_neg (by omega)]
theorem opens_60 (d : UInt8) (u : List UInt8) : opens 60 (d :: u) = (letB d || d == 33 || d == 63 || (d == 47 && !u.isEmpty)) := rfl
theorem opens_no (c : UInt8) (t : List UInt8) (h : c ≠ 60) : opens c t = false := by
  unfold opens
  rw [show (c == 60) = false from by rw [beq_eq_false_iff_ne]; exact h]
  rfl
theorem let_not (c : UInt8) (h : letB c = true) : c ≠ 47 ∧ c ≠ 33 ∧ c ≠ 63 ∧ c ≠ 62 ∧ c ≠ 60 ∧ blB c = false := by
  have h1 : ∀ k : Fin 256, letB (UInt8.ofNat k.val) = true → UInt8.ofNat k.val ≠ 47 ∧ UInt8.ofNat k.val ≠ 33 ∧ UInt8.ofNat k.val ≠ 63 ∧ UInt8.ofNat k.val ≠ 62 ∧ UInt8.ofNat k.val ≠ 60 ∧ blB (UInt8.ofNat k.val) = false := by decide +kernel
  have h2 := h1 ⟨c.toNat, c.toNat_lt⟩
  simp only [UInt8.ofNat_toNat] at h2
  exact h2 h

def Base (r : Rd) : Prop := r.tg = noTk ∧ r.av = noAt
def TagE (r : Rd) (e : List UInt8) : Prop := (r.tg.k = 1 ∧ r.tg.n = e) ∨ (r.tg.k = 2 ∧ e = 47 :: r.tg.n)
def PendOk (s : Sc) : Prop := s.p = [] ∨ (s.p.head? = some 60 ∧ pendB s s.p = true ∧ s.p ≠ [60, 33, 45, 45])
inductive Rel : Sc → List UInt8 → Rd → Prop
  | data {s : Sc} {r : Rd} (hk : s.k = 0) (hst : r.st = 0) (hb : Base r) : Rel s [] r
  | opn {s : Sc} {r : Rd} (hk : s.k = 1) (hst : r.st = 0) (hb : Base r) : Rel s [60] r
  | endOpn {s : Sc} {r : Rd} (hk : s.k = 2) (hst : r.st = 0) (hb : Base r) : Rel s [60, 47] r
  | name {s : Sc} {r : Rd} (hk : (s.k = 3 ∧ r.tg.k = 1 ∧ r.tg.n = s.e) ∨ (s.k = 4 ∧ r.tg.k = 2 ∧ s.e = 47 :: r.tg.n)) (hst : r.st = 3) (ha : r.av = noAt) : Rel s [] r
  | within {s : Sc} {r : Rd} (hk : (s.k = 5 ∧ r.st = 4) ∨ (s.k = 11 ∧ r.st = 10) ∨ (s.k = 12 ∧ r.st = 11)) (ht : TagE r s.e) (ha : r.av = noAt) : Rel s [] r
  | attr {s : Sc} {r : Rd} (hk : (s.k = 6 ∧ r.st = 5) ∨ (s.k = 7 ∧ r.st = 6) ∨ (s.k = 8 ∧ r.st = 7) ∨ (s.k = 10 ∧ r.st = 9)) (ht : TagE r s.e) : Rel s [] r
  | value {s : Sc} {r : Rd} (hk : s.k = 9) (hst : r.st = 8) (hq : r.q = s.d) (ht : TagE r s.e) : Rel s [] r
  | bang {s : Sc} {r : Rd} (hk : s.k = 13) (hst : r.st = 12) (hb : Base r) : Rel s [] r
  | dash {s : Sc} {r : Rd} (hk : s.k = 14) (hst : r.st = 12) (hb : Base r) : Rel s [45] r
  | bogus {s : Sc} {r : Rd} (hk : s.k = 15) (hst : r.st = 13) (hb : Base r) : Rel s [] r
  | comment {s : Sc} {r : Rd} (hk : s.k = 16) (hp : s.p = [] ∨ s.p = [45] ∨ s.p = [45, 45]) (hst : r.st = 14) (hb : Base r) : Rel s s.p r
  | raw {s : Sc} {r : Rd} (hk : 17 ≤ s.k) (he : elemN s.e + 16 = s.k) (hk2 : s.k ≤ 19) (hp : PendOk s) (hst : r.st = 15) (hw : r.rw = s.e) (hb : Base r) : Rel s s.p r
def Next (s' : Sc) (u : List UInt8) (c : UInt8) (r : Rd) : Prop := ∃ u' r', (∀ x, runR (u ++ c :: x) r = runR (u' ++ x) r') ∧ Rel s' u' r'

theorem elem_slash (n : List UInt8) : elemN (47 :: n) = 0 := by
  have h : ∀ l : List (List UInt8), (∀ x ∈ l, x.head? ≠ some 47) → placeL (47 :: n) l = none := by
    intro l
    induction l with
    | nil => intro _; rfl
    | cons x t ih =>
      intro hl
      unfold placeL
      rw [if_neg (fun e => hl x (by simp) (by rw [e]; rfl)), ih (fun y hy => hl y (by simp [hy]))]
      rfl
  unfold elemN
  rw [h elsL (by decide)]
theorem told_k (t : Tk) : (toldT t).k = t.k := by unfold toldT; split <;> rfl
theorem end_sim {e : List UInt8} {s' : Sc} {r : Rd} (h : endS e = .ok s') (ht : TagE r e) (ha : r.av = noAt) : Rel s' [] (endR r) := by
  have hk := told_k r.tg
  have hn := told_n r.tg
  rcases ht with ⟨h1, h2⟩ | ⟨h1, h2⟩
  · have e1 : rawK (toldT r.tg) = decide (1 ≤ elemN e ∧ elemN e ≤ 3) := by
      unfold rawK
      rw [hk, hn, h1, h2, Bool.eq_iff_iff]
      simp
    unfold endS at h
    unfold endR
    rw [e1]
    by_cases h3 : 1 ≤ elemN e ∧ elemN e ≤ 3
    · rw [if_pos (decide_eq_true h3)]
      have hs : s' = scK (elemN e + 16) e := by
        rcases (by omega : elemN e = 1 ∨ elemN e = 2 ∨ elemN e = 3) with q | q | q
        · rw [if_pos q] at h; injection h with h; rw [← h, q]
        · rw [if_neg (by omega), if_pos q] at h; injection h with h; rw [← h, q]
        · rw [if_neg (by omega), if_neg (by omega), if_pos q] at h; injection h with h; rw [← h, q]
      subst hs
      exact Rel.raw (s := scK (elemN e + 16) e) (by show 17 ≤ elemN e + 16; omega) rfl (by show elemN e + 16 ≤ 19; omega) (.inl rfl) rfl (by show (toldT r.tg).n = e; rw [hn, h2]) ⟨rfl, ha⟩
    · rw [if_neg (by rw [decide_eq_false h3]; simp)]
      rw [if_neg (by omega), if_neg (by omega), if_neg (by omega)] at h
      split at h
      · cases h
      · injection h with h
        subst h
        exact .data rfl rfl ⟨rfl, ha⟩
  · have e1 : rawK (toldT r.tg) = false := by
      unfold rawK
      rw [hk, h1]
      exact decide_eq_false (by omega)
    have e2 := elem_slash r.tg.n
    rw [← h2] at e2
    unfold endS at h
    rw [e2] at h
    unfold endR
    rw [e1, if_neg (by simp)]
    injection h with h
    subst h
    exact .data rfl rfl ⟨rfl, ha⟩
theorem within_sim {e : List UInt8} {c : UInt8} {s' : Sc} {r : Rd} (h : withinS e c = .ok s') (hst : r.st = 4) (ht : TagE r e) (ha : r.av = noAt) : ∃ r', (∀ x, runR (c :: x) r = runR x r') ∧ Rel s' [] r' := by
  unfold withinS at h
  by_cases hb : blB c = true
  · rw [if_pos hb] at h
    injection h with h
    subst h
    refine ⟨r, fun x => go1 ?_, .within (.inl ⟨rfl, hst⟩) ht ha⟩
    rw [in_before r hst]; unfold beforeR; rw [if_pos hb]; rfl
  · rw [if_neg hb] at h
    by_cases h47 : c = 47
    · rw [if_pos h47] at h
      injection h with h
      subst h
      refine ⟨goR 11 r, fun x => go1 ?_, .within (.inr (.inr ⟨rfl, rfl⟩)) ht ha⟩
      rw [in_before r hst]; unfold beforeR; rw [if_neg hb, if_pos h47]; rfl
    · rw [if_neg h47] at h
      by_cases h62 : c = 62
      · rw [if_pos h62] at h
        refine ⟨endR r, fun x => go1 ?_, end_sim h ht ha⟩
        rw [in_before r hst]; unfold beforeR; rw [if_neg hb, if_neg h47, if_pos h62]; rfl
      · rw [if_neg h62] at h
        injection h with h
        subst h
        refine ⟨{ r with st := 5, av := ⟨[low c], []⟩ }, fun x => go1 ?_, .attr (.inl ⟨rfl, rfl⟩) ht⟩
        rw [in_before r hst]; unfold beforeR; rw [if_neg hb, if_neg h47, if_neg h62]; rfl
theorem within_at {e : List UInt8} {c : UInt8} {s' : Sc} {r : Rd} (h : withinS e c = .ok s') (r4 : Rd) (hst : r4.st = 4) (ht : TagE r4 e) (ha : r4.av = noAt) (hr : ∀ x, runR (c :: x) r = runR (c :: x) r4) : Next s' [] c r := by
  obtain ⟨r', h1, h2⟩ := within_sim h hst ht ha
  exact ⟨[], r', fun x => (hr x).trans (h1 x), h2⟩
theorem end_go (r : Rd) (n : Nat) : endR (goR n r) = endR r := rfl
theorem name_as (r : Rd) (hst : r.st = 3) (c : UInt8) (h : blB c = true ∨ c = 47 ∨ c = 62) (x : List UInt8) : runR (c :: x) r = runR (c :: x) (goR 4 r) := by
  have e1 : stepR c x r = stepR c x (goR 4 r) := by
    rw [in_name r hst, in_before (goR 4 r) rfl]
    unfold tnameR beforeR
    by_cases hb : blB c = true
    · rw [if_pos hb, if_pos hb]
    · rw [if_neg hb, if_neg hb]
      by_cases h47 : c = 47
      · rw [if_pos h47, if_pos h47]; rfl
      · rw [if_neg h47, if_neg h47]
        have h62 : c = 62 := by
          rcases h with h | h | h
          · exact absurd h hb
          · exact absurd h h47
          · exact h
        rw [if_pos h62, if_pos h62, end_go]
  rw [run_cons, run_cons c x (goR 4 r), e1]
theorem attr_as (r : Rd) (hst : r.st = 5 ∨ r.st = 6) (c : UInt8) (hb : blB c = false) (h61 : c ≠ 61) (h : c = 47 ∨ c = 62 ∨ r.st = 6) (x : List UInt8) : runR (c :: x) r = runR (c :: x) (goR 4 (putR r)) := by
  by_cases h47 : c = 47
  · rw [run_cons, run_cons c x (goR 4 (putR r)), in_attr r hst, in_before (goR 4 (putR r)) rfl]
    unfold attrR beforeR
    rw [hb, if_neg (by simp), if_neg h61, if_pos h47, if_neg (by simp), if_pos h47]
    rfl
  · by_cases h62 : c = 62
    · rw [run_cons, run_cons c x (goR 4 (putR r)), in_attr r hst, in_before (goR 4 (putR r)) rfl]
      unfold attrR beforeR
      rw [hb, if_neg (by simp), if_neg h61, if_neg h47, if_pos h62, if_neg (by simp), if_neg h47, if_pos h62, end_go]
    · have h6 : r.st = 6 := by
        rcases h with h | h | h
        · exact absurd h h47
        · exact absurd h h62
        · exact h
      refine go0 ?_
      rw [in_attr r hst]
      unfold attrR
      rw [hb, if_neg (by simp), if_neg h61, if_neg h47, if_neg h62, if_pos h6]
      rfl
theorem TagE.put {r : Rd} {e : List UInt8} (h : TagE r e) : TagE (goR 4 (putR r)) e := h
end Go.Proofs.YtklpbkjplecdpaaGreat.Scn
