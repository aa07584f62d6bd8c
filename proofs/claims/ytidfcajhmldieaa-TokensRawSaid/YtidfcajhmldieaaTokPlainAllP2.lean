/-
  Part 2: TokPure2, TokPure3, TkcPure, CrfPure2, Mem.
-/
import Derived.Test.YtidfcajhmldieaaTokPlainAllP1
import Derived.Lib.Strings
import Derived.Test.YtidfcajhmldieaaProg
import Derived.Lib.BufferRead
import Derived.Laws.IdiomStrings
import Derived.Lib.Hide
import Derived.Deep.RegionHeld
/-
  What a run does in data, in raw text, within quotes: an escaped text is one token; within quotes it is a value; in raw text all is text up to its own end tag.
-/
namespace Go.Proofs.Ytidfcajhmldieaa.Tok
open Go.Proofs.Ytidfcajhmldieaa.Oct Go.Proofs.Ytidfcajhmldieaa.Utf Go.Proofs.Ytidfcajhmldieaa.Crf Go.Proofs.Ytidfcajhmldieaa.Tab

theorem opens_no {c : UInt8} (t : List UInt8) (h : c ≠ 60) : opens c t = false := by
  unfold opens
  rw [beq_eq_false_iff_ne.2 h]
  rfl
theorem step_data (c : UInt8) (t : List UInt8) (r : Rd) (h0 : r.st = 0) : stepR c t r = dataR c t r := by
  unfold stepR outR
  rw [h0]
  rfl
theorem step_raw (c : UInt8) (t : List UInt8) (r : Rd) (h0 : r.st = 15) : stepR c t r = rawR (c :: t) c r := by
  unfold stepR outR
  rw [h0]
  rfl
theorem step_comment (c : UInt8) (t : List UInt8) (r : Rd) (h0 : r.st = 14) : stepR c t r = commentR (c :: t) c r := by
  unfold stepR outR
  rw [h0]
  rfl
theorem step_value (c : UInt8) (t : List UInt8) (r : Rd) (h0 : r.st = 8) : stepR c t r = again (valueR c r) := by
  unfold stepR valR
  rw [h0]
  rfl
theorem step_name (c : UInt8) (t : List UInt8) (r : Rd) (h0 : r.st = 3) : stepR c t r = again (tnameR c r) := by
  unfold stepR tagR
  rw [h0]
  rfl
theorem step_before (c : UInt8) (t : List UInt8) (r : Rd) (h0 : r.st = 4) : stepR c t r = again (beforeR c r) := by
  unfold stepR tagR
  rw [h0]
  rfl
theorem step_attr (c : UInt8) (t : List UInt8) (r : Rd) (h0 : r.st = 5) : stepR c t r = again (attrR c r) := by
  unfold stepR tagR
  rw [h0]
  rfl
theorem step_want (c : UInt8) (t : List UInt8) (r : Rd) (h0 : r.st = 7) : stepR c t r = again (wantR c r) := by
  unfold stepR valR
  rw [h0]
  rfl
theorem step_behind (c : UInt8) (t : List UInt8) (r : Rd) (h0 : r.st = 10) : stepR c t r = (goR 4 r, 0) := by
  unfold stepR tagR
  rw [h0]
  rfl
theorem step_slash (c : UInt8) (t : List UInt8) (r : Rd) (h0 : r.st = 11) : stepR c t r = again (slashR c r) := by
  unfold stepR tagR
  rw [h0]
  rfl
theorem step_open (c : UInt8) (t : List UInt8) (r : Rd) (h0 : r.st = 1) : stepR c t r = openR c r := by
  unfold stepR outR
  rw [h0]
  rfl
theorem step_endOpen (c : UInt8) (t : List UInt8) (r : Rd) (h0 : r.st = 2) : stepR c t r = endOpenR c r := by
  unfold stepR outR
  rw [h0]
  rfl
theorem step_bang (c : UInt8) (t : List UInt8) (r : Rd) (h0 : r.st = 12) : stepR c t r = bangR (c :: t) r := by
  unfold stepR outR
  rw [h0]
  rfl

/-! ### Runs of one state -/
theorem run_text (p t : List UInt8) (r : Rd) (h0 : r.st = 0) (h : ∀ c ∈ p, c ≠ 60) : runR (p ++ t) r = runR t { r with tx := r.tx ++ p } := by
  induction p generalizing r with
  | nil => simp
  | cons c p ih =>
    have e : stepR c (p ++ t) r = (addT c r, 1) := by
      rw [step_data _ _ _ h0]
      unfold dataR
      rw [opens_no _ (h c (by simp))]
      rfl
    rw [List.cons_append, run_cons, e]
    show runR (p ++ t) (addT c r) = _
    rw [ih (addT c r) h0 (fun d hd => h d (by simp [hd]))]
    unfold addT
    simp
theorem run_raw (p t : List UInt8) (r : Rd) (h0 : r.st = 15) (h : ∀ i, i < p.length → hits r.rw ((p ++ t).drop i) = false) : runR (p ++ t) r = runR t { r with tx := r.tx ++ p } := by
  induction p generalizing r with
  | nil => simp
  | cons c p ih =>
    have hh := h 0 (by simp)
    rw [List.drop_zero, List.cons_append] at hh
    have e : stepR c (p ++ t) r = (addT c r, 1) := by
      rw [step_raw _ _ _ h0]
      unfold rawR
      rw [hh]
      rfl
    rw [List.cons_append, run_cons, e]
    show runR (p ++ t) (addT c r) = _
    rw [ih (addT c r) h0 (fun i hi => by
      have := h (i + 1) (by simp; omega)
      rw [List.cons_append, List.drop_succ_cons] at this
      exact this)]
    unfold addT
    simp
theorem run_comment (p t : List UInt8) (r : Rd) (h0 : r.st = 14) (h : ∀ i, i < p.length → [45, 45, 62].isPrefixOf ((p ++ t).drop i) = false) : runR (p ++ t) r = runR t { r with tx := r.tx ++ p } := by
  induction p generalizing r with
  | nil => simp
  | cons c p ih =>
    have hh := h 0 (by simp)
    rw [List.drop_zero, List.cons_append] at hh
    have e : stepR c (p ++ t) r = (addT c r, 1) := by
      rw [step_comment _ _ _ h0]
      unfold commentR
      rw [hh]
      rfl
    rw [List.cons_append, run_cons, e]
    show runR (p ++ t) (addT c r) = _
    rw [ih (addT c r) h0 (fun i hi => by
      have := h (i + 1) (by simp; omega)
      rw [List.cons_append, List.drop_succ_cons] at this
      exact this)]
    unfold addT
    simp
theorem run_value (p t : List UInt8) (r : Rd) (h0 : r.st = 8) (h : ∀ c ∈ p, c ≠ r.q) : runR (p ++ r.q :: t) r = runR t (goR 10 (putR { r with av := { r.av with v := r.av.v ++ p } })) := by
  induction p generalizing r with
  | nil =>
    have e : stepR r.q t r = (goR 10 (putR r), 1) := by
      rw [step_value _ _ _ h0]
      unfold valueR again
      rw [if_pos rfl]
      rfl
    rw [List.nil_append, run_cons, e]
    simp
  | cons c p ih =>
    have e : stepR c (p ++ r.q :: t) r = (addV c r, 1) := by
      rw [step_value _ _ _ h0]
      unfold valueR again
      rw [if_neg (h c (by simp))]
      rfl
    rw [List.cons_append, run_cons, e]
    show runR (p ++ r.q :: t) (addV c r) = _
    have := ih (addV c r) h0 (fun d hd => h d (by simp [hd]))
    rw [show (addV c r).q = r.q from rfl] at this
    rw [this]
    unfold addV
    simp
/-- An octet of a name: it stays as it is, and ends nothing. -/
def wordC (c : UInt8) : Bool := smallI (c.toNat : Int) || digitI (c.toNat : Int) || c == 45
theorem word_facts (c : UInt8) (h : wordC c = true) : blB c = false ∧ c ≠ 47 ∧ c ≠ 62 ∧ c ≠ 61 ∧ low c = c := by
  have h1 : ∀ x : Fin 256, wordC (UInt8.ofNat x.val) = true → blB (UInt8.ofNat x.val) = false ∧ UInt8.ofNat x.val ≠ 47 ∧ UInt8.ofNat x.val ≠ 62 ∧ UInt8.ofNat x.val ≠ 61 ∧ low (UInt8.ofNat x.val) = UInt8.ofNat x.val := by decide +kernel
  have h2 := h1 ⟨c.toNat, c.toNat_lt⟩
  simp only [UInt8.ofNat_toNat] at h2
  exact h2 h
theorem run_name (p t : List UInt8) (r : Rd) (h0 : r.st = 3) (h : ∀ c ∈ p, wordC c = true) : runR (p ++ t) r = runR t { r with tg := { r.tg with n := r.tg.n ++ p } } := by
  induction p generalizing r with
  | nil => simp
  | cons c p ih =>
    obtain ⟨h1, h2, h3, h4, h5⟩ := word_facts c (h c (by simp))
    have e : stepR c (p ++ t) r = ({ r with tg := { r.tg with n := r.tg.n ++ [low c] } }, 1) := by
      rw [step_name _ _ _ h0]
      unfold tnameR again
      rw [h1, if_neg (by simp), if_neg h2, if_neg h3]
      rfl
    rw [List.cons_append, run_cons, e]
    show runR (p ++ t) _ = _
    rw [ih _ (by exact h0) (fun d hd => h d (by simp [hd])), h5]
    simp
theorem run_attr (p t : List UInt8) (r : Rd) (h0 : r.st = 5) (h : ∀ c ∈ p, wordC c = true) : runR (p ++ t) r = runR t { r with av := { r.av with n := r.av.n ++ p } } := by
  induction p generalizing r with
  | nil => simp
  | cons c p ih =>
    obtain ⟨h1, h2, h3, h4, h5⟩ := word_facts c (h c (by simp))
    have e : stepR c (p ++ t) r = ({ r with av := { r.av with n := r.av.n ++ [low c] } }, 1) := by
      rw [step_attr _ _ _ h0]
      unfold attrR again
      rw [h1, if_neg (by simp), if_neg h4, if_neg h2, if_neg h3, if_neg (by rw [h0]; decide)]
      rfl
    rw [List.cons_append, run_cons, e]
    show runR (p ++ t) _ = _
    rw [ih _ (by exact h0) (fun d hd => h d (by simp [hd])), h5]
    simp

/-! ### An escaped text -/
theorem esc_no (x : List UInt8) : ∀ c ∈ escL x, c ≠ 60 ∧ c ≠ 34 := by
  have h := esc_clean x
  unfold cleanL at h
  intro c hc
  have := List.all_eq_true.1 h c hc
  simp at this
  exact ⟨this.1.1.1, this.1.2⟩
theorem text_out (d : Bool) (r : Rd) (x : List UInt8) (h : (if d then decL' r.tx else r.tx) = x) : (textR d r).out = if x = [] then r.out else r.out ++ [txTk x] := by
  unfold textR
  rw [h]
theorem tok_plain (x : List UInt8) : tokL (escL x) = if x = [] then [] else [txTk x] := by
  unfold tokL
  have h := run_text (escL x) [] rd0 rfl (fun c hc => (esc_no x c hc).1)
  rw [List.append_nil, run_nil] at h
  rw [h]
  unfold lastR
  rw [if_pos rfl, text_out true _ x (by show decL' ([] ++ escL x) = x; rw [List.nil_append, dec_esc])]
  split <;> rfl
abbrev preV : List UInt8 := [60, 98, 62, 120, 60, 112, 32, 97, 61, 34]
abbrev postV : List UInt8 := [34, 32, 99, 62, 121]
theorem tok_values (x : List UInt8) : tokL (preV ++ (escL x ++ postV)) = [⟨1, [98], [], [], false⟩, txTk [120], ⟨1, [112], [], [⟨[97], x⟩, ⟨[99], []⟩], false⟩, txTk [121]] := by
  unfold tokL
  have h1 : ∀ t, stepsN 12 (preV ++ t) rd0 = (t, ⟨[⟨1, [98], [], [], false⟩, txTk [120]], 8, [], ⟨1, [112], [], [], false⟩, ⟨[97], []⟩, 34, [], 0⟩) := fun t => by kernel_rfl
  rw [run_to 12 (h1 _)]
  have h2 := run_value (escL x) [32, 99, 62, 121] ⟨[⟨1, [98], [], [], false⟩, txTk [120]], 8, [], ⟨1, [112], [], [], false⟩, ⟨[97], []⟩, 34, [], 0⟩ rfl (fun c hc => (esc_no x c hc).2)
  rw [show escL x ++ postV = escL x ++ (34 :: [32, 99, 62, 121]) from rfl, h2]
  have h3 : goR 10 (putR { (⟨[⟨1, [98], [], [], false⟩, txTk [120]], 8, [], ⟨1, [112], [], [], false⟩, ⟨[97], []⟩, 34, [], 0⟩ : Rd) with av := ⟨[97], [] ++ escL x⟩ }) = ⟨[⟨1, [98], [], [], false⟩, txTk [120]], 10, [], ⟨1, [112], [], [⟨[97], x⟩], false⟩, noAt, 34, [], 0⟩ := by
    unfold putR goR
    simp [dec_esc]
  rw [show (⟨[⟨1, [98], [], [], false⟩, txTk [120]], 8, [], ⟨1, [112], [], [], false⟩, ⟨[97], []⟩, 34, [], 0⟩ : Rd).av.v = [] from rfl] at *
  rw [h3]
  have h4 : stepsN 9 [32, 99, 62, 121] ⟨[⟨1, [98], [], [], false⟩, txTk [120]], 10, [], ⟨1, [112], [], [⟨[97], x⟩], false⟩, noAt, 34, [], 0⟩ = ([], ⟨[⟨1, [98], [], [], false⟩, txTk [120], ⟨1, [112], [], [⟨[97], x⟩, ⟨[99], []⟩], false⟩], 0, [121], noTk, noAt, 34, [], 0⟩) := by kernel_rfl
  rw [run_to 9 h4, run_nil]
  rfl

/-! ### Raw text -/
abbrev rawsL : List (List UInt8) := [[116, 105, 116, 108, 101], [116, 101, 120, 116, 97, 114, 101, 97], [115, 116, 121, 108, 101], [115, 99, 114, 105, 112, 116]]
def rawKd (i : Nat) : Nat := if i < 2 then 1 else i
end Go.Proofs.Ytidfcajhmldieaa.Tok

/-
  Raw text ends at its own end tag; tokens that are written are read again.
-/
namespace Go.Proofs.Ytidfcajhmldieaa.Tok
open Go.Proofs.Ytidfcajhmldieaa.Oct Go.Proofs.Ytidfcajhmldieaa.Utf Go.Proofs.Ytidfcajhmldieaa.Crf Go.Proofs.Ytidfcajhmldieaa.Tab

/-! ### Raw text -/
theorem raw_no (nm s : List UInt8) (hnm : ∀ c ∈ nm, c ≠ 60 ∧ low c = c) (h : ∀ i, i < s.length → (60 :: 47 :: nm).isPrefixOf ((s.drop i).map low) = false) :
    ∀ i, i < s.length → hits nm ((s ++ 60 :: 47 :: (nm ++ [62])).drop i) = false := by
  intro i hi
  have hP : (60 :: 47 :: nm).map low = 60 :: 47 :: nm := by
    have e : nm.map low = nm := by
      conv => rhs; rw [← List.map_id nm]
      exact List.map_congr_left fun c hc => (hnm c hc).2
    rw [List.map_cons, List.map_cons, e]
    rfl
  unfold hits
  rw [hP]
  cases hq : (60 :: 47 :: nm).isPrefixOf (((s ++ 60 :: 47 :: (nm ++ [62])).drop i).map low) with
  | false => rfl
  | true =>
    exfalso
    have h1 := List.isPrefixOf_iff_prefix.1 hq
    rw [List.drop_append_of_le_length (by omega), List.map_append] at h1
    have hn := h i hi
    have hu : (s.drop i).map low ≠ [] := by
      intro e
      have := congrArg List.length e
      rw [List.length_map, List.length_drop, List.length_nil] at this
      omega
    generalize (s.drop i).map low = u at h1 hn hu
    by_cases hl : (60 :: 47 :: nm).length ≤ u.length
    · have h2 := List.prefix_of_prefix_length_le h1 (List.prefix_append u _) hl
      rw [List.isPrefixOf_iff_prefix.2 h2] at hn
      cases hn
    · have h2 := List.prefix_of_prefix_length_le (List.prefix_append u _) h1 (by omega)
      obtain ⟨v, hv⟩ := h2
      rw [← hv] at h1
      have h3 := (List.prefix_append_right_inj u).1 h1
      have hv0 : v ≠ [] := by
        rintro rfl
        rw [List.append_nil] at hv
        rw [hv] at hl
        omega
      obtain ⟨d, w, rfl⟩ := List.exists_cons_of_ne_nil hv0
      obtain ⟨z, hz⟩ := h3
      rw [List.map_cons, List.cons_append] at hz
      injection hz with hd _
      obtain ⟨b, u', rfl⟩ := List.exists_cons_of_ne_nil hu
      rw [List.cons_append] at hv
      injection hv with _ hv2
      have hm : d ∈ (47 :: nm) := by rw [← hv2]; simp
      have hd60 : d = 60 := by rw [hd]; rfl
      rw [hd60] at hm
      rcases List.mem_cons.1 hm with hm | hm
      · exact absurd hm (by decide)
      · exact (hnm 60 hm).1 rfl
theorem run_rawtag (nm s : List UInt8) (kd n : Nat) (hnm : ∀ c ∈ nm, c ≠ 60 ∧ low c = c)
    (hpre : ∀ t, stepsN n (60 :: (nm ++ 62 :: t)) rd0 = (t, ⟨[⟨1, nm, [], [], false⟩], 15, [], noTk, noAt, 0, nm, kd⟩))
    (hend : ∀ r : Rd, r.st = 15 → r.rw = nm → runR (60 :: 47 :: (nm ++ [62])) r = { textR (r.kd == 1) r with out := (textR (r.kd == 1) r).out ++ [⟨2, nm, [], [], false⟩], st := 0, tg := noTk })
    (h : ∀ i, i < s.length → (60 :: 47 :: nm).isPrefixOf ((s.drop i).map low) = false) (x : List UInt8) (hx : (if (kd == 1) = true then decL' s else s) = x) :
    tokL (60 :: (nm ++ 62 :: (s ++ 60 :: 47 :: (nm ++ [62])))) = ⟨1, nm, [], [], false⟩ :: ((if x = [] then [] else [txTk x]) ++ [⟨2, nm, [], [], false⟩]) := by
  unfold tokL
  rw [run_to n (hpre _), run_raw s _ _ rfl (raw_no nm s hnm h), hend _ rfl rfl]
  unfold lastR
  rw [if_pos rfl, text_out true _ [] rfl, if_pos rfl]
  show (textR (kd == 1) _).out ++ _ = _
  rw [text_out (kd == 1) _ x (by show (if (kd == 1) = true then decL' ([] ++ s) else [] ++ s) = x; rw [List.nil_append]; exact hx)]
  split <;> rfl
theorem hit_own (nm r : List UInt8) (d : UInt8) (hd : d = 62) : hits nm (60 :: 47 :: (nm ++ d :: r)) = true := by
  unfold hits
  subst hd
  have h1 : ((60 :: 47 :: nm).map low).isPrefixOf ((60 :: 47 :: (nm ++ 62 :: r)).map low) = true := by
    rw [List.isPrefixOf_iff_prefix]
    exact ⟨(62 :: r).map low, by simp⟩
  rw [h1]
  have h2 : (60 :: 47 :: (nm ++ 62 :: r)).drop (2 + nm.length) = 62 :: r := by
    rw [Nat.add_comm 2, show nm.length + 2 = nm.length + 1 + 1 from rfl, List.drop_succ_cons, List.drop_succ_cons, List.drop_left]
  rw [h2]
  rfl
theorem run_rawend (nm : List UInt8) (hlow : nm.map low = nm) (r : Rd) (h0 : r.st = 15) (h1 : r.rw = nm) :
    runR (60 :: 47 :: (nm ++ [62])) r = { textR (r.kd == 1) r with out := (textR (r.kd == 1) r).out ++ [⟨2, nm, [], [], false⟩], st := 0, tg := noTk } := by
  have e : stepR 60 (47 :: (nm ++ [62])) r = ({ textR (r.kd == 1) r with st := 3, tg := { noTk with k := 2, n := nm } }, 2 + nm.length) := by
    rw [step_raw _ _ _ h0]
    unfold rawR
    rw [h1, hit_own nm [] 62 rfl, if_pos rfl]
    rw [show (60 :: 47 :: (nm ++ [62])).drop 2 = nm ++ [62] from rfl, List.take_left, hlow]
  rw [run_cons, e]
  have h2 : (60 :: 47 :: (nm ++ [62])).drop (2 + nm.length) = [62] := by
    rw [Nat.add_comm 2, show nm.length + 2 = nm.length + 1 + 1 from rfl, List.drop_succ_cons, List.drop_succ_cons, List.drop_left]
  rw [h2, run_cons, step_name _ _ _ rfl]
  show runR ([62].drop (again (tnameR 62 _)).2) (again (tnameR 62 _)).1 = _
  rw [show tnameR 62 ({ textR (r.kd == 1) r with st := 3, tg := { noTk with k := 2, n := nm } } : Rd) = (endR { textR (r.kd == 1) r with st := 3, tg := { noTk with k := 2, n := nm } }, false) from rfl]
  show runR [] (endR _) = _
  rw [run_nil]
  rfl
theorem tok_raw (i : Nat) (hi : i < 4) (s : List UInt8) (h : ∀ j, j < s.length → (60 :: 47 :: rawsL.getD i []).isPrefixOf ((s.drop j).map low) = false) (x : List UInt8) (hx : (if i < 2 then decL' s else s) = x) :
    tokL (60 :: (rawsL.getD i [] ++ 62 :: (s ++ 60 :: 47 :: (rawsL.getD i [] ++ [62])))) = ⟨1, rawsL.getD i [], [], [], false⟩ :: ((if x = [] then [] else [txTk x]) ++ [⟨2, rawsL.getD i [], [], [], false⟩]) := by
  rcases (by omega : i = 0 ∨ i = 1 ∨ i = 2 ∨ i = 3) with rfl | rfl | rfl | rfl
  · exact run_rawtag _ s 1 8 (by decide) (fun t => by kernel_rfl) (fun r h0 h1 => run_rawend _ (by decide) r h0 h1) h x hx
  · exact run_rawtag _ s 1 11 (by decide) (fun t => by kernel_rfl) (fun r h0 h1 => run_rawend _ (by decide) r h0 h1) h x hx
  · exact run_rawtag _ s 2 8 (by decide) (fun t => by kernel_rfl) (fun r h0 h1 => run_rawend _ (by decide) r h0 h1) h x hx
  · exact run_rawtag _ s 3 9 (by decide) (fun t => by kernel_rfl) (fun r h0 h1 => run_rawend _ (by decide) r h0 h1) h x hx

/-! ### What is written -/
def wordB (more : Bool) (s : List UInt8) : Bool := !s.isEmpty && s.all (fun c => smallI (c.toNat : Int) || digitI (c.toNat : Int) || (more && c == 45))
def okTag (t : Tk) : Bool :=
  wordB false t.n && !digitI ((t.n.headD 0).toNat : Int) && decide (t.n.length ≤ 32) && t.x.isEmpty && (decide (t.k = 1) || (!t.c && t.a.isEmpty)) && t.a.all (fun a => wordB true a.n && decide (rep a.v = a.v))
def hasEnd : List UInt8 → Bool
  | [] => false
  | c :: t => [45, 45, 62].isPrefixOf (c :: t) || hasEnd t
def okRest (t : Tk) : Bool := t.n.isEmpty && t.a.isEmpty && !t.c
def okText (t : Tk) : Bool := okRest t && !t.x.isEmpty && decide (rep t.x = t.x)
def okCom (t : Tk) : Bool := okRest t && (t.x.isEmpty || (!hasEnd t.x && decide (t.x.headD 0 ≠ 45 ∧ t.x.headD 0 ≠ 62 ∧ t.x.getLastD 0 ≠ 45)))
/-- May a token be: 0; else the error. -/
def checkT (t : Tk) : Nat :=
  if t.k < 1 ∨ 4 < t.k then 4 else if (if t.k < 3 then okTag t else if t.k = 3 then okText t else okCom t) = true then 0 else 9
def writeA (a : At) : List UInt8 := 32 :: (a.n ++ 61 :: 34 :: (escL (rep a.v) ++ [34]))
def writeT (t : Tk) : List UInt8 :=
  if t.k = 1 then 60 :: (t.n ++ (t.a.flatMap writeA ++ ((if t.c then [47] else []) ++ [62])))
  else if t.k = 2 then 60 :: 47 :: (t.n ++ [62])
  else if t.k = 3 then escL (rep t.x)
  else 60 :: 33 :: 45 :: 45 :: (t.x ++ [45, 45, 62])
theorem word_c {more : Bool} {s : List UInt8} (h : wordB more s = true) : ∀ c ∈ s, wordC c = true := by
  unfold wordB at h
  rw [Bool.and_eq_true] at h
  intro c hc
  have h1 := List.all_eq_true.1 h.2 c hc
  unfold wordC
  simp only [Bool.or_eq_true, Bool.and_eq_true] at h1 ⊢
  rcases h1 with h1 | h1
  · exact .inl h1
  · exact .inr h1.2
theorem word_ne {more : Bool} {s : List UInt8} (h : wordB more s = true) : s ≠ [] := by
  unfold wordB at h
  rw [Bool.and_eq_true] at h
  rintro rfl
  exact absurd h.1 (by decide)
theorem run_attr1 (a : At) (t : List UInt8) (r : Rd) (h0 : r.st = 3 ∨ r.st = 10) (hn : wordB true a.n = true) (hv : rep a.v = a.v) :
    ∃ r', runR (writeA a ++ t) r = runR t r' ∧ r'.st = 10 ∧ r'.tg = { r.tg with a := r.tg.a ++ [a] } ∧ r'.out = r.out ∧ r'.tx = r.tx := by
  obtain ⟨c, n', hc⟩ := List.exists_cons_of_ne_nil (word_ne hn)
  have hw := word_c hn
  obtain ⟨h1, h2, h3, h4, h5⟩ := word_facts c (hw c (by rw [hc]; simp))
  have e0 : runR (writeA a ++ t) r = runR (a.n ++ 61 :: 34 :: (escL a.v ++ 34 :: t)) (goR 4 r) := by
    have ew : writeA a ++ t = 32 :: (a.n ++ 61 :: 34 :: (escL a.v ++ 34 :: t)) := by
      unfold writeA
      rw [hv]
      simp
    rw [ew]
    rcases h0 with h0 | h0
    · rw [run_cons, step_name _ _ _ h0]
      rfl
    · rw [run_cons, step_behind _ _ _ h0]
      show runR (32 :: _) (goR 4 r) = _
      rw [run_cons, step_before _ _ _ rfl]
      rfl
  have e1 : runR (a.n ++ 61 :: 34 :: (escL a.v ++ 34 :: t)) (goR 4 r) = runR (61 :: 34 :: (escL a.v ++ 34 :: t)) { r with st := 5, av := ⟨a.n, []⟩ } := by
    rw [hc, List.cons_append, run_cons, step_before _ _ _ rfl]
    unfold beforeR again
    rw [h1, if_neg (by simp), if_neg h2, if_neg h3]
    show runR (n' ++ 61 :: 34 :: (escL a.v ++ 34 :: t)) _ = _
    rw [run_attr n' _ _ rfl (fun d hd => hw d (by rw [hc]; simp [hd])), h5]
    rfl
  have e2 : runR (61 :: 34 :: (escL a.v ++ 34 :: t)) ({ r with st := 5, av := ⟨a.n, []⟩ } : Rd) = runR (escL a.v ++ 34 :: t) { r with st := 8, av := ⟨a.n, []⟩, q := 34 } := by
    rw [run_cons, step_attr _ _ _ rfl]
    show runR (34 :: (escL a.v ++ 34 :: t)) ({ r with st := 7, av := ⟨a.n, []⟩ } : Rd) = _
    rw [run_cons, step_want _ _ _ rfl]
    rfl
  refine ⟨goR 10 (putR { r with st := 8, av := ⟨a.n, [] ++ escL a.v⟩, q := 34 }), ?_, rfl, ?_, rfl, rfl⟩
  · rw [e0, e1, e2]
    exact run_value (escL a.v) t { r with st := 8, av := ⟨a.n, []⟩, q := 34 } rfl (fun c hc => (esc_no a.v c hc).2)
  · unfold goR putR
    simp [dec_esc]
theorem run_attrs (al : List At) (t : List UInt8) (r : Rd) (h0 : r.st = 3 ∨ r.st = 10) (h : ∀ a ∈ al, wordB true a.n = true ∧ rep a.v = a.v) :
    ∃ r', runR (al.flatMap writeA ++ t) r = runR t r' ∧ (r'.st = 3 ∨ r'.st = 10) ∧ r'.tg = { r.tg with a := r.tg.a ++ al } ∧ r'.out = r.out ∧ r'.tx = r.tx := by
  induction al generalizing r with
  | nil => exact ⟨r, rfl, h0, by simp, rfl, rfl⟩
  | cons a al ih =>
    have ha := h a (by simp)
    obtain ⟨r1, e1, s1, g1, o1, x1⟩ := run_attr1 a (al.flatMap writeA ++ t) r h0 ha.1 ha.2
    obtain ⟨r2, e2, s2, g2, o2, x2⟩ := ih r1 (.inr s1) (fun b hb => h b (by simp [hb]))
    refine ⟨r2, ?_, s2, ?_, by rw [o2, o1], by rw [x2, x1]⟩
    · rw [List.flatMap_cons, List.append_assoc, e1, e2]
    · rw [g2, g1]
      simp
theorem run_close (cl : Bool) (t : List UInt8) (r : Rd) (h0 : r.st = 3 ∨ r.st = 10) :
    ∃ s, runR ((if cl then [47] else []) ++ 62 :: t) r = runR t (endR { r with st := s, tg := { r.tg with c := (cl || r.tg.c) } }) := by
  have h4 : ∀ r : Rd, r.st = 3 ∨ r.st = 4 → ∃ s, runR ((if cl then [47] else []) ++ 62 :: t) r = runR t (endR { r with st := s, tg := { r.tg with c := (cl || r.tg.c) } }) := by
    intro r h0
    cases cl with
    | false =>
      refine ⟨r.st, ?_⟩
      show runR (62 :: t) r = _
      rcases h0 with h0 | h0
      · rw [run_cons, step_name _ _ _ h0]
        rfl
      · rw [run_cons, step_before _ _ _ h0]
        rfl
    | true =>
      refine ⟨11, ?_⟩
      show runR (47 :: 62 :: t) r = _
      rcases h0 with h0 | h0
      · rw [run_cons, step_name _ _ _ h0]
        show runR (62 :: t) (goR 11 r) = _
        rw [run_cons, step_slash _ _ _ rfl]
        rfl
      · rw [run_cons, step_before _ _ _ h0]
        show runR (62 :: t) (goR 11 r) = _
        rw [run_cons, step_slash _ _ _ rfl]
        rfl
  rcases h0 with h0 | h0
  · exact h4 r (.inl h0)
  · obtain ⟨s, hs⟩ := h4 (goR 4 r) (.inr rfl)
    refine ⟨s, ?_⟩
    have e : runR ((if cl then [47] else []) ++ 62 :: t) r = runR ((if cl then [47] else []) ++ 62 :: t) (goR 4 r) := by
      cases cl with
      | false => show runR (62 :: t) r = _; rw [run_cons, step_behind _ _ _ h0]; rfl
      | true => show runR (47 :: 62 :: t) r = _; rw [run_cons, step_behind _ _ _ h0]; rfl
    rw [e, hs]
    rfl
theorem small_letter (c : UInt8) (h : wordC c = true) (h2 : digitI (c.toNat : Int) = false) (h3 : c ≠ 45) : letB c = true ∧ c ≠ 47 ∧ c ≠ 33 ∧ c ≠ 63 := by
  have h1 : ∀ x : Fin 256, wordC (UInt8.ofNat x.val) = true → digitI ((UInt8.ofNat x.val).toNat : Int) = false → UInt8.ofNat x.val ≠ 45 → letB (UInt8.ofNat x.val) = true ∧ UInt8.ofNat x.val ≠ 47 ∧ UInt8.ofNat x.val ≠ 33 ∧ UInt8.ofNat x.val ≠ 63 := by decide +kernel
  have h4 := h1 ⟨c.toNat, c.toNat_lt⟩
  simp only [UInt8.ofNat_toNat] at h4
  exact h4 h h2 h3
theorem tag_head {t : Tk} (h : okTag t = true) : wordB false t.n = true ∧ ∃ c n', t.n = c :: n' ∧ letB c = true ∧ c ≠ 47 ∧ c ≠ 33 ∧ c ≠ 63 := by
  unfold okTag at h
  simp only [Bool.and_eq_true] at h
  have hn := h.1.1.1.1.1
  have hd := h.1.1.1.1.2
  obtain ⟨c, n', hc⟩ := List.exists_cons_of_ne_nil (word_ne hn)
  rw [hc] at hd
  have hw := word_c hn c (by rw [hc]; simp)
  refine ⟨hn, c, n', hc, small_letter c hw (by simpa using hd) ?_⟩
  rintro rfl
  unfold wordB at hn
  rw [Bool.and_eq_true] at hn
  have := List.all_eq_true.1 hn.2 45 (by rw [hc]; simp)
  exact absurd this (by decide)
theorem run_start (t : Tk) (u : List UInt8) (r : Rd) (h0 : r.st = 0) (hk : t.k = 1) (ho : okTag t = true) (hr : ¬ (1 ≤ elemN t.n ∧ elemN t.n ≤ 3)) :
    ∃ r', runR (writeT t ++ u) r = runR u r' ∧ r'.st = 0 ∧ r'.tx = [] ∧ r'.out = (textR true r).out ++ [t] := by
  obtain ⟨hn, c, n', hc, hl, c1, c2, c3⟩ := tag_head ho
  have hw := word_c hn
  have e0 : writeT t ++ u = 60 :: (t.n ++ (t.a.flatMap writeA ++ ((if t.c then [47] else []) ++ 62 :: u))) := by
    unfold writeT
    rw [if_pos hk]
    simp
  have e1 : runR (writeT t ++ u) r = runR (t.n ++ (t.a.flatMap writeA ++ ((if t.c then [47] else []) ++ 62 :: u))) (goR 1 (textR true r)) := by
    rw [e0, run_cons, step_data _ _ _ h0]
    unfold dataR
    have : opens 60 (t.n ++ (t.a.flatMap writeA ++ ((if t.c then [47] else []) ++ 62 :: u))) = true := by
      rw [hc, List.cons_append]
      unfold opens
      simp [hl]
    rw [this]
    rfl
  have e2 : runR (t.n ++ (t.a.flatMap writeA ++ ((if t.c then [47] else []) ++ 62 :: u))) (goR 1 (textR true r)) = runR (t.n ++ (t.a.flatMap writeA ++ ((if t.c then [47] else []) ++ 62 :: u))) { textR true r with st := 3, tg := { noTk with k := 1 } } := by
    conv => lhs; rw [hc, List.cons_append, run_cons, step_open _ _ _ rfl]
    unfold openR
    rw [if_neg c1, if_neg c2, if_neg c3, hc]
    rfl
  have e3 := run_name t.n (t.a.flatMap writeA ++ ((if t.c then [47] else []) ++ 62 :: u)) { textR true r with st := 3, tg := { noTk with k := 1 } } rfl hw
  have hx := (text_facts true r).2.1
  unfold okTag at ho
  simp only [Bool.and_eq_true] at ho
  have ha : ∀ a ∈ t.a, wordB true a.n = true ∧ rep a.v = a.v := fun a ha => by
    have := List.all_eq_true.1 ho.2 a ha
    rw [Bool.and_eq_true] at this
    exact ⟨this.1, of_decide_eq_true this.2⟩
  obtain ⟨r4, e4, s4, g4, o4, x4⟩ := run_attrs t.a ((if t.c then [47] else []) ++ 62 :: u) { textR true r with st := 3, tg := { noTk with k := 1, n := [] ++ t.n } } (.inl rfl) ha
  obtain ⟨s, e5⟩ := run_close t.c u r4 s4
  have ht : ({ r4.tg with c := (t.c || r4.tg.c) } : Tk) = t := by
    rw [g4]
    obtain ⟨k, n, x, a, c⟩ := t
    simp only at hk ho ⊢
    have hx0 : x = [] := by simpa using ho.1.1.2
    subst hk hx0
    simp
  refine ⟨_, by rw [e1, e2, e3, e4, e5], ?_⟩
  rw [ht]
  have hnr : rawK (toldT t) = false := by
    unfold rawK toldT
    rw [if_neg (by rw [hk]; decide)]
    exact decide_eq_false fun h => hr h.2
  unfold endR
  rw [show ({ r4 with st := s, tg := t } : Rd).tg = t from rfl, hnr]
  refine ⟨rfl, by show r4.tx = []; rw [x4]; exact hx, ?_⟩
  show r4.out ++ [toldT t] = _
  rw [o4]
  unfold toldT
  rw [if_neg (by rw [hk]; decide)]
theorem run_endtag (t : Tk) (u : List UInt8) (r : Rd) (h0 : r.st = 0) (hk : t.k = 2) (ho : okTag t = true) :
    ∃ r', runR (writeT t ++ u) r = runR u r' ∧ r'.st = 0 ∧ r'.tx = [] ∧ r'.out = (textR true r).out ++ [t] := by
  obtain ⟨hn, c, n', hc, hl, c1, c2, c3⟩ := tag_head ho
  have hw := word_c hn
  have e0 : writeT t ++ u = 60 :: 47 :: (t.n ++ 62 :: u) := by
    unfold writeT
    rw [if_neg (by rw [hk]; decide), if_pos hk]
    simp
  have e1 : runR (writeT t ++ u) r = runR (t.n ++ 62 :: u) (goR 2 (textR true r)) := by
    rw [e0, run_cons, step_data _ _ _ h0]
    unfold dataR
    have : opens 60 (47 :: (t.n ++ 62 :: u)) = true := by
      rw [hc, List.cons_append]
      rfl
    rw [this]
    show runR (47 :: _) (goR 1 (textR true r)) = _
    rw [run_cons, step_open _ _ _ rfl]
    rfl
  have e2 : runR (t.n ++ 62 :: u) (goR 2 (textR true r)) = runR (t.n ++ 62 :: u) { textR true r with st := 3, tg := { noTk with k := 2 } } := by
    conv => lhs; rw [hc, List.cons_append, run_cons, step_endOpen _ _ _ rfl]
    unfold endOpenR
    rw [if_pos hl, hc]
    rfl
  have e3 := run_name t.n (62 :: u) { textR true r with st := 3, tg := { noTk with k := 2 } } rfl hw
  have hx := (text_facts true r).2.1
  refine ⟨endR { textR true r with st := 3, tg := { noTk with k := 2, n := [] ++ t.n } }, ?_, rfl, hx, ?_⟩
  · rw [e1, e2, e3, run_cons, step_name _ _ _ rfl]
    rfl
  · show (textR true r).out ++ [⟨2, [] ++ t.n, [], [], false⟩] = _
    congr 2
    unfold okTag at ho
    simp only [Bool.and_eq_true] at ho
    obtain ⟨k, n, x, a, c⟩ := t
    simp only at hk ho ⊢
    have hx0 : x = [] := by simpa using ho.1.1.2
    have ho2 := ho.1.2
    rw [decide_eq_false (by rw [hk]; decide)] at ho2
    simp at ho2
    rw [hk, hx0, ho2.1, ho2.2]
    rfl
theorem run_text1 (t : Tk) (u : List UInt8) (r : Rd) (h0 : r.st = 0) (hx : r.tx = []) (hk : t.k = 3) (ho : okText t = true) :
    ∃ r', runR (writeT t ++ u) r = runR u r' ∧ r'.st = 0 ∧ (textR true r').out = r.out ++ [t] ∧ (textR true r).out = r.out := by
  unfold okText okRest at ho
  simp only [Bool.and_eq_true] at ho
  have hrep : rep t.x = t.x := of_decide_eq_true ho.2
  have hne : t.x ≠ [] := by
    intro e
    have := ho.1.2
    rw [e] at this
    exact absurd this (by decide)
  have e0 : writeT t = escL t.x := by
    unfold writeT
    rw [if_neg (by rw [hk]; decide), if_neg (by rw [hk]; decide), if_pos hk, hrep]
  have ht : txTk t.x = t := by
    obtain ⟨k, n, x, a, c⟩ := t
    simp only at hk ho ⊢
    have h1 := ho.1.1.1.1
    have h2 := ho.1.1.1.2
    have h3 := ho.1.1.2
    simp at h1 h2 h3
    rw [hk, h1, h2, h3]
  refine ⟨{ r with tx := r.tx ++ escL t.x }, ?_, h0, ?_, ?_⟩
  · rw [e0]
    exact run_text (escL t.x) u r h0 (fun c hc => (esc_no t.x c hc).1)
  · rw [text_out true _ t.x (by show decL' (r.tx ++ escL t.x) = t.x; rw [hx, List.nil_append, dec_esc]), if_neg hne, ht]
  · rw [text_out true _ [] (by rw [hx]; rfl), if_pos rfl]
/-- A remark's end comes first where it is written. -/
theorem com_no (x t : List UInt8) (h : hasEnd x = false) (hl : x.getLastD 0 ≠ 45) : ∀ i, i < x.length → [45, 45, 62].isPrefixOf ((x ++ 45 :: 45 :: 62 :: t).drop i) = false := by
  induction x with
  | nil => intro i hi; simp at hi
  | cons c x ih =>
    unfold hasEnd at h
    rw [Bool.or_eq_false_iff] at h
    intro i hi
    cases i with
    | succ i =>
      rw [List.cons_append, List.drop_succ_cons]
      have hx : x ≠ [] := by rintro rfl; simp at hi
      refine ih h.2 ?_ i (by simpa using hi)
      obtain ⟨d, y, rfl⟩ := List.exists_cons_of_ne_nil hx
      simpa using hl
    | zero =>
      rw [List.drop_zero]
      match x, h, hl with
      | [], h, hl =>
        have : c ≠ 45 := by simpa using hl
        simp [List.isPrefixOf]
      | [d], h, hl =>
        have : d ≠ 45 := by simpa using hl
        simp [List.isPrefixOf]
      | d :: e :: y, h, hl =>
        have h1 := h.1
        simp only [List.isPrefixOf, List.cons_append] at h1 ⊢
        exact h1
theorem run_com (t : Tk) (u : List UInt8) (r : Rd) (h0 : r.st = 0) (hk : t.k = 4) (ho : okCom t = true) :
    ∃ r', runR (writeT t ++ u) r = runR u r' ∧ r'.st = 0 ∧ r'.tx = [] ∧ r'.out = (textR true r).out ++ [t] := by
  have hx := (text_facts true r).2.1
  have e0 : writeT t ++ u = 60 :: 33 :: 45 :: 45 :: (t.x ++ 45 :: 45 :: 62 :: u) := by
    unfold writeT
    rw [if_neg (by rw [hk]; decide), if_neg (by rw [hk]; decide), if_neg (by rw [hk]; decide)]
    simp
  have e1 : runR (writeT t ++ u) r = runR (t.x ++ 45 :: 45 :: 62 :: u) (goR 14 (textR true r)) := by
    rw [e0, run_cons, step_data _ _ _ h0]
    show runR (33 :: _) (goR 1 (textR true r)) = _
    rw [run_cons, step_open _ _ _ rfl]
    show runR (45 :: 45 :: _) (goR 12 (textR true r)) = _
    rw [run_cons, step_bang _ _ _ rfl]
    rfl
  unfold okCom okRest at ho
  simp only [Bool.and_eq_true] at ho
  have ht : (⟨4, [], t.x, [], false⟩ : Tk) = t := by
    obtain ⟨k, n, x, a, c⟩ := t
    simp only at hk ho ⊢
    have h1 := ho.1.1.1
    have h2 := ho.1.1.2
    have h3 := ho.1.2
    simp at h1 h2 h3
    rw [hk, h1, h2, h3]
  have hno : ∀ i, i < t.x.length → [45, 45, 62].isPrefixOf ((t.x ++ 45 :: 45 :: 62 :: u).drop i) = false := by
    have h2 := ho.2
    rw [Bool.or_eq_true] at h2
    rcases h2 with h2 | h2
    · intro i hi
      rw [List.isEmpty_iff.1 h2] at hi
      simp at hi
    · rw [Bool.and_eq_true] at h2
      exact com_no t.x u (by simpa using h2.1) (of_decide_eq_true h2.2).2.2
  have e2 := run_comment t.x (45 :: 45 :: 62 :: u) (goR 14 (textR true r)) rfl hno
  refine ⟨{ textR true r with out := (textR true r).out ++ [t], tx := [], st := 0 }, ?_, rfl, rfl, rfl⟩
  rw [e1, e2, run_cons, step_comment _ _ _ rfl]
  unfold commentR
  rw [if_pos (by rfl)]
  show runR u _ = _
  congr 1
  show ({ textR true r with out := (textR true r).out ++ [⟨4, [], (textR true r).tx ++ t.x, [], false⟩], tx := [], st := 0 } : Rd) = _
  rw [hx, List.nil_append, ht]
/-- May a list be written: no text right behind a text, no raw text's tag. -/
def mayL : List Tk → Bool
  | [] => true
  | t :: l => !(decide (t.k = 1 ∧ 1 ≤ elemN t.n ∧ elemN t.n ≤ 3)) && !(decide (t.k = 3) && (match l with | [] => false | u :: _ => decide (u.k = 3))) && mayL l
theorem check_cases {t : Tk} (h : checkT t = 0) : (t.k = 1 ∧ okTag t = true) ∨ (t.k = 2 ∧ okTag t = true) ∨ (t.k = 3 ∧ okText t = true) ∨ (t.k = 4 ∧ okCom t = true) := by
  unfold checkT at h
  by_cases h1 : t.k < 1 ∨ 4 < t.k
  · rw [if_pos h1] at h; exact absurd h (by decide)
  · rw [if_neg h1] at h
    have h2 : (if t.k < 3 then okTag t else if t.k = 3 then okText t else okCom t) = true := by
      by_cases hq : (if t.k < 3 then okTag t else if t.k = 3 then okText t else okCom t) = true
      · exact hq
      · rw [if_neg hq] at h; exact absurd h (by decide)
    by_cases h3 : t.k < 3
    · rw [if_pos h3] at h2
      rcases (by omega : t.k = 1 ∨ t.k = 2) with h | h
      · exact .inl ⟨h, h2⟩
      · exact .inr (.inl ⟨h, h2⟩)
    · rw [if_neg h3] at h2
      by_cases h4 : t.k = 3
      · rw [if_pos h4] at h2
        exact .inr (.inr (.inl ⟨h4, h2⟩))
      · rw [if_neg h4] at h2
        exact .inr (.inr (.inr ⟨by omega, h2⟩))
theorem run_write (l : List Tk) : ∀ (r : Rd), r.st = 0 → (r.tx ≠ [] → ∀ t u, l = t :: u → t.k ≠ 3) → (∀ t ∈ l, checkT t = 0) → mayL l = true →
    lastR (runR (l.flatMap writeT) r) = (textR true r).out ++ l := by
  induction l with
  | nil =>
    intro r h0 _ _ _
    show lastR (runR [] r) = _
    rw [run_nil, List.append_nil]
    unfold lastR
    rw [if_pos h0]
  | cons t l ih =>
    intro r h0 hx hc hm
    unfold mayL at hm
    simp only [Bool.and_eq_true] at hm
    have hc1 := hc t (by simp)
    have hc2 : ∀ u ∈ l, checkT u = 0 := fun u hu => hc u (by simp [hu])
    have hm1 : ¬ (t.k = 1 ∧ 1 ≤ elemN t.n ∧ elemN t.n ≤ 3) := by
      intro hq
      have := hm.1.1
      rw [decide_eq_true hq] at this
      exact absurd this (by decide)
    rw [List.flatMap_cons]
    have hdone : ∀ r' : Rd, runR (writeT t ++ l.flatMap writeT) r = runR (l.flatMap writeT) r' → r'.st = 0 → r'.tx = [] → r'.out = (textR true r).out ++ [t] → lastR (runR (writeT t ++ l.flatMap writeT) r) = (textR true r).out ++ t :: l := fun r' e s x o => by
      rw [e, ih r' s (fun h => absurd x h) hc2 hm.2, text_out true r' [] (by rw [x]; rfl), if_pos rfl, o]
      simp
    rcases check_cases hc1 with ⟨hk, ho⟩ | ⟨hk, ho⟩ | ⟨hk, ho⟩ | ⟨hk, ho⟩
    · obtain ⟨r', e, s, x, o⟩ := run_start t (l.flatMap writeT) r h0 hk ho (fun h => hm1 ⟨hk, h⟩)
      exact hdone r' e s x o
    · obtain ⟨r', e, s, x, o⟩ := run_endtag t (l.flatMap writeT) r h0 hk ho
      exact hdone r' e s x o
    · have hx0 : r.tx = [] := by
        cases hq : r.tx with
        | nil => rfl
        | cons c y => exact absurd hk (hx (by rw [hq]; simp) t l rfl)
      obtain ⟨r', e, s, o, o2⟩ := run_text1 t (l.flatMap writeT) r h0 hx0 hk ho
      rw [e, ih r' s (fun _ u v hu => by
        have := hm.1.2
        rw [hu, decide_eq_true hk] at this
        simpa using this) hc2 hm.2, o, o2]
      simp
    · obtain ⟨r', e, s, x, o⟩ := run_com t (l.flatMap writeT) r h0 hk ho
      exact hdone r' e s x o
/-- Tokens that are written are read again. -/
theorem tok_write (l : List Tk) (hc : ∀ t ∈ l, checkT t = 0) (hm : mayL l = true) : tokL (l.flatMap writeT) = l := by
  have h := run_write l rd0 rfl (fun h => absurd rfl h) hc hm
  unfold tokL
  rw [h, text_out true rd0 [] rfl, if_pos rfl]
  rfl
end Go.Proofs.Ytidfcajhmldieaa.Tok

/-
  What the reader's plain machine does within a tag, place by place, as the code of package tokens asks for it: its calls lead from one place to the next.
-/
namespace Go.Proofs.Ytidfcajhmldieaa.Tkc
open Go.Proofs.Ytidfcajhmldieaa.Oct Go.Proofs.Ytidfcajhmldieaa.Utf Go.Proofs.Ytidfcajhmldieaa.Crf Go.Proofs.Ytidfcajhmldieaa.Tab Go.Proofs.Ytidfcajhmldieaa.Tok

/-- What is told in the end from the place k on, by the reader r. -/
def LL (l : List UInt8) (k : Nat) (r : Rd) : List Tk := lastR (runR (l.drop k) r)
theorem ll_step {l : List UInt8} {k : Nat} (hk : k < l.length) {r r' : Rd} {n : Nat} (h : stepR l[k] (l.drop (k + 1)) r = (r', n)) : LL l k r = LL l (k + n) r' := by
  unfold LL
  rw [List.drop_eq_getElem_cons hk, run_cons, h]
  show lastR (runR ((l[k] :: l.drop (k + 1)).drop n) r') = _
  rw [← List.drop_eq_getElem_cons hk, List.drop_drop]
theorem ll_end {l : List UInt8} {k : Nat} (hk : ¬ k < l.length) (r : Rd) : LL l k r = lastR r := by
  unfold LL
  rw [List.drop_eq_nil_of_le (by omega), run_nil]
theorem last_tag {r : Rd} (h : 1 ≤ r.st ∧ r.st ≤ 13) : lastR r = r.out := by
  unfold lastR
  rw [if_neg (by omega), if_neg (by omega), if_neg (by omega)]

/-- What is told only grows. -/
theorem out_text (d : Bool) (r : Rd) : r.out.length ≤ (textR d r).out.length := by
  unfold textR
  generalize (if d = true then decL' r.tx else r.tx) = x
  show _ ≤ (if x = [] then r.out else r.out ++ [txTk x]).length
  by_cases h : x = []
  · rw [if_pos h]; exact Nat.le_refl _
  · rw [if_neg h, List.length_append]; exact Nat.le_add_right _ _
theorem out_endR (r : Rd) : r.out.length ≤ (endR r).out.length := by unfold endR; split <;> simp
theorem out_tag (c : UInt8) (r : Rd) : r.out.length ≤ (tagR c r).1.out.length := by
  have h1 := out_endR (putR r)
  have h2 := out_endR r
  have h3 := out_endR { r with tg := { r.tg with c := true } }
  unfold tagR tnameR beforeR attrR slashR
  repeat' split
  all_goals first | exact h2 | exact h1 | exact h3 | exact Nat.le_refl _
theorem out_val (c : UInt8) (r : Rd) : r.out.length ≤ (valR c r).1.out.length := by
  have h1 := out_endR (putR r)
  unfold valR wantR valueR bareR
  repeat' split
  all_goals first | exact h1 | exact Nat.le_refl _
theorem out_out (c : UInt8) (t : List UInt8) (r : Rd) : r.out.length ≤ (outR c t r).1.out.length := by
  have h1 := out_text true r
  have h2 := out_text (r.kd == 1) r
  unfold outR dataR openR endOpenR bangR bogusR commentR rawR
  repeat' split
  all_goals first | exact h1 | exact h2 | exact Nat.le_refl _ | (simp; done)
theorem out_step (c : UInt8) (t : List UInt8) (r : Rd) : r.out.length ≤ (stepR c t r).1.out.length := by
  unfold stepR again
  split
  · exact out_tag c r
  · split
    · exact out_val c r
    · exact out_out c t r
theorem out_run (f : Nat) : ∀ (l : List UInt8) (r : Rd), r.out.length ≤ (runF f l r).out.length := by
  induction f with
  | zero => intro l r; exact Nat.le_refl _
  | succ f ih =>
    intro l r
    cases l with
    | nil => exact Nat.le_refl _
    | cons c t => exact Nat.le_trans (out_step c t r) (ih _ _)
theorem ll_out (l : List UInt8) (k : Nat) (r : Rd) : r.out.length ≤ (LL l k r).length := by
  unfold LL
  have h : r.out.length ≤ (runR (l.drop k) r).out.length := out_run (meas (l.drop k) r.st) (l.drop k) r
  refine Nat.le_trans h ?_
  generalize runR (l.drop k) r = q
  unfold lastR
  split
  · exact out_text _ _
  · split
    · exact out_text _ _
    · split
      · simp
      · exact Nat.le_refl _

/-! ### Within a tag -/
def inNm (c : UInt8) : Bool := !blB c && !(c == 47 || c == 62)
def inAt (c : UInt8) : Bool := inNm c && !(c == 61)
def inBare (c : UInt8) : Bool := !blB c && !(c == 62)
/-- The reader stands at k in the state s of a tag, with what it has of it. -/
def TagAt (l : List UInt8) (k0 : Nat) (r0 : Rd) (kd : Int) (s k : Nat) (n : List UInt8) (al : List At) (φ : Rd → Prop) : Prop :=
  ∃ r, LL l k0 r0 = LL l k r ∧ r.st = s ∧ r.tg = ⟨kd, n, [], al, false⟩ ∧ φ r ∧ r.out = r0.out ∧ r.tx = r0.tx
/-- The tag has ended. -/
def TagEnd (l : List UInt8) (k0 : Nat) (r0 : Rd) (kd : Int) (k : Nat) (n : List UInt8) (al : List At) (cl : Bool) : Prop :=
  ∃ r, LL l k0 r0 = LL l k (endR r) ∧ r.tg = ⟨kd, n, [], al, cl⟩ ∧ r.out = r0.out ∧ r.tx = r0.tx
abbrev yes : Rd → Prop := fun _ => True
def avIs (n v : List UInt8) : Rd → Prop := fun r => r.av = ⟨n, v⟩
def avq (n v : List UInt8) (q : UInt8) : Rd → Prop := fun r => r.av = ⟨n, v⟩ ∧ r.q = q

theorem in_nm {c : UInt8} (h : inNm c = true) : blB c = false ∧ c ≠ 47 ∧ c ≠ 62 := by
  unfold inNm at h
  simp only [Bool.and_eq_true, Bool.not_eq_true', Bool.or_eq_false_iff, beq_eq_false_iff_ne] at h
  exact ⟨h.1, h.2.1, h.2.2⟩
theorem no_nm {c : UInt8} (h : inNm c = false) : blB c = true ∨ (blB c = false ∧ c = 47) ∨ (blB c = false ∧ c ≠ 47 ∧ c = 62) := by
  unfold inNm at h
  cases hb : blB c with
  | true => exact .inl rfl
  | false =>
    rw [hb] at h
    simp only [Bool.not_false, Bool.true_and, Bool.not_eq_false', Bool.or_eq_true, beq_iff_eq] at h
    by_cases h1 : c = 47
    · exact .inr (.inl ⟨rfl, h1⟩)
    · exact .inr (.inr ⟨rfl, h1, h.resolve_left h1⟩)
section
variable {l : List UInt8} {k0 : Nat} {r0 : Rd} {kd : Int} {k : Nat} {n : List UInt8} {al : List At}
theorem name_pass (hk : k < l.length) (hc : inNm l[k] = true) {φ : Rd → Prop} (h : TagAt l k0 r0 kd 3 k n al φ) : TagAt l k0 r0 kd 3 (k + 1) (n ++ [low l[k]]) al yes := by
  obtain ⟨r, e, s, g, _, o, x⟩ := h
  obtain ⟨c1, c2, c3⟩ := in_nm hc
  refine ⟨{ r with tg := { r.tg with n := r.tg.n ++ [low l[k]] } }, e.trans (ll_step hk ?_), s, ?_, trivial, o, x⟩
  · rw [step_name _ _ _ s]
    unfold tnameR again
    rw [c1, if_neg (by simp), if_neg c2, if_neg c3]
    rfl
  · show ({ r.tg with n := r.tg.n ++ [low l[k]] } : Tk) = _
    rw [g]
theorem name_stop (hc : (hk : k < l.length) → inNm l[k] = false) {φ : Rd → Prop} (h : TagAt l k0 r0 kd 3 k n al φ) : TagAt l k0 r0 kd 4 k n al yes := by
  obtain ⟨r, e, s, g, _, o, x⟩ := h
  refine ⟨goR 4 r, e.trans ?_, rfl, g, trivial, o, x⟩
  by_cases hk : k < l.length
  · have e3 := step_name l[k] (l.drop (k + 1)) r s
    have e4 := step_before l[k] (l.drop (k + 1)) (goR 4 r) rfl
    unfold tnameR again at e3
    unfold beforeR again at e4
    rcases no_nm (hc hk) with c1 | ⟨c1, c2⟩ | ⟨c1, c2, c3⟩
    · rw [if_pos c1] at e3 e4
      rw [ll_step hk e3, ll_step hk e4]
    · rw [if_neg (by rw [c1]; simp), if_pos c2] at e3 e4
      rw [ll_step hk e3, ll_step hk e4]
      rfl
    · rw [if_neg (by rw [c1]; simp), if_neg c2, if_pos c3] at e3 e4
      rw [ll_step hk e3, ll_step hk e4]
      rfl
  · rw [ll_end hk, ll_end hk, last_tag (by omega), last_tag (by show 1 ≤ 4 ∧ 4 ≤ 13; omega)]
    rfl
theorem before_blank (hk : k < l.length) (hc : blB l[k] = true) {φ : Rd → Prop} (h : TagAt l k0 r0 kd 4 k n al φ) : TagAt l k0 r0 kd 4 (k + 1) n al yes := by
  obtain ⟨r, e, s, g, _, o, x⟩ := h
  refine ⟨r, e.trans (ll_step hk ?_), s, g, trivial, o, x⟩
  rw [step_before _ _ _ s]
  unfold beforeR again
  rw [if_pos hc]
  rfl
theorem before_slash (hk : k < l.length) (hb : blB l[k] = false) (hc : l[k] = 47) {φ : Rd → Prop} (h : TagAt l k0 r0 kd 4 k n al φ) : TagAt l k0 r0 kd 11 (k + 1) n al yes := by
  obtain ⟨r, e, s, g, _, o, x⟩ := h
  refine ⟨goR 11 r, e.trans (ll_step hk ?_), rfl, g, trivial, o, x⟩
  rw [step_before _ _ _ s]
  unfold beforeR again
  rw [if_neg (by rw [hb]; simp), if_pos hc]
  rfl
theorem before_end (hk : k < l.length) (hb : blB l[k] = false) (h1 : l[k] ≠ 47) (hc : l[k] = 62) {φ : Rd → Prop} (h : TagAt l k0 r0 kd 4 k n al φ) : TagEnd l k0 r0 kd (k + 1) n al false := by
  obtain ⟨r, e, s, g, _, o, x⟩ := h
  refine ⟨r, e.trans (ll_step hk ?_), g, o, x⟩
  rw [step_before _ _ _ s]
  unfold beforeR again
  rw [if_neg (by rw [hb]; simp), if_neg h1, if_pos hc]
  rfl
theorem tag_none {s : Nat} (hs : 1 ≤ s ∧ s ≤ 13) (hk : ¬ k < l.length) {φ : Rd → Prop} (h : TagAt l k0 r0 kd s k n al φ) : LL l k0 r0 = r0.out := by
  obtain ⟨r, e, s, g, _, o, x⟩ := h
  rw [e, ll_end hk, last_tag (by omega), o]
theorem before_attr (hk : k < l.length) (hb : blB l[k] = false) (h1 : l[k] ≠ 47) (h2 : l[k] ≠ 62) {φ : Rd → Prop} (h : TagAt l k0 r0 kd 4 k n al φ) : TagAt l k0 r0 kd 5 (k + 1) n al (avIs [low l[k]] []) := by
  obtain ⟨r, e, s, g, _, o, x⟩ := h
  refine ⟨{ r with st := 5, av := ⟨[low l[k]], []⟩ }, e.trans (ll_step hk ?_), rfl, g, rfl, o, x⟩
  rw [step_before _ _ _ s]
  unfold beforeR again
  rw [if_neg (by rw [hb]; simp), if_neg h1, if_neg h2]
  rfl
theorem step_attr6 (c : UInt8) (t : List UInt8) (r : Rd) (h0 : r.st = 6) : stepR c t r = again (attrR c r) := by
  unfold stepR tagR
  rw [h0]
  rfl
theorem attr_pass {a : List UInt8} (hk : k < l.length) (hc : inAt l[k] = true) (h : TagAt l k0 r0 kd 5 k n al (avIs a [])) : TagAt l k0 r0 kd 5 (k + 1) n al (avIs (a ++ [low l[k]]) []) := by
  obtain ⟨r, e, s, g, v, o, x⟩ := h
  unfold avIs at v
  unfold inAt at hc
  simp only [Bool.and_eq_true, Bool.not_eq_true', beq_eq_false_iff_ne] at hc
  obtain ⟨c1, c2, c3⟩ := in_nm hc.1
  refine ⟨{ r with av := { r.av with n := r.av.n ++ [low l[k]] } }, e.trans (ll_step hk ?_), s, g, ?_, o, x⟩
  · rw [step_attr _ _ _ s]
    unfold attrR again
    rw [if_neg (by rw [c1]; simp), if_neg hc.2, if_neg c2, if_neg c3, if_neg (by omega)]
    rfl
  · show ({ r.av with n := r.av.n ++ [low l[k]] } : At) = _
    rw [v]
theorem attr_stop {a : List UInt8} (hc : (hk : k < l.length) → inAt l[k] = false) (h : TagAt l k0 r0 kd 5 k n al (avIs a [])) : TagAt l k0 r0 kd 6 k n al (avIs a []) := by
  obtain ⟨r, e, s, g, v, o, x⟩ := h
  refine ⟨goR 6 r, e.trans ?_, rfl, g, v, o, x⟩
  by_cases hk : k < l.length
  · have e3 := step_attr l[k] (l.drop (k + 1)) r s
    have e4 := step_attr6 l[k] (l.drop (k + 1)) (goR 6 r) rfl
    unfold attrR again at e3 e4
    have hc := hc hk
    by_cases c0 : blB l[k] = true
    · rw [if_pos c0] at e3 e4
      rw [ll_step hk e3, ll_step hk e4]
      rfl
    · by_cases c1 : l[k] = 61
      · rw [if_neg c0, if_pos c1] at e3 e4
        rw [ll_step hk e3, ll_step hk e4]
        rfl
      · have hn : inNm l[k] = false := by
          unfold inAt at hc
          rw [beq_eq_false_iff_ne.2 c1] at hc
          simpa using hc
        rcases no_nm hn with h1 | ⟨_, h2⟩ | ⟨_, h2, h3⟩
        · exact absurd h1 c0
        · rw [if_neg c0, if_neg c1, if_pos h2] at e3 e4
          rw [ll_step hk e3, ll_step hk e4]
          rfl
        · rw [if_neg c0, if_neg c1, if_neg h2, if_pos h3] at e3 e4
          rw [ll_step hk e3, ll_step hk e4]
          rfl
  · rw [ll_end hk, ll_end hk, last_tag (by omega), last_tag (by show 1 ≤ 6 ∧ 6 ≤ 13; omega)]
    rfl
theorem after_blank {a : List UInt8} (hk : k < l.length) (hc : blB l[k] = true) (h : TagAt l k0 r0 kd 6 k n al (avIs a [])) : TagAt l k0 r0 kd 6 (k + 1) n al (avIs a []) := by
  obtain ⟨r, e, s, g, v, o, x⟩ := h
  refine ⟨goR 6 r, e.trans (ll_step hk ?_), rfl, g, v, o, x⟩
  rw [step_attr6 _ _ _ s]
  unfold attrR again
  rw [if_pos hc]
  rfl
theorem after_eq {a : List UInt8} (hk : k < l.length) (hb : blB l[k] = false) (hc : l[k] = 61) (h : TagAt l k0 r0 kd 6 k n al (avIs a [])) : TagAt l k0 r0 kd 7 (k + 1) n al (avIs a []) := by
  obtain ⟨r, e, s, g, v, o, x⟩ := h
  refine ⟨goR 7 r, e.trans (ll_step hk ?_), rfl, g, v, o, x⟩
  rw [step_attr6 _ _ _ s]
  unfold attrR again
  rw [if_neg (by rw [hb]; simp), if_pos hc]
  rfl
theorem put_tg {r : Rd} {a v : List UInt8} (g : r.tg = ⟨kd, n, [], al, false⟩) (hv : r.av = ⟨a, v⟩) : (putR r).tg = ⟨kd, n, [], al ++ [⟨a, decL' v⟩], false⟩ := by
  unfold putR
  rw [g, hv]
theorem dec_nil : decL' [] = [] := rfl
theorem after_else {a : List UInt8} (hb : (hk : k < l.length) → blB l[k] = false ∧ l[k] ≠ 61) (h : TagAt l k0 r0 kd 6 k n al (avIs a [])) : TagAt l k0 r0 kd 4 k n (al ++ [⟨a, []⟩]) yes := by
  obtain ⟨r, e, s, g, v, o, x⟩ := h
  refine ⟨goR 4 (putR r), e.trans ?_, rfl, ?_, trivial, o, x⟩
  · by_cases hk : k < l.length
    · have e3 := step_attr6 l[k] (l.drop (k + 1)) r s
      have e4 := step_before l[k] (l.drop (k + 1)) (goR 4 (putR r)) rfl
      unfold attrR again at e3
      unfold beforeR again at e4
      obtain ⟨b1, b2⟩ := hb hk
      rw [if_neg (by rw [b1]; simp), if_neg b2] at e3
      rw [if_neg (by rw [b1]; simp)] at e4
      by_cases c1 : l[k] = 47
      · rw [if_pos c1] at e3 e4
        rw [ll_step hk e3, ll_step hk e4]
        rfl
      · by_cases c2 : l[k] = 62
        · rw [if_neg c1, if_pos c2] at e3 e4
          rw [ll_step hk e3, ll_step hk e4]
          rfl
        · rw [if_neg c1, if_neg c2, if_pos s] at e3
          rw [ll_step hk e3]
          rfl
    · rw [ll_end hk, ll_end hk, last_tag (by omega), last_tag (by show 1 ≤ 4 ∧ 4 ≤ 13; omega)]
      rfl
  · exact put_tg g v
theorem want_blank {a : List UInt8} (hk : k < l.length) (hc : blB l[k] = true) (h : TagAt l k0 r0 kd 7 k n al (avIs a [])) : TagAt l k0 r0 kd 7 (k + 1) n al (avIs a []) := by
  obtain ⟨r, e, s, g, v, o, x⟩ := h
  refine ⟨r, e.trans (ll_step hk ?_), s, g, v, o, x⟩
  rw [step_want _ _ _ s]
  unfold wantR again
  rw [if_pos hc]
  rfl
theorem want_quote {a : List UInt8} (hk : k < l.length) (hb : blB l[k] = false) (hc : l[k] = 34 ∨ l[k] = 39) (h : TagAt l k0 r0 kd 7 k n al (avIs a [])) : TagAt l k0 r0 kd 8 (k + 1) n al (avq a [] l[k]) := by
  obtain ⟨r, e, s, g, v, o, x⟩ := h
  refine ⟨{ r with st := 8, q := l[k] }, e.trans (ll_step hk ?_), rfl, g, ⟨v, rfl⟩, o, x⟩
  rw [step_want _ _ _ s]
  unfold wantR again
  rw [if_neg (by rw [hb]; simp), if_pos hc]
  rfl
theorem step_bare (c : UInt8) (t : List UInt8) (r : Rd) (h0 : r.st = 9) : stepR c t r = again (bareR c r) := by
  unfold stepR valR
  rw [h0]
  rfl
theorem want_else {a : List UInt8} (hb : (hk : k < l.length) → blB l[k] = false ∧ l[k] ≠ 34 ∧ l[k] ≠ 39) (h : TagAt l k0 r0 kd 7 k n al (avIs a [])) : TagAt l k0 r0 kd 9 k n al (avIs a []) := by
  obtain ⟨r, e, s, g, v, o, x⟩ := h
  refine ⟨goR 9 r, e.trans ?_, rfl, g, v, o, x⟩
  by_cases hk : k < l.length
  · have e3 := step_want l[k] (l.drop (k + 1)) r s
    unfold wantR again at e3
    obtain ⟨b1, b2, b3⟩ := hb hk
    rw [if_neg (by rw [b1]; simp), if_neg (by rintro (h | h) <;> contradiction)] at e3
    by_cases c2 : l[k] = 62
    · rw [if_pos c2] at e3
      have e4 := step_bare l[k] (l.drop (k + 1)) (goR 9 r) rfl
      unfold bareR again at e4
      rw [if_pos (.inr c2)] at e4
      have e5 := step_before l[k] (l.drop (k + 1)) (goR 4 (putR (goR 9 r))) rfl
      unfold beforeR again at e5
      rw [if_neg (by rw [b1]; simp), if_neg (by rw [c2]; decide), if_pos c2] at e5
      rw [ll_step hk e3, ll_step hk e4]
      show _ = LL l k _
      rw [ll_step hk e5]
      rfl
    · rw [if_neg c2] at e3
      rw [ll_step hk e3]
      rfl
  · rw [ll_end hk, ll_end hk, last_tag (by omega), last_tag (by show 1 ≤ 9 ∧ 9 ≤ 13; omega)]
    rfl
theorem bare_pass {a v : List UInt8} (hk : k < l.length) (hc : inBare l[k] = true) (h : TagAt l k0 r0 kd 9 k n al (avIs a v)) : TagAt l k0 r0 kd 9 (k + 1) n al (avIs a (v ++ [l[k]])) := by
  obtain ⟨r, e, s, g, hv, o, x⟩ := h
  unfold avIs at hv
  unfold inBare at hc
  simp only [Bool.and_eq_true, Bool.not_eq_true', beq_eq_false_iff_ne] at hc
  refine ⟨addV l[k] r, e.trans (ll_step hk ?_), s, g, ?_, o, x⟩
  · rw [step_bare _ _ _ s]
    unfold bareR again
    rw [if_neg (by rintro (h | h); (rw [hc.1] at h; cases h); exact hc.2 h)]
    rfl
  · show ({ r.av with v := r.av.v ++ [l[k]] } : At) = _
    rw [hv]
theorem bare_stop {a v : List UInt8} (hc : (hk : k < l.length) → inBare l[k] = false) (h : TagAt l k0 r0 kd 9 k n al (avIs a v)) : TagAt l k0 r0 kd 4 k n (al ++ [⟨a, decL' v⟩]) yes := by
  obtain ⟨r, e, s, g, hv, o, x⟩ := h
  refine ⟨goR 4 (putR r), e.trans ?_, rfl, put_tg g hv, trivial, o, x⟩
  by_cases hk : k < l.length
  · have e3 := step_bare l[k] (l.drop (k + 1)) r s
    unfold bareR again at e3
    have hc := hc hk
    unfold inBare at hc
    rw [if_pos (by
      cases hb : blB l[k] with
      | true => exact .inl rfl
      | false => rw [hb] at hc; simp at hc; exact .inr hc)] at e3
    rw [ll_step hk e3]
    rfl
  · rw [ll_end hk, ll_end hk, last_tag (by omega), last_tag (by show 1 ≤ 4 ∧ 4 ≤ 13; omega)]
    rfl
theorem value_pass {a v : List UInt8} {q : UInt8} (hk : k < l.length) (hc : l[k] ≠ q) (h : TagAt l k0 r0 kd 8 k n al (avq a v q)) : TagAt l k0 r0 kd 8 (k + 1) n al (avq a (v ++ [l[k]]) q) := by
  obtain ⟨r, e, s, g, ⟨hv, hq⟩, o, x⟩ := h
  refine ⟨addV l[k] r, e.trans (ll_step hk ?_), s, g, ⟨?_, hq⟩, o, x⟩
  · rw [step_value _ _ _ s]
    unfold valueR again
    rw [if_neg (by rw [hq]; exact hc)]
    rfl
  · show ({ r.av with v := r.av.v ++ [l[k]] } : At) = _
    rw [hv]
theorem value_stop {a v : List UInt8} {q : UInt8} (hk : k < l.length) (hc : l[k] = q) (h : TagAt l k0 r0 kd 8 k n al (avq a v q)) : TagAt l k0 r0 kd 4 (k + 1) n (al ++ [⟨a, decL' v⟩]) yes := by
  obtain ⟨r, e, s, g, ⟨hv, hq⟩, o, x⟩ := h
  refine ⟨goR 4 (putR r), e.trans ?_, rfl, put_tg g hv, trivial, o, x⟩
  have e3 := step_value l[k] (l.drop (k + 1)) r s
  unfold valueR again at e3
  rw [if_pos (by rw [hq]; exact hc)] at e3
  rw [ll_step hk e3]
  show LL l (k + 1) (goR 10 (putR r)) = _
  by_cases h1 : k + 1 < l.length
  · rw [ll_step h1 (step_behind _ _ _ rfl)]
    rfl
  · rw [ll_end h1, ll_end h1, last_tag (by show 1 ≤ 10 ∧ 10 ≤ 13; omega), last_tag (by show 1 ≤ 4 ∧ 4 ≤ 13; omega)]
    rfl
theorem value_end {a v : List UInt8} {q : UInt8} (hk : ¬ k < l.length) (h : TagAt l k0 r0 kd 8 k n al (avq a v q)) : TagAt l k0 r0 kd 4 k n (al ++ [⟨a, decL' v⟩]) yes := by
  obtain ⟨r, e, s, g, ⟨hv, hq⟩, o, x⟩ := h
  refine ⟨goR 4 (putR r), e.trans ?_, rfl, put_tg g hv, trivial, o, x⟩
  rw [ll_end hk, ll_end hk, last_tag (by omega), last_tag (by show 1 ≤ 4 ∧ 4 ≤ 13; omega)]
  rfl
theorem slash_end (hk : k < l.length) (hc : l[k] = 62) {φ : Rd → Prop} (h : TagAt l k0 r0 kd 11 k n al φ) : TagEnd l k0 r0 kd (k + 1) n al true := by
  obtain ⟨r, e, s, g, _, o, x⟩ := h
  refine ⟨{ r with tg := { r.tg with c := true } }, e.trans (ll_step hk ?_), ?_, o, x⟩
  · rw [step_slash _ _ _ s]
    unfold slashR again
    rw [if_pos hc]
    rfl
  · show ({ r.tg with c := true } : Tk) = _
    rw [g]
theorem slash_else (hc : (hk : k < l.length) → l[k] ≠ 62) {φ : Rd → Prop} (h : TagAt l k0 r0 kd 11 k n al φ) : TagAt l k0 r0 kd 4 k n al yes := by
  obtain ⟨r, e, s, g, _, o, x⟩ := h
  refine ⟨goR 4 r, e.trans ?_, rfl, g, trivial, o, x⟩
  by_cases hk : k < l.length
  · have e3 := step_slash l[k] (l.drop (k + 1)) r s
    unfold slashR again at e3
    rw [if_neg (hc hk)] at e3
    rw [ll_step hk e3]
    rfl
  · rw [ll_end hk, ll_end hk, last_tag (by omega), last_tag (by show 1 ≤ 4 ∧ 4 ≤ 13; omega)]
    rfl
end
end Go.Proofs.Ytidfcajhmldieaa.Tkc

/-
  Plain facts on character references, with no program: the page's way of reading one, and a beginning of one, is the same.
-/
namespace Go.Proofs.Ytidfcajhmldieaa.Crf
open Go.Proofs.Ytidfcajhmldieaa.Oct Go.Proofs.Ytidfcajhmldieaa.Num Go.Proofs.Ytidfcajhmldieaa.Utf
open Go.Lib (encodeRune)

/-- How many digits stand at the head. -/
def runN (base : Int) (l : List UInt8) : Nat := (l.takeWhile (digB base)).length
theorem runN_le (base : Int) (l : List UInt8) : runN base l ≤ l.length := (List.takeWhile_prefix _).length_le
theorem runN_take (base : Int) (l : List UInt8) : l.take (runN base l) = l.takeWhile (digB base) := by
  have h : l.takeWhile (digB base) <+: l := List.takeWhile_prefix _
  exact (List.prefix_iff_eq_take.1 h).symm
theorem runN_all (base : Int) (l : List UInt8) : (l.take (runN base l)).all (digB base) = true := by
  rw [runN_take]
  exact List.all_eq_true.2 fun c hc => mem_tw _ _ c hc
theorem runN_at (base : Int) (l t : List UInt8) (h : l.all (digB base) = true) : runN base (l ++ 59 :: t) = l.length := by
  unfold runN
  rw [List.takeWhile_append_of_pos (List.all_eq_true.1 h)]
  have : digB base 59 = false := by
    cases hd : digB base 59 with
    | false => rfl
    | true => exact absurd rfl (no59 59 base hd)
  rw [List.takeWhile_cons_of_neg (by rw [this]; simp)]
  simp
theorem runN_full (base : Int) (l : List UInt8) : runN base l = l.length ↔ l.all (digB base) = true := by
  constructor
  · intro h
    have := runN_all base l
    rw [h, List.take_length] at this
    exact this
  · intro h
    unfold runN
    have : l.takeWhile (digB base) = l := by
      have := List.takeWhile_append_of_pos (l₂ := []) (List.all_eq_true.1 h)
      simpa using this
    rw [this]

/-- The number at the head, u standing behind the sign. -/
def pNum (u : List UInt8) : List UInt8 × Nat :=
  if 1 ≤ runN (baseOf u) (digsOf u) ∧ runN (baseOf u) (digsOf u) ≤ 7 ∧ (digsOf u)[runN (baseOf u) (digsOf u)]? = some 59
  then (standL (valB (baseOf u) ((digsOf u).take (runN (baseOf u) (digsOf u)))), 2 + (if isHex u then 1 else 0) + runN (baseOf u) (digsOf u) + 1) else ([], 0)
def pOne (l : List UInt8) : List UInt8 × Nat :=
  if Lib.hasPrefix l [38, 97, 109, 112, 59] then ([38], 5) else if Lib.hasPrefix l [38, 108, 116, 59] then ([60], 4) else if Lib.hasPrefix l [38, 103, 116, 59] then ([62], 4)
  else if Lib.hasPrefix l [38, 113, 117, 111, 116, 59] then ([34], 6) else if Lib.hasPrefix l [38, 97, 112, 111, 115, 59] then ([39], 6)
  else if Lib.hasPrefix l [38, 35] then pNum (l.drop 2) else ([], 0)
def pUnf (l : List UInt8) : Bool :=
  decide (l.head? = some 38) && (Lib.hasPrefix [38, 97, 109, 112] l || Lib.hasPrefix [38, 108, 116] l || Lib.hasPrefix [38, 103, 116] l || Lib.hasPrefix [38, 113, 117, 111, 116] l || Lib.hasPrefix [38, 97, 112, 111, 115] l
    || (Lib.hasPrefix l [38, 35] && decide (runN (baseOf (l.drop 2)) (digsOf (l.drop 2)) ≤ 7 ∧ runN (baseOf (l.drop 2)) (digsOf (l.drop 2)) = (digsOf (l.drop 2)).length)))

theorem pre_iff (l p : List UInt8) : Lib.hasPrefix l p = true ↔ p <+: l := by
  unfold Lib.hasPrefix
  exact List.isPrefixOf_iff_prefix
theorem pre_cut {l p : List UInt8} (h : Lib.hasPrefix l p = true) : ∃ t, l = p ++ t := by
  obtain ⟨t, ht⟩ := (pre_iff l p).1 h
  exact ⟨t, ht.symm⟩

theorem hex_front (u t : List UInt8) : isHex (u ++ 59 :: t) = isHex u := by
  cases u with
  | nil => rfl
  | cons c u => rfl
theorem digs_front (u t : List UInt8) : digsOf (u ++ 59 :: t) = digsOf u ++ 59 :: t := by
  unfold digsOf
  rw [hex_front]
  cases u with
  | nil => rfl
  | cons c u => cases isHex (c :: u) <;> simp
theorem base_front (u t : List UInt8) : baseOf (u ++ 59 :: t) = baseOf u := by unfold baseOf; rw [hex_front]
theorem digs_len (u : List UInt8) : u.length = (digsOf u).length + if isHex u then 1 else 0 := by
  rcases digs_cases u with ⟨h, c, _, e⟩ | ⟨h, e⟩
  · rw [h]
    have := congrArg List.length e
    simpa using this
  · rw [h, e]; simp

theorem pNum_yes (u t : List UInt8) (h1 : (digsOf u).length ≤ 7) (h2 : (digsOf u).all (digB (baseOf u)) = true) (h0 : digsOf u ≠ []) : pNum (u ++ 59 :: t) = (standL (valB (baseOf u) (digsOf u)), u.length + 3) := by
  have hr := runN_at (baseOf u) (digsOf u) t h2
  have hp := List.length_pos_iff.2 h0
  unfold pNum
  rw [digs_front, base_front, hex_front, hr, if_pos ⟨hp, h1, by simp⟩, List.take_left, digs_len u]
  congr 1
  omega
theorem digs_hex (c : UInt8) (l : List UInt8) (h : isHex (c :: l) = true) : digsOf (c :: l) = l := by
  unfold digsOf
  rw [h]
  rfl
/-- If there is a number, there is a reference. -/
theorem pNum_ref (u : List UInt8) (h : (pNum u).2 ≠ 0) : ∃ i t, 35 :: u = i ++ 59 :: t ∧ refR i ≠ [] := by
  unfold pNum at h
  split at h
  · rename_i hc
    obtain ⟨c1, c2, c3⟩ := hc
    generalize hn : runN (baseOf u) (digsOf u) = n at c1 c2 c3
    have hall := runN_all (baseOf u) (digsOf u)
    rw [hn] at hall
    obtain ⟨hlt, hat⟩ := List.getElem?_eq_some_iff.1 c3
    have hs : digsOf u = (digsOf u).take n ++ 59 :: (digsOf u).drop (n + 1) := by
      conv => lhs; rw [← List.take_append_drop n (digsOf u), List.drop_eq_getElem_cons hlt, hat]
    have hne : (digsOf u).take n ≠ [] := by
      intro e
      have := congrArg List.length e
      rw [List.length_take, List.length_nil] at this
      omega
    rcases digs_cases u with ⟨hh, c, hc, e⟩ | ⟨hh, e⟩
    · have hx1 : isHex (c :: (digsOf u).take n) = true := by rcases hc with rfl | rfl <;> rfl
      have e1 : digsOf (c :: (digsOf u).take n) = (digsOf u).take n := digs_hex c _ hx1
      have e2 : baseOf (c :: (digsOf u).take n) = baseOf u := by unfold baseOf; rw [hx1, hh]
      refine ⟨35 :: c :: (digsOf u).take n, (digsOf u).drop (n + 1), ?_, ?_⟩
      · rw [List.cons_append, List.cons_append, ← hs, ← e]
      · rw [ref_num _ (by rw [e1, List.length_take]; omega) (by rw [e1, e2]; exact hall) (by rw [e1]; exact hne)]
        exact stand_ne _
    · rw [e] at hs hall hne hlt
      have hx1 : isHex (u.take n) = false := by
        rw [← hh]
        cases u with
        | nil => simp
        | cons c u =>
          cases n with
          | zero => omega
          | succ n => rfl
      have e1 : digsOf (u.take n) = u.take n := by unfold digsOf; rw [hx1]; simp
      have e2 : baseOf (u.take n) = baseOf u := by unfold baseOf; rw [hx1, hh]
      refine ⟨35 :: u.take n, u.drop (n + 1), by rw [List.cons_append, ← hs], ?_⟩
      rw [ref_num _ (by rw [e1, List.length_take]; omega) (by rw [e1, e2]; exact hall) (by rw [e1]; exact hne)]
      exact stand_ne _
  · exact absurd rfl h
theorem pNum_zero (u : List UInt8) (h : (pNum u).2 = 0) : pNum u = ([], 0) := by
  unfold pNum at h ⊢
  split
  · rename_i hc
    rw [if_pos hc] at h
    simp at h
  · rfl

theorem one_pos (i t : List UInt8) (h : refR i ≠ []) : (oneL (38 :: (i ++ 59 :: t))).2 ≠ 0 := by rw [one_of i t h]; simp

theorem pOne_eq (l : List UInt8) : pOne l = oneL l := by
  by_cases hz : (oneL l).2 = 0
  · rw [one_zero hz]
    have no : ∀ i t, refR i ≠ [] → l ≠ 38 :: (i ++ 59 :: t) := fun i t hr e => one_pos i t hr (e ▸ hz)
    unfold pOne
    split
    · rename_i hp; obtain ⟨t, e⟩ := pre_cut hp; exact absurd e (no amp t (by decide))
    · split
      · rename_i hp; obtain ⟨t, e⟩ := pre_cut hp; exact absurd e (no lt' t (by decide))
      · split
        · rename_i hp; obtain ⟨t, e⟩ := pre_cut hp; exact absurd e (no gt' t (by decide))
        · split
          · rename_i hp; obtain ⟨t, e⟩ := pre_cut hp; exact absurd e (no quot t (by decide))
          · split
            · rename_i hp; obtain ⟨t, e⟩ := pre_cut hp; exact absurd e (no apos t (by decide))
            · split
              · rename_i hp
                obtain ⟨t, e⟩ := pre_cut hp
                have ed : l.drop 2 = t := by rw [e]; rfl
                rw [ed]
                by_cases hn : (pNum t).2 = 0
                · exact pNum_zero t hn
                · obtain ⟨i, v, e2, hr⟩ := pNum_ref t hn
                  exfalso
                  refine no i v hr ?_
                  rw [e, ← e2]
                  rfl
              · rfl
  · obtain ⟨i, t, rfl, hr, he⟩ := one_some hz
    rw [he]
    by_cases hn : nameR i = []
    · have hr' := hr
      unfold refR at hr'
      rw [hn] at hr'
      cases hk : numR i with
      | none => rw [hk] at hr'; exact absurd rfl hr'
      | some q =>
        obtain ⟨n, d⟩ := q
        obtain ⟨u, rfl, h1, h2, -, h4⟩ := num_some hk
        rw [hk] at hr'
        have h0 : digsOf u ≠ [] := by
          intro e
          rw [e] at h4
          rw [h4] at hr'
          simp at hr'
        have hy := pNum_yes u t h1 h2 h0
        rw [ref_num u h1 h2 h0]
        unfold pOne
        simp only [Lib.hasPrefix, List.cons_append, List.isPrefixOf, List.drop_succ_cons, List.drop_zero]
        rw [hy]
        simp
    · rcases name_cases hn with rfl | rfl | rfl | rfl | rfl
      · simp [pOne, Lib.hasPrefix, List.isPrefixOf, refR, nameR]
      · simp [pOne, Lib.hasPrefix, List.isPrefixOf, refR, nameR]
      · simp [pOne, Lib.hasPrefix, List.isPrefixOf, refR, nameR]
      · simp [pOne, Lib.hasPrefix, List.isPrefixOf, refR, nameR]
      · simp [pOne, Lib.hasPrefix, List.isPrefixOf, refR, nameR]

theorem pUnf_eq (l : List UInt8) : pUnf l = unfL l := by
  by_cases hh : l.head? = some 38
  · cases l with
    | nil => cases hh
    | cons c b =>
      rw [List.head?_cons] at hh
      injection hh with hh
      subst hh
      have hn : (numR b).isSome = (Lib.hasPrefix (38 :: b) [38, 35] && decide (runN (baseOf ((38 :: b).drop 2)) (digsOf ((38 :: b).drop 2)) ≤ 7 ∧ runN (baseOf ((38 :: b).drop 2)) (digsOf ((38 :: b).drop 2)) = (digsOf ((38 :: b).drop 2)).length)) := by
        cases b with
        | nil => rfl
        | cons a b =>
          by_cases ha : a = 35
          · subst ha
            have e : Lib.hasPrefix (38 :: 35 :: b) [38, 35] = true := by rfl
            rw [e, Bool.true_and]
            show (numR (35 :: b)).isSome = decide (runN (baseOf b) (digsOf b) ≤ 7 ∧ runN (baseOf b) (digsOf b) = (digsOf b).length)
            unfold numR
            rw [List.tail_cons, List.head?_cons]
            by_cases hc : (digsOf b).length ≤ 7 ∧ (digsOf b).all (digB (baseOf b)) = true
            · rw [if_pos ⟨rfl, hc⟩]
              have := (runN_full _ _).2 hc.2
              rw [this]
              simp [hc.1]
            · rw [if_neg (fun h => hc h.2)]
              symm
              refine decide_eq_false fun h => hc ⟨by rw [← h.2]; exact h.1, (runN_full _ _).1 h.2⟩
          · have e : Lib.hasPrefix (38 :: a :: b) [38, 35] = false := by
              simp [Lib.hasPrefix, List.isPrefixOf]
              exact fun h => ha h.symm
            rw [e, Bool.false_and]
            unfold numR
            rw [if_neg (by simp [ha])]
            rfl
      show (decide ((38 :: b).head? = some 38) && (_ || _ || _ || _ || _ || _)) = (begName b || (numR b).isSome)
      rw [← hn]
      have hb : begName b = (Lib.hasPrefix [38, 97, 109, 112] (38 :: b) || Lib.hasPrefix [38, 108, 116] (38 :: b) || Lib.hasPrefix [38, 103, 116] (38 :: b) || Lib.hasPrefix [38, 113, 117, 111, 116] (38 :: b) || Lib.hasPrefix [38, 97, 112, 111, 115] (38 :: b)) := by
        unfold begName
        rw [Bool.eq_iff_iff]
        simp only [decide_eq_true_eq, Bool.or_eq_true, pre_iff, List.cons_prefix_cons, true_and, or_assoc]
      rw [hb]
      simp
  · have h1 : unfL l = false := by
      unfold unfL
      split
      · simp at hh
      · rfl
    rw [h1]
    unfold pUnf
    rw [decide_eq_false hh, Bool.false_and]
end Go.Proofs.Ytidfcajhmldieaa.Crf

/-
  Memory that the call itself made: a slice of octets and what it is as a text; worlds in which all older memory is unturned.
-/
namespace Go.Proofs.Ytidfcajhmldieaa.Mem
open Go.RowKit Go.Proofs.Ytidfcajhmldieaa.Oct

theorem info_u8 : (Try.prog.info? 5).map (fun i => (i.zero, i.size, i.bytes)) = some (some (.int .u8 0), 1, 1) := by kernel_rfl

/-- An octet's value. -/
abbrev bv (c : UInt8) : Value := .int .u8 (c.toNat : Int)

/-- 'string(b)' of a slice of the call's own that holds the octets l, nil or not. -/
theorem conv_own {w : World} {base n : Nat} {v : Value} {l : List UInt8} (h : w.ownsRow base 5 1 v n (l.map bv)) :
    (convert 39 9 v).run Try.prog w = .ok (.string (S l)) w := by
  have hn : l.length = n := by simpa using h.1
  rcases h.2 with ⟨rfl, hz⟩ | ⟨g, cap, cur, rfl, hg, hh, hnc, hcm, hcs, htk⟩
  · have hl : l = [] := List.eq_nil_of_length_eq_zero (by omega)
    subst hl
    exact Lib.run_convert_nil_bytes w _ _ 5 0 Try.underlying39 Try.underlying5 Try.underlying9
  · subst hn
    exact run_convert_bytes_back w _ _ 5 ⟨g, 0, none⟩ cap l Try.underlying39 Try.underlying5 Try.underlying9
      (fun j hj => by
        have h1 := h.cellAt j (by omega)
        rw [Addr.add_lit, Nat.zero_add, h1]
        simp [hj])

theorem own_base {w : World} {base n : Nat} {e : TypeId} {v : Value} {xs : List Value} (h : w.ownsRow base e 1 v n xs) : ∀ k, v.ownBlock = some k → base ≤ k := by
  intro k hk
  rcases h.2 with ⟨rfl, _⟩ | ⟨g, cap, cur, rfl, hg, _⟩
  · simp [Value.ownBlock] at hk
  · simp [Value.ownBlock] at hk; omega

/-- What lay in w lies as it lay. -/
abbrev Kept (w w' : World) : Prop := Below w.heap.size w w'
theorem kept_trans {a b c : World} (h : Kept a b) (k : Kept b c) : Kept a c := Below.trans h (k.mono h.size)
theorem kept_cell {w w' : World} (h : Kept w w') {p : Addr} {v : Value} (hc : w.cell? p = some v) : w'.cell? p = some v := by
  rw [h.cell (World.block_lt_of_cell? w p hc)]; exact hc

/-- A row of the call's own lies as it lay in a world in which nothing older has turned. -/
theorem own_kept {w w' : World} {base n size : Nat} {e : TypeId} {v : Value} {xs : List Value} (h : w.ownsRow base e size v n xs) (hb : Kept w w') : w'.ownsRow base e size v n xs := by
  refine h.kept (row := none) ⟨hb.os, hb.tape, hb.output, hb.size, fun k hk _ => hb.block k hk⟩ ?_
  rcases h.2 with ⟨rfl, _⟩ | ⟨g, cap, cur, rfl, _⟩
  · exact .inl rfl
  · exact .inr (by simp [Value.ownBlock])

theorem str_beq (a b : ByteArray) : (a.toList == b.toList) = decide (a = b) := by
  rw [Bool.eq_iff_iff]
  simp only [beq_iff_eq, decide_eq_true_eq]
  constructor
  · intro h; rw [ByteArray.toList_eq, ByteArray.toList_eq] at h; rw [← S_list a, ← S_list b, h]
  · intro h; rw [h]

theorem info_int : (Try.prog.info? 3).map (fun i => (i.zero, i.size, i.bytes)) = some (some (.int .i64 0), 1, 8) := by kernel_rfl
abbrev iv (c : Int) : Value := .int .i64 c
end Go.Proofs.Ytidfcajhmldieaa.Mem
