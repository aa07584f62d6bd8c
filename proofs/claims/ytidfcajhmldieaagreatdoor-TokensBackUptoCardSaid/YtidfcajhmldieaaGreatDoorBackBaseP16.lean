/-
  Part 16: TkcPlain2.
-/
import Derived.Test.YtidfcajhmldieaaGreatDoorBackBaseP7
import Derived.Lib.IndexMore
/-
  What the reader's plain machine does outside of tags, as the code of package tokens asks for it: data, what opens there, remarks, what is no markup, raw text.
-/
namespace Go.Proofs.YtidfcajhmldieaaGreatDoor.Tkc
open Go.Proofs.YtidfcajhmldieaaGreatDoor.Oct Go.Proofs.YtidfcajhmldieaaGreatDoor.Utf Go.Proofs.YtidfcajhmldieaaGreatDoor.Crf Go.Proofs.YtidfcajhmldieaaGreatDoor.Tab Go.Proofs.YtidfcajhmldieaaGreatDoor.Tok

/-- The octets from the place f up to the place k. -/
def cut (l : List UInt8) (f k : Nat) : List UInt8 := (l.take k).drop f
theorem cut_nil (l : List UInt8) (k : Nat) : cut l k k = [] := by
  unfold cut
  rw [List.drop_take, Nat.sub_self, List.take_zero]
theorem cut_succ {l : List UInt8} {f k : Nat} (hk : k < l.length) (hf : f ≤ k) : cut l f (k + 1) = cut l f k ++ [l[k]] := by
  unfold cut
  rw [List.take_succ_eq_append_getElem hk, List.drop_append_of_le_length (by rw [List.length_take]; omega)]
/-- A text that is told, if it is not empty. -/
def tx (x : List UInt8) : List Tk := if x = [] then [] else [txTk x]
theorem text_tx (d : Bool) (r : Rd) (x : List UInt8) (h : (if d then decL' r.tx else r.tx) = x) : (textR d r).out = r.out ++ tx x := by
  rw [text_out d r x h]
  unfold tx
  split <;> simp
theorem step_bogus (c : UInt8) (t : List UInt8) (r : Rd) (h0 : r.st = 13) : stepR c t r = bogusR c r := by
  unfold stepR outR
  rw [h0]
  rfl
/-- In data, from f on a text is on its way. -/
def DataMid (l : List UInt8) (f k : Nat) (out : List Tk) : Prop := ∃ r, tokL l = LL l k r ∧ r.st = 0 ∧ r.tx = cut l f k ∧ r.out = out
/-- At k something opens, of which the first octet was read. -/
def OpenAt (l : List UInt8) (k : Nat) (out : List Tk) : Prop := ∃ r, tokL l = LL l (k + 1) r ∧ r.st = 1 ∧ r.tx = [] ∧ r.out = out
def RawAt (l : List UInt8) (f k : Nat) (out : List Tk) (nm : List UInt8) (kd : Nat) : Prop := ∃ r, tokL l = LL l k r ∧ r.st = 15 ∧ r.tx = cut l f k ∧ r.out = out ∧ r.rw = nm ∧ r.kd = kd
theorem data_start (l : List UInt8) : DataMid l 0 0 [] := ⟨rd0, rfl, rfl, (cut_nil l 0).symm, rfl⟩
section
variable {l : List UInt8} {f k : Nat} {out : List Tk}
theorem data_at (h : DataMid l k k out) : ∃ r, tokL l = LL l k r ∧ r.st = 0 ∧ r.tx = [] ∧ r.out = out := by
  obtain ⟨r, e, s, x, o⟩ := h
  exact ⟨r, e, s, by rw [x, cut_nil], o⟩
theorem data_go (hk : k < l.length) (hf : f ≤ k) (ho : opens l[k] (l.drop (k + 1)) = false) (h : DataMid l f k out) : DataMid l f (k + 1) out := by
  obtain ⟨r, e, s, x, o⟩ := h
  refine ⟨addT l[k] r, e.trans (ll_step hk ?_), s, ?_, o⟩
  · rw [step_data _ _ _ s]
    unfold dataR
    rw [ho]
    rfl
  · show r.tx ++ [l[k]] = _
    rw [x, cut_succ hk hf]
theorem data_open (hk : k < l.length) (ho : opens l[k] (l.drop (k + 1)) = true) (h : DataMid l f k out) : OpenAt l k (out ++ tx (decL' (cut l f k))) := by
  obtain ⟨r, e, s, x, o⟩ := h
  refine ⟨goR 1 (textR true r), e.trans (ll_step hk ?_), rfl, (text_facts true r).2.1, ?_⟩
  · rw [step_data _ _ _ s]
    unfold dataR
    rw [ho]
    rfl
  · show (textR true r).out = _
    rw [text_tx true r (decL' (cut l f k)) (by rw [x]; rfl), o]
theorem data_end (hk : ¬ k < l.length) (h : DataMid l f k out) : tokL l = out ++ tx (decL' (cut l f k)) := by
  obtain ⟨r, e, s, x, o⟩ := h
  rw [e, ll_end hk]
  unfold lastR
  rw [if_pos s, text_tx true r (decL' (cut l f k)) (by rw [x]; rfl), o]
theorem data_len (h : OpenAt l k out) : out.length ≤ (tokL l).length := by
  obtain ⟨r, e, s, x, o⟩ := h
  rw [e, ← o]
  exact ll_out _ _ _
theorem mid_len (h : DataMid l f k out) : out.length ≤ (tokL l).length := by
  obtain ⟨r, e, s, x, o⟩ := h
  rw [e, ← o]
  exact ll_out _ _ _
theorem raw_len {nm : List UInt8} {kd : Nat} (h : RawAt l f k out nm kd) : out.length ≤ (tokL l).length := by
  obtain ⟨r, e, s, x, o, _⟩ := h
  rw [e, ← o]
  exact ll_out _ _ _
theorem data_none (h : tokL l = out) : DataMid l l.length l.length out := by
  refine ⟨{ rd0 with out := out }, ?_, rfl, (cut_nil l _).symm, rfl⟩
  rw [ll_end (by omega)]
  unfold lastR
  rw [if_pos rfl, text_tx true _ [] rfl]
  show _ = out ++ []
  rw [List.append_nil, h]
/-! ### Tags -/
theorem open_start (hk : k + 1 < l.length) (hb : letB l[k + 1] = true) (h : OpenAt l k out) : ∃ r, tokL l = LL l (k + 1) r ∧ r.st = 3 ∧ r.tg = ⟨1, [], [], [], false⟩ ∧ r.out = out ∧ r.tx = [] := by
  obtain ⟨r, e, s, x, o⟩ := h
  have hn : ∀ c : Fin 256, letB (UInt8.ofNat c.val) = true → UInt8.ofNat c.val ≠ 47 ∧ UInt8.ofNat c.val ≠ 33 ∧ UInt8.ofNat c.val ≠ 63 := by decide +kernel
  have hc := hn ⟨l[k + 1].toNat, l[k + 1].toNat_lt⟩
  simp only [UInt8.ofNat_toNat] at hc
  obtain ⟨h1, h2, h3⟩ := hc hb
  refine ⟨{ r with st := 3, tg := { noTk with k := 1 } }, e.trans (ll_step (n := 0) hk ?_), rfl, rfl, o, x⟩
  rw [step_open _ _ _ s]
  unfold openR
  rw [if_neg h1, if_neg h2, if_neg h3]
theorem open_slash (hk : k + 1 < l.length) (hc : l[k + 1] = 47) (h : OpenAt l k out) : ∃ r, tokL l = LL l (k + 2) r ∧ r.st = 2 ∧ r.out = out ∧ r.tx = [] := by
  obtain ⟨r, e, s, x, o⟩ := h
  refine ⟨goR 2 r, e.trans (ll_step (n := 1) hk ?_), rfl, o, x⟩
  rw [step_open _ _ _ s]
  unfold openR
  rw [if_pos hc]
theorem open_endTag (hk : k + 2 < l.length) (hc : l[k + 1] = 47) (hb : letB l[k + 2] = true) (h : OpenAt l k out) : ∃ r, tokL l = LL l (k + 2) r ∧ r.st = 3 ∧ r.tg = ⟨2, [], [], [], false⟩ ∧ r.out = out ∧ r.tx = [] := by
  obtain ⟨r, e, s, o, x⟩ := open_slash (by omega) hc h
  refine ⟨{ r with st := 3, tg := { noTk with k := 2 } }, e.trans (ll_step (n := 0) hk ?_), rfl, rfl, o, x⟩
  rw [step_endOpen _ _ _ s]
  unfold endOpenR
  rw [if_pos hb]
theorem end_start {r0 : Rd} {k1 : Nat} {n : List UInt8} {al : List At} {cl : Bool} (e0 : tokL l = LL l k1 r0) (ho : r0.out = out) (hx : r0.tx = []) (h : TagEnd l k1 r0 1 k n al cl) :
    if 1 ≤ elemN n ∧ elemN n ≤ 3 then RawAt l k k (out ++ [⟨1, n, [], al, cl⟩]) n (elemN n) else DataMid l k k (out ++ [⟨1, n, [], al, cl⟩]) := by
  obtain ⟨r, e, g, o, x⟩ := h
  have ht : toldT r.tg = ⟨1, n, [], al, cl⟩ := by
    rw [g]
    rfl
  have hr : rawK (toldT r.tg) = decide (1 ≤ elemN n ∧ elemN n ≤ 3) := by
    rw [ht]
    unfold rawK
    simp
  by_cases hw : 1 ≤ elemN n ∧ elemN n ≤ 3
  · rw [if_pos hw]
    have he : endR r = { r with out := r.out ++ [toldT r.tg], tg := noTk, st := 15, rw := (toldT r.tg).n, kd := elemN (toldT r.tg).n } := by
      unfold endR
      rw [hr, decide_eq_true hw]
      rfl
    refine ⟨endR r, e0.trans e, by rw [he], ?_, ?_, ?_, ?_⟩
    · rw [he, cut_nil]; show r.tx = []; rw [x, hx]
    · rw [he]; show r.out ++ [toldT r.tg] = _; rw [ht, o, ho]
    · rw [he]; show (toldT r.tg).n = n; rw [ht]
    · rw [he]; show elemN (toldT r.tg).n = _; rw [ht]
  · rw [if_neg hw]
    have he : endR r = { r with out := r.out ++ [toldT r.tg], tg := noTk, st := 0 } := by
      unfold endR
      rw [hr, decide_eq_false hw]
      rfl
    refine ⟨endR r, e0.trans e, by rw [he], ?_, ?_⟩
    · rw [he, cut_nil]; show r.tx = []; rw [x, hx]
    · rw [he]; show r.out ++ [toldT r.tg] = _; rw [ht, o, ho]
theorem end_end {r0 : Rd} {k1 : Nat} {n : List UInt8} {al : List At} {cl : Bool} (e0 : tokL l = LL l k1 r0) (ho : r0.out = out) (hx : r0.tx = []) (h : TagEnd l k1 r0 2 k n al cl) : DataMid l k k (out ++ [⟨2, n, [], [], false⟩]) := by
  obtain ⟨r, e, g, o, x⟩ := h
  have ht : toldT r.tg = ⟨2, n, [], [], false⟩ := by
    rw [g]
    rfl
  have he : endR r = { r with out := r.out ++ [toldT r.tg], tg := noTk, st := 0 } := by
    unfold endR
    rw [ht]
    rfl
  refine ⟨endR r, e0.trans e, by rw [he], ?_, ?_⟩
  · rw [he, cut_nil]; show r.tx = []; rw [x, hx]
  · rw [he]; show r.out ++ [toldT r.tg] = _; rw [ht, o, ho]
/-! ### Raw text -/
variable {nm : List UInt8} {kd : Nat}
def rawX (kd : Nat) (x : List UInt8) : List UInt8 := if (kd == 1) = true then decL' x else x
theorem raw_go (hk : k < l.length) (hf : f ≤ k) (hh : hits nm (l.drop k) = false) (h : RawAt l f k out nm kd) : RawAt l f (k + 1) out nm kd := by
  obtain ⟨r, e, s, x, o, w, d⟩ := h
  refine ⟨addT l[k] r, e.trans (ll_step hk ?_), s, ?_, o, w, d⟩
  · rw [step_raw _ _ _ s]
    unfold rawR
    rw [← List.drop_eq_getElem_cons hk, w, hh]
    rfl
  · show r.tx ++ [l[k]] = _
    rw [x, cut_succ hk hf]
theorem raw_end (hk : ¬ k < l.length) (h : RawAt l f k out nm kd) : tokL l = out ++ tx (rawX kd (cut l f k)) := by
  obtain ⟨r, e, s, x, o, w, d⟩ := h
  rw [e, ll_end hk]
  unfold lastR
  rw [if_neg (by omega), if_pos s, text_tx _ r (rawX kd (cut l f k)) (by rw [x, d]; rfl), o]
theorem letters_in : ∀ c : Fin 256, letB (low (UInt8.ofNat c.val)) = true → inNm (UInt8.ofNat c.val) = true ∧ letB (UInt8.ofNat c.val) = true := by decide +kernel
theorem letter_in {c : UInt8} (h : letB (low c) = true) : inNm c = true ∧ letB c = true := by
  have := letters_in ⟨c.toNat, c.toNat_lt⟩
  simp only [UInt8.ofNat_toNat] at this
  exact this h
theorem run_names (p : List UInt8) : ∀ (t : List UInt8) (r : Rd), r.st = 3 → (∀ c ∈ p, inNm c = true) → runR (p ++ t) r = runR t { r with tg := { r.tg with n := r.tg.n ++ p.map low } } := by
  induction p with
  | nil => intro t r _ _; simp
  | cons c p ih =>
    intro t r s h
    obtain ⟨c1, c2, c3⟩ := in_nm (h c (by simp))
    rw [List.cons_append, run_cons, step_name _ _ _ s]
    unfold tnameR again
    rw [c1, if_neg (by simp), if_neg c2, if_neg c3]
    show runR (p ++ t) ({ r with tg := { r.tg with n := r.tg.n ++ [low c] } } : Rd) = _
    rw [ih t ({ r with tg := { r.tg with n := r.tg.n ++ [low c] } } : Rd) s (fun d hd => h d (by simp [hd]))]
    simp
theorem raw_hit (hl : ∀ c ∈ nm, letB c = true ∧ low c = c) (hne : nm ≠ []) (hh : hits nm (l.drop k) = true) (h : RawAt l f k out nm kd) : DataMid l k k (out ++ tx (rawX kd (cut l f k))) := by
  obtain ⟨r, e, s, x, o, w, d⟩ := h
  have ho : (textR (r.kd == 1) r).out = out ++ tx (rawX kd (cut l f k)) := by rw [text_tx _ r (rawX kd (cut l f k)) (by rw [x, d]; rfl), o]
  have hx := (text_facts (r.kd == 1) r).2.1
  refine ⟨{ textR (r.kd == 1) r with st := 0 }, ?_, rfl, by rw [cut_nil]; exact hx, ho⟩
  rw [e]
  have hlow : nm.map low = nm := by
    conv => rhs; rw [← List.map_id nm]
    exact List.map_congr_left fun c hc => (hl c hc).2
  have hpre : (60 :: 47 :: nm) <+: (l.drop k).map low := by
    unfold hits at hh
    rw [Bool.and_eq_true] at hh
    have := List.isPrefixOf_iff_prefix.1 hh.1
    rw [List.map_cons, List.map_cons, hlow] at this
    exact this
  have hm : ∀ c : Fin 256, (low (UInt8.ofNat c.val) = 60 → UInt8.ofNat c.val = 60) ∧ (low (UInt8.ofNat c.val) = 47 → UInt8.ofNat c.val = 47) := by decide +kernel
  have hm2 : ∀ c : UInt8, (low c = 60 → c = 60) ∧ (low c = 47 → c = 47) := fun c => by
    have := hm ⟨c.toNat, c.toNat_lt⟩
    simp only [UInt8.ofNat_toNat] at this
    exact this
  obtain ⟨z, hz⟩ := hpre
  unfold LL
  match hd : l.drop k, hz with
  | [], hz => simp at hz
  | [_], hz => simp at hz
  | a :: b :: y, hz =>
    rw [List.map_cons, List.map_cons, List.cons_append, List.cons_append] at hz
    injection hz with h1 hz
    injection hz with h2 hz
    have ha := (hm2 a).1 h1.symm
    have hb := (hm2 b).2 h2.symm
    subst ha hb
    obtain ⟨p, q, rfl, hp, hq⟩ : ∃ p q, y = p ++ q ∧ p.map low = nm ∧ q.map low = z := by
      refine ⟨y.take nm.length, y.drop nm.length, (List.take_append_drop _ _).symm, ?_, ?_⟩
      · rw [List.map_take, ← hz, List.take_left]
      · rw [List.map_drop, ← hz, List.drop_left]
    have hpl : p.length = nm.length := by rw [← hp, List.length_map]
    have hin : ∀ c ∈ p, inNm c = true ∧ letB c = true := fun c hc => letter_in (by
      have : low c ∈ nm := by rw [← hp]; exact List.mem_map.2 ⟨c, hc, rfl⟩
      exact (hl _ this).1)
    congr 1
    -- the raw text's end, at once
    have e1 : runR (60 :: 47 :: (p ++ q)) r = runR q { textR (r.kd == 1) r with st := 3, tg := { noTk with k := 2, n := p.map low } } := by
      rw [run_cons, step_raw _ _ _ s]
      unfold rawR
      rw [w]
      rw [hd] at hh
      rw [hh, if_pos rfl]
      show runR ((60 :: 47 :: (p ++ q)).drop (2 + nm.length)) _ = _
      rw [Nat.add_comm 2, show nm.length + 2 = nm.length + 1 + 1 from rfl, List.drop_succ_cons, List.drop_succ_cons, ← hpl, List.drop_left]
      show runR q { textR (r.kd == 1) r with st := 3, tg := { noTk with k := 2, n := ((p ++ q).take p.length).map low } } = _
      rw [List.take_left]
    -- as in data
    obtain ⟨c, p', hc⟩ := List.exists_cons_of_ne_nil (show p ≠ [] by rintro rfl; exact hne (by rw [← hp]; rfl))
    have hlc : letB c = true := (hin c (by rw [hc]; simp)).2
    rw [e1]
    generalize textR (r.kd == 1) r = R at hx
    have e2 : runR (60 :: 47 :: (p ++ q)) ({ R with st := 0 } : Rd) = runR (47 :: (p ++ q)) ({ R with st := 1 } : Rd) := by
      rw [run_cons, step_data _ _ _ rfl]
      unfold dataR
      have hop : opens 60 (47 :: (p ++ q)) = true := by
        unfold opens
        rw [hc]
        rfl
      rw [hop]
      show runR (47 :: (p ++ q)) (goR 1 (textR true { R with st := 0 })) = _
      congr 1
      obtain ⟨ro, rs, rx, rg, ra, rq, rw', rd⟩ := R
      have hx' : rx = [] := hx
      subst hx'
      rfl
    have e3 : runR (47 :: (p ++ q)) ({ R with st := 1 } : Rd) = runR (p ++ q) ({ R with st := 2 } : Rd) := by
      rw [run_cons, step_open _ _ _ rfl]
      rfl
    have e4 : runR (p ++ q) ({ R with st := 2 } : Rd) = runR (p ++ q) ({ R with st := 3, tg := { noTk with k := 2 } } : Rd) := by
      conv => lhs; rw [hc, List.cons_append, run_cons, step_endOpen _ _ _ rfl]
      unfold endOpenR
      rw [if_pos hlc, hc]
      rfl
    rw [e2, e3, e4, run_names p q _ rfl (fun c hc => (hin c hc).1)]
    rfl
/-! ### Remarks, and what is no markup -/
theorem open_com (hd : [60, 33, 45, 45].isPrefixOf (l.drop k) = true) (h : OpenAt l k out) : ∃ r, tokL l = LL l (k + 4) r ∧ r.st = 14 ∧ r.tx = [] ∧ r.out = out := by
  obtain ⟨r, e, s, x, o⟩ := h
  have hp := List.isPrefixOf_iff_prefix.1 hd
  obtain ⟨z, hz⟩ := hp
  have d1 : l.drop (k + 1) = 33 :: 45 :: 45 :: z := by rw [← List.drop_drop, ← hz]; rfl
  have d4 : l.drop (k + 4) = z := by rw [← List.drop_drop, ← hz]; rfl
  refine ⟨goR 14 (goR 12 r), e.trans ?_, rfl, x, o⟩
  unfold LL
  rw [d1, d4, run_cons, step_open _ _ _ s]
  show lastR (runR (45 :: 45 :: z) (goR 12 r)) = _
  rw [run_cons, step_bang _ _ _ rfl]
  rfl
theorem com_cut {x : List UInt8} {i : Nat} (h1 : Lib.occAt x [45, 45, 62] i = true) (h2 : Lib.NoOcc x [45, 45, 62] i) (hi : i ≤ x.length) (r : Rd) (s : r.st = 14) (htx : r.tx = []) :
    runR x r = runR (x.drop (i + 3)) { r with out := r.out ++ [⟨4, [], x.take i, [], false⟩], tx := [], st := 0 } := by
  have e := run_comment (x.take i) (x.drop i) r s (fun j hj => by
    rw [List.take_append_drop]
    exact h2 j (by rw [List.length_take] at hj; omega))
  rw [List.take_append_drop] at e
  rw [e]
  unfold Lib.occAt at h1
  obtain ⟨z, hz⟩ := List.isPrefixOf_iff_prefix.1 h1
  have d3 : x.drop (i + 3) = z := by rw [← List.drop_drop, ← hz]; rfl
  rw [d3, ← hz]
  show runR (45 :: 45 :: 62 :: z) _ = _
  rw [run_cons, step_comment 45 (45 :: 62 :: z) ({ r with tx := r.tx ++ x.take i } : Rd) s]
  unfold commentR
  rw [if_pos (by rfl)]
  show runR z _ = _
  congr 1
  show ({ r with out := r.out ++ [⟨4, [], r.tx ++ x.take i, [], false⟩], tx := [], st := 0 } : Rd) = _
  rw [htx, List.nil_append]
/-- Where a remark's text ends, and where what follows begins. -/
theorem com_end (hd : [60, 33, 45, 45].isPrefixOf (l.drop k) = true) (h : OpenAt l k out) :
    DataMid l (l.length - (Lib.cut (l.drop (k + 4)) [45, 45, 62]).2.1.length) (l.length - (Lib.cut (l.drop (k + 4)) [45, 45, 62]).2.1.length) (out ++ [⟨4, [], (Lib.cut (l.drop (k + 4)) [45, 45, 62]).1, [], false⟩]) := by
  obtain ⟨r, e, s, x, o⟩ := open_com hd h
  unfold Lib.cut
  rcases Lib.index_spec (l.drop (k + 4)) [45, 45, 62] with ⟨hi, hno⟩ | ⟨i, hi, hle, hocc, hno⟩
  · rw [hi, if_neg (by decide)]
    show DataMid l (l.length - 0) (l.length - 0) (out ++ [⟨4, [], l.drop (k + 4), [], false⟩])
    rw [Nat.sub_zero]
    refine data_none ?_
    have e2 := run_comment (l.drop (k + 4)) [] r s (fun j hj => by rw [List.append_nil]; exact hno j (Nat.le_of_lt hj))
    rw [List.append_nil] at e2
    rw [e]
    unfold LL
    rw [e2, run_nil]
    unfold lastR
    rw [if_neg (by rw [s]; decide), if_neg (by rw [s]; decide), if_pos s]
    show r.out ++ [⟨4, [], r.tx ++ l.drop (k + 4), [], false⟩] = _
    rw [x, List.nil_append, o]
  · have hroom := Lib.index_room (l.drop (k + 4)) [45, 45, 62] (by rw [hi]; omega)
    rw [hi, if_pos (by omega)]
    rw [hi] at hroom
    rw [List.length_drop] at hroom
    have h3 : ([45, 45, 62] : List UInt8).length = 3 := rfl
    rw [h3] at hroom ⊢
    rw [Int.toNat_natCast]
    have hp : l.length - ((l.drop (k + 4)).drop (i + 3)).length = k + 4 + (i + 3) := by
      rw [List.length_drop, List.length_drop]
      omega
    show DataMid l (l.length - ((l.drop (k + 4)).drop (i + 3)).length) (l.length - ((l.drop (k + 4)).drop (i + 3)).length) (out ++ [⟨4, [], (l.drop (k + 4)).take i, [], false⟩])
    rw [hp]
    refine ⟨{ r with out := r.out ++ [⟨4, [], (l.drop (k + 4)).take i, [], false⟩], tx := [], st := 0 }, ?_, rfl, (cut_nil l _).symm, ?_⟩
    · rw [e]
      unfold LL
      rw [com_cut hocc hno hle r s x, List.drop_drop]
    · show r.out ++ _ = _
      rw [o]
theorem run_bogus (p : List UInt8) : ∀ (t : List UInt8) (r : Rd), r.st = 13 → (∀ c ∈ p, c ≠ 62) → runR (p ++ t) r = runR t r := by
  induction p with
  | nil => intro t r _ _; rfl
  | cons c p ih =>
    intro t r s h
    rw [List.cons_append, run_cons, step_bogus _ _ _ s]
    unfold bogusR
    rw [if_neg (h c (by simp))]
    exact ih t r s (fun d hd => h d (by simp [hd]))
/-- What begins as markup and is none, up to its end. -/
theorem bog_run (x : List UInt8) (r : Rd) (s : r.st = 13) (htx : r.tx = []) : ∃ r', lastR (runR x r) = lastR (runR (Lib.cut x [62]).2.1 r') ∧ r'.st = 0 ∧ r'.tx = [] ∧ r'.out = r.out := by
  have hne : ∀ (y : List UInt8) (n : Nat), (∀ j, j < n → Lib.occAt y [62] j = false) → ∀ c ∈ y.take n, c ≠ 62 := by
    intro y n hn c hc
    obtain ⟨j, hj, rfl⟩ := List.getElem_of_mem hc
    have hjn : j < n := by rw [List.length_take] at hj; omega
    have hjl : j < y.length := by rw [List.length_take] at hj; omega
    have := hn j hjn
    unfold Lib.occAt at this
    rw [List.drop_eq_getElem_cons hjl] at this
    rw [List.getElem_take]
    intro e
    rw [e] at this
    simp [List.isPrefixOf] at this
  unfold Lib.cut
  rcases Lib.index_spec x [62] with ⟨hi, hno⟩ | ⟨i, hi, hle, hocc, hno⟩
  · rw [hi, if_neg (by decide)]
    refine ⟨{ r with st := 0 }, ?_, rfl, htx, rfl⟩
    have e := run_bogus x [] r s (fun c hc => by
      have := hne x (x.length) (fun j hj => hno j (Nat.le_of_lt hj)) c (by rw [List.take_length]; exact hc)
      exact this)
    rw [List.append_nil] at e
    rw [e, run_nil, run_nil, last_tag (by omega)]
    unfold lastR
    rw [if_pos rfl, text_tx true _ [] (by show decL' r.tx = []; rw [htx]; rfl)]
    show _ = r.out ++ []
    rw [List.append_nil]
  · rw [hi, if_pos (by omega), Int.toNat_natCast]
    refine ⟨goR 0 r, ?_, rfl, htx, rfl⟩
    have e := run_bogus (x.take i) (x.drop i) r s (hne x i hno)
    rw [List.take_append_drop] at e
    rw [e]
    unfold Lib.occAt at hocc
    obtain ⟨z, hz⟩ := List.isPrefixOf_iff_prefix.1 hocc
    have d1 : x.drop (i + 1) = z := by rw [← List.drop_drop, ← hz]; rfl
    show _ = lastR (runR (x.drop (i + 1)) (goR 0 r))
    rw [d1, ← hz]
    show lastR (runR (62 :: z) r) = _
    rw [run_cons, step_bogus _ _ _ s]
    rfl
theorem cut_skip (a : UInt8) (x : List UInt8) (h : a ≠ 62) : (Lib.cut (a :: x) [62]).2.1 = (Lib.cut x [62]).2.1 := by
  unfold Lib.cut
  have hb : ([62] : List UInt8).isPrefixOf (a :: x) = false := by
    simp [List.isPrefixOf]
    exact fun e => h e.symm
  have hge := Lib.index_ge x [62]
  have e : Lib.index (a :: x) [62] = if Lib.index x [62] == -1 then -1 else Lib.index x [62] + 1 := by
    conv => lhs; unfold Lib.index
    rw [hb]
    rfl
  by_cases h1 : Lib.index x [62] = -1
  · rw [e, h1]; rfl
  · have e2 : Lib.index (a :: x) [62] = Lib.index x [62] + 1 := by rw [e, if_neg (by simpa using h1)]
    rw [e2, if_pos (by omega), if_pos (by omega)]
    have : (Lib.index x [62] + 1).toNat = (Lib.index x [62]).toNat + 1 := by omega
    show (a :: x).drop ((Lib.index x [62] + 1).toNat + 1) = x.drop ((Lib.index x [62]).toNat + 1)
    rw [this, List.drop_succ_cons]
theorem cut_le (x s : List UInt8) : (Lib.cut x s).2.1.length ≤ x.length ∧ (Lib.cut x s).2.1 = x.drop (x.length - (Lib.cut x s).2.1.length) := by
  unfold Lib.cut
  split
  · constructor
    · show (x.drop _).length ≤ _
      rw [List.length_drop]; omega
    · show x.drop ((Lib.index x s).toNat + s.length) = x.drop (x.length - (x.drop ((Lib.index x s).toNat + s.length)).length)
      rw [List.length_drop]
      by_cases h : (Lib.index x s).toNat + s.length ≤ x.length
      · congr 1
        omega
      · rw [List.drop_eq_nil_of_le (by omega), List.drop_eq_nil_of_le (by omega)]
  · refine ⟨Nat.zero_le _, ?_⟩
    show [] = x.drop (x.length - 0)
    rw [Nat.sub_zero, List.drop_length]
/-- A second octet behind which nothing else begins. -/
theorem bog_end (hk : k + 1 < l.length) (h0 : l[k] = 60) (hc : l[k + 1] = 33 ∧ [45, 45].isPrefixOf (l.drop (k + 2)) = false ∨ l[k + 1] = 63 ∨ (l[k + 1] = 47 ∧ ∃ h2 : k + 2 < l.length, letB l[k + 2] = false)) (h : OpenAt l k out) :
    DataMid l (l.length - (Lib.cut (l.drop k) [62]).2.1.length) (l.length - (Lib.cut (l.drop k) [62]).2.1.length) out := by
  have d0 : l.drop k = l[k] :: l[k + 1] :: l.drop (k + 2) := by rw [List.drop_eq_getElem_cons (by omega), List.drop_eq_getElem_cons hk]
  have hsk : (Lib.cut (l.drop k) [62]).2.1 = (Lib.cut (l.drop (k + 2)) [62]).2.1 := by
    rw [d0, cut_skip _ _ (by rw [h0]; decide), cut_skip]
    rcases hc with ⟨h, _⟩ | h | ⟨h, _⟩ <;> rw [h] <;> decide
  have fin : ∀ r, tokL l = LL l (k + 2) r → r.st = 13 → r.tx = [] → r.out = out → DataMid l (l.length - (Lib.cut (l.drop k) [62]).2.1.length) (l.length - (Lib.cut (l.drop k) [62]).2.1.length) out := by
    intro r e s x o
    rw [hsk]
    obtain ⟨r', e', s', x', o'⟩ := bog_run (l.drop (k + 2)) r s x
    obtain ⟨c1, c2⟩ := cut_le (l.drop (k + 2)) [62]
    rw [List.length_drop] at c1 c2
    refine ⟨r', ?_, s', by rw [x', cut_nil], by rw [o', o]⟩
    rw [e]
    unfold LL
    rw [e']
    generalize (Lib.cut (l.drop (k + 2)) [62]).2.1 = Z at c1 c2 ⊢
    rw [List.drop_drop, show k + 2 + (l.length - (k + 2) - Z.length) = l.length - Z.length by omega] at c2
    rw [← c2]
  rcases hc with ⟨hc, hn⟩ | hc | ⟨hc, h2, hb⟩
  · obtain ⟨r, e, s, x, o⟩ := h
    have e1 : tokL l = LL l (k + 2) (goR 12 r) := e.trans (ll_step (n := 1) hk (by
      rw [step_open _ _ _ s]
      unfold openR
      rw [if_neg (by rw [hc]; decide), if_pos hc]))
    by_cases h3 : k + 2 < l.length
    · refine fin (goR 13 (goR 12 r)) (e1.trans (ll_step (n := 0) h3 ?_)) rfl x o
      rw [step_bang _ _ _ rfl, ← List.drop_eq_getElem_cons h3]
      unfold bangR
      rw [hn]
      rfl
    · refine fin (goR 13 (goR 12 r)) ?_ rfl x o
      rw [e1, ll_end h3, ll_end h3, last_tag (by show 1 ≤ 12 ∧ 12 ≤ 13; omega), last_tag (by show 1 ≤ 13 ∧ 13 ≤ 13; omega)]
      rfl
  · obtain ⟨r, e, s, x, o⟩ := h
    refine fin (goR 13 r) (e.trans (ll_step (n := 1) hk ?_)) rfl x o
    rw [step_open _ _ _ s]
    unfold openR
    rw [if_neg (by rw [hc]; decide), if_neg (by rw [hc]; decide), if_pos hc]
  · obtain ⟨r, e, s, o, x⟩ := open_slash hk hc h
    by_cases h62 : l[k + 2] = 62
    · have e1 : tokL l = LL l (k + 3) (goR 0 r) := e.trans (ll_step (n := 1) h2 (by
        rw [step_endOpen _ _ _ s]
        unfold endOpenR
        rw [if_neg (by rw [hb]; simp), if_pos h62]))
      have hcut : (Lib.cut (l.drop k) [62]).2.1 = l.drop (k + 3) := by
        rw [hsk, List.drop_eq_getElem_cons h2, h62]
        unfold Lib.cut
        have hi : Lib.index (62 :: l.drop (k + 3)) [62] = 0 := by
          unfold Lib.index
          rw [if_pos (by simp [List.isPrefixOf])]
        rw [hi]
        rfl
      have hp : l.length - (Lib.cut (l.drop k) [62]).2.1.length = k + 3 := by
        rw [hcut, List.length_drop]
        omega
      rw [hp]
      exact ⟨goR 0 r, e1, rfl, by rw [cut_nil]; exact x, o⟩
    · refine fin (goR 13 r) (e.trans (ll_step (n := 0) h2 ?_)) rfl x o
      rw [step_endOpen _ _ _ s]
      unfold endOpenR
      rw [if_neg (by rw [hb]; simp), if_neg h62]
end
end Go.Proofs.YtidfcajhmldieaaGreatDoor.Tkc
