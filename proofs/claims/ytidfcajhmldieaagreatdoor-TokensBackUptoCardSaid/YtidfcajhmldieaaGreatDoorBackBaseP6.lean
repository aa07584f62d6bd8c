/-
  Part 6: TokPure3.
-/
import Derived.Test.YtidfcajhmldieaaGreatDoorBackBaseP5
/-
  Raw text ends at its own end tag; tokens that are written are read again.
-/
namespace Go.Proofs.YtidfcajhmldieaaGreatDoor.Tok
open Go.Proofs.YtidfcajhmldieaaGreatDoor.Oct Go.Proofs.YtidfcajhmldieaaGreatDoor.Utf Go.Proofs.YtidfcajhmldieaaGreatDoor.Crf Go.Proofs.YtidfcajhmldieaaGreatDoor.Tab

/-! ### Raw text -/
theorem raw_no (nm s : List UInt8) (hnm : ∀ c ∈ nm, c ≠ 60 ∧ low c = c) (h : ∀ i, i < s.length → (60 :: 47 :: nm).isPrefixOf ((s.drop i).map low) = false) :
    ∀ i, i < s.length → hits nm ((s ++ 60 :: 47 :: (nm ++ [62])).drop i) = false := by
  intro i hi
  have hP : (60 :: 47 :: nm).map low = 60 :: 47 :: nm := by
    have e : nm.map low = nm := by
      conv => rhs; rw [← List.map_id nm]
      exact List.map_congr_left fun c hc => (hnm c hc).2
    rw [List.map_cons, List.map_cons, e]
    rfl
  unfold hits
  rw [hP]
  cases hq : (60 :: 47 :: nm).isPrefixOf (((s ++ 60 :: 47 :: (nm ++ [62])).drop i).map low) with
  | false => rfl
  | true =>
    exfalso
    have h1 := List.isPrefixOf_iff_prefix.1 hq
    rw [List.drop_append_of_le_length (by omega), List.map_append] at h1
    have hn := h i hi
    have hu : (s.drop i).map low ≠ [] := by
      intro e
      have := congrArg List.length e
      rw [List.length_map, List.length_drop, List.length_nil] at this
      omega
    generalize (s.drop i).map low = u at h1 hn hu
    by_cases hl : (60 :: 47 :: nm).length ≤ u.length
    · have h2 := List.prefix_of_prefix_length_le h1 (List.prefix_append u _) hl
      rw [List.isPrefixOf_iff_prefix.2 h2] at hn
      cases hn
    · have h2 := List.prefix_of_prefix_length_le (List.prefix_append u _) h1 (by omega)
      obtain ⟨v, hv⟩ := h2
      rw [← hv] at h1
      have h3 := (List.prefix_append_right_inj u).1 h1
      have hv0 : v ≠ [] := by
        rintro rfl
        rw [List.append_nil] at hv
        rw [hv] at hl
        omega
      obtain ⟨d, w, rfl⟩ := List.exists_cons_of_ne_nil hv0
      obtain ⟨z, hz⟩ := h3
      rw [List.map_cons, List.cons_append] at hz
      injection hz with hd _
      obtain ⟨b, u', rfl⟩ := List.exists_cons_of_ne_nil hu
      rw [List.cons_append] at hv
      injection hv with _ hv2
      have hm : d ∈ (47 :: nm) := by rw [← hv2]; simp
      have hd60 : d = 60 := by rw [hd]; rfl
      rw [hd60] at hm
      rcases List.mem_cons.1 hm with hm | hm
      · exact absurd hm (by decide)
      · exact (hnm 60 hm).1 rfl
theorem run_rawtag (nm s : List UInt8) (kd n : Nat) (hnm : ∀ c ∈ nm, c ≠ 60 ∧ low c = c)
    (hpre : ∀ t, stepsN n (60 :: (nm ++ 62 :: t)) rd0 = (t, ⟨[⟨1, nm, [], [], false⟩], 15, [], noTk, noAt, 0, nm, kd⟩))
    (hend : ∀ r : Rd, r.st = 15 → r.rw = nm → runR (60 :: 47 :: (nm ++ [62])) r = { textR (r.kd == 1) r with out := (textR (r.kd == 1) r).out ++ [⟨2, nm, [], [], false⟩], st := 0, tg := noTk })
    (h : ∀ i, i < s.length → (60 :: 47 :: nm).isPrefixOf ((s.drop i).map low) = false) (x : List UInt8) (hx : (if (kd == 1) = true then decL' s else s) = x) :
    tokL (60 :: (nm ++ 62 :: (s ++ 60 :: 47 :: (nm ++ [62])))) = ⟨1, nm, [], [], false⟩ :: ((if x = [] then [] else [txTk x]) ++ [⟨2, nm, [], [], false⟩]) := by
  unfold tokL
  rw [run_to n (hpre _), run_raw s _ _ rfl (raw_no nm s hnm h), hend _ rfl rfl]
  unfold lastR
  rw [if_pos rfl, text_out true _ [] rfl, if_pos rfl]
  show (textR (kd == 1) _).out ++ _ = _
  rw [text_out (kd == 1) _ x (by show (if (kd == 1) = true then decL' ([] ++ s) else [] ++ s) = x; rw [List.nil_append]; exact hx)]
  split <;> rfl
theorem hit_own (nm r : List UInt8) (d : UInt8) (hd : d = 62) : hits nm (60 :: 47 :: (nm ++ d :: r)) = true := by
  unfold hits
  subst hd
  have h1 : ((60 :: 47 :: nm).map low).isPrefixOf ((60 :: 47 :: (nm ++ 62 :: r)).map low) = true := by
    rw [List.isPrefixOf_iff_prefix]
    exact ⟨(62 :: r).map low, by simp⟩
  rw [h1]
  have h2 : (60 :: 47 :: (nm ++ 62 :: r)).drop (2 + nm.length) = 62 :: r := by
    rw [Nat.add_comm 2, show nm.length + 2 = nm.length + 1 + 1 from rfl, List.drop_succ_cons, List.drop_succ_cons, List.drop_left]
  rw [h2]
  rfl
theorem run_rawend (nm : List UInt8) (hlow : nm.map low = nm) (r : Rd) (h0 : r.st = 15) (h1 : r.rw = nm) :
    runR (60 :: 47 :: (nm ++ [62])) r = { textR (r.kd == 1) r with out := (textR (r.kd == 1) r).out ++ [⟨2, nm, [], [], false⟩], st := 0, tg := noTk } := by
  have e : stepR 60 (47 :: (nm ++ [62])) r = ({ textR (r.kd == 1) r with st := 3, tg := { noTk with k := 2, n := nm } }, 2 + nm.length) := by
    rw [step_raw _ _ _ h0]
    unfold rawR
    rw [h1, hit_own nm [] 62 rfl, if_pos rfl]
    rw [show (60 :: 47 :: (nm ++ [62])).drop 2 = nm ++ [62] from rfl, List.take_left, hlow]
  rw [run_cons, e]
  have h2 : (60 :: 47 :: (nm ++ [62])).drop (2 + nm.length) = [62] := by
    rw [Nat.add_comm 2, show nm.length + 2 = nm.length + 1 + 1 from rfl, List.drop_succ_cons, List.drop_succ_cons, List.drop_left]
  rw [h2, run_cons, step_name _ _ _ rfl]
  show runR ([62].drop (again (tnameR 62 _)).2) (again (tnameR 62 _)).1 = _
  rw [show tnameR 62 ({ textR (r.kd == 1) r with st := 3, tg := { noTk with k := 2, n := nm } } : Rd) = (endR { textR (r.kd == 1) r with st := 3, tg := { noTk with k := 2, n := nm } }, false) from rfl]
  show runR [] (endR _) = _
  rw [run_nil]
  rfl
theorem tok_raw (i : Nat) (hi : i < 4) (s : List UInt8) (h : ∀ j, j < s.length → (60 :: 47 :: rawsL.getD i []).isPrefixOf ((s.drop j).map low) = false) (x : List UInt8) (hx : (if i < 2 then decL' s else s) = x) :
    tokL (60 :: (rawsL.getD i [] ++ 62 :: (s ++ 60 :: 47 :: (rawsL.getD i [] ++ [62])))) = ⟨1, rawsL.getD i [], [], [], false⟩ :: ((if x = [] then [] else [txTk x]) ++ [⟨2, rawsL.getD i [], [], [], false⟩]) := by
  rcases (by omega : i = 0 ∨ i = 1 ∨ i = 2 ∨ i = 3) with rfl | rfl | rfl | rfl
  · exact run_rawtag _ s 1 8 (by decide) (fun t => by kernel_rfl) (fun r h0 h1 => run_rawend _ (by decide) r h0 h1) h x hx
  · exact run_rawtag _ s 1 11 (by decide) (fun t => by kernel_rfl) (fun r h0 h1 => run_rawend _ (by decide) r h0 h1) h x hx
  · exact run_rawtag _ s 2 8 (by decide) (fun t => by kernel_rfl) (fun r h0 h1 => run_rawend _ (by decide) r h0 h1) h x hx
  · exact run_rawtag _ s 3 9 (by decide) (fun t => by kernel_rfl) (fun r h0 h1 => run_rawend _ (by decide) r h0 h1) h x hx

/-! ### What is written -/
def wordB (more : Bool) (s : List UInt8) : Bool := !s.isEmpty && s.all (fun c => smallI (c.toNat : Int) || digitI (c.toNat : Int) || (more && c == 45))
def okTag (t : Tk) : Bool :=
  wordB false t.n && !digitI ((t.n.headD 0).toNat : Int) && decide (t.n.length ≤ 32) && t.x.isEmpty && (decide (t.k = 1) || (!t.c && t.a.isEmpty)) && t.a.all (fun a => wordB true a.n && decide (rep a.v = a.v))
def hasEnd : List UInt8 → Bool
  | [] => false
  | c :: t => [45, 45, 62].isPrefixOf (c :: t) || hasEnd t
def okRest (t : Tk) : Bool := t.n.isEmpty && t.a.isEmpty && !t.c
def okText (t : Tk) : Bool := okRest t && !t.x.isEmpty && decide (rep t.x = t.x)
def okCom (t : Tk) : Bool := okRest t && (t.x.isEmpty || (!hasEnd t.x && decide (t.x.headD 0 ≠ 45 ∧ t.x.headD 0 ≠ 62 ∧ t.x.getLastD 0 ≠ 45)))
/-- May a token be: 0; else the error. -/
def checkT (t : Tk) : Nat :=
  if t.k < 1 ∨ 4 < t.k then 4 else if (if t.k < 3 then okTag t else if t.k = 3 then okText t else okCom t) = true then 0 else 9
def writeA (a : At) : List UInt8 := 32 :: (a.n ++ 61 :: 34 :: (escL (rep a.v) ++ [34]))
def writeT (t : Tk) : List UInt8 :=
  if t.k = 1 then 60 :: (t.n ++ (t.a.flatMap writeA ++ ((if t.c then [47] else []) ++ [62])))
  else if t.k = 2 then 60 :: 47 :: (t.n ++ [62])
  else if t.k = 3 then escL (rep t.x)
  else 60 :: 33 :: 45 :: 45 :: (t.x ++ [45, 45, 62])
theorem word_c {more : Bool} {s : List UInt8} (h : wordB more s = true) : ∀ c ∈ s, wordC c = true := by
  unfold wordB at h
  rw [Bool.and_eq_true] at h
  intro c hc
  have h1 := List.all_eq_true.1 h.2 c hc
  unfold wordC
  simp only [Bool.or_eq_true, Bool.and_eq_true] at h1 ⊢
  rcases h1 with h1 | h1
  · exact .inl h1
  · exact .inr h1.2
theorem word_ne {more : Bool} {s : List UInt8} (h : wordB more s = true) : s ≠ [] := by
  unfold wordB at h
  rw [Bool.and_eq_true] at h
  rintro rfl
  exact absurd h.1 (by decide)
theorem run_attr1 (a : At) (t : List UInt8) (r : Rd) (h0 : r.st = 3 ∨ r.st = 10) (hn : wordB true a.n = true) (hv : rep a.v = a.v) :
    ∃ r', runR (writeA a ++ t) r = runR t r' ∧ r'.st = 10 ∧ r'.tg = { r.tg with a := r.tg.a ++ [a] } ∧ r'.out = r.out ∧ r'.tx = r.tx := by
  obtain ⟨c, n', hc⟩ := List.exists_cons_of_ne_nil (word_ne hn)
  have hw := word_c hn
  obtain ⟨h1, h2, h3, h4, h5⟩ := word_facts c (hw c (by rw [hc]; simp))
  have e0 : runR (writeA a ++ t) r = runR (a.n ++ 61 :: 34 :: (escL a.v ++ 34 :: t)) (goR 4 r) := by
    have ew : writeA a ++ t = 32 :: (a.n ++ 61 :: 34 :: (escL a.v ++ 34 :: t)) := by
      unfold writeA
      rw [hv]
      simp
    rw [ew]
    rcases h0 with h0 | h0
    · rw [run_cons, step_name _ _ _ h0]
      rfl
    · rw [run_cons, step_behind _ _ _ h0]
      show runR (32 :: _) (goR 4 r) = _
      rw [run_cons, step_before _ _ _ rfl]
      rfl
  have e1 : runR (a.n ++ 61 :: 34 :: (escL a.v ++ 34 :: t)) (goR 4 r) = runR (61 :: 34 :: (escL a.v ++ 34 :: t)) { r with st := 5, av := ⟨a.n, []⟩ } := by
    rw [hc, List.cons_append, run_cons, step_before _ _ _ rfl]
    unfold beforeR again
    rw [h1, if_neg (by simp), if_neg h2, if_neg h3]
    show runR (n' ++ 61 :: 34 :: (escL a.v ++ 34 :: t)) _ = _
    rw [run_attr n' _ _ rfl (fun d hd => hw d (by rw [hc]; simp [hd])), h5]
    rfl
  have e2 : runR (61 :: 34 :: (escL a.v ++ 34 :: t)) ({ r with st := 5, av := ⟨a.n, []⟩ } : Rd) = runR (escL a.v ++ 34 :: t) { r with st := 8, av := ⟨a.n, []⟩, q := 34 } := by
    rw [run_cons, step_attr _ _ _ rfl]
    show runR (34 :: (escL a.v ++ 34 :: t)) ({ r with st := 7, av := ⟨a.n, []⟩ } : Rd) = _
    rw [run_cons, step_want _ _ _ rfl]
    rfl
  refine ⟨goR 10 (putR { r with st := 8, av := ⟨a.n, [] ++ escL a.v⟩, q := 34 }), ?_, rfl, ?_, rfl, rfl⟩
  · rw [e0, e1, e2]
    exact run_value (escL a.v) t { r with st := 8, av := ⟨a.n, []⟩, q := 34 } rfl (fun c hc => (esc_no a.v c hc).2)
  · unfold goR putR
    simp [dec_esc]
theorem run_attrs (al : List At) (t : List UInt8) (r : Rd) (h0 : r.st = 3 ∨ r.st = 10) (h : ∀ a ∈ al, wordB true a.n = true ∧ rep a.v = a.v) :
    ∃ r', runR (al.flatMap writeA ++ t) r = runR t r' ∧ (r'.st = 3 ∨ r'.st = 10) ∧ r'.tg = { r.tg with a := r.tg.a ++ al } ∧ r'.out = r.out ∧ r'.tx = r.tx := by
  induction al generalizing r with
  | nil => exact ⟨r, rfl, h0, by simp, rfl, rfl⟩
  | cons a al ih =>
    have ha := h a (by simp)
    obtain ⟨r1, e1, s1, g1, o1, x1⟩ := run_attr1 a (al.flatMap writeA ++ t) r h0 ha.1 ha.2
    obtain ⟨r2, e2, s2, g2, o2, x2⟩ := ih r1 (.inr s1) (fun b hb => h b (by simp [hb]))
    refine ⟨r2, ?_, s2, ?_, by rw [o2, o1], by rw [x2, x1]⟩
    · rw [List.flatMap_cons, List.append_assoc, e1, e2]
    · rw [g2, g1]
      simp
theorem run_close (cl : Bool) (t : List UInt8) (r : Rd) (h0 : r.st = 3 ∨ r.st = 10) :
    ∃ s, runR ((if cl then [47] else []) ++ 62 :: t) r = runR t (endR { r with st := s, tg := { r.tg with c := (cl || r.tg.c) } }) := by
  have h4 : ∀ r : Rd, r.st = 3 ∨ r.st = 4 → ∃ s, runR ((if cl then [47] else []) ++ 62 :: t) r = runR t (endR { r with st := s, tg := { r.tg with c := (cl || r.tg.c) } }) := by
    intro r h0
    cases cl with
    | false =>
      refine ⟨r.st, ?_⟩
      show runR (62 :: t) r = _
      rcases h0 with h0 | h0
      · rw [run_cons, step_name _ _ _ h0]
        rfl
      · rw [run_cons, step_before _ _ _ h0]
        rfl
    | true =>
      refine ⟨11, ?_⟩
      show runR (47 :: 62 :: t) r = _
      rcases h0 with h0 | h0
      · rw [run_cons, step_name _ _ _ h0]
        show runR (62 :: t) (goR 11 r) = _
        rw [run_cons, step_slash _ _ _ rfl]
        rfl
      · rw [run_cons, step_before _ _ _ h0]
        show runR (62 :: t) (goR 11 r) = _
        rw [run_cons, step_slash _ _ _ rfl]
        rfl
  rcases h0 with h0 | h0
  · exact h4 r (.inl h0)
  · obtain ⟨s, hs⟩ := h4 (goR 4 r) (.inr rfl)
    refine ⟨s, ?_⟩
    have e : runR ((if cl then [47] else []) ++ 62 :: t) r = runR ((if cl then [47] else []) ++ 62 :: t) (goR 4 r) := by
      cases cl with
      | false => show runR (62 :: t) r = _; rw [run_cons, step_behind _ _ _ h0]; rfl
      | true => show runR (47 :: 62 :: t) r = _; rw [run_cons, step_behind _ _ _ h0]; rfl
    rw [e, hs]
    rfl
theorem small_letter (c : UInt8) (h : wordC c = true) (h2 : digitI (c.toNat : Int) = false) (h3 : c ≠ 45) : letB c = true ∧ c ≠ 47 ∧ c ≠ 33 ∧ c ≠ 63 := by
  have h1 : ∀ x : Fin 256, wordC (UInt8.ofNat x.val) = true → digitI ((UInt8.ofNat x.val).toNat : Int) = false → UInt8.ofNat x.val ≠ 45 → letB (UInt8.ofNat x.val) = true ∧ UInt8.ofNat x.val ≠ 47 ∧ UInt8.ofNat x.val ≠ 33 ∧ UInt8.ofNat x.val ≠ 63 := by decide +kernel
  have h4 := h1 ⟨c.toNat, c.toNat_lt⟩
  simp only [UInt8.ofNat_toNat] at h4
  exact h4 h h2 h3
theorem tag_head {t : Tk} (h : okTag t = true) : wordB false t.n = true ∧ ∃ c n', t.n = c :: n' ∧ letB c = true ∧ c ≠ 47 ∧ c ≠ 33 ∧ c ≠ 63 := by
  unfold okTag at h
  simp only [Bool.and_eq_true] at h
  have hn := h.1.1.1.1.1
  have hd := h.1.1.1.1.2
  obtain ⟨c, n', hc⟩ := List.exists_cons_of_ne_nil (word_ne hn)
  rw [hc] at hd
  have hw := word_c hn c (by rw [hc]; simp)
  refine ⟨hn, c, n', hc, small_letter c hw (by simpa using hd) ?_⟩
  rintro rfl
  unfold wordB at hn
  rw [Bool.and_eq_true] at hn
  have := List.all_eq_true.1 hn.2 45 (by rw [hc]; simp)
  exact absurd this (by decide)
theorem run_start (t : Tk) (u : List UInt8) (r : Rd) (h0 : r.st = 0) (hk : t.k = 1) (ho : okTag t = true) (hr : ¬ (1 ≤ elemN t.n ∧ elemN t.n ≤ 3)) :
    ∃ r', runR (writeT t ++ u) r = runR u r' ∧ r'.st = 0 ∧ r'.tx = [] ∧ r'.out = (textR true r).out ++ [t] := by
  obtain ⟨hn, c, n', hc, hl, c1, c2, c3⟩ := tag_head ho
  have hw := word_c hn
  have e0 : writeT t ++ u = 60 :: (t.n ++ (t.a.flatMap writeA ++ ((if t.c then [47] else []) ++ 62 :: u))) := by
    unfold writeT
    rw [if_pos hk]
    simp
  have e1 : runR (writeT t ++ u) r = runR (t.n ++ (t.a.flatMap writeA ++ ((if t.c then [47] else []) ++ 62 :: u))) (goR 1 (textR true r)) := by
    rw [e0, run_cons, step_data _ _ _ h0]
    unfold dataR
    have : opens 60 (t.n ++ (t.a.flatMap writeA ++ ((if t.c then [47] else []) ++ 62 :: u))) = true := by
      rw [hc, List.cons_append]
      unfold opens
      simp [hl]
    rw [this]
    rfl
  have e2 : runR (t.n ++ (t.a.flatMap writeA ++ ((if t.c then [47] else []) ++ 62 :: u))) (goR 1 (textR true r)) = runR (t.n ++ (t.a.flatMap writeA ++ ((if t.c then [47] else []) ++ 62 :: u))) { textR true r with st := 3, tg := { noTk with k := 1 } } := by
    conv => lhs; rw [hc, List.cons_append, run_cons, step_open _ _ _ rfl]
    unfold openR
    rw [if_neg c1, if_neg c2, if_neg c3, hc]
    rfl
  have e3 := run_name t.n (t.a.flatMap writeA ++ ((if t.c then [47] else []) ++ 62 :: u)) { textR true r with st := 3, tg := { noTk with k := 1 } } rfl hw
  have hx := (text_facts true r).2.1
  unfold okTag at ho
  simp only [Bool.and_eq_true] at ho
  have ha : ∀ a ∈ t.a, wordB true a.n = true ∧ rep a.v = a.v := fun a ha => by
    have := List.all_eq_true.1 ho.2 a ha
    rw [Bool.and_eq_true] at this
    exact ⟨this.1, of_decide_eq_true this.2⟩
  obtain ⟨r4, e4, s4, g4, o4, x4⟩ := run_attrs t.a ((if t.c then [47] else []) ++ 62 :: u) { textR true r with st := 3, tg := { noTk with k := 1, n := [] ++ t.n } } (.inl rfl) ha
  obtain ⟨s, e5⟩ := run_close t.c u r4 s4
  have ht : ({ r4.tg with c := (t.c || r4.tg.c) } : Tk) = t := by
    rw [g4]
    obtain ⟨k, n, x, a, c⟩ := t
    simp only at hk ho ⊢
    have hx0 : x = [] := by simpa using ho.1.1.2
    subst hk hx0
    simp
  refine ⟨_, by rw [e1, e2, e3, e4, e5], ?_⟩
  rw [ht]
  have hnr : rawK (toldT t) = false := by
    unfold rawK toldT
    rw [if_neg (by rw [hk]; decide)]
    exact decide_eq_false fun h => hr h.2
  unfold endR
  rw [show ({ r4 with st := s, tg := t } : Rd).tg = t from rfl, hnr]
  refine ⟨rfl, by show r4.tx = []; rw [x4]; exact hx, ?_⟩
  show r4.out ++ [toldT t] = _
  rw [o4]
  unfold toldT
  rw [if_neg (by rw [hk]; decide)]
theorem run_endtag (t : Tk) (u : List UInt8) (r : Rd) (h0 : r.st = 0) (hk : t.k = 2) (ho : okTag t = true) :
    ∃ r', runR (writeT t ++ u) r = runR u r' ∧ r'.st = 0 ∧ r'.tx = [] ∧ r'.out = (textR true r).out ++ [t] := by
  obtain ⟨hn, c, n', hc, hl, c1, c2, c3⟩ := tag_head ho
  have hw := word_c hn
  have e0 : writeT t ++ u = 60 :: 47 :: (t.n ++ 62 :: u) := by
    unfold writeT
    rw [if_neg (by rw [hk]; decide), if_pos hk]
    simp
  have e1 : runR (writeT t ++ u) r = runR (t.n ++ 62 :: u) (goR 2 (textR true r)) := by
    rw [e0, run_cons, step_data _ _ _ h0]
    unfold dataR
    have : opens 60 (47 :: (t.n ++ 62 :: u)) = true := by
      rw [hc, List.cons_append]
      rfl
    rw [this]
    show runR (47 :: _) (goR 1 (textR true r)) = _
    rw [run_cons, step_open _ _ _ rfl]
    rfl
  have e2 : runR (t.n ++ 62 :: u) (goR 2 (textR true r)) = runR (t.n ++ 62 :: u) { textR true r with st := 3, tg := { noTk with k := 2 } } := by
    conv => lhs; rw [hc, List.cons_append, run_cons, step_endOpen _ _ _ rfl]
    unfold endOpenR
    rw [if_pos hl, hc]
    rfl
  have e3 := run_name t.n (62 :: u) { textR true r with st := 3, tg := { noTk with k := 2 } } rfl hw
  have hx := (text_facts true r).2.1
  refine ⟨endR { textR true r with st := 3, tg := { noTk with k := 2, n := [] ++ t.n } }, ?_, rfl, hx, ?_⟩
  · rw [e1, e2, e3, run_cons, step_name _ _ _ rfl]
    rfl
  · show (textR true r).out ++ [⟨2, [] ++ t.n, [], [], false⟩] = _
    congr 2
    unfold okTag at ho
    simp only [Bool.and_eq_true] at ho
    obtain ⟨k, n, x, a, c⟩ := t
    simp only at hk ho ⊢
    have hx0 : x = [] := by simpa using ho.1.1.2
    have ho2 := ho.1.2
    rw [decide_eq_false (by rw [hk]; decide)] at ho2
    simp at ho2
    rw [hk, hx0, ho2.1, ho2.2]
    rfl
theorem run_text1 (t : Tk) (u : List UInt8) (r : Rd) (h0 : r.st = 0) (hx : r.tx = []) (hk : t.k = 3) (ho : okText t = true) :
    ∃ r', runR (writeT t ++ u) r = runR u r' ∧ r'.st = 0 ∧ (textR true r').out = r.out ++ [t] ∧ (textR true r).out = r.out := by
  unfold okText okRest at ho
  simp only [Bool.and_eq_true] at ho
  have hrep : rep t.x = t.x := of_decide_eq_true ho.2
  have hne : t.x ≠ [] := by
    intro e
    have := ho.1.2
    rw [e] at this
    exact absurd this (by decide)
  have e0 : writeT t = escL t.x := by
    unfold writeT
    rw [if_neg (by rw [hk]; decide), if_neg (by rw [hk]; decide), if_pos hk, hrep]
  have ht : txTk t.x = t := by
    obtain ⟨k, n, x, a, c⟩ := t
    simp only at hk ho ⊢
    have h1 := ho.1.1.1.1
    have h2 := ho.1.1.1.2
    have h3 := ho.1.1.2
    simp at h1 h2 h3
    rw [hk, h1, h2, h3]
  refine ⟨{ r with tx := r.tx ++ escL t.x }, ?_, h0, ?_, ?_⟩
  · rw [e0]
    exact run_text (escL t.x) u r h0 (fun c hc => (esc_no t.x c hc).1)
  · rw [text_out true _ t.x (by show decL' (r.tx ++ escL t.x) = t.x; rw [hx, List.nil_append, dec_esc]), if_neg hne, ht]
  · rw [text_out true _ [] (by rw [hx]; rfl), if_pos rfl]
/-- A remark's end comes first where it is written. -/
theorem com_no (x t : List UInt8) (h : hasEnd x = false) (hl : x.getLastD 0 ≠ 45) : ∀ i, i < x.length → [45, 45, 62].isPrefixOf ((x ++ 45 :: 45 :: 62 :: t).drop i) = false := by
  induction x with
  | nil => intro i hi; simp at hi
  | cons c x ih =>
    unfold hasEnd at h
    rw [Bool.or_eq_false_iff] at h
    intro i hi
    cases i with
    | succ i =>
      rw [List.cons_append, List.drop_succ_cons]
      have hx : x ≠ [] := by rintro rfl; simp at hi
      refine ih h.2 ?_ i (by simpa using hi)
      obtain ⟨d, y, rfl⟩ := List.exists_cons_of_ne_nil hx
      simpa using hl
    | zero =>
      rw [List.drop_zero]
      match x, h, hl with
      | [], h, hl =>
        have : c ≠ 45 := by simpa using hl
        simp [List.isPrefixOf]
      | [d], h, hl =>
        have : d ≠ 45 := by simpa using hl
        simp [List.isPrefixOf]
      | d :: e :: y, h, hl =>
        have h1 := h.1
        simp only [List.isPrefixOf, List.cons_append] at h1 ⊢
        exact h1
theorem run_com (t : Tk) (u : List UInt8) (r : Rd) (h0 : r.st = 0) (hk : t.k = 4) (ho : okCom t = true) :
    ∃ r', runR (writeT t ++ u) r = runR u r' ∧ r'.st = 0 ∧ r'.tx = [] ∧ r'.out = (textR true r).out ++ [t] := by
  have hx := (text_facts true r).2.1
  have e0 : writeT t ++ u = 60 :: 33 :: 45 :: 45 :: (t.x ++ 45 :: 45 :: 62 :: u) := by
    unfold writeT
    rw [if_neg (by rw [hk]; decide), if_neg (by rw [hk]; decide), if_neg (by rw [hk]; decide)]
    simp
  have e1 : runR (writeT t ++ u) r = runR (t.x ++ 45 :: 45 :: 62 :: u) (goR 14 (textR true r)) := by
    rw [e0, run_cons, step_data _ _ _ h0]
    show runR (33 :: _) (goR 1 (textR true r)) = _
    rw [run_cons, step_open _ _ _ rfl]
    show runR (45 :: 45 :: _) (goR 12 (textR true r)) = _
    rw [run_cons, step_bang _ _ _ rfl]
    rfl
  unfold okCom okRest at ho
  simp only [Bool.and_eq_true] at ho
  have ht : (⟨4, [], t.x, [], false⟩ : Tk) = t := by
    obtain ⟨k, n, x, a, c⟩ := t
    simp only at hk ho ⊢
    have h1 := ho.1.1.1
    have h2 := ho.1.1.2
    have h3 := ho.1.2
    simp at h1 h2 h3
    rw [hk, h1, h2, h3]
  have hno : ∀ i, i < t.x.length → [45, 45, 62].isPrefixOf ((t.x ++ 45 :: 45 :: 62 :: u).drop i) = false := by
    have h2 := ho.2
    rw [Bool.or_eq_true] at h2
    rcases h2 with h2 | h2
    · intro i hi
      rw [List.isEmpty_iff.1 h2] at hi
      simp at hi
    · rw [Bool.and_eq_true] at h2
      exact com_no t.x u (by simpa using h2.1) (of_decide_eq_true h2.2).2.2
  have e2 := run_comment t.x (45 :: 45 :: 62 :: u) (goR 14 (textR true r)) rfl hno
  refine ⟨{ textR true r with out := (textR true r).out ++ [t], tx := [], st := 0 }, ?_, rfl, rfl, rfl⟩
  rw [e1, e2, run_cons, step_comment _ _ _ rfl]
  unfold commentR
  rw [if_pos (by rfl)]
  show runR u _ = _
  congr 1
  show ({ textR true r with out := (textR true r).out ++ [⟨4, [], (textR true r).tx ++ t.x, [], false⟩], tx := [], st := 0 } : Rd) = _
  rw [hx, List.nil_append, ht]
/-- May a list be written: no text right behind a text, no raw text's tag. -/
def mayL : List Tk → Bool
  | [] => true
  | t :: l => !(decide (t.k = 1 ∧ 1 ≤ elemN t.n ∧ elemN t.n ≤ 3)) && !(decide (t.k = 3) && (match l with | [] => false | u :: _ => decide (u.k = 3))) && mayL l
theorem check_cases {t : Tk} (h : checkT t = 0) : (t.k = 1 ∧ okTag t = true) ∨ (t.k = 2 ∧ okTag t = true) ∨ (t.k = 3 ∧ okText t = true) ∨ (t.k = 4 ∧ okCom t = true) := by
  unfold checkT at h
  by_cases h1 : t.k < 1 ∨ 4 < t.k
  · rw [if_pos h1] at h; exact absurd h (by decide)
  · rw [if_neg h1] at h
    have h2 : (if t.k < 3 then okTag t else if t.k = 3 then okText t else okCom t) = true := by
      by_cases hq : (if t.k < 3 then okTag t else if t.k = 3 then okText t else okCom t) = true
      · exact hq
      · rw [if_neg hq] at h; exact absurd h (by decide)
    by_cases h3 : t.k < 3
    · rw [if_pos h3] at h2
      rcases (by omega : t.k = 1 ∨ t.k = 2) with h | h
      · exact .inl ⟨h, h2⟩
      · exact .inr (.inl ⟨h, h2⟩)
    · rw [if_neg h3] at h2
      by_cases h4 : t.k = 3
      · rw [if_pos h4] at h2
        exact .inr (.inr (.inl ⟨h4, h2⟩))
      · rw [if_neg h4] at h2
        exact .inr (.inr (.inr ⟨by omega, h2⟩))
theorem run_write (l : List Tk) : ∀ (r : Rd), r.st = 0 → (r.tx ≠ [] → ∀ t u, l = t :: u → t.k ≠ 3) → (∀ t ∈ l, checkT t = 0) → mayL l = true →
    lastR (runR (l.flatMap writeT) r) = (textR true r).out ++ l := by
  induction l with
  | nil =>
    intro r h0 _ _ _
    show lastR (runR [] r) = _
    rw [run_nil, List.append_nil]
    unfold lastR
    rw [if_pos h0]
  | cons t l ih =>
    intro r h0 hx hc hm
    unfold mayL at hm
    simp only [Bool.and_eq_true] at hm
    have hc1 := hc t (by simp)
    have hc2 : ∀ u ∈ l, checkT u = 0 := fun u hu => hc u (by simp [hu])
    have hm1 : ¬ (t.k = 1 ∧ 1 ≤ elemN t.n ∧ elemN t.n ≤ 3) := by
      intro hq
      have := hm.1.1
      rw [decide_eq_true hq] at this
      exact absurd this (by decide)
    rw [List.flatMap_cons]
    have hdone : ∀ r' : Rd, runR (writeT t ++ l.flatMap writeT) r = runR (l.flatMap writeT) r' → r'.st = 0 → r'.tx = [] → r'.out = (textR true r).out ++ [t] → lastR (runR (writeT t ++ l.flatMap writeT) r) = (textR true r).out ++ t :: l := fun r' e s x o => by
      rw [e, ih r' s (fun h => absurd x h) hc2 hm.2, text_out true r' [] (by rw [x]; rfl), if_pos rfl, o]
      simp
    rcases check_cases hc1 with ⟨hk, ho⟩ | ⟨hk, ho⟩ | ⟨hk, ho⟩ | ⟨hk, ho⟩
    · obtain ⟨r', e, s, x, o⟩ := run_start t (l.flatMap writeT) r h0 hk ho (fun h => hm1 ⟨hk, h⟩)
      exact hdone r' e s x o
    · obtain ⟨r', e, s, x, o⟩ := run_endtag t (l.flatMap writeT) r h0 hk ho
      exact hdone r' e s x o
    · have hx0 : r.tx = [] := by
        cases hq : r.tx with
        | nil => rfl
        | cons c y => exact absurd hk (hx (by rw [hq]; simp) t l rfl)
      obtain ⟨r', e, s, o, o2⟩ := run_text1 t (l.flatMap writeT) r h0 hx0 hk ho
      rw [e, ih r' s (fun _ u v hu => by
        have := hm.1.2
        rw [hu, decide_eq_true hk] at this
        simpa using this) hc2 hm.2, o, o2]
      simp
    · obtain ⟨r', e, s, x, o⟩ := run_com t (l.flatMap writeT) r h0 hk ho
      exact hdone r' e s x o
/-- Tokens that are written are read again. -/
theorem tok_write (l : List Tk) (hc : ∀ t ∈ l, checkT t = 0) (hm : mayL l = true) : tokL (l.flatMap writeT) = l := by
  have h := run_write l rd0 rfl (fun h => absurd rfl h) hc hm
  unfold tokL
  rw [h, text_out true rd0 [] rfl, if_pos rfl]
  rfl
end Go.Proofs.YtidfcajhmldieaaGreatDoor.Tok
