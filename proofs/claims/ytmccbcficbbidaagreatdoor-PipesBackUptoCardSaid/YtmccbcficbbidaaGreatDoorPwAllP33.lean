/-
  Part 33: PwSize, PwLawB, PwLawO.
-/
import Derived.Test.YtmccbcficbbidaaGreatDoorPwAllP32
import Derived.Test.YtmccbcficbbidaaGreatDoorPwAllP30
/-
  How many octets Print tells, with no program.
-/
namespace Go.Proofs.YtmccbcficbbidaaGreatDoor.Pw
open Go.RowKit Go.Proofs.YtmccbcficbbidaaGreatDoor.Oct Go.Proofs.YtmccbcficbbidaaGreatDoor.Num Go.Proofs.YtmccbcficbbidaaGreatDoor.Lex Go.Proofs.YtmccbcficbbidaaGreatDoor.Pip

theorem path_sum (ns : List (List UInt8)) : (pathL ns).length = (ns.map fun n => n.length + 1).sum := by
  induction ns with
  | nil => rfl
  | cons n t ih => rw [path_cons, List.length_cons, List.length_append, ih, List.map_cons, List.sum_cons]; omega
theorem path_lens (ns : List (List UInt8)) : ns.length ≤ (pathL ns).length := by
  rw [path_sum]
  induction ns with
  | nil => simp
  | cons n t ih => rw [List.map_cons, List.sum_cons, List.length_cons]; omega
theorem printL_len {n : Int} (h0 : -9223372036854775808 ≤ n) (h1 : n ≤ 9223372036854775807) : (printL n).length ≤ 20 := by
  have h : (decL n.natAbs).length ≤ 19 := by
    rw [decL_len]
    exact lowL_len (by omega)
  unfold printL
  split
  · rw [List.length_cons]; omega
  · omega
/-- A bound of an argument's word, of what is put of a call, and of a pipeline. -/
def szA (a : Ar) : Nat := (pathL a.p).length + a.n.length + 2 * a.x.length + 21
def szCa (c : Ca) : Nat := c.n.length + 3 + (c.as.map fun a => szA a + 1).sum
def szP (cs : List Ca) : Nat := (cs.map szCa).sum
theorem wordG_len {a : Ar} (h0 : -9223372036854775808 ≤ a.i) (h1 : a.i ≤ 9223372036854775807) : (wordG a).length ≤ szA a := by
  have h2 := printL_len h0 h1
  have h3 : (quoteQ a.x).length ≤ 2 * a.x.length + 2 := by
    have := Lxw.inQ_len a.x
    unfold quoteQ
    rw [List.length_cons, List.length_append, List.length_singleton]
    omega
  unfold wordG szA
  split
  · split
    · simp
    · omega
  · split
    · rw [List.length_cons, List.length_append]; omega
    · split
      · omega
      · split
        · omega
        · split
          · simp
          · split
            · simp
            · split
              · simp
              · simp
theorem puts_len (l : List (List UInt8)) : ∀ o, (l.foldl putS o).length ≤ o.length + (l.map fun x => x.length + 1).sum := by
  induction l with
  | nil => intro o; simp
  | cons t l ih =>
    intro o
    have h1 := ih (putS o t)
    have h2 := put_ge o t
    rw [List.foldl_cons, List.map_cons, List.sum_cons]
    omega
theorem sum_mono {α : Type} (f g : α → Nat) (l : List α) (h : ∀ a ∈ l, f a ≤ g a) : (l.map f).sum ≤ (l.map g).sum := by
  induction l with
  | nil => simp
  | cons a l ih =>
    rw [List.map_cons, List.map_cons, List.sum_cons, List.sum_cons]
    have h1 := h a (by simp)
    have h2 := ih fun b hb => h b (by simp [hb])
    omega
theorem le_sum {α : Type} (f : α → Nat) (l : List α) : ∀ a ∈ l, f a ≤ (l.map f).sum := by
  induction l with
  | nil => intro a ha; nomatch ha
  | cons b l ih =>
    intro a ha
    rw [List.map_cons, List.sum_cons]
    rcases List.mem_cons.1 ha with rfl | h
    · omega
    · have := ih a h; omega
theorem sum_const {α : Type} (f : α → Nat) (m : Nat) (l : List α) (h : ∀ a ∈ l, f a ≤ m) : (l.map f).sum ≤ m * l.length := by
  induction l with
  | nil => simp
  | cons b l ih =>
    rw [List.map_cons, List.sum_cons, List.length_cons, Nat.mul_succ]
    have h1 := h b (by simp)
    have h2 := ih fun a ha => h a (by simp [ha])
    omega
theorem pieces_sum (cs : List Ca) (hi : Ints cs) : ∀ k, ((piecesP k cs).map fun x => x.length + 1).sum ≤ szP cs := by
  induction cs with
  | nil => intro k; simp [piecesP]
  | cons c t ih =>
    intro k
    have h1 := ih (fun d hd => hi d (by simp [hd])) (k + 1)
    have h2 : ((c.as.map wordG).map fun x => x.length + 1).sum ≤ (c.as.map fun a => szA a + 1).sum := by
      rw [List.map_map]
      refine sum_mono _ _ _ fun a ha => ?_
      have h3 := hi c (by simp) a ha
      have := wordG_len h3.1 h3.2
      show (wordG a).length + 1 ≤ szA a + 1
      omega
    have h4 : ((piecesC k c).map fun x => x.length + 1).sum ≤ szCa c := by
      unfold piecesC szCa
      rw [List.map_append, List.sum_append, List.map_cons, List.sum_cons]
      split
      · simp only [List.map_cons, List.map_nil, List.sum_cons, List.sum_nil, List.length_cons, List.length_nil]
        omega
      · simp only [List.map_nil, List.sum_nil]
        omega
    show ((piecesC k c ++ piecesP (k + 1) t).map fun x => x.length + 1).sum ≤ szP (c :: t)
    unfold szP at h1 ⊢
    rw [List.map_append, List.sum_append, List.map_cons, List.sum_cons]
    omega
theorem print_len (cs : List Ca) (hi : Ints cs) : (printG cs).length ≤ szP cs := by
  have h1 := puts_len (piecesP 0 cs) []
  have h2 := pieces_sum cs hi 0
  unfold printG
  simp only [List.length_nil] at h1
  omega
/-- Sizes of an argument. -/
structure OkA (a : Ar) (B : Nat) : Prop where
  sz : SzR a
  path : (pathL a.p).length ≤ B
  name : a.n.length ≤ B
  text : a.x.length ≤ B
  low : -9223372036854775808 ≤ a.i
  high : a.i ≤ 9223372036854775807
/-- Sizes of a pipeline. -/
structure OkC (cs : List Ca) (B : Nat) : Prop where
  len : cs.length ≤ B
  each : ∀ c ∈ cs, c.n.length ≤ B ∧ c.as.length ≤ B ∧ ∀ a ∈ c.as, OkA a B
  sum : szP cs ≤ 4 * B
theorem OkC.ints {cs : List Ca} {B : Nat} (h : OkC cs B) : Ints cs := fun c hc a ha => ⟨((h.each c hc).2.2 a ha).low, ((h.each c hc).2.2 a ha).high⟩
theorem OkC.print {cs : List Ca} {B : Nat} (h : OkC cs B) (hB : B ≤ 1048576) : PrC cs where
  total := by
    have h1 := print_len cs h.ints
    have h2 := h.sum
    omega
  len := by have := h.len; omega
  each := fun c hc => by
    obtain ⟨h1, h2, h3⟩ := h.each c hc
    refine ⟨by omega, by omega, fun a ha => ?_⟩
    have h4 := h3 a ha
    refine ⟨⟨by have := h4.path; omega, by have := h4.name; omega, by have := h4.text; omega, h4.low, h4.high⟩, ?_⟩
    have h5 := wordG_len h4.low h4.high
    unfold szA at h5
    have h6 := h4.path
    have h7 := h4.name
    have h8 := h4.text
    have h9 : szA a + 1 ≤ szP cs := by
      have k1 : szCa c ≤ szP cs := le_sum szCa cs c hc
      have k2 : szA a + 1 ≤ (c.as.map fun a => szA a + 1).sum := le_sum (fun a => szA a + 1) c.as a ha
      unfold szCa at k1
      omega
    have h10 := h.sum
    unfold szA at h9
    omega
theorem OkC.size {cs : List Ca} {B : Nat} (h : OkC cs B) (hB : B ≤ 9223372036854775807) : SzM cs :=
  ⟨Nat.le_trans h.len hB, fun c hc => ⟨Nat.le_trans (h.each c hc).2.1 hB, fun a ha => ((h.each c hc).2.2 a ha).sz⟩⟩
/-- One that may be is small. -/
theorem may_small {a : Ar} (h : mayA a = true) (h0 : -9223372036854775808 ≤ a.i) (h1 : a.i ≤ 9223372036854775807) : OkA a 1048576 ∧ szA a ≤ 8773 := by
  have h2 := h
  unfold mayA at h2
  simp only [Bool.and_eq_true, decide_eq_true_eq, List.all_eq_true] at h2
  obtain ⟨⟨⟨⟨⟨hp, _, _, h16, hx⟩, _⟩, _⟩, _⟩, hn⟩ := h2
  have hnl : a.n.length ≤ 32 := by
    rw [Bool.or_eq_true, decide_eq_true_eq, Bool.and_eq_true] at hn
    rcases hn with hn | hn
    · rw [hn]; exact Nat.zero_le _
    · exact (name_of hn.2).2.1
  have hpl : (pathL a.p).length ≤ 528 := by
    rw [path_sum]
    have := sum_const (fun n : List UInt8 => n.length + 1) 33 a.p fun n hn => by have := (name_of (hp n hn)).2.1; omega
    omega
  refine ⟨⟨⟨by omega, by omega, by omega, fun n hn => by have := (name_of (hp n hn)).2.1; omega⟩, by omega, by omega, by omega, h0, h1⟩, ?_⟩
  unfold szA
  omega
theorem may_ok {cs : List Ca} (h : mayP cs = true) (hi : Ints cs) : OkC cs 1048576 := by
  have h2 := h
  unfold mayP at h2
  rw [Bool.and_eq_true, decide_eq_true_eq] at h2
  obtain ⟨⟨hc1, hc2⟩, hf⟩ := h2
  have hcall : ∀ i (hi : i < cs.length), mayC i cs[i] = true := fun i hi => by
    cases hb : mayC i cs[i] with
    | true => rfl
    | false => rw [mayP_no hi hb] at h; cases h
  have hone : ∀ c ∈ cs, c.as.length ≤ 8 ∧ c.n.length ≤ 32 ∧ ∀ a ∈ c.as, mayA a = true := fun c hc => by
    obtain ⟨i, hlt, rfl⟩ := List.getElem_of_mem hc
    have h3 := hcall i hlt
    rw [mayC_eq, Bool.and_eq_true, List.all_eq_true] at h3
    refine ⟨?_, ?_, h3.1⟩
    · have h4 := h3.2
      rcases Nat.lt_or_ge 8 cs[i].as.length with h5 | h5
      · have h6 : fitsB cs[i].n cs[i].as.length i = false := fitsB_great h5
        rw [h6] at h4; cases h4
      · exact h5
    · have h4 := h3.2
      unfold fitsB at h4
      split at h4
      · rename_i h5; rw [h5]; exact Nat.zero_le _
      · cases hA : arityL cs[i].n with
        | none => rw [hA] at h4; cases h4
        | some m => exact (arity_name hA).2.1
  refine ⟨by omega, fun c hc => ?_, ?_⟩
  · obtain ⟨h3, h4, h5⟩ := hone c hc
    exact ⟨by omega, by omega, fun a ha => (may_small (h5 a ha) (hi c hc a ha).1 (hi c hc a ha).2).1⟩
  · have := sum_const szCa 70227 cs fun c hc => by
      obtain ⟨h3, h4, h5⟩ := hone c hc
      have h6 := sum_const (fun a => szA a + 1) 8774 c.as fun a ha => by have := (may_small (h5 a ha) (hi c hc a ha).1 (hi c hc a ha).2).2; omega
      unfold szCa
      omega
    unfold szP
    omega
end Go.Proofs.YtmccbcficbbidaaGreatDoor.Pw

/-
  The laws PipesBack and PipesMay, out of the contracts of the calls that they make.
-/
namespace Go.Proofs.YtmccbcficbbidaaGreatDoor.Pw
open Go.RowKit Go.Proofs.YtmccbcficbbidaaGreatDoor.Oct Go.Proofs.YtmccbcficbbidaaGreatDoor.Lex Go.Proofs.YtmccbcficbbidaaGreatDoor.Lxw Go.Proofs.YtmccbcficbbidaaGreatDoor.Pip

/-- Parse of words that are a pipeline. -/
theorem parse_ok {l : List UInt8} {p : List Ca} (hl : l.length ≤ 4194304) (hp : pipeE ((wdsOf l).map Prod.fst) = .ok p) {v : Value} (w : World) (hM : MaxAt w) (hv : WdV w v (wdsOf l)) :
    Calls Tryz.prog 15 #[v, .int .i64 0] w fun e w' => (∃ u, e = .returned (.tuple #[u, .int .i64 0, .int .i64 0]) ∧ CallIn w' u p) ∧ Below w.heap.size w w' :=
  (parse_c (wds_ok hl).1 (wds_ok hl).2 w hM hv).mono fun e W' ⟨hb, h⟩ => by
    rcases h with ⟨q, u, hq, he, hu⟩ | ⟨n, _, hq, _⟩
    · rw [hp] at hq
      injection hq with hq
      subst hq
      exact ⟨⟨u, he, hu.in_⟩, hb⟩
    · rw [hp] at hq
      cases hq
/-- What is printed of a pipeline that may be, read. -/
theorem back_of {cs : List Ca} (h : mayP cs = true) (hi : Ints cs) : (∃ r, wordsL (printG cs) = .ok r) ∧ pipeE ((wdsOf (printG cs)).map Prod.fst) = .ok cs := by
  obtain ⟨r, hr, hp⟩ := pipe_back cs h hi
  rw [← print_show cs h hi] at hr
  exact ⟨⟨r, hr⟩, by rw [wds_eq hr]; exact pipe_some hp⟩
set_option maxHeartbeats 1000000 in
set_option maxRecDepth 100000 in
theorem law_back {v : Value} {cs : List Ca} {B : Nat} (ho : OkC cs B) (hB : B ≤ 1048576) (hs : SzM cs) (W : World) (hv : CallIn W v cs) (hM : MaxAt W) :
    Calls Tryz.prog 4 #[v] W fun e W' => e = .returned (.bool true) ∧ Below W.heap.size W W' := by
  have hpr := ho.print hB
  have ha := alive_c W hM
  have HPr : Hid (∀ w, Below W.heap.size W w → Calls Tryz.prog 13 #[v] w fun e w' => e = .returned (.string (S (printG cs))) ∧ Below w.heap.size w w') := fun w h => show_c hpr w (hv.up h)
  have HWd : Hid (∀ w, Calls Tryz.prog 14 #[.string (S (printG cs)), .int .i64 0] w (Wds1 (printG cs) w)) := fun w => words1_c hpr.total w
  have HMay : Hid (∀ w, Below W.heap.size W w → Calls Tryz.prog 9 #[v] w fun e w' => e = .returned (.bool (mayP cs)) ∧ Below w.heap.size w w') := fun w h => rmay_c hs w (hv.up h)
  have HChk : Hid (∀ w, Below W.heap.size W w → Calls Tryz.prog 8 #[v] w fun e w' => e = .returned (.int .i64 (chk (mayP cs))) ∧ Below w.heap.size w w') := fun w h => check_c hs w (hv.up h)
  have HRs : Hid (∀ u w, Below W.heap.size W w → CallIn w u cs → Calls Tryz.prog 11 #[v, u] w fun e w' => e = .returned (.bool true) ∧ Below w.heap.size w w') := fun u w h hu => by
    have := rsame_c (szc_of hs) w (hv.up h) hu
    rwa [decide_eq_true rfl] at this
  have HPa : Hid (mayP cs = true → (∃ r, wordsL (printG cs) = .ok r) ∧ ∀ u w, Below W.heap.size W w → WdV w u (wdsOf (printG cs)) → Calls Tryz.prog 15 #[u, .int .i64 0] w fun e w' => (∃ u, e = .returned (.tuple #[u, .int .i64 0, .int .i64 0]) ∧ CallIn w' u cs) ∧ Below w.heap.size w w') := fun h =>
    ⟨(back_of h ho.ints).1, fun u w hb hu => parse_ok hpr.total (back_of h ho.ints).2 w (hM.kept hb) hu⟩
  have hn := num_c
  obtain ⟨pa, ca, rfl⟩ := hv.shape
  generalize printG cs = X at *
  generalize S X = SX at *
  clear hpr hv hM ho
  go_enter Tryz.func4, Tryz.ntmps4
  go_wp2_with fail
  refine ha.mono ?_
  clear ha
  rintro e w1 ⟨rfl, hb1⟩
  have B1 := Lib.hid hb1
  clear hb1
  go_wp2_with fail
  refine (HPr.out w1 B1.out).mono ?_
  rintro e w2 ⟨rfl, hb2⟩
  have B2 := Lib.hid (B1.out.trans (hb2.mono B1.out.size))
  clear hb2
  go_wp2_with fail
  refine (HWd.out w2).mono ?_
  rintro e w3 ⟨⟨u, a, n, rfl, hu, h0⟩, hb3⟩
  have B3 := Lib.hid (B2.out.trans (hb3.mono B2.out.size))
  have HU := Lib.hid hu
  have H0 := Lib.hid h0
  obtain ⟨pu, nu, cu, rfl⟩ := hu.shape
  clear hb3 hu h0
  go_wp2_with fail
  refine (HMay.out w3 B3.out).mono ?_
  rintro e w4 ⟨rfl, hb4⟩
  have B4 := Lib.hid (B3.out.trans (hb4.mono B3.out.size))
  have HU4 := Lib.hid (HU.out.up hb4)
  clear hb4 HMay HU
  cases hm : mayP cs with
  | false =>
    rw [hm] at HChk
    clear hm
    go_wp2_with fail
    refine (HChk.out w4 B4.out).mono ?_
    rintro e w5 ⟨rfl, hb5⟩
    have B5 := Lib.hid (B4.out.trans (hb5.mono B4.out.size))
    clear hb5
    go_wp2_with (go_at_call 7; refine (hn _ _).mono ?_; rintro e3 w3 ⟨rfl, rfl⟩)
    go_ret
    exact ⟨rfl, B5.out⟩
  | true =>
    obtain ⟨hr, hp⟩ := HPa.out hm
    obtain rfl := H0.out hr
    have h2 := hp _ w4 B4.out HU4.out
    clear hm hr hp HChk HPa H0
    go_wp2_with fail
    refine h2.mono ?_
    clear h2
    rintro e w5 ⟨⟨q, rfl, hq⟩, hb5⟩
    have B5 := Lib.hid (B4.out.trans (hb5.mono B4.out.size))
    have h6 := HRs.out q w5 B5.out hq
    obtain ⟨pq, cq, rfl⟩ := hq.shape
    clear hq hb5
    go_wp2_with (go_at_call 7; refine (hn _ _).mono ?_; rintro e3 w3 ⟨rfl, rfl⟩)
    refine h6.mono ?_
    clear h6
    rintro e w6 ⟨rfl, hb6⟩
    have B6 := Lib.hid (B5.out.trans (hb6.mono B5.out.size))
    clear hb6
    go_wp2_with fail
    go_ret
    exact ⟨rfl, B6.out⟩
set_option maxHeartbeats 1000000 in
set_option maxRecDepth 100000 in
theorem law_may {s : ByteArray} (hl : s.data.toList.length ≤ 1048576) (W : World) (hM : MaxAt W) :
    Calls Tryz.prog 5 #[.string s] W fun e W' => e = .returned (.bool true) ∧ Below W.heap.size W W' := by
  have ha := alive_c W hM
  obtain ⟨l, hls⟩ : ∃ l, l = s.data.toList := ⟨_, rfl⟩
  have hS : (s : ByteArray) = S l := by rw [hls]
  have hl4 : l.length ≤ 4194304 := by rw [hls]; omega
  have HBo : Hid (∀ w, Calls Tryz.prog 16 #[.string s] w (Wds2 l w)) := fun w => by rw [hS]; exact both_c hl4 w
  have HPs : Hid (∀ u w, Below W.heap.size W w → WdV w u (wdsOf l) → Calls Tryz.prog 15 #[u, .int .i64 0] w (ParsesTo ((wdsOf l).map Prod.fst) w)) := fun u w hb hu => parse_c (wds_ok hl4).1 (wds_ok hl4).2 w (hM.kept hb) hu
  have HM := Lib.hid hM
  have hn := num_c
  clear hl hls hS hM
  go_enter Tryz.func5, Tryz.ntmps5
  go_wp2_with fail
  refine ha.mono ?_
  clear ha
  rintro e w1 ⟨rfl, hb1⟩
  have B1 := Lib.hid hb1
  clear hb1
  go_wp2_with fail
  refine (HBo.out w1).mono ?_
  rintro e w2 ⟨⟨v, u, rfl, hv, hu⟩, hb2⟩
  have B2 := Lib.hid (B1.out.trans (hb2.mono B1.out.size))
  have h3 := HPs.out v w2 B2.out hv
  obtain ⟨pv, nv, cv, rfl⟩ := hv.shape
  obtain ⟨pu, nu, cu, rfl⟩ := hu.shape
  clear hb2 hv hu HBo HPs
  go_wp2_with fail
  refine h3.mono ?_
  clear h3
  rintro e w3 ⟨hb3, ⟨p, q, hp, rfl, hq⟩ | ⟨n, hn0, _, a, rfl⟩⟩
  · have B3 := Lib.hid (B2.out.trans (hb3.mono B2.out.size))
    obtain ⟨r, hr, hp2⟩ := wds_some hp
    obtain ⟨hm, hi⟩ := read_may l r p hr hp2
    have ho := may_ok hm hi
    have hpr := ho.print (Nat.le_refl _)
    have hsz := ho.size (by decide)
    have hqi := hq.in_
    obtain ⟨hw, hbk⟩ := back_of hm hi
    have HPr : Hid (∀ w, Below w3.heap.size w3 w → Calls Tryz.prog 13 #[q] w fun e w' => e = .returned (.string (S (printG p))) ∧ Below w.heap.size w w') := fun w h => show_c hpr w (hqi.up h)
    have HWd : Hid (∀ w, Calls Tryz.prog 14 #[.string (S (printG p)), .int .i64 0] w (Wds1 (printG p) w)) := fun w => words1_c hpr.total w
    have HMay : Hid (∀ w, Below w3.heap.size w3 w → Calls Tryz.prog 9 #[q] w fun e w' => e = .returned (.bool true) ∧ Below w.heap.size w w') := fun w h => by
      have := rmay_c hsz w (hqi.up h)
      rwa [hm] at this
    have HRs : Hid (∀ u w, Below w3.heap.size w3 w → CallIn w u p → Calls Tryz.prog 11 #[q, u] w fun e w' => e = .returned (.bool true) ∧ Below w.heap.size w w') := fun u w h hu => by
      have := rsame_c (szc_of hsz) w (hqi.up h) hu
      rwa [decide_eq_true rfl] at this
    have HPa : Hid (∀ u w, MaxAt w → WdV w u (wdsOf (printG p)) → Calls Tryz.prog 15 #[u, .int .i64 0] w fun e w' => (∃ u, e = .returned (.tuple #[u, .int .i64 0, .int .i64 0]) ∧ CallIn w' u p) ∧ Below w.heap.size w w') := fun u w hM hu => parse_ok hpr.total hbk w hM hu
    have HW := Lib.hid hw
    obtain ⟨pq, cq, rfl⟩ := hqi.shape
    generalize printG p = X at *
    generalize S X = SX at *
    clear hb3 hp hq hr hp2 hm hi ho hpr hsz hqi hw hbk
    go_wp2_with (first
      | (go_at_call 7; refine (hn _ _).mono ?_; rintro e3 w3 ⟨rfl, rfl⟩)
      | (go_at_call 13; refine (HPr.out w3 (Below.refl _ _)).mono ?_; rintro e w4 ⟨rfl, hb4⟩; have B4 := Lib.hid hb4; clear hb4))
    refine (HWd.out w4).mono ?_
    rintro e w5 ⟨⟨v5, a5, n5, rfl, h5, h0⟩, hb5⟩
    obtain rfl := h0 HW.out
    have B5 : Hid (Below w3.heap.size w3 w5) := B4.out.trans (hb5.mono B4.out.size)
    have h6 := HPa.out v5 w5 (HM.out.kept (B3.out.trans (B5.out.mono B3.out.size))) h5
    obtain ⟨p5, n5, c5, rfl⟩ := h5.shape
    clear hb5 h0 h5 B4 HW
    go_wp2_with fail
    refine h6.mono ?_
    clear h6
    rintro e w6 ⟨⟨v6, rfl, h6⟩, hb6⟩
    have B6 : Hid (Below w3.heap.size w3 w6) := B5.out.trans (hb6.mono B5.out.size)
    have H6 := Lib.hid h6
    obtain ⟨p6, c6, rfl⟩ := h6.shape
    clear hb6 h6
    go_wp2_with fail
    refine (HMay.out w6 B6.out).mono ?_
    rintro e w7 ⟨rfl, hb7⟩
    have B7 : Hid (Below w3.heap.size w3 w7) := B6.out.trans (hb7.mono B6.out.size)
    have h7 := HRs.out _ w7 B7.out (H6.out.up hb7)
    clear hb7 H6
    go_wp2_with (go_at_call 7; refine (hn _ _).mono ?_; rintro e3 w3 ⟨rfl, rfl⟩)
    refine h7.mono ?_
    clear h7
    rintro e w8 ⟨rfl, hb8⟩
    have B8 : Hid (Below W.heap.size W w8) := B3.out.trans ((B7.out.trans (hb8.mono B7.out.size)).mono B3.out.size)
    clear hb8
    go_wp2_with fail
    go_ret
    exact ⟨rfl, B8.out⟩
  · have B3 := Lib.hid (B2.out.trans (hb3.mono B2.out.size))
    have n1 : ((n : Int) != 0) = true := by rw [bne, beq_eq_false_iff_ne.2 (by omega)]; rfl
    have n2 : ((n : Int) == 0) = false := beq_eq_false_iff_ne.2 (by omega)
    clear hb3
    go_wp2_with (go_at_call 7; refine (hn _ _).mono ?_; rintro e3 w3 ⟨rfl, rfl⟩)
    go_ret
    exact ⟨rfl, B3.out⟩
end Go.Proofs.YtmccbcficbbidaaGreatDoor.Pw

/-
  What the law PipesOwn wants of memory: lists that are spoilt stay rows of their kind; what lies elsewhere stays.
-/
namespace Go.Proofs.YtmccbcficbbidaaGreatDoor.Pw
open Go.RowKit Go.Proofs.YtmccbcficbbidaaGreatDoor.Oct Go.Proofs.YtmccbcficbbidaaGreatDoor.Lex Go.Proofs.YtmccbcficbbidaaGreatDoor.Lxw Go.Proofs.YtmccbcficbbidaaGreatDoor.Pip

/-- What a text's words tell: the pipeline, or none, and the error. -/
def plO (l : List UInt8) : List Ca := match pipeE ((wdsOf l).map Prod.fst) with
  | .ok p => p
  | .error _ => []
def erP (l : List UInt8) : Int := match pipeE ((wdsOf l).map Prod.fst) with
  | .ok _ => 0
  | .error n => (n : Int)
theorem callR_nil (B : Nat) (w : World) : CallR B w (.slice none 0 0) [] := ⟨[], rfl, World.ownsRow_nil _ _ _ _, fun _ hx => nomatch hx⟩
/-- What either Parse answers. -/
def AllTo (l : List UInt8) (w : World) (e : Ending) (w' : World) : Prop := (∃ v a, e = .returned (.tuple #[v, .int .i64 a, .int .i64 (erP l)]) ∧ CallR w.heap.size w' v (plO l)) ∧ Below w.heap.size w w'
theorem parse_all {l : List UInt8} (hl : l.length ≤ 4194304) {u : Value} (w : World) (hM : MaxAt w) (hu : WdV w u (wdsOf l)) : Calls Tryz.prog 15 #[u, .int .i64 0] w (AllTo l w) :=
  (parse_c (wds_ok hl).1 (wds_ok hl).2 w hM hu).mono fun e W' ⟨hb, h⟩ => by
    unfold AllTo plO erP
    rcases h with ⟨q, v, hq, he, hv⟩ | ⟨n, _, hq, a, he⟩
    · rw [hq]
      exact ⟨⟨v, 0, he, hv⟩, hb⟩
    · rw [hq]
      exact ⟨⟨_, a, he, callR_nil _ _⟩, hb⟩
theorem rparse_all {l : List UInt8} (hl : l.length ≤ 4194304) {u : Value} (w : World) (hu : WdV w u (wdsOf l)) : Calls Tryz.prog 17 #[u, .int .i64 0] w (AllTo l w) :=
  (rparse2_c (wds_ok hl).1 (wds_ok hl).2 w hu).mono fun e W' ⟨hb, h⟩ => by
    unfold AllTo plO erP
    rcases h with ⟨q, v, hq, he, hv⟩ | ⟨n, a, _, hq, he⟩
    · rw [hq]
      exact ⟨⟨v, 0, he, hv⟩, hb⟩
    · rw [hq]
      exact ⟨⟨_, a, he, callR_nil _ _⟩, hb⟩
theorem pl_size (l : List UInt8) : SzC (plO l) ∧ (plO l).length ≤ 1048576 := by
  unfold plO
  cases hp : pipeE ((wdsOf l).map Prod.fst) with
  | error n => exact ⟨⟨by simp, fun c hc => nomatch hc⟩, by simp⟩
  | ok p =>
    obtain ⟨r, hr, hp2⟩ := wds_some hp
    obtain ⟨hm, hi⟩ := read_may l r p hr hp2
    have ho := may_ok hm hi
    exact ⟨szc_of (ho.size (by decide)), ho.len⟩
theorem own_max {w : World} {base n size : Nat} {e : TypeId} {v : Value} {xs : List Value} (h : w.ownsRow base e size v n xs) : n ≤ 9223372036854775807 := by
  rcases h.2 with ⟨_, h0⟩ | ⟨g, cap, cur, _, _, _, h1, h2, _⟩
  · omega
  · unfold maxLen at h2
    omega

/-- The lists that a pipeline lies in, as rows. -/
def Lists (lo hi : Nat) (w : World) (p : Option Addr) (n : Nat) : Prop :=
  0 < n → ∃ g cs, p = some ⟨g, 0, none⟩ ∧ lo ≤ g ∧ g < hi ∧ w.heap[g]? = some (.cells cs 41 (0, 0)) ∧ n * 2 ≤ cs.size ∧
    ∀ j, j < n → ∃ q m c, cs[j * 2 + 1]? = some (.slice q m c) ∧ m ≤ 9223372036854775807 ∧
      (0 < m → ∃ ga csa, q = some ⟨ga, 0, none⟩ ∧ lo ≤ ga ∧ ga < hi ∧ w.heap[ga]? = some (.cells csa 44 (0, 0)) ∧ m * 5 ≤ csa.size)
theorem Lists.keep {lo hi n : Nat} {w w' : World} {p : Option Addr} (h : Lists lo hi w p n) (hb : Below w.heap.size w w') : Lists lo hi w' p n := by
  intro hn
  obtain ⟨g, cs, h1, h2, h3, h4, h5, h6⟩ := h hn
  refine ⟨g, cs, h1, h2, h3, (hb.block g (Array.getElem?_eq_some_iff.1 h4).1).trans h4, h5, fun j hj => ?_⟩
  obtain ⟨q, m, c, k1, k2, k3⟩ := h6 j hj
  refine ⟨q, m, c, k1, k2, fun hm => ?_⟩
  obtain ⟨ga, csa, m1, m2, m3, m4, m5⟩ := k3 hm
  exact ⟨ga, csa, m1, m2, m3, (hb.block ga (Array.getElem?_eq_some_iff.1 m4).1).trans m4, m5⟩
theorem lists_of {lo : Nat} {w : World} {v : Value} {ts : List Ca} (h : CallR lo w v ts) : ∃ p cap, v = .slice p ts.length cap ∧ Lists lo w.heap.size w p ts.length := by
  obtain ⟨ps, rfl, h2, h3⟩ := h
  rw [List.length_map]
  rcases h2.2 with ⟨rfl, h0⟩ | ⟨g, cap, cur, rfl, hb, hg, hc, hm, hs, ht⟩
  · exact ⟨none, 0, by rw [h0], fun hn => absurd hn (by omega)⟩
  · refine ⟨_, cap, rfl, fun hn => ⟨g, cur, rfl, hb, (Array.getElem?_eq_some_iff.1 hg).1, hg, by rw [hs]; omega, fun j hj => ?_⟩⟩
    have hx : cur[j * 2 + 1]? = some ps[j].2 := by
      have e := flat_cell caC2 2 (fun _ => rfl) ps j hj 1 (by decide)
      rw [← ht] at e
      rw [List.getElem?_take] at e
      split at e
      · rw [← Array.getElem?_toList]
        exact e
      · omega
    obtain ⟨la, _, ha, _⟩ := h3 ps[j] (List.getElem_mem hj)
    rcases ha.2 with ⟨hv, h0⟩ | ⟨ga, ca, cua, hv, hba, hga, hca, hma, hsa, _⟩
    · rw [hv] at hx
      exact ⟨none, 0, 0, hx, Nat.zero_le _, fun hm => absurd hm (by omega)⟩
    · rw [hv] at hx
      refine ⟨_, _, ca, hx, own_max ha, fun _ => ⟨ga, cua, rfl, hba, (Array.getElem?_eq_some_iff.1 hga).1, hga, by rw [hsa]; omega⟩⟩

/-- What spoiling leaves: what lies outside of the blocks from lo to hi as it lay; each row a row of its kind and length. -/
structure Sp (lo hi : Nat) (w w' : World) : Prop where
  os : w'.os = w.os
  tape : w'.tape = w.tape
  output : w'.output = w.output
  size : w'.heap.size = w.heap.size
  block : ∀ k : Nat, k < lo ∨ hi ≤ k → w'.heap[k]? = w.heap[k]?
  row : ∀ (k : Nat) (cs : Array Value) (T : TypeId), w.heap[k]? = some (.cells cs T (0, 0)) → ∃ cs', w'.heap[k]? = some (.cells cs' T (0, 0)) ∧ cs'.size = cs.size
theorem Sp.refl (lo hi : Nat) (w : World) : Sp lo hi w w := ⟨rfl, rfl, rfl, rfl, fun _ _ => rfl, fun _ cs _ h => ⟨cs, h, rfl⟩⟩
theorem Sp.set {lo hi b : Nat} {w w' : World} (h : Sp lo hi w w') (h1 : lo ≤ b) (h2 : b < hi) (i : Nat) (v : Value) : Sp lo hi w (w'.setCell ⟨b, i, none⟩ v) := by
  refine ⟨h.os, h.tape, h.output, by simpa using h.size, fun k hk => ?_, fun k cs T hc => ?_⟩
  · rw [heap_setCell_other _ _ _ _ (show k ≠ b by omega)]
    exact h.block k hk
  · obtain ⟨cs', g1, g2⟩ := h.row k cs T hc
    by_cases e : k = b
    · subst e
      exact ⟨_, heap_setCell_same _ _ i _ _ v g1, by rw [Array.size_setIfInBounds]; exact g2⟩
    · exact ⟨cs', (heap_setCell_other _ _ _ _ e).trans g1, g2⟩
theorem Sp.below {lo hi : Nat} {w w' : World} (h : Sp lo hi w w') : Below lo w w' := ⟨h.os, h.tape, h.output, Nat.le_of_eq h.size.symm, fun k hk => h.block k (.inl hk)⟩
/-- Between two rounds: the calls from i on have their lists still. -/
structure Inv (lo hi : Nat) (p : Option Addr) (w w' : World) (i : Nat) : Prop where
  sp : Sp lo hi w w'
  rows : ∀ (g : Nat) (cs : Array Value), p = some ⟨g, 0, none⟩ → w.heap[g]? = some (.cells cs 41 (0, 0)) → ∃ cs', w'.heap[g]? = some (.cells cs' 41 (0, 0)) ∧ cs'.size = cs.size ∧ ∀ j, i ≤ j → cs'[j * 2 + 1]? = cs[j * 2 + 1]?
theorem Inv.refl (lo hi : Nat) (p : Option Addr) (w : World) : Inv lo hi p w w 0 := ⟨.refl _ _ _, fun _ cs _ h => ⟨cs, h, rfl, fun _ _ => rfl⟩⟩
theorem Inv.next {lo hi i : Nat} {p : Option Addr} {w w' : World} (h : Inv lo hi p w w' i) : Inv lo hi p w w' (i + 1) :=
  ⟨h.sp, fun g cs hp hg => by
    obtain ⟨cs', h1, h2, h3⟩ := h.rows g cs hp hg
    exact ⟨cs', h1, h2, fun j hj => h3 j (by omega)⟩⟩
theorem Inv.arg {lo hi i ga : Nat} {p : Option Addr} {w w' : World} {csa : Array Value} (h : Inv lo hi p w w' i) (ha : w.heap[ga]? = some (.cells csa 44 (0, 0))) (h1 : lo ≤ ga) (h2 : ga < hi) (o : Nat) (v : Value) : Inv lo hi p w (w'.setCell ⟨ga, o, none⟩ v) i := by
  refine ⟨h.sp.set h1 h2 o v, fun g cs hp hg => ?_⟩
  obtain ⟨cs', g1, g2, g3⟩ := h.rows g cs hp hg
  refine ⟨cs', (heap_setCell_other _ _ _ _ (fun e => ?_)).trans g1, g2, g3⟩
  have e' : g = ga := e
  subst e'
  have e2 := hg.symm.trans ha
  injection e2 with e2
  injection e2 with _ e3 _
  exact absurd e3 (by decide)
theorem Inv.call {lo hi i g : Nat} {p : Option Addr} {w w' : World} (h : Inv lo hi p w w' i) (hp : p = some ⟨g, 0, none⟩) (h1 : lo ≤ g) (h2 : g < hi) (o : Nat) (ho : o < i * 2) (v : Value) : Inv lo hi p w (w'.setCell ⟨g, o, none⟩ v) i := by
  refine ⟨h.sp.set h1 h2 o v, fun g' cs hp' hg => ?_⟩
  obtain ⟨cs', g1, g2, g3⟩ := h.rows g' cs hp' hg
  have e : g' = g := by
    rw [hp] at hp'
    injection hp' with hp'
    injection hp' with hp' _ _
    exact hp'.symm
  subst e
  refine ⟨_, heap_setCell_same _ _ o _ _ v g1, by rw [Array.size_setIfInBounds]; exact g2, fun j hj => ?_⟩
  rw [Array.getElem?_setIfInBounds_ne (by omega)]
  exact g3 j hj
theorem cell_in {w : World} {g i : Nat} {cs : Array Value} {t : TypeId} {v : Value} (h : w.heap[g]? = some (.cells cs t (0, 0))) (hv : cs[i]? = some v) : w.cell? ⟨g, i, none⟩ = some v := (cell_of_row w g i cs t (0, 0) h).trans hv

/-! ### The law -/
set_option maxHeartbeats 4000000 in
set_option maxRecDepth 100000 in
theorem law_own {s : ByteArray} (hl : s.data.toList.length ≤ 1048576) (W : World) (hM : MaxAt W) :
    Calls Tryz.prog 6 #[.string s] W fun e W' => e = .returned (.bool true) ∧ Below W.heap.size W W' := by
  have ha := alive_c W hM
  obtain ⟨l, hls⟩ : ∃ l, l = s.data.toList := ⟨_, rfl⟩
  have hS : (s : ByteArray) = S l := by rw [hls]
  have hl4 : l.length ≤ 4194304 := by rw [hls]; omega
  have HBo : Hid (∀ w, Calls Tryz.prog 16 #[.string s] w (Wds2 l w)) := fun w => by rw [hS]; exact both_c hl4 w
  have HT : Hid (∀ u w, Below W.heap.size W w → WdV w u (wdsOf l) → Calls Tryz.prog 15 #[u, .int .i64 0] w (AllTo l w)) := fun u w hb hu => parse_all hl4 w (hM.kept hb) hu
  have HR : Hid (∀ u w, WdV w u (wdsOf l) → Calls Tryz.prog 17 #[u, .int .i64 0] w (AllTo l w)) := fun u w hu => rparse_all hl4 w hu
  have HPl := Lib.hid (pl_size l)
  have hn := num_c
  unfold AllTo at HT HR
  generalize erP l = er at HT HR
  generalize plO l = ts at HT HR HPl
  clear hM hl hls hS hl4
  go_enter Tryz.func6, Tryz.ntmps6
  go_wp2_with fail
  refine ha.mono ?_
  clear ha
  rintro e1 w1 ⟨rfl, hb1⟩
  have B1 := Lib.hid hb1
  clear hb1
  go_wp2_with fail
  refine (HBo.out w1).mono ?_
  clear HBo
  rintro e2 w2 ⟨⟨v, u, rfl, hv, hu⟩, hb2⟩
  have B2 := Lib.hid (B1.out.trans (hb2.mono B1.out.size))
  have HV := Lib.hid hv
  have HU := Lib.hid hu
  have h3 := HT.out v w2 B2.out hv
  obtain ⟨pv, nv, cv, rfl⟩ := hv.shape
  obtain ⟨pu, nu, cu, rfl⟩ := hu.shape
  clear hb2 hv hu B1
  go_wp2_with fail
  refine h3.mono ?_
  clear h3
  rintro e3 w3 ⟨⟨va, aa, rfl, hva⟩, hb3⟩
  obtain ⟨p, cap, rfl, hL⟩ := lists_of hva
  have B3 := Lib.hid (B2.out.trans (hb3.mono B2.out.size))
  have HLO := Lib.hid (And.intro B2.out.size hb3.size)
  have h4 := HT.out _ w3 B3.out (HV.out.up hb3)
  have HU3 := Lib.hid (HU.out.up hb3)
  have HU2 := Lib.hid hb3
  clear hb3 hva HT HV
  go_wp2_with fail
  refine h4.mono ?_
  clear h4
  rintro e4 w4 ⟨⟨vb, ab, rfl, hvb⟩, hb4⟩
  have HL := Lib.hid (hL.keep hb4)
  have B4 := Lib.hid (B3.out.trans (hb4.mono B3.out.size))
  have HB24 := Lib.hid (HU2.out.trans (hb4.mono HU2.out.size))
  have HBM := Lib.hid hvb
  obtain ⟨pb, cb, rfl, _⟩ := lists_of hvb
  clear hb4 hvb hL HU3 HU2 B3 B2
  obtain ⟨lo, hlo⟩ : ∃ lo, lo = w2.heap.size := ⟨_, rfl⟩
  obtain ⟨hi, hhi⟩ : ∃ hi, hi = w3.heap.size := ⟨_, rfl⟩
  have HUw : Hid (∀ wr, Below lo w4 wr → WdV wr (.slice pu nu cu) (wdsOf l)) := fun wr h => HU.out.up (HB24.out.trans (by rw [← hlo]; exact h))
  rw [← hlo, ← hhi] at HL HLO
  rw [← hhi] at HBM
  obtain ⟨n, hn_⟩ : ∃ n, n = ts.length := ⟨_, rfl⟩
  have HN := Lib.hid hn_
  have hn4 : n ≤ 1048576 := by rw [hn_]; exact HPl.out.2
  rw [← hn_] at HL ⊢
  clear hn_ hlo hhi HU HB24
  have hni : (n : Int) ≤ 1048576 := by omega
  go_wp2_with fail
  go_loopw [11] (fun i wr => ∃ k : Nat, k ≤ n ∧ i = .int .i64 k ∧ Hid (Inv lo hi p w4 wr k)) (fun i _ => n - (intOf i).toNat)
  case atStart => exact ⟨0, Nat.zero_le _, rfl, Inv.refl _ _ _ _⟩
  case round =>
    obtain ⟨k, hk, rfl, hinv⟩ := hrel
    by_cases hlt : k < n
    · obtain ⟨g, cs, hpg, hg1, hg2, hg, hsz, hrows⟩ := HL.out (by omega)
      obtain ⟨q, m, c, hc3, hm, hq⟩ := hrows k hlt
      have HQ := Lib.hid hq
      have HG := Lib.hid (And.intro hg (And.intro hg1 (And.intro hg2 (And.intro (by omega : k * 2 + 2 ≤ cs.size) hc3))))
      have HP := Lib.hid hpg
      clear hrows hq hg hg1 hg2 hsz hc3
      subst hpg
      obtain ⟨V, hV⟩ : ∃ V, V = wr := ⟨_, rfl⟩
      rw [← hV] at hinv ⊢
      clear hV
      clear wr
      obtain ⟨csv, gv, _, gs⟩ := hinv.out.rows g cs rfl HG.out.1
      have C3 : V.cell? ⟨g, k * 2 + 1, none⟩ = some (.slice q m c) := cell_in gv ((gs k (Nat.le_refl _)).trans HG.out.2.2.2.2)
      have i0 : (0 : Int) ≤ (k : Int) := by omega
      have i1 : (k : Int) < (n : Int) := by omega
      have hmi : (m : Int) ≤ 9223372036854775807 := by omega
      clear gv gs C3
      go_wp2_with fail
      go_loopw [12] (fun i wr => ∃ t : Nat, t ≤ m ∧ i = .int .i64 t ∧ Hid (Inv lo hi (some ⟨g, 0, none⟩) w4 wr k)) (fun i _ => m - (intOf i).toNat)
      case atStart => exact ⟨0, Nat.zero_le _, rfl, hinv⟩
      case round =>
        clear hinv
        obtain ⟨t, ht, rfl, hin⟩ := hrel
        obtain ⟨csr, gr, hzr, gs⟩ := hin.out.rows g cs rfl HG.out.1
        have C3 : wr.cell? ⟨g, k * 2 + 1, none⟩ = some (.slice q m c) := cell_in gr ((gs k (Nat.le_refl _)).trans HG.out.2.2.2.2)
        have j0 : (0 : Int) ≤ (t : Int) := by omega
        by_cases htm : t < m
        · obtain ⟨ga, csa, rfl, ha1, ha2, hga, hsa⟩ := HQ.out (by omega)
          obtain ⟨cs', hga', hsa'⟩ := hin.out.sp.row ga csa _ hga
          have a0 : wr.cell? ⟨ga, t * 5, none⟩ = some (cs'[t * 5]'(by omega)) := cell_in hga' (Array.getElem?_eq_getElem (by omega))
          have a1 : wr.cell? ⟨ga, t * 5 + 1, none⟩ = some (cs'[t * 5 + 1]'(by omega)) := cell_in hga' (Array.getElem?_eq_getElem (by omega))
          have a2 : wr.cell? ⟨ga, t * 5 + 2, none⟩ = some (cs'[t * 5 + 2]'(by omega)) := cell_in hga' (Array.getElem?_eq_getElem (by omega))
          have a3 : wr.cell? ⟨ga, t * 5 + 3, none⟩ = some (cs'[t * 5 + 3]'(by omega)) := cell_in hga' (Array.getElem?_eq_getElem (by omega))
          have a4 : wr.cell? ⟨ga, t * 5 + 4, none⟩ = some (cs'[t * 5 + 4]'(by omega)) := cell_in hga' (Array.getElem?_eq_getElem (by omega))
          have z0 := frozen_of_row wr ga (t * 5) _ _ hga'
          have z1 := frozen_of_row wr ga (t * 5 + 1) _ _ hga'
          have z2 := frozen_of_row wr ga (t * 5 + 2) _ _ hga'
          have z3 := frozen_of_row wr ga (t * 5 + 3) _ _ hga'
          have z4 := frozen_of_row wr ga (t * 5 + 4) _ _ hga'
          have j1 : (t : Int) < (m : Int) := by omega
          have HN2 : Hid (Inv lo hi (some ⟨g, 0, none⟩) w4 (((((wr.setCell ⟨ga, t * 5, none⟩ (.int .i64 77)).setCell ⟨ga, t * 5 + 1, none⟩ (.string ⟨#[]⟩)).setCell ⟨ga, t * 5 + 2, none⟩ (.slice none 0 0)).setCell ⟨ga, t * 5 + 3, none⟩ (.int .i64 0)).setCell ⟨ga, t * 5 + 4, none⟩ (.string ⟨#[]⟩)) k) := ((((hin.out.arg hga ha1 ha2 _ _).arg hga ha1 ha2 _ _).arg hga ha1 ha2 _ _).arg hga ha1 ha2 _ _).arg hga ha1 ha2 _ _
          generalize cs'[t * 5]'(by omega) = x0 at a0
          generalize cs'[t * 5 + 1]'(by omega) = x1 at a1
          generalize cs'[t * 5 + 2]'(by omega) = x2 at a2
          generalize cs'[t * 5 + 3]'(by omega) = x3 at a3
          generalize cs'[t * 5 + 4]'(by omega) = x4 at a4
          clear hga hga' hsa hsa' gr hzr gs ha1 ha2
          go_wp2_with fail
          go_roundw
          case rel => exact ⟨t + 1, by omega, by go_num, HN2⟩
          case measure => simp [intOf]; omega
        · have j1 : ¬ ((t : Int) < (m : Int)) := by omega
          have hz5 : k * 2 + 2 ≤ csr.size := by rw [hzr]; exact HG.out.2.2.2.1
          have a0 : wr.cell? ⟨g, k * 2, none⟩ = some (csr[k * 2]'(by omega)) := cell_in gr (Array.getElem?_eq_getElem (by omega))
          have z0 := frozen_of_row wr g (k * 2) _ _ gr
          have z1 := frozen_of_row wr g (k * 2 + 1) _ _ gr
          have HN2 : Hid (Inv lo hi (some ⟨g, 0, none⟩) w4 ((wr.setCell ⟨g, k * 2, none⟩ (.string ⟨#[115, 112, 111, 105, 108, 116]⟩)).setCell ⟨g, k * 2 + 1, none⟩ (.slice none 0 0)) (k + 1)) :=
            (hin.out.next.call rfl HG.out.2.1 HG.out.2.2.1 _ (by omega) _).call rfl HG.out.2.1 HG.out.2.2.1 _ (by omega) _
          generalize csr[k * 2]'(by omega) = x0 at a0
          clear gr hzr gs hz5
          go_wp2_with fail
          go_roundw
          case rel => exact ⟨k + 1, by omega, by go_num, HN2⟩
          case measure => simp [intOf]; omega
    · have i1 : ¬ ((k : Int) < (n : Int)) := by omega
      have HBr : Hid (CallR hi wr (.slice pb ts.length cb) ts) := HBM.out.same fun b hb _ => hinv.out.sp.block b (.inr hb)
      have HB5 := Lib.hid hinv.out.sp.below
      have B5 := Lib.hid (B4.out.trans (hinv.out.sp.below.mono HLO.out.1))
      have hr := HR.out _ wr (HUw.out wr hinv.out.sp.below)
      clear HBM hinv
      go_wp2_with fail
      refine hr.mono ?_
      clear hr
      rintro e6 w6 ⟨⟨vc, ac, rfl, hvc⟩, hb6⟩
      have hsa := rsame_c HPl.out.1 w6 (HBr.out.in_.up hb6) hvc.in_
      rw [decide_eq_true rfl] at hsa
      obtain ⟨pc, cc, rfl, _⟩ := lists_of hvc
      have B6 := Lib.hid (B5.out.trans (hb6.mono B5.out.size))
      clear hvc hb6
      rw [← HN.out] at hsa ⊢
      go_wp2_with (go_at_call 7; refine (hn _ _).mono ?_; rintro e3 w3 ⟨rfl, rfl⟩)
      refine hsa.mono ?_
      clear hsa
      rintro e7 w7 ⟨rfl, hb7⟩
      have B7 := Lib.hid (B6.out.trans (hb7.mono B6.out.size))
      clear hb7
      go_wp2_with fail
      go_ret
      exact ⟨rfl, B7.out⟩
end Go.Proofs.YtmccbcficbbidaaGreatDoor.Pw
