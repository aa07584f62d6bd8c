/-
  Part 17: PwCalls, PwCaughtC, PwParse.
-/
import Derived.Test.YtmccbcficbbidaaGreatDoorPwAllP16
import Derived.Defers
import Derived.Recover
/-
  Contracts of package pipes: calls, Parse.
-/
namespace Go.Proofs.YtmccbcficbbidaaGreatDoor.Pw
open Go.RowKit Go.Proofs.YtmccbcficbbidaaGreatDoor.Oct Go.Proofs.YtmccbcficbbidaaGreatDoor.Lex Go.Proofs.YtmccbcficbbidaaGreatDoor.Lxw Go.Proofs.YtmccbcficbbidaaGreatDoor.Pip

/-! ### Call by call -/
def prepP (cs : List Ca) : Except Nat (List Ca) → Except Nat (List Ca)
  | .ok r => .ok (cs ++ r)
  | .error n => .error n
/-- What is left behind some calls. -/
def contE (f : Nat) (rm : List Wd) (cs : List Ca) : Except Nat (List Ca) := match rm with
  | [] => .ok cs
  | w :: t => if w.x ≠ [124] then .error 33 else if t = [] then .error 33 else prepP cs (pipeG f t cs.length)
theorem prep_pipe (f : Nat) (l : List Wd) (cs : List Ca) {n : Nat} (h : callE (l.takeWhile isWord) (decide (0 < cs.length)) = .error n) : prepP cs (pipeG (f + 1) l cs.length) = .error n := by
  unfold pipeG
  rw [h]
  rfl
theorem prep_full (f : Nat) (l : List Wd) (cs : List Ca) {c : Ca} (h : callE (l.takeWhile isWord) (decide (0 < cs.length)) = .ok c) (h16 : cs.length = 16) : prepP cs (pipeG (f + 1) l cs.length) = .error 3 := by
  unfold pipeG
  rw [h]
  dsimp only
  rw [if_pos h16]
  rfl
theorem prep_next (f : Nat) (l : List Wd) (cs : List Ca) {c : Ca} (h : callE (l.takeWhile isWord) (decide (0 < cs.length)) = .ok c) (h16 : cs.length ≠ 16) : prepP cs (pipeG (f + 1) l cs.length) = contE f (l.dropWhile isWord) (cs ++ [c]) := by
  unfold pipeG contE
  rw [h]
  dsimp only
  rw [if_neg h16]
  cases l.dropWhile isWord with
  | nil => rfl
  | cons w t =>
    dsimp only
    by_cases h1 : w.x ≠ [124]
    · rw [if_pos h1, if_pos h1]; rfl
    · rw [if_neg h1, if_neg h1]
      by_cases h2 : t = []
      · rw [if_pos h2, if_pos h2]; rfl
      · rw [if_neg h2, if_neg h2, List.length_append, List.length_singleton]
        cases pipeG f t (cs.length + 1) with
        | error e => rfl
        | ok r => show Except.ok (cs ++ c :: r) = Except.ok ((cs ++ [c]) ++ r); simp

/-! ### Calls in memory -/
theorem info_call : (Tryz.prog.info? 41).map (fun i => (i.zero, i.size, i.bytes)) = some (some (.agg #[.string ⟨#[]⟩, .slice none 0 0]), 2, 40) := by kernel_rfl
theorem push_ca (c : Ca) (p : Option Addr) (n cc : Nat) : ∀ u ∈ [(.string (S c.n) : Value), .slice p n cc], u.oneCell' = true := by
  intro u hu
  simp only [List.mem_cons, List.not_mem_nil, or_false] at hu
  rcases hu with rfl | rfl <;> rfl
theorem ArgR.grown {D n : Nat} {w wB : World} {v va : Value} {al : List Ar} {o : Obj} {xs : List Value} (h : ArgR D w va al) (hrow : w.ownsRow D 41 2 v n xs) (hg : (w.alloc o).grownBy wB v.ownBlock) : ArgR D wB va al := by
  obtain ⟨l, h1, h2, h3⟩ := h
  have hal : Below w.heap.size w (w.alloc o) := (Below.refl _ _).alloc (Nat.le_refl _) _
  refine ⟨l, h1, own_same h2 fun k _ he => (hg.block k (Nat.lt_of_lt_of_le (own_lt h2 k he) hal.size) (fun e => own_other h2 hrow (by decide) k he e.symm)).trans (hal.block k (own_lt h2 k he)), fun x hx => ?_⟩
  have hq := h3 x hx
  exact own_same hq fun k _ he => (hg.block k (Nat.lt_of_lt_of_le (own_lt hq k he) hal.size) (fun e => own_other hq hrow (by decide) k he e.symm)).trans (hal.block k (own_lt hq k he))
/-- A call is put to the calls. -/
theorem CallR.push {D : Nat} {w wB : World} {v v' va : Value} {cs : List Ca} {c : Ca} {o : Obj} {l : List (Ca × Value)} (h1 : l.map Prod.fst = cs) (h2 : w.ownsRow D 41 2 v l.length (l.flatMap caC2)) (h3 : ∀ x ∈ l, ArgR D w x.2 x.1.as) (hp : ArgR D w va c.as)
    (hown : wB.ownsRow D 41 2 v' (l.length + 1) (l.flatMap caC2 ++ [.string (S c.n), va])) (hg : (w.alloc o).grownBy wB v.ownBlock) : CallR D wB v' (cs ++ [c]) := by
  refine ⟨l ++ [(c, va)], by rw [List.map_append, h1]; rfl, ?_, fun x hx => ?_⟩
  · rw [List.length_append, List.length_singleton, List.flatMap_append]
    simpa using hown
  · rcases List.mem_append.1 hx with hx | hx
    · exact (h3 x hx).grown h2 hg
    · have : x = (c, va) := by simpa using hx
      subst this
      exact hp.grown h2 hg
theorem CallR.shape {D : Nat} {w : World} {v : Value} {cs : List Ca} (h : CallR D w v cs) : ∃ p c, v = .slice p cs.length c := by
  obtain ⟨l, h1, h2, _⟩ := h
  obtain ⟨p, c, h3⟩ := own_shape h2
  exact ⟨p, c, by rw [h3, ← h1, List.length_map]⟩
/-- The first call's row. -/
theorem CallR.one {D : Nat} {w : World} {va : Value} {c : Ca} (hD : D ≤ w.heap.size) (hp : ArgR D w va c.as) : CallR D (w.alloc (.cells #[.string (S c.n), va] 41)) (.slice (some ⟨w.heap.size, 0, none⟩) 1 1) [c] := by
  refine ⟨[(c, va)], rfl, ⟨rfl, .inr ⟨w.heap.size, 1, #[.string (S c.n), va], rfl, hD, heap_alloc_new w _, Nat.le_refl _, by unfold maxLen; omega, rfl, rfl⟩⟩, fun x hx => ?_⟩
  have : x = (c, va) := by simpa using hx
  subst this
  exact hp.same fun k _ hk => ((Below.refl _ w).alloc (Nat.le_refl _) _).block k hk
/-- What stands below the calls' own blocks stays where one more is put to them. -/
theorem grown_low {D n : Nat} {w wB : World} {v : Value} {o : Obj} {xs : List Value} (hrow : w.ownsRow D 41 2 v n xs) (hg : (w.alloc o).grownBy wB v.ownBlock) (hD : D ≤ w.heap.size) {k : Nat} (hk : k < D) : wB.heap[k]? = w.heap[k]? := by
  have hal : Below w.heap.size w (w.alloc o) := (Below.refl _ _).alloc (Nat.le_refl _) _
  have h1 : k < w.heap.size := Nat.lt_of_lt_of_le hk hD
  refine (hg.block k (Nat.lt_of_lt_of_le h1 hal.size) fun e => ?_).trans (hal.block k h1)
  have := own_ge hrow k e.symm
  omega
theorem grown_kr {R D n : Nat} {w0 w wB : World} {v : Value} {o : Obj} {xs : List Value} (hk : Kr R w0 w) (hrow : w.ownsRow D 41 2 v n xs) (hg : (w.alloc o).grownBy wB v.ownBlock) (hD : D = w0.heap.size) : Kr R w0 wB := by
  have hal : Below w.heap.size w (w.alloc o) := (Below.refl _ _).alloc (Nat.le_refl _) _
  have hs := hk.size
  exact ⟨hg.os.trans (hal.os.trans hk.os), hg.tape.trans (hal.tape.trans hk.tape), hg.output.trans (hal.output.trans hk.output), Nat.le_trans hs (Nat.le_trans hal.size hg.size), fun k hkk hR => (grown_low hrow hg (by omega) (by omega)).trans (hk.block k hkk hR)⟩
theorem Kr.kept_ {R D : Nat} {w w' : World} (h : Kr R w w') (hR : R < D) : Kept D w w' := fun k hk hs => h.block k hs (by omega)
theorem WdAt.low {w : World} {b o : Nat} {ws : List (Wd × Nat)} (h : WdAt w b o ws) (hne : ws ≠ []) : b < w.heap.size := by
  obtain ⟨h0, _⟩ := h 0 (List.length_pos_iff.2 hne)
  by_cases hb : b < w.heap.size
  · exact hb
  · rw [World.cell?] at h0
    rw [Array.getElem?_eq_none (by show w.heap.size ≤ b; omega)] at h0
    cases h0
/-- What Parse's reader answers of all words. -/
def CallsTo (R : Nat) (e : Int) (l : List Wd) (w : World) (en : Ending) (w' : World) : Prop := Kr R w w' ∧
  ((∃ p v, pipeE l = .ok p ∧ en = .returned v ∧ CallR w.heap.size w' v p) ∨ (∃ n : Nat, n ≠ 0 ∧ pipeE l = .error n ∧ en = Fault (n : Int) ∧ ∃ v' p', Px R v' e p' w'))
theorem drop_good {ws : List (Wd × Nat)} {n : Nat} (h : ∀ x ∈ ws, GoodX x.1) : ∀ x ∈ ws.drop n, GoodX x.1 := fun x hx => h x (List.mem_of_mem_drop hx)
theorem head_sign {ws : List (Wd × Nat)} {x : Wd × Nat} {t : List (Wd × Nat)} (h : ws.drop (callN ws) = x :: t) : isWord x.1 = false := by
  have hlt : callN ws < ws.length := by
    have := congrArg List.length h
    rw [List.length_drop] at this
    simp at this
    omega
  have h2 := (callN_at ws).2 hlt
  rw [List.drop_eq_getElem_cons hlt] at h
  injection h with h _
  rw [← h]
  exact h2
set_option maxHeartbeats 2000000 in
set_option maxRecDepth 100000 in
theorem calls_c {R : Nat} {e p : Int} {b o c : Nat} {ws : List (Wd × Nat)} (hbR : b ≠ R) (hc : ws.length ≤ c) (hlen : ws.length ≤ 4194304) (hg : ∀ x ∈ ws, GoodX x.1) (w : World) (hM : MaxAt w) (h : Px R (wsV b o ws.length c) e p w) (hw : WdAt w b o ws) :
    Calls Tryz.prog 38 #[.pointer (some ⟨R, 0, none⟩)] w (CallsTo R e (ws.map Prod.fst) w) := by
  have hse := see_c hbR w h hw
  have HW := Lib.hid hw
  have hRw := h.lt
  have HRM : Hid (R ≠ 0) := fun e => by
    obtain ⟨m, hm⟩ := hM
    subst e
    have := h.cells.c0
    rw [hm] at this
    cases this
  have HM : Hid (∀ W, Kr R w W → MaxAt W) := fun W hW => by
    obtain ⟨m, hm⟩ := hM
    exact ⟨m, cell_kr hm hW (fun e => HRM.out e.symm)⟩
  have HC := Lib.hid (fun (p' : Int) (o' c' : Nat) (k : Nat) (ws' : List (Wd × Nat)) W (hk : k ≤ 1152921504606846976) (hc : ws'.length ≤ c') (hlen : ws'.length ≤ 4194304) (hg : ∀ x ∈ ws', GoodX x.1) (hM : MaxAt W) (h : Px R (wsV b o' ws'.length c') e p' W) (hw : WdAt W b o' ws') => call_c (k := k) hk hbR hc hlen hg W hM h hw)
  have HPp := Lib.hid (fun (p' : Int) (o' c' : Nat) (x : Wd × Nat) (t : List (Wd × Nat)) W (hc : t.length + 1 ≤ c') (hlen : t.length ≤ 4194304) (h : Px R (wsV b o' (t.length + 1) c') e p' W) (hw : WdAt W b o' (x :: t)) => passPipe_c hbR hc hlen W h hw)
  have HbW0 : ws ≠ [] → b < w.heap.size := fun hne => hw.low hne
  clear h hw
  go_enter Tryz.func38, Tryz.ntmps38
  go_wp2_with fail
  refine hse.mono ?_
  clear hse
  rintro en w1 ⟨rfl, ⟨p1, h1⟩, k1⟩
  have H1 := Lib.hid (And.intro h1 k1)
  have HW1 := Lib.hid (HW.out.kr k1 hbR)
  obtain ⟨c0, c1, c2, z0, z2⟩ := h1.cells
  by_cases h0 : ws = []
  · have hl0 : ws.length = 0 := by rw [h0]; rfl
    rw [hl0] at c0
    subst h0
    clear h1 k1
    go_wp2_with fail
    refine (demand_no _ _).mono ?_
    rintro en w2 ⟨rfl, rfl⟩
    exact ⟨rfl, H1.out.2, .inr ⟨8, by decide, rfl, rfl, _, _, H1.out.1⟩⟩
  · obtain ⟨n, hn⟩ : ∃ n, n = ws.length := ⟨_, rfl⟩
    have hpos : 0 < n := by rw [hn]; exact List.length_pos_iff.2 h0
    have hcall := HC.out p1 o c 0 ws w1 (by decide) hc hlen hg (HM.out _ k1) h1 HW1.out
    rw [← hn] at c0
    have d0 : decide ((0 : Int) < (n : Int)) = true := decide_eq_true (by omega)
    have d1 : decide (0 < n) = true := decide_eq_true hpos
    have d2 : (0 : Int) < (n : Int) := by omega
    have HP0 : Hid (pipeE (ws.map Prod.fst) = prepP [] (pipeG ((n - 1) + 1) (ws.map Prod.fst) ([] : List Ca).length)) := by
      show _ = _
      unfold pipeE
      rw [if_neg (by simpa using h0), List.length_map, ← hn, show n - 1 + 1 = n by omega]
      cases pipeG n (ws.map Prod.fst) 0 with
      | error _ => rfl
      | ok r => rfl
    have HbW : Hid (b < w.heap.size) := HbW0 h0
    have HN := Lib.hid hn
    have HG := Lib.hid hg
    have HD := Lib.hid (own_take ws)
    have HD2 := Lib.hid (own_drop ws)
    have HHd := Lib.hid (fun x t (h : ws.drop (callN ws) = x :: t) => head_sign h)
    have HDl : Hid ((ws.drop (callN ws)).length ≤ n) := by show _ ≤ _; rw [List.length_drop, hn]; omega
    have HDg := Lib.hid (drop_good (n := callN ws) hg)
    have hnl : n ≤ 4194304 := by omega
    clear h1 k1 hn h0 hg hlen hc hM
    go_wp2_with (go_at_call 57; refine (demand_yes _ _).mono ?_; rintro en w2 ⟨rfl, rfl⟩)
    refine hcall.mono ?_
    clear hcall
    rintro en w2 ⟨hk2, (⟨cc, p', p2, c2', hce, h16, rfl, hA, o', c', hc', hwd, hpx⟩ | ⟨nn, hn0, rfl, hce, v', p', hpx⟩)⟩
    · have hcw : callE ((ws.map Prod.fst).takeWhile isWord) (decide (0 < ([] : List Ca).length)) = .ok cc := by rw [← HD.out]; exact hce
      have HP1 : Hid (pipeE (ws.map Prod.fst) = contE (n - 1) ((ws.drop (callN ws)).map Prod.fst) [cc]) := by
        show _ = _
        rw [HP0.out, prep_next _ _ _ hcw (by decide), ← HD2.out]
        rfl
      have hal : Below w2.heap.size w2 (w2.alloc (.cells #[.string (S cc.n), .slice p2 cc.as.length c2'] 41)) := (Below.refl _ w2).alloc (Nat.le_refl _) _
      have hk12 := H1.out.2.trans hk2
      have H3 : Hid (Kr R w (w2.alloc (.cells #[.string (S cc.n), .slice p2 cc.as.length c2'] 41)) ∧ WdAt (w2.alloc (.cells #[.string (S cc.n), .slice p2 cc.as.length c2'] 41)) b o' (ws.drop (callN ws)) ∧ Px R (wsV b o' (ws.drop (callN ws)).length c') e p' (w2.alloc (.cells #[.string (S cc.n), .slice p2 cc.as.length c2'] 41)) ∧ CallR w.heap.size (w2.alloc (.cells #[.string (S cc.n), .slice p2 cc.as.length c2'] 41)) (.slice (some ⟨w2.heap.size, 0, none⟩) 1 1) [cc]) :=
        ⟨hk12.trans (Kr.of hal), hwd.up hal, hpx.keep hal, CallR.one hk12.size (hA.less H1.out.2.size)⟩
      clear hk2 hce hcw hA hwd hpx hal hk12 c0 c1 c2 z0 z2 HP0 HD HD2
      generalize hrm : ws.drop (callN ws) = rm at *
      clear hrm
      have hrl : rm.length ≤ n := HDl.out
      go_wp2_with fail
      go_loopw [3] (fun out wr => ∃ (f o' c' : Nat) (p' : Int) (rm : List (Wd × Nat)) (cs : List Ca), rm.length ≤ f + 1 ∧ rm.length ≤ n ∧ rm.length ≤ c' ∧ 1 ≤ cs.length ∧ cs.length ≤ 16 ∧ Hid (pipeE (ws.map Prod.fst) = contE f (rm.map Prod.fst) cs) ∧ Hid (∀ x t, rm = x :: t → isWord x.1 = false) ∧ Hid (∀ x ∈ rm, GoodX x.1) ∧ Hid (Kr R w wr ∧ WdAt wr b o' rm ∧ Px R (wsV b o' rm.length c') e p' wr ∧ CallR w.heap.size wr out cs)) (fun _ wr => match wr.cell? ⟨R, 0, none⟩ with
        | some (.slice _ q _) => q
        | _ => 0)
      case atStart => exact ⟨n - 1, o', c', p', rm, [cc], by omega, hrl, hc', Nat.le_refl _, by simp, HP1.out, HHd.out, HDg.out, H3.out⟩
      case round =>
        clear H3 HG HN HW HW1 HP1 HHd HDg hc' HDl
        obtain ⟨f, o', c', p', rm, cs, hf, hrn, hcc, h1, h16, hE, hHd, hG, hC⟩ := hrel
        obtain ⟨y0, y1, y2, yz0, yz2⟩ := hC.out.2.2.1.cells
        obtain ⟨po, co, hout⟩ := hC.out.2.2.2.shape
        have hkp := hC.out.1
        cases hrm : rm with
        | nil =>
          subst hrm
          replace y0 : wr.cell? ⟨R, 0, none⟩ = some (wsV b o' 0 c') := y0
          clear hkp
          go_wp2_with fail
          refine bodyPost_ret (v := u3) (by simp [results, Tryz.results38, go_sem]) rfl ?_
          exact ⟨hC.out.1, .inl ⟨cs, u3, hE.out, rfl, hC.out.2.2.2⟩⟩
        | cons x t =>
          subst hrm
          have hpp := HPp.out p' o' c' x t wr hcc (by have h7 := hrn; simp only [List.length_cons] at h7; omega) hC.out.2.2.1 hC.out.2.1
          obtain ⟨m, hm⟩ : ∃ m, m = t.length + 1 := ⟨_, rfl⟩
          replace y0 : wr.cell? ⟨R, 0, none⟩ = some (wsV b o' m c') := by subst hm; exact y0
          have hms : (match wr.cell? ⟨R, 0, none⟩ with
            | some (.slice _ q _) => q
            | _ => 0) = m := by rw [y0]
          have HMs := Lib.hid hms
          have HMt := Lib.hid hm
          have d1 : (0 : Int) < (m : Int) := by omega
          have d2 : decide ((0 : Int) < (m : Int)) = true := decide_eq_true d1
          have HRn : Hid (t.length + 1 ≤ n) := hrn
          have HFn : Hid (t.length + 1 ≤ f + 1) := hf
          have HX6 := Lib.hid (hHd.out x t rfl)
          have HGt : Hid (∀ y ∈ t, GoodX y.1) := fun y hy => hG.out y (List.mem_cons_of_mem _ hy)
          clear hkp hcc hrn hf hG hm hms hHd
          go_wp2_with fail
          refine hpp.mono ?_
          clear hpp
          rintro en w3 ⟨hk3, (⟨hbar, rfl, p3, o3, c3, hc3, hw3, hp3⟩ | ⟨hnb, rfl, hpx⟩)⟩
          · have hkw := hC.out.1.trans hk3
            have hcall := HC.out p3 o3 c3 cs.length t w3 (by omega) hc3 (by have := HRn.out; omega) HGt.out (HM.out _ hkw) hp3 hw3
            have hcr : CallR w.heap.size w3 u3 cs := hC.out.2.2.2.same (Kr.kept_ hk3 hRw)
            have HC3 : Hid (Kr R w w3 ∧ CallR w.heap.size w3 u3 cs) := ⟨hkw, hcr⟩
            have hrun : t ≠ [] → pipeE (ws.map Prod.fst) = prepP cs (pipeG ((f - 1) + 1) (t.map Prod.fst) cs.length) := by
              intro ht
              have h1 : 0 < t.length := List.length_pos_iff.2 ht
              have h2 := HFn.out
              rw [hE.out, show f - 1 + 1 = f by omega]
              unfold contE
              rw [List.map_cons]
              dsimp only
              rw [if_neg (by rw [hbar.2]; simp), if_neg (by simpa using ht)]
            have hrun0 : t = [] → pipeE (ws.map Prod.fst) = .error 33 := by
              intro ht
              rw [hE.out, ht]
              unfold contE
              rw [List.map_cons, List.map_nil]
              dsimp only
              rw [if_neg (by rw [hbar.2]; simp), if_pos rfl]
            have HRun := Lib.hid (And.intro hrun hrun0)
            have k1 : decide (0 < cs.length) = true := decide_eq_true h1
            subst hout
            clear hkw hcr hrun hrun0 hk3 hc3 hw3 hp3 hbar hC hE y0 y1 y2 yz0 yz2 HC
            by_cases hko : (∃ c, callE (ownW t) true = .ok c) ∧ cs.length < 16
            · obtain ⟨⟨cn, hce⟩, hk16⟩ := hko
              have ht : t ≠ [] := by
                intro ht
                rw [ht] at hce
                rw [show callE (ownW ([] : List (Wd × Nat))) true = .error 33 from rfl] at hce
                cases hce
              have hcO : Calls Tryz.prog 58 #[.pointer (some ⟨R, 0, none⟩), .int .i64 (cs.length : Int)] w3 fun en w' => Kr R w3 w' ∧ ∃ p' pp pc, en = .returned (caV cn (.slice pp cn.as.length pc)) ∧ ArgR w3.heap.size w' (.slice pp cn.as.length pc) cn.as ∧ ∃ o' c', (t.drop (callN t)).length ≤ c' ∧ WdAt w' b o' (t.drop (callN t)) ∧ Px R (wsV b o' (t.drop (callN t)).length c') e p' w' := hcall.mono fun en w' h => by
                obtain ⟨hk, (⟨c, p', p2, cc, hce', h16, hen, hrest⟩ | ⟨n', hn0, hen, hce', hpx⟩)⟩ := h
                · rw [k1, show ((t.take (callN t)).map Prod.fst) = ownW t from rfl, hce] at hce'
                  injection hce' with hce'
                  subst hce'
                  exact ⟨hk, p', p2, cc, hen, hrest⟩
                · rw [k1, show ((t.take (callN t)).map Prod.fst) = ownW t from rfl, hce] at hce'
                  rcases hce' with h | ⟨_, h, _⟩
                  · cases h
                  · exact absurd hk16 h
              have HNx : Hid (pipeE (ws.map Prod.fst) = contE (f - 1) ((t.drop (callN t)).map Prod.fst) (cs ++ [cn])) := by
                show _ = _
                rw [HRun.out.1 ht, prep_next _ _ _ (by rw [← own_take, k1]; exact hce) (by omega), ← own_drop]
              have HRl : Hid ((t.drop (callN t)).length ≤ t.length) := by show _ ≤ _; rw [List.length_drop]; omega
              have HRh := Lib.hid (fun x' t' (h : t.drop (callN t) = x' :: t') => head_sign h)
              have HRg := Lib.hid (drop_good (n := callN t) HGt.out)
              generalize t.drop (callN t) = rest at *
              obtain ⟨l, hl1, hl2, hl3⟩ := HC3.out.2
              obtain ⟨q, hq⟩ : ∃ q, q = cs.length := ⟨_, rfl⟩
              have hlq : l.length = q := by rw [hq, ← hl1, List.length_map]
              rw [hlq] at hl2
              rw [← hq] at hcO hl2 h1 hk16 ⊢
              have HL : Hid (l.map Prod.fst = cs ∧ l.length = q ∧ w3.ownsRow w.heap.size 41 2 (.slice po q co) q (l.flatMap caC2) ∧ ∀ x ∈ l, ArgR w.heap.size w3 x.2 x.1.as) := ⟨hl1, hlq, hl2, hl3⟩
              have HQ := Lib.hid hq
              have HSz := Lib.hid HC3.out.1.size
              obtain ⟨i9, hi, hz0, hz1, hz2⟩ := info_parts info_call
              clear hl1 hl2 hl3 hlq hq hcall hce ht k1 h16 HRun
              go_wp2_with fail
              refine hcO.mono ?_
              clear hcO
              rintro en w4 ⟨hk4, p4, pp, pc, rfl, hA, o4, c4, hc4, hw4, hp4⟩
              have HL5 : Hid (w4.ownsRow w.heap.size 41 2 (.slice po q co) q (l.flatMap caC2) ∧ ∀ x ∈ l, ArgR w.heap.size w4 x.2 x.1.as) := ⟨own_same HL.out.2.2.1 fun k hk he => hk4.block k (own_lt HL.out.2.2.1 k he) (by omega), fun x hx => (HL.out.2.2.2 x hx).same (Kr.kept_ hk4 hRw)⟩
              have HA := Lib.hid (hA.less HSz.out)
              have HB4 : Hid (w.heap.size ≤ w4.heap.size) := Nat.le_trans HSz.out hk4.size
              have HK4 := Lib.hid (HC3.out.1.trans hk4)
              have HW4 := Lib.hid (And.intro hw4 hp4)
              have HOne := Lib.hid (push_ca cn pp cn.as.length pc)
              have HPC := Lib.hid (fun (j : Nat) (u : Value) (h : ([.string (S cn.n), .slice pp cn.as.length pc] : List Value)[j]? = some u) => push_cells (w := w4) (T := 41) (cs := [.string (S cn.n), .slice pp cn.as.length pc]) j u h)
              clear hk4 hA hw4 hp4
              go_wp2_with (at_builtin; refine wpList_append_own _ rfl _ _ 22 rfl w.heap.size 41 i9 _ 2 40 Tryz.underlying22 hi hz0 hz1 hz2 rfl (by decide) _ _ _ rfl (HL5.out.1.alloc _) ⟨w4.heap.size, 0, none⟩ 1 1 [.string (S cn.n), .slice pp cn.as.length pc] rfl rfl HPC.out HOne.out (by unfold maxLen; omega) (by omega) (by simp; have := HB4.out; omega) ?_)
              intro v' w5 hown' hgrow _
              have HP : Hid (Kr R w w5 ∧ WdAt w5 b o4 rest ∧ Px R (wsV b o4 rest.length c4) e p4 w5 ∧ CallR w.heap.size w5 v' (cs ++ [cn])) :=
                ⟨grown_kr HK4.out HL5.out.1 hgrow rfl, fun i hi => ⟨cell_own (HW4.out.1 i hi).1 (grown_low HL5.out.1 hgrow HB4.out HbW.out), cell_own (HW4.out.1 i hi).2.1 (grown_low HL5.out.1 hgrow HB4.out HbW.out), cell_own (HW4.out.1 i hi).2.2 (grown_low HL5.out.1 hgrow HB4.out HbW.out)⟩, (grown_low HL5.out.1 hgrow HB4.out hRw).trans HW4.out.2, CallR.push (l := l) (v := .slice po q co) HL.out.1 (by rw [HL.out.2.1]; exact HL5.out.1) HL5.out.2 HA.out (by rw [HL.out.2.1]; exact hown') hgrow⟩
              clear hown' hgrow
              go_wp2_with fail
              go_roundw
              case rel => exact ⟨f - 1, o4, c4, p4, rest, cs ++ [cn], by have := HFn.out; have := HRl.out; omega, by have := HRn.out; have := HRl.out; omega, hc4, by simp, by rw [List.length_append, List.length_singleton, ← HQ.out]; omega, HNx.out, HRh.out, HRg.out, HP.out⟩
              case measure =>
                obtain ⟨y0, _⟩ := HP.out.2.2.1.cells
                rw [HMs.out, y0]
                have h1 := HMt.out
                have h2 := HRl.out
                show rest.length < m
                omega
            · have hcE : Calls Tryz.prog 58 #[.pointer (some ⟨R, 0, none⟩), .int .i64 (cs.length : Int)] w3 fun en w' => Kr R w w' ∧ ∃ n' : Nat, n' ≠ 0 ∧ pipeE (ws.map Prod.fst) = .error n' ∧ en = Fault (n' : Int) ∧ ∃ v' p', Px R v' e p' w' := hcall.mono fun en w' h => by
                obtain ⟨hk, (⟨c, p', p2, cc, hce, h16, _⟩ | ⟨n', hn0, rfl, hce, hpx⟩)⟩ := h
                · rw [k1] at hce
                  exact absurd ⟨⟨c, hce⟩, h16⟩ hko
                · refine ⟨HC3.out.1.trans hk, n', hn0, ?_, rfl, hpx⟩
                  by_cases ht : t = []
                  · rw [HRun.out.2 ht]
                    subst ht
                    rw [k1] at hce
                    rcases hce with hce | ⟨⟨c, hce⟩, _⟩
                    · rw [show callE (ownW ([] : List (Wd × Nat))) true = .error 33 from rfl] at hce
                      injection hce with hce
                      rw [hce]
                    · exact absurd (show (Except.error 33 : Except Nat Ca) = .ok c from hce) (by simp)
                  · rw [HRun.out.1 ht]
                    rcases hce with hce | ⟨⟨c, hce⟩, hnk, rfl⟩
                    · exact prep_pipe _ _ _ (by rw [← own_take]; exact hce)
                    · exact prep_full _ _ _ (by rw [← own_take]; exact hce) (by omega)
              clear hcall hko
              go_wp2_with fail
              refine hcE.mono ?_
              rintro en w4 ⟨hk, n', hn0, hpe, rfl, hpx⟩
              exact ⟨rfl, hk, .inr ⟨n', hn0, hpe, rfl, hpx⟩⟩
          · refine ⟨rfl, hC.out.1.trans hk3, .inr ⟨33, by decide, ?_, rfl, hpx⟩⟩
            rw [hE.out]
            unfold contE
            rw [List.map_cons]
            dsimp only
            by_cases hx : x.1.x ≠ [124]
            · rw [if_pos hx]
            · have h6 : x.1.k = 6 := by
                have := HX6.out
                unfold isWord at this
                simpa using this
              exact absurd ⟨h6, by simpa using hx⟩ hnb
    · have hcw : callE ((ws.map Prod.fst).takeWhile isWord) (decide (0 < ([] : List Ca).length)) = .error nn := by
        rw [← HD.out]
        rcases hce with h | ⟨_, h, _⟩
        · exact h
        · exact absurd (by decide) h
      exact ⟨rfl, H1.out.2.trans hk2, .inr ⟨nn, hn0, by rw [HP0.out, prep_pipe _ _ _ hcw], rfl, _, _, hpx⟩⟩
end Go.Proofs.YtmccbcficbbidaaGreatDoor.Pw

/-
  Contracts of faults.Caught at one of its instances, over whatever closure is handed in.
-/
namespace Go.Proofs.YtmccbcficbbidaaGreatDoor.PwC
open Go.RowKit Go.Proofs.YtmccbcficbbidaaGreatDoor.Oct Go.Proofs.YtmccbcficbbidaaGreatDoor.Lxw

theorem assert_fault (x : Value) (xT : TypeId) (w : World) : (Instr.typeAssert (.iface 94 x) xT 94 true).run Tryz.prog w = .ok (.tuple #[x, .bool true]) w := by kernel_rfl
theorem assert_nil (xT : TypeId) (w : World) : (Instr.typeAssert .nilIface xT 94 true).run Tryz.prog w = .ok (.tuple #[.agg #[.int .i64 0], .bool false]) w := by kernel_rfl

set_option maxHeartbeats 4000000 in
set_option maxRecDepth 100000 in
theorem catch_none (r : Nat) (w : World) :
    CallsD Tryz.prog 55 #[.pointer (some ⟨r, 0, none⟩)] .returning w fun e u' w' =>
      e = .returned (.tuple #[]) ∧ u' = .returning ∧ Below w.heap.size w w' := by
  have hta := assert_nil
  refine callsD_of_wpS Tryz.func55 rfl fun c₀ cs hu => ?_
  apply wpS_seq
  apply wpS_region
  simp [wpOpsS, go_sem, recoverD, hu, Tryz.ntmps55, Exit.thenS]
  refine wpS_of_wp ?_
  simp only [List.replicate, Array.replicate, List.setIfInBounds_toArray, List.set_cons_succ, List.set_cons_zero, List.append_toArray, List.cons_append, List.nil_append]
  go_wp2_with fail
  simp only [bodyPostS]
  exact ⟨trivial, .returning, by cases c₀; simp_all, .tuple #[], by simp [results, Tryz.results55], rfl, rfl, (Below.refl _ w).alloc (Nat.le_refl _) _⟩

set_option maxHeartbeats 400000 in
set_option maxRecDepth 100000 in
theorem catch_fault (r : Nat) (n x : Int) (w : World) (hx : w.cell? ⟨r, 0, none⟩ = some (.int .i64 x)) (hz : w.frozen? ⟨r, 0, none⟩ = false) (hr : r < w.heap.size) :
    CallsD Tryz.prog 55 #[.pointer (some ⟨r, 0, none⟩)] (.panicking [{ v := faultV n, recovered := false }]) w fun e u' w' =>
      e = .returned (.tuple #[]) ∧ u' = .panicking [{ v := faultV n, recovered := true }] ∧ w' = (w.setCell ⟨r, 0, none⟩ (.int .i64 n)).alloc (.cells #[.int .i64 n] 94) := by
  have hb := (Below.refl w.heap.size w).alloc (Nat.le_refl _) (.cells #[.int .i64 n] 94)
  have hx1 := (hb.cell (p := ⟨r, 0, none⟩) hr).trans hx
  have hz1 := (hb.frozen (p := ⟨r, 0, none⟩) hr).trans hz
  have hnc : (w.alloc (.cells #[.int .i64 n] 94)).cell? ⟨w.heap.size, 0, none⟩ = some (.int .i64 n) := cell_of_row _ w.heap.size 0 _ _ _ (heap_alloc_new w _)
  clear hb
  have hta := assert_fault (.agg #[.int .i64 n])
  refine callsD_of_wpS Tryz.func55 rfl fun c₀ cs hu => ?_
  replace hu : c₀.mode = .panicking [{ v := .iface 94 (.agg #[.int .i64 n]), recovered := false }] := hu
  apply wpS_seq
  apply wpS_region
  simp [wpOpsS, go_sem, recoverD, hu, Tryz.ntmps55, Exit.thenS]
  refine wpS_of_wp ?_
  simp only [List.replicate, Array.replicate, List.setIfInBounds_toArray, List.set_cons_succ, List.set_cons_zero, List.append_toArray, List.cons_append, List.nil_append]
  go_wp2_with fail
  show bodyPostS _ _ _ _ _ _ _ _ _
  simp only [bodyPostS]
  exact ⟨trivial, .panicking [{ v := faultV n, recovered := true }], by cases c₀; simp_all, .tuple #[], by simp [results, Tryz.results55], rfl, rfl, (by first | trivial | rfl)⟩

/-- The error's box. -/
abbrev errBox (w : World) : World := w.alloc (.cells #[.int .i64 0] 24)
/-- All that lay in w lies as it lay, but for the block r. -/
structure But (r : Nat) (w w' : World) : Prop where
  os : w'.os = w.os
  tape : w'.tape = w.tape
  output : w'.output = w.output
  size : w.heap.size ≤ w'.heap.size
  block : ∀ k, k < w.heap.size → k ≠ r → w'.heap[k]? = w.heap[k]?
theorem caught_fin {r : Nat} {W X : World} {n : Int} (hbox : W.heap[r]? = some (.cells #[.int .i64 0] 24 (0, 0))) (hX : Below W.heap.size (W.setCell ⟨r, 0, none⟩ (.int .i64 n)) X) :
    But r W X ∧ X.cell? ⟨r, 0, none⟩ = some (.int .i64 n) := by
  have hlt : r < W.heap.size := (Array.getElem?_eq_some_iff.1 hbox).1
  have hset := heap_setCell_same W r 0 _ _ (.int .i64 n) hbox
  have hs : (W.setCell ⟨r, 0, none⟩ (.int .i64 n)).heap.size = W.heap.size := by simp [World.setCell]
  exact ⟨⟨hX.os, hX.tape, hX.output, by have := hX.size; omega, fun k hk hr => (hX.block k hk).trans (heap_setCell_other _ _ _ _ (by simpa using hr))⟩, cell_of_row X r 0 _ _ _ ((hX.block _ hlt).trans hset)⟩

set_option maxHeartbeats 400000 in
set_option maxRecDepth 100000 in
/-- A method's value: what it writes may lie outside; the error's box it leaves alone. -/
theorem caught_any (g : Nat) (lb : Array Value) (w : World) (F : Int → World → Prop) (V : Value → World → Prop) (eg : ∀ args w, (callFunc g args).run Tryz.prog w = .ok (.enter g args) w)
    (hc : Calls Tryz.prog g lb (errBox w) fun e W => W.heap[w.heap.size]? = some (.cells #[.int .i64 0] 24 (0, 0)) ∧ ((∃ n, e = Fault n ∧ F n W) ∨ ∃ v, e = .returned v ∧ V v W)) :
    Calls Tryz.prog 37 #[.func (.func g) lb #[]] w fun e w' => ∃ W, But w.heap.size W w' ∧
      ((∃ n, e = .returned (.tuple #[.slice none 0 0, .int .i64 n]) ∧ F n W) ∨ ∃ v, e = .returned (.tuple #[v, .int .i64 0]) ∧ V v W) := by
  have hmf : ∀ (fn : Fn) (first cap : Array Value) (w : World), (Instr.makeFunc fn first cap).run Tryz.prog w = .ok (.func fn first cap) w := fun _ _ _ _ => rfl
  have hsz : (errBox w).heap.size = w.heap.size + 1 := Array.size_push _
  have HC := Lib.hid hc
  clear hc
  go_enter_defers Tryz.func37, Tryz.ntmps37
  have HF : Hid (∀ W : World, W.heap[w.heap.size]? = some (.cells #[.int .i64 0] 24 (0, 0)) → W.cell? ⟨w.heap.size, 0, none⟩ = some (.int .i64 0) ∧ W.frozen? ⟨w.heap.size, 0, none⟩ = false ∧ w.heap.size < W.heap.size) := fun W hbox =>
    ⟨(cell_of_row W w.heap.size 0 _ _ _ hbox).trans rfl, frozen_of_row W w.heap.size 0 _ _ hbox, (Array.getElem?_eq_some_iff.1 hbox).1⟩
  go_wp2_with (go_at_fn g; refine HC.out.mono ?_; rintro e1 W1 ⟨hb, (⟨n, rfl, hF⟩ | ⟨v, rfl, hV⟩)⟩ <;> obtain ⟨xc, xz, xl⟩ := HF.out W1 hb)
  · refine leaves_cons (f := 55) (args := #[.pointer (some ⟨w.heap.size, 0, none⟩)]) (by simp) (by simp [go_sem]) ?_
    refine (catch_fault w.heap.size n 0 W1 xc xz xl).mono ?_
    rintro e u' w'' ⟨rfl, rfl, hw''⟩
    obtain ⟨f1, f2⟩ := caught_fin hb (n := n) (X := w'') (by rw [hw'']; exact (by simpa using (Below.refl (W1.setCell ⟨w.heap.size, 0, none⟩ (.int .i64 n)).heap.size (W1.setCell ⟨w.heap.size, 0, none⟩ (.int .i64 n))).alloc (Nat.le_refl _) (.cells #[.int .i64 n] 94)))
    clear hw''
    simp [Leaves, settle, results, Tryz.results37, go_sem, f2]
    exact ⟨W1, f1, .inl hF⟩
  · refine leaves_cons (f := 55) (args := #[.pointer (some ⟨w.heap.size, 0, none⟩)]) (by simp) (by simp [go_sem]) ?_
    refine (catch_none w.heap.size _).mono ?_
    rintro e u' w'' ⟨rfl, rfl, hw''⟩
    obtain ⟨f1, f2⟩ := caught_fin hb (n := 0) (X := w'') (by simpa using hw'')
    clear hw''
    simp [Leaves, settle, results, Tryz.results37, go_sem, f2]
    exact ⟨W1, f1, .inr hV⟩
end Go.Proofs.YtmccbcficbbidaaGreatDoor.PwC

/-
  Contracts of package pipes: Parse.
-/
namespace Go.Proofs.YtmccbcficbbidaaGreatDoor.Pw
open Go.RowKit Go.Proofs.YtmccbcficbbidaaGreatDoor.Oct Go.Proofs.YtmccbcficbbidaaGreatDoor.Lex Go.Proofs.YtmccbcficbbidaaGreatDoor.Lxw Go.Proofs.YtmccbcficbbidaaGreatDoor.Pip

/-- A value that holds words. -/
def WdV (w : World) (v : Value) (ws : List (Wd × Nat)) : Prop := (v = .slice none 0 0 ∧ ws = []) ∨ ∃ b o c, b < w.heap.size ∧ v = wsV b o ws.length c ∧ ws.length ≤ c ∧ WdAt w b o ws
theorem WdR.v {base : Nat} {w : World} {v : Value} {ws : List (Wd × Nat)} (h : WdR base w v ws) : WdV w v ws := by
  rcases h.2 with ⟨hv, hn⟩ | ⟨g, cap, cur, hv, hb, hg, hc, _⟩
  · exact .inl ⟨hv, List.eq_nil_of_length_eq_zero hn⟩
  · refine .inr ⟨g, 0, cap, (Array.getElem?_eq_some_iff.1 hg).1, hv, hc, fun i hi => ?_⟩
    obtain ⟨p, cap', hv', hat⟩ := row_at (f := wdC) (m := 3) (fun _ => rfl) h
    rw [hv] at hv'
    obtain ⟨b, hp, _, hat⟩ := hat (by omega)
    injection hv' with hv' _ _
    rw [hp] at hv'
    injection hv' with hv'
    injection hv' with hv' _ _
    subst hv'
    refine ⟨?_, ?_, ?_⟩
    · rw [Nat.zero_add]; exact hat i hi 0 (by omega)
    · rw [Nat.zero_add]; exact hat i hi 1 (by omega)
    · rw [Nat.zero_add]; exact hat i hi 2 (by omega)
theorem WdV.shape {w : World} {v : Value} {ws : List (Wd × Nat)} (h : WdV w v ws) : ∃ p n c, v = .slice p n c := by
  rcases h with ⟨h, _⟩ | ⟨b, o, c, _, h, _⟩
  · exact ⟨_, _, _, h⟩
  · exact ⟨_, _, _, h⟩
theorem WdV.up {w W : World} {v : Value} {ws : List (Wd × Nat)} (h : WdV w v ws) (hb : Below w.heap.size w W) : WdV W v ws := by
  rcases h with h | ⟨b, o, c, h1, h2, h3, h4⟩
  · exact .inl h
  · exact .inr ⟨b, o, c, Nat.lt_of_lt_of_le h1 hb.size, h2, h3, h4.up hb⟩
set_option maxHeartbeats 1000000 in
set_option maxRecDepth 100000 in
theorem calls_nil {R : Nat} {e p : Int} (w : World) (h : Px R (.slice none 0 0) e p w) : Calls Tryz.prog 38 #[.pointer (some ⟨R, 0, none⟩)] w (CallsTo R e [] w) := by
  have hse : Calls Tryz.prog 56 #[.pointer (some ⟨R, 0, none⟩)] w fun en w' => en = .returned (.tuple #[]) ∧ Px R (.slice none 0 0) e e w' ∧ Kr R w w' := by
    obtain ⟨c0, c1, c2, z0, z2⟩ := h.cells
    have H1 := Lib.hid (And.intro (h.place e) (Kr.set (R := R) (i := 2) w (.int .i64 e)))
    clear h
    go_enter Tryz.func56, Tryz.ntmps56
    go_wp2_with fail
    go_end0
    exact ⟨rfl, H1.out.1, H1.out.2⟩
  clear h
  go_enter Tryz.func38, Tryz.ntmps38
  go_wp2_with fail
  refine hse.mono ?_
  clear hse
  rintro en w1 ⟨rfl, h1, k1⟩
  have H1 := Lib.hid (And.intro h1 k1)
  obtain ⟨c0, c1, c2, z0, z2⟩ := h1.cells
  clear h1 k1
  go_wp2_with fail
  refine (demand_no _ _).mono ?_
  rintro en w2 ⟨rfl, rfl⟩
  exact ⟨rfl, H1.out.2, .inr ⟨8, by decide, rfl, rfl, _, _, H1.out.1⟩⟩
theorem reads_c {R : Nat} {e p : Int} {v : Value} {ws : List (Wd × Nat)} (hlen : ws.length ≤ 4194304) (hg : ∀ x ∈ ws, GoodX x.1) {w0 : World} (w : World) (hM : MaxAt w) (h : Px R v e p w) (hv : WdV w0 v ws) (hb0 : Below w0.heap.size w0 w) (hR : R = w0.heap.size) :
    Calls Tryz.prog 38 #[.pointer (some ⟨R, 0, none⟩)] w (CallsTo R e (ws.map Prod.fst) w) := by
  rcases hv with ⟨rfl, rfl⟩ | ⟨b, o, c, h1, rfl, h3, h4⟩
  · exact calls_nil w h
  · exact calls_c (by omega) h3 hlen hg w hM h (h4.up hb0)
theorem enter_calls : ∀ args w, (callFunc 38 args).run Tryz.prog w = .ok (.enter 38 args) w := enters_of Tryz.func38 (by kernel_rfl) rfl
abbrev prBox (v : Value) (w : World) : World := w.alloc (.cells #[v, .int .i64 0, .int .i64 0] 76)
/-- What Parse answers. -/
def ParsesTo (l : List Wd) (w : World) (en : Ending) (w' : World) : Prop := Below w.heap.size w w' ∧
  ((∃ p v, pipeE l = .ok p ∧ en = .returned (.tuple #[v, .int .i64 0, .int .i64 0]) ∧ CallR w.heap.size w' v p) ∨ (∃ n : Nat, n ≠ 0 ∧ pipeE l = .error n ∧ ∃ a, en = .returned (.tuple #[.slice none 0 0, .int .i64 a, .int .i64 (n : Int)])))
set_option maxHeartbeats 1000000 in
set_option maxRecDepth 100000 in
theorem parse_c {v : Value} {ws : List (Wd × Nat)} (hlen : ws.length ≤ 4194304) (hg : ∀ x ∈ ws, GoodX x.1) (w : World) (hM : MaxAt w) (hv : WdV w v ws) :
    Calls Tryz.prog 15 #[v, .int .i64 0] w (ParsesTo (ws.map Prod.fst) w) := by
  obtain ⟨vp, vn, vc, rfl⟩ := hv.shape
  have hb1 : Below w.heap.size w (prBox (.slice vp vn vc) w) := (Below.refl _ w).alloc (Nat.le_refl _) _
  have hs1 : (prBox (.slice vp vn vc) w).heap.size = w.heap.size + 1 := Array.size_push _
  have hb2 : Below (prBox (.slice vp vn vc) w).heap.size (prBox (.slice vp vn vc) w) (PwC.errBox (prBox (.slice vp vn vc) w)) := (Below.refl _ _).alloc (Nat.le_refl _) _
  have hs2 : (PwC.errBox (prBox (.slice vp vn vc) w)).heap.size = w.heap.size + 2 := (Array.size_push _).trans (by rw [hs1])
  have hpx : Px w.heap.size (.slice vp vn vc) 0 0 (PwC.errBox (prBox (.slice vp vn vc) w)) := (hb2.block w.heap.size (by rw [hs1]; exact Nat.lt_succ_self _)).trans (heap_alloc_new w _)
  have hb12 : Below w.heap.size w (PwC.errBox (prBox (.slice vp vn vc) w)) := hb1.trans (hb2.mono (by rw [hs1]; exact Nat.le_succ _))
  have hwo := reads_c hlen hg (PwC.errBox (prBox (.slice vp vn vc) w)) (MaxAt.kept hM hb12) hpx hv hb12 rfl
  have herr : (PwC.errBox (prBox (.slice vp vn vc) w)).heap[w.heap.size + 1]? = some (.cells #[.int .i64 0] 24 (0, 0)) := by
    have := heap_alloc_new (prBox (.slice vp vn vc) w) (.cells #[.int .i64 0] 24)
    rw [hs1] at this
    exact this
  have hc := PwC.caught_any 38 #[.pointer (some ⟨w.heap.size, 0, none⟩)] (prBox (.slice vp vn vc) w)
    (fun n W => n ≠ 0 ∧ Below w.heap.size w W ∧ (∃ m : Nat, n = (m : Int) ∧ pipeE (ws.map Prod.fst) = .error m) ∧ (∃ p, W.cell? ⟨w.heap.size, 2, none⟩ = some (.int .i64 p)) ∧ w.heap.size < W.heap.size)
    (fun v W => Below w.heap.size w W ∧ ∃ r, pipeE (ws.map Prod.fst) = .ok r ∧ CallR (w.heap.size + 2) W v r) enter_calls (hwo.mono (by
      rintro e W ⟨hk, hW⟩
      have hbW : Below w.heap.size w W := ⟨hk.os.trans hb12.os, hk.tape.trans hb12.tape, hk.output.trans hb12.output, by have := hk.size; omega, fun k hkk => (hk.block k (by omega) (by omega)).trans (hb12.block k hkk)⟩
      refine ⟨?_, ?_⟩
      · rw [hs1]
        exact (hk.block _ (by omega) (by omega)).trans herr
      · rcases hW with ⟨r, v, hr, he, ho⟩ | ⟨n, hn0, hy, he, v', p', hx⟩
        · rw [hs2] at ho
          exact .inr ⟨v, he, hbW, r, hr, ho⟩
        · exact .inl ⟨(n : Int), he, by omega, hbW, ⟨n, rfl, hy⟩, ⟨_, hx.cells.c2⟩, by have := hk.size; omega⟩))
  rw [hs1] at hc
  clear hb1 hs1 hb2 hs2 hpx hb12 hwo herr hv hM hg
  go_enter Tryz.func15, Tryz.ntmps15
  go_wp2_with fail
  refine hc.mono ?_
  clear hc
  rintro e w2 ⟨W, hbut, (⟨n, rfl, hn, hbW, ⟨m, hnm, hy⟩, ⟨p, hcell⟩, hsW⟩ | ⟨v, rfl, hbW, r, hr, ho⟩)⟩
  · have hcell2 : w2.cell? ⟨w.heap.size, 2, none⟩ = some (.int .i64 p) := by
      have e := hbut.block w.heap.size hsW (by omega)
      have e2 : w2.cell? ⟨w.heap.size, 2, none⟩ = W.cell? ⟨w.heap.size, 2, none⟩ := by simp only [World.cell?, e]
      exact e2.trans hcell
    have HB := Lib.hid (And.intro (And.intro hnm hy) (show Below w.heap.size w w2 from ⟨hbut.os.trans hbW.os, hbut.tape.trans hbW.tape, hbut.output.trans hbW.output, Nat.le_trans hbW.size hbut.size, fun k hk => (hbut.block k (by omega) (by omega)).trans (hbW.block k hk)⟩))
    have HM0 : Hid (m ≠ 0) := by intro e; rw [e] at hnm; exact hn (by rw [hnm]; rfl)
    have b0 : (n == 0) = false := by rw [beq_eq_false_iff_ne]; exact hn
    have f0 : (n != 0) = true := by rw [bne, b0]; rfl
    have n0 : ¬ n = 0 := hn
    clear hbut hbW hcell hy hn hnm
    go_wp2_with fail
    go_region
    all_goals go_wp2_with fail
    all_goals go_ret3
    all_goals exact ⟨HB.out.2.drew, .inr ⟨m, HM0.out, HB.out.1.2, p, by rw [← HB.out.1.1]; rfl⟩⟩
  · have HB := Lib.hid (And.intro (And.intro hr hbW.size) (And.intro (show Below w.heap.size w w2 from ⟨hbut.os.trans hbW.os, hbut.tape.trans hbW.tape, hbut.output.trans hbW.output, Nat.le_trans hbW.size hbut.size, fun k hk => (hbut.block k (by have := hbW.size; omega) (by omega)).trans (hbW.block k hk)⟩) ((ho.same fun k hk hkW => hbut.block k hkW (by omega)).less (Nat.le_add_right w.heap.size 2))))
    clear hbut hbW ho hr
    go_wp2_with fail
    go_ret3
    exact ⟨HB.out.2.1, .inl ⟨r, v, HB.out.1.1, rfl, HB.out.2.2⟩⟩
end Go.Proofs.YtmccbcficbbidaaGreatDoor.Pw
