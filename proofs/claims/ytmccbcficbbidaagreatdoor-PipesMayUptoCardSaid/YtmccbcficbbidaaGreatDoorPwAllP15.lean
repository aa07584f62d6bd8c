/-
  Part 15: PwRead, PwFits, PwCallMem.
-/
import Derived.Test.YtmccbcficbbidaaGreatDoorPwAllP14
import Derived.Deep.RegionHeld3
import Derived.Deep.RegionLaw
/-
  The reader of package pipes in memory; contracts of see, passPipe, cut.
-/
namespace Go.Proofs.YtmccbcficbbidaaGreatDoor.Pw
open Go.RowKit Go.Proofs.YtmccbcficbbidaaGreatDoor.Oct Go.Proofs.YtmccbcficbbidaaGreatDoor.Lex Go.Proofs.YtmccbcficbbidaaGreatDoor.Lxw Go.Proofs.YtmccbcficbbidaaGreatDoor.Pip

/-- The reader's box: the words, the end's place, the place. -/
def Px (R : Nat) (v : Value) (e p : Int) (w : World) : Prop := w.heap[R]? = some (.cells #[v, .int .i64 e, .int .i64 p] 76 (0, 0))
section
variable {R : Nat} {v : Value} {e p : Int} {w : World}
theorem Px.lt (h : Px R v e p w) : R < w.heap.size := (Array.getElem?_eq_some_iff.1 h).1
theorem Px.keep {w' : World} (h : Px R v e p w) (hb : Below w.heap.size w w') : Px R v e p w' := (hb.block R h.lt).trans h
theorem Px.put (h : Px R v e p w) (v' : Value) : Px R v' e p (w.setCell ⟨R, 0, none⟩ v') := heap_setCell_same w R 0 _ _ _ h
theorem Px.place (h : Px R v e p w) (j : Int) : Px R v e j (w.setCell ⟨R, 2, none⟩ (.int .i64 j)) := heap_setCell_same w R 2 _ _ _ h
theorem Px.drew (h : Px R v e p w) : Px R v e p w.drew := h
end
structure PxC (R : Nat) (v : Value) (e p : Int) (w : World) : Prop where
  c0 : w.cell? ⟨R, 0, none⟩ = some v
  c1 : w.cell? ⟨R, 1, none⟩ = some (.int .i64 e)
  c2 : w.cell? ⟨R, 2, none⟩ = some (.int .i64 p)
  z0 : w.frozen? ⟨R, 0, none⟩ = false
  z2 : w.frozen? ⟨R, 2, none⟩ = false
theorem Px.cells {R : Nat} {v : Value} {e p : Int} {w : World} (h : Px R v e p w) : PxC R v e p w :=
  ⟨(cell_of_row w R 0 _ _ _ h).trans rfl, (cell_of_row w R 1 _ _ _ h).trans rfl, (cell_of_row w R 2 _ _ _ h).trans rfl, frozen_of_row w R 0 _ _ h, frozen_of_row w R 2 _ _ h⟩
theorem cell_kr {R : Nat} {w w' : World} {a : Addr} {u : Value} (h : w.cell? a = some u) (hk : Kr R w w') (ha : a.block ≠ R) : w'.cell? a = some u := by
  have hlt := World.block_lt_of_cell? w a h
  have hb := hk.block a.block hlt ha
  have e : w'.cell? a = w.cell? a := by simp only [World.cell?, hb]
  rw [e]
  exact h
theorem WdAt.kr {R : Nat} {w w' : World} {b o : Nat} {ws : List (Wd × Nat)} (h : WdAt w b o ws) (hk : Kr R w w') (hb : b ≠ R) : WdAt w' b o ws :=
  fun i hi => ⟨cell_kr (h i hi).1 hk hb, cell_kr (h i hi).2.1 hk hb, cell_kr (h i hi).2.2 hk hb⟩
/-- Is a word the sign | , or not. -/
def Bar (x : Wd) : Prop := x.k = 6 ∧ x.x = [124]
def NoBar (x : Wd) : Prop := ¬ Bar x
abbrev wsV (b o n c : Nat) : Value := .slice (some ⟨b, o, none⟩) n c
set_option maxHeartbeats 1000000 in
set_option maxRecDepth 100000 in
theorem see_c {R : Nat} {e p : Int} {b o c : Nat} {ws : List (Wd × Nat)} (hbR : b ≠ R) (w : World) (h : Px R (wsV b o ws.length c) e p w) (hw : WdAt w b o ws) :
    Calls Tryz.prog 56 #[.pointer (some ⟨R, 0, none⟩)] w fun en w' => en = .returned (.tuple #[]) ∧ (∃ p', Px R (wsV b o ws.length c) e p' w') ∧ Kr R w w' := by
  obtain ⟨c0, c1, c2, z0, z2⟩ := h.cells
  have H1 := Lib.hid (And.intro (h.place e) (Kr.set (R := R) (i := 2) w (.int .i64 e)))
  have H2 := Lib.hid (hw.kr H1.out.2 hbR)
  have HH := Lib.hid h
  obtain ⟨n, hn⟩ : ∃ n, n = ws.length := ⟨_, rfl⟩
  rw [← hn] at c0 H1 HH ⊢
  have HN := Lib.hid hn
  clear h hw hn
  by_cases h0 : n = 0
  · subst h0
    go_enter Tryz.func56, Tryz.ntmps56
    go_wp2_with fail
    go_end0
    exact ⟨rfl, ⟨_, H1.out.1⟩, H1.out.2⟩
  · have hlt : 0 < ws.length := by have := HN.out; omega
    obtain ⟨d0, d1, d2⟩ := H2.out 0 hlt
    have i0 : (0 : Int) < (n : Int) := by omega
    have hd : decide ((0 : Int) < (n : Int)) = true := decide_eq_true i0
    have hd2 : decide (0 < n) = true := decide_eq_true (by omega)
    obtain ⟨k0, k1, k2, y0, y2⟩ := H1.out.1.cells
    generalize (ws[0].2 : Int) = q at *
    rw [Nat.zero_mul, Nat.add_zero] at d0 d1 d2
    have H3 := Lib.hid (And.intro (H1.out.1.place q) (H1.out.2.trans (Kr.set (R := R) (i := 2) (w.setCell ⟨R, 2, none⟩ (.int .i64 e)) (.int .i64 q))))
    go_enter Tryz.func56, Tryz.ntmps56
    go_wp2_with fail
    go_end0
    exact ⟨rfl, ⟨_, H3.out.1⟩, H3.out.2⟩
set_option maxHeartbeats 1000000 in
set_option maxRecDepth 100000 in
theorem passPipe_c {R : Nat} {e p : Int} {b o c : Nat} {x : Wd × Nat} {t : List (Wd × Nat)} (hbR : b ≠ R) (hc : t.length + 1 ≤ c) (hlen : t.length ≤ 4194304) (w : World) (h : Px R (wsV b o (t.length + 1) c) e p w) (hw : WdAt w b o (x :: t)) :
    Calls Tryz.prog 59 #[.pointer (some ⟨R, 0, none⟩)] w fun en w' => Kr R w w' ∧ ((Bar x.1 ∧ en = .returned (.tuple #[]) ∧ ∃ p' o' c', t.length ≤ c' ∧ WdAt w' b o' t ∧ Px R (wsV b o' t.length c') e p' w') ∨ (NoBar x.1 ∧ en = Fault 33 ∧ ∃ v' p', Px R v' e p' w')) := by
  have hse := see_c (ws := x :: t) hbR w h hw
  have HW := Lib.hid hw
  have hs1 := fun W => isSign_c x [124] W
  replace hs1 : ∀ W, Calls Tryz.prog 89 #[wdV x, .string ⟨#[124]⟩] W fun e w' => e = .returned (.bool (decide (x.1.k = 6 ∧ x.1.x = [124]))) ∧ Below W.heap.size W w' := hs1
  obtain ⟨n, hn⟩ : ∃ n, n = t.length + 1 := ⟨_, rfl⟩
  have hse : Calls Tryz.prog 56 #[.pointer (some ⟨R, 0, none⟩)] w fun en w' => en = .returned (.tuple #[]) ∧ (∃ p', Px R (wsV b o n c) e p' w') ∧ Kr R w w' := by rw [hn]; exact hse
  have HN : Hid (t.length = n - 1) := by show _ = _; omega
  rw [HN.out]
  have i0 : (0 : Int) < (n : Int) := by omega
  have i1 : (1 : Int) ≤ (n : Int) := by omega
  have i2 : (n : Int) ≤ (c : Int) := by omega
  have i3 : (n : Int) ≤ 4194305 := by omega
  have i4 : 1 ≤ n := by omega
  have i5 : n ≤ c := by omega
  clear h hw hn hc hlen
  go_enter Tryz.func59, Tryz.ntmps59
  go_wp2_with fail
  refine hse.mono ?_
  clear hse
  rintro en w1 ⟨rfl, ⟨p1, h1⟩, k1⟩
  have H1 := Lib.hid (And.intro h1 k1)
  obtain ⟨c0, c1, c2, z0, z2⟩ := h1.cells
  obtain ⟨d0, d1, d2⟩ := (HW.out.kr k1 hbR) 0 (by simp)
  rw [Nat.zero_mul, Nat.add_zero] at d0 d1 d2
  have d0 : w1.cell? ⟨b, o, none⟩ = some (.int .i64 (x.1.k : Int)) := d0
  have d1 : w1.cell? ⟨b, o + 1, none⟩ = some (.string (S x.1.x)) := d1
  have d2 : w1.cell? ⟨b, o + 2, none⟩ = some (.int .i64 (x.2 : Int)) := d2
  clear h1 k1
  go_wp2_with fail
  refine (hs1 _).mono ?_
  clear hs1
  rintro en w2 ⟨rfl, hb2⟩
  have H2 := Lib.hid (And.intro (H1.out.1.keep hb2) (H1.out.2.trans (Kr.of (R := R) hb2)))
  clear c0 c1 c2 z0 z2 d0 d1 d2 hb2 H1
  by_cases hx : x.1.k = 6 ∧ x.1.x = [124]
  · rw [decide_eq_true hx]
    have HX : Hid (Bar x.1) := hx
    clear hx
    obtain ⟨c0, c1, c2, z0, z2⟩ := H2.out.1.cells
    by_cases hc1 : c = 1
    · obtain rfl : n = 1 := by omega
      subst hc1
      have HP := Lib.hid (And.intro (H2.out.1.put (wsV b o 0 0)) (H2.out.2.trans (Kr.set (R := R) (i := 0) w2 (wsV b o 0 0))))
      have hT : t = [] := List.eq_nil_of_length_eq_zero (by rw [HN.out])
      have HT := Lib.hid hT
      clear hT
      go_wp2_with (go_at_call 57; refine (demand_yes _ _).mono ?_; rintro e w3 ⟨rfl, rfl⟩)
      go_end0
      exact ⟨HP.out.2, .inl ⟨HX.out, rfl, _, o, 0, by first | exact Nat.le_refl _ | omega, by rw [HT.out]; exact fun i hi => absurd hi (by simp), HP.out.1⟩⟩
    · have q1 : ¬ c - 1 = 0 := by omega
      have q2 : ((c : Int) - 1 == 0) = false := by rw [beq_eq_false_iff_ne]; omega
      have HP := Lib.hid (And.intro (H2.out.1.put (wsV b (o + 3) (n - 1) (c - 1))) (H2.out.2.trans (Kr.set (R := R) (i := 0) w2 (wsV b (o + 3) (n - 1) (c - 1)))))
      have HT : Hid (WdAt (w2.setCell ⟨R, 0, none⟩ (wsV b (o + 3) (n - 1) (c - 1))) b (o + 3) t) := (HW.out.drop (n := 1)).kr HP.out.2 hbR
      go_wp2_with (go_at_call 57; refine (demand_yes _ _).mono ?_; rintro e w3 ⟨rfl, rfl⟩)
      go_end0
      exact ⟨HP.out.2, .inl ⟨HX.out, rfl, _, o + 3, c - 1, by omega, HT.out, HP.out.1⟩⟩
  · rw [decide_eq_false hx]
    have HX : Hid (NoBar x.1) := hx
    clear hx
    go_wp2_with fail
    refine (demand_no _ _).mono ?_
    rintro e w3 ⟨rfl, rfl⟩
    exact ⟨rfl, H2.out.2, .inr ⟨HX.out, rfl, _, _, H2.out.1⟩⟩
set_option maxHeartbeats 1000000 in
set_option maxRecDepth 100000 in
theorem cut_c {R : Nat} {e p : Int} {b o c : Nat} {ws : List (Wd × Nat)} (hbR : b ≠ R) (hc : ws.length ≤ c) (hlen : ws.length ≤ 4194304) (hg : ∀ x ∈ ws, GoodX x.1) (w : World) (h : Px R (wsV b o ws.length c) e p w) (hw : WdAt w b o ws) :
    Calls Tryz.prog 85 #[.pointer (some ⟨R, 0, none⟩)] w fun en w' => en = .returned (wsV b o (callN ws) c) ∧ (∃ o' c', (ws.drop (callN ws)).length ≤ c' ∧ WdAt w' b o' (ws.drop (callN ws)) ∧ Px R (wsV b o' (ws.drop (callN ws)).length c') e p w') ∧ Kr R w w' := by
  have hle := callN_le ws
  have hix := index_c ws hg b o c hlen w hw
  have hI : callI ws = if callN ws = ws.length then -1 else (callN ws : Int) := rfl
  obtain ⟨n, hn⟩ : ∃ n, n = ws.length := ⟨_, rfl⟩
  obtain ⟨m, hm⟩ : ∃ m, m = callN ws := ⟨_, rfl⟩
  rw [← hn] at hle hix hc hlen h hI
  rw [← hm] at hle hI ⊢
  obtain ⟨c0, c1, c2, z0, z2⟩ := h.cells
  have HH := Lib.hid h
  have HW := Lib.hid hw
  have HD : Hid ((ws.drop m).length = n - m) := by show _ = _; rw [List.length_drop, ← hn]
  have i0 : (0 : Int) ≤ (m : Int) := by omega
  have i1 : (m : Int) ≤ (n : Int) := by omega
  have i2 : (n : Int) ≤ (c : Int) := by omega
  have i3 : (n : Int) ≤ 4194304 := by omega
  clear hn hm h hw hg
  by_cases hmn : m = n
  · rw [if_pos hmn] at hI
    rw [hI] at hix
    subst hmn
    rw [Nat.sub_self] at HD
    clear hI
    go_enter Tryz.func85, Tryz.ntmps85
    go_wp2_with fail
    refine hix.mono ?_
    clear hix
    rintro en w1 ⟨rfl, hb1⟩
    have H1 := Lib.hid (And.intro (HH.out.keep hb1) (Kr.of (R := R) hb1))
    clear c0 c1 c2 z0 z2 hb1 HH
    obtain ⟨c0, c1, c2, z0, z2⟩ := H1.out.1.cells
    by_cases hcm : c = m
    · subst hcm
      have HP := Lib.hid (And.intro (H1.out.1.put (wsV b o 0 0)) (H1.out.2.trans (Kr.set (R := R) (i := 0) w1 (wsV b o 0 0))))
      have hT : ws.drop c = [] := List.eq_nil_of_length_eq_zero HD.out
      go_wp2_with fail
      go_ret
      rw [hT]
      exact ⟨rfl, ⟨o, 0, Nat.zero_le _, fun i hi => absurd hi (by simp), HP.out.1⟩, HP.out.2⟩
    · have q1 : ¬ c - m = 0 := by omega
      have q2 : ((c : Int) - (m : Int) == 0) = false := by rw [beq_eq_false_iff_ne]; omega
      have HP := Lib.hid (And.intro (H1.out.1.put (wsV b (o + m * 3) 0 (c - m))) (H1.out.2.trans (Kr.set (R := R) (i := 0) w1 (wsV b (o + m * 3) 0 (c - m)))))
      have HT : Hid (WdAt (w1.setCell ⟨R, 0, none⟩ (wsV b (o + m * 3) 0 (c - m))) b (o + m * 3) (ws.drop m)) := (HW.out.drop (n := m)).kr HP.out.2 hbR
      go_wp2_with fail
      go_ret
      rw [HD.out]
      exact ⟨rfl, ⟨o + m * 3, c - m, by omega, HT.out, HP.out.1⟩, HP.out.2⟩
  · rw [if_neg hmn] at hI
    rw [hI] at hix
    have j1 : ¬ (m : Int) < 0 := by omega
    clear hI hmn
    go_enter Tryz.func85, Tryz.ntmps85
    go_wp2_with fail
    refine hix.mono ?_
    clear hix
    rintro en w1 ⟨rfl, hb1⟩
    have H1 := Lib.hid (And.intro (HH.out.keep hb1) (Kr.of (R := R) hb1))
    clear c0 c1 c2 z0 z2 hb1 HH
    obtain ⟨c0, c1, c2, z0, z2⟩ := H1.out.1.cells
    by_cases hcm : c = m
    · subst hcm
      obtain rfl : n = c := by omega
      have HP := Lib.hid (And.intro (H1.out.1.put (wsV b o 0 0)) (H1.out.2.trans (Kr.set (R := R) (i := 0) w1 (wsV b o 0 0))))
      have hT : ws.drop n = [] := List.eq_nil_of_length_eq_zero (by rw [HD.out, Nat.sub_self])
      go_wp2_with fail
      go_ret
      rw [hT]
      exact ⟨rfl, ⟨o, 0, Nat.zero_le _, fun i hi => absurd hi (by simp), HP.out.1⟩, HP.out.2⟩
    · have q1 : ¬ c - m = 0 := by omega
      have q2 : ((c : Int) - (m : Int) == 0) = false := by rw [beq_eq_false_iff_ne]; omega
      have HP := Lib.hid (And.intro (H1.out.1.put (wsV b (o + m * 3) (n - m) (c - m))) (H1.out.2.trans (Kr.set (R := R) (i := 0) w1 (wsV b (o + m * 3) (n - m) (c - m)))))
      have HT : Hid (WdAt (w1.setCell ⟨R, 0, none⟩ (wsV b (o + m * 3) (n - m) (c - m))) b (o + m * 3) (ws.drop m)) := (HW.out.drop (n := m)).kr HP.out.2 hbR
      go_wp2_with fail
      go_ret
      rw [HD.out]
      exact ⟨rfl, ⟨o + m * 3, c - m, by omega, HT.out, HP.out.1⟩, HP.out.2⟩
end Go.Proofs.YtmccbcficbbidaaGreatDoor.Pw

/-
  Contract of package pipes: fits; a call's words one by one, with no program.
-/
namespace Go.Proofs.YtmccbcficbbidaaGreatDoor.Pw
open Go.RowKit Go.Proofs.YtmccbcficbbidaaGreatDoor.Oct Go.Proofs.YtmccbcficbbidaaGreatDoor.Lex Go.Proofs.YtmccbcficbbidaaGreatDoor.Lxw Go.Proofs.YtmccbcficbbidaaGreatDoor.Pip

/-- Does a call with so many arguments, of that name, behind so many, fit. -/
def fitsB (s : List UInt8) (n k : Nat) : Bool := if s = [] then decide (k = 0 ∧ n = 1) else match arityL s with
  | none => false
  | some m => decide (m.1 ≤ n + (if 0 < k then 1 else 0) ∧ n + (if 0 < k then 1 else 0) ≤ m.2)
set_option maxHeartbeats 1000000 in
set_option maxRecDepth 100000 in
theorem fits_c (s : List UInt8) (n k : Nat) (p : Option Addr) (c : Nat) (hn : n ≤ 1152921504606846976) (hk : k ≤ 1152921504606846976) (w : World) :
    Calls Tryz.prog 19 #[.agg #[.string (S s), .slice p n c], .int .i64 (k : Int)] w fun e w' => e = .returned (.bool (fitsB s n k)) ∧ Below w.heap.size w w' := by
  have hq := eqN s
  have har := fun W => arity_c s W
  have hwi := fun a b c W => within_c a b c W
  have hal := Lib.hid ((Below.refl _ w).alloc (Nat.le_refl _) (.cells #[.string (S s), .slice p n c] 41))
  have i0 : (n : Int) ≤ 1152921504606846976 := by omega
  have i1 : (k : Int) ≤ 1152921504606846976 := by omega
  have i2 : (0 : Int) ≤ (n : Int) := by omega
  by_cases hs : s = []
  · rw [decide_eq_true hs] at hq
    have hE : Hid (fitsB s n k = (decide ((k : Int) = 0) && decide ((n : Int) = 1))) := by
      show _ = _
      unfold fitsB
      rw [if_pos hs, Bool.eq_iff_iff]
      simp
      omega
    generalize fitsB s n k = ans at *
    generalize S s = T at *
    clear hs har hwi
    by_cases h0 : (k : Int) = 0
    · have hA : Hid (ans = decide ((n : Int) = 1)) := by show _ = _; rw [hE.out, decide_eq_true h0, Bool.true_and]
      rw [h0]
      by_cases h1 : (n : Int) = 1
      · have hA2 : Hid (ans = true) := by show _ = _; rw [hA.out, decide_eq_true h1]
        have hn1 : n = 1 := by omega
        subst hn1
        clear hE h0 hA h1
        go_enter Tryz.func19, Tryz.ntmps19
        go_wp2_with fail
        go_ret
        exact ⟨by rw [hA2.out]; rfl, hal.out⟩
      · have hA2 : Hid (ans = false) := by show _ = _; rw [hA.out, decide_eq_false h1]
        have b1 : ((n : Int) == 1) = false := by rw [beq_eq_false_iff_ne]; exact h1
        have n1 : ¬ n = 1 := by omega
        clear hE h0 hA
        go_enter Tryz.func19, Tryz.ntmps19
        go_wp2_with fail
        go_ret
        exact ⟨by rw [hA2.out]; rfl, hal.out⟩
    · have hA : Hid (ans = false) := by show _ = _; rw [hE.out, decide_eq_false h0, Bool.false_and]
      have b0 : ((k : Int) == 0) = false := by rw [beq_eq_false_iff_ne]; exact h0
      have n0 : ¬ k = 0 := by omega
      clear hE
      go_enter Tryz.func19, Tryz.ntmps19
      go_wp2_with fail
      go_ret
      exact ⟨by rw [hA.out]; rfl, hal.out⟩
  · rw [decide_eq_false hs] at hq
    cases hA : arityL s with
    | none =>
      have hE : Hid (fitsB s n k = false) := by show _ = _; unfold fitsB; rw [if_neg hs, hA]
      have e : arityE s = .tuple #[.int .i64 0, .int .i64 0, .bool false] := by unfold arityE; rw [hA]
      rw [e] at har
      generalize fitsB s n k = ans at *
      generalize S s = T at *
      clear hs e hA hwi
      by_cases h0 : k = 0
      · subst h0
        go_enter Tryz.func19, Tryz.ntmps19
        go_wp2_with (go_at_call 41; refine (har _).mono ?_; rintro e w1 ⟨rfl, rfl⟩)
        go_ret
        exact ⟨by rw [hE.out]; rfl, hal.out⟩
      · have h1 : (0 : Int) < (k : Int) := by omega
        have hd : decide ((0 : Int) < (k : Int)) = true := decide_eq_true h1
        have hd2 : decide (0 < k) = true := decide_eq_true (by omega)
        go_enter Tryz.func19, Tryz.ntmps19
        go_wp2_with (go_at_call 41; refine (har _).mono ?_; rintro e w1 ⟨rfl, rfl⟩)
        go_ret
        exact ⟨by rw [hE.out]; rfl, hal.out⟩
    | some m =>
      have e : arityE s = .tuple #[.int .i64 (m.1 : Int), .int .i64 (m.2 : Int), .bool true] := by unfold arityE; rw [hA]
      rw [e] at har
      obtain ⟨a, b⟩ := m
      by_cases h0 : k = 0
      · have hE : Hid (fitsB s n k = decide ((a : Int) ≤ (n : Int) ∧ (n : Int) ≤ (b : Int))) := by
          show _ = _
          unfold fitsB
          rw [if_neg hs, hA, h0, Bool.eq_iff_iff]
          simp
          try omega
        generalize fitsB s n k = ans at *
        generalize S s = T at *
        have har : ∀ W, Calls Tryz.prog 41 #[.string T] W fun e w' => e = .returned (.tuple #[.int .i64 (a : Int), .int .i64 (b : Int), .bool true]) ∧ W = w' := har
        have hw1 := hwi (n : Int) (a : Int) (b : Int)
        generalize decide ((a : Int) ≤ (n : Int) ∧ (n : Int) ≤ (b : Int)) = q at *
        subst h0
        clear hs e hA hwi
        go_enter Tryz.func19, Tryz.ntmps19
        go_wp2_with (first
          | (go_at_call 41; refine (har _).mono ?_; rintro e w1 ⟨rfl, rfl⟩)
          | (go_at_call 18; refine (hw1 _).mono ?_; rintro e w1 ⟨rfl, rfl⟩))
        go_ret
        exact ⟨by rw [hE.out]; rfl, hal.out⟩
      · obtain ⟨n', hn'⟩ : ∃ n', n' = n + 1 := ⟨_, rfl⟩
        have hE : Hid (fitsB s n k = decide ((a : Int) ≤ (n' : Int) ∧ (n' : Int) ≤ (b : Int))) := by
          show _ = _
          unfold fitsB
          rw [if_neg hs, hA, if_pos (by omega), ← hn', Bool.eq_iff_iff]
          simp
          try omega
        have hni : (n : Int) + 1 = (n' : Int) := by omega
        have h1 : (0 : Int) < (k : Int) := by omega
        have hd : decide ((0 : Int) < (k : Int)) = true := decide_eq_true h1
        have hd2 : decide (0 < k) = true := decide_eq_true (by omega)
        generalize fitsB s n k = ans at *
        generalize S s = T at *
        have har : ∀ W, Calls Tryz.prog 41 #[.string T] W fun e w' => e = .returned (.tuple #[.int .i64 (a : Int), .int .i64 (b : Int), .bool true]) ∧ W = w' := har
        have hw1 := hwi (n' : Int) (a : Int) (b : Int)
        generalize decide ((a : Int) ≤ (n' : Int) ∧ (n' : Int) ≤ (b : Int)) = q at *
        clear hs e hA hwi hn' h0
        go_enter Tryz.func19, Tryz.ntmps19
        go_wp2_with (first
          | (go_at_call 41; refine (har _).mono ?_; rintro e w1 ⟨rfl, rfl⟩)
          | (go_at_call 18; refine (hw1 _).mono ?_; rintro e w1 ⟨rfl, rfl⟩))
        go_ret
        exact ⟨by rw [hE.out]; rfl, hal.out⟩

/-! ### Word by word -/
theorem args_snoc (l : List Wd) (w : Wd) : ∀ al, argsE l = .ok al → argsE (l ++ [w]) = match argE w with
    | .ok a => .ok (al ++ [a])
    | .error e => .error e := by
  induction l with
  | nil =>
    intro al h
    injection h with h
    subst h
    show argsE [w] = _
    unfold argsE
    cases argE w <;> rfl
  | cons v t ih =>
    intro al h
    unfold argsE at h
    cases hv : argE v with
    | error e => rw [hv] at h; cases h
    | ok a =>
      rw [hv] at h
      dsimp only at h
      cases ht : argsE t with
      | error e => rw [ht] at h; cases h
      | ok bl =>
        rw [ht] at h
        injection h with h
        subst h
        rw [List.cons_append]
        conv => lhs; unfold argsE
        rw [hv]
        dsimp only
        rw [ih bl ht]
        cases argE w <;> rfl
theorem args_err (l r : List Wd) (w : Wd) {n : Nat} (hw : argE w = .error n) : ∀ al, argsE l = .ok al → argsE (l ++ w :: r) = .error n := by
  induction l with
  | nil =>
    intro al _
    show argsE (w :: r) = _
    unfold argsE
    rw [hw]
  | cons v t ih =>
    intro al h
    unfold argsE at h
    cases hv : argE v with
    | error e => rw [hv] at h; cases h
    | ok a =>
      rw [hv] at h
      dsimp only at h
      cases ht : argsE t with
      | error e => rw [ht] at h; cases h
      | ok bl =>
        rw [List.cons_append]
        unfold argsE
        rw [hv]
        dsimp only
        rw [ih bl ht]
/-- Where a call stands: its first words done, its name and arguments so far. -/
inductive St (ws : List Wd) (k : Nat) : Nat → List UInt8 → List Ar → Prop
  | start : St ws k 0 [] []
  | func (w : Wd) (t : List Wd) (m : Nat × Nat) (i : Nat) (al : List Ar) (h : ws = w :: t) (h1 : ¬ (w.k ≠ 1 ∨ constB w.x = true)) (hm : arityL w.x = some m) (ha : argsE (t.take i) = .ok al) (hl : al.length = i) (hi : i ≤ t.length) : St ws k (i + 1) w.x al
  | one (w : Wd) (t : List Wd) (a : Ar) (h : ws = w :: t) (h1 : w.k ≠ 1 ∨ constB w.x = true) (hk : k = 0) (ha : argE w = .ok a) : St ws k 1 [] [a]
theorem call_nofun {w : Wd} {t : List Wd} {k : Nat} (h1 : ¬ (w.k ≠ 1 ∨ constB w.x = true)) (hm : arityL w.x = none) : callE (w :: t) (decide (0 < k)) = .error 31 := by
  unfold callE
  dsimp only
  rw [if_neg h1, hm]
theorem call_behind {w : Wd} {t : List Wd} {k : Nat} (h1 : w.k ≠ 1 ∨ constB w.x = true) (hk : 0 < k) : callE (w :: t) (decide (0 < k)) = .error 33 := by
  unfold callE
  dsimp only
  rw [if_pos h1, decide_eq_true hk, if_pos rfl]
theorem call_noarg {w : Wd} {t : List Wd} {n : Nat} (h1 : w.k ≠ 1 ∨ constB w.x = true) (ha : argE w = .error n) : callE (w :: t) (decide (0 < 0)) = .error n := by
  unfold callE
  dsimp only
  rw [if_pos h1, if_neg (by simp), ha]
theorem St.len {ws : List Wd} {k i : Nat} {nm : List UInt8} {al : List Ar} (h : St ws k i nm al) : al.length ≤ i := by
  cases h with
  | start => exact Nat.le_refl _
  | func w t m i al h h1 hm ha hl hi => omega
  | one w t a h h1 hk ha => exact Nat.le_refl _
/-- What the next word's error is worth. -/
theorem St.err {ws : List Wd} {k i n : Nat} {nm : List UInt8} {al : List Ar} (h : St ws k i nm al) (hi : i < ws.length) (hn : nm ≠ []) (ha : argE ws[i] = .error n) : callE ws (decide (0 < k)) = .error n := by
  cases h with
  | start => exact absurd rfl hn
  | func w t m i al h h1 hm ha2 hl hi2 =>
    subst h
    have hit : i < t.length := by simpa using hi
    have e : (w :: t)[i + 1] = t[i] := rfl
    rw [e] at ha
    unfold callE
    dsimp only
    rw [if_neg h1, hm]
    dsimp only
    have ht : t = t.take i ++ t[i] :: t.drop (i + 1) := by rw [← List.drop_eq_getElem_cons hit, List.take_append_drop]
    rw [ht, args_err _ _ _ ha _ ha2]
  | one w t a h h1 hk ha2 => exact absurd rfl hn
theorem St.next {ws : List Wd} {k i : Nat} {nm : List UInt8} {al : List Ar} {a : Ar} (h : St ws k i nm al) (hi : i < ws.length) (hn : nm ≠ []) (ha : argE ws[i] = .ok a) : St ws k (i + 1) nm (al ++ [a]) := by
  cases h with
  | start => exact absurd rfl hn
  | func w t m i al h h1 hm ha2 hl hi2 =>
    have hit : i < t.length := by rw [h] at hi; simpa using hi
    have e : ws[i + 1] = t[i] := by simp only [h]; rfl
    rw [e] at ha
    refine .func w t m (i + 1) (al ++ [a]) h h1 hm ?_ (by simp [hl]) hit
    rw [List.take_succ_eq_append_getElem hit, args_snoc _ _ _ ha2, ha]
  | one w t a h h1 hk ha2 => exact absurd rfl hn
/-- Behind one argument no word may stand. -/
theorem St.more {ws : List Wd} {k i : Nat} {al : List Ar} (h : St ws k i [] al) (hi : i < ws.length) (h0 : i ≠ 0) : callE ws (decide (0 < k)) = .error 33 := by
  cases hnm : ([] : List UInt8) with
  | cons c t => cases hnm
  | nil =>
    generalize hq : ([] : List UInt8) = nm at h
    cases h with
    | start => exact absurd rfl h0
    | func w t m i al h h1 hm ha hl hi2 =>
      have := (arity_name hm).2.2.2
      exact absurd hq.symm this
    | one w t a h h1 hk ha =>
      subst h
      subst hk
      have ht : t ≠ [] := fun e => by subst e; simp at hi
      unfold callE
      dsimp only
      rw [if_pos h1, if_neg (by simp), ha]
      dsimp only
      rw [if_neg ht]
/-- What a call is, at its end. -/
theorem St.fin {ws : List Wd} {k : Nat} {nm : List UInt8} {al : List Ar} (h : St ws k ws.length nm al) (h0 : ws ≠ []) : callE ws (decide (0 < k)) = if fitsB nm al.length k = true then .ok ⟨nm, al⟩ else .error 3 := by
  generalize hq : ws.length = q at h
  cases h with
  | start => exact absurd (List.eq_nil_of_length_eq_zero hq) h0
  | func w t m i al h h1 hm ha hl hi2 =>
    subst h
    have hti : t.take i = t := by rw [List.take_of_length_le]; simp at hq; omega
    rw [hti] at ha
    have hne := (arity_name hm).2.2.2
    unfold callE
    dsimp only
    rw [if_neg h1, hm]
    dsimp only
    rw [ha]
    dsimp only
    have hf : fitsB w.x al.length k = !tooMany m al.length (decide (0 < k)) := by
      unfold fitsB tooMany
      rw [if_neg hne, hm, Bool.eq_iff_iff]
      have e : (if decide (0 < k) = true then 1 else 0) = (if 0 < k then 1 else 0 : Nat) := by
        by_cases hk : 0 < k
        · rw [decide_eq_true hk, if_pos rfl, if_pos hk]
        · rw [decide_eq_false hk, if_neg (by simp), if_neg hk]
      rw [e]
      simp
    rw [hf]
    cases tooMany m al.length (decide (0 < k)) <;> rfl
  | one w t a h h1 hk ha =>
    subst h
    subst hk
    have ht : t = [] := List.eq_nil_of_length_eq_zero (by simpa using hq)
    subst ht
    unfold callE
    dsimp only
    rw [if_pos h1, if_neg (by simp), ha]
    rfl
end Go.Proofs.YtmccbcficbbidaaGreatDoor.Pw

/-
  A call under way in memory.
-/
namespace Go.Proofs.YtmccbcficbbidaaGreatDoor.Pw
open Go.RowKit Go.Proofs.YtmccbcficbbidaaGreatDoor.Oct Go.Proofs.YtmccbcficbbidaaGreatDoor.Lex Go.Proofs.YtmccbcficbbidaaGreatDoor.Lxw Go.Proofs.YtmccbcficbbidaaGreatDoor.Pip

/-- A call's own words. -/
abbrev ownW (ws : List (Wd × Nat)) : List Wd := (ws.take (callN ws)).map Prod.fst
theorem own_take (ws : List (Wd × Nat)) : ownW ws = (ws.map Prod.fst).takeWhile isWord := by
  unfold ownW callN
  induction ws with
  | nil => rfl
  | cons x t ih =>
    cases hb : isWord x.1 with
    | true =>
      rw [List.takeWhile_cons_of_pos (p := fun x : Wd × Nat => isWord x.1) hb, List.map_cons, List.takeWhile_cons_of_pos hb, List.length_cons, List.take_succ_cons, List.map_cons, ih]
    | false =>
      rw [List.takeWhile_cons_of_neg (p := fun x : Wd × Nat => isWord x.1) (by rw [hb]; simp), List.map_cons, List.takeWhile_cons_of_neg (by rw [hb]; simp)]
      rfl
theorem own_drop (ws : List (Wd × Nat)) : (ws.drop (callN ws)).map Prod.fst = (ws.map Prod.fst).dropWhile isWord := by
  unfold callN
  induction ws with
  | nil => rfl
  | cons x t ih =>
    cases hb : isWord x.1 with
    | true =>
      rw [List.takeWhile_cons_of_pos (p := fun x : Wd × Nat => isWord x.1) hb, List.map_cons, List.dropWhile_cons_of_pos hb, List.length_cons, List.drop_succ_cons, ih]
    | false =>
      rw [List.takeWhile_cons_of_neg (p := fun x : Wd × Nat => isWord x.1) (by rw [hb]; simp), List.map_cons, List.dropWhile_cons_of_neg (by rw [hb]; simp)]
      rfl
theorem map_at {ws : List (Wd × Nat)} {i : Nat} (hi : i < ws.length) (h : i < (ws.map Prod.fst).length) : (ws.map Prod.fst)[i] = ws[i].1 := List.getElem_map _
/-- What call answers: its own words, those behind. -/
def CallRes (R : Nat) (e : Int) (b : Nat) (own : List Wd) (rest : List (Wd × Nat)) (k : Nat) (w : World) (en : Ending) (w' : World) : Prop := Kr R w w' ∧
  ((∃ c p' p2 cc, callE own (decide (0 < k)) = .ok c ∧ k < 16 ∧ en = .returned (caV c (.slice p2 c.as.length cc)) ∧ ArgR w.heap.size w' (.slice p2 c.as.length cc) c.as ∧
      ∃ o' c', rest.length ≤ c' ∧ WdAt w' b o' rest ∧ Px R (wsV b o' rest.length c') e p' w') ∨
   (∃ n : Nat, n ≠ 0 ∧ en = Fault (n : Int) ∧ (callE own (decide (0 < k)) = .error n ∨ ((∃ c, callE own (decide (0 < k)) = .ok c) ∧ ¬ k < 16 ∧ n = 3)) ∧ ∃ v' p', Px R v' e p' w'))
abbrev CallTo (R : Nat) (e : Int) (b : Nat) (ws : List (Wd × Nat)) (k : Nat) (w : World) (en : Ending) (w' : World) : Prop := CallRes R e b (ownW ws) (ws.drop (callN ws)) k w en w'
theorem cell_own {w w' : World} {a : Addr} {v : Value} (h : w.cell? a = some v) (hb : w'.heap[a.block]? = w.heap[a.block]?) : w'.cell? a = some v := by
  have e : w'.cell? a = w.cell? a := by simp only [World.cell?, hb]
  rw [e]
  exact h
/-! ### A call under way -/
/-- Two rows of one's own, of unlike kinds, do not share. -/
theorem own_other {w : World} {b1 b2 n1 n2 s1 s2 : Nat} {e1 e2 : TypeId} {v1 v2 : Value} {x1 x2 : List Value} (h1 : w.ownsRow b1 e1 s1 v1 n1 x1) (h2 : w.ownsRow b2 e2 s2 v2 n2 x2) (hne : e1 ≠ e2) (k : Nat) (hk : v1.ownBlock = some k) : v2.ownBlock ≠ some k := by
  intro hk2
  rcases h1.2 with ⟨rfl, _⟩ | ⟨g, cap, cur, rfl, _, hg, _⟩
  · simp [Value.ownBlock] at hk
  · rcases h2.2 with ⟨rfl, _⟩ | ⟨g2, cap2, cur2, rfl, _, hg2, _⟩
    · simp [Value.ownBlock] at hk2
    · simp only [Value.ownBlock, Option.some.injEq] at hk hk2
      subst hk
      subst hk2
      rw [hg] at hg2
      injection hg2 with hg2
      injection hg2 with _ h _
      exact hne h
theorem info_arg : (Tryz.prog.info? 44).map (fun i => (i.zero, i.size, i.bytes)) = some (some (.agg #[.int .i64 0, .string ⟨#[]⟩, .slice none 0 0, .int .i64 0, .string ⟨#[]⟩]), 5, 72) := by kernel_rfl
theorem push_ar (a : Ar) (p : Option Addr) (n c : Nat) : ∀ u ∈ arC a (.slice p n c), u.oneCell' = true := by
  intro u hu
  simp only [List.mem_cons, List.not_mem_nil, or_false] at hu
  rcases hu with rfl | rfl | rfl | rfl | rfl <;> rfl
/-- An argument is put to the arguments. -/
theorem ArgR.push {D : Nat} {w wB : World} {v v' vp : Value} {al : List Ar} {a : Ar} {o : Obj} {l : List (Ar × Value)} (h1 : l.map Prod.fst = al) (h2 : w.ownsRow D 44 5 v l.length (l.flatMap arC2)) (h3 : ∀ x ∈ l, PathR D w x.2 x.1.p) (hp : PathR D w vp a.p)
    (hown : wB.ownsRow D 44 5 v' (l.length + 1) (l.flatMap arC2 ++ arC a vp)) (hg : (w.alloc o).grownBy wB v.ownBlock) : ArgR D wB v' (al ++ [a]) := by
  have hal : Below w.heap.size w (w.alloc o) := (Below.refl _ _).alloc (Nat.le_refl _) _
  have hpath : ∀ vq ns, PathR D w vq ns → PathR D wB vq ns := fun vq ns hq =>
    own_same hq fun k _ he => (hg.block k (Nat.lt_of_lt_of_le (own_lt hq k he) hal.size) (fun e => own_other hq h2 (by decide) k he e.symm)).trans (hal.block k (own_lt hq k he))
  refine ⟨l ++ [(a, vp)], by rw [List.map_append, h1]; rfl, ?_, fun x hx => ?_⟩
  · rw [List.length_append, List.length_singleton, List.flatMap_append]
    simpa using hown
  · rcases List.mem_append.1 hx with hx | hx
    · exact hpath _ _ (h3 x hx)
    · have : x = (a, vp) := by simpa using hx
      subst this
      exact hpath _ _ hp
/-- The world while a call's words are read: it stood at w2 ahead of them. -/
structure Cl (R : Nat) (e : Int) (b o n c : Nat) (w2 : World) (nm : List UInt8) (va : Value) (al : List Ar) (wr : World) : Prop where
  kr : Kr R w2 wr
  px : ∃ p, Px R (wsV b o n c) e p wr
  box : wr.heap[w2.heap.size]? = some (.cells #[.string (S nm), va] 41 (0, 0))
  args : ArgR (w2.heap.size + 1) wr va al
  hR : R < w2.heap.size
section
variable {R : Nat} {e : Int} {b o n c : Nat} {w2 : World} {nm : List UInt8} {va : Value} {al : List Ar} {wr : World}
theorem Cl.low (h : Cl R e b o n c w2 nm va al wr) : w2.heap.size + 1 ≤ wr.heap.size := (Array.getElem?_eq_some_iff.1 h.box).1
theorem Cl.keep {W : World} (h : Cl R e b o n c w2 nm va al wr) (hb : Below wr.heap.size wr W) : Cl R e b o n c w2 nm va al W := by
  obtain ⟨p, hp⟩ := h.px
  exact ⟨h.kr.trans (Kr.of hb), ⟨p, hp.keep hb⟩, (hb.block _ h.low).trans h.box, h.args.same (kept_of hb), h.hR⟩
theorem Cl.place (h : Cl R e b o n c w2 nm va al wr) (j : Int) : Cl R e b o n c w2 nm va al (wr.setCell ⟨R, 2, none⟩ (.int .i64 j)) := by
  obtain ⟨p, hp⟩ := h.px
  have hR := h.hR
  refine ⟨h.kr.trans (Kr.set wr _), ⟨j, hp.place j⟩, ?_, h.args.same fun k hk _ => heap_setCell_other _ _ _ _ (by simp; omega), hR⟩
  rw [heap_setCell_other _ _ _ _ (by simp; omega)]
  exact h.box
theorem kr_box {W w' : World} {B i : Nat} {u : Value} (h : Kr R w2 W) (hB : w2.heap.size ≤ B) (hw : w' = W.setCell ⟨B, i, none⟩ u) : Kr R w2 w' := by
  subst hw
  exact ⟨h.os, h.tape, h.output, by simp [World.setCell]; exact h.size, fun k hk hR => (heap_setCell_other _ _ _ _ (by simp; omega)).trans (h.block k hk hR)⟩
theorem Cl.name (h : Cl R e b o n c w2 nm va al wr) (x : List UInt8) : Cl R e b o n c w2 x va al (wr.setCell ⟨w2.heap.size, 0, none⟩ (.string (S x))) := by
  obtain ⟨p, hp⟩ := h.px
  have hR := h.hR
  exact ⟨kr_box h.kr (Nat.le_refl _) rfl, ⟨p, (heap_setCell_other _ _ _ _ (by simp; omega)).trans hp⟩, heap_setCell_same wr w2.heap.size 0 _ _ _ h.box, h.args.same fun k hk _ => heap_setCell_other _ _ _ _ (by simp; omega), hR⟩
/-- Behind an append of one argument, and its store. -/
theorem Cl.push {wB : World} {v' vp : Value} {a : Ar} {o' : Obj} {l : List (Ar × Value)} (h : Cl R e b o n c w2 nm va al wr) (hl1 : l.map Prod.fst = al) (hl2 : wr.ownsRow (w2.heap.size + 1) 44 5 va l.length (l.flatMap arC2)) (hl3 : ∀ x ∈ l, PathR (w2.heap.size + 1) wr x.2 x.1.p) (hp : PathR (w2.heap.size + 1) wr vp a.p)
    (hown : wB.ownsRow (w2.heap.size + 1) 44 5 v' (l.length + 1) (l.flatMap arC2 ++ arC a vp)) (hg : (wr.alloc o').grownBy wB va.ownBlock) :
    Cl R e b o n c w2 nm v' (al ++ [a]) (wB.setCell ⟨w2.heap.size, 1, none⟩ v') ∧ wB.cell? ⟨w2.heap.size, 1, none⟩ = some va ∧ wB.frozen? ⟨w2.heap.size, 1, none⟩ = false := by
  have hal : Below wr.heap.size wr (wr.alloc o') := (Below.refl _ _).alloc (Nat.le_refl _) _
  have hR := h.hR
  have hlow := h.low
  have hst : ∀ k, k < w2.heap.size + 1 → k < wr.heap.size → wB.heap[k]? = wr.heap[k]? := fun k hk hkr =>
    (hg.block k (Nat.lt_of_lt_of_le hkr hal.size) (fun e => by have := own_ge hl2 k e.symm; omega)).trans (hal.block k hkr)
  have hbox : wB.heap[w2.heap.size]? = some (.cells #[.string (S nm), va] 41 (0, 0)) := (hst _ (by omega) (by omega)).trans h.box
  have hargs := ArgR.push hl1 hl2 hl3 hp hown hg
  have hkr : Kr R w2 wB := ⟨hg.os.trans (hal.os.trans h.kr.os), hg.tape.trans (hal.tape.trans h.kr.tape), hg.output.trans (hal.output.trans h.kr.output), Nat.le_trans h.kr.size (Nat.le_trans hal.size hg.size), fun k hk hkR => (hst k (by omega) (by omega)).trans (h.kr.block k hk hkR)⟩
  obtain ⟨p, hpx⟩ := h.px
  refine ⟨⟨kr_box hkr (Nat.le_refl _) rfl, ⟨p, ?_⟩, heap_setCell_same wB w2.heap.size 1 _ _ _ hbox, hargs.same fun k hk _ => heap_setCell_other _ _ _ _ (by simp; omega), hR⟩, (cell_of_row wB w2.heap.size 1 _ _ _ hbox).trans rfl, frozen_of_row wB w2.heap.size 1 _ _ hbox⟩
  show (wB.setCell ⟨w2.heap.size, 1, none⟩ v').heap[R]? = _
  rw [heap_setCell_other _ _ _ _ (by simp; omega)]
  exact (hst R (by omega) (by omega)).trans hpx
end
end Go.Proofs.YtmccbcficbbidaaGreatDoor.Pw
