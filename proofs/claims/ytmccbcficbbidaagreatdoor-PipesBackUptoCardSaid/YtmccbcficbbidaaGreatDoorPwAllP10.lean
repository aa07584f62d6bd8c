/-
  Part 10: PwLex4, PwLex5.
-/
import Derived.Test.YtmccbcficbbidaaGreatDoorPwAllP9
/-
  Contracts of package lex's reader: a number, a sign.
-/
namespace Go.Proofs.YtmccbcficbbidaaGreatDoor.Lxw
open Go.RowKit Go.Proofs.YtmccbcficbbidaaGreatDoor.Oct Go.Proofs.YtmccbcficbbidaaGreatDoor.Lex
open Go.Proofs.YtmccbcficbbidaaGreatDoor.Num (parseL)

/-- Where a number ends. -/
def numE (l : List UInt8) (k : Nat) : Except Nat Nat := if (parseL ((l.take (k + 1 + twN digC l (k + 1))).drop k)).2 = 0 then .ok (k + 1 + twN digC l (k + 1)) else .error 33

set_option maxHeartbeats 1000000 in
set_option maxRecDepth 100000 in
theorem passNumber_c {R : Nat} {l : List UInt8} {b : Int} {k : Nat} (hk : k < l.length) (hl : l.length ≤ 4194304) (w : World) (h : Rx R l b k k w) :
    Calls Tryz.prog 82 #[.pointer (some ⟨R, 0, none⟩)] w (PassTo R l b k (numE l k) w) := by
  have hR := h.lt
  have k0 : (0 : Int) ≤ (k : Int) := by omega
  have k1 : (k : Int) ≤ 4194304 := by omega
  obtain ⟨m, hm⟩ : ∃ m, m = k + 1 := ⟨_, rfl⟩
  have hmi : (k : Int) + 1 = (m : Int) := by omega
  have hml : m ≤ l.length := by omega
  obtain ⟨q, hq⟩ : ∃ q, q = m + twN digC l m := ⟨_, rfl⟩
  have hql : q ≤ l.length := by rw [hq]; exact twN_le digC l m hml
  have hmq : m ≤ q := by omega
  have HQ := Lib.hid hq
  have HNe := Lib.hid (fun j (hj : j ≤ l.length) W (h : Rx R l b j k W) => next_b hj hl W h)
  have HDi := Lib.hid (fun c W => digit_o c W)
  have HS := Lib.hid (And.intro (h.at_ (m : Int)) (Kr.set (R := R) (i := 2) w (.int .i64 (m : Int))))
  have hpa := fun W => Num.parse_c ((S l).extract k q) W (by rw [cutMid, size_S, List.length_drop, List.length_take]; omega)
  rw [cutMid, list_S, ← cutMid] at hpa
  have HE : Hid (((parseL ((l.take q).drop k)).2 = 0 ∧ numE l k = .ok q) ∨ ((parseL ((l.take q).drop k)).2 ≠ 0 ∧ numE l k = .error 33)) := by
    show _ ∨ _
    unfold numE
    rw [← hm, ← hq]
    by_cases h0 : (parseL ((l.take q).drop k)).2 = 0
    · exact .inl ⟨h0, by rw [if_pos h0]⟩
    · exact .inr ⟨h0, by rw [if_neg h0]⟩
  have hsz : ((S l).size : Int) = (l.length : Int) := by rw [size_S]
  have hsn : (S l).size = l.length := size_S l
  obtain ⟨c0, c1, c2, c3, z2, z3⟩ := h.cells
  clear h hq hm
  go_enter Tryz.func82, Tryz.ntmps82
  go_wp2_with fail
  clear c0 c1 c2 c3 z2 z3
  go_loopw [] (fun wr => ∃ j : Nat, m ≤ j ∧ j ≤ l.length ∧ Hid (Rx R l b j k wr) ∧ Hid (q = j + twN digC l j) ∧ Hid (Kr R w wr)) (fun wr => l.length - rAt R wr)
  case atStart => exact ⟨m, Nat.le_refl _, hml, HS.out.1, HQ.out, HS.out.2⟩
  case round =>
    clear HS
    obtain ⟨j, hmj, hj, hT, hE, hK⟩ := hrel
    have hAt := Lib.hid hT.out.rAt
    have hne := HNe.out j hj wr hT.out
    have hdi := fun W => HDi.out (nextO l j) W
    have j0 : (0 : Int) ≤ (j : Int) := by omega
    have j1 : (j : Int) ≤ 4194304 := by omega
    rcases twN_step (p := digC) (by decide) l j with ⟨g1, g2, g3⟩ | ⟨g1, g2⟩
    · rw [g1] at hdi
      obtain ⟨i, hi⟩ : ∃ i, i = j + 1 := ⟨_, rfl⟩
      have hii : (j : Int) + 1 = (i : Int) := by omega
      rw [← hi] at g3
      have HE2 : Hid (q = i + twN digC l i) := by show _ = _; have := hE.out; omega
      have hil : i ≤ l.length := by omega
      have hmi2 : m ≤ i := by omega
      have HI : Hid (i = j + 1) := hi
      clear g1 g3 hi hE
      go_wp2_with fail
      refine hne.mono ?_
      clear hne
      rintro e w3 ⟨rfl, hb3⟩
      have H3 := Lib.hid (And.intro (hT.out.keep hb3) (hK.out.trans (Kr.of (R := R) hb3)))
      obtain ⟨c0, c1, c2, c3, z2, z3⟩ := H3.out.1.cells
      clear hb3
      go_wp2_with (go_at_call 81; refine (hdi _).mono ?_; rintro e w4 ⟨rfl, rfl⟩)
      have H4 := Lib.hid (And.intro (H3.out.1.at_ (i : Int)) (H3.out.2.trans (Kr.set (R := R) (i := 2) w3 (.int .i64 (i : Int)))))
      have HAt2 := Lib.hid (H4.out.1.rAt)
      clear c0 c1 c2 c3 z2 z3
      go_roundw
      case rel => exact ⟨i, hmi2, hil, H4.out.1, HE2, H4.out.2⟩
      case measure =>
        have e1 := hAt.out
        have e2 := HAt2.out
        have e3 := HI.out
        show l.length - rAt R _ < l.length - rAt R _
        rw [e1, e2]
        omega
    · rw [g1] at hdi
      obtain rfl : j = q := by have := hE.out; omega
      have i1 : (k : Int) ≤ (j : Int) := by omega
      have i2 : (j : Int) ≤ (l.length : Int) := by omega
      clear g1 g2 hE
      go_wp2_with fail
      refine hne.mono ?_
      clear hne
      rintro e w3 ⟨rfl, hb3⟩
      have H3 := Lib.hid (And.intro (hT.out.keep hb3) (hK.out.trans (Kr.of (R := R) hb3)))
      obtain ⟨c0, c1, c2, c3, z2, z3⟩ := H3.out.1.cells
      clear hb3 hT hK HQ HNe
      go_wp2_with (go_at_call 81; refine (hdi _).mono ?_; rintro e w4 ⟨rfl, rfl⟩)
      generalize parseL ((l.take j).drop k) = r at *
      obtain ⟨r1, r2⟩ := r
      simp only at HE hpa
      go_quiet ((go_at_call 109; exact Calls.quiet_of ((hpa _).mono fun _ _ h => ⟨h.1, 0, h.2.symm⟩)))
      have hbq : Below w3.heap.size w3 (w3.drewN nq) := Oct.below_drewN (Below.refl _ w3) nq
      have H4 := Lib.hid (And.intro (H3.out.1.keep hbq) (H3.out.2.trans (Kr.of (R := R) hbq)))
      clear c0 c1 c2 c3 z2 z3 H3 hbq hpa
      generalize w3.drewN nq = w5 at H4 ⊢
      rcases HE.out with ⟨v0, hx⟩ | ⟨v0, hx⟩
      · have v0 : r2 = 0 := v0
        subst v0
        have HX := Lib.hid hx
        clear hx HE
        go_wp2_with (go_at_call 57; refine (demand_yes _ _).mono ?_; rintro e w6 ⟨rfl, rfl⟩)
        go_end0
        exact PassTo.good HX.out H4.out.1 H4.out.2
      · have v0 : r2 ≠ 0 := v0
        have HX := Lib.hid hx
        clear hx HE
        by_cases v8 : r2 = 8
        · subst v8
          go_wp2_with (go_at_call 57; refine (demand_no _ _).mono ?_; rintro e w6 ⟨rfl, rfl⟩)
          exact ⟨rfl, PassTo.bad HX.out H4.out.1 H4.out.2⟩
        · obtain ⟨v, hv⟩ : ∃ v : Int, v = (r2 : Int) := ⟨_, rfl⟩
          have n8 : ¬ v = 8 := by omega
          have n0 : ¬ v = 0 := by omega
          have b8 : (v == 8) = false := by rw [beq_eq_false_iff_ne]; exact n8
          have b0 : (v == 0) = false := by rw [beq_eq_false_iff_ne]; exact n0
          have f8 : (v != 8) = true := by rw [bne, b8]; rfl
          rw [← hv]
          clear v8 v0 hv
          go_wp2_with fail
          refine (demand_yes _ _).mono ?_
          rintro e w6 ⟨rfl, rfl⟩
          go_wp2_with fail
          refine (demand_no _ _).mono ?_
          rintro e w6 ⟨rfl, rfl⟩
          exact ⟨rfl, PassTo.bad HX.out H4.out.1 H4.out.2 n0⟩

/-! ### Signs -/
/-- Where a sign ends. -/
def signE (l : List UInt8) (k : Nat) : Except Nat Nat := if [124].isPrefixOf (l.drop k) = true then .ok (k + 1) else if [58, 61].isPrefixOf (l.drop k) = true then .ok (k + 2) else .error 33
set_option maxHeartbeats 1000000 in
set_option maxRecDepth 100000 in
theorem passSign_c {R : Nat} {l : List UInt8} {b p : Int} {k : Nat} (hk : k < l.length) (hl : l.length ≤ 4194304) (w : World) (h : Rx R l b k p w) :
    Calls Tryz.prog 84 #[.pointer (some ⟨R, 0, none⟩)] w (PassTo R l b p (signE l k) w) := by
  have hR := h.lt
  have k0 : (0 : Int) ≤ (k : Int) := by omega
  have k1 : (k : Int) ≤ 4194304 := by omega
  obtain ⟨m1, hm1⟩ : ∃ m, m = k + 1 := ⟨_, rfl⟩
  obtain ⟨m2, hm2⟩ : ∃ m, m = k + 2 := ⟨_, rfl⟩
  have hmi1 : (k : Int) + 1 = (m1 : Int) := by omega
  have hmi2 : (k : Int) + 2 = (m2 : Int) := by omega
  have hkl : (k : Int) ≤ (l.length : Int) := by omega
  have hpa := fun W => Tryz.strings_HasPrefix (S (l.drop k)) (S [124]) W
  have hpb := fun W => Tryz.strings_HasPrefix (S (l.drop k)) (S [58, 61]) W
  rw [list_S, list_S, ← cutFrom] at hpa hpb
  have HE : Hid (signE l k = if Lib.hasPrefix (l.drop k) [124] = true then .ok m1 else if Lib.hasPrefix (l.drop k) [58, 61] = true then .ok m2 else .error 33) := by
    show _ = _
    rw [hm1, hm2]
    rfl
  replace hpa : ∀ W, Calls Tryz.prog 111 #[.string ((S l).extract k l.length), .string ⟨#[124]⟩] W fun e w' => e = .returned (.bool (Lib.hasPrefix (l.drop k) [124])) ∧ w' = W := hpa
  replace hpb : ∀ W, Calls Tryz.prog 111 #[.string ((S l).extract k l.length), .string ⟨#[58, 61]⟩] W fun e w' => e = .returned (.bool (Lib.hasPrefix (l.drop k) [58, 61])) ∧ w' = W := hpb
  have hsz : ((S l).size : Int) = (l.length : Int) := by rw [size_S]
  have hsn : (S l).size = l.length := size_S l
  generalize Lib.hasPrefix (l.drop k) [124] = pa at *
  generalize Lib.hasPrefix (l.drop k) [58, 61] = pb at *
  obtain ⟨c0, c1, c2, c3, z2, z3⟩ := h.cells
  have HW := Lib.hid h
  clear h hm1 hm2
  generalize signE l k = r at *
  go_enter Tryz.func84, Tryz.ntmps84
  go_wp2_with fail
  go_quiet (fail)
  have hbq : Below w.heap.size w (w.drewN nq) := Oct.below_drewN (Below.refl _ w) nq
  have H2 := Lib.hid (And.intro (HW.out.keep hbq) (Kr.of (R := R) hbq))
  clear c0 c1 c2 c3 z2 z3 HW hbq
  generalize w.drewN nq = w2 at H2 ⊢
  have hal : Below w2.heap.size w2 (w2.alloc (.cells #[.string ⟨#[124]⟩, .string ⟨#[58, 61]⟩] 9)) := (Below.refl _ _).alloc (Nat.le_refl _) _
  have H3 := Lib.hid (And.intro (H2.out.1.keep hal) (H2.out.2.trans (Kr.of (R := R) hal)))
  have g0 : (w2.alloc (.cells #[.string ⟨#[124]⟩, .string ⟨#[58, 61]⟩] 9)).cell? ⟨w2.heap.size, 0, none⟩ = some (.string ⟨#[124]⟩) := (cell_of_row _ _ 0 _ _ _ (heap_alloc_new w2 _)).trans rfl
  have g1 : (w2.alloc (.cells #[.string ⟨#[124]⟩, .string ⟨#[58, 61]⟩] 9)).cell? ⟨w2.heap.size, 1, none⟩ = some (.string ⟨#[58, 61]⟩) := (cell_of_row _ _ 1 _ _ _ (heap_alloc_new w2 _)).trans rfl
  clear hal H2
  go_wp2_with fail
  generalize hWW : w2.alloc (.cells #[.string ⟨#[124]⟩, .string ⟨#[58, 61]⟩] 9) = w3 at H3 g0 g1 ⊢
  clear hWW
  obtain ⟨c0, c1, c2, c3, z2, z3⟩ := H3.out.1.cells
  have HS1 := Lib.hid (And.intro (H3.out.1.at_ (m1 : Int)) (H3.out.2.trans (Kr.set (R := R) (i := 2) w3 (.int .i64 (m1 : Int)))))
  have HS2 := Lib.hid (And.intro (H3.out.1.at_ (m2 : Int)) (H3.out.2.trans (Kr.set (R := R) (i := 2) w3 (.int .i64 (m2 : Int)))))
  go_loop [16] (fun i => ∃ j : Nat, j ≤ 2 ∧ i = .int .i64 j ∧ Hid (0 < j → pa = false) ∧ Hid (1 < j → pb = false)) (fun i => 2 - (intOf i).toNat)
  case atStart => exact ⟨0, by omega, rfl, fun h => absurd h (by omega), fun h => absurd h (by omega)⟩
  case round =>
    obtain ⟨j, hj, rfl, ha, hb⟩ := hrel
    rcases (by omega : j = 0 ∨ j = 1 ∨ j = 2) with rfl | rfl | rfl
    · cases pa with
      | true =>
        have HX := Lib.hid (HE.out.trans (if_pos rfl))
        clear HE ha hb hpb g1
        go_wp2_with (go_at_call 111; refine (hpa _).mono ?_; rintro e w4 ⟨rfl, rfl⟩)
        go_end0
        exact PassTo.good HX.out HS1.out.1 HS1.out.2
      | false =>
        clear ha hb hpb g1
        go_wp2_with (go_at_call 111; refine (hpa _).mono ?_; rintro e w4 ⟨rfl, rfl⟩)
        go_round
        case rel => exact ⟨1, by omega, rfl, fun _ => (by first | rfl | trivial), fun h => absurd h (by omega)⟩
        case measure => simp [intOf]
    · have hpf := ha.out (by omega)
      subst hpf
      cases pb with
      | true =>
        have HX : Hid (r = .ok m2) := HE.out
        clear HE ha hb hpa g0
        go_wp2_with (go_at_call 111; refine (hpb _).mono ?_; rintro e w4 ⟨rfl, rfl⟩)
        go_end0
        exact PassTo.good HX.out HS2.out.1 HS2.out.2
      | false =>
        clear ha hb hpa g0
        go_wp2_with (go_at_call 111; refine (hpb _).mono ?_; rintro e w4 ⟨rfl, rfl⟩)
        go_round
        case rel => exact ⟨2, by omega, rfl, fun _ => (by first | rfl | trivial), fun _ => (by first | rfl | trivial)⟩
        case measure => simp [intOf]
    · have hpf := ha.out (by omega)
      have hqf := hb.out (by omega)
      subst hpf
      subst hqf
      have HX : Hid (r = .error 33) := HE.out
      clear HE ha hb hpa hpb
      go_wp2_with fail
      refine (demand_no _ _).mono ?_
      rintro e w6 ⟨rfl, rfl⟩
      exact ⟨rfl, PassTo.bad HX.out H3.out.1 H3.out.2⟩
end Go.Proofs.YtmccbcficbbidaaGreatDoor.Lxw

/-
  Contract of package lex's passText at a text that does not end, or has what it may not.
-/
namespace Go.Proofs.YtmccbcficbbidaaGreatDoor.Lxw
open Go.RowKit Go.Proofs.YtmccbcficbbidaaGreatDoor.Oct Go.Proofs.YtmccbcficbbidaaGreatDoor.Lex Go.Proofs.YtmccbcficbbidaaGreatDoor.Build

/-- A fault, wherever the reader stands. -/
def Bad (R : Nat) (l : List UInt8) (b : Int) (w : World) (e : Ending) (w' : World) : Prop := (∃ n, n ≠ 0 ∧ e = Fault n) ∧ (∃ k' p', Rx R l b k' p' w') ∧ Kr R w w'
theorem Bad.mk' {R : Nat} {l : List UInt8} {b k' p' n : Int} {w w' : World} (h : Rx R l b k' p' w') (hk : Kr R w w') (hn : n ≠ 0 := by decide) : Bad R l b w (Fault n) w' := ⟨⟨n, hn, rfl⟩, ⟨k', p', h⟩, hk⟩
theorem Bad.from {R : Nat} {l : List UInt8} {b : Int} {w w1 w' : World} {e : Ending} (hk : Kr R w w1) (h : Bad R l b w1 e w') : Bad R l b w e w' := ⟨h.1, h.2.1, hk.trans h.2.2⟩
/-- What ends a text that does not end well. -/
theorem str_none {l : List UInt8} {j : Nat} (h : strL (l.drop j) = none) :
    l.length ≤ j ∨ ∃ hj : j < l.length,
      (l[j] = 10) ∨ (l[j] = 92 ∧ ¬ (nextO l (j + 1) = 110 ∨ nextO l (j + 1) = 116 ∨ nextO l (j + 1) = 92 ∨ nextO l (j + 1) = 34)) ∨
      (l[j] = 92 ∧ ∃ hj1 : j + 1 < l.length, (l[j + 1] = 110 ∨ l[j + 1] = 116 ∨ l[j + 1] = 92 ∨ l[j + 1] = 34) ∧ strL (l.drop (j + 2)) = none) ∨
      (l[j] ≠ 34 ∧ l[j] ≠ 92 ∧ l[j] ≠ 10 ∧ strL (l.drop (j + 1)) = none) := by
  by_cases hj : j < l.length
  · refine .inr ⟨hj, ?_⟩
    rw [List.drop_eq_getElem_cons hj] at h
    generalize l[j] = c at h ⊢
    by_cases h34 : c = 34
    · subst h34
      simp [strL] at h
    · by_cases h92 : c = 92
      · subst h92
        by_cases hj1 : j + 1 < l.length
        · have en : nextO l (j + 1) = l[j + 1] := by unfold nextO; simp [hj1]
          rw [List.drop_eq_getElem_cons hj1, str_esc] at h
          rw [en]
          by_cases hd : l[j + 1] = 110 ∨ l[j + 1] = 116 ∨ l[j + 1] = 92 ∨ l[j + 1] = 34
          · refine .inr (.inr (.inl ⟨rfl, hj1, hd, ?_⟩))
            show strL (l.drop (j + 1 + 1)) = none
            generalize l[j + 1] = d at h hd
            by_cases d1 : d = 110
            · rw [if_pos d1] at h
              exact Option.map_eq_none_iff.1 h
            · rw [if_neg d1] at h
              by_cases d2 : d = 116
              · rw [if_pos d2] at h
                exact Option.map_eq_none_iff.1 h
              · rw [if_neg d2] at h
                have d3 : d = 92 ∨ d = 34 := by
                  rcases hd with h | h | h
                  · exact absurd h d1
                  · exact absurd h d2
                  · exact h
                rw [if_pos d3] at h
                exact Option.map_eq_none_iff.1 h
          · exact .inr (.inl ⟨rfl, hd⟩)
        · have en : nextO l (j + 1) = 0 := by unfold nextO; simp [hj1]
          rw [en]
          exact .inr (.inl ⟨rfl, by decide⟩)
      · by_cases h10 : c = 10
        · exact .inl h10
        · rw [str_one c _ h92 h34 h10] at h
          exact .inr (.inr (.inr ⟨h34, h92, h10, Option.map_eq_none_iff.1 h⟩))
  · exact .inl (by omega)
theorem rdemand_no {R : Nat} {l : List UInt8} {b k p : Int} (q : Int) (w : World) (h : Rx R l b k p w) : Calls Tryz.prog 126 #[.pointer (some ⟨R, 0, none⟩), .bool false, .int .i64 q] w (Bad R l b w) := by
  obtain ⟨c0, c1, c2, c3, z2, z3⟩ := h.cells
  have HS := Lib.hid (And.intro (h.place q) (Kr.set (R := R) (i := 3) w (.int .i64 q)))
  clear h
  go_enter Tryz.func126, Tryz.ntmps126
  go_wp2_with (go_at_call 57; refine (demand_no _ _).mono ?_; rintro e w' ⟨rfl, rfl⟩)
  exact ⟨rfl, Bad.mk' HS.out.1 HS.out.2⟩
theorem short_none (c : UInt8) (h : ¬ (c = 110 ∨ c = 116 ∨ c = 92 ∨ c = 34)) : Lib.indexByte [110, 116, 92, 34] c = -1 := by
  have e1 : ((110 : UInt8) == c) = false := by rw [beq_eq_false_iff_ne]; exact fun e => h (.inl e.symm)
  have e2 : ((116 : UInt8) == c) = false := by rw [beq_eq_false_iff_ne]; exact fun e => h (.inr (.inl e.symm))
  have e3 : ((92 : UInt8) == c) = false := by rw [beq_eq_false_iff_ne]; exact fun e => h (.inr (.inr (.inl e.symm)))
  have e4 : ((34 : UInt8) == c) = false := by rw [beq_eq_false_iff_ne]; exact fun e => h (.inr (.inr (.inr e.symm)))
  simp [Lib.indexByte, e1, e2, e3, e4]
set_option maxHeartbeats 1000000 in
set_option maxRecDepth 100000 in
theorem stood_line {R : Nat} {l : List UInt8} {b p : Int} {k : Nat} (hk : k < l.length) (hl : l.length ≤ 4194304) (w : World) (h : Rx R l b k p w) (h2 : l[k] = 10) :
    Calls Tryz.prog 110 #[.pointer (some ⟨R, 0, none⟩)] w (Bad R l b w) := by
  have hne := next_q hk hl w h
  obtain ⟨c0, c1, c2, c3, z2, z3⟩ := h.cells
  have e1 : ((l[k]).toNat : Int) = 10 := by rw [h2]; rfl
  rw [e1] at hne
  have HW := Lib.hid h
  clear h h2
  go_enter Tryz.func110, Tryz.ntmps110
  go_wp2
  go_quiet ((go_at_call 75; exact Calls.quiet_of (hne _)))
  have H2 := Lib.hid (And.intro (HW.out.keep (Oct.below_drewN (Below.refl _ w) nq)) (Kr.of (R := R) (Oct.below_drewN (Below.refl _ w) nq)))
  clear c0 c1 c2 c3 z2 z3
  generalize w.drewN nq = w2 at H2 ⊢
  go_wp2_with fail
  refine (rdemand_no _ _ H2.out.1).mono ?_
  rintro e w3 h3
  obtain ⟨n, _, rfl⟩ := h3.1
  exact ⟨rfl, Bad.from H2.out.2 h3⟩
set_option maxHeartbeats 1000000 in
set_option maxRecDepth 100000 in
theorem stood_bad {R : Nat} {l : List UInt8} {b p : Int} {k : Nat} (hk : k < l.length) (hl : l.length ≤ 4194304) (w : World) (h : Rx R l b k p w) (h1 : l[k] = 92) (h2 : ¬ (nextO l (k + 1) = 110 ∨ nextO l (k + 1) = 116 ∨ nextO l (k + 1) = 92 ∨ nextO l (k + 1) = 34)) :
    Calls Tryz.prog 110 #[.pointer (some ⟨R, 0, none⟩)] w (Bad R l b w) := by
  have hne := next_q hk hl w h
  have HNe := Lib.hid (fun W (h : Rx R l b ((k + 1 : Nat) : Int) p W) => next_b (by omega : k + 1 ≤ l.length) hl W h)
  obtain ⟨c0, c1, c2, c3, z2, z3⟩ := h.cells
  have e1 : ((l[k]).toNat : Int) = 92 := by rw [h1]; rfl
  rw [e1] at hne
  have hcb : ((nextO l (k + 1)).toNat : Int) ≤ 255 := by have := (nextO l (k + 1)).toNat_lt; omega
  have hix := fun w => Tryz.strings_IndexByte (S [110, 116, 92, 34]) ((nextO l (k + 1)).toNat : Int) w
  rw [list_S, show ((nextO l (k + 1)).toNat : Int).toNat.toUInt8 = nextO l (k + 1) by simp, short_none _ h2] at hix
  replace hix : ∀ w, Calls Tryz.prog 73 #[.string ⟨#[110, 116, 92, 34]⟩, .int .u8 ((nextO l (k + 1)).toNat : Int)] w fun e w' => e = .returned (.int .i64 (-1)) ∧ w' = w := hix
  have k0 : (k : Int) ≤ 4194304 := by omega
  have k1 : (0 : Int) ≤ (k : Int) := by omega
  have k2 : (k : Int) + 1 = ((k + 1 : Nat) : Int) := by omega
  have HW := Lib.hid h
  clear h h1 h2 e1
  generalize nextO l (k + 1) = c at *
  generalize k + 1 = m at *
  go_enter Tryz.func110, Tryz.ntmps110
  go_wp2
  go_quiet ((go_at_call 75; exact Calls.quiet_of (hne _)))
  have H2 := Lib.hid (And.intro (HW.out.keep (Oct.below_drewN (Below.refl _ w) nq)) (Kr.of (R := R) (Oct.below_drewN (Below.refl _ w) nq)))
  clear c0 c1 c2 c3 z2 z3
  generalize w.drewN nq = w2 at H2 ⊢
  obtain ⟨c0, c1, c2, c3, z2, z3⟩ := H2.out.1.cells
  have H3 := Lib.hid (And.intro (H2.out.1.at_ (m : Int)) (H2.out.2.trans (Kr.set (R := R) (i := 2) w2 (.int .i64 (m : Int)))))
  have hne3 := HNe.out _ H3.out.1
  go_wp2_with fail
  refine hne3.mono ?_
  clear hne3
  rintro e w4 ⟨rfl, hb4⟩
  have H4 := Lib.hid (And.intro (H3.out.1.keep hb4) (H3.out.2.trans (Kr.of hb4)))
  clear hb4
  go_wp2_with (go_at_call 73; refine (hix _).mono ?_; rintro e w5 ⟨rfl, rfl⟩)
  refine (rdemand_no _ _ H4.out.1).mono ?_
  rintro e w3 h3
  obtain ⟨n, _, rfl⟩ := h3.1
  exact ⟨rfl, Bad.from H4.out.2 h3⟩

set_option maxHeartbeats 2000000 in
set_option maxRecDepth 100000 in
theorem passText_bad {R : Nat} {l : List UInt8} {b p : Int} {k : Nat} (hk : k < l.length) (hl : l.length ≤ 4194304) (hs : strL (l.drop (k + 1)) = none) (w : World) (h : Rx R l b k p w) :
    Calls Tryz.prog 83 #[.pointer (some ⟨R, 0, none⟩)] w (Bad R l b w) := by
  have hR := h.lt
  have k0 : (0 : Int) ≤ (k : Int) := by omega
  have k1 : (k : Int) ≤ 4194304 := by omega
  obtain ⟨m, hm⟩ : ∃ m, m = k + 1 := ⟨_, rfl⟩
  have k2 : (k : Int) + 1 = (m : Int) := by omega
  rw [← hm] at hs
  have hml : m ≤ l.length := by omega
  obtain ⟨c0, c1, c2, c3, z2, z3⟩ := h.cells
  have HW := Lib.hid h
  have HS := Lib.hid hs
  clear h hs hm
  go_enter Tryz.func83, Tryz.ntmps83
  go_wp2_with fail
  have hss : (w.setCell ⟨R, 2, none⟩ (.int .i64 (m : Int))).heap.size = w.heap.size := by simp [World.setCell]
  have hal : Below (w.setCell ⟨R, 2, none⟩ (.int .i64 (m : Int))).heap.size (w.setCell ⟨R, 2, none⟩ (.int .i64 (m : Int))) ((w.setCell ⟨R, 2, none⟩ (.int .i64 (m : Int))).alloc (.cells #[.pointer none, .slice none 0 0] 60)) := (Below.refl _ _).alloc (Nat.le_refl _) _
  have H1 := Lib.hid (And.intro ((HW.out.at_ (m : Int)).keep hal) ((Kr.set (R := R) (i := 2) w (.int .i64 (m : Int))).trans (Kr.of hal)))
  have HB1 : Hid (Has w.heap.size [] ((w.setCell ⟨R, 2, none⟩ (.int .i64 (m : Int))).alloc (.cells #[.pointer none, .slice none 0 0] 60))) := by
    have := has_fresh (w.setCell ⟨R, 2, none⟩ (.int .i64 (m : Int)))
    rw [hss] at this
    exact this
  clear hal c0 c1 c2 c3 z2 z3 hss
  go_loopw [] (fun wr => ∃ (j : Nat) (u : List UInt8), j ≤ l.length ∧ u.length ≤ j ∧ Hid (Rx R l b j p wr) ∧ Hid (Has w.heap.size u wr) ∧ Hid (strL (l.drop j) = none) ∧ Hid (Kr R w wr)) (fun wr => l.length - rAt R wr)
  case atStart => exact ⟨m, [], hml, Nat.zero_le _, H1.out.1, HB1.out, HS.out, H1.out.2⟩
  case round =>
    clear H1 HB1
    obtain ⟨j, u, hj, huj, hT, hH, hY, hK⟩ := hrel
    have hAt := Lib.hid hT.out.rAt
    have j0 : (0 : Int) ≤ (j : Int) := by omega
    have j1 : (j : Int) ≤ 4194304 := by omega
    have hsz : ((S l).size : Int) = (l.length : Int) := by rw [size_S]
    rcases str_none hY.out with hjl | ⟨hjl, hc⟩
    · have hne := next_b hj hl wr hT.out
      have en : nextO l j = 0 := by unfold nextO; simp [show ¬ j < l.length by omega]
      rw [en] at hne
      have j2 : ¬ (j : Int) < (l.length : Int) := by omega
      have hd : decide ((j : Int) < (l.length : Int)) = false := decide_eq_false j2
      have hjn : ¬ j < l.length := by omega
      replace hne : Calls Tryz.prog 75 #[.pointer (some ⟨R, 0, none⟩)] wr fun e w' => e = .returned (.int .u8 0) ∧ Below wr.heap.size wr w' := hne
      clear en hjl hY hj
      go_wp2_with fail
      refine hne.mono ?_
      rintro e w1 ⟨rfl, hb1⟩
      have H2 := Lib.hid (And.intro (hT.out.keep hb1) (hK.out.trans (Kr.of (R := R) hb1)))
      obtain ⟨c0, c1, c2, c3, z2, z3⟩ := H2.out.1.cells
      clear hb1 hne
      go_wp2_with fail
      go_still_tail 10, (by kernel_rfl)
      change wpList _ _ _ _ _ w1.drew
      go_wp2_with fail
      refine (demand_no _ _).mono ?_
      rintro e w2 ⟨rfl, rfl⟩
      exact ⟨rfl, Bad.mk' H2.out.1.drew H2.out.2.drew⟩
    · have hne := next_q hjl hl wr hT.out 0
      have j2 : (j : Int) < (l.length : Int) := by omega
      have hd : decide ((j : Int) < (l.length : Int)) = true := decide_eq_true j2
      have hfin : ∀ W, Rx R l b j p W → Hid (((l[j]).toNat : Int) ≠ 34 ∧ (((∃ y, l[j] = y) ∧ Calls Tryz.prog 110 #[.pointer (some ⟨R, 0, none⟩)] W (Bad R l b W)) ∨
          ∃ n oc, n ≤ l.length ∧ j < n ∧ u.length + 1 ≤ n ∧ strL (l.drop n) = none ∧ Calls Tryz.prog 110 #[.pointer (some ⟨R, 0, none⟩)] W fun e w' => e = .returned (.int .u8 ((oc : UInt8).toNat : Int)) ∧ Rx R l b ((n - 1 : Nat) : Int) p w' ∧ Kr R W w')) := fun W hW => by
        rcases hc with h10 | ⟨h92, hn⟩ | ⟨h92, hj1, hd4, hs⟩ | ⟨n34, n92, n10, hs⟩
        · exact ⟨by rw [h10]; decide, .inl ⟨⟨_, rfl⟩, stood_line hjl hl W hW h10⟩⟩
        · exact ⟨by rw [h92]; decide, .inl ⟨⟨_, rfl⟩, stood_bad hjl hl W hW h92 hn⟩⟩
        · exact ⟨by rw [h92]; decide, .inr ⟨j + 2, escV l[j + 1], by omega, by omega, by omega, hs, stood_esc hj1 hl W hW h92 hd4⟩⟩
        · refine ⟨fun e => n34 ?_, .inr ⟨j + 1, l[j], by omega, by omega, by omega, hs, stood_plain hjl hl W hW n92 n10⟩⟩
          have : (l[j]).toNat = 34 := by omega
          exact UInt8.toNat_inj.1 this
      have HF := Lib.hid hfin
      have q35 : ¬ ((l[j]).toNat : Int) = 34 := (hfin wr hT.out).out.1
      have q34 : (((l[j]).toNat : Int) == 34) = false := by rw [beq_eq_false_iff_ne]; exact q35
      have q36 : (((l[j]).toNat : Int) != 34) = true := by rw [bne, q34]; rfl
      clear hc hfin hY
      generalize l[j] = oc0 at *
      go_wp2_with fail
      refine hne.mono ?_
      rintro e w1 ⟨rfl, q1, hw1⟩
      have hb1 : Below wr.heap.size wr w1 := grown_q hw1
      have h1 := hT.out.keep hb1
      have H2 := Lib.hid (And.intro h1 (And.intro (has_below hH.out hb1 (by omega)) (hK.out.trans (Kr.of hb1))))
      obtain ⟨c0, c1, c2, c3, z2, z3⟩ := h1.cells
      clear hw1 hb1 h1 hne
      go_wp2_with fail
      go_quiet ((go_at_call 57; exact quiet_same (demand_yes _ _)))
      have hbq : Below w1.heap.size w1 (w1.drewN nq) := Oct.below_drewN (Below.refl _ w1) nq
      have H3 := Lib.hid (And.intro (H2.out.1.keep hbq) (And.intro (has_below H2.out.2.1 hbq (by omega)) (H2.out.2.2.trans (Kr.of hbq))))
      clear hbq H2 c0 c1 c2 c3 z2 z3
      generalize w1.drewN nq = w3 at H3 ⊢
      rcases (HF.out w3 H3.out.1).out.2 with ⟨_, hst⟩ | ⟨n, oc, hnl, hjn, hun, hs, hst⟩
      · clear HF
        go_wp2_with fail
        refine hst.mono ?_
        rintro e w4 h4
        obtain ⟨n, _, rfl⟩ := h4.1
        exact ⟨rfl, Bad.from H3.out.2.2 h4⟩
      · have HSn := Lib.hid hs
        obtain ⟨j9, hj9⟩ : ∃ j9, j9 = n - 1 := ⟨_, rfl⟩
        rw [← hj9] at hst
        have hj9i : (j9 : Int) + 1 = (n : Int) := by omega
        clear HF hs hj9
        go_wp2_with fail
        refine hst.mono ?_
        clear hst
        rintro e w4 ⟨rfl, hx4, hk4⟩
        have H4 := Lib.hid (And.intro hx4 (And.intro (has_but hR H3.out.2.1 hk4.block) (H3.out.2.2.trans hk4)))
        clear hx4 hk4 H3
        have hby := byte_c w.heap.size u oc w4 H4.out.2.1 (by omega)
        have hbo : ((oc).toNat : Int) ≤ 255 := by have := (oc).toNat_lt; omega
        go_wp2_with fail
        refine hby.mono ?_
        clear hby
        rintro e w5 ⟨rfl, hh5, hb5⟩
        have hx5 : Rx R l b (j9 : Int) p w5 := (hb5.block R hR).trans H4.out.1
        have H5 := Lib.hid (And.intro hx5 (And.intro hh5 (kr_below H4.out.2.2 hb5)))
        obtain ⟨c0, c1, c2, c3, z2, z3⟩ := hx5.cells
        clear hh5 hb5 hx5 H4
        have H6 := Lib.hid (And.intro (H5.out.1.at_ (n : Int)) (And.intro (has_but hR H5.out.2.1 (Kr.set (R := R) (i := 2) w5 (.int .i64 (n : Int))).block) (H5.out.2.2.trans (Kr.set (R := R) (i := 2) w5 (.int .i64 (n : Int))))))
        go_wp2_with fail
        go_roundw
        case rel => exact ⟨n, u ++ [oc], hnl, by rw [List.length_append, List.length_singleton]; omega, H6.out.1, H6.out.2.1, HSn.out, H6.out.2.2⟩
        case measure =>
          have e1 := hAt.out
          have e2 := H6.out.1.rAt
          show l.length - rAt R _ < l.length - rAt R _
          rw [e1, e2]
          omega
end Go.Proofs.YtmccbcficbbidaaGreatDoor.Lxw
