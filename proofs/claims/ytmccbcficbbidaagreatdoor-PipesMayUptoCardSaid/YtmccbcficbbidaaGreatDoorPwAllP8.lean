/-
  Part 8: LxwStr, PwLex1, NumSize, NumLeaves.
-/
import Derived.Test.YtmccbcficbbidaaGreatDoorPwAllP7
import Derived.Test.YtmccbcficbbidaaGreatDoorPwAllP2
import Derived.Test.YtmccbcficbbidaaGreatDoorPwAllP1
import Derived.Test.YtmccbcficbbidaaGreatDoorProg
import Derived.Test.YtmccbcficbbidaaGreatDoorPwAllP5
import Derived.Lib.Hide
/-
  Contract of the reader's passText, at a text that ends.
-/
namespace Go.Proofs.YtmccbcficbbidaaGreatDoor.Lxw
open Go.RowKit Go.Proofs.YtmccbcficbbidaaGreatDoor.Oct Go.Proofs.YtmccbcficbbidaaGreatDoor.Lex Go.Proofs.YtmccbcficbbidaaGreatDoor.Build

/-- What stands in a text that ends. -/
theorem str_cases {l : List UInt8} {j : Nat} {y rest : List UInt8} (h : strL (l.drop j) = some (y, rest)) :
    ∃ hj : j < l.length, (l[j] = 34 ∧ y = [] ∧ rest = l.drop (j + 1)) ∨
      (l[j] = 92 ∧ ∃ hj1 : j + 1 < l.length, (l[j + 1] = 110 ∨ l[j + 1] = 116 ∨ l[j + 1] = 92 ∨ l[j + 1] = 34) ∧ ∃ y', y = escV l[j + 1] :: y' ∧ strL (l.drop (j + 2)) = some (y', rest)) ∨
      (l[j] ≠ 34 ∧ l[j] ≠ 92 ∧ l[j] ≠ 10 ∧ ∃ y', y = l[j] :: y' ∧ strL (l.drop (j + 1)) = some (y', rest)) := by
  have hj : j < l.length := by
    apply Classical.byContradiction
    intro hn
    rw [List.drop_of_length_le (by omega)] at h
    simp [strL] at h
  refine ⟨hj, ?_⟩
  rw [List.drop_eq_getElem_cons hj] at h
  generalize l[j] = c at h ⊢
  by_cases h34 : c = 34
  · subst h34
    refine .inl ⟨rfl, ?_⟩
    simp only [strL, Option.some.injEq, Prod.mk.injEq] at h
    exact ⟨h.1.symm, h.2.symm⟩
  · refine .inr ?_
    by_cases h92 : c = 92
    · subst h92
      refine .inl ⟨rfl, ?_⟩
      by_cases hj1 : j + 1 < l.length
      · refine ⟨hj1, ?_⟩
        rw [List.drop_eq_getElem_cons hj1, str_esc] at h
        generalize l[j + 1] = d at h ⊢
        by_cases d1 : d = 110
        · subst d1
          rw [if_pos rfl] at h
          obtain ⟨⟨y', r'⟩, hy, he⟩ := Option.map_eq_some_iff.1 h
          injection he with e1 e2
          subst e2
          exact ⟨.inl rfl, y', e1.symm, hy⟩
        · rw [if_neg d1] at h
          by_cases d2 : d = 116
          · subst d2
            rw [if_pos rfl] at h
            obtain ⟨⟨y', r'⟩, hy, he⟩ := Option.map_eq_some_iff.1 h
            injection he with e1 e2
            subst e2
            exact ⟨.inr (.inl rfl), y', e1.symm, hy⟩
          · rw [if_neg d2] at h
            split at h
            · rename_i d3
              obtain ⟨⟨y', r'⟩, hy, he⟩ := Option.map_eq_some_iff.1 h
              injection he with e1 e2
              subst e2
              refine ⟨.inr (.inr d3), y', ?_, hy⟩
              have : escV d = d := by unfold escV; rw [if_neg d1, if_neg d2]
              rw [this]
              exact e1.symm
            · cases h
      · rw [List.drop_of_length_le (by omega)] at h
        simp [strL] at h
    · refine .inr ?_
      by_cases h10 : c = 10
      · subst h10
        simp [strL] at h
      · rw [str_one c _ h92 h34 h10] at h
        obtain ⟨⟨y', r'⟩, hy, he⟩ := Option.map_eq_some_iff.1 h
        injection he with e1 e2
        subst e2
        exact ⟨h34, h92, h10, y', e1.symm, hy⟩
theorem kr_below {R : Nat} {w W W' : World} (h : Kr R w W) (hb : Below w.heap.size W W') : Kr R w W' :=
  ⟨hb.os.trans h.os, hb.tape.trans h.tape, hb.output.trans h.output, Nat.le_trans h.size hb.size, fun k hk hR => (hb.block k hk).trans (h.block k hk hR)⟩
def rAt (R : Nat) (w : World) : Nat := match w.cell? ⟨R, 2, none⟩ with
  | some (.int _ q) => q.toNat
  | _ => 0
theorem Rx.rAt {R : Nat} {l : List UInt8} {b p : Int} {k : Nat} {w : World} (h : Rx R l b k p w) : rAt R w = k := by
  unfold Lxw.rAt
  rw [h.cells.c2]
  exact Int.toNat_natCast k
set_option maxHeartbeats 2000000 in
set_option maxRecDepth 100000 in
theorem passText_c {R : Nat} {l : List UInt8} {b p : Int} {k : Nat} (hk : k < l.length) (hl : l.length ≤ 4194304) {x rest : List UInt8} (hs : strL (l.drop (k + 1)) = some (x, rest)) (w : World) (h : Rx R l b k p w) :
    Calls Tryz.prog 83 #[.pointer (some ⟨R, 0, none⟩)] w fun e w' => e = (if x.length ≤ 4096 then .returned (.string (S x)) else Fault 5) ∧ Rx R l b ((l.length - rest.length : Nat) : Int) p w' ∧ Kr R w w' := by
  have hR := h.lt
  have k0 : (0 : Int) ≤ (k : Int) := by omega
  have k1 : (k : Int) ≤ 4194304 := by omega
  obtain ⟨m, hm⟩ : ∃ m, m = k + 1 := ⟨_, rfl⟩
  have k2 : (k : Int) + 1 = (m : Int) := by omega
  rw [← hm] at hs
  have hml : m ≤ l.length := by omega
  obtain ⟨c0, c1, c2, c3, z2, z3⟩ := h.cells
  have HW := Lib.hid h
  have HS := Lib.hid hs
  clear h hs hm
  go_enter Tryz.func83, Tryz.ntmps83
  go_wp2_with fail
  have hss : (w.setCell ⟨R, 2, none⟩ (.int .i64 (m : Int))).heap.size = w.heap.size := by simp [World.setCell]
  have hal : Below (w.setCell ⟨R, 2, none⟩ (.int .i64 (m : Int))).heap.size (w.setCell ⟨R, 2, none⟩ (.int .i64 (m : Int))) ((w.setCell ⟨R, 2, none⟩ (.int .i64 (m : Int))).alloc (.cells #[.pointer none, .slice none 0 0] 60)) := (Below.refl _ _).alloc (Nat.le_refl _) _
  have H1 := Lib.hid (And.intro ((HW.out.at_ (m : Int)).keep hal) ((Kr.set (R := R) (i := 2) w (.int .i64 (m : Int))).trans (Kr.of hal)))
  have HB1 : Hid (Has w.heap.size [] ((w.setCell ⟨R, 2, none⟩ (.int .i64 (m : Int))).alloc (.cells #[.pointer none, .slice none 0 0] 60))) := by
    have := has_fresh (w.setCell ⟨R, 2, none⟩ (.int .i64 (m : Int)))
    rw [hss] at this
    exact this
  clear hal c0 c1 c2 c3 z2 z3 hss
  go_loopw [] (fun wr => ∃ (j : Nat) (u y : List UInt8), j ≤ l.length ∧ u.length ≤ j ∧ Hid (Rx R l b j p wr) ∧ Hid (Has w.heap.size u wr) ∧ Hid (strL (l.drop j) = some (y, rest)) ∧ Hid (u ++ y = x) ∧ Hid (Kr R w wr)) (fun wr => l.length - rAt R wr)
  case atStart => exact ⟨m, [], x, hml, Nat.zero_le _, H1.out.1, HB1.out, HS.out, rfl, H1.out.2⟩
  case round =>
    clear H1 HB1
    obtain ⟨j, u, y, hj, huj, hT, hH, hY, hU, hK⟩ := hrel
    have hAt := Lib.hid hT.out.rAt
    obtain ⟨hjl, hc⟩ := str_cases hY.out
    have j0 : (0 : Int) ≤ (j : Int) := by omega
    have j1 : (j : Int) ≤ 4194304 := by omega
    have j2 : (j : Int) < (l.length : Int) := by omega
    have hd : decide ((j : Int) < (l.length : Int)) = true := decide_eq_true j2
    have hne := next_q hjl hl wr hT.out 0
    have hsz : ((S l).size : Int) = (l.length : Int) := by rw [size_S]
    rcases hc with ⟨e34, hy, hr⟩ | ⟨e92, hj1, hd4, y', hy, hs'⟩ | ⟨n34, n92, n10, y', hy, hs'⟩
    · have e1 : ((l[j]).toNat : Int) = 34 := by rw [e34]; rfl
      rw [e1] at hne
      obtain ⟨n, hn⟩ : ∃ n, n = j + 1 := ⟨_, rfl⟩
      have hni : (j : Int) + 1 = (n : Int) := by omega
      have hux : u = x := by rw [← hU.out, hy, List.append_nil]
      have hnr : l.length - rest.length = n := by rw [hr, List.length_drop]; omega
      have HNR := Lib.hid hnr
      have hul : u.length ≤ l.length := by omega
      rw [hux] at hH hul
      have hxi : (x.length : Int) ≤ 4194304 := by omega
      clear hy hr hY hU e34 hux hn hnr
      go_wp2_with fail
      refine hne.mono ?_
      rintro e w1 ⟨rfl, q1, hw1⟩
      have hb1 : Below wr.heap.size wr w1 := grown_q hw1
      have h1 := hT.out.keep hb1
      have H2 := Lib.hid (And.intro h1 (And.intro (has_below hH.out hb1 (by omega)) (hK.out.trans (Kr.of hb1))))
      obtain ⟨c0, c1, c2, c3, z2, z3⟩ := h1.cells
      clear hw1 hb1 h1 hne
      have H6 := Lib.hid (And.intro (H2.out.1.at_ (n : Int)) (And.intro (has_but hR H2.out.2.1 (Kr.set (R := R) (i := 2) w1 (.int .i64 (n : Int))).block) (H2.out.2.2.trans (Kr.set (R := R) (i := 2) w1 (.int .i64 (n : Int))))))
      have hlen := Tryz.Builder_Len w.heap.size w.heap.size (Lib.byteCells x) _ H6.out.2.1
      rw [Lib.byteCells_length] at hlen
      have hstr := Tryz.Builder_String_any w.heap.size w.heap.size x _ H6.out.2.1 (Nat.le_of_lt (has_lt H6.out.2.1))
      by_cases hx : x.length ≤ 4096
      · have hd2 : decide ((x.length : Int) ≤ 4096) = true := decide_eq_true (by omega)
        have hd3 : (x.length : Int) ≤ 4096 := by omega
        have HE := Lib.hid hx
        clear hx
        go_wp2_with (first
          | (go_at_call 30; refine hlen.mono ?_; rintro e w4 ⟨rfl, rfl⟩)
          | (go_at_call 57; refine (demand_yes _ _).mono ?_; rintro e w4 ⟨rfl, rfl⟩)
          | (go_at_call 34; refine hstr.mono ?_; rintro e w5 ⟨rfl, hb5⟩))
        go_ret
        refine ⟨by first | rfl | (rw [if_pos HE.out]; rfl), ?_, kr_below H6.out.2.2 hb5⟩
        rw [HNR.out]
        exact (hb5.block R hR).trans H6.out.1
      · have hd2 : decide ((x.length : Int) ≤ 4096) = false := decide_eq_false (by omega)
        have hd3 : ¬ (x.length : Int) ≤ 4096 := by omega
        have HE := Lib.hid hx
        clear hx
        go_wp2_with (first
          | (go_at_call 30; refine hlen.mono ?_; rintro e w4 ⟨rfl, rfl⟩)
          | (go_at_call 57; refine (demand_no _ _).mono ?_; rintro e w4 ⟨rfl, rfl⟩))
        refine ⟨rfl, by first | rfl | rw [if_neg HE.out], ?_, H6.out.2.2⟩
        rw [HNR.out]
        exact H6.out.1
    · have e1 : ((l[j]).toNat : Int) = 92 := by rw [e92]; rfl
      rw [e1] at hne
      obtain ⟨n, hn⟩ : ∃ n, n = j + 2 := ⟨_, rfl⟩
      have hnl : n ≤ l.length := by omega
      have hni : ((j + 1 : Nat) : Int) + 1 = (n : Int) := by omega
      have hni2 : (j : Int) + 1 + 1 = (n : Int) := by omega
      obtain ⟨oc, hoc⟩ : ∃ oc, oc = escV l[j + 1] := ⟨_, rfl⟩
      have HN : Hid (strL (l.drop n) = some (y', rest) ∧ (u ++ [oc]) ++ y' = x) := ⟨by rw [hn]; exact hs', by rw [← hU.out, hy, List.append_assoc, hoc]; rfl⟩
      have hjn : j < n := by omega
      have HS4 := Lib.hid (fun W (h : Rx R l b j p W) => stood_esc hj1 hl W h e92 hd4)
      rw [← hoc] at HS4
      obtain ⟨j9, hj9⟩ : ∃ j9, j9 = j + 1 := ⟨_, rfl⟩
      rw [← hj9] at HS4
      have hj9i : (j9 : Int) + 1 = (n : Int) := by omega
      clear hy hs' hY hU e92 hn hj9 hoc
      go_wp2_with fail
      refine hne.mono ?_
      rintro e w1 ⟨rfl, q1, hw1⟩
      have hb1 : Below wr.heap.size wr w1 := grown_q hw1
      have h1 := hT.out.keep hb1
      have H2 := Lib.hid (And.intro h1 (And.intro (has_below hH.out hb1 (by omega)) (hK.out.trans (Kr.of hb1))))
      obtain ⟨c0, c1, c2, c3, z2, z3⟩ := h1.cells
      clear hw1 hb1 h1 hne
      go_wp2_with fail
      go_quiet ((go_at_call 57; exact quiet_same (demand_yes _ _)))
      have hbq : Below w1.heap.size w1 (w1.drewN nq) := Oct.below_drewN (Below.refl _ w1) nq
      have H3 := Lib.hid (And.intro (H2.out.1.keep hbq) (And.intro (has_below H2.out.2.1 hbq (by omega)) (H2.out.2.2.trans (Kr.of hbq))))
      clear hbq H2 c0 c1 c2 c3 z2 z3
      generalize w1.drewN nq = w3 at H3 ⊢
      have hst := HS4.out w3 H3.out.1
      go_wp2_with fail
      refine hst.mono ?_
      clear hst
      rintro e w4 ⟨rfl, hx4, hk4⟩
      have H4 := Lib.hid (And.intro hx4 (And.intro (has_but hR H3.out.2.1 hk4.block) (H3.out.2.2.trans hk4)))
      clear hx4 hk4 H3
      have hby := byte_c w.heap.size u oc w4 H4.out.2.1 (by omega)
      have hbo : ((oc).toNat : Int) ≤ 255 := by have := (oc).toNat_lt; omega
      go_wp2_with fail
      refine hby.mono ?_
      clear hby
      rintro e w5 ⟨rfl, hh5, hb5⟩
      have hx5 : Rx R l b (j9 : Int) p w5 := (hb5.block R hR).trans H4.out.1
      have H5 := Lib.hid (And.intro hx5 (And.intro hh5 (kr_below H4.out.2.2 hb5)))
      obtain ⟨c0, c1, c2, c3, z2, z3⟩ := hx5.cells
      clear hh5 hb5 hx5 H4
      have H6 := Lib.hid (And.intro (H5.out.1.at_ (n : Int)) (And.intro (has_but hR H5.out.2.1 (Kr.set (R := R) (i := 2) w5 (.int .i64 (n : Int))).block) (H5.out.2.2.trans (Kr.set (R := R) (i := 2) w5 (.int .i64 (n : Int))))))
      go_wp2_with fail
      go_roundw
      case rel => exact ⟨n, u ++ [oc], y', hnl, by rw [List.length_append, List.length_singleton]; omega, H6.out.1, H6.out.2.1, HN.out.1, HN.out.2, H6.out.2.2⟩
      case measure =>
        have e1 := hAt.out
        have e2 := H6.out.1.rAt
        show l.length - rAt R _ < l.length - rAt R _
        rw [e1, e2]
        omega
    · obtain ⟨n, hn⟩ : ∃ n, n = j + 1 := ⟨_, rfl⟩
      have hnl : n ≤ l.length := by omega
      have hni : (j : Int) + 1 = (n : Int) := by omega
      obtain ⟨oc, hoc⟩ : ∃ oc, oc = l[j] := ⟨_, rfl⟩
      have HN : Hid (strL (l.drop n) = some (y', rest) ∧ (u ++ [oc]) ++ y' = x) := ⟨by rw [hn]; exact hs', by rw [← hU.out, hy, List.append_assoc, hoc]; rfl⟩
      have hjn : j < n := by omega
      have HS4 := Lib.hid (fun W (h : Rx R l b j p W) => stood_plain hjl hl W h n92 n10)
      have q34 : (((l[j]).toNat : Int) == 34) = false := oct_ne (n := 34) n34 (by decide)
      have q35 : ¬ ((l[j]).toNat : Int) = 34 := by rw [beq_eq_false_iff_ne] at q34; exact q34
      have q36 : (((l[j]).toNat : Int) != 34) = true := by rw [bne, q34]; rfl
      rw [← hoc] at HS4 hne q34 q35 q36
      clear hy hs' hY hU hn n34 n92 n10 hoc
      go_wp2_with fail
      refine hne.mono ?_
      rintro e w1 ⟨rfl, q1, hw1⟩
      have hb1 : Below wr.heap.size wr w1 := grown_q hw1
      have h1 := hT.out.keep hb1
      have H2 := Lib.hid (And.intro h1 (And.intro (has_below hH.out hb1 (by omega)) (hK.out.trans (Kr.of hb1))))
      obtain ⟨c0, c1, c2, c3, z2, z3⟩ := h1.cells
      clear hw1 hb1 h1 hne
      go_wp2_with fail
      go_quiet ((go_at_call 57; exact quiet_same (demand_yes _ _)))
      have hbq : Below w1.heap.size w1 (w1.drewN nq) := Oct.below_drewN (Below.refl _ w1) nq
      have H3 := Lib.hid (And.intro (H2.out.1.keep hbq) (And.intro (has_below H2.out.2.1 hbq (by omega)) (H2.out.2.2.trans (Kr.of hbq))))
      clear hbq H2 c0 c1 c2 c3 z2 z3
      generalize w1.drewN nq = w3 at H3 ⊢
      have hst := HS4.out w3 H3.out.1
      go_wp2_with fail
      refine hst.mono ?_
      clear hst
      rintro e w4 ⟨rfl, hx4, hk4⟩
      have H4 := Lib.hid (And.intro hx4 (And.intro (has_but hR H3.out.2.1 hk4.block) (H3.out.2.2.trans hk4)))
      clear hx4 hk4 H3
      have hby := byte_c w.heap.size u oc w4 H4.out.2.1 (by omega)
      have hbo : ((oc).toNat : Int) ≤ 255 := by have := (oc).toNat_lt; omega
      go_wp2_with fail
      refine hby.mono ?_
      clear hby
      rintro e w5 ⟨rfl, hh5, hb5⟩
      have hx5 : Rx R l b (j : Int) p w5 := (hb5.block R hR).trans H4.out.1
      have H5 := Lib.hid (And.intro hx5 (And.intro hh5 (kr_below H4.out.2.2 hb5)))
      obtain ⟨c0, c1, c2, c3, z2, z3⟩ := hx5.cells
      clear hh5 hb5 hx5 H4
      have H6 := Lib.hid (And.intro (H5.out.1.at_ (n : Int)) (And.intro (has_but hR H5.out.2.1 (Kr.set (R := R) (i := 2) w5 (.int .i64 (n : Int))).block) (H5.out.2.2.trans (Kr.set (R := R) (i := 2) w5 (.int .i64 (n : Int))))))
      go_wp2_with fail
      go_roundw
      case rel => exact ⟨n, u ++ [oc], y', hnl, by rw [List.length_append, List.length_singleton]; omega, H6.out.1, H6.out.2.1, HN.out.1, HN.out.2, H6.out.2.2⟩
      case measure =>
        have e1 := hAt.out
        have e2 := H6.out.1.rAt
        show l.length - rAt R _ < l.length - rAt R _
        rw [e1, e2]
        omega
end Go.Proofs.YtmccbcficbbidaaGreatDoor.Lxw

/-
  Contracts of package lex's reader: what an octet begins, names, what has been gone over.
-/
namespace Go.Proofs.YtmccbcficbbidaaGreatDoor.Lxw
open Go.RowKit Go.Proofs.YtmccbcficbbidaaGreatDoor.Oct Go.Proofs.YtmccbcficbbidaaGreatDoor.Lex

theorem oct_eqv (c : UInt8) (n : Nat) (hn : n < 256) : ((c.toNat : Int) == (n : Int)) = (c == n.toUInt8) := by
  by_cases h : c = n.toUInt8
  · rw [oct_is h hn, h]; simp
  · rw [oct_ne h hn]; simp [h]
theorem digit_c (n : Int) (w : World) (h0 : 0 ≤ n) (h1 : n ≤ 255) :
    Calls Tryz.prog 81 #[.int .u8 n] w fun e w' => e = .returned (.bool (digitI n)) ∧ w = w' := by
  go_enter Tryz.func81, Tryz.ntmps81
  go_wp2
  all_goals go_ret
  all_goals (refine ⟨ret_bool ?_, rfl⟩; rw [Bool.eq_iff_iff]; simp [digitI]; try omega)
def begI (n : Int) : Bool := letterI n || n == 95
theorem begins_i (n : Int) (w : World) (h0 : 0 ≤ n) (h1 : n ≤ 255) :
    Calls Tryz.prog 76 #[.int .u8 n] w fun e w' => e = .returned (.bool (begI n)) ∧ w = w' := by
  have h := letter_c n w h0 h1
  cases hl : letterI n with
  | true =>
    rw [hl] at h
    have hE : Hid (begI n = true) := by show _ = _; unfold begI; rw [hl]; rfl
    go_enter Tryz.func76, Tryz.ntmps76
    go_wp2_with (go_at_call 105; refine h.mono ?_; rintro e w' ⟨rfl, rfl⟩)
    go_ret
    exact ⟨ret_bool hE.out.symm, rfl⟩
  | false =>
    rw [hl] at h
    have hE : Hid (begI n = (n == 95)) := by show _ = _; unfold begI; rw [hl]; rfl
    clear hl
    cases hq : (n == 95) with
    | true =>
      have hn : n = 95 := by simpa using hq
      subst hn
      go_enter Tryz.func76, Tryz.ntmps76
      go_wp2_with (go_at_call 105; refine h.mono ?_; rintro e w' ⟨rfl, rfl⟩)
      go_ret
      exact ⟨ret_bool hE.out.symm, rfl⟩
    | false =>
      have hn : ¬ n = 95 := by simpa using hq
      rw [hq] at hE
      go_enter Tryz.func76, Tryz.ntmps76
      go_wp2_with (go_at_call 105; refine h.mono ?_; rintro e w' ⟨rfl, rfl⟩)
      go_ret
      exact ⟨ret_bool hE.out.symm, rfl⟩
theorem begins_c (c : UInt8) (w : World) : Calls Tryz.prog 76 #[.int .u8 (c.toNat : Int)] w fun e w' => e = .returned (.bool (begB c)) ∧ w = w' := by
  have h := begins_i (c.toNat : Int) w (by omega) (by have := c.toNat_lt; omega)
  have e : begI (c.toNat : Int) = begB c := by
    have h2 := oct_eqv c 95 (by decide)
    replace h2 : ((c.toNat : Int) == 95) = (c == 95) := h2
    unfold begI begB
    rw [h2]
  rw [e] at h
  exact h
theorem digit_o (c : UInt8) (w : World) : Calls Tryz.prog 81 #[.int .u8 (c.toNat : Int)] w fun e w' => e = .returned (.bool (digC c)) ∧ w = w' :=
  digit_c (c.toNat : Int) w (by omega) (by have := c.toNat_lt; omega)
theorem inName_o (c : UInt8) (w : World) : Calls Tryz.prog 106 #[.int .u8 (c.toNat : Int)] w fun e w' => e = .returned (.bool (nameC c)) ∧ w = w' := by
  have h := begins_c c
  have hd := digit_o c
  unfold nameC
  generalize (c.toNat : Int) = n at *
  cases hb : begB c with
  | true =>
    rw [hb] at h
    go_enter Tryz.func106, Tryz.ntmps106
    go_wp2_with (go_at_call 76; refine (h _).mono ?_; rintro e w' ⟨rfl, rfl⟩)
    go_ret
    exact ⟨rfl, rfl⟩
  | false =>
    rw [hb] at h
    generalize digC c = d at *
    go_enter Tryz.func106, Tryz.ntmps106
    go_wp2_with (first
      | (go_at_call 76; refine (h _).mono ?_; rintro e w' ⟨rfl, rfl⟩)
      | (go_at_call 81; refine (hd _).mono ?_; rintro e w' ⟨rfl, rfl⟩))
    go_ret
    exact ⟨rfl, rfl⟩

/-! ### Octets that have a property, from a place on -/
def twN (p : UInt8 → Bool) (l : List UInt8) (k : Nat) : Nat := ((l.drop k).takeWhile p).length
theorem twN_step {p : UInt8 → Bool} (h0 : p 0 = false) (l : List UInt8) (k : Nat) :
    (p (nextO l k) = true ∧ k < l.length ∧ twN p l k = twN p l (k + 1) + 1) ∨ (p (nextO l k) = false ∧ twN p l k = 0) := by
  unfold twN nextO
  by_cases h : k < l.length
  · rw [List.drop_eq_getElem_cons h]
    have e : l.getD k 0 = l[k] := by simp [h]
    rw [e]
    cases hp : p l[k] with
    | true => exact .inl ⟨rfl, h, by rw [List.takeWhile_cons_of_pos hp]; rfl⟩
    | false => exact .inr ⟨rfl, by rw [List.takeWhile_cons_of_neg (by rw [hp]; simp)]; rfl⟩
  · rw [List.drop_of_length_le (by omega)]
    have e : l.getD k 0 = 0 := by simp [h]
    rw [e]
    exact .inr ⟨h0, rfl⟩
theorem twN_le (p : UInt8 → Bool) (l : List UInt8) (k : Nat) (hk : k ≤ l.length) : k + twN p l k ≤ l.length := by
  unfold twN
  have := (List.takeWhile_prefix p (l := l.drop k)).length_le
  rw [List.length_drop] at this
  omega
theorem nameN_at (l : List UInt8) (k : Nat) : nameN (l.drop k) = if begB (nextO l k) = true then twN nameC l k else 0 := by
  unfold twN nextO
  by_cases h : k < l.length
  · rw [List.drop_eq_getElem_cons h]
    have e : l.getD k 0 = l[k] := by simp [h]
    rw [e]
    show (if begB l[k] = true then _ else 0) = _
    by_cases hb : begB l[k] = true
    · have hn : nameC l[k] = true := by unfold nameC; rw [hb]; rfl
      rw [if_pos hb, if_pos hb, List.takeWhile_cons_of_pos hn]
      rfl
    · rw [if_neg hb, if_neg hb]
  · rw [List.drop_of_length_le (by omega)]
    have e : l.getD k 0 = 0 := by simp [h]
    rw [e]
    rfl
theorem nameN_le (l : List UInt8) (k : Nat) (hk : k ≤ l.length) : k + nameN (l.drop k) ≤ l.length := by
  rw [nameN_at]
  have := twN_le nameC l k hk
  split <;> omega

/-- How a name of n octets is gone over. -/
def NameEnd (n : Nat) (e : Ending) : Prop := e = (if n ≤ 32 then .returned (.bool (decide (0 < n))) else Fault 5)
theorem nameEnd_none : NameEnd 0 (.returned (.bool false)) := rfl
theorem nameEnd_yes {n : Nat} (h0 : 0 < n) (h : n ≤ 32) : NameEnd n (.returned (.bool true)) := by
  unfold NameEnd
  rw [if_pos h, decide_eq_true h0]
theorem nameEnd_no {n : Nat} (h : ¬ n ≤ 32) : NameEnd n (Fault 5) := by
  unfold NameEnd
  rw [if_neg h]
set_option maxHeartbeats 1000000 in
set_option maxRecDepth 100000 in
theorem passName_c {R : Nat} {l : List UInt8} {b p : Int} {k q : Nat} (hk : k ≤ l.length) (hq : q = k + nameN (l.drop k)) (hl : l.length ≤ 4194304) (w : World) (h : Rx R l b k p w) :
    Calls Tryz.prog 77 #[.pointer (some ⟨R, 0, none⟩)] w fun e w' =>
      NameEnd (nameN (l.drop k)) e ∧ Rx R l b (q : Int) p w' ∧ Kr R w w' := by
  have hR := h.lt
  have hN := nameN_at l k
  have hne := next_b hk hl w h
  have hbe := fun w => begins_c (nextO l k) w
  cases hb : begB (nextO l k) with
  | false =>
    rw [hb, if_neg (by simp)] at hN
    rw [hb] at hbe
    rw [hN] at hq ⊢
    obtain rfl : q = k := hq
    have HW := Lib.hid h
    clear h hb
    go_enter Tryz.func77, Tryz.ntmps77
    go_wp2_with fail
    refine hne.mono ?_
    clear hne
    rintro e w1 ⟨rfl, hb1⟩
    have H1 := Lib.hid (And.intro (HW.out.keep hb1) (Kr.of (R := R) hb1))
    clear hb1
    go_wp2_with (go_at_call 76; refine (hbe _).mono ?_; rintro e w2 ⟨rfl, rfl⟩)
    go_ret
    exact ⟨nameEnd_none, H1.out.1, H1.out.2⟩
  | true =>
    rw [hb, if_pos rfl] at hN
    rw [hb] at hbe
    obtain ⟨n, hn⟩ : ∃ n, n = twN nameC l k := ⟨_, rfl⟩
    have hpos : 0 < n := by
      rcases twN_step (p := nameC) (by decide) l k with ⟨_, _, h3⟩ | ⟨h1, _⟩
      · omega
      · unfold nameC at h1
        rw [hb] at h1
        exact absurd h1 (by simp)
    rw [hN, ← hn] at hq
    rw [hN, ← hn]
    have HQ := Lib.hid hq
    have HN := Lib.hid hn
    have hnl : k + n ≤ l.length := by rw [hn]; exact twN_le nameC l k hk
    have hpd := Lib.hid hpos
    have k0 : (0 : Int) ≤ (k : Int) := by omega
    have k1 : (k : Int) ≤ 4194304 := by omega
    have HW := Lib.hid h
    have HNe := Lib.hid (fun j (hj : j ≤ l.length) W (h : Rx R l b j p W) => next_b hj hl W h)
    have HIn := Lib.hid (fun c W => inName_o c W)
    clear h hb hN hpos hn hq
    go_enter Tryz.func77, Tryz.ntmps77
    go_wp2_with fail
    refine hne.mono ?_
    clear hne
    rintro e w1 ⟨rfl, hb1⟩
    have H1 := Lib.hid (And.intro (HW.out.keep hb1) (Kr.of (R := R) hb1))
    obtain ⟨c0, c1, c2, c3, z2, z3⟩ := H1.out.1.cells
    clear hb1 HW
    go_wp2_with (go_at_call 76; refine (hbe _).mono ?_; rintro e w2 ⟨rfl, rfl⟩)
    clear c0 c1 c2 c3 z2 z3
    go_loopw [] (fun wr => ∃ j : Nat, j ≤ l.length ∧ Hid (Rx R l b j p wr) ∧ Hid (n + k = j + twN nameC l j) ∧ Hid (Kr R w wr)) (fun wr => l.length - rAt R wr)
    case atStart => exact ⟨k, hk, H1.out.1, (by show _ = _; have := HN.out; omega), H1.out.2⟩
    case round =>
      clear H1
      obtain ⟨j, hj, hT, hE, hK⟩ := hrel
      have hAt := Lib.hid hT.out.rAt
      have hne := HNe.out j hj wr hT.out
      have hin := fun W => HIn.out (nextO l j) W
      have j0 : (0 : Int) ≤ (j : Int) := by omega
      have j1 : (j : Int) ≤ 4194304 := by omega
      rcases twN_step (p := nameC) (by decide) l j with ⟨g1, g2, g3⟩ | ⟨g1, g2⟩
      · rw [g1] at hin
        obtain ⟨m, hm⟩ : ∃ m, m = j + 1 := ⟨_, rfl⟩
        have hmi : (j : Int) + 1 = (m : Int) := by omega
        rw [← hm] at g3
        have HE : Hid (n + k = m + twN nameC l m) := by show _ = _; have := hE.out; omega
        have hml : m ≤ l.length := by omega
        have HM : Hid (m = j + 1) := hm
        clear g1 g3 hm hE
        go_wp2_with fail
        refine hne.mono ?_
        clear hne
        rintro e w3 ⟨rfl, hb3⟩
        have H3 := Lib.hid (And.intro (hT.out.keep hb3) (hK.out.trans (Kr.of (R := R) hb3)))
        obtain ⟨c0, c1, c2, c3, z2, z3⟩ := H3.out.1.cells
        clear hb3
        go_wp2_with (go_at_call 106; refine (hin _).mono ?_; rintro e w4 ⟨rfl, rfl⟩)
        have H4 := Lib.hid (And.intro (H3.out.1.at_ (m : Int)) (H3.out.2.trans (Kr.set (R := R) (i := 2) w3 (.int .i64 (m : Int)))))
        have HAt2 := Lib.hid (H4.out.1.rAt)
        clear c0 c1 c2 c3 z2 z3
        go_roundw
        case rel => exact ⟨m, hml, H4.out.1, HE, H4.out.2⟩
        case measure =>
          have e1 := hAt.out
          have e2 := HAt2.out
          have e3 := HM.out
          show l.length - rAt R _ < l.length - rAt R _
          rw [e1, e2]
          omega
      · rw [g1] at hin
        have hjn : n + k = j := by have := hE.out; omega
        have hji : (j : Int) - (k : Int) = (n : Int) := by omega
        have hn0 : (n : Int) ≤ 4194304 := by omega
        obtain rfl : j = q := by have := HQ.out; omega
        clear g1 g2 hE hjn
        go_wp2_with fail
        refine hne.mono ?_
        clear hne
        rintro e w3 ⟨rfl, hb3⟩
        have H3 := Lib.hid (And.intro (hT.out.keep hb3) (hK.out.trans (Kr.of (R := R) hb3)))
        obtain ⟨c0, c1, c2, c3, z2, z3⟩ := H3.out.1.cells
        clear hb3
        by_cases h32 : n ≤ 32
        · have hd : decide ((n : Int) ≤ 32) = true := decide_eq_true (by omega)
          have hd2 : (n : Int) ≤ 32 := by omega
          have HF := Lib.hid (nameEnd_yes hpd.out h32)
          clear h32
          go_wp2_with (first
            | (go_at_call 106; refine (hin _).mono ?_; rintro e w4 ⟨rfl, rfl⟩)
            | (go_at_call 57; refine (demand_yes _ _).mono ?_; rintro e w5 ⟨rfl, rfl⟩))
          go_ret
          exact ⟨HF.out, H3.out.1, H3.out.2⟩
        · have hd : decide ((n : Int) ≤ 32) = false := decide_eq_false (by omega)
          have hd2 : ¬ (n : Int) ≤ 32 := by omega
          have HF := Lib.hid (nameEnd_no h32)
          clear h32
          go_wp2_with (first
            | (go_at_call 106; refine (hin _).mono ?_; rintro e w4 ⟨rfl, rfl⟩)
            | (go_at_call 57; refine (demand_no _ _).mono ?_; rintro e w5 ⟨rfl, rfl⟩))
          exact ⟨rfl, HF.out, H3.out.1, H3.out.2⟩
end Go.Proofs.YtmccbcficbbidaaGreatDoor.Lxw

/-
  Contracts of two leaves of package number that later layers call too: whether a number lies between two others, how great it is without its sign; they change nothing.
-/
namespace Go.Proofs.YtmccbcficbbidaaGreatDoor.Num
open Go.RowKit Go.Proofs.YtmccbcficbbidaaGreatDoor.Oct

def betweenB (n a b : Int) : Bool := decide (a ≤ n ∧ n ≤ b)


theorem within_c (n a b : Int) (w : World) :
    Calls Tryz.prog 18 #[.int .i64 n, .int .i64 a, .int .i64 b] w fun e w' => e = .returned (.bool (betweenB n a b)) ∧ w = w' := by
  go_enter Tryz.func18, Tryz.ntmps18
  go_wp2
  all_goals go_ret
  all_goals (refine ⟨ret_bool ?_, rfl⟩; unfold betweenB; rw [Bool.eq_iff_iff]; simp; try omega)

theorem sizeOf_c (n : Int) (w : World) (h0 : -9223372036854775808 ≤ n) (h1 : n ≤ 9223372036854775807) :
    Calls Tryz.prog 71 #[.int .i64 n] w fun e w' => e = .returned (.int .u64 (n.natAbs : Int)) ∧ w = w' := by
  by_cases hn : n < 0
  all_goals
    go_enter Tryz.func71, Tryz.ntmps71
    go_wp2
    go_ret
    refine ⟨ret_int ?_, rfl⟩
    (try simp only [IntKind.wrap_u64])
    omega

end Go.Proofs.YtmccbcficbbidaaGreatDoor.Num

/-
  Contracts of the leaves of package number: each is called at any numbers of its kinds and changes nothing.
-/
namespace Go.Proofs.YtmccbcficbbidaaGreatDoor.Num
open Go.RowKit Go.Proofs.YtmccbcficbbidaaGreatDoor.Oct

/-- A sum and the error's number. -/
def addL (a b : Int) : Int × Nat := if -9223372036854775808 ≤ a + b ∧ a + b ≤ 9223372036854775807 then (a + b, 0) else (0, 4)
def cmpL (a b : Int) : Int := if a < b then -1 else if b < a then 1 else 0
theorem compareInt_eq (a b : Int) : Lib.compareInt a b = cmpL a b := by
  unfold Lib.compareInt cmpL
  repeat' split
  all_goals omega

theorem add_wrap (a b : Int) (a0 : -9223372036854775808 ≤ a) (a1 : a ≤ 9223372036854775807) (b0 : -9223372036854775808 ≤ b) (b1 : b ≤ 9223372036854775807) :
    (-9223372036854775808 ≤ a + b ∧ a + b ≤ 9223372036854775807 → IntKind.i64.wrap (a + b) = a + b ∧ (decide (a + b < a) != decide (b < 0)) = false) ∧
    (¬ (-9223372036854775808 ≤ a + b ∧ a + b ≤ 9223372036854775807) → (decide (wrap64 (a + b) < a) == decide (b < 0)) = false) := by
  rw [IntKind.wrap_i64]
  unfold wrap64
  refine ⟨fun h => ⟨by omega, ?_⟩, fun h => ?_⟩
  · rw [show decide (a + b < a) = decide (b < 0) by rw [decide_eq_decide]; omega]; simp
  · by_cases hb : b < 0
    · rw [decide_eq_true hb, decide_eq_false (by omega)]; rfl
    · rw [decide_eq_false hb, decide_eq_true (by omega)]; rfl

theorem ret2 {k k' : IntKind} {a b c d : Int} (h : a = b) (h' : c = d) : Ending.returned (.tuple #[.int k a, .int k' c]) = .returned (.tuple #[.int k b, .int k' d]) := by rw [h, h']

theorem signed_c (u : Nat) (below : Bool) (w : World) (hu : u < 18446744073709551616) :
    Calls Tryz.prog 124 #[.int .u64 (u : Int), .bool below] w fun e w' => e = .returned (.tuple #[.int .i64 (signedL u below).1, .int .i64 ((signedL u below).2 : Int)]) ∧ w = w' := by
  cases below with
  | true =>
    by_cases h : u ≤ 9223372036854775808
    · have F : Hid (signedL u true = (-(u : Int), 0)) := by show _ = _; unfold signedL; rw [if_pos rfl, if_pos h]
      go_enter Tryz.func124, Tryz.ntmps124
      go_wp2
      go_ret2
      refine ⟨?_, rfl⟩
      rw [F.out]
      exact ret2 (by unfold wrap64; rw [IntKind.wrap_u64]; show _ = -(u : Int); omega) rfl
    · have F : Hid (signedL u true = (0, 4)) := by show _ = _; unfold signedL; rw [if_pos rfl, if_neg h]
      go_enter Tryz.func124, Tryz.ntmps124
      go_wp2
      go_ret2
      exact ⟨by rw [F.out]; rfl, rfl⟩
  | false =>
    by_cases h : u ≤ 9223372036854775807
    · have F : Hid (signedL u false = ((u : Int), 0)) := by show _ = _; unfold signedL; rw [if_neg (by simp), if_pos h]
      go_enter Tryz.func124, Tryz.ntmps124
      go_wp2
      go_ret2
      refine ⟨?_, rfl⟩
      rw [F.out]
      rfl
    · have F : Hid (signedL u false = (0, 4)) := by show _ = _; unfold signedL; rw [if_neg (by simp), if_neg h]
      go_enter Tryz.func124, Tryz.ntmps124
      go_wp2
      go_ret2
      exact ⟨by rw [F.out]; rfl, rfl⟩
end Go.Proofs.YtmccbcficbbidaaGreatDoor.Num
