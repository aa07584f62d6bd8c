/-
  Contract of the reader's passText, at a text that ends.
-/
import Derived.Test.YtbchjmldjdhjiaaLxwRead
namespace Go.Proofs.Ytbchjmldjdhjiaa.Lxw
open Go.RowKit Go.Proofs.Ytbchjmldjdhjiaa.Oct Go.Proofs.Ytbchjmldjdhjiaa.Lex Go.Proofs.Ytbchjmldjdhjiaa.Build

/-- What stands in a text that ends. -/
theorem str_cases {l : List UInt8} {j : Nat} {y rest : List UInt8} (h : strL (l.drop j) = some (y, rest)) :
    ∃ hj : j < l.length, (l[j] = 34 ∧ y = [] ∧ rest = l.drop (j + 1)) ∨
      (l[j] = 92 ∧ ∃ hj1 : j + 1 < l.length, (l[j + 1] = 110 ∨ l[j + 1] = 116 ∨ l[j + 1] = 92 ∨ l[j + 1] = 34) ∧ ∃ y', y = escV l[j + 1] :: y' ∧ strL (l.drop (j + 2)) = some (y', rest)) ∨
      (l[j] ≠ 34 ∧ l[j] ≠ 92 ∧ l[j] ≠ 10 ∧ ∃ y', y = l[j] :: y' ∧ strL (l.drop (j + 1)) = some (y', rest)) := by
  have hj : j < l.length := by
    apply Classical.byContradiction
    intro hn
    rw [List.drop_of_length_le (by omega)] at h
    simp [strL] at h
  refine ⟨hj, ?_⟩
  rw [List.drop_eq_getElem_cons hj] at h
  generalize l[j] = c at h ⊢
  by_cases h34 : c = 34
  · subst h34
    refine .inl ⟨rfl, ?_⟩
    simp only [strL, Option.some.injEq, Prod.mk.injEq] at h
    exact ⟨h.1.symm, h.2.symm⟩
  · refine .inr ?_
    by_cases h92 : c = 92
    · subst h92
      refine .inl ⟨rfl, ?_⟩
      by_cases hj1 : j + 1 < l.length
      · refine ⟨hj1, ?_⟩
        rw [List.drop_eq_getElem_cons hj1, str_esc] at h
        generalize l[j + 1] = d at h ⊢
        by_cases d1 : d = 110
        · subst d1
          rw [if_pos rfl] at h
          obtain ⟨⟨y', r'⟩, hy, he⟩ := Option.map_eq_some_iff.1 h
          injection he with e1 e2
          subst e2
          exact ⟨.inl rfl, y', e1.symm, hy⟩
        · rw [if_neg d1] at h
          by_cases d2 : d = 116
          · subst d2
            rw [if_pos rfl] at h
            obtain ⟨⟨y', r'⟩, hy, he⟩ := Option.map_eq_some_iff.1 h
            injection he with e1 e2
            subst e2
            exact ⟨.inr (.inl rfl), y', e1.symm, hy⟩
          · rw [if_neg d2] at h
            split at h
            · rename_i d3
              obtain ⟨⟨y', r'⟩, hy, he⟩ := Option.map_eq_some_iff.1 h
              injection he with e1 e2
              subst e2
              refine ⟨.inr (.inr d3), y', ?_, hy⟩
              have : escV d = d := by unfold escV; rw [if_neg d1, if_neg d2]
              rw [this]
              exact e1.symm
            · cases h
      · rw [List.drop_of_length_le (by omega)] at h
        simp [strL] at h
    · refine .inr ?_
      by_cases h10 : c = 10
      · subst h10
        simp [strL] at h
      · rw [str_one c _ h92 h34 h10] at h
        obtain ⟨⟨y', r'⟩, hy, he⟩ := Option.map_eq_some_iff.1 h
        injection he with e1 e2
        subst e2
        exact ⟨h34, h92, h10, y', e1.symm, hy⟩
theorem kr_below {R : Nat} {w W W' : World} (h : Kr R w W) (hb : Below w.heap.size W W') : Kr R w W' :=
  ⟨hb.os.trans h.os, hb.tape.trans h.tape, hb.output.trans h.output, Nat.le_trans h.size hb.size, fun k hk hR => (hb.block k hk).trans (h.block k hk hR)⟩
def rAt (R : Nat) (w : World) : Nat := match w.cell? ⟨R, 2, none⟩ with
  | some (.int _ q) => q.toNat
  | _ => 0
theorem Rx.rAt {R : Nat} {l : List UInt8} {b p : Int} {k : Nat} {w : World} (h : Rx R l b k p w) : rAt R w = k := by
  unfold Lxw.rAt
  rw [h.cells.c2]
  exact Int.toNat_natCast k
set_option maxHeartbeats 2000000 in
set_option maxRecDepth 100000 in
theorem passText_c {R : Nat} {l : List UInt8} {b p : Int} {k : Nat} (hk : k < l.length) (hl : l.length ≤ 4194304) {x rest : List UInt8} (hs : strL (l.drop (k + 1)) = some (x, rest)) (w : World) (h : Rx R l b k p w) :
    Calls Try.prog 47 #[.pointer (some ⟨R, 0, none⟩)] w fun e w' => e = (if x.length ≤ 4096 then .returned (.string (S x)) else Fault 5) ∧ Rx R l b ((l.length - rest.length : Nat) : Int) p w' ∧ Kr R w w' := by
  have hR := h.lt
  have k0 : (0 : Int) ≤ (k : Int) := by omega
  have k1 : (k : Int) ≤ 4194304 := by omega
  obtain ⟨m, hm⟩ : ∃ m, m = k + 1 := ⟨_, rfl⟩
  have k2 : (k : Int) + 1 = (m : Int) := by omega
  rw [← hm] at hs
  have hml : m ≤ l.length := by omega
  obtain ⟨c0, c1, c2, c3, z2, z3⟩ := h.cells
  have HW := Lib.hid h
  have HS := Lib.hid hs
  clear h hs hm
  go_enter Try.func47, Try.ntmps47
  go_wp2_with fail
  have hss : (w.setCell ⟨R, 2, none⟩ (.int .i64 (m : Int))).heap.size = w.heap.size := by simp [World.setCell]
  have hal : Below (w.setCell ⟨R, 2, none⟩ (.int .i64 (m : Int))).heap.size (w.setCell ⟨R, 2, none⟩ (.int .i64 (m : Int))) ((w.setCell ⟨R, 2, none⟩ (.int .i64 (m : Int))).alloc (.cells #[.pointer none, .slice none 0 0] 42)) := (Below.refl _ _).alloc (Nat.le_refl _) _
  have H1 := Lib.hid (And.intro ((HW.out.at_ (m : Int)).keep hal) ((Kr.set (R := R) (i := 2) w (.int .i64 (m : Int))).trans (Kr.of hal)))
  have HB1 : Hid (Has w.heap.size [] ((w.setCell ⟨R, 2, none⟩ (.int .i64 (m : Int))).alloc (.cells #[.pointer none, .slice none 0 0] 42))) := by
    have := has_fresh (w.setCell ⟨R, 2, none⟩ (.int .i64 (m : Int)))
    rw [hss] at this
    exact this
  clear hal c0 c1 c2 c3 z2 z3 hss
  go_loopw [] (fun wr => ∃ (j : Nat) (u y : List UInt8), j ≤ l.length ∧ u.length ≤ j ∧ Hid (Rx R l b j p wr) ∧ Hid (Has w.heap.size u wr) ∧ Hid (strL (l.drop j) = some (y, rest)) ∧ Hid (u ++ y = x) ∧ Hid (Kr R w wr)) (fun wr => l.length - rAt R wr)
  case atStart => exact ⟨m, [], x, hml, Nat.zero_le _, H1.out.1, HB1.out, HS.out, rfl, H1.out.2⟩
  case round =>
    clear H1 HB1
    obtain ⟨j, u, y, hj, huj, hT, hH, hY, hU, hK⟩ := hrel
    have hAt := Lib.hid hT.out.rAt
    obtain ⟨hjl, hc⟩ := str_cases hY.out
    have j0 : (0 : Int) ≤ (j : Int) := by omega
    have j1 : (j : Int) ≤ 4194304 := by omega
    have j2 : (j : Int) < (l.length : Int) := by omega
    have hd : decide ((j : Int) < (l.length : Int)) = true := decide_eq_true j2
    have hne := next_q hjl hl wr hT.out 0
    have hsz : ((S l).size : Int) = (l.length : Int) := by rw [size_S]
    rcases hc with ⟨e34, hy, hr⟩ | ⟨e92, hj1, hd4, y', hy, hs'⟩ | ⟨n34, n92, n10, y', hy, hs'⟩
    · have e1 : ((l[j]).toNat : Int) = 34 := by rw [e34]; rfl
      rw [e1] at hne
      obtain ⟨n, hn⟩ : ∃ n, n = j + 1 := ⟨_, rfl⟩
      have hni : (j : Int) + 1 = (n : Int) := by omega
      have hux : u = x := by rw [← hU.out, hy, List.append_nil]
      have hnr : l.length - rest.length = n := by rw [hr, List.length_drop]; omega
      have HNR := Lib.hid hnr
      have hul : u.length ≤ l.length := by omega
      rw [hux] at hH hul
      have hxi : (x.length : Int) ≤ 4194304 := by omega
      clear hy hr hY hU e34 hux hn hnr
      go_wp2_with fail
      refine hne.mono ?_
      rintro e w1 ⟨rfl, q1, hw1⟩
      have hb1 : Below wr.heap.size wr w1 := grown_q hw1
      have h1 := hT.out.keep hb1
      have H2 := Lib.hid (And.intro h1 (And.intro (has_below hH.out hb1 (by omega)) (hK.out.trans (Kr.of hb1))))
      obtain ⟨c0, c1, c2, c3, z2, z3⟩ := h1.cells
      clear hw1 hb1 h1 hne
      have H6 := Lib.hid (And.intro (H2.out.1.at_ (n : Int)) (And.intro (has_but hR H2.out.2.1 (Kr.set (R := R) (i := 2) w1 (.int .i64 (n : Int))).block) (H2.out.2.2.trans (Kr.set (R := R) (i := 2) w1 (.int .i64 (n : Int))))))
      have hlen := Try.Builder_Len w.heap.size w.heap.size (Lib.byteCells x) _ H6.out.2.1
      rw [Lib.byteCells_length] at hlen
      have hstr := Try.Builder_String_any w.heap.size w.heap.size x _ H6.out.2.1 (Nat.le_of_lt (has_lt H6.out.2.1))
      by_cases hx : x.length ≤ 4096
      · have hd2 : decide ((x.length : Int) ≤ 4096) = true := decide_eq_true (by omega)
        have hd3 : (x.length : Int) ≤ 4096 := by omega
        have HE := Lib.hid hx
        clear hx
        go_wp2_with (first
          | (go_at_call 63; refine hlen.mono ?_; rintro e w4 ⟨rfl, rfl⟩)
          | (go_at_call 51; refine (demand_yes _ _).mono ?_; rintro e w4 ⟨rfl, rfl⟩)
          | (go_at_call 16; refine hstr.mono ?_; rintro e w5 ⟨rfl, hb5⟩))
        go_ret
        refine ⟨by first | rfl | (rw [if_pos HE.out]; rfl), ?_, kr_below H6.out.2.2 hb5⟩
        rw [HNR.out]
        exact (hb5.block R hR).trans H6.out.1
      · have hd2 : decide ((x.length : Int) ≤ 4096) = false := decide_eq_false (by omega)
        have hd3 : ¬ (x.length : Int) ≤ 4096 := by omega
        have HE := Lib.hid hx
        clear hx
        go_wp2_with (first
          | (go_at_call 63; refine hlen.mono ?_; rintro e w4 ⟨rfl, rfl⟩)
          | (go_at_call 51; refine (demand_no _ _).mono ?_; rintro e w4 ⟨rfl, rfl⟩))
        refine ⟨rfl, by first | rfl | rw [if_neg HE.out], ?_, H6.out.2.2⟩
        rw [HNR.out]
        exact H6.out.1
    · have e1 : ((l[j]).toNat : Int) = 92 := by rw [e92]; rfl
      rw [e1] at hne
      obtain ⟨n, hn⟩ : ∃ n, n = j + 2 := ⟨_, rfl⟩
      have hnl : n ≤ l.length := by omega
      have hni : ((j + 1 : Nat) : Int) + 1 = (n : Int) := by omega
      have hni2 : (j : Int) + 1 + 1 = (n : Int) := by omega
      obtain ⟨oc, hoc⟩ : ∃ oc, oc = escV l[j + 1] := ⟨_, rfl⟩
      have HN : Hid (strL (l.drop n) = some (y', rest) ∧ (u ++ [oc]) ++ y' = x) := ⟨by rw [hn]; exact hs', by rw [← hU.out, hy, List.append_assoc, hoc]; rfl⟩
      have hjn : j < n := by omega
      have HS4 := Lib.hid (fun W (h : Rx R l b j p W) => stood_esc hj1 hl W h e92 hd4)
      rw [← hoc] at HS4
      obtain ⟨j9, hj9⟩ : ∃ j9, j9 = j + 1 := ⟨_, rfl⟩
      rw [← hj9] at HS4
      have hj9i : (j9 : Int) + 1 = (n : Int) := by omega
      clear hy hs' hY hU e92 hn hj9 hoc
      go_wp2_with fail
      refine hne.mono ?_
      rintro e w1 ⟨rfl, q1, hw1⟩
      have hb1 : Below wr.heap.size wr w1 := grown_q hw1
      have h1 := hT.out.keep hb1
      have H2 := Lib.hid (And.intro h1 (And.intro (has_below hH.out hb1 (by omega)) (hK.out.trans (Kr.of hb1))))
      obtain ⟨c0, c1, c2, c3, z2, z3⟩ := h1.cells
      clear hw1 hb1 h1 hne
      go_wp2_with fail
      go_quiet ((go_at_call 51; exact quiet_same (demand_yes _ _)))
      have hbq : Below w1.heap.size w1 (w1.drewN nq) := Oct.below_drewN (Below.refl _ w1) nq
      have H3 := Lib.hid (And.intro (H2.out.1.keep hbq) (And.intro (has_below H2.out.2.1 hbq (by omega)) (H2.out.2.2.trans (Kr.of hbq))))
      clear hbq H2 c0 c1 c2 c3 z2 z3
      generalize w1.drewN nq = w3 at H3 ⊢
      have hst := HS4.out w3 H3.out.1
      go_wp2_with fail
      refine hst.mono ?_
      clear hst
      rintro e w4 ⟨rfl, hx4, hk4⟩
      have H4 := Lib.hid (And.intro hx4 (And.intro (has_but hR H3.out.2.1 hk4.block) (H3.out.2.2.trans hk4)))
      clear hx4 hk4 H3
      have hby := byte_c w.heap.size u oc w4 H4.out.2.1 (by omega)
      have hbo : ((oc).toNat : Int) ≤ 255 := by have := (oc).toNat_lt; omega
      go_wp2_with fail
      refine hby.mono ?_
      clear hby
      rintro e w5 ⟨rfl, hh5, hb5⟩
      have hx5 : Rx R l b (j9 : Int) p w5 := (hb5.block R hR).trans H4.out.1
      have H5 := Lib.hid (And.intro hx5 (And.intro hh5 (kr_below H4.out.2.2 hb5)))
      obtain ⟨c0, c1, c2, c3, z2, z3⟩ := hx5.cells
      clear hh5 hb5 hx5 H4
      have H6 := Lib.hid (And.intro (H5.out.1.at_ (n : Int)) (And.intro (has_but hR H5.out.2.1 (Kr.set (R := R) (i := 2) w5 (.int .i64 (n : Int))).block) (H5.out.2.2.trans (Kr.set (R := R) (i := 2) w5 (.int .i64 (n : Int))))))
      go_wp2_with fail
      go_roundw
      case rel => exact ⟨n, u ++ [oc], y', hnl, by rw [List.length_append, List.length_singleton]; omega, H6.out.1, H6.out.2.1, HN.out.1, HN.out.2, H6.out.2.2⟩
      case measure =>
        have e1 := hAt.out
        have e2 := H6.out.1.rAt
        show l.length - rAt R _ < l.length - rAt R _
        rw [e1, e2]
        omega
    · obtain ⟨n, hn⟩ : ∃ n, n = j + 1 := ⟨_, rfl⟩
      have hnl : n ≤ l.length := by omega
      have hni : (j : Int) + 1 = (n : Int) := by omega
      obtain ⟨oc, hoc⟩ : ∃ oc, oc = l[j] := ⟨_, rfl⟩
      have HN : Hid (strL (l.drop n) = some (y', rest) ∧ (u ++ [oc]) ++ y' = x) := ⟨by rw [hn]; exact hs', by rw [← hU.out, hy, List.append_assoc, hoc]; rfl⟩
      have hjn : j < n := by omega
      have HS4 := Lib.hid (fun W (h : Rx R l b j p W) => stood_plain hjl hl W h n92 n10)
      have q34 : (((l[j]).toNat : Int) == 34) = false := oct_ne (n := 34) n34 (by decide)
      have q35 : ¬ ((l[j]).toNat : Int) = 34 := by rw [beq_eq_false_iff_ne] at q34; exact q34
      have q36 : (((l[j]).toNat : Int) != 34) = true := by rw [bne, q34]; rfl
      rw [← hoc] at HS4 hne q34 q35 q36
      clear hy hs' hY hU hn n34 n92 n10 hoc
      go_wp2_with fail
      refine hne.mono ?_
      rintro e w1 ⟨rfl, q1, hw1⟩
      have hb1 : Below wr.heap.size wr w1 := grown_q hw1
      have h1 := hT.out.keep hb1
      have H2 := Lib.hid (And.intro h1 (And.intro (has_below hH.out hb1 (by omega)) (hK.out.trans (Kr.of hb1))))
      obtain ⟨c0, c1, c2, c3, z2, z3⟩ := h1.cells
      clear hw1 hb1 h1 hne
      go_wp2_with fail
      go_quiet ((go_at_call 51; exact quiet_same (demand_yes _ _)))
      have hbq : Below w1.heap.size w1 (w1.drewN nq) := Oct.below_drewN (Below.refl _ w1) nq
      have H3 := Lib.hid (And.intro (H2.out.1.keep hbq) (And.intro (has_below H2.out.2.1 hbq (by omega)) (H2.out.2.2.trans (Kr.of hbq))))
      clear hbq H2 c0 c1 c2 c3 z2 z3
      generalize w1.drewN nq = w3 at H3 ⊢
      have hst := HS4.out w3 H3.out.1
      go_wp2_with fail
      refine hst.mono ?_
      clear hst
      rintro e w4 ⟨rfl, hx4, hk4⟩
      have H4 := Lib.hid (And.intro hx4 (And.intro (has_but hR H3.out.2.1 hk4.block) (H3.out.2.2.trans hk4)))
      clear hx4 hk4 H3
      have hby := byte_c w.heap.size u oc w4 H4.out.2.1 (by omega)
      have hbo : ((oc).toNat : Int) ≤ 255 := by have := (oc).toNat_lt; omega
      go_wp2_with fail
      refine hby.mono ?_
      clear hby
      rintro e w5 ⟨rfl, hh5, hb5⟩
      have hx5 : Rx R l b (j : Int) p w5 := (hb5.block R hR).trans H4.out.1
      have H5 := Lib.hid (And.intro hx5 (And.intro hh5 (kr_below H4.out.2.2 hb5)))
      obtain ⟨c0, c1, c2, c3, z2, z3⟩ := hx5.cells
      clear hh5 hb5 hx5 H4
      have H6 := Lib.hid (And.intro (H5.out.1.at_ (n : Int)) (And.intro (has_but hR H5.out.2.1 (Kr.set (R := R) (i := 2) w5 (.int .i64 (n : Int))).block) (H5.out.2.2.trans (Kr.set (R := R) (i := 2) w5 (.int .i64 (n : Int))))))
      go_wp2_with fail
      go_roundw
      case rel => exact ⟨n, u ++ [oc], y', hnl, by rw [List.length_append, List.length_singleton]; omega, H6.out.1, H6.out.2.1, HN.out.1, HN.out.2, H6.out.2.2⟩
      case measure =>
        have e1 := hAt.out
        have e2 := H6.out.1.rAt
        show l.length - rAt R _ < l.length - rAt R _
        rw [e1, e2]
        omega
end Go.Proofs.Ytbchjmldjdhjiaa.Lxw
