/-
  The law MarksReads, out of the contracts of the calls that it makes; the page's example.
-/
import Derived.Test.YtbpccbdgkkfdpaaDoorMksParse
namespace Go.Proofs.YtbpccbdgkkfdpaaDoor.Mks
open Go.RowKit Go.Proofs.YtbpccbdgkkfdpaaDoor.Oct Go.Proofs.YtbpccbdgkkfdpaaDoor.Num Go.Proofs.YtbpccbdgkkfdpaaDoor.Scn Go.Proofs.YtbpccbdgkkfdpaaDoor.Tab Go.Proofs.YtbpccbdgkkfdpaaDoor.Pct Go.Proofs.YtbpccbdgkkfdpaaDoor.Utf

theorem num_c (n : Int) (w : World) :
    Calls Tryd.prog 7 #[.int .i64 n] w fun e w' => e = .returned (.int .i64 n) ∧ w = w' := by
  go_enter Tryd.func7, Tryd.ntmps7
  go_wp2
  go_ret
  exact ⟨rfl, rfl⟩
theorem start_c (w : World) : Calls Tryd.prog 10 #[] w fun x w' => x = .returned (.agg zero8) ∧ Below w.heap.size w w' := by
  go_enter Tryd.func10, Tryd.ntmps10
  go_wp2_with fail
  refine bodyPost_ret (v := .agg zero8) (by simp [results, Tryd.results10, go_sem]) rfl ?_
  exact ⟨rfl, (Below.refl _ w).alloc (Nat.le_refl _) _⟩
theorem zero_st : (.agg zero8 : Value) = stW st0 := rfl
theorem show0 : showL st0 = [48, 124, 124, 124, 48, 124, 124, 124, 48, 124] := by decide +kernel
theorem check0 : checkC st0 = 0 := by decide +kernel
theorem sized0 : Sized st0 := ⟨by decide, by decide, by decide, by decide, by decide, by decide, by decide, by decide, by decide⟩
set_option maxHeartbeats 1000000 in
theorem alive_c (w : World) (hT : Tabs w) : Calls Tryd.prog 5 #[] w fun e w' => e = .returned (.bool true) ∧ Below w.heap.size w w' := by
  have hS := fun Y => start_c Y
  have hP := Lib.hid (fun Y (h : Tabs Y) => print_c st0 sized0 Y h)
  rw [show0] at hP
  have hC := fun Y => check_c st0 Y
  rw [check0] at hC
  have HT : Hid (∀ Y, Below w.heap.size w Y → Tabs Y) := fun Y b => hT.kept b
  have hn := num_c
  clear hT
  go_enter Tryd.func5, Tryd.ntmps5
  go_wp2_with fail
  refine (hS _).mono ?_
  rintro e1 w1 ⟨rfl, b1⟩
  have B1 := Lib.hid b1
  have h1 := hP.out _ (HT.out _ b1)
  clear b1
  go_wp2_with fail
  refine h1.mono ?_
  rintro e2 w2 ⟨rfl, b2⟩
  have B2 := Lib.hid (B1.out.trans (b2.mono B1.out.size))
  clear b2 h1 B1
  go_wp2_with fail
  refine (hS _).mono ?_
  rintro e3 w3 ⟨rfl, b3⟩
  have B3 := Lib.hid (B2.out.trans (b3.mono B2.out.size))
  clear b3 B2
  go_wp2_with fail
  refine (hC _).mono ?_
  rintro e4 w4 ⟨rfl, b4⟩
  have B4 := Lib.hid (B3.out.trans (b4.mono B3.out.size))
  clear b4 B3
  go_wp2_with (go_at_call 7; refine (hn _ _).mono ?_; rintro e w' ⟨rfl, rfl⟩)
  go_ret
  exact ⟨rfl, B4.out⟩

set_option maxHeartbeats 1000000 in
set_option maxRecDepth 100000 in
theorem reads_w (T : ByteArray) (k : Int) (E A : ByteArray) (d : UInt8) (P R : ByteArray) (n : Int) (Wd : ByteArray) (pe : Nat) (w : World)
    (hAl : ∀ Y, Below w.heap.size w Y → Calls Tryd.prog 5 #[] Y fun e w' => e = .returned (.bool true) ∧ Below Y.heap.size Y w')
    (hPa : Hid (∀ Y, Below w.heap.size w Y → Calls Tryd.prog 6 #[.string T] Y fun e w' => e = .returned (.tuple #[stV k E A d P R n Wd, .int .i64 (pe : Nat)]) ∧ Below Y.heap.size Y w'))
    (h0 : pe ≠ 0 → stV k E A d P R n Wd = .agg zero8)
    (hC : pe = 0 → Hid (∀ Y, Calls Tryd.prog 8 #[stV k E A d P R n Wd] Y fun x w' => x = .returned (.int .i64 0) ∧ Below Y.heap.size Y w'))
    (hPr : pe = 0 → Hid (∀ Y, Below w.heap.size w Y → Calls Tryd.prog 9 #[stV k E A d P R n Wd] Y fun e w' => e = .returned (.string T) ∧ Below Y.heap.size Y w')) :
    Calls Tryd.prog 3 #[.string T] w fun e w' => e = .returned (.bool true) ∧ Below w.heap.size w w' := by
  have hn := num_c
  go_enter Tryd.func3, Tryd.ntmps3
  go_wp2_with fail
  refine (hAl _ (Below.refl _ _)).mono ?_
  rintro e1 w1 ⟨rfl, b1⟩
  have B1 := Lib.hid b1
  clear b1 hAl
  go_wp2_with fail
  refine (hPa.out _ B1.out).mono ?_
  rintro e2 w2 ⟨rfl, b2⟩
  have B2 := Lib.hid (B1.out.trans (b2.mono B1.out.size))
  have hq : Hid (∀ o : Obj, Kp w2 o (w2.alloc o)) := fun o => Kp.first w2 o
  clear b2 hPa
  by_cases h : pe = 0
  · subst h
    have hC2 := hC rfl
    have hPr2 := hPr rfl
    have Q := Lib.hid (hq.out (boxO k E A d.toNat P R n Wd))
    clear h0 hC hPr
    go_wp2_with (go_at_call 7; refine (hn _ _).mono ?_; rintro e w' ⟨rfl, rfl⟩)
    refine (hC2.out _).mono ?_
    rintro e3 w3 ⟨rfl, b3⟩
    have Q3 := Lib.hid (Q.out.next b3)
    obtain ⟨z0, z1, z2, z3, z4, z5, z6, z7⟩ := Q3.out.cells
    have B3 := Lib.hid (B2.out.trans (Q3.out.1.mono B2.out.size))
    clear b3 hC2 Q
    go_wp2_with (go_at_call 7; refine (hn _ _).mono ?_; rintro e w' ⟨rfl, rfl⟩)
    refine (hPr2.out _ B3.out).mono ?_
    rintro e4 w4 ⟨rfl, b4⟩
    have B4 := Lib.hid (B3.out.trans (b4.mono B3.out.size))
    clear b4
    go_wp2_with fail
    go_ret
    exact ⟨ret_bool (by simp), B4.out⟩
  · have hz := h0 h
    injection hz with hz
    simp only [List.cons.injEq, Array.mk.injEq, Value.int.injEq, Value.string.injEq, and_true, true_and] at hz
    obtain ⟨rfl, rfl, rfl, hd, rfl, rfl, rfl, rfl⟩ := hz
    have c0 : ((pe : Int) != 0) = true := by rw [bne_iff_ne]; omega
    generalize (d.toNat : Int) = dd at hd ⊢
    subst hd
    have B3 := Lib.hid (B2.out.trans ((hq.out (.cells zero8 24)).1.mono B2.out.size))
    go_wp2_with (go_at_call 7; refine (hn _ _).mono ?_; rintro e w' ⟨rfl, rfl⟩)
    go_ret
    exact ⟨ret_bool (by simp), B3.out⟩

theorem law_reads (W : World) (s : ByteArray) (hs : s.size ≤ 1048576) (hT : Tabs W) (hM : MaxAt W) :
    Calls Tryd.prog 3 #[.string s] W fun e W' => e = .returned (.bool true) ∧ Below W.heap.size W W' := by
  obtain ⟨t, rfl⟩ : ∃ t, s = S t := ⟨s.data.toList, (S_list s).symm⟩
  rw [size_S] at hs
  have hz := sized_read t (by omega)
  have hz0 : Sized (parS t) := by
    unfold parS
    split
    · exact hz
    · exact sized0
  refine reads_w (S t) (parS t).k (S (parS t).e) (S (parS t).a) (parS t).d (S (parS t).p) (S (parS t).r) (parS t).n (S (parS t).w) (parE t) W
    (fun Y b => alive_c Y (hT.kept b)) (fun Y b => parse_c t (by omega) Y (hT.kept b) (hM.kept b)) ?_ ?_ ?_
  · intro h
    have e : parS t = st0 := by unfold parS; rw [if_neg h]
    rw [e]
    rfl
  · intro h Y
    obtain ⟨k, hk, hc⟩ := check_page (parE_show h).2
    have := rcheck_ok ⟨k, (parS t).e, (parS t).a, (parS t).d, (parS t).p, (parS t).r, (parS t).n, (parS t).w⟩ hc Y
    rw [hk]
    exact this
  · intro h Y b
    have := print_c (parS t) hz0 Y (hT.kept b)
    rw [(parE_show h).1] at this
    exact this
end Go.Proofs.YtbpccbdgkkfdpaaDoor.Mks
