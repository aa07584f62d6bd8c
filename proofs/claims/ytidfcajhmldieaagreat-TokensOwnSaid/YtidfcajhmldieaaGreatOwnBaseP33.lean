/-
  Part 33: TokVal.
-/
import Derived.Test.YtidfcajhmldieaaGreatOwnBaseP32
/-
  Contracts of the page's reader's val.
-/
namespace Go.Proofs.YtidfcajhmldieaaGreat.Tok
open Go.RowKit Go.Proofs.YtidfcajhmldieaaGreat.Oct Go.Proofs.YtidfcajhmldieaaGreat.Utf Go.Proofs.YtidfcajhmldieaaGreat.Crf Go.Proofs.YtidfcajhmldieaaGreat.Tab Go.Proofs.YtidfcajhmldieaaGreat.Mem

set_option maxHeartbeats 2000000 in
set_option maxRecDepth 100000 in
theorem want_blank (R : Nat) (l : List UInt8) (r : Rd) (c : UInt8) (w : World) (h : RdM R l r w) (_ : Sz r) (hst : r.st = 7) (hB : blB c = true) :
    Calls Tryz.prog 13 #[.pointer (some ⟨R, 0, none⟩), .int .u8 (c.toNat : Int)] w fun e w' => e = .returned (.bool false) ∧ RdM R l r w' ∧ Below R w w' := by
  have hcb : (c.toNat : Int) ≤ 255 := by have := c.toNat_lt; omega
  have hbl := fun w => rblank_c (c.toNat : Int) w (by omega) hcb
  have hq : blankI (c.toNat : Int) = true := hB
  simp only [hq] at hbl
  clear hq
  obtain ⟨vo, vt, va, ps, h⟩ := h
  have c2 : w.cell? ⟨R, 2, none⟩ = some (.int .i64 7) := (h.cell 2).trans (by show some (Value.int .i64 (r.st : Int)) = _; rw [hst]; rfl)
  clear hst
  have z2 := h.froz 2
  have hRw : R ≤ w.heap.size := Nat.le_of_lt h.lt
  have HW := Lib.hid h
  clear h hcb
  generalize (c.toNat : Int) = n at *
  go_enter Tryz.func13, Tryz.ntmps13
  go_wp2_with (first | (go_at_call 22; refine (hbl _).mono ?_; rintro e w' ⟨rfl, rfl⟩))
  go_ret
  exact ⟨rfl, ⟨_, _, _, _, HW.out⟩, Below.refl _ _⟩
set_option maxHeartbeats 2000000 in
set_option maxRecDepth 100000 in
theorem want_34 (R : Nat) (l : List UInt8) (r : Rd) (c : UInt8) (w : World) (h : RdM R l r w) (_ : Sz r) (hst : r.st = 7) (hB : blB c = false) (h34 : c = 34) :
    Calls Tryz.prog 13 #[.pointer (some ⟨R, 0, none⟩), .int .u8 (c.toNat : Int)] w fun e w' => e = .returned (.bool false) ∧ RdM R l { r with st := 8, q := c } w' ∧ Below R w w' := by
  have hcb : (c.toNat : Int) ≤ 255 := by have := c.toNat_lt; omega
  have hbl := fun w => rblank_c (c.toNat : Int) w (by omega) hcb
  have hq : blankI (c.toNat : Int) = false := hB
  simp only [hq] at hbl
  clear hq
  have hb34 : ((c.toNat : Int) == 34) = true := by rw [h34]; rfl
  obtain ⟨vo, vt, va, ps, h⟩ := h
  have c2 : w.cell? ⟨R, 2, none⟩ = some (.int .i64 7) := (h.cell 2).trans (by show some (Value.int .i64 (r.st : Int)) = _; rw [hst]; rfl)
  clear hst
  have z2 := h.froz 2
  have hRw : R ≤ w.heap.size := Nat.le_of_lt h.lt
  have c11 : w.cell? ⟨R, 11, none⟩ = some (.int .u8 (r.q.toNat : Int)) := (h.cell 11).trans rfl
  have z11 := h.froz 11
  have hn : c = 34 := h34
  have HW := Lib.hid ((h.seti (r' := { r with st := 8 }) 2 (.int .i64 8) rfl rfl rfl rfl).seti (r' := { r with st := 8, q := c }) 11 (.int .u8 (c.toNat : Int)) rfl rfl rfl rfl)
  clear h hcb hn h34
  generalize (c.toNat : Int) = n at *
  go_enter Tryz.func13, Tryz.ntmps13
  go_wp2_with (first | (go_at_call 22; refine (hbl _).mono ?_; rintro e w' ⟨rfl, rfl⟩))
  go_ret
  exact ⟨rfl, ⟨_, _, _, _, HW.out⟩, below_set _ (below_set _ (Below.refl _ _))⟩
set_option maxHeartbeats 2000000 in
set_option maxRecDepth 100000 in
theorem want_39 (R : Nat) (l : List UInt8) (r : Rd) (c : UInt8) (w : World) (h : RdM R l r w) (_ : Sz r) (hst : r.st = 7) (hB : blB c = false) (h34 : c ≠ 34) (h39 : c = 39) :
    Calls Tryz.prog 13 #[.pointer (some ⟨R, 0, none⟩), .int .u8 (c.toNat : Int)] w fun e w' => e = .returned (.bool false) ∧ RdM R l { r with st := 8, q := c } w' ∧ Below R w w' := by
  have hcb : (c.toNat : Int) ≤ 255 := by have := c.toNat_lt; omega
  have hbl := fun w => rblank_c (c.toNat : Int) w (by omega) hcb
  have hq : blankI (c.toNat : Int) = false := hB
  simp only [hq] at hbl
  clear hq
  have hb34 : ((c.toNat : Int) == 34) = false := oct_ne (n := 34) h34 (by decide)
  have hb39 : ((c.toNat : Int) == 39) = true := by rw [h39]; rfl
  obtain ⟨vo, vt, va, ps, h⟩ := h
  have c2 : w.cell? ⟨R, 2, none⟩ = some (.int .i64 7) := (h.cell 2).trans (by show some (Value.int .i64 (r.st : Int)) = _; rw [hst]; rfl)
  clear hst
  have z2 := h.froz 2
  have hRw : R ≤ w.heap.size := Nat.le_of_lt h.lt
  have c11 : w.cell? ⟨R, 11, none⟩ = some (.int .u8 (r.q.toNat : Int)) := (h.cell 11).trans rfl
  have z11 := h.froz 11
  have hn : c = 39 := h39
  have HW := Lib.hid ((h.seti (r' := { r with st := 8 }) 2 (.int .i64 8) rfl rfl rfl rfl).seti (r' := { r with st := 8, q := c }) 11 (.int .u8 (c.toNat : Int)) rfl rfl rfl rfl)
  clear h hcb hn h39
  generalize (c.toNat : Int) = n at *
  go_enter Tryz.func13, Tryz.ntmps13
  go_wp2_with (first | (go_at_call 22; refine (hbl _).mono ?_; rintro e w' ⟨rfl, rfl⟩))
  go_ret
  exact ⟨rfl, ⟨_, _, _, _, HW.out⟩, below_set _ (below_set _ (Below.refl _ _))⟩
set_option maxHeartbeats 2000000 in
set_option maxRecDepth 100000 in
theorem want_end (R : Nat) (l : List UInt8) (r : Rd) (c : UInt8) (w : World) (h : RdM R l r w) (hz : Sz r) (hst : r.st = 7) (hB : blB c = false) (h34 : c ≠ 34) (h39 : c ≠ 39) (h62 : c = 62) :
    Calls Tryz.prog 13 #[.pointer (some ⟨R, 0, none⟩), .int .u8 (c.toNat : Int)] w fun e w' => e = .returned (.bool false) ∧ RdM R l (endR (putR r)) w' ∧ Below R w w' := by
  have hcb : (c.toNat : Int) ≤ 255 := by have := c.toNat_lt; omega
  have hbl := fun w => rblank_c (c.toNat : Int) w (by omega) hcb
  have hq : blankI (c.toNat : Int) = false := hB
  simp only [hq] at hbl
  clear hq
  have hb34 : ((c.toNat : Int) == 34) = false := oct_ne (n := 34) h34 (by decide)
  have hb39 : ((c.toNat : Int) == 39) = false := oct_ne (n := 39) h39 (by decide)
  have hb62 : ((c.toNat : Int) == 62) = true := by rw [h62]; rfl
  obtain ⟨vo, vt, va, ps, h⟩ := h
  have c2 : w.cell? ⟨R, 2, none⟩ = some (.int .i64 7) := (h.cell 2).trans (by show some (Value.int .i64 (r.st : Int)) = _; rw [hst]; rfl)
  clear hst
  have z2 := h.froz 2
  have hRw : R ≤ w.heap.size := Nat.le_of_lt h.lt
  have hp := rput_c R l r w ⟨_, _, _, _, h⟩ hz.2.2.1 hz.2.2.2.2.1
  have ho : (putR r).out.length ≤ 134217728 := hz.1
  clear h hcb z2
  generalize (c.toNat : Int) = n at *
  go_enter Tryz.func13, Tryz.ntmps13
  go_wp2_with (first | (go_at_call 22; refine (hbl _).mono ?_; rintro e w' ⟨rfl, rfl⟩))
  refine hp.mono ?_
  rintro e w2 ⟨rfl, h2, hb2⟩
  have he := rend_c R l (putR r) w2 h2 ho
  clear h2 hp
  go_wp2_with fail
  refine he.mono ?_
  rintro e w3 ⟨rfl, h3, hb3⟩
  go_wp2_with fail
  go_ret
  exact ⟨rfl, h3, hb2.trans hb3⟩
set_option maxHeartbeats 2000000 in
set_option maxRecDepth 100000 in
theorem want_more (R : Nat) (l : List UInt8) (r : Rd) (c : UInt8) (w : World) (h : RdM R l r w) (_ : Sz r) (hst : r.st = 7) (hB : blB c = false) (h34 : c ≠ 34) (h39 : c ≠ 39) (h62 : c ≠ 62) :
    Calls Tryz.prog 13 #[.pointer (some ⟨R, 0, none⟩), .int .u8 (c.toNat : Int)] w fun e w' => e = .returned (.bool true) ∧ RdM R l (goR 9 r) w' ∧ Below R w w' := by
  have hcb : (c.toNat : Int) ≤ 255 := by have := c.toNat_lt; omega
  have hbl := fun w => rblank_c (c.toNat : Int) w (by omega) hcb
  have hq : blankI (c.toNat : Int) = false := hB
  simp only [hq] at hbl
  clear hq
  have hb34 : ((c.toNat : Int) == 34) = false := oct_ne (n := 34) h34 (by decide)
  have hb39 : ((c.toNat : Int) == 39) = false := oct_ne (n := 39) h39 (by decide)
  have hb62 : ((c.toNat : Int) == 62) = false := oct_ne (n := 62) h62 (by decide)
  obtain ⟨vo, vt, va, ps, h⟩ := h
  have c2 : w.cell? ⟨R, 2, none⟩ = some (.int .i64 7) := (h.cell 2).trans (by show some (Value.int .i64 (r.st : Int)) = _; rw [hst]; rfl)
  clear hst
  have z2 := h.froz 2
  have hRw : R ≤ w.heap.size := Nat.le_of_lt h.lt
  have HW := Lib.hid (h.seti (r' := goR 9 r) 2 (.int .i64 9) rfl rfl rfl rfl)
  clear h hcb
  generalize (c.toNat : Int) = n at *
  go_enter Tryz.func13, Tryz.ntmps13
  go_wp2_with (first | (go_at_call 22; refine (hbl _).mono ?_; rintro e w' ⟨rfl, rfl⟩))
  go_ret
  exact ⟨rfl, ⟨_, _, _, _, HW.out⟩, below_set _ (Below.refl _ _)⟩
set_option maxHeartbeats 2000000 in
set_option maxRecDepth 100000 in
theorem value_end (R : Nat) (l : List UInt8) (r : Rd) (c : UInt8) (w : World) (h : RdM R l r w) (hz : Sz r) (hst : r.st = 8) (hq : c = r.q) :
    Calls Tryz.prog 13 #[.pointer (some ⟨R, 0, none⟩), .int .u8 (c.toNat : Int)] w fun e w' => e = .returned (.bool false) ∧ RdM R l (goR 10 (putR r)) w' ∧ Below R w w' := by
  have hcb : (c.toNat : Int) ≤ 255 := by have := c.toNat_lt; omega

  obtain ⟨vo, vt, va, ps, h⟩ := h
  have c2 : w.cell? ⟨R, 2, none⟩ = some (.int .i64 8) := (h.cell 2).trans (by show some (Value.int .i64 (r.st : Int)) = _; rw [hst]; rfl)
  clear hst
  have z2 := h.froz 2
  have hRw : R ≤ w.heap.size := Nat.le_of_lt h.lt
  have c11 : w.cell? ⟨R, 11, none⟩ = some (.int .u8 (c.toNat : Int)) := (h.cell 11).trans (by rw [hq]; rfl)
  clear hq
  have hp := rput_c R l r w ⟨_, _, _, _, h⟩ hz.2.2.1 hz.2.2.2.2.1
  clear h hcb z2
  generalize (c.toNat : Int) = n at *
  go_enter Tryz.func13, Tryz.ntmps13
  go_wp2_with fail
  refine hp.mono ?_
  rintro e w2 ⟨rfl, ⟨vo2, vt2, va2, ps2, h2⟩, hb2⟩
  have d2 := (h2.cell 2).trans rfl
  have x2 := h2.froz 2
  have HW := Lib.hid (And.intro (h2.seti (r' := goR 10 (putR r)) 2 (.int .i64 10) rfl rfl rfl rfl) hb2)
  clear h2 hb2 hp
  go_wp2_with fail
  go_ret
  exact ⟨rfl, ⟨_, _, _, _, HW.out.1⟩, below_set _ HW.out.2⟩
set_option maxHeartbeats 2000000 in
set_option maxRecDepth 100000 in
theorem value_more (R : Nat) (l : List UInt8) (r : Rd) (c : UInt8) (w : World) (h : RdM R l r w) (hz : Sz r) (hst : r.st = 8) (hq : c ≠ r.q) :
    Calls Tryz.prog 13 #[.pointer (some ⟨R, 0, none⟩), .int .u8 (c.toNat : Int)] w fun e w' => e = .returned (.bool false) ∧ RdM R l (addV c r) w' ∧ Below R w w' := by
  have hcb : (c.toNat : Int) ≤ 255 := by have := c.toNat_lt; omega

  obtain ⟨vo, vt, va, ps, h⟩ := h
  have c2 : w.cell? ⟨R, 2, none⟩ = some (.int .i64 8) := (h.cell 2).trans (by show some (Value.int .i64 (r.st : Int)) = _; rw [hst]; rfl)
  clear hst
  have z2 := h.froz 2
  have hRw : R ≤ w.heap.size := Nat.le_of_lt h.lt
  have c11 : w.cell? ⟨R, 11, none⟩ = some (.int .u8 (r.q.toNat : Int)) := (h.cell 11).trans rfl
  have hqb : ((c.toNat : Int) == (r.q.toNat : Int)) = false := by
    rw [beq_eq_false_iff_ne]
    intro e
    exact hq (UInt8.toNat_inj.1 (by omega))
  clear hq
  generalize (r.q.toNat : Int) = qn at c11 hqb
  have hcv := fun w => conv_one w c
  have hcd := fun w => conv_drew w c
  have c10 : w.cell? ⟨R, 10, none⟩ = some (.string (S r.av.v)) := (h.cell 10).trans rfl
  have z10 := h.froz 10
  have e1 : S r.av.v ++ S [c] = S (r.av.v ++ [c]) := S_append _ _
  have hz1 : (S r.av.v).size ≤ 134217728 := by rw [size_S]; exact hz.2.2.1
  have hz2 : (S [c]).size ≤ 1 := Nat.le_refl 1
  have hRlt : R < w.heap.size := h.lt
  have HX : Hid (∀ X, X = S (r.av.v ++ [c]) → ∀ w2, Below w.heap.size w w2 → RdW R l (addV c r) vo vt va ps (w2.setCell ⟨R, 10, none⟩ (.string X)) ∧ Below R w (w2.setCell ⟨R, 10, none⟩ (.string X))) := fun X hX w2 hb => by
    subst hX
    exact ⟨(h.keep hb).seti (r' := addV c r) 10 _ rfl rfl rfl rfl, below_set _ (hb.mono hRw)⟩
  clear h hcb
  obtain ⟨X, hX⟩ : ∃ X, X = S (r.av.v ++ [c]) := ⟨_, rfl⟩
  have HX := Lib.hid (HX.out X hX)
  rw [← hX] at e1
  clear hX
  generalize (c.toNat : Int) = n at *
  generalize S r.av.v = A at c10 e1 hz1
  generalize S [c] = L at e1 hz2 hcv hcd
  have hcc : ¬ (9223372036854775807 < A.size + L.size) := by omega
  go_enter Tryz.func13, Tryz.ntmps13
  go_wp2_with fail
  go_region
  all_goals
    go_wp2_with fail
    go_ret
    exact ⟨rfl, ⟨_, _, _, _, (HX.out w (Below.refl _ _)).1.keep (((Below.refl _ _).alloc (Nat.le_refl _) _).drew)⟩, ((HX.out w (Below.refl _ _)).2.alloc (by simp; omega) _).drew⟩
set_option maxHeartbeats 2000000 in
set_option maxRecDepth 100000 in
theorem bare_blank (R : Nat) (l : List UInt8) (r : Rd) (c : UInt8) (w : World) (h : RdM R l r w) (hz : Sz r) (hst : r.st = 9) (hB : blB c = true) :
    Calls Tryz.prog 13 #[.pointer (some ⟨R, 0, none⟩), .int .u8 (c.toNat : Int)] w fun e w' => e = .returned (.bool true) ∧ RdM R l (goR 4 (putR r)) w' ∧ Below R w w' := by
  have hcb : (c.toNat : Int) ≤ 255 := by have := c.toNat_lt; omega
  have hbl := fun w => rblank_c (c.toNat : Int) w (by omega) hcb
  have hq : blankI (c.toNat : Int) = true := hB
  simp only [hq] at hbl
  clear hq
  obtain ⟨vo, vt, va, ps, h⟩ := h
  have c2 : w.cell? ⟨R, 2, none⟩ = some (.int .i64 9) := (h.cell 2).trans (by show some (Value.int .i64 (r.st : Int)) = _; rw [hst]; rfl)
  clear hst
  have z2 := h.froz 2
  have hRw : R ≤ w.heap.size := Nat.le_of_lt h.lt
  have hp := rput_c R l r w ⟨_, _, _, _, h⟩ hz.2.2.1 hz.2.2.2.2.1
  clear h hcb z2
  generalize (c.toNat : Int) = n at *
  go_enter Tryz.func13, Tryz.ntmps13
  go_wp2_with (first | (go_at_call 22; refine (hbl _).mono ?_; rintro e w' ⟨rfl, rfl⟩))
  refine hp.mono ?_
  rintro e w2 ⟨rfl, ⟨vo2, vt2, va2, ps2, h2⟩, hb2⟩
  have d2 := (h2.cell 2).trans rfl
  have x2 := h2.froz 2
  have HW := Lib.hid (And.intro (h2.seti (r' := goR 4 (putR r)) 2 (.int .i64 4) rfl rfl rfl rfl) hb2)
  clear h2 hb2 hp
  go_wp2_with fail
  go_ret
  exact ⟨rfl, ⟨_, _, _, _, HW.out.1⟩, below_set _ HW.out.2⟩
set_option maxHeartbeats 2000000 in
set_option maxRecDepth 100000 in
theorem bare_62 (R : Nat) (l : List UInt8) (r : Rd) (c : UInt8) (w : World) (h : RdM R l r w) (hz : Sz r) (hst : r.st = 9) (hB : blB c = false) (h62 : c = 62) :
    Calls Tryz.prog 13 #[.pointer (some ⟨R, 0, none⟩), .int .u8 (c.toNat : Int)] w fun e w' => e = .returned (.bool true) ∧ RdM R l (goR 4 (putR r)) w' ∧ Below R w w' := by
  have hcb : (c.toNat : Int) ≤ 255 := by have := c.toNat_lt; omega
  have hbl := fun w => rblank_c (c.toNat : Int) w (by omega) hcb
  have hq : blankI (c.toNat : Int) = false := hB
  simp only [hq] at hbl
  clear hq
  have hb62 : ((c.toNat : Int) == 62) = true := by rw [h62]; rfl
  obtain ⟨vo, vt, va, ps, h⟩ := h
  have c2 : w.cell? ⟨R, 2, none⟩ = some (.int .i64 9) := (h.cell 2).trans (by show some (Value.int .i64 (r.st : Int)) = _; rw [hst]; rfl)
  clear hst
  have z2 := h.froz 2
  have hRw : R ≤ w.heap.size := Nat.le_of_lt h.lt
  have hp := rput_c R l r w ⟨_, _, _, _, h⟩ hz.2.2.1 hz.2.2.2.2.1
  clear h hcb z2
  generalize (c.toNat : Int) = n at *
  go_enter Tryz.func13, Tryz.ntmps13
  go_wp2_with (first | (go_at_call 22; refine (hbl _).mono ?_; rintro e w' ⟨rfl, rfl⟩))
  refine hp.mono ?_
  rintro e w2 ⟨rfl, ⟨vo2, vt2, va2, ps2, h2⟩, hb2⟩
  have d2 := (h2.cell 2).trans rfl
  have x2 := h2.froz 2
  have HW := Lib.hid (And.intro (h2.seti (r' := goR 4 (putR r)) 2 (.int .i64 4) rfl rfl rfl rfl) hb2)
  clear h2 hb2 hp
  go_wp2_with fail
  go_ret
  exact ⟨rfl, ⟨_, _, _, _, HW.out.1⟩, below_set _ HW.out.2⟩
set_option maxHeartbeats 2000000 in
set_option maxRecDepth 100000 in
theorem bare_more (R : Nat) (l : List UInt8) (r : Rd) (c : UInt8) (w : World) (h : RdM R l r w) (hz : Sz r) (hst : r.st = 9) (hB : blB c = false) (h62 : c ≠ 62) :
    Calls Tryz.prog 13 #[.pointer (some ⟨R, 0, none⟩), .int .u8 (c.toNat : Int)] w fun e w' => e = .returned (.bool false) ∧ RdM R l (addV c r) w' ∧ Below R w w' := by
  have hcb : (c.toNat : Int) ≤ 255 := by have := c.toNat_lt; omega
  have hbl := fun w => rblank_c (c.toNat : Int) w (by omega) hcb
  have hq : blankI (c.toNat : Int) = false := hB
  simp only [hq] at hbl
  clear hq
  have hb62 : ((c.toNat : Int) == 62) = false := oct_ne (n := 62) h62 (by decide)
  obtain ⟨vo, vt, va, ps, h⟩ := h
  have c2 : w.cell? ⟨R, 2, none⟩ = some (.int .i64 9) := (h.cell 2).trans (by show some (Value.int .i64 (r.st : Int)) = _; rw [hst]; rfl)
  clear hst
  have z2 := h.froz 2
  have hRw : R ≤ w.heap.size := Nat.le_of_lt h.lt
  have hcv := fun w => conv_one w c
  have hcd := fun w => conv_drew w c
  have c10 : w.cell? ⟨R, 10, none⟩ = some (.string (S r.av.v)) := (h.cell 10).trans rfl
  have z10 := h.froz 10
  have e1 : S r.av.v ++ S [c] = S (r.av.v ++ [c]) := S_append _ _
  have hz1 : (S r.av.v).size ≤ 134217728 := by rw [size_S]; exact hz.2.2.1
  have hz2 : (S [c]).size ≤ 1 := Nat.le_refl 1
  have hRlt : R < w.heap.size := h.lt
  have HX : Hid (∀ X, X = S (r.av.v ++ [c]) → ∀ w2, Below w.heap.size w w2 → RdW R l (addV c r) vo vt va ps (w2.setCell ⟨R, 10, none⟩ (.string X)) ∧ Below R w (w2.setCell ⟨R, 10, none⟩ (.string X))) := fun X hX w2 hb => by
    subst hX
    exact ⟨(h.keep hb).seti (r' := addV c r) 10 _ rfl rfl rfl rfl, below_set _ (hb.mono hRw)⟩
  clear h hcb
  obtain ⟨X, hX⟩ : ∃ X, X = S (r.av.v ++ [c]) := ⟨_, rfl⟩
  have HX := Lib.hid (HX.out X hX)
  rw [← hX] at e1
  clear hX
  generalize (c.toNat : Int) = n at *
  generalize S r.av.v = A at c10 e1 hz1
  generalize S [c] = L at e1 hz2 hcv hcd
  have hcc : ¬ (9223372036854775807 < A.size + L.size) := by omega
  go_enter Tryz.func13, Tryz.ntmps13
  go_wp2_with (first | (go_at_call 22; refine (hbl _).mono ?_; rintro e w' ⟨rfl, rfl⟩))
  go_region
  all_goals
    go_wp2_with fail
    go_ret
    exact ⟨rfl, ⟨_, _, _, _, (HX.out w (Below.refl _ _)).1.keep (((Below.refl _ _).alloc (Nat.le_refl _) _).drew)⟩, ((HX.out w (Below.refl _ _)).2.alloc (by simp; omega) _).drew⟩
/-- Contract of val. -/
theorem rval_c (R : Nat) (l : List UInt8) (r : Rd) (c : UInt8) (w : World) (h : RdM R l r w) (hz : Sz r) (hst : inVal r.st = true) :
    Calls Tryz.prog 13 #[.pointer (some ⟨R, 0, none⟩), .int .u8 (c.toNat : Int)] w fun e w' => e = .returned (.bool (valR c r).2) ∧ RdM R l (valR c r).1 w' ∧ Below R w w' := by
  have hs := of_decide_eq_true hst
  have hB : blB c = true ∨ blB c = false := by cases blB c <;> simp
  rcases (by omega : r.st = 7 ∨ r.st = 8 ∨ r.st = 9) with h0 | h0 | h0
  · have e0 : valR c r = wantR c r := by unfold valR; rw [if_pos h0]
    rw [e0]
    clear e0
    rcases hB with hB | hB
    · have e : wantR c r = (r, false) := by unfold wantR; rw [hB]; rfl
      rw [e]; exact want_blank R l r c w h hz h0 hB
    · by_cases h34 : c = 34
      · have e : wantR c r = ({ r with st := 8, q := c }, false) := by unfold wantR; rw [hB, if_neg (by simp), if_pos (.inl h34)]
        rw [e]; exact want_34 R l r c w h hz h0 hB h34
      · by_cases h39 : c = 39
        · have e : wantR c r = ({ r with st := 8, q := c }, false) := by unfold wantR; rw [hB, if_neg (by simp), if_pos (.inr h39)]
          rw [e]; exact want_39 R l r c w h hz h0 hB h34 h39
        · have hno : ¬ (c = 34 ∨ c = 39) := fun h => h.elim h34 h39
          by_cases h62 : c = 62
          · have e : wantR c r = (endR (putR r), false) := by unfold wantR; rw [hB, if_neg (by simp), if_neg hno, if_pos h62]
            rw [e]; exact want_end R l r c w h hz h0 hB h34 h39 h62
          · have e : wantR c r = (goR 9 r, true) := by unfold wantR; rw [hB, if_neg (by simp), if_neg hno, if_neg h62]
            rw [e]; exact want_more R l r c w h hz h0 hB h34 h39 h62
  · have e0 : valR c r = valueR c r := by unfold valR; rw [if_neg (by omega), if_pos h0]
    rw [e0]
    clear e0
    by_cases hq : c = r.q
    · have e : valueR c r = (goR 10 (putR r), false) := by unfold valueR; rw [if_pos hq]
      rw [e]; exact value_end R l r c w h hz h0 hq
    · have e : valueR c r = (addV c r, false) := by unfold valueR; rw [if_neg hq]
      rw [e]; exact value_more R l r c w h hz h0 hq
  · have e0 : valR c r = bareR c r := by unfold valR; rw [if_neg (by omega), if_neg (by omega)]
    rw [e0]
    clear e0
    rcases hB with hB | hB
    · have e : bareR c r = (goR 4 (putR r), true) := by unfold bareR; rw [if_pos (.inl hB)]
      rw [e]; exact bare_blank R l r c w h hz h0 hB
    · by_cases h62 : c = 62
      · have e : bareR c r = (goR 4 (putR r), true) := by unfold bareR; rw [if_pos (.inr h62)]
        rw [e]; exact bare_62 R l r c w h hz h0 hB h62
      · have e : bareR c r = (addV c r, false) := by unfold bareR; rw [if_neg (by rw [hB]; simp; exact h62)]
        rw [e]; exact bare_more R l r c w h hz h0 hB h62
end Go.Proofs.YtidfcajhmldieaaGreat.Tok
