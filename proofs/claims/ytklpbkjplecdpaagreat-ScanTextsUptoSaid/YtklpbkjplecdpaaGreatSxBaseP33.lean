/-
  Part 33: TokVal, TokOpen, TokMark.
-/
import Derived.Test.YtklpbkjplecdpaaGreatSxBaseP32
import Derived.Test.YtklpbkjplecdpaaGreatSxBaseP30
import Derived.Test.YtklpbkjplecdpaaGreatSxBaseP25
/-
  Contracts of the page's reader's val.
-/
namespace Go.Proofs.YtklpbkjplecdpaaGreat.Tok
open Go.RowKit Oct Utf Crf Tab Mem

set_option maxHeartbeats 2000000 in
set_option maxRecDepth 100000 in
theorem want_blank (R : Nat) (l : List UInt8) (r : Rd) (c : UInt8) (w : World) (h : RdM R l r w) (_ : Sz r) (hst : r.st = 7) (hB : blB c = true) :
    Calls Tryz.prog 26 #[.pointer (some ⟨R, 0, none⟩), .int .u8 (c.toNat : Int)] w fun e w' => e = .returned (.bool false) ∧ RdM R l r w' ∧ Below R w w' := by
  have hcb : (c.toNat : Int) ≤ 255 := by have := c.toNat_lt; omega
  have hbl := fun w => rblank_c (c.toNat : Int) w (by omega) hcb
  have hq : blankI (c.toNat : Int) = true := hB
  simp only [hq] at hbl
  clear hq
  obtain ⟨vo, vt, va, ps, h⟩ := h
  have c2 : w.cell? ⟨R, 2, none⟩ = some (.int .i64 7) := (h.cell 2).trans (by show some (Value.int .i64 (r.st : Int)) = _; rw [hst]; rfl)
  clear hst
  have z2 := h.froz 2
  have hRw : R ≤ w.heap.size := Nat.le_of_lt h.lt
  have HW := Lib.hid h
  clear h hcb
  generalize (c.toNat : Int) = n at *
  go_enter Tryz.func26, Tryz.ntmps26
  go_wp2_with (first | (go_at_call 53; refine (hbl _).mono ?_; rintro e w' ⟨rfl, rfl⟩))
  go_ret
  exact ⟨rfl, ⟨_, _, _, _, HW.out⟩, Below.refl _ _⟩
set_option maxHeartbeats 2000000 in
set_option maxRecDepth 100000 in
theorem want_34 (R : Nat) (l : List UInt8) (r : Rd) (c : UInt8) (w : World) (h : RdM R l r w) (_ : Sz r) (hst : r.st = 7) (hB : blB c = false) (h34 : c = 34) :
    Calls Tryz.prog 26 #[.pointer (some ⟨R, 0, none⟩), .int .u8 (c.toNat : Int)] w fun e w' => e = .returned (.bool false) ∧ RdM R l { r with st := 8, q := c } w' ∧ Below R w w' := by
  have hcb : (c.toNat : Int) ≤ 255 := by have := c.toNat_lt; omega
  have hbl := fun w => rblank_c (c.toNat : Int) w (by omega) hcb
  have hq : blankI (c.toNat : Int) = false := hB
  simp only [hq] at hbl
  clear hq
  have hb34 : ((c.toNat : Int) == 34) = true := by rw [h34]; rfl
  obtain ⟨vo, vt, va, ps, h⟩ := h
  have c2 : w.cell? ⟨R, 2, none⟩ = some (.int .i64 7) := (h.cell 2).trans (by show some (Value.int .i64 (r.st : Int)) = _; rw [hst]; rfl)
  clear hst
  have z2 := h.froz 2
  have hRw : R ≤ w.heap.size := Nat.le_of_lt h.lt
  have c11 : w.cell? ⟨R, 11, none⟩ = some (.int .u8 (r.q.toNat : Int)) := (h.cell 11).trans rfl
  have z11 := h.froz 11
  have hn : c = 34 := h34
  have HW := Lib.hid ((h.seti (r' := { r with st := 8 }) 2 (.int .i64 8) rfl rfl rfl rfl).seti (r' := { r with st := 8, q := c }) 11 (.int .u8 (c.toNat : Int)) rfl rfl rfl rfl)
  clear h hcb hn h34
  generalize (c.toNat : Int) = n at *
  go_enter Tryz.func26, Tryz.ntmps26
  go_wp2_with (first | (go_at_call 53; refine (hbl _).mono ?_; rintro e w' ⟨rfl, rfl⟩))
  go_ret
  exact ⟨rfl, ⟨_, _, _, _, HW.out⟩, below_set _ (below_set _ (Below.refl _ _))⟩
set_option maxHeartbeats 2000000 in
set_option maxRecDepth 100000 in
theorem want_39 (R : Nat) (l : List UInt8) (r : Rd) (c : UInt8) (w : World) (h : RdM R l r w) (_ : Sz r) (hst : r.st = 7) (hB : blB c = false) (h34 : c ≠ 34) (h39 : c = 39) :
    Calls Tryz.prog 26 #[.pointer (some ⟨R, 0, none⟩), .int .u8 (c.toNat : Int)] w fun e w' => e = .returned (.bool false) ∧ RdM R l { r with st := 8, q := c } w' ∧ Below R w w' := by
  have hcb : (c.toNat : Int) ≤ 255 := by have := c.toNat_lt; omega
  have hbl := fun w => rblank_c (c.toNat : Int) w (by omega) hcb
  have hq : blankI (c.toNat : Int) = false := hB
  simp only [hq] at hbl
  clear hq
  have hb34 : ((c.toNat : Int) == 34) = false := oct_ne (n := 34) h34 (by decide)
  have hb39 : ((c.toNat : Int) == 39) = true := by rw [h39]; rfl
  obtain ⟨vo, vt, va, ps, h⟩ := h
  have c2 : w.cell? ⟨R, 2, none⟩ = some (.int .i64 7) := (h.cell 2).trans (by show some (Value.int .i64 (r.st : Int)) = _; rw [hst]; rfl)
  clear hst
  have z2 := h.froz 2
  have hRw : R ≤ w.heap.size := Nat.le_of_lt h.lt
  have c11 : w.cell? ⟨R, 11, none⟩ = some (.int .u8 (r.q.toNat : Int)) := (h.cell 11).trans rfl
  have z11 := h.froz 11
  have hn : c = 39 := h39
  have HW := Lib.hid ((h.seti (r' := { r with st := 8 }) 2 (.int .i64 8) rfl rfl rfl rfl).seti (r' := { r with st := 8, q := c }) 11 (.int .u8 (c.toNat : Int)) rfl rfl rfl rfl)
  clear h hcb hn h39
  generalize (c.toNat : Int) = n at *
  go_enter Tryz.func26, Tryz.ntmps26
  go_wp2_with (first | (go_at_call 53; refine (hbl _).mono ?_; rintro e w' ⟨rfl, rfl⟩))
  go_ret
  exact ⟨rfl, ⟨_, _, _, _, HW.out⟩, below_set _ (below_set _ (Below.refl _ _))⟩
set_option maxHeartbeats 2000000 in
set_option maxRecDepth 100000 in
theorem want_end (R : Nat) (l : List UInt8) (r : Rd) (c : UInt8) (w : World) (h : RdM R l r w) (hz : Sz r) (hst : r.st = 7) (hB : blB c = false) (h34 : c ≠ 34) (h39 : c ≠ 39) (h62 : c = 62) :
    Calls Tryz.prog 26 #[.pointer (some ⟨R, 0, none⟩), .int .u8 (c.toNat : Int)] w fun e w' => e = .returned (.bool false) ∧ RdM R l (endR (putR r)) w' ∧ Below R w w' := by
  have hcb : (c.toNat : Int) ≤ 255 := by have := c.toNat_lt; omega
  have hbl := fun w => rblank_c (c.toNat : Int) w (by omega) hcb
  have hq : blankI (c.toNat : Int) = false := hB
  simp only [hq] at hbl
  clear hq
  have hb34 : ((c.toNat : Int) == 34) = false := oct_ne (n := 34) h34 (by decide)
  have hb39 : ((c.toNat : Int) == 39) = false := oct_ne (n := 39) h39 (by decide)
  have hb62 : ((c.toNat : Int) == 62) = true := by rw [h62]; rfl
  obtain ⟨vo, vt, va, ps, h⟩ := h
  have c2 : w.cell? ⟨R, 2, none⟩ = some (.int .i64 7) := (h.cell 2).trans (by show some (Value.int .i64 (r.st : Int)) = _; rw [hst]; rfl)
  clear hst
  have z2 := h.froz 2
  have hRw : R ≤ w.heap.size := Nat.le_of_lt h.lt
  have hp := rput_c R l r w ⟨_, _, _, _, h⟩ hz.2.2.1 hz.2.2.2.2.1
  have ho : (putR r).out.length ≤ 134217728 := hz.1
  clear h hcb z2
  generalize (c.toNat : Int) = n at *
  go_enter Tryz.func26, Tryz.ntmps26
  go_wp2_with (first | (go_at_call 53; refine (hbl _).mono ?_; rintro e w' ⟨rfl, rfl⟩))
  refine hp.mono ?_
  rintro e w2 ⟨rfl, h2, hb2⟩
  have he := rend_c R l (putR r) w2 h2 ho
  clear h2 hp
  go_wp2_with fail
  refine he.mono ?_
  rintro e w3 ⟨rfl, h3, hb3⟩
  go_wp2_with fail
  go_ret
  exact ⟨rfl, h3, hb2.trans hb3⟩
set_option maxHeartbeats 2000000 in
set_option maxRecDepth 100000 in
theorem want_more (R : Nat) (l : List UInt8) (r : Rd) (c : UInt8) (w : World) (h : RdM R l r w) (_ : Sz r) (hst : r.st = 7) (hB : blB c = false) (h34 : c ≠ 34) (h39 : c ≠ 39) (h62 : c ≠ 62) :
    Calls Tryz.prog 26 #[.pointer (some ⟨R, 0, none⟩), .int .u8 (c.toNat : Int)] w fun e w' => e = .returned (.bool true) ∧ RdM R l (goR 9 r) w' ∧ Below R w w' := by
  have hcb : (c.toNat : Int) ≤ 255 := by have := c.toNat_lt; omega
  have hbl := fun w => rblank_c (c.toNat : Int) w (by omega) hcb
  have hq : blankI (c.toNat : Int) = false := hB
  simp only [hq] at hbl
  clear hq
  have hb34 : ((c.toNat : Int) == 34) = false := oct_ne (n := 34) h34 (by decide)
  have hb39 : ((c.toNat : Int) == 39) = false := oct_ne (n := 39) h39 (by decide)
  have hb62 : ((c.toNat : Int) == 62) = false := oct_ne (n := 62) h62 (by decide)
  obtain ⟨vo, vt, va, ps, h⟩ := h
  have c2 : w.cell? ⟨R, 2, none⟩ = some (.int .i64 7) := (h.cell 2).trans (by show some (Value.int .i64 (r.st : Int)) = _; rw [hst]; rfl)
  clear hst
  have z2 := h.froz 2
  have hRw : R ≤ w.heap.size := Nat.le_of_lt h.lt
  have HW := Lib.hid (h.seti (r' := goR 9 r) 2 (.int .i64 9) rfl rfl rfl rfl)
  clear h hcb
  generalize (c.toNat : Int) = n at *
  go_enter Tryz.func26, Tryz.ntmps26
  go_wp2_with (first | (go_at_call 53; refine (hbl _).mono ?_; rintro e w' ⟨rfl, rfl⟩))
  go_ret
  exact ⟨rfl, ⟨_, _, _, _, HW.out⟩, below_set _ (Below.refl _ _)⟩
set_option maxHeartbeats 2000000 in
set_option maxRecDepth 100000 in
theorem value_end (R : Nat) (l : List UInt8) (r : Rd) (c : UInt8) (w : World) (h : RdM R l r w) (hz : Sz r) (hst : r.st = 8) (hq : c = r.q) :
    Calls Tryz.prog 26 #[.pointer (some ⟨R, 0, none⟩), .int .u8 (c.toNat : Int)] w fun e w' => e = .returned (.bool false) ∧ RdM R l (goR 10 (putR r)) w' ∧ Below R w w' := by
  have hcb : (c.toNat : Int) ≤ 255 := by have := c.toNat_lt; omega

  obtain ⟨vo, vt, va, ps, h⟩ := h
  have c2 : w.cell? ⟨R, 2, none⟩ = some (.int .i64 8) := (h.cell 2).trans (by show some (Value.int .i64 (r.st : Int)) = _; rw [hst]; rfl)
  clear hst
  have z2 := h.froz 2
  have hRw : R ≤ w.heap.size := Nat.le_of_lt h.lt
  have c11 : w.cell? ⟨R, 11, none⟩ = some (.int .u8 (c.toNat : Int)) := (h.cell 11).trans (by rw [hq]; rfl)
  clear hq
  have hp := rput_c R l r w ⟨_, _, _, _, h⟩ hz.2.2.1 hz.2.2.2.2.1
  clear h hcb z2
  generalize (c.toNat : Int) = n at *
  go_enter Tryz.func26, Tryz.ntmps26
  go_wp2_with fail
  refine hp.mono ?_
  rintro e w2 ⟨rfl, ⟨vo2, vt2, va2, ps2, h2⟩, hb2⟩
  have d2 := (h2.cell 2).trans rfl
  have x2 := h2.froz 2
  have HW := Lib.hid (And.intro (h2.seti (r' := goR 10 (putR r)) 2 (.int .i64 10) rfl rfl rfl rfl) hb2)
  clear h2 hb2 hp
  go_wp2_with fail
  go_ret
  exact ⟨rfl, ⟨_, _, _, _, HW.out.1⟩, below_set _ HW.out.2⟩
set_option maxHeartbeats 2000000 in
set_option maxRecDepth 100000 in
theorem value_more (R : Nat) (l : List UInt8) (r : Rd) (c : UInt8) (w : World) (h : RdM R l r w) (hz : Sz r) (hst : r.st = 8) (hq : c ≠ r.q) :
    Calls Tryz.prog 26 #[.pointer (some ⟨R, 0, none⟩), .int .u8 (c.toNat : Int)] w fun e w' => e = .returned (.bool false) ∧ RdM R l (addV c r) w' ∧ Below R w w' := by
  have hcb : (c.toNat : Int) ≤ 255 := by have := c.toNat_lt; omega

  obtain ⟨vo, vt, va, ps, h⟩ := h
  have c2 : w.cell? ⟨R, 2, none⟩ = some (.int .i64 8) := (h.cell 2).trans (by show some (Value.int .i64 (r.st : Int)) = _; rw [hst]; rfl)
  clear hst
  have z2 := h.froz 2
  have hRw : R ≤ w.heap.size := Nat.le_of_lt h.lt
  have c11 : w.cell? ⟨R, 11, none⟩ = some (.int .u8 (r.q.toNat : Int)) := (h.cell 11).trans rfl
  have hqb : ((c.toNat : Int) == (r.q.toNat : Int)) = false := by
    rw [beq_eq_false_iff_ne]
    intro e
    exact hq (UInt8.toNat_inj.1 (by omega))
  clear hq
  generalize (r.q.toNat : Int) = qn at c11 hqb
  have hcv := fun w => conv_one w c
  have hcd := fun w => conv_drew w c
  have c10 : w.cell? ⟨R, 10, none⟩ = some (.string (S r.av.v)) := (h.cell 10).trans rfl
  have z10 := h.froz 10
  have e1 : S r.av.v ++ S [c] = S (r.av.v ++ [c]) := S_append _ _
  have hz1 : (S r.av.v).size ≤ 134217728 := by rw [size_S]; exact hz.2.2.1
  have hz2 : (S [c]).size ≤ 1 := Nat.le_refl 1
  have hRlt : R < w.heap.size := h.lt
  have HX : Hid (∀ X, X = S (r.av.v ++ [c]) → ∀ w2, Below w.heap.size w w2 → RdW R l (addV c r) vo vt va ps (w2.setCell ⟨R, 10, none⟩ (.string X)) ∧ Below R w (w2.setCell ⟨R, 10, none⟩ (.string X))) := fun X hX w2 hb => by
    subst hX
    exact ⟨(h.keep hb).seti (r' := addV c r) 10 _ rfl rfl rfl rfl, below_set _ (hb.mono hRw)⟩
  clear h hcb
  obtain ⟨X, hX⟩ : ∃ X, X = S (r.av.v ++ [c]) := ⟨_, rfl⟩
  have HX := Lib.hid (HX.out X hX)
  rw [← hX] at e1
  clear hX
  generalize (c.toNat : Int) = n at *
  generalize S r.av.v = A at c10 e1 hz1
  generalize S [c] = L at e1 hz2 hcv hcd
  have hcc : ¬ (9223372036854775807 < A.size + L.size) := by omega
  go_enter Tryz.func26, Tryz.ntmps26
  go_wp2_with fail
  go_region
  all_goals
    go_wp2_with fail
    go_ret
    exact ⟨rfl, ⟨_, _, _, _, (HX.out w (Below.refl _ _)).1.keep (((Below.refl _ _).alloc (Nat.le_refl _) _).drew)⟩, ((HX.out w (Below.refl _ _)).2.alloc (by simp; omega) _).drew⟩
set_option maxHeartbeats 2000000 in
set_option maxRecDepth 100000 in
theorem bare_blank (R : Nat) (l : List UInt8) (r : Rd) (c : UInt8) (w : World) (h : RdM R l r w) (hz : Sz r) (hst : r.st = 9) (hB : blB c = true) :
    Calls Tryz.prog 26 #[.pointer (some ⟨R, 0, none⟩), .int .u8 (c.toNat : Int)] w fun e w' => e = .returned (.bool true) ∧ RdM R l (goR 4 (putR r)) w' ∧ Below R w w' := by
  have hcb : (c.toNat : Int) ≤ 255 := by have := c.toNat_lt; omega
  have hbl := fun w => rblank_c (c.toNat : Int) w (by omega) hcb
  have hq : blankI (c.toNat : Int) = true := hB
  simp only [hq] at hbl
  clear hq
  obtain ⟨vo, vt, va, ps, h⟩ := h
  have c2 : w.cell? ⟨R, 2, none⟩ = some (.int .i64 9) := (h.cell 2).trans (by show some (Value.int .i64 (r.st : Int)) = _; rw [hst]; rfl)
  clear hst
  have z2 := h.froz 2
  have hRw : R ≤ w.heap.size := Nat.le_of_lt h.lt
  have hp := rput_c R l r w ⟨_, _, _, _, h⟩ hz.2.2.1 hz.2.2.2.2.1
  clear h hcb z2
  generalize (c.toNat : Int) = n at *
  go_enter Tryz.func26, Tryz.ntmps26
  go_wp2_with (first | (go_at_call 53; refine (hbl _).mono ?_; rintro e w' ⟨rfl, rfl⟩))
  refine hp.mono ?_
  rintro e w2 ⟨rfl, ⟨vo2, vt2, va2, ps2, h2⟩, hb2⟩
  have d2 := (h2.cell 2).trans rfl
  have x2 := h2.froz 2
  have HW := Lib.hid (And.intro (h2.seti (r' := goR 4 (putR r)) 2 (.int .i64 4) rfl rfl rfl rfl) hb2)
  clear h2 hb2 hp
  go_wp2_with fail
  go_ret
  exact ⟨rfl, ⟨_, _, _, _, HW.out.1⟩, below_set _ HW.out.2⟩
set_option maxHeartbeats 2000000 in
set_option maxRecDepth 100000 in
theorem bare_62 (R : Nat) (l : List UInt8) (r : Rd) (c : UInt8) (w : World) (h : RdM R l r w) (hz : Sz r) (hst : r.st = 9) (hB : blB c = false) (h62 : c = 62) :
    Calls Tryz.prog 26 #[.pointer (some ⟨R, 0, none⟩), .int .u8 (c.toNat : Int)] w fun e w' => e = .returned (.bool true) ∧ RdM R l (goR 4 (putR r)) w' ∧ Below R w w' := by
  have hcb : (c.toNat : Int) ≤ 255 := by have := c.toNat_lt; omega
  have hbl := fun w => rblank_c (c.toNat : Int) w (by omega) hcb
  have hq : blankI (c.toNat : Int) = false := hB
  simp only [hq] at hbl
  clear hq
  have hb62 : ((c.toNat : Int) == 62) = true := by rw [h62]; rfl
  obtain ⟨vo, vt, va, ps, h⟩ := h
  have c2 : w.cell? ⟨R, 2, none⟩ = some (.int .i64 9) := (h.cell 2).trans (by show some (Value.int .i64 (r.st : Int)) = _; rw [hst]; rfl)
  clear hst
  have z2 := h.froz 2
  have hRw : R ≤ w.heap.size := Nat.le_of_lt h.lt
  have hp := rput_c R l r w ⟨_, _, _, _, h⟩ hz.2.2.1 hz.2.2.2.2.1
  clear h hcb z2
  generalize (c.toNat : Int) = n at *
  go_enter Tryz.func26, Tryz.ntmps26
  go_wp2_with (first | (go_at_call 53; refine (hbl _).mono ?_; rintro e w' ⟨rfl, rfl⟩))
  refine hp.mono ?_
  rintro e w2 ⟨rfl, ⟨vo2, vt2, va2, ps2, h2⟩, hb2⟩
  have d2 := (h2.cell 2).trans rfl
  have x2 := h2.froz 2
  have HW := Lib.hid (And.intro (h2.seti (r' := goR 4 (putR r)) 2 (.int .i64 4) rfl rfl rfl rfl) hb2)
  clear h2 hb2 hp
  go_wp2_with fail
  go_ret
  exact ⟨rfl, ⟨_, _, _, _, HW.out.1⟩, below_set _ HW.out.2⟩
set_option maxHeartbeats 2000000 in
set_option maxRecDepth 100000 in
theorem bare_more (R : Nat) (l : List UInt8) (r : Rd) (c : UInt8) (w : World) (h : RdM R l r w) (hz : Sz r) (hst : r.st = 9) (hB : blB c = false) (h62 : c ≠ 62) :
    Calls Tryz.prog 26 #[.pointer (some ⟨R, 0, none⟩), .int .u8 (c.toNat : Int)] w fun e w' => e = .returned (.bool false) ∧ RdM R l (addV c r) w' ∧ Below R w w' := by
  have hcb : (c.toNat : Int) ≤ 255 := by have := c.toNat_lt; omega
  have hbl := fun w => rblank_c (c.toNat : Int) w (by omega) hcb
  have hq : blankI (c.toNat : Int) = false := hB
  simp only [hq] at hbl
  clear hq
  have hb62 : ((c.toNat : Int) == 62) = false := oct_ne (n := 62) h62 (by decide)
  obtain ⟨vo, vt, va, ps, h⟩ := h
  have c2 : w.cell? ⟨R, 2, none⟩ = some (.int .i64 9) := (h.cell 2).trans (by show some (Value.int .i64 (r.st : Int)) = _; rw [hst]; rfl)
  clear hst
  have z2 := h.froz 2
  have hRw : R ≤ w.heap.size := Nat.le_of_lt h.lt
  have hcv := fun w => conv_one w c
  have hcd := fun w => conv_drew w c
  have c10 : w.cell? ⟨R, 10, none⟩ = some (.string (S r.av.v)) := (h.cell 10).trans rfl
  have z10 := h.froz 10
  have e1 : S r.av.v ++ S [c] = S (r.av.v ++ [c]) := S_append _ _
  have hz1 : (S r.av.v).size ≤ 134217728 := by rw [size_S]; exact hz.2.2.1
  have hz2 : (S [c]).size ≤ 1 := Nat.le_refl 1
  have hRlt : R < w.heap.size := h.lt
  have HX : Hid (∀ X, X = S (r.av.v ++ [c]) → ∀ w2, Below w.heap.size w w2 → RdW R l (addV c r) vo vt va ps (w2.setCell ⟨R, 10, none⟩ (.string X)) ∧ Below R w (w2.setCell ⟨R, 10, none⟩ (.string X))) := fun X hX w2 hb => by
    subst hX
    exact ⟨(h.keep hb).seti (r' := addV c r) 10 _ rfl rfl rfl rfl, below_set _ (hb.mono hRw)⟩
  clear h hcb
  obtain ⟨X, hX⟩ : ∃ X, X = S (r.av.v ++ [c]) := ⟨_, rfl⟩
  have HX := Lib.hid (HX.out X hX)
  rw [← hX] at e1
  clear hX
  generalize (c.toNat : Int) = n at *
  generalize S r.av.v = A at c10 e1 hz1
  generalize S [c] = L at e1 hz2 hcv hcd
  have hcc : ¬ (9223372036854775807 < A.size + L.size) := by omega
  go_enter Tryz.func26, Tryz.ntmps26
  go_wp2_with (first | (go_at_call 53; refine (hbl _).mono ?_; rintro e w' ⟨rfl, rfl⟩))
  go_region
  all_goals
    go_wp2_with fail
    go_ret
    exact ⟨rfl, ⟨_, _, _, _, (HX.out w (Below.refl _ _)).1.keep (((Below.refl _ _).alloc (Nat.le_refl _) _).drew)⟩, ((HX.out w (Below.refl _ _)).2.alloc (by simp; omega) _).drew⟩
theorem rval_c (R : Nat) (l : List UInt8) (r : Rd) (c : UInt8) (w : World) (h : RdM R l r w) (hz : Sz r) (hst : inVal r.st = true) :
    Calls Tryz.prog 26 #[.pointer (some ⟨R, 0, none⟩), .int .u8 (c.toNat : Int)] w fun e w' => e = .returned (.bool (valR c r).2) ∧ RdM R l (valR c r).1 w' ∧ Below R w w' := by
  have hs := of_decide_eq_true hst
  have hB : blB c = true ∨ blB c = false := by cases blB c <;> simp
  rcases (by omega : r.st = 7 ∨ r.st = 8 ∨ r.st = 9) with h0 | h0 | h0
  · have e0 : valR c r = wantR c r := by unfold valR; rw [if_pos h0]
    rw [e0]
    clear e0
    rcases hB with hB | hB
    · have e : wantR c r = (r, false) := by unfold wantR; rw [hB]; rfl
      rw [e]; exact want_blank R l r c w h hz h0 hB
    · by_cases h34 : c = 34
      · have e : wantR c r = ({ r with st := 8, q := c }, false) := by unfold wantR; rw [hB, if_neg (by simp), if_pos (.inl h34)]
        rw [e]; exact want_34 R l r c w h hz h0 hB h34
      · by_cases h39 : c = 39
        · have e : wantR c r = ({ r with st := 8, q := c }, false) := by unfold wantR; rw [hB, if_neg (by simp), if_pos (.inr h39)]
          rw [e]; exact want_39 R l r c w h hz h0 hB h34 h39
        · have hno : ¬ (c = 34 ∨ c = 39) := fun h => h.elim h34 h39
          by_cases h62 : c = 62
          · have e : wantR c r = (endR (putR r), false) := by unfold wantR; rw [hB, if_neg (by simp), if_neg hno, if_pos h62]
            rw [e]; exact want_end R l r c w h hz h0 hB h34 h39 h62
          · have e : wantR c r = (goR 9 r, true) := by unfold wantR; rw [hB, if_neg (by simp), if_neg hno, if_neg h62]
            rw [e]; exact want_more R l r c w h hz h0 hB h34 h39 h62
  · have e0 : valR c r = valueR c r := by unfold valR; rw [if_neg (by omega), if_pos h0]
    rw [e0]
    clear e0
    by_cases hq : c = r.q
    · have e : valueR c r = (goR 10 (putR r), false) := by unfold valueR; rw [if_pos hq]
      rw [e]; exact value_end R l r c w h hz h0 hq
    · have e : valueR c r = (addV c r, false) := by unfold valueR; rw [if_neg hq]
      rw [e]; exact value_more R l r c w h hz h0 hq
  · have e0 : valR c r = bareR c r := by unfold valR; rw [if_neg (by omega), if_neg (by omega)]
    rw [e0]
    clear e0
    rcases hB with hB | hB
    · have e : bareR c r = (goR 4 (putR r), true) := by unfold bareR; rw [if_pos (.inl hB)]
      rw [e]; exact bare_blank R l r c w h hz h0 hB
    · by_cases h62 : c = 62
      · have e : bareR c r = (goR 4 (putR r), true) := by unfold bareR; rw [if_pos (.inr h62)]
        rw [e]; exact bare_62 R l r c w h hz h0 hB h62
      · have e : bareR c r = (addV c r, false) := by unfold bareR; rw [if_neg (by rw [hB]; simp; exact h62)]
        rw [e]; exact bare_more R l r c w h hz h0 hB h62
end Go.Proofs.YtklpbkjplecdpaaGreat.Tok

/-
  Contracts of the page's reader's outside behind a <.
-/
namespace Go.Proofs.YtklpbkjplecdpaaGreat.Tok
open Go.RowKit Oct Utf Crf Tab Mem

theorem RdW.newTag {R : Nat} {l : List UInt8} {r : Rd} {vo vt va : Value} {ps : List (Tk × Value)} {w : World} (h : RdW R l r vo vt va ps w) (k : Int) :
    RdW R l { r with st := 3, tg := { noTk with k := k } } vo vt (.slice none 0 0) ps ((((((w.setCell ⟨R, 2, none⟩ (.int .i64 3)).setCell ⟨R, 4, none⟩ (.int .i64 k)).setCell ⟨R, 5, none⟩ (.string ⟨#[]⟩)).setCell ⟨R, 6, none⟩ (.string ⟨#[]⟩)).setCell ⟨R, 7, none⟩ (.slice none 0 0)).setCell ⟨R, 8, none⟩ (.bool false)) where
  box := box_set 8 (.bool false) (box_set 7 (.slice none 0 0) (box_set 6 (.string ⟨#[]⟩) (box_set 5 (.string ⟨#[]⟩) (box_set 4 (.int .i64 k) (box_set 2 (.int .i64 3) h.box)))))
  out := own_set (own_set (own_set (own_set (own_set (own_set h.out)))))
  outs := h.outs
  txt := own_set (own_set (own_set (own_set (own_set (own_set h.txt)))))
  att := World.ownsRow_nil _ _ _ _
  ats := fun p hp => own_set (own_set (own_set (own_set (own_set (own_set (h.ats p hp))))))
  s1 := h.s1
  s2 := sep_nil _
  s3 := sep_nil _
  s4 := fun p hp => ⟨(h.s4 p hp).1, (h.s4 p hp).2.1, sep_nil _⟩

set_option maxHeartbeats 2000000 in
set_option maxRecDepth 100000 in
theorem open_47 (R : Nat) (l : List UInt8) (hl : l.length ≤ 65536) (r : Rd) (i : Nat) (hi : i < l.length) (w : World) (h : RdM R l r w) (_ : Sz r) (hst : r.st = 1) (h47 : l[i] = 47) :
    Calls Tryz.prog 27 #[.pointer (some ⟨R, 0, none⟩), .int .i64 (i : Int)] w fun e w' => e = .returned (.int .i64 1) ∧ RdM R l (goR 2 r) w' ∧ Below R w w' := by
  have hsz : ((S l).size : Int) = (l.length : Int) := by rw [size_S]
  have hx := at_T l i hi
  have j0 : (0 : Int) ≤ (i : Int) := by omega
  have j1 : (i : Int) < (l.length : Int) := by omega
  have jl : (l.length : Int) ≤ 65536 := by omega
  obtain ⟨vo, vt, va, ps, h⟩ := h
  have c0 : w.cell? ⟨R, 0, none⟩ = some (.string (S l)) := (h.cell 0).trans rfl
  have c2 : w.cell? ⟨R, 2, none⟩ = some (.int .i64 1) := (h.cell 2).trans (by show some (Value.int .i64 (r.st : Int)) = _; rw [hst]; rfl)
  clear hst
  have z2 := h.froz 2
  have hRw : R ≤ w.heap.size := Nat.le_of_lt h.lt
  have hRlt : R < w.heap.size := h.lt
  have hb47 : (((l[i]).toNat : Int) == 47) = true := by rw [h47]; rfl
  clear h47
  have HW := Lib.hid (h.seti (r' := goR 2 r) 2 (.int .i64 2) rfl rfl rfl rfl)
  clear h
  generalize l[i] = c at *
  go_enter Tryz.func27, Tryz.ntmps27
  go_wp2_with fail
  go_ret
  exact ⟨rfl, ⟨_, _, _, _, HW.out⟩, below_set _ (Below.refl _ _)⟩
set_option maxHeartbeats 2000000 in
set_option maxRecDepth 100000 in
theorem open_33 (R : Nat) (l : List UInt8) (hl : l.length ≤ 65536) (r : Rd) (i : Nat) (hi : i < l.length) (w : World) (h : RdM R l r w) (_ : Sz r) (hst : r.st = 1) (h47 : l[i] ≠ 47) (h33 : l[i] = 33) :
    Calls Tryz.prog 27 #[.pointer (some ⟨R, 0, none⟩), .int .i64 (i : Int)] w fun e w' => e = .returned (.int .i64 1) ∧ RdM R l (goR 12 r) w' ∧ Below R w w' := by
  have hsz : ((S l).size : Int) = (l.length : Int) := by rw [size_S]
  have hx := at_T l i hi
  have j0 : (0 : Int) ≤ (i : Int) := by omega
  have j1 : (i : Int) < (l.length : Int) := by omega
  have jl : (l.length : Int) ≤ 65536 := by omega
  obtain ⟨vo, vt, va, ps, h⟩ := h
  have c0 : w.cell? ⟨R, 0, none⟩ = some (.string (S l)) := (h.cell 0).trans rfl
  have c2 : w.cell? ⟨R, 2, none⟩ = some (.int .i64 1) := (h.cell 2).trans (by show some (Value.int .i64 (r.st : Int)) = _; rw [hst]; rfl)
  clear hst
  have z2 := h.froz 2
  have hRw : R ≤ w.heap.size := Nat.le_of_lt h.lt
  have hRlt : R < w.heap.size := h.lt
  have hb47 : (((l[i]).toNat : Int) == 47) = false := oct_ne (n := 47) h47 (by decide)
  have hb33 : (((l[i]).toNat : Int) == 33) = true := by rw [h33]; rfl
  clear h33
  have HW := Lib.hid (h.seti (r' := goR 12 r) 2 (.int .i64 12) rfl rfl rfl rfl)
  clear h
  generalize l[i] = c at *
  go_enter Tryz.func27, Tryz.ntmps27
  go_wp2_with fail
  go_ret
  exact ⟨rfl, ⟨_, _, _, _, HW.out⟩, below_set _ (Below.refl _ _)⟩
set_option maxHeartbeats 2000000 in
set_option maxRecDepth 100000 in
theorem open_63 (R : Nat) (l : List UInt8) (hl : l.length ≤ 65536) (r : Rd) (i : Nat) (hi : i < l.length) (w : World) (h : RdM R l r w) (_ : Sz r) (hst : r.st = 1) (h47 : l[i] ≠ 47) (h33 : l[i] ≠ 33) (h63 : l[i] = 63) :
    Calls Tryz.prog 27 #[.pointer (some ⟨R, 0, none⟩), .int .i64 (i : Int)] w fun e w' => e = .returned (.int .i64 1) ∧ RdM R l (goR 13 r) w' ∧ Below R w w' := by
  have hsz : ((S l).size : Int) = (l.length : Int) := by rw [size_S]
  have hx := at_T l i hi
  have j0 : (0 : Int) ≤ (i : Int) := by omega
  have j1 : (i : Int) < (l.length : Int) := by omega
  have jl : (l.length : Int) ≤ 65536 := by omega
  obtain ⟨vo, vt, va, ps, h⟩ := h
  have c0 : w.cell? ⟨R, 0, none⟩ = some (.string (S l)) := (h.cell 0).trans rfl
  have c2 : w.cell? ⟨R, 2, none⟩ = some (.int .i64 1) := (h.cell 2).trans (by show some (Value.int .i64 (r.st : Int)) = _; rw [hst]; rfl)
  clear hst
  have z2 := h.froz 2
  have hRw : R ≤ w.heap.size := Nat.le_of_lt h.lt
  have hRlt : R < w.heap.size := h.lt
  have hb47 : (((l[i]).toNat : Int) == 47) = false := oct_ne (n := 47) h47 (by decide)
  have hb33 : (((l[i]).toNat : Int) == 33) = false := oct_ne (n := 33) h33 (by decide)
  have hb63 : (((l[i]).toNat : Int) == 63) = true := by rw [h63]; rfl
  clear h63
  have HW := Lib.hid (h.seti (r' := goR 13 r) 2 (.int .i64 13) rfl rfl rfl rfl)
  clear h
  generalize l[i] = c at *
  go_enter Tryz.func27, Tryz.ntmps27
  go_wp2_with fail
  go_ret
  exact ⟨rfl, ⟨_, _, _, _, HW.out⟩, below_set _ (Below.refl _ _)⟩
set_option maxHeartbeats 2000000 in
set_option maxRecDepth 100000 in
theorem open_tag (R : Nat) (l : List UInt8) (hl : l.length ≤ 65536) (r : Rd) (i : Nat) (hi : i < l.length) (w : World) (h : RdM R l r w) (_ : Sz r) (hst : r.st = 1) (h47 : l[i] ≠ 47) (h33 : l[i] ≠ 33) (h63 : l[i] ≠ 63) :
    Calls Tryz.prog 27 #[.pointer (some ⟨R, 0, none⟩), .int .i64 (i : Int)] w fun e w' => e = .returned (.int .i64 0) ∧ RdM R l { r with st := 3, tg := { noTk with k := 1 } } w' ∧ Below R w w' := by
  have hsz : ((S l).size : Int) = (l.length : Int) := by rw [size_S]
  have hx := at_T l i hi
  have j0 : (0 : Int) ≤ (i : Int) := by omega
  have j1 : (i : Int) < (l.length : Int) := by omega
  have jl : (l.length : Int) ≤ 65536 := by omega
  obtain ⟨vo, vt, va, ps, h⟩ := h
  have c0 : w.cell? ⟨R, 0, none⟩ = some (.string (S l)) := (h.cell 0).trans rfl
  have c2 : w.cell? ⟨R, 2, none⟩ = some (.int .i64 1) := (h.cell 2).trans (by show some (Value.int .i64 (r.st : Int)) = _; rw [hst]; rfl)
  clear hst
  have z2 := h.froz 2
  have hRw : R ≤ w.heap.size := Nat.le_of_lt h.lt
  have hRlt : R < w.heap.size := h.lt
  have hb47 : (((l[i]).toNat : Int) == 47) = false := oct_ne (n := 47) h47 (by decide)
  have hb33 : (((l[i]).toNat : Int) == 33) = false := oct_ne (n := 33) h33 (by decide)
  have hb63 : (((l[i]).toNat : Int) == 63) = false := oct_ne (n := 63) h63 (by decide)
  have HW := Lib.hid (h.newTag 1)
  have y4 : _ = some (Value.int .i64 r.tg.k) := (h.cell 4).trans rfl
  have y5 : _ = some (Value.string (S r.tg.n)) := (h.cell 5).trans rfl
  have y6 : _ = some (Value.string (S r.tg.x)) := (h.cell 6).trans rfl
  have y7 : _ = some va := (h.cell 7).trans rfl
  have y8 : _ = some (Value.bool r.tg.c) := (h.cell 8).trans rfl
  have z4 := h.froz 4
  have z5 := h.froz 5
  have z6 := h.froz 6
  have z7 := h.froz 7
  have z8 := h.froz 8
  clear h
  generalize l[i] = c at *
  go_enter Tryz.func27, Tryz.ntmps27
  go_wp2_with fail
  go_ret
  exact ⟨rfl, ⟨_, _, _, _, HW.out⟩, below_set _ (below_set _ (below_set _ (below_set _ (below_set _ (below_set _ (Below.refl _ _))))))⟩
set_option maxHeartbeats 2000000 in
set_option maxRecDepth 100000 in
theorem endOpen_tag (R : Nat) (l : List UInt8) (hl : l.length ≤ 65536) (r : Rd) (i : Nat) (hi : i < l.length) (w : World) (h : RdM R l r w) (_ : Sz r) (hst : r.st = 2) (hL : letB l[i] = true) :
    Calls Tryz.prog 27 #[.pointer (some ⟨R, 0, none⟩), .int .i64 (i : Int)] w fun e w' => e = .returned (.int .i64 0) ∧ RdM R l { r with st := 3, tg := { noTk with k := 2 } } w' ∧ Below R w w' := by
  have hsz : ((S l).size : Int) = (l.length : Int) := by rw [size_S]
  have hx := at_T l i hi
  have j0 : (0 : Int) ≤ (i : Int) := by omega
  have j1 : (i : Int) < (l.length : Int) := by omega
  have jl : (l.length : Int) ≤ 65536 := by omega
  obtain ⟨vo, vt, va, ps, h⟩ := h
  have c0 : w.cell? ⟨R, 0, none⟩ = some (.string (S l)) := (h.cell 0).trans rfl
  have c2 : w.cell? ⟨R, 2, none⟩ = some (.int .i64 2) := (h.cell 2).trans (by show some (Value.int .i64 (r.st : Int)) = _; rw [hst]; rfl)
  clear hst
  have z2 := h.froz 2
  have hRw : R ≤ w.heap.size := Nat.le_of_lt h.lt
  have hRlt : R < w.heap.size := h.lt
  have hcb : ((l[i]).toNat : Int) ≤ 255 := by have := (l[i]).toNat_lt; omega
  have hlt := fun w => rletter_c ((l[i]).toNat : Int) w (by omega) hcb
  have hq : letterI ((l[i]).toNat : Int) = true := hL
  simp only [hq] at hlt
  clear hq hL
  have HW := Lib.hid (h.newTag 2)
  have y4 : _ = some (Value.int .i64 r.tg.k) := (h.cell 4).trans rfl
  have y5 : _ = some (Value.string (S r.tg.n)) := (h.cell 5).trans rfl
  have y6 : _ = some (Value.string (S r.tg.x)) := (h.cell 6).trans rfl
  have y7 : _ = some va := (h.cell 7).trans rfl
  have y8 : _ = some (Value.bool r.tg.c) := (h.cell 8).trans rfl
  have z4 := h.froz 4
  have z5 := h.froz 5
  have z6 := h.froz 6
  have z7 := h.froz 7
  have z8 := h.froz 8
  clear h
  generalize l[i] = c at *
  go_enter Tryz.func27, Tryz.ntmps27
  go_wp2_with (first | (go_at_call 57; refine (hlt _).mono ?_; rintro e w' ⟨rfl, rfl⟩))
  go_ret
  exact ⟨rfl, ⟨_, _, _, _, HW.out⟩, below_set _ (below_set _ (below_set _ (below_set _ (below_set _ (below_set _ (Below.refl _ _))))))⟩
set_option maxHeartbeats 2000000 in
set_option maxRecDepth 100000 in
theorem endOpen_62 (R : Nat) (l : List UInt8) (hl : l.length ≤ 65536) (r : Rd) (i : Nat) (hi : i < l.length) (w : World) (h : RdM R l r w) (_ : Sz r) (hst : r.st = 2) (hL : letB l[i] = false) (h62 : l[i] = 62) :
    Calls Tryz.prog 27 #[.pointer (some ⟨R, 0, none⟩), .int .i64 (i : Int)] w fun e w' => e = .returned (.int .i64 1) ∧ RdM R l (goR 0 r) w' ∧ Below R w w' := by
  have hsz : ((S l).size : Int) = (l.length : Int) := by rw [size_S]
  have hx := at_T l i hi
  have j0 : (0 : Int) ≤ (i : Int) := by omega
  have j1 : (i : Int) < (l.length : Int) := by omega
  have jl : (l.length : Int) ≤ 65536 := by omega
  obtain ⟨vo, vt, va, ps, h⟩ := h
  have c0 : w.cell? ⟨R, 0, none⟩ = some (.string (S l)) := (h.cell 0).trans rfl
  have c2 : w.cell? ⟨R, 2, none⟩ = some (.int .i64 2) := (h.cell 2).trans (by show some (Value.int .i64 (r.st : Int)) = _; rw [hst]; rfl)
  clear hst
  have z2 := h.froz 2
  have hRw : R ≤ w.heap.size := Nat.le_of_lt h.lt
  have hRlt : R < w.heap.size := h.lt
  have hcb : ((l[i]).toNat : Int) ≤ 255 := by have := (l[i]).toNat_lt; omega
  have hlt := fun w => rletter_c ((l[i]).toNat : Int) w (by omega) hcb
  have hq : letterI ((l[i]).toNat : Int) = false := hL
  simp only [hq] at hlt
  clear hq hL
  have hb62 : (((l[i]).toNat : Int) == 62) = true := by rw [h62]; rfl
  clear h62
  have HW := Lib.hid (h.seti (r' := goR 0 r) 2 (.int .i64 0) rfl rfl rfl rfl)
  clear h
  generalize l[i] = c at *
  go_enter Tryz.func27, Tryz.ntmps27
  go_wp2_with (first | (go_at_call 57; refine (hlt _).mono ?_; rintro e w' ⟨rfl, rfl⟩))
  go_ret
  exact ⟨rfl, ⟨_, _, _, _, HW.out⟩, below_set _ (Below.refl _ _)⟩
set_option maxHeartbeats 2000000 in
set_option maxRecDepth 100000 in
theorem endOpen_more (R : Nat) (l : List UInt8) (hl : l.length ≤ 65536) (r : Rd) (i : Nat) (hi : i < l.length) (w : World) (h : RdM R l r w) (_ : Sz r) (hst : r.st = 2) (hL : letB l[i] = false) (h62 : l[i] ≠ 62) :
    Calls Tryz.prog 27 #[.pointer (some ⟨R, 0, none⟩), .int .i64 (i : Int)] w fun e w' => e = .returned (.int .i64 0) ∧ RdM R l (goR 13 r) w' ∧ Below R w w' := by
  have hsz : ((S l).size : Int) = (l.length : Int) := by rw [size_S]
  have hx := at_T l i hi
  have j0 : (0 : Int) ≤ (i : Int) := by omega
  have j1 : (i : Int) < (l.length : Int) := by omega
  have jl : (l.length : Int) ≤ 65536 := by omega
  obtain ⟨vo, vt, va, ps, h⟩ := h
  have c0 : w.cell? ⟨R, 0, none⟩ = some (.string (S l)) := (h.cell 0).trans rfl
  have c2 : w.cell? ⟨R, 2, none⟩ = some (.int .i64 2) := (h.cell 2).trans (by show some (Value.int .i64 (r.st : Int)) = _; rw [hst]; rfl)
  clear hst
  have z2 := h.froz 2
  have hRw : R ≤ w.heap.size := Nat.le_of_lt h.lt
  have hRlt : R < w.heap.size := h.lt
  have hcb : ((l[i]).toNat : Int) ≤ 255 := by have := (l[i]).toNat_lt; omega
  have hlt := fun w => rletter_c ((l[i]).toNat : Int) w (by omega) hcb
  have hq : letterI ((l[i]).toNat : Int) = false := hL
  simp only [hq] at hlt
  clear hq hL
  have hb62 : (((l[i]).toNat : Int) == 62) = false := oct_ne (n := 62) h62 (by decide)
  have HW := Lib.hid (h.seti (r' := goR 13 r) 2 (.int .i64 13) rfl rfl rfl rfl)
  clear h
  generalize l[i] = c at *
  go_enter Tryz.func27, Tryz.ntmps27
  go_wp2_with (first | (go_at_call 57; refine (hlt _).mono ?_; rintro e w' ⟨rfl, rfl⟩))
  go_ret
  exact ⟨rfl, ⟨_, _, _, _, HW.out⟩, below_set _ (Below.refl _ _)⟩
set_option maxHeartbeats 2000000 in
set_option maxRecDepth 100000 in
theorem bogus_62 (R : Nat) (l : List UInt8) (hl : l.length ≤ 65536) (r : Rd) (i : Nat) (hi : i < l.length) (w : World) (h : RdM R l r w) (_ : Sz r) (hst : r.st = 13) (h62 : l[i] = 62) :
    Calls Tryz.prog 27 #[.pointer (some ⟨R, 0, none⟩), .int .i64 (i : Int)] w fun e w' => e = .returned (.int .i64 1) ∧ RdM R l (goR 0 r) w' ∧ Below R w w' := by
  have hsz : ((S l).size : Int) = (l.length : Int) := by rw [size_S]
  have hx := at_T l i hi
  have j0 : (0 : Int) ≤ (i : Int) := by omega
  have j1 : (i : Int) < (l.length : Int) := by omega
  have jl : (l.length : Int) ≤ 65536 := by omega
  obtain ⟨vo, vt, va, ps, h⟩ := h
  have c0 : w.cell? ⟨R, 0, none⟩ = some (.string (S l)) := (h.cell 0).trans rfl
  have c2 : w.cell? ⟨R, 2, none⟩ = some (.int .i64 13) := (h.cell 2).trans (by show some (Value.int .i64 (r.st : Int)) = _; rw [hst]; rfl)
  clear hst
  have z2 := h.froz 2
  have hRw : R ≤ w.heap.size := Nat.le_of_lt h.lt
  have hRlt : R < w.heap.size := h.lt
  have hb62 : (((l[i]).toNat : Int) == 62) = true := by rw [h62]; rfl
  clear h62
  have HW := Lib.hid (h.seti (r' := goR 0 r) 2 (.int .i64 0) rfl rfl rfl rfl)
  clear h
  generalize l[i] = c at *
  go_enter Tryz.func27, Tryz.ntmps27
  go_wp2_with fail
  go_ret
  exact ⟨rfl, ⟨_, _, _, _, HW.out⟩, below_set _ (Below.refl _ _)⟩
set_option maxHeartbeats 2000000 in
set_option maxRecDepth 100000 in
theorem bogus_more (R : Nat) (l : List UInt8) (hl : l.length ≤ 65536) (r : Rd) (i : Nat) (hi : i < l.length) (w : World) (h : RdM R l r w) (_ : Sz r) (hst : r.st = 13) (h62 : l[i] ≠ 62) :
    Calls Tryz.prog 27 #[.pointer (some ⟨R, 0, none⟩), .int .i64 (i : Int)] w fun e w' => e = .returned (.int .i64 1) ∧ RdM R l r w' ∧ Below R w w' := by
  have hsz : ((S l).size : Int) = (l.length : Int) := by rw [size_S]
  have hx := at_T l i hi
  have j0 : (0 : Int) ≤ (i : Int) := by omega
  have j1 : (i : Int) < (l.length : Int) := by omega
  have jl : (l.length : Int) ≤ 65536 := by omega
  obtain ⟨vo, vt, va, ps, h⟩ := h
  have c0 : w.cell? ⟨R, 0, none⟩ = some (.string (S l)) := (h.cell 0).trans rfl
  have c2 : w.cell? ⟨R, 2, none⟩ = some (.int .i64 13) := (h.cell 2).trans (by show some (Value.int .i64 (r.st : Int)) = _; rw [hst]; rfl)
  clear hst
  have z2 := h.froz 2
  have hRw : R ≤ w.heap.size := Nat.le_of_lt h.lt
  have hRlt : R < w.heap.size := h.lt
  have hb62 : (((l[i]).toNat : Int) == 62) = false := oct_ne (n := 62) h62 (by decide)
  have HW := Lib.hid h
  clear h
  generalize l[i] = c at *
  go_enter Tryz.func27, Tryz.ntmps27
  go_wp2_with fail
  go_ret
  exact ⟨rfl, ⟨_, _, _, _, HW.out⟩, Below.refl _ _⟩
end Go.Proofs.YtklpbkjplecdpaaGreat.Tok

/-
  Contracts of the page's reader's outside in markup.
-/
namespace Go.Proofs.YtklpbkjplecdpaaGreat.Tok
open Go.RowKit Oct Utf Crf Tab Mem

set_option maxHeartbeats 2000000 in
set_option maxRecDepth 100000 in
theorem bang_yes (R : Nat) (l : List UInt8) (hl : l.length ≤ 65536) (r : Rd) (i : Nat) (hi : i < l.length) (w : World) (h : RdM R l r w) (_ : Sz r) (hst : r.st = 12) (hq : [45, 45].isPrefixOf (l.drop i) = true) :
    Calls Tryz.prog 27 #[.pointer (some ⟨R, 0, none⟩), .int .i64 (i : Int)] w fun e w' => e = .returned (.int .i64 2) ∧ RdM R l (goR 14 r) w' ∧ Below R w w' := by
  have hsz : ((S l).size : Int) = (l.length : Int) := by rw [size_S]
  have hx := at_T l i hi
  have j0 : (0 : Int) ≤ (i : Int) := by omega
  have j1 : (i : Int) < (l.length : Int) := by omega
  have jl : (l.length : Int) ≤ 65536 := by omega
  obtain ⟨vo, vt, va, ps, h⟩ := h
  have c0 : w.cell? ⟨R, 0, none⟩ = some (.string (S l)) := (h.cell 0).trans rfl
  have c2 : w.cell? ⟨R, 2, none⟩ = some (.int .i64 12) := (h.cell 2).trans (by show some (Value.int .i64 (r.st : Int)) = _; rw [hst]; rfl)
  clear hst
  have z2 := h.froz 2
  have hRw : R ≤ w.heap.size := Nat.le_of_lt h.lt
  have hRlt : R < w.heap.size := h.lt
  have j2 : (i : Int) ≤ (l.length : Int) := by omega
  have hf : (S l).extract i l.length = S (l.drop i) := by have := Crf.cutFrom (S l) i; rw [size_S, list_S] at this; exact this
  have hbg := fun w => Crf.rbegins_c [45, 45] (l.drop i) w
  have hq2 : Lib.hasPrefix (l.drop i) [45, 45] = true := hq
  rw [← hf] at hbg
  simp only [hq2] at hbg
  clear hq hq2 hf
  have HW := Lib.hid (h.seti (r' := goR 14 r) 2 (.int .i64 14) rfl rfl rfl rfl)
  clear h
  generalize l[i] = c at *
  go_enter Tryz.func27, Tryz.ntmps27
  go_wp2_with (first | (go_at_call 58; refine (hbg _).mono ?_; rintro e w' ⟨rfl, rfl⟩))
  go_ret
  exact ⟨rfl, ⟨_, _, _, _, HW.out⟩, below_set _ (Below.refl _ _)⟩
set_option maxHeartbeats 2000000 in
set_option maxRecDepth 100000 in
theorem bang_no (R : Nat) (l : List UInt8) (hl : l.length ≤ 65536) (r : Rd) (i : Nat) (hi : i < l.length) (w : World) (h : RdM R l r w) (_ : Sz r) (hst : r.st = 12) (hq : [45, 45].isPrefixOf (l.drop i) = false) :
    Calls Tryz.prog 27 #[.pointer (some ⟨R, 0, none⟩), .int .i64 (i : Int)] w fun e w' => e = .returned (.int .i64 0) ∧ RdM R l (goR 13 r) w' ∧ Below R w w' := by
  have hsz : ((S l).size : Int) = (l.length : Int) := by rw [size_S]
  have hx := at_T l i hi
  have j0 : (0 : Int) ≤ (i : Int) := by omega
  have j1 : (i : Int) < (l.length : Int) := by omega
  have jl : (l.length : Int) ≤ 65536 := by omega
  obtain ⟨vo, vt, va, ps, h⟩ := h
  have c0 : w.cell? ⟨R, 0, none⟩ = some (.string (S l)) := (h.cell 0).trans rfl
  have c2 : w.cell? ⟨R, 2, none⟩ = some (.int .i64 12) := (h.cell 2).trans (by show some (Value.int .i64 (r.st : Int)) = _; rw [hst]; rfl)
  clear hst
  have z2 := h.froz 2
  have hRw : R ≤ w.heap.size := Nat.le_of_lt h.lt
  have hRlt : R < w.heap.size := h.lt
  have j2 : (i : Int) ≤ (l.length : Int) := by omega
  have hf : (S l).extract i l.length = S (l.drop i) := by have := Crf.cutFrom (S l) i; rw [size_S, list_S] at this; exact this
  have hbg := fun w => Crf.rbegins_c [45, 45] (l.drop i) w
  have hq2 : Lib.hasPrefix (l.drop i) [45, 45] = false := hq
  rw [← hf] at hbg
  simp only [hq2] at hbg
  clear hq hq2 hf
  have HW := Lib.hid (h.seti (r' := goR 13 r) 2 (.int .i64 13) rfl rfl rfl rfl)
  clear h
  generalize l[i] = c at *
  go_enter Tryz.func27, Tryz.ntmps27
  go_wp2_with (first | (go_at_call 58; refine (hbg _).mono ?_; rintro e w' ⟨rfl, rfl⟩))
  go_ret
  exact ⟨rfl, ⟨_, _, _, _, HW.out⟩, below_set _ (Below.refl _ _)⟩
set_option maxHeartbeats 2000000 in
set_option maxRecDepth 100000 in
theorem comment_no (R : Nat) (l : List UInt8) (hl : l.length ≤ 65536) (r : Rd) (i : Nat) (hi : i < l.length) (w : World) (h : RdM R l r w) (hz : Sz r) (hst : r.st = 14) (hq : [45, 45, 62].isPrefixOf (l.drop i) = false) :
    Calls Tryz.prog 27 #[.pointer (some ⟨R, 0, none⟩), .int .i64 (i : Int)] w fun e w' => e = .returned (.int .i64 1) ∧ RdM R l (addT l[i] r) w' ∧ Below R w w' := by
  have hsz : ((S l).size : Int) = (l.length : Int) := by rw [size_S]
  have hx := at_T l i hi
  have j0 : (0 : Int) ≤ (i : Int) := by omega
  have j1 : (i : Int) < (l.length : Int) := by omega
  have jl : (l.length : Int) ≤ 65536 := by omega
  obtain ⟨vo, vt, va, ps, h⟩ := h
  have c0 : w.cell? ⟨R, 0, none⟩ = some (.string (S l)) := (h.cell 0).trans rfl
  have c2 : w.cell? ⟨R, 2, none⟩ = some (.int .i64 14) := (h.cell 2).trans (by show some (Value.int .i64 (r.st : Int)) = _; rw [hst]; rfl)
  clear hst
  have z2 := h.froz 2
  have hRw : R ≤ w.heap.size := Nat.le_of_lt h.lt
  have hRlt : R < w.heap.size := h.lt
  have j2 : (i : Int) ≤ (l.length : Int) := by omega
  have hf : (S l).extract i l.length = S (l.drop i) := by have := Crf.cutFrom (S l) i; rw [size_S, list_S] at this; exact this
  have hbg := fun w => Crf.rbegins_c [45, 45, 62] (l.drop i) w
  have hq2 : Lib.hasPrefix (l.drop i) [45, 45, 62] = false := hq
  rw [← hf] at hbg
  simp only [hq2] at hbg
  clear hq hq2 hf
  obtain ⟨i0, hi0, hz0, hz1, hz2⟩ := info_parts Mem.info_u8
  have hzt : r.tx.length ≤ 134217728 := hz.2.2.2.2.2.1
  have c3 : w.cell? ⟨R, 3, none⟩ = some vt := (h.cell 3).trans rfl
  have HW := Lib.hid h
  clear h
  generalize l[i] = c at *
  go_enter Tryz.func27, Tryz.ntmps27
  go_wp2_with (first
    | (go_at_call 58; refine (hbg _).mono ?_; rintro e w' ⟨rfl, rfl⟩)
    | (at_builtin; refine wpList_append_own_at _ rfl _ _ 49 rfl (R + 1) 5 i0 _ 1 1 Tryz.underlying49 hi0 hz0 hz1 hz2 rfl (by decide) _ _ _ rfl (HW.out.txt.alloc _) ⟨w.heap.size, 0, none⟩ 1 1 [Mem.bv c] rfl rfl (push_cells (cs := [Mem.bv c])) (fun u hu => by rw [List.mem_singleton] at hu; subst hu; rfl) (by unfold maxLen; omega) (by omega) (by simp; omega) ?_))
  intro v' w3 hown hg _ hat
  obtain ⟨p1, p2, p3, p4⟩ := HW.out.pushT c _ hown hg hat
  obtain ⟨vp, vj, vc, rfl⟩ := own_slice hown
  have HP := Lib.hid (And.intro p1 p2)
  clear p1 p2 hown hg hat
  go_wp2_with fail
  go_ret
  exact ⟨rfl, ⟨_, _, _, _, HP.out.1⟩, HP.out.2⟩
end Go.Proofs.YtklpbkjplecdpaaGreat.Tok
