/-
  Part 32: TokName, TokAttr, TokTagAll.
-/
import Derived.Test.YtklpbkjplecdpaaGreatSxBaseP31
/-
  Contracts of the page's reader's tag in a name and ahead of an attribute.
-/
namespace Go.Proofs.YtklpbkjplecdpaaGreat.Tok
open Go.RowKit Oct Utf Crf Tab Mem

theorem oct_ne {c : UInt8} {n : Nat} (h : c ≠ n.toUInt8) (hn : n < 256) : ((c.toNat : Int) == (n : Int)) = false := by
  rw [beq_eq_false_iff_ne]
  intro e
  apply h
  apply UInt8.toNat_inj.1
  rw [Nat.toUInt8_eq, UInt8.toNat_ofNat_of_lt' (by show n < 256; exact hn)]
  omega
set_option maxHeartbeats 2000000 in
set_option maxRecDepth 100000 in
theorem name_blank (R : Nat) (l : List UInt8) (r : Rd) (c : UInt8) (w : World) (h : RdM R l r w) (_ : Sz r) (hst : r.st = 3) (hB : blB c = true) :
    Calls Tryz.prog 25 #[.pointer (some ⟨R, 0, none⟩), .int .u8 (c.toNat : Int)] w fun e w' => e = .returned (.bool false) ∧ RdM R l (goR 4 r) w' ∧ Below R w w' := by
  have hcb : (c.toNat : Int) ≤ 255 := by have := c.toNat_lt; omega
  have hbl := fun w => rblank_c (c.toNat : Int) w (by omega) hcb
  have hq : blankI (c.toNat : Int) = true := hB
  simp only [hq] at hbl
  clear hq
  obtain ⟨vo, vt, va, ps, h⟩ := h
  have c2 : w.cell? ⟨R, 2, none⟩ = some (.int .i64 3) := (h.cell 2).trans (by show some (Value.int .i64 (r.st : Int)) = _; rw [hst]; rfl)
  clear hst
  have z2 := h.froz 2
  have hRw : R ≤ w.heap.size := Nat.le_of_lt h.lt
  have HW := Lib.hid (h.seti (r' := goR 4 r) 2 (.int .i64 4) rfl rfl rfl rfl)
  clear h hcb
  generalize (c.toNat : Int) = n at *
  go_enter Tryz.func25, Tryz.ntmps25
  go_wp2_with (first | (go_at_call 53; refine (hbl _).mono ?_; rintro e w' ⟨rfl, rfl⟩))
  go_ret
  exact ⟨rfl, ⟨_, _, _, _, HW.out⟩, below_set _ (Below.refl _ _)⟩
set_option maxHeartbeats 2000000 in
set_option maxRecDepth 100000 in
theorem name_slash (R : Nat) (l : List UInt8) (r : Rd) (c : UInt8) (w : World) (h : RdM R l r w) (_ : Sz r) (hst : r.st = 3) (hB : blB c = false) (h47 : c = 47) :
    Calls Tryz.prog 25 #[.pointer (some ⟨R, 0, none⟩), .int .u8 (c.toNat : Int)] w fun e w' => e = .returned (.bool false) ∧ RdM R l (goR 11 r) w' ∧ Below R w w' := by
  have hcb : (c.toNat : Int) ≤ 255 := by have := c.toNat_lt; omega
  have hbl := fun w => rblank_c (c.toNat : Int) w (by omega) hcb
  have hq : blankI (c.toNat : Int) = false := hB
  simp only [hq] at hbl
  clear hq
  have hb47 : ((c.toNat : Int) == 47) = true := by rw [h47]; rfl
  obtain ⟨vo, vt, va, ps, h⟩ := h
  have c2 : w.cell? ⟨R, 2, none⟩ = some (.int .i64 3) := (h.cell 2).trans (by show some (Value.int .i64 (r.st : Int)) = _; rw [hst]; rfl)
  clear hst
  have z2 := h.froz 2
  have hRw : R ≤ w.heap.size := Nat.le_of_lt h.lt
  have HW := Lib.hid (h.seti (r' := goR 11 r) 2 (.int .i64 11) rfl rfl rfl rfl)
  clear h hcb
  generalize (c.toNat : Int) = n at *
  go_enter Tryz.func25, Tryz.ntmps25
  go_wp2_with (first | (go_at_call 53; refine (hbl _).mono ?_; rintro e w' ⟨rfl, rfl⟩))
  go_ret
  exact ⟨rfl, ⟨_, _, _, _, HW.out⟩, below_set _ (Below.refl _ _)⟩
set_option maxHeartbeats 2000000 in
set_option maxRecDepth 100000 in
theorem name_end (R : Nat) (l : List UInt8) (r : Rd) (c : UInt8) (w : World) (h : RdM R l r w) (hz : Sz r) (hst : r.st = 3) (hB : blB c = false) (h47 : c ≠ 47) (h62 : c = 62) :
    Calls Tryz.prog 25 #[.pointer (some ⟨R, 0, none⟩), .int .u8 (c.toNat : Int)] w fun e w' => e = .returned (.bool false) ∧ RdM R l (endR r) w' ∧ Below R w w' := by
  have hcb : (c.toNat : Int) ≤ 255 := by have := c.toNat_lt; omega
  have hbl := fun w => rblank_c (c.toNat : Int) w (by omega) hcb
  have hq : blankI (c.toNat : Int) = false := hB
  simp only [hq] at hbl
  clear hq
  have hb47 : ((c.toNat : Int) == 47) = false := oct_ne (n := 47) h47 (by decide)
  have hb62 : ((c.toNat : Int) == 62) = true := by rw [h62]; rfl
  obtain ⟨vo, vt, va, ps, h⟩ := h
  have c2 : w.cell? ⟨R, 2, none⟩ = some (.int .i64 3) := (h.cell 2).trans (by show some (Value.int .i64 (r.st : Int)) = _; rw [hst]; rfl)
  clear hst
  have z2 := h.froz 2
  have hRw : R ≤ w.heap.size := Nat.le_of_lt h.lt
  have he := rend_c R l r w ⟨_, _, _, _, h⟩ hz.1
  clear h hcb
  generalize (c.toNat : Int) = n at *
  go_enter Tryz.func25, Tryz.ntmps25
  go_wp2_with (first | (go_at_call 53; refine (hbl _).mono ?_; rintro e w' ⟨rfl, rfl⟩))
  refine he.mono ?_
  rintro e w2 ⟨rfl, h2, hb2⟩
  go_wp2_with fail
  go_ret
  exact ⟨rfl, h2, hb2⟩
set_option maxHeartbeats 2000000 in
set_option maxRecDepth 100000 in
theorem name_add (R : Nat) (l : List UInt8) (r : Rd) (c : UInt8) (w : World) (h : RdM R l r w) (hz : Sz r) (hst : r.st = 3) (hB : blB c = false) (h47 : c ≠ 47) (h62 : c ≠ 62) :
    Calls Tryz.prog 25 #[.pointer (some ⟨R, 0, none⟩), .int .u8 (c.toNat : Int)] w fun e w' => e = .returned (.bool false) ∧ RdM R l { r with tg := { r.tg with n := r.tg.n ++ [low c] } } w' ∧ Below R w w' := by
  have hcb : (c.toNat : Int) ≤ 255 := by have := c.toNat_lt; omega
  have hbl := fun w => rblank_c (c.toNat : Int) w (by omega) hcb
  have hq : blankI (c.toNat : Int) = false := hB
  simp only [hq] at hbl
  clear hq
  have hb47 : ((c.toNat : Int) == 47) = false := oct_ne (n := 47) h47 (by decide)
  have hb62 : ((c.toNat : Int) == 62) = false := oct_ne (n := 62) h62 (by decide)
  obtain ⟨vo, vt, va, ps, h⟩ := h
  have c2 : w.cell? ⟨R, 2, none⟩ = some (.int .i64 3) := (h.cell 2).trans (by show some (Value.int .i64 (r.st : Int)) = _; rw [hst]; rfl)
  clear hst
  have z2 := h.froz 2
  have hRw : R ≤ w.heap.size := Nat.le_of_lt h.lt
  have hlo := fun w => rlow_c c w
  have c5 : w.cell? ⟨R, 5, none⟩ = some (.string (S r.tg.n)) := (h.cell 5).trans rfl
  have z5 := h.froz 5
  have e1 : S r.tg.n ++ S [low c] = S (r.tg.n ++ [low c]) := S_append _ _
  have hz1 : (S r.tg.n).size ≤ 134217728 := by rw [size_S]; exact hz.2.1
  have hz2 : (S [low c]).size ≤ 1 := Nat.le_refl 1
  have HW := Lib.hid h
  have hRlt : R < w.heap.size := h.lt
  clear h hcb
  generalize (c.toNat : Int) = n at *
  obtain ⟨X, hX⟩ : ∃ X, X = S (r.tg.n ++ [low c]) := ⟨_, rfl⟩
  have HX := Lib.hid hX
  rw [← hX] at e1
  clear hX
  generalize S r.tg.n = A at c5 e1 hz1
  generalize S [low c] = L at e1 hz2 hlo
  have hcc : ¬ (9223372036854775807 < A.size + L.size) := by omega
  go_enter Tryz.func25, Tryz.ntmps25
  go_wp2_with (first | (go_at_call 53; refine (hbl _).mono ?_; rintro e w' ⟨rfl, rfl⟩))
  go_region_law (go_simp; go_at_call 55; refine (hlo _).mono ?_; rintro e w2 ⟨rfl, hb0⟩; have hb2 : Below w.heap.size w w2 := ⟨hb0.os, hb0.tape, hb0.output, hb0.size, hb0.block⟩; have d5 : _ = some (Value.string A) := (hb2.cell (p := ⟨R, 5, none⟩) hRlt).trans c5; have x5 := (HW.out.keep hb2).froz 5; have H2 := Lib.hid (And.intro ((HW.out.keep hb2).seti (r' := { r with tg := { r.tg with n := r.tg.n ++ [low c] } }) 5 (.string X) (by rw [HX.out]; rfl) rfl rfl rfl) (below_set (R := R) (i := 5) (.string X) (hb2.mono hRw))); clear hb2 hb0)
  all_goals
    go_wp2_with fail
    go_ret
    first
      | exact ⟨rfl, ⟨_, _, _, _, H2.out.1⟩, H2.out.2⟩
      | exact ⟨rfl, ⟨_, _, _, _, H2.out.1.keep (Below.refl _ _).drew⟩, H2.out.2.drew⟩
set_option maxHeartbeats 2000000 in
set_option maxRecDepth 100000 in
theorem before_blank (R : Nat) (l : List UInt8) (r : Rd) (c : UInt8) (w : World) (h : RdM R l r w) (_ : Sz r) (hst : r.st = 4) (hB : blB c = true) :
    Calls Tryz.prog 25 #[.pointer (some ⟨R, 0, none⟩), .int .u8 (c.toNat : Int)] w fun e w' => e = .returned (.bool false) ∧ RdM R l r w' ∧ Below R w w' := by
  have hcb : (c.toNat : Int) ≤ 255 := by have := c.toNat_lt; omega
  have hbl := fun w => rblank_c (c.toNat : Int) w (by omega) hcb
  have hq : blankI (c.toNat : Int) = true := hB
  simp only [hq] at hbl
  clear hq
  obtain ⟨vo, vt, va, ps, h⟩ := h
  have c2 : w.cell? ⟨R, 2, none⟩ = some (.int .i64 4) := (h.cell 2).trans (by show some (Value.int .i64 (r.st : Int)) = _; rw [hst]; rfl)
  clear hst
  have z2 := h.froz 2
  have hRw : R ≤ w.heap.size := Nat.le_of_lt h.lt
  have HW := Lib.hid h
  clear h hcb
  generalize (c.toNat : Int) = n at *
  go_enter Tryz.func25, Tryz.ntmps25
  go_wp2_with (first | (go_at_call 53; refine (hbl _).mono ?_; rintro e w' ⟨rfl, rfl⟩))
  go_ret
  exact ⟨rfl, ⟨_, _, _, _, HW.out⟩, Below.refl _ _⟩
set_option maxHeartbeats 2000000 in
set_option maxRecDepth 100000 in
theorem before_slash (R : Nat) (l : List UInt8) (r : Rd) (c : UInt8) (w : World) (h : RdM R l r w) (_ : Sz r) (hst : r.st = 4) (hB : blB c = false) (h47 : c = 47) :
    Calls Tryz.prog 25 #[.pointer (some ⟨R, 0, none⟩), .int .u8 (c.toNat : Int)] w fun e w' => e = .returned (.bool false) ∧ RdM R l (goR 11 r) w' ∧ Below R w w' := by
  have hcb : (c.toNat : Int) ≤ 255 := by have := c.toNat_lt; omega
  have hbl := fun w => rblank_c (c.toNat : Int) w (by omega) hcb
  have hq : blankI (c.toNat : Int) = false := hB
  simp only [hq] at hbl
  clear hq
  have hb47 : ((c.toNat : Int) == 47) = true := by rw [h47]; rfl
  obtain ⟨vo, vt, va, ps, h⟩ := h
  have c2 : w.cell? ⟨R, 2, none⟩ = some (.int .i64 4) := (h.cell 2).trans (by show some (Value.int .i64 (r.st : Int)) = _; rw [hst]; rfl)
  clear hst
  have z2 := h.froz 2
  have hRw : R ≤ w.heap.size := Nat.le_of_lt h.lt
  have HW := Lib.hid (h.seti (r' := goR 11 r) 2 (.int .i64 11) rfl rfl rfl rfl)
  clear h hcb
  generalize (c.toNat : Int) = n at *
  go_enter Tryz.func25, Tryz.ntmps25
  go_wp2_with (first | (go_at_call 53; refine (hbl _).mono ?_; rintro e w' ⟨rfl, rfl⟩))
  go_ret
  exact ⟨rfl, ⟨_, _, _, _, HW.out⟩, below_set _ (Below.refl _ _)⟩
set_option maxHeartbeats 2000000 in
set_option maxRecDepth 100000 in
theorem before_end (R : Nat) (l : List UInt8) (r : Rd) (c : UInt8) (w : World) (h : RdM R l r w) (hz : Sz r) (hst : r.st = 4) (hB : blB c = false) (h47 : c ≠ 47) (h62 : c = 62) :
    Calls Tryz.prog 25 #[.pointer (some ⟨R, 0, none⟩), .int .u8 (c.toNat : Int)] w fun e w' => e = .returned (.bool false) ∧ RdM R l (endR r) w' ∧ Below R w w' := by
  have hcb : (c.toNat : Int) ≤ 255 := by have := c.toNat_lt; omega
  have hbl := fun w => rblank_c (c.toNat : Int) w (by omega) hcb
  have hq : blankI (c.toNat : Int) = false := hB
  simp only [hq] at hbl
  clear hq
  have hb47 : ((c.toNat : Int) == 47) = false := oct_ne (n := 47) h47 (by decide)
  have hb62 : ((c.toNat : Int) == 62) = true := by rw [h62]; rfl
  obtain ⟨vo, vt, va, ps, h⟩ := h
  have c2 : w.cell? ⟨R, 2, none⟩ = some (.int .i64 4) := (h.cell 2).trans (by show some (Value.int .i64 (r.st : Int)) = _; rw [hst]; rfl)
  clear hst
  have z2 := h.froz 2
  have hRw : R ≤ w.heap.size := Nat.le_of_lt h.lt
  have he := rend_c R l r w ⟨_, _, _, _, h⟩ hz.1
  clear h hcb
  generalize (c.toNat : Int) = n at *
  go_enter Tryz.func25, Tryz.ntmps25
  go_wp2_with (first | (go_at_call 53; refine (hbl _).mono ?_; rintro e w' ⟨rfl, rfl⟩))
  refine he.mono ?_
  rintro e w2 ⟨rfl, h2, hb2⟩
  go_wp2_with fail
  go_ret
  exact ⟨rfl, h2, hb2⟩
set_option maxHeartbeats 2000000 in
set_option maxRecDepth 100000 in
theorem before_add (R : Nat) (l : List UInt8) (r : Rd) (c : UInt8) (w : World) (h : RdM R l r w) (_ : Sz r) (hst : r.st = 4) (hB : blB c = false) (h47 : c ≠ 47) (h62 : c ≠ 62) :
    Calls Tryz.prog 25 #[.pointer (some ⟨R, 0, none⟩), .int .u8 (c.toNat : Int)] w fun e w' => e = .returned (.bool false) ∧ RdM R l { r with st := 5, av := ⟨[low c], []⟩ } w' ∧ Below R w w' := by
  have hcb : (c.toNat : Int) ≤ 255 := by have := c.toNat_lt; omega
  have hbl := fun w => rblank_c (c.toNat : Int) w (by omega) hcb
  have hq : blankI (c.toNat : Int) = false := hB
  simp only [hq] at hbl
  clear hq
  have hb47 : ((c.toNat : Int) == 47) = false := oct_ne (n := 47) h47 (by decide)
  have hb62 : ((c.toNat : Int) == 62) = false := oct_ne (n := 62) h62 (by decide)
  obtain ⟨vo, vt, va, ps, h⟩ := h
  have c2 : w.cell? ⟨R, 2, none⟩ = some (.int .i64 4) := (h.cell 2).trans (by show some (Value.int .i64 (r.st : Int)) = _; rw [hst]; rfl)
  clear hst
  have z2 := h.froz 2
  have hRw : R ≤ w.heap.size := Nat.le_of_lt h.lt
  have hlo := fun w => rlow_c c w
  have hRlt : R < w.heap.size := h.lt
  have HW := Lib.hid h
  clear h hcb
  generalize (c.toNat : Int) = n at *
  obtain ⟨X, hX⟩ : ∃ X, X = S [low c] := ⟨_, rfl⟩
  have HX := Lib.hid hX
  rw [← hX] at hlo
  clear hX
  go_enter Tryz.func25, Tryz.ntmps25
  go_wp2_with (first | (go_at_call 53; refine (hbl _).mono ?_; rintro e w' ⟨rfl, rfl⟩))
  refine (hlo _).mono ?_
  rintro e w2 ⟨rfl, hb2⟩
  have k2 := HW.out.keep hb2
  have d2 : _ = some (Value.int .i64 4) := (hb2.cell (p := ⟨R, 2, none⟩) hRlt).trans c2
  have d9 : _ = some (Value.string (S r.av.n)) := (k2.cell 9).trans rfl
  have d10 : _ = some (Value.string (S r.av.v)) := (k2.cell 10).trans rfl
  have x2 := k2.froz 2
  have x9 := k2.froz 9
  have x10 := k2.froz 10
  have H2 := Lib.hid (And.intro (((k2.seti (r' := goR 5 r) 2 (.int .i64 5) rfl rfl rfl rfl).seti (r' := { r with st := 5, av := ⟨[low c], r.av.v⟩ }) 9 (.string X) (by rw [HX.out]; rfl) rfl rfl rfl).seti (r' := { r with st := 5, av := ⟨[low c], []⟩ }) 10 (.string ⟨#[]⟩) rfl rfl rfl rfl) (below_set (R := R) (i := 10) (.string ⟨#[]⟩) (below_set (R := R) (i := 9) (.string X) (below_set (R := R) (i := 2) (.int .i64 5) (hb2.mono hRw)))))
  clear hb2 k2
  go_wp2_with fail
  go_ret
  exact ⟨rfl, ⟨_, _, _, _, H2.out.1⟩, H2.out.2⟩
end Go.Proofs.YtklpbkjplecdpaaGreat.Tok

/-
  Contracts of the page's reader's tag in an attribute and behind one.
-/
namespace Go.Proofs.YtklpbkjplecdpaaGreat.Tok
open Go.RowKit Oct Utf Crf Tab Mem

set_option maxHeartbeats 2000000 in
set_option maxRecDepth 100000 in
theorem attr5_blank (R : Nat) (l : List UInt8) (r : Rd) (c : UInt8) (w : World) (h : RdM R l r w) (_ : Sz r) (hst : r.st = 5) (hB : blB c = true) :
    Calls Tryz.prog 25 #[.pointer (some ⟨R, 0, none⟩), .int .u8 (c.toNat : Int)] w fun e w' => e = .returned (.bool false) ∧ RdM R l (goR 6 r) w' ∧ Below R w w' := by
  have hcb : (c.toNat : Int) ≤ 255 := by have := c.toNat_lt; omega
  have hbl := fun w => rblank_c (c.toNat : Int) w (by omega) hcb
  have hq : blankI (c.toNat : Int) = true := hB
  simp only [hq] at hbl
  clear hq
  obtain ⟨vo, vt, va, ps, h⟩ := h
  have c2 : w.cell? ⟨R, 2, none⟩ = some (.int .i64 5) := (h.cell 2).trans (by show some (Value.int .i64 (r.st : Int)) = _; rw [hst]; rfl)
  clear hst
  have z2 := h.froz 2
  have hRw : R ≤ w.heap.size := Nat.le_of_lt h.lt
  have HW := Lib.hid (h.seti (r' := goR 6 r) 2 (.int .i64 6) rfl rfl rfl rfl)
  clear h hcb
  generalize (c.toNat : Int) = n at *
  go_enter Tryz.func25, Tryz.ntmps25
  go_wp2_with (first | (go_at_call 53; refine (hbl _).mono ?_; rintro e w' ⟨rfl, rfl⟩))
  go_ret
  exact ⟨rfl, ⟨_, _, _, _, HW.out⟩, below_set _ (Below.refl _ _)⟩
set_option maxHeartbeats 2000000 in
set_option maxRecDepth 100000 in
theorem attr5_want (R : Nat) (l : List UInt8) (r : Rd) (c : UInt8) (w : World) (h : RdM R l r w) (_ : Sz r) (hst : r.st = 5) (hB : blB c = false) (h61 : c = 61) :
    Calls Tryz.prog 25 #[.pointer (some ⟨R, 0, none⟩), .int .u8 (c.toNat : Int)] w fun e w' => e = .returned (.bool false) ∧ RdM R l (goR 7 r) w' ∧ Below R w w' := by
  have hcb : (c.toNat : Int) ≤ 255 := by have := c.toNat_lt; omega
  have hbl := fun w => rblank_c (c.toNat : Int) w (by omega) hcb
  have hq : blankI (c.toNat : Int) = false := hB
  simp only [hq] at hbl
  clear hq
  have hb61 : ((c.toNat : Int) == 61) = true := by rw [h61]; rfl
  obtain ⟨vo, vt, va, ps, h⟩ := h
  have c2 : w.cell? ⟨R, 2, none⟩ = some (.int .i64 5) := (h.cell 2).trans (by show some (Value.int .i64 (r.st : Int)) = _; rw [hst]; rfl)
  clear hst
  have z2 := h.froz 2
  have hRw : R ≤ w.heap.size := Nat.le_of_lt h.lt
  have HW := Lib.hid (h.seti (r' := goR 7 r) 2 (.int .i64 7) rfl rfl rfl rfl)
  clear h hcb
  generalize (c.toNat : Int) = n at *
  go_enter Tryz.func25, Tryz.ntmps25
  go_wp2_with (first | (go_at_call 53; refine (hbl _).mono ?_; rintro e w' ⟨rfl, rfl⟩))
  go_ret
  exact ⟨rfl, ⟨_, _, _, _, HW.out⟩, below_set _ (Below.refl _ _)⟩
set_option maxHeartbeats 2000000 in
set_option maxRecDepth 100000 in
theorem attr5_slash (R : Nat) (l : List UInt8) (r : Rd) (c : UInt8) (w : World) (h : RdM R l r w) (hz : Sz r) (hst : r.st = 5) (hB : blB c = false) (h61 : c ≠ 61) (h47 : c = 47) :
    Calls Tryz.prog 25 #[.pointer (some ⟨R, 0, none⟩), .int .u8 (c.toNat : Int)] w fun e w' => e = .returned (.bool false) ∧ RdM R l (goR 11 (putR r)) w' ∧ Below R w w' := by
  have hcb : (c.toNat : Int) ≤ 255 := by have := c.toNat_lt; omega
  have hbl := fun w => rblank_c (c.toNat : Int) w (by omega) hcb
  have hq : blankI (c.toNat : Int) = false := hB
  simp only [hq] at hbl
  clear hq
  have hb61 : ((c.toNat : Int) == 61) = false := oct_ne (n := 61) h61 (by decide)
  have hb47 : ((c.toNat : Int) == 47) = true := by rw [h47]; rfl
  obtain ⟨vo, vt, va, ps, h⟩ := h
  have c2 : w.cell? ⟨R, 2, none⟩ = some (.int .i64 5) := (h.cell 2).trans (by show some (Value.int .i64 (r.st : Int)) = _; rw [hst]; rfl)
  clear hst
  have z2 := h.froz 2
  have hRw : R ≤ w.heap.size := Nat.le_of_lt h.lt
  have hp := rput_c R l r w ⟨_, _, _, _, h⟩ hz.2.2.1 hz.2.2.2.2.1
  clear h hcb z2
  generalize (c.toNat : Int) = n at *
  go_enter Tryz.func25, Tryz.ntmps25
  go_wp2_with (first | (go_at_call 53; refine (hbl _).mono ?_; rintro e w' ⟨rfl, rfl⟩))
  refine hp.mono ?_
  rintro e w2 ⟨rfl, ⟨vo2, vt2, va2, ps2, h2⟩, hb2⟩
  have d2 := (h2.cell 2).trans rfl
  have x2 := h2.froz 2
  have HW := Lib.hid (And.intro (h2.seti (r' := goR 11 (putR r)) 2 (.int .i64 11) rfl rfl rfl rfl) hb2)
  clear h2 hb2 hp
  go_wp2_with fail
  go_ret
  exact ⟨rfl, ⟨_, _, _, _, HW.out.1⟩, below_set _ HW.out.2⟩
set_option maxHeartbeats 2000000 in
set_option maxRecDepth 100000 in
theorem attr5_end (R : Nat) (l : List UInt8) (r : Rd) (c : UInt8) (w : World) (h : RdM R l r w) (hz : Sz r) (hst : r.st = 5) (hB : blB c = false) (h61 : c ≠ 61) (h47 : c ≠ 47) (h62 : c = 62) :
    Calls Tryz.prog 25 #[.pointer (some ⟨R, 0, none⟩), .int .u8 (c.toNat : Int)] w fun e w' => e = .returned (.bool false) ∧ RdM R l (endR (putR r)) w' ∧ Below R w w' := by
  have hcb : (c.toNat : Int) ≤ 255 := by have := c.toNat_lt; omega
  have hbl := fun w => rblank_c (c.toNat : Int) w (by omega) hcb
  have hq : blankI (c.toNat : Int) = false := hB
  simp only [hq] at hbl
  clear hq
  have hb61 : ((c.toNat : Int) == 61) = false := oct_ne (n := 61) h61 (by decide)
  have hb47 : ((c.toNat : Int) == 47) = false := oct_ne (n := 47) h47 (by decide)
  have hb62 : ((c.toNat : Int) == 62) = true := by rw [h62]; rfl
  obtain ⟨vo, vt, va, ps, h⟩ := h
  have c2 : w.cell? ⟨R, 2, none⟩ = some (.int .i64 5) := (h.cell 2).trans (by show some (Value.int .i64 (r.st : Int)) = _; rw [hst]; rfl)
  clear hst
  have z2 := h.froz 2
  have hRw : R ≤ w.heap.size := Nat.le_of_lt h.lt
  have hp := rput_c R l r w ⟨_, _, _, _, h⟩ hz.2.2.1 hz.2.2.2.2.1
  have ho : (putR r).out.length ≤ 134217728 := hz.1
  clear h hcb z2
  generalize (c.toNat : Int) = n at *
  go_enter Tryz.func25, Tryz.ntmps25
  go_wp2_with (first | (go_at_call 53; refine (hbl _).mono ?_; rintro e w' ⟨rfl, rfl⟩))
  refine hp.mono ?_
  rintro e w2 ⟨rfl, h2, hb2⟩
  have he := rend_c R l (putR r) w2 h2 ho
  clear h2 hp
  go_wp2_with fail
  refine he.mono ?_
  rintro e w3 ⟨rfl, h3, hb3⟩
  go_wp2_with fail
  go_ret
  exact ⟨rfl, h3, hb2.trans hb3⟩
set_option maxHeartbeats 2000000 in
set_option maxRecDepth 100000 in
theorem attr5_add (R : Nat) (l : List UInt8) (r : Rd) (c : UInt8) (w : World) (h : RdM R l r w) (hz : Sz r) (hst : r.st = 5) (hB : blB c = false) (h61 : c ≠ 61) (h47 : c ≠ 47) (h62 : c ≠ 62) :
    Calls Tryz.prog 25 #[.pointer (some ⟨R, 0, none⟩), .int .u8 (c.toNat : Int)] w fun e w' => e = .returned (.bool false) ∧ RdM R l { r with av := { r.av with n := r.av.n ++ [low c] } } w' ∧ Below R w w' := by
  have hcb : (c.toNat : Int) ≤ 255 := by have := c.toNat_lt; omega
  have hbl := fun w => rblank_c (c.toNat : Int) w (by omega) hcb
  have hq : blankI (c.toNat : Int) = false := hB
  simp only [hq] at hbl
  clear hq
  have hb61 : ((c.toNat : Int) == 61) = false := oct_ne (n := 61) h61 (by decide)
  have hb47 : ((c.toNat : Int) == 47) = false := oct_ne (n := 47) h47 (by decide)
  have hb62 : ((c.toNat : Int) == 62) = false := oct_ne (n := 62) h62 (by decide)
  obtain ⟨vo, vt, va, ps, h⟩ := h
  have c2 : w.cell? ⟨R, 2, none⟩ = some (.int .i64 5) := (h.cell 2).trans (by show some (Value.int .i64 (r.st : Int)) = _; rw [hst]; rfl)
  clear hst
  have z2 := h.froz 2
  have hRw : R ≤ w.heap.size := Nat.le_of_lt h.lt
  have hlo := fun w => rlow_c c w
  have c5 : w.cell? ⟨R, 9, none⟩ = some (.string (S r.av.n)) := (h.cell 9).trans rfl
  have z5 := h.froz 9
  have e1 : S r.av.n ++ S [low c] = S (r.av.n ++ [low c]) := S_append _ _
  have hz1 : (S r.av.n).size ≤ 134217728 := by rw [size_S]; exact hz.2.2.2.1
  have hz2 : (S [low c]).size ≤ 1 := Nat.le_refl 1
  have HW := Lib.hid h
  have hRlt : R < w.heap.size := h.lt
  clear h hcb
  generalize (c.toNat : Int) = n at *
  obtain ⟨X, hX⟩ : ∃ X, X = S (r.av.n ++ [low c]) := ⟨_, rfl⟩
  have HX := Lib.hid hX
  rw [← hX] at e1
  clear hX
  generalize S r.av.n = A at c5 e1 hz1
  generalize S [low c] = L at e1 hz2 hlo
  have hcc : ¬ (9223372036854775807 < A.size + L.size) := by omega
  go_enter Tryz.func25, Tryz.ntmps25
  go_wp2_with (first | (go_at_call 53; refine (hbl _).mono ?_; rintro e w' ⟨rfl, rfl⟩))
  go_region_law (go_simp; go_at_call 55; refine (hlo _).mono ?_; rintro e w2 ⟨rfl, hb0⟩; have hb2 : Below w.heap.size w w2 := ⟨hb0.os, hb0.tape, hb0.output, hb0.size, hb0.block⟩; have d5 : _ = some (Value.string A) := (hb2.cell (p := ⟨R, 9, none⟩) hRlt).trans c5; have x5 := (HW.out.keep hb2).froz 9; have H2 := Lib.hid (And.intro ((HW.out.keep hb2).seti (r' := { r with av := { r.av with n := r.av.n ++ [low c] } }) 9 (.string X) (by rw [HX.out]; rfl) rfl rfl rfl) (below_set (R := R) (i := 9) (.string X) (hb2.mono hRw))); clear hb2 hb0)
  all_goals
    go_wp2_with fail
    go_ret
    first
      | exact ⟨rfl, ⟨_, _, _, _, H2.out.1⟩, H2.out.2⟩
      | exact ⟨rfl, ⟨_, _, _, _, H2.out.1.keep (Below.refl _ _).drew⟩, H2.out.2.drew⟩
set_option maxHeartbeats 2000000 in
set_option maxRecDepth 100000 in
theorem attr6_blank (R : Nat) (l : List UInt8) (r : Rd) (c : UInt8) (w : World) (h : RdM R l r w) (_ : Sz r) (hst : r.st = 6) (hB : blB c = true) :
    Calls Tryz.prog 25 #[.pointer (some ⟨R, 0, none⟩), .int .u8 (c.toNat : Int)] w fun e w' => e = .returned (.bool false) ∧ RdM R l (goR 6 r) w' ∧ Below R w w' := by
  have hcb : (c.toNat : Int) ≤ 255 := by have := c.toNat_lt; omega
  have hbl := fun w => rblank_c (c.toNat : Int) w (by omega) hcb
  have hq : blankI (c.toNat : Int) = true := hB
  simp only [hq] at hbl
  clear hq
  obtain ⟨vo, vt, va, ps, h⟩ := h
  have c2 : w.cell? ⟨R, 2, none⟩ = some (.int .i64 6) := (h.cell 2).trans (by show some (Value.int .i64 (r.st : Int)) = _; rw [hst]; rfl)
  clear hst
  have z2 := h.froz 2
  have hRw : R ≤ w.heap.size := Nat.le_of_lt h.lt
  have HW := Lib.hid (h.seti (r' := goR 6 r) 2 (.int .i64 6) rfl rfl rfl rfl)
  clear h hcb
  generalize (c.toNat : Int) = n at *
  go_enter Tryz.func25, Tryz.ntmps25
  go_wp2_with (first | (go_at_call 53; refine (hbl _).mono ?_; rintro e w' ⟨rfl, rfl⟩))
  go_ret
  exact ⟨rfl, ⟨_, _, _, _, HW.out⟩, below_set _ (Below.refl _ _)⟩
set_option maxHeartbeats 2000000 in
set_option maxRecDepth 100000 in
theorem attr6_want (R : Nat) (l : List UInt8) (r : Rd) (c : UInt8) (w : World) (h : RdM R l r w) (_ : Sz r) (hst : r.st = 6) (hB : blB c = false) (h61 : c = 61) :
    Calls Tryz.prog 25 #[.pointer (some ⟨R, 0, none⟩), .int .u8 (c.toNat : Int)] w fun e w' => e = .returned (.bool false) ∧ RdM R l (goR 7 r) w' ∧ Below R w w' := by
  have hcb : (c.toNat : Int) ≤ 255 := by have := c.toNat_lt; omega
  have hbl := fun w => rblank_c (c.toNat : Int) w (by omega) hcb
  have hq : blankI (c.toNat : Int) = false := hB
  simp only [hq] at hbl
  clear hq
  have hb61 : ((c.toNat : Int) == 61) = true := by rw [h61]; rfl
  obtain ⟨vo, vt, va, ps, h⟩ := h
  have c2 : w.cell? ⟨R, 2, none⟩ = some (.int .i64 6) := (h.cell 2).trans (by show some (Value.int .i64 (r.st : Int)) = _; rw [hst]; rfl)
  clear hst
  have z2 := h.froz 2
  have hRw : R ≤ w.heap.size := Nat.le_of_lt h.lt
  have HW := Lib.hid (h.seti (r' := goR 7 r) 2 (.int .i64 7) rfl rfl rfl rfl)
  clear h hcb
  generalize (c.toNat : Int) = n at *
  go_enter Tryz.func25, Tryz.ntmps25
  go_wp2_with (first | (go_at_call 53; refine (hbl _).mono ?_; rintro e w' ⟨rfl, rfl⟩))
  go_ret
  exact ⟨rfl, ⟨_, _, _, _, HW.out⟩, below_set _ (Below.refl _ _)⟩
set_option maxHeartbeats 2000000 in
set_option maxRecDepth 100000 in
theorem attr6_slash (R : Nat) (l : List UInt8) (r : Rd) (c : UInt8) (w : World) (h : RdM R l r w) (hz : Sz r) (hst : r.st = 6) (hB : blB c = false) (h61 : c ≠ 61) (h47 : c = 47) :
    Calls Tryz.prog 25 #[.pointer (some ⟨R, 0, none⟩), .int .u8 (c.toNat : Int)] w fun e w' => e = .returned (.bool false) ∧ RdM R l (goR 11 (putR r)) w' ∧ Below R w w' := by
  have hcb : (c.toNat : Int) ≤ 255 := by have := c.toNat_lt; omega
  have hbl := fun w => rblank_c (c.toNat : Int) w (by omega) hcb
  have hq : blankI (c.toNat : Int) = false := hB
  simp only [hq] at hbl
  clear hq
  have hb61 : ((c.toNat : Int) == 61) = false := oct_ne (n := 61) h61 (by decide)
  have hb47 : ((c.toNat : Int) == 47) = true := by rw [h47]; rfl
  obtain ⟨vo, vt, va, ps, h⟩ := h
  have c2 : w.cell? ⟨R, 2, none⟩ = some (.int .i64 6) := (h.cell 2).trans (by show some (Value.int .i64 (r.st : Int)) = _; rw [hst]; rfl)
  clear hst
  have z2 := h.froz 2
  have hRw : R ≤ w.heap.size := Nat.le_of_lt h.lt
  have hp := rput_c R l r w ⟨_, _, _, _, h⟩ hz.2.2.1 hz.2.2.2.2.1
  clear h hcb z2
  generalize (c.toNat : Int) = n at *
  go_enter Tryz.func25, Tryz.ntmps25
  go_wp2_with (first | (go_at_call 53; refine (hbl _).mono ?_; rintro e w' ⟨rfl, rfl⟩))
  refine hp.mono ?_
  rintro e w2 ⟨rfl, ⟨vo2, vt2, va2, ps2, h2⟩, hb2⟩
  have d2 := (h2.cell 2).trans rfl
  have x2 := h2.froz 2
  have HW := Lib.hid (And.intro (h2.seti (r' := goR 11 (putR r)) 2 (.int .i64 11) rfl rfl rfl rfl) hb2)
  clear h2 hb2 hp
  go_wp2_with fail
  go_ret
  exact ⟨rfl, ⟨_, _, _, _, HW.out.1⟩, below_set _ HW.out.2⟩
set_option maxHeartbeats 2000000 in
set_option maxRecDepth 100000 in
theorem attr6_end (R : Nat) (l : List UInt8) (r : Rd) (c : UInt8) (w : World) (h : RdM R l r w) (hz : Sz r) (hst : r.st = 6) (hB : blB c = false) (h61 : c ≠ 61) (h47 : c ≠ 47) (h62 : c = 62) :
    Calls Tryz.prog 25 #[.pointer (some ⟨R, 0, none⟩), .int .u8 (c.toNat : Int)] w fun e w' => e = .returned (.bool false) ∧ RdM R l (endR (putR r)) w' ∧ Below R w w' := by
  have hcb : (c.toNat : Int) ≤ 255 := by have := c.toNat_lt; omega
  have hbl := fun w => rblank_c (c.toNat : Int) w (by omega) hcb
  have hq : blankI (c.toNat : Int) = false := hB
  simp only [hq] at hbl
  clear hq
  have hb61 : ((c.toNat : Int) == 61) = false := oct_ne (n := 61) h61 (by decide)
  have hb47 : ((c.toNat : Int) == 47) = false := oct_ne (n := 47) h47 (by decide)
  have hb62 : ((c.toNat : Int) == 62) = true := by rw [h62]; rfl
  obtain ⟨vo, vt, va, ps, h⟩ := h
  have c2 : w.cell? ⟨R, 2, none⟩ = some (.int .i64 6) := (h.cell 2).trans (by show some (Value.int .i64 (r.st : Int)) = _; rw [hst]; rfl)
  clear hst
  have z2 := h.froz 2
  have hRw : R ≤ w.heap.size := Nat.le_of_lt h.lt
  have hp := rput_c R l r w ⟨_, _, _, _, h⟩ hz.2.2.1 hz.2.2.2.2.1
  have ho : (putR r).out.length ≤ 134217728 := hz.1
  clear h hcb z2
  generalize (c.toNat : Int) = n at *
  go_enter Tryz.func25, Tryz.ntmps25
  go_wp2_with (first | (go_at_call 53; refine (hbl _).mono ?_; rintro e w' ⟨rfl, rfl⟩))
  refine hp.mono ?_
  rintro e w2 ⟨rfl, h2, hb2⟩
  have he := rend_c R l (putR r) w2 h2 ho
  clear h2 hp
  go_wp2_with fail
  refine he.mono ?_
  rintro e w3 ⟨rfl, h3, hb3⟩
  go_wp2_with fail
  go_ret
  exact ⟨rfl, h3, hb2.trans hb3⟩
set_option maxHeartbeats 2000000 in
set_option maxRecDepth 100000 in
theorem attr6_more (R : Nat) (l : List UInt8) (r : Rd) (c : UInt8) (w : World) (h : RdM R l r w) (hz : Sz r) (hst : r.st = 6) (hB : blB c = false) (h61 : c ≠ 61) (h47 : c ≠ 47) (h62 : c ≠ 62) :
    Calls Tryz.prog 25 #[.pointer (some ⟨R, 0, none⟩), .int .u8 (c.toNat : Int)] w fun e w' => e = .returned (.bool true) ∧ RdM R l (goR 4 (putR r)) w' ∧ Below R w w' := by
  have hcb : (c.toNat : Int) ≤ 255 := by have := c.toNat_lt; omega
  have hbl := fun w => rblank_c (c.toNat : Int) w (by omega) hcb
  have hq : blankI (c.toNat : Int) = false := hB
  simp only [hq] at hbl
  clear hq
  have hb61 : ((c.toNat : Int) == 61) = false := oct_ne (n := 61) h61 (by decide)
  have hb47 : ((c.toNat : Int) == 47) = false := oct_ne (n := 47) h47 (by decide)
  have hb62 : ((c.toNat : Int) == 62) = false := oct_ne (n := 62) h62 (by decide)
  obtain ⟨vo, vt, va, ps, h⟩ := h
  have c2 : w.cell? ⟨R, 2, none⟩ = some (.int .i64 6) := (h.cell 2).trans (by show some (Value.int .i64 (r.st : Int)) = _; rw [hst]; rfl)
  clear hst
  have z2 := h.froz 2
  have hRw : R ≤ w.heap.size := Nat.le_of_lt h.lt
  have hp := rput_c R l r w ⟨_, _, _, _, h⟩ hz.2.2.1 hz.2.2.2.2.1
  clear h hcb z2
  generalize (c.toNat : Int) = n at *
  go_enter Tryz.func25, Tryz.ntmps25
  go_wp2_with (first | (go_at_call 53; refine (hbl _).mono ?_; rintro e w' ⟨rfl, rfl⟩))
  refine hp.mono ?_
  rintro e w2 ⟨rfl, ⟨vo2, vt2, va2, ps2, h2⟩, hb2⟩
  have d2 := (h2.cell 2).trans rfl
  have x2 := h2.froz 2
  have HW := Lib.hid (And.intro (h2.seti (r' := goR 4 (putR r)) 2 (.int .i64 4) rfl rfl rfl rfl) hb2)
  clear h2 hb2 hp
  go_wp2_with fail
  go_ret
  exact ⟨rfl, ⟨_, _, _, _, HW.out.1⟩, below_set _ HW.out.2⟩
end Go.Proofs.YtklpbkjplecdpaaGreat.Tok

/-
  Contracts of the page's reader's tag behind a value and behind a /.
-/
namespace Go.Proofs.YtklpbkjplecdpaaGreat.Tok
open Go.RowKit Oct Utf Crf Tab Mem

set_option maxHeartbeats 2000000 in
set_option maxRecDepth 100000 in
theorem behind_any (R : Nat) (l : List UInt8) (r : Rd) (c : UInt8) (w : World) (h : RdM R l r w) (_ : Sz r) (hst : r.st = 10) (q : Bool) (hB : blB c = q) :
    Calls Tryz.prog 25 #[.pointer (some ⟨R, 0, none⟩), .int .u8 (c.toNat : Int)] w fun e w' => e = .returned (.bool true) ∧ RdM R l (goR 4 r) w' ∧ Below R w w' := by
  have hcb : (c.toNat : Int) ≤ 255 := by have := c.toNat_lt; omega
  have hbl := fun w => rblank_c (c.toNat : Int) w (by omega) hcb
  have hq : blankI (c.toNat : Int) = q := hB
  simp only [hq] at hbl
  clear hq hB
  obtain ⟨vo, vt, va, ps, h⟩ := h
  have c2 : w.cell? ⟨R, 2, none⟩ = some (.int .i64 10) := (h.cell 2).trans (by show some (Value.int .i64 (r.st : Int)) = _; rw [hst]; rfl)
  clear hst
  have z2 := h.froz 2
  have hRw : R ≤ w.heap.size := Nat.le_of_lt h.lt
  have HW := Lib.hid (h.seti (r' := goR 4 r) 2 (.int .i64 4) rfl rfl rfl rfl)
  clear h hcb
  generalize (c.toNat : Int) = n at *
  go_enter Tryz.func25, Tryz.ntmps25
  go_wp2_with (first | (go_at_call 53; refine (hbl _).mono ?_; rintro e w' ⟨rfl, rfl⟩))
  go_ret
  exact ⟨rfl, ⟨_, _, _, _, HW.out⟩, below_set _ (Below.refl _ _)⟩
set_option maxHeartbeats 2000000 in
set_option maxRecDepth 100000 in
theorem slash_more (R : Nat) (l : List UInt8) (r : Rd) (c : UInt8) (w : World) (h : RdM R l r w) (_ : Sz r) (hst : r.st = 11) (q : Bool) (hB : blB c = q) (h62 : c ≠ 62) :
    Calls Tryz.prog 25 #[.pointer (some ⟨R, 0, none⟩), .int .u8 (c.toNat : Int)] w fun e w' => e = .returned (.bool true) ∧ RdM R l (goR 4 r) w' ∧ Below R w w' := by
  have hcb : (c.toNat : Int) ≤ 255 := by have := c.toNat_lt; omega
  have hbl := fun w => rblank_c (c.toNat : Int) w (by omega) hcb
  have hq : blankI (c.toNat : Int) = q := hB
  simp only [hq] at hbl
  clear hq hB
  have hb62 : ((c.toNat : Int) == 62) = false := oct_ne (n := 62) h62 (by decide)
  obtain ⟨vo, vt, va, ps, h⟩ := h
  have c2 : w.cell? ⟨R, 2, none⟩ = some (.int .i64 11) := (h.cell 2).trans (by show some (Value.int .i64 (r.st : Int)) = _; rw [hst]; rfl)
  clear hst
  have z2 := h.froz 2
  have hRw : R ≤ w.heap.size := Nat.le_of_lt h.lt
  have HW := Lib.hid (h.seti (r' := goR 4 r) 2 (.int .i64 4) rfl rfl rfl rfl)
  clear h hcb
  generalize (c.toNat : Int) = n at *
  go_enter Tryz.func25, Tryz.ntmps25
  go_wp2_with (first | (go_at_call 53; refine (hbl _).mono ?_; rintro e w' ⟨rfl, rfl⟩))
  go_ret
  exact ⟨rfl, ⟨_, _, _, _, HW.out⟩, below_set _ (Below.refl _ _)⟩
set_option maxHeartbeats 2000000 in
set_option maxRecDepth 100000 in
theorem slash_end (R : Nat) (l : List UInt8) (r : Rd) (c : UInt8) (w : World) (h : RdM R l r w) (hz : Sz r) (hst : r.st = 11) (q : Bool) (hB : blB c = q) (h62 : c = 62) :
    Calls Tryz.prog 25 #[.pointer (some ⟨R, 0, none⟩), .int .u8 (c.toNat : Int)] w fun e w' => e = .returned (.bool false) ∧ RdM R l (endR { r with tg := { r.tg with c := true } }) w' ∧ Below R w w' := by
  have hcb : (c.toNat : Int) ≤ 255 := by have := c.toNat_lt; omega
  have hbl := fun w => rblank_c (c.toNat : Int) w (by omega) hcb
  have hq : blankI (c.toNat : Int) = q := hB
  simp only [hq] at hbl
  clear hq hB
  have hb62 : ((c.toNat : Int) == 62) = true := by rw [h62]; rfl
  obtain ⟨vo, vt, va, ps, h⟩ := h
  have c2 : w.cell? ⟨R, 2, none⟩ = some (.int .i64 11) := (h.cell 2).trans (by show some (Value.int .i64 (r.st : Int)) = _; rw [hst]; rfl)
  clear hst
  have z2 := h.froz 2
  have hRw : R ≤ w.heap.size := Nat.le_of_lt h.lt
  have c8 : w.cell? ⟨R, 8, none⟩ = some (.bool r.tg.c) := (h.cell 8).trans rfl
  have z8 := h.froz 8
  have h1 := h.seti (r' := { r with tg := { r.tg with c := true } }) 8 (.bool true) rfl rfl rfl rfl
  have he := rend_c R l _ _ ⟨_, _, _, _, h1⟩ hz.1
  clear h h1 hcb z2
  generalize (c.toNat : Int) = n at *
  go_enter Tryz.func25, Tryz.ntmps25
  go_wp2_with (first | (go_at_call 53; refine (hbl _).mono ?_; rintro e w' ⟨rfl, rfl⟩))
  refine he.mono ?_
  rintro e w2 ⟨rfl, h2, hb2⟩
  go_wp2_with fail
  go_ret
  exact ⟨rfl, h2, (below_set _ (Below.refl R w)).trans hb2⟩
theorem rtag_c (R : Nat) (l : List UInt8) (r : Rd) (c : UInt8) (w : World) (h : RdM R l r w) (hz : Sz r) (hst : inTag r.st = true) :
    Calls Tryz.prog 25 #[.pointer (some ⟨R, 0, none⟩), .int .u8 (c.toNat : Int)] w fun e w' => e = .returned (.bool (tagR c r).2) ∧ RdM R l (tagR c r).1 w' ∧ Below R w w' := by
  have hs := of_decide_eq_true hst
  have hB : blB c = true ∨ blB c = false := by cases blB c <;> simp
  rcases (by omega : r.st = 3 ∨ r.st = 4 ∨ r.st = 5 ∨ r.st = 6 ∨ r.st = 10 ∨ r.st = 11) with h0 | h0 | h0 | h0 | h0 | h0
  · rcases hB with hB | hB
    · have e : tagR c r = (goR 4 r, false) := by unfold tagR tnameR; rw [if_pos h0, hB]; rfl
      rw [e]; exact name_blank R l r c w h hz h0 hB
    · by_cases h47 : c = 47
      · have e : tagR c r = (goR 11 r, false) := by unfold tagR tnameR; rw [if_pos h0, hB, if_neg (by simp), if_pos h47]
        rw [e]; exact name_slash R l r c w h hz h0 hB h47
      · by_cases h62 : c = 62
        · have e : tagR c r = (endR r, false) := by unfold tagR tnameR; rw [if_pos h0, hB, if_neg (by simp), if_neg h47, if_pos h62]
          rw [e]; exact name_end R l r c w h hz h0 hB h47 h62
        · have e : tagR c r = ({ r with tg := { r.tg with n := r.tg.n ++ [low c] } }, false) := by unfold tagR tnameR; rw [if_pos h0, hB, if_neg (by simp), if_neg h47, if_neg h62]
          rw [e]; exact name_add R l r c w h hz h0 hB h47 h62
  · have e0 : tagR c r = beforeR c r := by unfold tagR; rw [if_neg (by omega), if_pos h0]
    rw [e0]
    clear e0
    rcases hB with hB | hB
    · have e : beforeR c r = (r, false) := by unfold beforeR; rw [hB]; rfl
      rw [e]; exact before_blank R l r c w h hz h0 hB
    · by_cases h47 : c = 47
      · have e : beforeR c r = (goR 11 r, false) := by unfold beforeR; rw [hB, if_neg (by simp), if_pos h47]
        rw [e]; exact before_slash R l r c w h hz h0 hB h47
      · by_cases h62 : c = 62
        · have e : beforeR c r = (endR r, false) := by unfold beforeR; rw [hB, if_neg (by simp), if_neg h47, if_pos h62]
          rw [e]; exact before_end R l r c w h hz h0 hB h47 h62
        · have e : beforeR c r = ({ r with st := 5, av := ⟨[low c], []⟩ }, false) := by unfold beforeR; rw [hB, if_neg (by simp), if_neg h47, if_neg h62]
          rw [e]; exact before_add R l r c w h hz h0 hB h47 h62
  · have e0 : tagR c r = attrR c r := by unfold tagR; rw [if_neg (by omega), if_neg (by omega), if_pos (.inl h0)]
    rw [e0]
    clear e0
    rcases hB with hB | hB
    · have e : attrR c r = (goR 6 r, false) := by unfold attrR; rw [hB]; rfl
      rw [e]; exact attr5_blank R l r c w h hz h0 hB
    · by_cases h61 : c = 61
      · have e : attrR c r = (goR 7 r, false) := by unfold attrR; rw [hB, if_neg (by simp), if_pos h61]
        rw [e]; exact attr5_want R l r c w h hz h0 hB h61
      · by_cases h47 : c = 47
        · have e : attrR c r = (goR 11 (putR r), false) := by unfold attrR; rw [hB, if_neg (by simp), if_neg h61, if_pos h47]
          rw [e]; exact attr5_slash R l r c w h hz h0 hB h61 h47
        · by_cases h62 : c = 62
          · have e : attrR c r = (endR (putR r), false) := by unfold attrR; rw [hB, if_neg (by simp), if_neg h61, if_neg h47, if_pos h62]
            rw [e]; exact attr5_end R l r c w h hz h0 hB h61 h47 h62
          · have e : attrR c r = ({ r with av := { r.av with n := r.av.n ++ [low c] } }, false) := by unfold attrR; rw [hB, if_neg (by simp), if_neg h61, if_neg h47, if_neg h62, if_neg (by omega)]
            rw [e]; exact attr5_add R l r c w h hz h0 hB h61 h47 h62
  · have e0 : tagR c r = attrR c r := by unfold tagR; rw [if_neg (by omega), if_neg (by omega), if_pos (.inr h0)]
    rw [e0]
    clear e0
    rcases hB with hB | hB
    · have e : attrR c r = (goR 6 r, false) := by unfold attrR; rw [hB]; rfl
      rw [e]; exact attr6_blank R l r c w h hz h0 hB
    · by_cases h61 : c = 61
      · have e : attrR c r = (goR 7 r, false) := by unfold attrR; rw [hB, if_neg (by simp), if_pos h61]
        rw [e]; exact attr6_want R l r c w h hz h0 hB h61
      · by_cases h47 : c = 47
        · have e : attrR c r = (goR 11 (putR r), false) := by unfold attrR; rw [hB, if_neg (by simp), if_neg h61, if_pos h47]
          rw [e]; exact attr6_slash R l r c w h hz h0 hB h61 h47
        · by_cases h62 : c = 62
          · have e : attrR c r = (endR (putR r), false) := by unfold attrR; rw [hB, if_neg (by simp), if_neg h61, if_neg h47, if_pos h62]
            rw [e]; exact attr6_end R l r c w h hz h0 hB h61 h47 h62
          · have e : attrR c r = (goR 4 (putR r), true) := by unfold attrR; rw [hB, if_neg (by simp), if_neg h61, if_neg h47, if_neg h62, if_pos h0]
            rw [e]; exact attr6_more R l r c w h hz h0 hB h61 h47 h62
  · have e : tagR c r = (goR 4 r, true) := by unfold tagR; rw [if_neg (by omega), if_neg (by omega), if_neg (by omega), if_pos h0]
    rw [e]; exact behind_any R l r c w h hz h0 _ rfl
  · have e0 : tagR c r = slashR c r := by unfold tagR; rw [if_neg (by omega), if_neg (by omega), if_neg (by omega), if_neg (by omega)]
    rw [e0]
    clear e0
    by_cases h62 : c = 62
    · have e : slashR c r = (endR { r with tg := { r.tg with c := true } }, false) := by unfold slashR; rw [if_pos h62]
      rw [e]; exact slash_end R l r c w h hz h0 _ rfl h62
    · have e : slashR c r = (goR 4 r, true) := by unfold slashR; rw [if_neg h62]
      rw [e]; exact slash_more R l r c w h hz h0 _ rfl h62
end Go.Proofs.YtklpbkjplecdpaaGreat.Tok
