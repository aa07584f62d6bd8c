/-
  Part 37: TokData, TokOut.
-/
import Derived.Test.YtklpbkjplecdpaaGreatSxBaseP33
import Derived.Test.YtklpbkjplecdpaaGreatSxBaseP30
import Derived.Test.YtklpbkjplecdpaaGreatSxBaseP36
/-
  Contracts of the page's reader's outside in data.
-/
namespace Go.Proofs.YtklpbkjplecdpaaGreat.Tok
open Go.RowKit Oct Utf Crf Tab Mem

set_option maxHeartbeats 2000000 in
set_option maxRecDepth 100000 in
theorem data_other (R : Nat) (l : List UInt8) (hl : l.length ≤ 65536) (r : Rd) (i : Nat) (hi : i < l.length) (w : World) (h : RdM R l r w) (hz : Sz r) (hst : r.st = 0) (h60 : l[i] ≠ 60) :
    Calls Tryz.prog 27 #[.pointer (some ⟨R, 0, none⟩), .int .i64 (i : Int)] w fun e w' => e = .returned (.int .i64 1) ∧ RdM R l (addT l[i] r) w' ∧ Below R w w' := by
  have hsz : ((S l).size : Int) = (l.length : Int) := by rw [size_S]
  have hx := at_T l i hi
  have j0 : (0 : Int) ≤ (i : Int) := by omega
  have j1 : (i : Int) < (l.length : Int) := by omega
  have jl : (l.length : Int) ≤ 65536 := by omega
  obtain ⟨vo, vt, va, ps, h⟩ := h
  have c0 : w.cell? ⟨R, 0, none⟩ = some (.string (S l)) := (h.cell 0).trans rfl
  have c2 : w.cell? ⟨R, 2, none⟩ = some (.int .i64 0) := (h.cell 2).trans (by show some (Value.int .i64 (r.st : Int)) = _; rw [hst]; rfl)
  clear hst
  have z2 := h.froz 2
  have hRw : R ≤ w.heap.size := Nat.le_of_lt h.lt
  have hRlt : R < w.heap.size := h.lt
  have hb60 : (((l[i]).toNat : Int) == 60) = false := oct_ne (n := 60) h60 (by decide)
  obtain ⟨i0, hi0, hz0, hz1, hz2⟩ := info_parts Mem.info_u8
  have hzt : r.tx.length ≤ 134217728 := hz.2.2.2.2.2.1
  have c3 : w.cell? ⟨R, 3, none⟩ = some vt := (h.cell 3).trans rfl
  have HW := Lib.hid h
  clear h
  generalize l[i] = c at *
  go_enter Tryz.func27, Tryz.ntmps27
  go_wp2_with (first
    
    | (at_builtin; refine wpList_append_own_at _ rfl _ _ 49 rfl (R + 1) 5 i0 _ 1 1 Tryz.underlying49 hi0 hz0 hz1 hz2 rfl (by decide) _ _ _ rfl (HW.out.txt.alloc _) ⟨w.heap.size, 0, none⟩ 1 1 [Mem.bv c] rfl rfl (push_cells (cs := [Mem.bv c])) (fun u hu => by rw [List.mem_singleton] at hu; subst hu; rfl) (by unfold maxLen; omega) (by omega) (by simp; omega) ?_))
  intro v' w3 hown hg _ hat
  obtain ⟨p1, p2, p3, p4⟩ := HW.out.pushT c _ hown hg hat
  obtain ⟨vp, vj, vc, rfl⟩ := own_slice hown
  have HP := Lib.hid (And.intro p1 p2)
  clear p1 p2 hown hg hat
  go_wp2_with fail
  go_ret
  exact ⟨rfl, ⟨_, _, _, _, HP.out.1⟩, HP.out.2⟩
set_option maxHeartbeats 2000000 in
set_option maxRecDepth 100000 in
theorem data_last (R : Nat) (l : List UInt8) (hl : l.length ≤ 65536) (r : Rd) (i : Nat) (hi : i < l.length) (w : World) (h : RdM R l r w) (hz : Sz r) (hst : r.st = 0) (h60 : l[i] = 60) (h1 : ¬ i + 1 < l.length) :
    Calls Tryz.prog 27 #[.pointer (some ⟨R, 0, none⟩), .int .i64 (i : Int)] w fun e w' => e = .returned (.int .i64 1) ∧ RdM R l (addT l[i] r) w' ∧ Below R w w' := by
  have hsz : ((S l).size : Int) = (l.length : Int) := by rw [size_S]
  have hx := at_T l i hi
  have j0 : (0 : Int) ≤ (i : Int) := by omega
  have j1 : (i : Int) < (l.length : Int) := by omega
  have jl : (l.length : Int) ≤ 65536 := by omega
  obtain ⟨vo, vt, va, ps, h⟩ := h
  have c0 : w.cell? ⟨R, 0, none⟩ = some (.string (S l)) := (h.cell 0).trans rfl
  have c2 : w.cell? ⟨R, 2, none⟩ = some (.int .i64 0) := (h.cell 2).trans (by show some (Value.int .i64 (r.st : Int)) = _; rw [hst]; rfl)
  clear hst
  have z2 := h.froz 2
  have hRw : R ≤ w.heap.size := Nat.le_of_lt h.lt
  have hRlt : R < w.heap.size := h.lt
  have hb60 : (((l[i]).toNat : Int) == 60) = true := by rw [h60]; rfl
  have k1 : ¬ ((i : Int) + 1 < (l.length : Int)) := by omega
  have k1b : decide ((i : Int) + 1 < (l.length : Int)) = false := decide_eq_false k1
  clear h1
  clear h60
  obtain ⟨i0, hi0, hz0, hz1, hz2⟩ := info_parts Mem.info_u8
  have hzt : r.tx.length ≤ 134217728 := hz.2.2.2.2.2.1
  have c3 : w.cell? ⟨R, 3, none⟩ = some vt := (h.cell 3).trans rfl
  have HW := Lib.hid h
  clear h
  generalize l[i] = c at *
  go_enter Tryz.func27, Tryz.ntmps27
  go_wp2_with (first
    
    | (at_builtin; refine wpList_append_own_at _ rfl _ _ 49 rfl (R + 1) 5 i0 _ 1 1 Tryz.underlying49 hi0 hz0 hz1 hz2 rfl (by decide) _ _ _ rfl (HW.out.txt.alloc _) ⟨w.heap.size, 0, none⟩ 1 1 [Mem.bv c] rfl rfl (push_cells (cs := [Mem.bv c])) (fun u hu => by rw [List.mem_singleton] at hu; subst hu; rfl) (by unfold maxLen; omega) (by omega) (by simp; omega) ?_))
  intro v' w3 hown hg _ hat
  obtain ⟨p1, p2, p3, p4⟩ := HW.out.pushT c _ hown hg hat
  obtain ⟨vp, vj, vc, rfl⟩ := own_slice hown
  have HP := Lib.hid (And.intro p1 p2)
  clear p1 p2 hown hg hat
  go_wp2_with fail
  go_ret
  exact ⟨rfl, ⟨_, _, _, _, HP.out.1⟩, HP.out.2⟩
set_option maxHeartbeats 2000000 in
set_option maxRecDepth 100000 in
theorem data_letter (R : Nat) (l : List UInt8) (hl : l.length ≤ 65536) (r : Rd) (i : Nat) (hi : i < l.length) (w : World) (h : RdM R l r w) (hz : Sz r) (hst : r.st = 0) (h60 : l[i] = 60) (h1 : i + 1 < l.length) (hL : letB l[i + 1] = true) :
    Calls Tryz.prog 27 #[.pointer (some ⟨R, 0, none⟩), .int .i64 (i : Int)] w fun e w' => e = .returned (.int .i64 1) ∧ RdM R l (goR 1 (textR true r)) w' ∧ Below R w w' := by
  have hsz : ((S l).size : Int) = (l.length : Int) := by rw [size_S]
  have hx := at_T l i hi
  have j0 : (0 : Int) ≤ (i : Int) := by omega
  have j1 : (i : Int) < (l.length : Int) := by omega
  have jl : (l.length : Int) ≤ 65536 := by omega
  obtain ⟨vo, vt, va, ps, h⟩ := h
  have c0 : w.cell? ⟨R, 0, none⟩ = some (.string (S l)) := (h.cell 0).trans rfl
  have c2 : w.cell? ⟨R, 2, none⟩ = some (.int .i64 0) := (h.cell 2).trans (by show some (Value.int .i64 (r.st : Int)) = _; rw [hst]; rfl)
  clear hst
  have z2 := h.froz 2
  have hRw : R ≤ w.heap.size := Nat.le_of_lt h.lt
  have hRlt : R < w.heap.size := h.lt
  have hb60 : (((l[i]).toNat : Int) == 60) = true := by rw [h60]; rfl
  have hy := at_T l (i + 1) h1
  have k0 : (0 : Int) ≤ (i : Int) + 1 := by omega
  have k1 : (i : Int) + 1 < (l.length : Int) := by omega
  have kk : (((i + 1 : Nat)) : Int) = (i : Int) + 1 := by omega
  have hdb : ((l[i + 1]).toNat : Int) ≤ 255 := by have := (l[i + 1]).toNat_lt; omega
  have hlt := fun w => rletter_c ((l[i + 1]).toNat : Int) w (by omega) hdb
  have hq : letterI ((l[i + 1]).toNat : Int) = true := hL
  simp only [hq] at hlt
  clear hq
  generalize l[i + 1] = d at *
  have ht := rtext_c true R l r w ⟨_, _, _, _, h⟩ hz.2.2.2.2.2.1 hz.1
  clear h
  generalize textR true r = r2 at ht ⊢
  generalize l[i] = c at *
  go_enter Tryz.func27, Tryz.ntmps27
  go_wp2_with (first | (go_at_call 57; refine (hlt _).mono ?_; rintro e w' ⟨rfl, rfl⟩))
  refine ht.mono ?_
  rintro e w2 ⟨rfl, ⟨vo2, vt2, va2, ps2, h2⟩, hb2⟩
  have d2 := (h2.cell 2).trans rfl
  have x2 := h2.froz 2
  have HP := Lib.hid (And.intro (h2.seti (r' := goR 1 r2) 2 (.int .i64 1) rfl rfl rfl rfl) (below_set (i := 2) (.int .i64 1) hb2))
  clear h2 hb2 ht
  go_wp2_with fail
  go_ret
  exact ⟨rfl, ⟨_, _, _, _, HP.out.1⟩, HP.out.2⟩
set_option maxHeartbeats 2000000 in
set_option maxRecDepth 100000 in
theorem data_33 (R : Nat) (l : List UInt8) (hl : l.length ≤ 65536) (r : Rd) (i : Nat) (hi : i < l.length) (w : World) (h : RdM R l r w) (hz : Sz r) (hst : r.st = 0) (h60 : l[i] = 60) (h1 : i + 1 < l.length) (hL : letB l[i + 1] = false) (g33 : l[i + 1] = 33) :
    Calls Tryz.prog 27 #[.pointer (some ⟨R, 0, none⟩), .int .i64 (i : Int)] w fun e w' => e = .returned (.int .i64 1) ∧ RdM R l (goR 1 (textR true r)) w' ∧ Below R w w' := by
  have hsz : ((S l).size : Int) = (l.length : Int) := by rw [size_S]
  have hx := at_T l i hi
  have j0 : (0 : Int) ≤ (i : Int) := by omega
  have j1 : (i : Int) < (l.length : Int) := by omega
  have jl : (l.length : Int) ≤ 65536 := by omega
  obtain ⟨vo, vt, va, ps, h⟩ := h
  have c0 : w.cell? ⟨R, 0, none⟩ = some (.string (S l)) := (h.cell 0).trans rfl
  have c2 : w.cell? ⟨R, 2, none⟩ = some (.int .i64 0) := (h.cell 2).trans (by show some (Value.int .i64 (r.st : Int)) = _; rw [hst]; rfl)
  clear hst
  have z2 := h.froz 2
  have hRw : R ≤ w.heap.size := Nat.le_of_lt h.lt
  have hRlt : R < w.heap.size := h.lt
  have hb60 : (((l[i]).toNat : Int) == 60) = true := by rw [h60]; rfl
  have hy := at_T l (i + 1) h1
  have k0 : (0 : Int) ≤ (i : Int) + 1 := by omega
  have k1 : (i : Int) + 1 < (l.length : Int) := by omega
  have kk : (((i + 1 : Nat)) : Int) = (i : Int) + 1 := by omega
  have hdb : ((l[i + 1]).toNat : Int) ≤ 255 := by have := (l[i + 1]).toNat_lt; omega
  have hlt := fun w => rletter_c ((l[i + 1]).toNat : Int) w (by omega) hdb
  have hq : letterI ((l[i + 1]).toNat : Int) = false := hL
  simp only [hq] at hlt
  clear hq
  have he33 : (((l[i + 1]).toNat : Int) == 33) = true := by rw [g33]; rfl
  clear g33
  generalize l[i + 1] = d at *
  have ht := rtext_c true R l r w ⟨_, _, _, _, h⟩ hz.2.2.2.2.2.1 hz.1
  clear h
  generalize textR true r = r2 at ht ⊢
  generalize l[i] = c at *
  go_enter Tryz.func27, Tryz.ntmps27
  go_wp2_with (first | (go_at_call 57; refine (hlt _).mono ?_; rintro e w' ⟨rfl, rfl⟩))
  refine ht.mono ?_
  rintro e w2 ⟨rfl, ⟨vo2, vt2, va2, ps2, h2⟩, hb2⟩
  have d2 := (h2.cell 2).trans rfl
  have x2 := h2.froz 2
  have HP := Lib.hid (And.intro (h2.seti (r' := goR 1 r2) 2 (.int .i64 1) rfl rfl rfl rfl) (below_set (i := 2) (.int .i64 1) hb2))
  clear h2 hb2 ht
  go_wp2_with fail
  go_ret
  exact ⟨rfl, ⟨_, _, _, _, HP.out.1⟩, HP.out.2⟩
set_option maxHeartbeats 2000000 in
set_option maxRecDepth 100000 in
theorem data_63 (R : Nat) (l : List UInt8) (hl : l.length ≤ 65536) (r : Rd) (i : Nat) (hi : i < l.length) (w : World) (h : RdM R l r w) (hz : Sz r) (hst : r.st = 0) (h60 : l[i] = 60) (h1 : i + 1 < l.length) (hL : letB l[i + 1] = false) (g33 : l[i + 1] ≠ 33) (g63 : l[i + 1] = 63) :
    Calls Tryz.prog 27 #[.pointer (some ⟨R, 0, none⟩), .int .i64 (i : Int)] w fun e w' => e = .returned (.int .i64 1) ∧ RdM R l (goR 1 (textR true r)) w' ∧ Below R w w' := by
  have hsz : ((S l).size : Int) = (l.length : Int) := by rw [size_S]
  have hx := at_T l i hi
  have j0 : (0 : Int) ≤ (i : Int) := by omega
  have j1 : (i : Int) < (l.length : Int) := by omega
  have jl : (l.length : Int) ≤ 65536 := by omega
  obtain ⟨vo, vt, va, ps, h⟩ := h
  have c0 : w.cell? ⟨R, 0, none⟩ = some (.string (S l)) := (h.cell 0).trans rfl
  have c2 : w.cell? ⟨R, 2, none⟩ = some (.int .i64 0) := (h.cell 2).trans (by show some (Value.int .i64 (r.st : Int)) = _; rw [hst]; rfl)
  clear hst
  have z2 := h.froz 2
  have hRw : R ≤ w.heap.size := Nat.le_of_lt h.lt
  have hRlt : R < w.heap.size := h.lt
  have hb60 : (((l[i]).toNat : Int) == 60) = true := by rw [h60]; rfl
  have hy := at_T l (i + 1) h1
  have k0 : (0 : Int) ≤ (i : Int) + 1 := by omega
  have k1 : (i : Int) + 1 < (l.length : Int) := by omega
  have kk : (((i + 1 : Nat)) : Int) = (i : Int) + 1 := by omega
  have hdb : ((l[i + 1]).toNat : Int) ≤ 255 := by have := (l[i + 1]).toNat_lt; omega
  have hlt := fun w => rletter_c ((l[i + 1]).toNat : Int) w (by omega) hdb
  have hq : letterI ((l[i + 1]).toNat : Int) = false := hL
  simp only [hq] at hlt
  clear hq
  have he33 : (((l[i + 1]).toNat : Int) == 33) = false := oct_ne (n := 33) g33 (by decide)
  have he63 : (((l[i + 1]).toNat : Int) == 63) = true := by rw [g63]; rfl
  clear g63
  generalize l[i + 1] = d at *
  have ht := rtext_c true R l r w ⟨_, _, _, _, h⟩ hz.2.2.2.2.2.1 hz.1
  clear h
  generalize textR true r = r2 at ht ⊢
  generalize l[i] = c at *
  go_enter Tryz.func27, Tryz.ntmps27
  go_wp2_with (first | (go_at_call 57; refine (hlt _).mono ?_; rintro e w' ⟨rfl, rfl⟩))
  refine ht.mono ?_
  rintro e w2 ⟨rfl, ⟨vo2, vt2, va2, ps2, h2⟩, hb2⟩
  have d2 := (h2.cell 2).trans rfl
  have x2 := h2.froz 2
  have HP := Lib.hid (And.intro (h2.seti (r' := goR 1 r2) 2 (.int .i64 1) rfl rfl rfl rfl) (below_set (i := 2) (.int .i64 1) hb2))
  clear h2 hb2 ht
  go_wp2_with fail
  go_ret
  exact ⟨rfl, ⟨_, _, _, _, HP.out.1⟩, HP.out.2⟩
set_option maxHeartbeats 2000000 in
set_option maxRecDepth 100000 in
theorem data_47 (R : Nat) (l : List UInt8) (hl : l.length ≤ 65536) (r : Rd) (i : Nat) (hi : i < l.length) (w : World) (h : RdM R l r w) (hz : Sz r) (hst : r.st = 0) (h60 : l[i] = 60) (h1 : i + 1 < l.length) (hL : letB l[i + 1] = false) (g33 : l[i + 1] ≠ 33) (g63 : l[i + 1] ≠ 63) (g47 : l[i + 1] = 47) (h2 : i + 2 < l.length) :
    Calls Tryz.prog 27 #[.pointer (some ⟨R, 0, none⟩), .int .i64 (i : Int)] w fun e w' => e = .returned (.int .i64 1) ∧ RdM R l (goR 1 (textR true r)) w' ∧ Below R w w' := by
  have hsz : ((S l).size : Int) = (l.length : Int) := by rw [size_S]
  have hx := at_T l i hi
  have j0 : (0 : Int) ≤ (i : Int) := by omega
  have j1 : (i : Int) < (l.length : Int) := by omega
  have jl : (l.length : Int) ≤ 65536 := by omega
  obtain ⟨vo, vt, va, ps, h⟩ := h
  have c0 : w.cell? ⟨R, 0, none⟩ = some (.string (S l)) := (h.cell 0).trans rfl
  have c2 : w.cell? ⟨R, 2, none⟩ = some (.int .i64 0) := (h.cell 2).trans (by show some (Value.int .i64 (r.st : Int)) = _; rw [hst]; rfl)
  clear hst
  have z2 := h.froz 2
  have hRw : R ≤ w.heap.size := Nat.le_of_lt h.lt
  have hRlt : R < w.heap.size := h.lt
  have hb60 : (((l[i]).toNat : Int) == 60) = true := by rw [h60]; rfl
  have hy := at_T l (i + 1) h1
  have k0 : (0 : Int) ≤ (i : Int) + 1 := by omega
  have k1 : (i : Int) + 1 < (l.length : Int) := by omega
  have kk : (((i + 1 : Nat)) : Int) = (i : Int) + 1 := by omega
  have hdb : ((l[i + 1]).toNat : Int) ≤ 255 := by have := (l[i + 1]).toNat_lt; omega
  have hlt := fun w => rletter_c ((l[i + 1]).toNat : Int) w (by omega) hdb
  have hq : letterI ((l[i + 1]).toNat : Int) = false := hL
  simp only [hq] at hlt
  clear hq
  have he33 : (((l[i + 1]).toNat : Int) == 33) = false := oct_ne (n := 33) g33 (by decide)
  have he63 : (((l[i + 1]).toNat : Int) == 63) = false := oct_ne (n := 63) g63 (by decide)
  have he47 : (((l[i + 1]).toNat : Int) == 47) = true := by rw [g47]; rfl
  clear g47
  have k2 : (i : Int) + 2 < (l.length : Int) := by omega
  generalize l[i + 1] = d at *
  have ht := rtext_c true R l r w ⟨_, _, _, _, h⟩ hz.2.2.2.2.2.1 hz.1
  clear h
  generalize textR true r = r2 at ht ⊢
  generalize l[i] = c at *
  go_enter Tryz.func27, Tryz.ntmps27
  go_wp2_with (first | (go_at_call 57; refine (hlt _).mono ?_; rintro e w' ⟨rfl, rfl⟩))
  refine ht.mono ?_
  rintro e w2 ⟨rfl, ⟨vo2, vt2, va2, ps2, h2⟩, hb2⟩
  have d2 := (h2.cell 2).trans rfl
  have x2 := h2.froz 2
  have HP := Lib.hid (And.intro (h2.seti (r' := goR 1 r2) 2 (.int .i64 1) rfl rfl rfl rfl) (below_set (i := 2) (.int .i64 1) hb2))
  clear h2 hb2 ht
  go_wp2_with fail
  go_ret
  exact ⟨rfl, ⟨_, _, _, _, HP.out.1⟩, HP.out.2⟩
set_option maxHeartbeats 2000000 in
set_option maxRecDepth 100000 in
theorem data_47l (R : Nat) (l : List UInt8) (hl : l.length ≤ 65536) (r : Rd) (i : Nat) (hi : i < l.length) (w : World) (h : RdM R l r w) (hz : Sz r) (hst : r.st = 0) (h60 : l[i] = 60) (h1 : i + 1 < l.length) (hL : letB l[i + 1] = false) (g33 : l[i + 1] ≠ 33) (g63 : l[i + 1] ≠ 63) (g47 : l[i + 1] = 47) (h2 : ¬ i + 2 < l.length) :
    Calls Tryz.prog 27 #[.pointer (some ⟨R, 0, none⟩), .int .i64 (i : Int)] w fun e w' => e = .returned (.int .i64 1) ∧ RdM R l (addT l[i] r) w' ∧ Below R w w' := by
  have hsz : ((S l).size : Int) = (l.length : Int) := by rw [size_S]
  have hx := at_T l i hi
  have j0 : (0 : Int) ≤ (i : Int) := by omega
  have j1 : (i : Int) < (l.length : Int) := by omega
  have jl : (l.length : Int) ≤ 65536 := by omega
  obtain ⟨vo, vt, va, ps, h⟩ := h
  have c0 : w.cell? ⟨R, 0, none⟩ = some (.string (S l)) := (h.cell 0).trans rfl
  have c2 : w.cell? ⟨R, 2, none⟩ = some (.int .i64 0) := (h.cell 2).trans (by show some (Value.int .i64 (r.st : Int)) = _; rw [hst]; rfl)
  clear hst
  have z2 := h.froz 2
  have hRw : R ≤ w.heap.size := Nat.le_of_lt h.lt
  have hRlt : R < w.heap.size := h.lt
  have hb60 : (((l[i]).toNat : Int) == 60) = true := by rw [h60]; rfl
  have hy := at_T l (i + 1) h1
  have k0 : (0 : Int) ≤ (i : Int) + 1 := by omega
  have k1 : (i : Int) + 1 < (l.length : Int) := by omega
  have kk : (((i + 1 : Nat)) : Int) = (i : Int) + 1 := by omega
  have hdb : ((l[i + 1]).toNat : Int) ≤ 255 := by have := (l[i + 1]).toNat_lt; omega
  have hlt := fun w => rletter_c ((l[i + 1]).toNat : Int) w (by omega) hdb
  have hq : letterI ((l[i + 1]).toNat : Int) = false := hL
  simp only [hq] at hlt
  clear hq
  have he33 : (((l[i + 1]).toNat : Int) == 33) = false := oct_ne (n := 33) g33 (by decide)
  have he63 : (((l[i + 1]).toNat : Int) == 63) = false := oct_ne (n := 63) g63 (by decide)
  have he47 : (((l[i + 1]).toNat : Int) == 47) = true := by rw [g47]; rfl
  clear g47
  have k2 : ¬ ((i : Int) + 2 < (l.length : Int)) := by omega
  have k2b : decide ((i : Int) + 2 < (l.length : Int)) = false := decide_eq_false k2
  clear h2
  generalize l[i + 1] = d at *
  clear h60
  obtain ⟨i0, hi0, hz0, hz1, hz2⟩ := info_parts Mem.info_u8
  have hzt : r.tx.length ≤ 134217728 := hz.2.2.2.2.2.1
  have c3 : w.cell? ⟨R, 3, none⟩ = some vt := (h.cell 3).trans rfl
  have HW := Lib.hid h
  clear h
  generalize l[i] = c at *
  go_enter Tryz.func27, Tryz.ntmps27
  go_wp2_with (first
    | (go_at_call 57; refine (hlt _).mono ?_; rintro e w' ⟨rfl, rfl⟩)
    | (at_builtin; refine wpList_append_own_at _ rfl _ _ 49 rfl (R + 1) 5 i0 _ 1 1 Tryz.underlying49 hi0 hz0 hz1 hz2 rfl (by decide) _ _ _ rfl (HW.out.txt.alloc _) ⟨w.heap.size, 0, none⟩ 1 1 [Mem.bv c] rfl rfl (push_cells (cs := [Mem.bv c])) (fun u hu => by rw [List.mem_singleton] at hu; subst hu; rfl) (by unfold maxLen; omega) (by omega) (by simp; omega) ?_))
  intro v' w3 hown hg _ hat
  obtain ⟨p1, p2, p3, p4⟩ := HW.out.pushT c _ hown hg hat
  obtain ⟨vp, vj, vc, rfl⟩ := own_slice hown
  have HP := Lib.hid (And.intro p1 p2)
  clear p1 p2 hown hg hat
  go_wp2_with fail
  go_ret
  exact ⟨rfl, ⟨_, _, _, _, HP.out.1⟩, HP.out.2⟩
set_option maxHeartbeats 2000000 in
set_option maxRecDepth 100000 in
theorem data_no (R : Nat) (l : List UInt8) (hl : l.length ≤ 65536) (r : Rd) (i : Nat) (hi : i < l.length) (w : World) (h : RdM R l r w) (hz : Sz r) (hst : r.st = 0) (h60 : l[i] = 60) (h1 : i + 1 < l.length) (hL : letB l[i + 1] = false) (g33 : l[i + 1] ≠ 33) (g63 : l[i + 1] ≠ 63) (g47 : l[i + 1] ≠ 47) :
    Calls Tryz.prog 27 #[.pointer (some ⟨R, 0, none⟩), .int .i64 (i : Int)] w fun e w' => e = .returned (.int .i64 1) ∧ RdM R l (addT l[i] r) w' ∧ Below R w w' := by
  have hsz : ((S l).size : Int) = (l.length : Int) := by rw [size_S]
  have hx := at_T l i hi
  have j0 : (0 : Int) ≤ (i : Int) := by omega
  have j1 : (i : Int) < (l.length : Int) := by omega
  have jl : (l.length : Int) ≤ 65536 := by omega
  obtain ⟨vo, vt, va, ps, h⟩ := h
  have c0 : w.cell? ⟨R, 0, none⟩ = some (.string (S l)) := (h.cell 0).trans rfl
  have c2 : w.cell? ⟨R, 2, none⟩ = some (.int .i64 0) := (h.cell 2).trans (by show some (Value.int .i64 (r.st : Int)) = _; rw [hst]; rfl)
  clear hst
  have z2 := h.froz 2
  have hRw : R ≤ w.heap.size := Nat.le_of_lt h.lt
  have hRlt : R < w.heap.size := h.lt
  have hb60 : (((l[i]).toNat : Int) == 60) = true := by rw [h60]; rfl
  have hy := at_T l (i + 1) h1
  have k0 : (0 : Int) ≤ (i : Int) + 1 := by omega
  have k1 : (i : Int) + 1 < (l.length : Int) := by omega
  have kk : (((i + 1 : Nat)) : Int) = (i : Int) + 1 := by omega
  have hdb : ((l[i + 1]).toNat : Int) ≤ 255 := by have := (l[i + 1]).toNat_lt; omega
  have hlt := fun w => rletter_c ((l[i + 1]).toNat : Int) w (by omega) hdb
  have hq : letterI ((l[i + 1]).toNat : Int) = false := hL
  simp only [hq] at hlt
  clear hq
  have he33 : (((l[i + 1]).toNat : Int) == 33) = false := oct_ne (n := 33) g33 (by decide)
  have he63 : (((l[i + 1]).toNat : Int) == 63) = false := oct_ne (n := 63) g63 (by decide)
  have he47 : (((l[i + 1]).toNat : Int) == 47) = false := oct_ne (n := 47) g47 (by decide)
  generalize l[i + 1] = d at *
  clear h60
  obtain ⟨i0, hi0, hz0, hz1, hz2⟩ := info_parts Mem.info_u8
  have hzt : r.tx.length ≤ 134217728 := hz.2.2.2.2.2.1
  have c3 : w.cell? ⟨R, 3, none⟩ = some vt := (h.cell 3).trans rfl
  have HW := Lib.hid h
  clear h
  generalize l[i] = c at *
  go_enter Tryz.func27, Tryz.ntmps27
  go_wp2_with (first
    | (go_at_call 57; refine (hlt _).mono ?_; rintro e w' ⟨rfl, rfl⟩)
    | (at_builtin; refine wpList_append_own_at _ rfl _ _ 49 rfl (R + 1) 5 i0 _ 1 1 Tryz.underlying49 hi0 hz0 hz1 hz2 rfl (by decide) _ _ _ rfl (HW.out.txt.alloc _) ⟨w.heap.size, 0, none⟩ 1 1 [Mem.bv c] rfl rfl (push_cells (cs := [Mem.bv c])) (fun u hu => by rw [List.mem_singleton] at hu; subst hu; rfl) (by unfold maxLen; omega) (by omega) (by simp; omega) ?_))
  intro v' w3 hown hg _ hat
  obtain ⟨p1, p2, p3, p4⟩ := HW.out.pushT c _ hown hg hat
  obtain ⟨vp, vj, vc, rfl⟩ := own_slice hown
  have HP := Lib.hid (And.intro p1 p2)
  clear p1 p2 hown hg hat
  go_wp2_with fail
  go_ret
  exact ⟨rfl, ⟨_, _, _, _, HP.out.1⟩, HP.out.2⟩
end Go.Proofs.YtklpbkjplecdpaaGreat.Tok

/-
  Contract of the page's reader's outside: the states outside of tags, one by one.
-/
namespace Go.Proofs.YtklpbkjplecdpaaGreat.Tok
open Go.RowKit Oct Utf Crf Tab Mem

theorem starts_prefix (s p : List UInt8) : startsB s p = (p.map low).isPrefixOf (s.map low) := by
  unfold startsB
  rw [Bool.eq_iff_iff]
  simp only [Bool.and_eq_true, decide_eq_true_eq, beq_iff_eq, List.isPrefixOf_iff_prefix]
  constructor
  · rintro ⟨_, h2⟩
    exact ⟨(s.map low).drop p.length, by rw [← h2, List.take_append_drop]⟩
  · rintro ⟨t, ht⟩
    have hl := congrArg List.length ht
    simp at hl
    refine ⟨by omega, ?_⟩
    rw [← ht, List.take_append_of_le_length (by simp), List.take_of_length_le (by simp)]
theorem opens_other (c : UInt8) (t : List UInt8) (h : c ≠ 60) : opens c t = false := by
  unfold opens
  rw [show (c == 60) = false from by rw [beq_eq_false_iff_ne]; exact h]
  rfl
theorem opens_last (c : UInt8) : opens c [] = false := by
  unfold opens
  cases c == 60 <;> rfl
theorem opens_cons (d : UInt8) (u : List UInt8) : opens 60 (d :: u) = (letB d || d == 33 || d == 63 || (d == 47 && !u.isEmpty)) := rfl
theorem drop_at (l : List UInt8) (i : Nat) (h : i < l.length) : l.drop i = l[i] :: l.drop (i + 1) := List.drop_eq_getElem_cons h
theorem hits_no (rw L : List UInt8) (h : startsB L (60 :: 47 :: rw) = false) : hits rw L = false := by
  unfold hits
  rw [← starts_prefix, h]
  rfl
theorem hits_yes (rw L : List UInt8) (h : startsB L (60 :: 47 :: rw) = true) : hits rw L = (match L.drop (2 + rw.length) with | [] => false | d :: _ => blB d || d == 47 || d == 62) := by
  unfold hits
  rw [← starts_prefix, h]
  rfl

theorem routside_c (R : Nat) (l : List UInt8) (hl : l.length ≤ 65536) (r : Rd) (i : Nat) (hi : i < l.length) (w : World) (h : RdM R l r w) (hz : Sz r) (h1 : inTag r.st = false) (h2 : inVal r.st = false) (hs : r.st ≤ 15) :
    Calls Tryz.prog 27 #[.pointer (some ⟨R, 0, none⟩), .int .i64 (i : Int)] w fun e w' => e = .returned (.int .i64 ((outR l[i] (l.drop (i + 1)) r).2 : Int)) ∧ RdM R l (outR l[i] (l.drop (i + 1)) r).1 w' ∧ Below R w w' := by
  have h1 := of_decide_eq_false h1
  have h2 := of_decide_eq_false h2
  have hd := drop_at l i hi
  rcases (by omega : r.st = 0 ∨ r.st = 1 ∨ r.st = 2 ∨ r.st = 12 ∨ r.st = 13 ∨ r.st = 14 ∨ r.st = 15) with h0 | h0 | h0 | h0 | h0 | h0 | h0
  · have e0 : outR l[i] (l.drop (i + 1)) r = dataR l[i] (l.drop (i + 1)) r := by unfold outR; rw [if_pos h0]
    rw [e0]
    clear e0
    unfold dataR
    by_cases h60 : l[i] = 60
    · by_cases hn : i + 1 < l.length
      · have hd1 := drop_at l (i + 1) hn
        have ho : opens l[i] (l.drop (i + 1)) = (letB l[i + 1] || l[i + 1] == 33 || l[i + 1] == 63 || (l[i + 1] == 47 && !(l.drop (i + 2)).isEmpty)) := by rw [hd1, h60, opens_cons]
        rw [ho]
        clear ho
        cases hL : letB l[i + 1] with
        | true => rw [Bool.true_or, Bool.true_or, Bool.true_or, if_pos rfl]; exact data_letter R l hl r i hi w h hz h0 h60 hn hL
        | false =>
          by_cases g33 : l[i + 1] = 33
          · rw [if_pos (by rw [g33]; rfl)]; exact data_33 R l hl r i hi w h hz h0 h60 hn hL g33
          · by_cases g63 : l[i + 1] = 63
            · rw [if_pos (by rw [g63]; rfl)]; exact data_63 R l hl r i hi w h hz h0 h60 hn hL g33 g63
            · by_cases g47 : l[i + 1] = 47
              · by_cases h3 : i + 2 < l.length
                · have hne : (l.drop (i + 2)).isEmpty = false := by rw [drop_at l (i + 2) h3]; rfl
                  rw [if_pos (by rw [g47, hne]; rfl)]; exact data_47 R l hl r i hi w h hz h0 h60 hn hL g33 g63 g47 h3
                · have he : (l.drop (i + 2)).isEmpty = true := by rw [List.drop_of_length_le (by omega)]; rfl
                  rw [if_neg (by rw [g47, he]; decide)]; exact data_47l R l hl r i hi w h hz h0 h60 hn hL g33 g63 g47 h3
              · rw [if_neg (by simp [g33, g63, g47])]; exact data_no R l hl r i hi w h hz h0 h60 hn hL g33 g63 g47
      · rw [List.drop_of_length_le (by omega), opens_last, if_neg (by simp)]
        exact data_last R l hl r i hi w h hz h0 h60 hn
    · rw [opens_other _ _ h60, if_neg (by simp)]
      exact data_other R l hl r i hi w h hz h0 h60
  · have e0 : outR l[i] (l.drop (i + 1)) r = openR l[i] r := by unfold outR; rw [if_neg (by omega), if_pos h0]
    rw [e0]
    clear e0
    unfold openR
    by_cases h47 : l[i] = 47
    · rw [if_pos h47]; exact open_47 R l hl r i hi w h hz h0 h47
    · by_cases h33 : l[i] = 33
      · rw [if_neg h47, if_pos h33]; exact open_33 R l hl r i hi w h hz h0 h47 h33
      · by_cases h63 : l[i] = 63
        · rw [if_neg h47, if_neg h33, if_pos h63]; exact open_63 R l hl r i hi w h hz h0 h47 h33 h63
        · rw [if_neg h47, if_neg h33, if_neg h63]; exact open_tag R l hl r i hi w h hz h0 h47 h33 h63
  · have e0 : outR l[i] (l.drop (i + 1)) r = endOpenR l[i] r := by unfold outR; rw [if_neg (by omega), if_neg (by omega), if_pos h0]
    rw [e0]
    clear e0
    unfold endOpenR
    cases hL : letB l[i] with
    | true => rw [if_pos rfl]; exact endOpen_tag R l hl r i hi w h hz h0 hL
    | false =>
      by_cases h62 : l[i] = 62
      · rw [if_neg (by simp), if_pos h62]; exact endOpen_62 R l hl r i hi w h hz h0 hL h62
      · rw [if_neg (by simp), if_neg h62]; exact endOpen_more R l hl r i hi w h hz h0 hL h62
  · have e0 : outR l[i] (l.drop (i + 1)) r = bangR (l.drop i) r := by unfold outR; rw [if_neg (by omega), if_neg (by omega), if_neg (by omega), if_pos h0, hd]
    rw [e0]
    clear e0
    unfold bangR
    cases hq : [45, 45].isPrefixOf (l.drop i) with
    | true => rw [if_pos rfl]; exact bang_yes R l hl r i hi w h hz h0 hq
    | false => rw [if_neg (by simp)]; exact bang_no R l hl r i hi w h hz h0 hq
  · have e0 : outR l[i] (l.drop (i + 1)) r = bogusR l[i] r := by unfold outR; rw [if_neg (by omega), if_neg (by omega), if_neg (by omega), if_neg (by omega), if_pos h0]
    rw [e0]
    clear e0
    unfold bogusR
    by_cases h62 : l[i] = 62
    · rw [if_pos h62]; exact bogus_62 R l hl r i hi w h hz h0 h62
    · rw [if_neg h62]; exact bogus_more R l hl r i hi w h hz h0 h62
  · have e0 : outR l[i] (l.drop (i + 1)) r = commentR (l.drop i) l[i] r := by unfold outR; rw [if_neg (by omega), if_neg (by omega), if_neg (by omega), if_neg (by omega), if_neg (by omega), if_pos h0, hd]
    rw [e0]
    clear e0
    unfold commentR
    cases hq : [45, 45, 62].isPrefixOf (l.drop i) with
    | true => rw [if_pos rfl]; exact comment_yes R l hl r i hi w h hz h0 hq
    | false => rw [if_neg (by simp)]; exact comment_no R l hl r i hi w h hz h0 hq
  · have e0 : outR l[i] (l.drop (i + 1)) r = rawR (l.drop i) l[i] r := by unfold outR; rw [if_neg (by omega), if_neg (by omega), if_neg (by omega), if_neg (by omega), if_neg (by omega), if_neg (by omega), hd]
    rw [e0]
    clear e0
    unfold rawR
    cases hq : startsB (l.drop i) (60 :: 47 :: r.rw) with
    | false => rw [hits_no _ _ hq, if_neg (by simp)]; exact raw_no1 R l hl r i hi w h hz h0 hq
    | true =>
      rw [hits_yes _ _ hq, List.drop_drop, List.drop_drop]
      by_cases hn : i + 2 + r.rw.length < l.length
      · have hdn := drop_at l (i + 2 + r.rw.length) hn
        rw [show i + (2 + r.rw.length) = i + 2 + r.rw.length by omega, hdn]
        simp only
        cases hB : blB l[i + 2 + r.rw.length] with
        | true => rw [Bool.true_or, Bool.true_or, if_pos rfl]; exact raw_yes1 R l hl r i hi w h hz h0 hq hn hB
        | false =>
          by_cases g47 : l[i + 2 + r.rw.length] = 47
          · rw [if_pos (by rw [g47]; rfl)]; exact raw_yes2 R l hl r i hi w h hz h0 hq hn hB g47
          · by_cases g62 : l[i + 2 + r.rw.length] = 62
            · rw [if_pos (by rw [g62]; rfl)]; exact raw_yes3 R l hl r i hi w h hz h0 hq hn hB g47 g62
            · rw [if_neg (by simp [g47, g62])]; exact raw_no3 R l hl r i hi w h hz h0 hq hn hB g47 g62
      · rw [List.drop_of_length_le (by omega)]
        simp only
        rw [if_neg (by simp)]
        exact raw_no2 R l hl r i hi w h hz h0 hq hn
end Go.Proofs.YtklpbkjplecdpaaGreat.Tok
