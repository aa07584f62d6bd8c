/-
  Part 34: TokOpen, TokMark, TokCom, PgName.
-/
import Derived.Test.YtidfcajhmldieaaGreatOwnBaseP29
import Derived.Test.YtidfcajhmldieaaGreatOwnBaseP33
import Derived.Test.YtidfcajhmldieaaGreatOwnBaseP12
import Derived.Test.YtidfcajhmldieaaGreatOwnBaseP10
import Derived.Lib.Hide
/-
  Contracts of the page's reader's outside behind a <.
-/
namespace Go.Proofs.YtidfcajhmldieaaGreat.Tok
open Go.RowKit Go.Proofs.YtidfcajhmldieaaGreat.Oct Go.Proofs.YtidfcajhmldieaaGreat.Utf Go.Proofs.YtidfcajhmldieaaGreat.Crf Go.Proofs.YtidfcajhmldieaaGreat.Tab Go.Proofs.YtidfcajhmldieaaGreat.Mem

/-- A tag begins. -/
theorem RdW.newTag {R : Nat} {l : List UInt8} {r : Rd} {vo vt va : Value} {ps : List (Tk × Value)} {w : World} (h : RdW R l r vo vt va ps w) (k : Int) :
    RdW R l { r with st := 3, tg := { noTk with k := k } } vo vt (.slice none 0 0) ps ((((((w.setCell ⟨R, 2, none⟩ (.int .i64 3)).setCell ⟨R, 4, none⟩ (.int .i64 k)).setCell ⟨R, 5, none⟩ (.string ⟨#[]⟩)).setCell ⟨R, 6, none⟩ (.string ⟨#[]⟩)).setCell ⟨R, 7, none⟩ (.slice none 0 0)).setCell ⟨R, 8, none⟩ (.bool false)) where
  box := box_set 8 (.bool false) (box_set 7 (.slice none 0 0) (box_set 6 (.string ⟨#[]⟩) (box_set 5 (.string ⟨#[]⟩) (box_set 4 (.int .i64 k) (box_set 2 (.int .i64 3) h.box)))))
  out := own_set (own_set (own_set (own_set (own_set (own_set h.out)))))
  outs := h.outs
  txt := own_set (own_set (own_set (own_set (own_set (own_set h.txt)))))
  att := World.ownsRow_nil _ _ _ _
  ats := fun p hp => own_set (own_set (own_set (own_set (own_set (own_set (h.ats p hp))))))
  s1 := h.s1
  s2 := sep_nil _
  s3 := sep_nil _
  s4 := fun p hp => ⟨(h.s4 p hp).1, (h.s4 p hp).2.1, sep_nil _⟩

set_option maxHeartbeats 2000000 in
set_option maxRecDepth 100000 in
theorem open_47 (R : Nat) (l : List UInt8) (hl : l.length ≤ 65536) (r : Rd) (i : Nat) (hi : i < l.length) (w : World) (h : RdM R l r w) (_ : Sz r) (hst : r.st = 1) (h47 : l[i] = 47) :
    Calls Tryz.prog 14 #[.pointer (some ⟨R, 0, none⟩), .int .i64 (i : Int)] w fun e w' => e = .returned (.int .i64 1) ∧ RdM R l (goR 2 r) w' ∧ Below R w w' := by
  have hsz : ((S l).size : Int) = (l.length : Int) := by rw [size_S]
  have hx := at_T l i hi
  have j0 : (0 : Int) ≤ (i : Int) := by omega
  have j1 : (i : Int) < (l.length : Int) := by omega
  have jl : (l.length : Int) ≤ 65536 := by omega
  obtain ⟨vo, vt, va, ps, h⟩ := h
  have c0 : w.cell? ⟨R, 0, none⟩ = some (.string (S l)) := (h.cell 0).trans rfl
  have c2 : w.cell? ⟨R, 2, none⟩ = some (.int .i64 1) := (h.cell 2).trans (by show some (Value.int .i64 (r.st : Int)) = _; rw [hst]; rfl)
  clear hst
  have z2 := h.froz 2
  have hRw : R ≤ w.heap.size := Nat.le_of_lt h.lt
  have hRlt : R < w.heap.size := h.lt
  have hb47 : (((l[i]).toNat : Int) == 47) = true := by rw [h47]; rfl
  clear h47
  have HW := Lib.hid (h.seti (r' := goR 2 r) 2 (.int .i64 2) rfl rfl rfl rfl)
  clear h
  generalize l[i] = c at *
  go_enter Tryz.func14, Tryz.ntmps14
  go_wp2_with fail
  go_ret
  exact ⟨rfl, ⟨_, _, _, _, HW.out⟩, below_set _ (Below.refl _ _)⟩
set_option maxHeartbeats 2000000 in
set_option maxRecDepth 100000 in
theorem open_33 (R : Nat) (l : List UInt8) (hl : l.length ≤ 65536) (r : Rd) (i : Nat) (hi : i < l.length) (w : World) (h : RdM R l r w) (_ : Sz r) (hst : r.st = 1) (h47 : l[i] ≠ 47) (h33 : l[i] = 33) :
    Calls Tryz.prog 14 #[.pointer (some ⟨R, 0, none⟩), .int .i64 (i : Int)] w fun e w' => e = .returned (.int .i64 1) ∧ RdM R l (goR 12 r) w' ∧ Below R w w' := by
  have hsz : ((S l).size : Int) = (l.length : Int) := by rw [size_S]
  have hx := at_T l i hi
  have j0 : (0 : Int) ≤ (i : Int) := by omega
  have j1 : (i : Int) < (l.length : Int) := by omega
  have jl : (l.length : Int) ≤ 65536 := by omega
  obtain ⟨vo, vt, va, ps, h⟩ := h
  have c0 : w.cell? ⟨R, 0, none⟩ = some (.string (S l)) := (h.cell 0).trans rfl
  have c2 : w.cell? ⟨R, 2, none⟩ = some (.int .i64 1) := (h.cell 2).trans (by show some (Value.int .i64 (r.st : Int)) = _; rw [hst]; rfl)
  clear hst
  have z2 := h.froz 2
  have hRw : R ≤ w.heap.size := Nat.le_of_lt h.lt
  have hRlt : R < w.heap.size := h.lt
  have hb47 : (((l[i]).toNat : Int) == 47) = false := oct_ne (n := 47) h47 (by decide)
  have hb33 : (((l[i]).toNat : Int) == 33) = true := by rw [h33]; rfl
  clear h33
  have HW := Lib.hid (h.seti (r' := goR 12 r) 2 (.int .i64 12) rfl rfl rfl rfl)
  clear h
  generalize l[i] = c at *
  go_enter Tryz.func14, Tryz.ntmps14
  go_wp2_with fail
  go_ret
  exact ⟨rfl, ⟨_, _, _, _, HW.out⟩, below_set _ (Below.refl _ _)⟩
set_option maxHeartbeats 2000000 in
set_option maxRecDepth 100000 in
theorem open_63 (R : Nat) (l : List UInt8) (hl : l.length ≤ 65536) (r : Rd) (i : Nat) (hi : i < l.length) (w : World) (h : RdM R l r w) (_ : Sz r) (hst : r.st = 1) (h47 : l[i] ≠ 47) (h33 : l[i] ≠ 33) (h63 : l[i] = 63) :
    Calls Tryz.prog 14 #[.pointer (some ⟨R, 0, none⟩), .int .i64 (i : Int)] w fun e w' => e = .returned (.int .i64 1) ∧ RdM R l (goR 13 r) w' ∧ Below R w w' := by
  have hsz : ((S l).size : Int) = (l.length : Int) := by rw [size_S]
  have hx := at_T l i hi
  have j0 : (0 : Int) ≤ (i : Int) := by omega
  have j1 : (i : Int) < (l.length : Int) := by omega
  have jl : (l.length : Int) ≤ 65536 := by omega
  obtain ⟨vo, vt, va, ps, h⟩ := h
  have c0 : w.cell? ⟨R, 0, none⟩ = some (.string (S l)) := (h.cell 0).trans rfl
  have c2 : w.cell? ⟨R, 2, none⟩ = some (.int .i64 1) := (h.cell 2).trans (by show some (Value.int .i64 (r.st : Int)) = _; rw [hst]; rfl)
  clear hst
  have z2 := h.froz 2
  have hRw : R ≤ w.heap.size := Nat.le_of_lt h.lt
  have hRlt : R < w.heap.size := h.lt
  have hb47 : (((l[i]).toNat : Int) == 47) = false := oct_ne (n := 47) h47 (by decide)
  have hb33 : (((l[i]).toNat : Int) == 33) = false := oct_ne (n := 33) h33 (by decide)
  have hb63 : (((l[i]).toNat : Int) == 63) = true := by rw [h63]; rfl
  clear h63
  have HW := Lib.hid (h.seti (r' := goR 13 r) 2 (.int .i64 13) rfl rfl rfl rfl)
  clear h
  generalize l[i] = c at *
  go_enter Tryz.func14, Tryz.ntmps14
  go_wp2_with fail
  go_ret
  exact ⟨rfl, ⟨_, _, _, _, HW.out⟩, below_set _ (Below.refl _ _)⟩
set_option maxHeartbeats 2000000 in
set_option maxRecDepth 100000 in
theorem open_tag (R : Nat) (l : List UInt8) (hl : l.length ≤ 65536) (r : Rd) (i : Nat) (hi : i < l.length) (w : World) (h : RdM R l r w) (_ : Sz r) (hst : r.st = 1) (h47 : l[i] ≠ 47) (h33 : l[i] ≠ 33) (h63 : l[i] ≠ 63) :
    Calls Tryz.prog 14 #[.pointer (some ⟨R, 0, none⟩), .int .i64 (i : Int)] w fun e w' => e = .returned (.int .i64 0) ∧ RdM R l { r with st := 3, tg := { noTk with k := 1 } } w' ∧ Below R w w' := by
  have hsz : ((S l).size : Int) = (l.length : Int) := by rw [size_S]
  have hx := at_T l i hi
  have j0 : (0 : Int) ≤ (i : Int) := by omega
  have j1 : (i : Int) < (l.length : Int) := by omega
  have jl : (l.length : Int) ≤ 65536 := by omega
  obtain ⟨vo, vt, va, ps, h⟩ := h
  have c0 : w.cell? ⟨R, 0, none⟩ = some (.string (S l)) := (h.cell 0).trans rfl
  have c2 : w.cell? ⟨R, 2, none⟩ = some (.int .i64 1) := (h.cell 2).trans (by show some (Value.int .i64 (r.st : Int)) = _; rw [hst]; rfl)
  clear hst
  have z2 := h.froz 2
  have hRw : R ≤ w.heap.size := Nat.le_of_lt h.lt
  have hRlt : R < w.heap.size := h.lt
  have hb47 : (((l[i]).toNat : Int) == 47) = false := oct_ne (n := 47) h47 (by decide)
  have hb33 : (((l[i]).toNat : Int) == 33) = false := oct_ne (n := 33) h33 (by decide)
  have hb63 : (((l[i]).toNat : Int) == 63) = false := oct_ne (n := 63) h63 (by decide)
  have HW := Lib.hid (h.newTag 1)
  have y4 : _ = some (Value.int .i64 r.tg.k) := (h.cell 4).trans rfl
  have y5 : _ = some (Value.string (S r.tg.n)) := (h.cell 5).trans rfl
  have y6 : _ = some (Value.string (S r.tg.x)) := (h.cell 6).trans rfl
  have y7 : _ = some va := (h.cell 7).trans rfl
  have y8 : _ = some (Value.bool r.tg.c) := (h.cell 8).trans rfl
  have z4 := h.froz 4
  have z5 := h.froz 5
  have z6 := h.froz 6
  have z7 := h.froz 7
  have z8 := h.froz 8
  clear h
  generalize l[i] = c at *
  go_enter Tryz.func14, Tryz.ntmps14
  go_wp2_with fail
  go_ret
  exact ⟨rfl, ⟨_, _, _, _, HW.out⟩, below_set _ (below_set _ (below_set _ (below_set _ (below_set _ (below_set _ (Below.refl _ _))))))⟩
set_option maxHeartbeats 2000000 in
set_option maxRecDepth 100000 in
theorem endOpen_tag (R : Nat) (l : List UInt8) (hl : l.length ≤ 65536) (r : Rd) (i : Nat) (hi : i < l.length) (w : World) (h : RdM R l r w) (_ : Sz r) (hst : r.st = 2) (hL : letB l[i] = true) :
    Calls Tryz.prog 14 #[.pointer (some ⟨R, 0, none⟩), .int .i64 (i : Int)] w fun e w' => e = .returned (.int .i64 0) ∧ RdM R l { r with st := 3, tg := { noTk with k := 2 } } w' ∧ Below R w w' := by
  have hsz : ((S l).size : Int) = (l.length : Int) := by rw [size_S]
  have hx := at_T l i hi
  have j0 : (0 : Int) ≤ (i : Int) := by omega
  have j1 : (i : Int) < (l.length : Int) := by omega
  have jl : (l.length : Int) ≤ 65536 := by omega
  obtain ⟨vo, vt, va, ps, h⟩ := h
  have c0 : w.cell? ⟨R, 0, none⟩ = some (.string (S l)) := (h.cell 0).trans rfl
  have c2 : w.cell? ⟨R, 2, none⟩ = some (.int .i64 2) := (h.cell 2).trans (by show some (Value.int .i64 (r.st : Int)) = _; rw [hst]; rfl)
  clear hst
  have z2 := h.froz 2
  have hRw : R ≤ w.heap.size := Nat.le_of_lt h.lt
  have hRlt : R < w.heap.size := h.lt
  have hcb : ((l[i]).toNat : Int) ≤ 255 := by have := (l[i]).toNat_lt; omega
  have hlt := fun w => rletter_c ((l[i]).toNat : Int) w (by omega) hcb
  have hq : letterI ((l[i]).toNat : Int) = true := hL
  simp only [hq] at hlt
  clear hq hL
  have HW := Lib.hid (h.newTag 2)
  have y4 : _ = some (Value.int .i64 r.tg.k) := (h.cell 4).trans rfl
  have y5 : _ = some (Value.string (S r.tg.n)) := (h.cell 5).trans rfl
  have y6 : _ = some (Value.string (S r.tg.x)) := (h.cell 6).trans rfl
  have y7 : _ = some va := (h.cell 7).trans rfl
  have y8 : _ = some (Value.bool r.tg.c) := (h.cell 8).trans rfl
  have z4 := h.froz 4
  have z5 := h.froz 5
  have z6 := h.froz 6
  have z7 := h.froz 7
  have z8 := h.froz 8
  clear h
  generalize l[i] = c at *
  go_enter Tryz.func14, Tryz.ntmps14
  go_wp2_with (first | (go_at_call 26; refine (hlt _).mono ?_; rintro e w' ⟨rfl, rfl⟩))
  go_ret
  exact ⟨rfl, ⟨_, _, _, _, HW.out⟩, below_set _ (below_set _ (below_set _ (below_set _ (below_set _ (below_set _ (Below.refl _ _))))))⟩
set_option maxHeartbeats 2000000 in
set_option maxRecDepth 100000 in
theorem endOpen_62 (R : Nat) (l : List UInt8) (hl : l.length ≤ 65536) (r : Rd) (i : Nat) (hi : i < l.length) (w : World) (h : RdM R l r w) (_ : Sz r) (hst : r.st = 2) (hL : letB l[i] = false) (h62 : l[i] = 62) :
    Calls Tryz.prog 14 #[.pointer (some ⟨R, 0, none⟩), .int .i64 (i : Int)] w fun e w' => e = .returned (.int .i64 1) ∧ RdM R l (goR 0 r) w' ∧ Below R w w' := by
  have hsz : ((S l).size : Int) = (l.length : Int) := by rw [size_S]
  have hx := at_T l i hi
  have j0 : (0 : Int) ≤ (i : Int) := by omega
  have j1 : (i : Int) < (l.length : Int) := by omega
  have jl : (l.length : Int) ≤ 65536 := by omega
  obtain ⟨vo, vt, va, ps, h⟩ := h
  have c0 : w.cell? ⟨R, 0, none⟩ = some (.string (S l)) := (h.cell 0).trans rfl
  have c2 : w.cell? ⟨R, 2, none⟩ = some (.int .i64 2) := (h.cell 2).trans (by show some (Value.int .i64 (r.st : Int)) = _; rw [hst]; rfl)
  clear hst
  have z2 := h.froz 2
  have hRw : R ≤ w.heap.size := Nat.le_of_lt h.lt
  have hRlt : R < w.heap.size := h.lt
  have hcb : ((l[i]).toNat : Int) ≤ 255 := by have := (l[i]).toNat_lt; omega
  have hlt := fun w => rletter_c ((l[i]).toNat : Int) w (by omega) hcb
  have hq : letterI ((l[i]).toNat : Int) = false := hL
  simp only [hq] at hlt
  clear hq hL
  have hb62 : (((l[i]).toNat : Int) == 62) = true := by rw [h62]; rfl
  clear h62
  have HW := Lib.hid (h.seti (r' := goR 0 r) 2 (.int .i64 0) rfl rfl rfl rfl)
  clear h
  generalize l[i] = c at *
  go_enter Tryz.func14, Tryz.ntmps14
  go_wp2_with (first | (go_at_call 26; refine (hlt _).mono ?_; rintro e w' ⟨rfl, rfl⟩))
  go_ret
  exact ⟨rfl, ⟨_, _, _, _, HW.out⟩, below_set _ (Below.refl _ _)⟩
set_option maxHeartbeats 2000000 in
set_option maxRecDepth 100000 in
theorem endOpen_more (R : Nat) (l : List UInt8) (hl : l.length ≤ 65536) (r : Rd) (i : Nat) (hi : i < l.length) (w : World) (h : RdM R l r w) (_ : Sz r) (hst : r.st = 2) (hL : letB l[i] = false) (h62 : l[i] ≠ 62) :
    Calls Tryz.prog 14 #[.pointer (some ⟨R, 0, none⟩), .int .i64 (i : Int)] w fun e w' => e = .returned (.int .i64 0) ∧ RdM R l (goR 13 r) w' ∧ Below R w w' := by
  have hsz : ((S l).size : Int) = (l.length : Int) := by rw [size_S]
  have hx := at_T l i hi
  have j0 : (0 : Int) ≤ (i : Int) := by omega
  have j1 : (i : Int) < (l.length : Int) := by omega
  have jl : (l.length : Int) ≤ 65536 := by omega
  obtain ⟨vo, vt, va, ps, h⟩ := h
  have c0 : w.cell? ⟨R, 0, none⟩ = some (.string (S l)) := (h.cell 0).trans rfl
  have c2 : w.cell? ⟨R, 2, none⟩ = some (.int .i64 2) := (h.cell 2).trans (by show some (Value.int .i64 (r.st : Int)) = _; rw [hst]; rfl)
  clear hst
  have z2 := h.froz 2
  have hRw : R ≤ w.heap.size := Nat.le_of_lt h.lt
  have hRlt : R < w.heap.size := h.lt
  have hcb : ((l[i]).toNat : Int) ≤ 255 := by have := (l[i]).toNat_lt; omega
  have hlt := fun w => rletter_c ((l[i]).toNat : Int) w (by omega) hcb
  have hq : letterI ((l[i]).toNat : Int) = false := hL
  simp only [hq] at hlt
  clear hq hL
  have hb62 : (((l[i]).toNat : Int) == 62) = false := oct_ne (n := 62) h62 (by decide)
  have HW := Lib.hid (h.seti (r' := goR 13 r) 2 (.int .i64 13) rfl rfl rfl rfl)
  clear h
  generalize l[i] = c at *
  go_enter Tryz.func14, Tryz.ntmps14
  go_wp2_with (first | (go_at_call 26; refine (hlt _).mono ?_; rintro e w' ⟨rfl, rfl⟩))
  go_ret
  exact ⟨rfl, ⟨_, _, _, _, HW.out⟩, below_set _ (Below.refl _ _)⟩
set_option maxHeartbeats 2000000 in
set_option maxRecDepth 100000 in
theorem bogus_62 (R : Nat) (l : List UInt8) (hl : l.length ≤ 65536) (r : Rd) (i : Nat) (hi : i < l.length) (w : World) (h : RdM R l r w) (_ : Sz r) (hst : r.st = 13) (h62 : l[i] = 62) :
    Calls Tryz.prog 14 #[.pointer (some ⟨R, 0, none⟩), .int .i64 (i : Int)] w fun e w' => e = .returned (.int .i64 1) ∧ RdM R l (goR 0 r) w' ∧ Below R w w' := by
  have hsz : ((S l).size : Int) = (l.length : Int) := by rw [size_S]
  have hx := at_T l i hi
  have j0 : (0 : Int) ≤ (i : Int) := by omega
  have j1 : (i : Int) < (l.length : Int) := by omega
  have jl : (l.length : Int) ≤ 65536 := by omega
  obtain ⟨vo, vt, va, ps, h⟩ := h
  have c0 : w.cell? ⟨R, 0, none⟩ = some (.string (S l)) := (h.cell 0).trans rfl
  have c2 : w.cell? ⟨R, 2, none⟩ = some (.int .i64 13) := (h.cell 2).trans (by show some (Value.int .i64 (r.st : Int)) = _; rw [hst]; rfl)
  clear hst
  have z2 := h.froz 2
  have hRw : R ≤ w.heap.size := Nat.le_of_lt h.lt
  have hRlt : R < w.heap.size := h.lt
  have hb62 : (((l[i]).toNat : Int) == 62) = true := by rw [h62]; rfl
  clear h62
  have HW := Lib.hid (h.seti (r' := goR 0 r) 2 (.int .i64 0) rfl rfl rfl rfl)
  clear h
  generalize l[i] = c at *
  go_enter Tryz.func14, Tryz.ntmps14
  go_wp2_with fail
  go_ret
  exact ⟨rfl, ⟨_, _, _, _, HW.out⟩, below_set _ (Below.refl _ _)⟩
set_option maxHeartbeats 2000000 in
set_option maxRecDepth 100000 in
theorem bogus_more (R : Nat) (l : List UInt8) (hl : l.length ≤ 65536) (r : Rd) (i : Nat) (hi : i < l.length) (w : World) (h : RdM R l r w) (_ : Sz r) (hst : r.st = 13) (h62 : l[i] ≠ 62) :
    Calls Tryz.prog 14 #[.pointer (some ⟨R, 0, none⟩), .int .i64 (i : Int)] w fun e w' => e = .returned (.int .i64 1) ∧ RdM R l r w' ∧ Below R w w' := by
  have hsz : ((S l).size : Int) = (l.length : Int) := by rw [size_S]
  have hx := at_T l i hi
  have j0 : (0 : Int) ≤ (i : Int) := by omega
  have j1 : (i : Int) < (l.length : Int) := by omega
  have jl : (l.length : Int) ≤ 65536 := by omega
  obtain ⟨vo, vt, va, ps, h⟩ := h
  have c0 : w.cell? ⟨R, 0, none⟩ = some (.string (S l)) := (h.cell 0).trans rfl
  have c2 : w.cell? ⟨R, 2, none⟩ = some (.int .i64 13) := (h.cell 2).trans (by show some (Value.int .i64 (r.st : Int)) = _; rw [hst]; rfl)
  clear hst
  have z2 := h.froz 2
  have hRw : R ≤ w.heap.size := Nat.le_of_lt h.lt
  have hRlt : R < w.heap.size := h.lt
  have hb62 : (((l[i]).toNat : Int) == 62) = false := oct_ne (n := 62) h62 (by decide)
  have HW := Lib.hid h
  clear h
  generalize l[i] = c at *
  go_enter Tryz.func14, Tryz.ntmps14
  go_wp2_with fail
  go_ret
  exact ⟨rfl, ⟨_, _, _, _, HW.out⟩, Below.refl _ _⟩
end Go.Proofs.YtidfcajhmldieaaGreat.Tok

/-
  Contracts of the page's reader's outside in markup.
-/
namespace Go.Proofs.YtidfcajhmldieaaGreat.Tok
open Go.RowKit Go.Proofs.YtidfcajhmldieaaGreat.Oct Go.Proofs.YtidfcajhmldieaaGreat.Utf Go.Proofs.YtidfcajhmldieaaGreat.Crf Go.Proofs.YtidfcajhmldieaaGreat.Tab Go.Proofs.YtidfcajhmldieaaGreat.Mem

set_option maxHeartbeats 2000000 in
set_option maxRecDepth 100000 in
theorem bang_yes (R : Nat) (l : List UInt8) (hl : l.length ≤ 65536) (r : Rd) (i : Nat) (hi : i < l.length) (w : World) (h : RdM R l r w) (_ : Sz r) (hst : r.st = 12) (hq : [45, 45].isPrefixOf (l.drop i) = true) :
    Calls Tryz.prog 14 #[.pointer (some ⟨R, 0, none⟩), .int .i64 (i : Int)] w fun e w' => e = .returned (.int .i64 2) ∧ RdM R l (goR 14 r) w' ∧ Below R w w' := by
  have hsz : ((S l).size : Int) = (l.length : Int) := by rw [size_S]
  have hx := at_T l i hi
  have j0 : (0 : Int) ≤ (i : Int) := by omega
  have j1 : (i : Int) < (l.length : Int) := by omega
  have jl : (l.length : Int) ≤ 65536 := by omega
  obtain ⟨vo, vt, va, ps, h⟩ := h
  have c0 : w.cell? ⟨R, 0, none⟩ = some (.string (S l)) := (h.cell 0).trans rfl
  have c2 : w.cell? ⟨R, 2, none⟩ = some (.int .i64 12) := (h.cell 2).trans (by show some (Value.int .i64 (r.st : Int)) = _; rw [hst]; rfl)
  clear hst
  have z2 := h.froz 2
  have hRw : R ≤ w.heap.size := Nat.le_of_lt h.lt
  have hRlt : R < w.heap.size := h.lt
  have j2 : (i : Int) ≤ (l.length : Int) := by omega
  have hf : (S l).extract i l.length = S (l.drop i) := by have := Crf.cutFrom (S l) i; rw [size_S, list_S] at this; exact this
  have hbg := fun w => Crf.rbegins_c [45, 45] (l.drop i) w
  have hq2 : Lib.hasPrefix (l.drop i) [45, 45] = true := hq
  rw [← hf] at hbg
  simp only [hq2] at hbg
  clear hq hq2 hf
  have HW := Lib.hid (h.seti (r' := goR 14 r) 2 (.int .i64 14) rfl rfl rfl rfl)
  clear h
  generalize l[i] = c at *
  go_enter Tryz.func14, Tryz.ntmps14
  go_wp2_with (first | (go_at_call 27; refine (hbg _).mono ?_; rintro e w' ⟨rfl, rfl⟩))
  go_ret
  exact ⟨rfl, ⟨_, _, _, _, HW.out⟩, below_set _ (Below.refl _ _)⟩
set_option maxHeartbeats 2000000 in
set_option maxRecDepth 100000 in
theorem bang_no (R : Nat) (l : List UInt8) (hl : l.length ≤ 65536) (r : Rd) (i : Nat) (hi : i < l.length) (w : World) (h : RdM R l r w) (_ : Sz r) (hst : r.st = 12) (hq : [45, 45].isPrefixOf (l.drop i) = false) :
    Calls Tryz.prog 14 #[.pointer (some ⟨R, 0, none⟩), .int .i64 (i : Int)] w fun e w' => e = .returned (.int .i64 0) ∧ RdM R l (goR 13 r) w' ∧ Below R w w' := by
  have hsz : ((S l).size : Int) = (l.length : Int) := by rw [size_S]
  have hx := at_T l i hi
  have j0 : (0 : Int) ≤ (i : Int) := by omega
  have j1 : (i : Int) < (l.length : Int) := by omega
  have jl : (l.length : Int) ≤ 65536 := by omega
  obtain ⟨vo, vt, va, ps, h⟩ := h
  have c0 : w.cell? ⟨R, 0, none⟩ = some (.string (S l)) := (h.cell 0).trans rfl
  have c2 : w.cell? ⟨R, 2, none⟩ = some (.int .i64 12) := (h.cell 2).trans (by show some (Value.int .i64 (r.st : Int)) = _; rw [hst]; rfl)
  clear hst
  have z2 := h.froz 2
  have hRw : R ≤ w.heap.size := Nat.le_of_lt h.lt
  have hRlt : R < w.heap.size := h.lt
  have j2 : (i : Int) ≤ (l.length : Int) := by omega
  have hf : (S l).extract i l.length = S (l.drop i) := by have := Crf.cutFrom (S l) i; rw [size_S, list_S] at this; exact this
  have hbg := fun w => Crf.rbegins_c [45, 45] (l.drop i) w
  have hq2 : Lib.hasPrefix (l.drop i) [45, 45] = false := hq
  rw [← hf] at hbg
  simp only [hq2] at hbg
  clear hq hq2 hf
  have HW := Lib.hid (h.seti (r' := goR 13 r) 2 (.int .i64 13) rfl rfl rfl rfl)
  clear h
  generalize l[i] = c at *
  go_enter Tryz.func14, Tryz.ntmps14
  go_wp2_with (first | (go_at_call 27; refine (hbg _).mono ?_; rintro e w' ⟨rfl, rfl⟩))
  go_ret
  exact ⟨rfl, ⟨_, _, _, _, HW.out⟩, below_set _ (Below.refl _ _)⟩
set_option maxHeartbeats 2000000 in
set_option maxRecDepth 100000 in
theorem comment_no (R : Nat) (l : List UInt8) (hl : l.length ≤ 65536) (r : Rd) (i : Nat) (hi : i < l.length) (w : World) (h : RdM R l r w) (hz : Sz r) (hst : r.st = 14) (hq : [45, 45, 62].isPrefixOf (l.drop i) = false) :
    Calls Tryz.prog 14 #[.pointer (some ⟨R, 0, none⟩), .int .i64 (i : Int)] w fun e w' => e = .returned (.int .i64 1) ∧ RdM R l (addT l[i] r) w' ∧ Below R w w' := by
  have hsz : ((S l).size : Int) = (l.length : Int) := by rw [size_S]
  have hx := at_T l i hi
  have j0 : (0 : Int) ≤ (i : Int) := by omega
  have j1 : (i : Int) < (l.length : Int) := by omega
  have jl : (l.length : Int) ≤ 65536 := by omega
  obtain ⟨vo, vt, va, ps, h⟩ := h
  have c0 : w.cell? ⟨R, 0, none⟩ = some (.string (S l)) := (h.cell 0).trans rfl
  have c2 : w.cell? ⟨R, 2, none⟩ = some (.int .i64 14) := (h.cell 2).trans (by show some (Value.int .i64 (r.st : Int)) = _; rw [hst]; rfl)
  clear hst
  have z2 := h.froz 2
  have hRw : R ≤ w.heap.size := Nat.le_of_lt h.lt
  have hRlt : R < w.heap.size := h.lt
  have j2 : (i : Int) ≤ (l.length : Int) := by omega
  have hf : (S l).extract i l.length = S (l.drop i) := by have := Crf.cutFrom (S l) i; rw [size_S, list_S] at this; exact this
  have hbg := fun w => Crf.rbegins_c [45, 45, 62] (l.drop i) w
  have hq2 : Lib.hasPrefix (l.drop i) [45, 45, 62] = false := hq
  rw [← hf] at hbg
  simp only [hq2] at hbg
  clear hq hq2 hf
  obtain ⟨i0, hi0, hz0, hz1, hz2⟩ := info_parts Mem.info_u8
  have hzt : r.tx.length ≤ 134217728 := hz.2.2.2.2.2.1
  have c3 : w.cell? ⟨R, 3, none⟩ = some vt := (h.cell 3).trans rfl
  have HW := Lib.hid h
  clear h
  generalize l[i] = c at *
  go_enter Tryz.func14, Tryz.ntmps14
  go_wp2_with (first
    | (go_at_call 27; refine (hbg _).mono ?_; rintro e w' ⟨rfl, rfl⟩)
    | (at_builtin; refine wpList_append_own_at _ rfl _ _ 42 rfl (R + 1) 5 i0 _ 1 1 Tryz.underlying42 hi0 hz0 hz1 hz2 rfl (by decide) _ _ _ rfl (HW.out.txt.alloc _) ⟨w.heap.size, 0, none⟩ 1 1 [Mem.bv c] rfl rfl (push_cells (cs := [Mem.bv c])) (fun u hu => by rw [List.mem_singleton] at hu; subst hu; rfl) (by unfold maxLen; omega) (by omega) (by simp; omega) ?_))
  intro v' w3 hown hg _ hat
  obtain ⟨p1, p2, p3, p4⟩ := HW.out.pushT c _ hown hg hat
  obtain ⟨vp, vj, vc, rfl⟩ := own_slice hown
  have HP := Lib.hid (And.intro p1 p2)
  clear p1 p2 hown hg hat
  go_wp2_with fail
  go_ret
  exact ⟨rfl, ⟨_, _, _, _, HP.out.1⟩, HP.out.2⟩
end Go.Proofs.YtidfcajhmldieaaGreat.Tok

/-
  Contracts of the page's reader's outside at the end of a remark.
-/
namespace Go.Proofs.YtidfcajhmldieaaGreat.Tok
open Go.RowKit Go.Proofs.YtidfcajhmldieaaGreat.Oct Go.Proofs.YtidfcajhmldieaaGreat.Utf Go.Proofs.YtidfcajhmldieaaGreat.Crf Go.Proofs.YtidfcajhmldieaaGreat.Tab Go.Proofs.YtidfcajhmldieaaGreat.Mem

set_option maxHeartbeats 2000000 in
set_option maxRecDepth 100000 in
theorem comment_yes (R : Nat) (l : List UInt8) (hl : l.length ≤ 65536) (r : Rd) (i : Nat) (hi : i < l.length) (w : World) (h : RdM R l r w) (hz : Sz r) (hst : r.st = 14) (hq : [45, 45, 62].isPrefixOf (l.drop i) = true) :
    Calls Tryz.prog 14 #[.pointer (some ⟨R, 0, none⟩), .int .i64 (i : Int)] w fun e w' => e = .returned (.int .i64 3) ∧ RdM R l { r with out := r.out ++ [⟨4, [], r.tx, [], false⟩], tx := [], st := 0 } w' ∧ Below R w w' := by
  have hsz : ((S l).size : Int) = (l.length : Int) := by rw [size_S]
  have hx := at_T l i hi
  have j0 : (0 : Int) ≤ (i : Int) := by omega
  have j1 : (i : Int) < (l.length : Int) := by omega
  have jl : (l.length : Int) ≤ 65536 := by omega
  obtain ⟨vo, vt, va, ps, h⟩ := h
  have c0 : w.cell? ⟨R, 0, none⟩ = some (.string (S l)) := (h.cell 0).trans rfl
  have c2 : w.cell? ⟨R, 2, none⟩ = some (.int .i64 14) := (h.cell 2).trans (by show some (Value.int .i64 (r.st : Int)) = _; rw [hst]; rfl)
  have HS := Lib.hid hst
  clear hst
  have z2 := h.froz 2
  have hRw : R ≤ w.heap.size := Nat.le_of_lt h.lt
  have hRlt : R < w.heap.size := h.lt
  have j2 : (i : Int) ≤ (l.length : Int) := by omega
  have hf : (S l).extract i l.length = S (l.drop i) := by have := Crf.cutFrom (S l) i; rw [size_S, list_S] at this; exact this
  have hbg := fun w => Crf.rbegins_c [45, 45, 62] (l.drop i) w
  have hq2 : Lib.hasPrefix (l.drop i) [45, 45, 62] = true := hq
  rw [← hf] at hbg
  simp only [hq2] at hbg
  clear hq hq2 hf
  obtain ⟨i0, hi0, hz0, hz1, hz2⟩ := info_parts info_tok
  have ho : ps.length ≤ 134217728 := by have h1 := congrArg List.length h.outs; rw [List.length_map] at h1; have h2 := hz.1; omega
  have c1 : w.cell? ⟨R, 1, none⟩ = some vo := (h.cell 1).trans rfl
  have c3 : w.cell? ⟨R, 3, none⟩ = some vt := (h.cell 3).trans rfl
  have hcv := Mem.conv_own h.txt
  have HW := Lib.hid h
  have hR1 : R + 1 ≤ w.heap.size := h.lt
  have HCell : Hid (∀ (w : World) (X : ByteArray), X = S r.tx → ∀ j u, (tkCs (⟨4, [], r.tx, [], false⟩, .slice none 0 0))[j]? = some u → (w.alloc (.cells #[.int .i64 4, .string ⟨#[]⟩, .string X, .slice none 0 0, .bool false] 29)).cell? ((⟨w.heap.size, 0, none⟩ : Addr).add j) = some u) := fun w X hX j u hj => by
    subst hX
    exact push_cells (cs := tkCs (⟨4, [], r.tx, [], false⟩, .slice none 0 0)) j u hj
  clear h
  have hcd : (convert 42 9 vt).run Tryz.prog w.drew = .ok (.string (S r.tx)) w.drew := Mem.conv_own (w := w.drew) HW.out.txt
  have hRWW : R < w.heap.size := hR1
  generalize l[i] = c at *
  go_enter Tryz.func14, Tryz.ntmps14
  go_wp2_with (first | (go_at_call 27; refine (hbg _).mono ?_; rintro e w' ⟨rfl, rfl⟩))
  go_region_law (first
    | (refine step_append_lies _ rfl (.tmp 155) (.tmp 162) 23 rfl (R + 1) 29 i0 _ 5 72 Tryz.underlying23 hi0 hz0 hz1 hz2 rfl (by omega) vo ps.length (ps.flatMap tkCs) (by simp [Act.eval]) (HW.out.out.alloc _) ⟨w.heap.size, 0, none⟩ 1 1 (tkCs (⟨4, [], r.tx, [], false⟩, .slice none 0 0)) (by simp [Act.eval]) rfl (push_cells (cs := tkCs (⟨4, [], r.tx, [], false⟩, .slice none 0 0))) (push_tok rfl) (by omega) (by unfold maxLen; omega) (by omega) (by simp; omega) (w.heap.size + 1) (by simp) ?_; intro g cp wB hownB hgB hatB hltB; obtain ⟨p1, p2, p3, p4⟩ := HW.out.push (⟨4, [], r.tx, [], false⟩, .slice none 0 0) (World.ownsRow_nil _ _ _ _) ⟨nil_sep _, nil_sep _, nil_sep _⟩ _ hownB (grown_drew hgB) (hatB.imp Eq.symm (congrArg some)); have HP := Lib.hid (And.intro p1 p2); clear p1 p2 hownB hgB hatB hltB))
  all_goals
    have d3 : _ = some vt := (HP.out.1.cell 3).trans rfl
    have d2 : _ = some (Value.int .i64 14) := (HP.out.1.cell 2).trans (by show some (Value.int .i64 (r.st : Int)) = _; rw [HS.out]; rfl)
    have x3 := HP.out.1.froz 3
    have x2 := HP.out.1.froz 2
    go_wp2_with fail
    go_ret
    exact ⟨rfl, ⟨_, _, _, _, HP.out.1.clear.seti (r' := { r with out := r.out ++ [⟨4, [], r.tx, [], false⟩], tx := [], st := 0 }) 2 _ rfl rfl rfl rfl⟩, below_set _ (below_set _ HP.out.2)⟩
end Go.Proofs.YtidfcajhmldieaaGreat.Tok

/-
  Contract of the page's Name: is it a name?; it changes nothing.
-/
namespace Go.Proofs.YtidfcajhmldieaaGreat.Oct
open Go.RowKit

/-- May the octet at place k stand there in a name? -/
def okAt (s : ByteArray) (k : Nat) : Bool := nameI ((at' s k).toNat : Int) && (k != 0 || !digitI ((at' s k).toNat : Int))

theorem nameB_eq (s : ByteArray) : nameB s.data.toList = (decide (1 ≤ s.size ∧ s.size ≤ 32) && (List.range s.size).all (okAt s)) := by
  unfold nameB
  rw [size_list, ← all_at, at_zero]
  by_cases h : 1 ≤ s.size ∧ s.size ≤ 32
  · rw [decide_eq_true h, Bool.true_and, Bool.true_and, Bool.eq_iff_iff]
    simp only [Bool.and_eq_true, List.all_eq_true, List.mem_range, okAt, Bool.or_eq_true, bne_iff_ne, Bool.not_eq_true']
    constructor
    · rintro ⟨h0, h1⟩ k hk
      refine ⟨h1 k hk, ?_⟩
      by_cases e : k = 0
      · subst e; exact Or.inr h0
      · exact Or.inl e
    · intro H
      refine ⟨?_, fun k hk => (H k hk).1⟩
      rcases (H 0 (by omega)).2 with e | e
      · exact absurd rfl e
      · exact e
  · rw [decide_eq_false h]; rfl

theorem nameB_bad (s : ByteArray) (k : Nat) (hk : k < s.size) (h : okAt s k = false) : nameB s.data.toList = false := by
  rw [nameB_eq]
  have : (List.range s.size).all (okAt s) = false := by
    rw [Bool.eq_false_iff]
    intro H
    have := List.all_eq_true.1 H k (by simpa using hk)
    rw [h] at this
    cases this
  rw [this, Bool.and_false]

theorem nameB_good (s : ByteArray) (h : ∀ k, k < s.size → okAt s k = true) : nameB s.data.toList = decide (1 ≤ s.size ∧ s.size ≤ 32) := by
  rw [nameB_eq]
  have : (List.range s.size).all (okAt s) = true := List.all_eq_true.2 fun k hk => h k (by simpa using hk)
  rw [this, Bool.and_true]

/-- Does p begin s? -/
def beginsB (p s : List UInt8) : Bool := decide (p.length ≤ s.length) && (s.take p.length == p)
end Go.Proofs.YtidfcajhmldieaaGreat.Oct
