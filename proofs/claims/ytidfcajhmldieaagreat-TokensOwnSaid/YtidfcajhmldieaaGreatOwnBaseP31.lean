/-
  Part 31: TokPut, TokTag, TokName.
-/
import Derived.Test.YtidfcajhmldieaaGreatOwnBaseP17
import Derived.Test.YtidfcajhmldieaaGreatOwnBaseP30
import Derived.Test.YtidfcajhmldieaaGreatOwnBaseP10
/-
  Contract of the page's reader's put: the attribute that is on its way.
-/
namespace Go.Proofs.YtidfcajhmldieaaGreat.Tok
open Go.RowKit Go.Proofs.YtidfcajhmldieaaGreat.Oct Go.Proofs.YtidfcajhmldieaaGreat.Utf Go.Proofs.YtidfcajhmldieaaGreat.Crf Go.Proofs.YtidfcajhmldieaaGreat.Tab Go.Proofs.YtidfcajhmldieaaGreat.Mem

set_option maxHeartbeats 2000000 in
set_option maxRecDepth 100000 in
theorem rput_c (R : Nat) (l : List UInt8) (r : Rd) (w : World) (h : RdM R l r w) (hl : r.av.v.length ≤ 134217728) (ho : r.tg.a.length ≤ 134217728) :
    Calls Tryz.prog 25 #[.pointer (some ⟨R, 0, none⟩)] w fun e w' => e = .returned (.tuple #[]) ∧ RdM R l (putR r) w' ∧ Below R w w' := by
  obtain ⟨vo, vt, va, ps, h⟩ := h
  have c10 : w.cell? ⟨R, 10, none⟩ = some (.string (S r.av.v)) := (h.cell 10).trans rfl
  have hdc := fun w => rDecode_c r.av.v hl w
  obtain ⟨i0, hi, hz0, hz1, hz2⟩ := info_parts info_att
  have hR : R ≤ w.heap.size := Nat.le_of_lt h.lt
  have H1 := Lib.hid (fun w1 (hb : Below w.heap.size w w1) => (h.keep hb).seti (r' := { r with av := { r.av with v := decL' r.av.v } }) 10 (.string (S (decL' r.av.v))) rfl rfl rfl rfl)
  have HC1 := Lib.hid (fun w1 (hb : Below w.heap.size w w1) => And.intro ((h.keep hb).cell 10) ((h.keep hb).froz 10))
  generalize S r.av.v = T at hdc c10
  clear h
  go_enter Tryz.func25, Tryz.ntmps25
  go_wp2_with fail
  refine (hdc _).mono ?_
  rintro e w1 ⟨rfl, hb1⟩
  have h1 := H1.out w1 hb1
  have c1 : _ = some (Value.string (S r.av.v)) := (HC1.out w1 hb1).1.trans rfl
  have z1 := (HC1.out w1 hb1).2
  have c2 : _ = some va := (h1.cell 7).trans rfl
  have c3 : _ = some (Value.string (S r.av.n)) := (h1.cell 9).trans rfl
  have c4 : _ = some (Value.string (S (decL' r.av.v))) := (h1.cell 10).trans rfl
  have HW1 := Lib.hid h1
  have HB1 := Lib.hid (below_set (i := 10) (.string (S (decL' r.av.v))) (hb1.mono hR))
  clear h1 hb1 hdc H1 HC1 c10
  go_wp2_with fail
  generalize w1.setCell ⟨R, 10, none⟩ (.string (S (decL' r.av.v))) = W at HW1 HB1 c2 c3 c4 ⊢
  have hRW : R < W.heap.size := HW1.out.lt
  clear c1 z1
  go_region_law (first
    | (refine step_append_lies _ rfl (.tmp 17) (.tmp 22) 27 rfl (R + 1) 31 i0 _ 2 32 Tryz.underlying27 hi hz0 hz1 hz2 rfl (by omega) va r.tg.a.length (r.tg.a.flatMap atCs) (by simp [Act.eval]) (HW1.out.att.alloc _) ⟨W.heap.size, 0, none⟩ 1 1 (atCs ⟨r.av.n, decL' r.av.v⟩) (by simp [Act.eval]) rfl (push_cells (cs := atCs ⟨r.av.n, decL' r.av.v⟩)) push_att (by omega) (by unfold maxLen; omega) (by omega) (by simp; omega) (W.heap.size + 1) (by simp) ?_; intro g cp wB hownB hgB hatB hltB; obtain ⟨p1, p2, p3, p4⟩ := HW1.out.pushA ⟨r.av.n, decL' r.av.v⟩ _ hownB (grown_drew hgB) (hatB.imp Eq.symm (congrArg some)); have HP := Lib.hid (And.intro p1 p2); clear p1 p2 hownB hgB hatB hltB))
  all_goals
    have c5 := HP.out.1.cell 9
    have c6 := HP.out.1.cell 10
    have z5 := HP.out.1.froz 9
    have z6 := HP.out.1.froz 10
    go_wp2_with fail
  all_goals
    go_end0
    exact ⟨rfl, ⟨_, _, _, _, (HP.out.1.seti (r' := { r with tg := { r.tg with a := r.tg.a ++ [⟨r.av.n, decL' r.av.v⟩] }, av := ⟨[], decL' r.av.v⟩ }) 9 _ rfl rfl rfl rfl).seti (r' := putR r) 10 _ rfl rfl rfl rfl⟩, below_set _ (below_set _ (HB1.out.trans HP.out.2))⟩
end Go.Proofs.YtidfcajhmldieaaGreat.Tok

/-
  Contracts of the page's low, and of its reader's tag in a name and ahead of an attribute.
-/
namespace Go.Proofs.YtidfcajhmldieaaGreat.Tok
open Go.RowKit Go.Proofs.YtidfcajhmldieaaGreat.Oct Go.Proofs.YtidfcajhmldieaaGreat.Utf Go.Proofs.YtidfcajhmldieaaGreat.Crf Go.Proofs.YtidfcajhmldieaaGreat.Tab Go.Proofs.YtidfcajhmldieaaGreat.Mem

/-- No list of the reader is too long for an append. -/
def Sz (r : Rd) : Prop := r.out.length ≤ 134217728 ∧ r.tg.n.length ≤ 134217728 ∧ r.av.v.length ≤ 134217728 ∧ r.av.n.length ≤ 134217728 ∧ r.tg.a.length ≤ 134217728 ∧ r.tx.length ≤ 134217728 ∧ r.rw.length ≤ 134217728
theorem conv_one (w : World) (c : UInt8) : (convert 42 9 (.slice (some ⟨w.heap.size, 0, none⟩) 1 1)).run Tryz.prog (w.alloc (.cells #[.int .u8 (c.toNat : Int)] 5)) = .ok (.string (S [c])) (w.alloc (.cells #[.int .u8 (c.toNat : Int)] 5)) := by
  refine Mem.conv_own (base := w.heap.size) (n := 1) ?_
  exact ⟨rfl, .inr ⟨w.heap.size, 1, #[.int .u8 (c.toNat : Int)], rfl, Nat.le_refl _, heap_alloc_new w _, Nat.le_refl _, by decide, rfl, rfl⟩⟩
theorem conv_drew (w : World) (c : UInt8) : (convert 42 9 (.slice (some ⟨w.heap.size, 0, none⟩) 1 1)).run Tryz.prog (w.alloc (.cells #[.int .u8 (c.toNat : Int)] 5)).drew = .ok (.string (S [c])) (w.alloc (.cells #[.int .u8 (c.toNat : Int)] 5)).drew := by
  refine Mem.conv_own (base := w.heap.size) (n := 1) ?_
  exact ⟨rfl, .inr ⟨w.heap.size, 1, #[.int .u8 (c.toNat : Int)], rfl, Nat.le_refl _, heap_alloc_new w _, Nat.le_refl _, by decide, rfl, rfl⟩⟩
theorem rlow_c (c : UInt8) (w : World) :
    Calls Tryz.prog 24 #[.int .u8 (c.toNat : Int)] w fun e w' => e = .returned (.string (S [low c])) ∧ Below w.heap.size w w' := by
  have hcv := conv_one w c
  have hl := fun w => rlower_c (S [c]) w (by rw [size_S, List.length_singleton]; omega)
  rw [list_S] at hl
  generalize S [c] = T at hcv hl
  generalize (c.toNat : Int) = n at hcv
  go_enter Tryz.func24, Tryz.ntmps24
  go_wp2_with fail
  refine (hl _).mono ?_
  rintro e w1 ⟨rfl, hb1⟩
  go_wp2_with fail
  go_ret
  exact ⟨rfl, ((Below.refl _ w).alloc (Nat.le_refl _) _).trans (hb1.mono (by simp))⟩
end Go.Proofs.YtidfcajhmldieaaGreat.Tok

/-
  Contracts of the page's reader's tag in a name and ahead of an attribute.
-/
namespace Go.Proofs.YtidfcajhmldieaaGreat.Tok
open Go.RowKit Go.Proofs.YtidfcajhmldieaaGreat.Oct Go.Proofs.YtidfcajhmldieaaGreat.Utf Go.Proofs.YtidfcajhmldieaaGreat.Crf Go.Proofs.YtidfcajhmldieaaGreat.Tab Go.Proofs.YtidfcajhmldieaaGreat.Mem

theorem oct_ne {c : UInt8} {n : Nat} (h : c ≠ n.toUInt8) (hn : n < 256) : ((c.toNat : Int) == (n : Int)) = false := by
  rw [beq_eq_false_iff_ne]
  intro e
  apply h
  apply UInt8.toNat_inj.1
  rw [Nat.toUInt8_eq, UInt8.toNat_ofNat_of_lt' (by show n < 256; exact hn)]
  omega
set_option maxHeartbeats 2000000 in
set_option maxRecDepth 100000 in
theorem name_blank (R : Nat) (l : List UInt8) (r : Rd) (c : UInt8) (w : World) (h : RdM R l r w) (_ : Sz r) (hst : r.st = 3) (hB : blB c = true) :
    Calls Tryz.prog 12 #[.pointer (some ⟨R, 0, none⟩), .int .u8 (c.toNat : Int)] w fun e w' => e = .returned (.bool false) ∧ RdM R l (goR 4 r) w' ∧ Below R w w' := by
  have hcb : (c.toNat : Int) ≤ 255 := by have := c.toNat_lt; omega
  have hbl := fun w => rblank_c (c.toNat : Int) w (by omega) hcb
  have hq : blankI (c.toNat : Int) = true := hB
  simp only [hq] at hbl
  clear hq
  obtain ⟨vo, vt, va, ps, h⟩ := h
  have c2 : w.cell? ⟨R, 2, none⟩ = some (.int .i64 3) := (h.cell 2).trans (by show some (Value.int .i64 (r.st : Int)) = _; rw [hst]; rfl)
  clear hst
  have z2 := h.froz 2
  have hRw : R ≤ w.heap.size := Nat.le_of_lt h.lt
  have HW := Lib.hid (h.seti (r' := goR 4 r) 2 (.int .i64 4) rfl rfl rfl rfl)
  clear h hcb
  generalize (c.toNat : Int) = n at *
  go_enter Tryz.func12, Tryz.ntmps12
  go_wp2_with (first | (go_at_call 22; refine (hbl _).mono ?_; rintro e w' ⟨rfl, rfl⟩))
  go_ret
  exact ⟨rfl, ⟨_, _, _, _, HW.out⟩, below_set _ (Below.refl _ _)⟩
set_option maxHeartbeats 2000000 in
set_option maxRecDepth 100000 in
theorem name_slash (R : Nat) (l : List UInt8) (r : Rd) (c : UInt8) (w : World) (h : RdM R l r w) (_ : Sz r) (hst : r.st = 3) (hB : blB c = false) (h47 : c = 47) :
    Calls Tryz.prog 12 #[.pointer (some ⟨R, 0, none⟩), .int .u8 (c.toNat : Int)] w fun e w' => e = .returned (.bool false) ∧ RdM R l (goR 11 r) w' ∧ Below R w w' := by
  have hcb : (c.toNat : Int) ≤ 255 := by have := c.toNat_lt; omega
  have hbl := fun w => rblank_c (c.toNat : Int) w (by omega) hcb
  have hq : blankI (c.toNat : Int) = false := hB
  simp only [hq] at hbl
  clear hq
  have hb47 : ((c.toNat : Int) == 47) = true := by rw [h47]; rfl
  obtain ⟨vo, vt, va, ps, h⟩ := h
  have c2 : w.cell? ⟨R, 2, none⟩ = some (.int .i64 3) := (h.cell 2).trans (by show some (Value.int .i64 (r.st : Int)) = _; rw [hst]; rfl)
  clear hst
  have z2 := h.froz 2
  have hRw : R ≤ w.heap.size := Nat.le_of_lt h.lt
  have HW := Lib.hid (h.seti (r' := goR 11 r) 2 (.int .i64 11) rfl rfl rfl rfl)
  clear h hcb
  generalize (c.toNat : Int) = n at *
  go_enter Tryz.func12, Tryz.ntmps12
  go_wp2_with (first | (go_at_call 22; refine (hbl _).mono ?_; rintro e w' ⟨rfl, rfl⟩))
  go_ret
  exact ⟨rfl, ⟨_, _, _, _, HW.out⟩, below_set _ (Below.refl _ _)⟩
set_option maxHeartbeats 2000000 in
set_option maxRecDepth 100000 in
theorem name_end (R : Nat) (l : List UInt8) (r : Rd) (c : UInt8) (w : World) (h : RdM R l r w) (hz : Sz r) (hst : r.st = 3) (hB : blB c = false) (h47 : c ≠ 47) (h62 : c = 62) :
    Calls Tryz.prog 12 #[.pointer (some ⟨R, 0, none⟩), .int .u8 (c.toNat : Int)] w fun e w' => e = .returned (.bool false) ∧ RdM R l (endR r) w' ∧ Below R w w' := by
  have hcb : (c.toNat : Int) ≤ 255 := by have := c.toNat_lt; omega
  have hbl := fun w => rblank_c (c.toNat : Int) w (by omega) hcb
  have hq : blankI (c.toNat : Int) = false := hB
  simp only [hq] at hbl
  clear hq
  have hb47 : ((c.toNat : Int) == 47) = false := oct_ne (n := 47) h47 (by decide)
  have hb62 : ((c.toNat : Int) == 62) = true := by rw [h62]; rfl
  obtain ⟨vo, vt, va, ps, h⟩ := h
  have c2 : w.cell? ⟨R, 2, none⟩ = some (.int .i64 3) := (h.cell 2).trans (by show some (Value.int .i64 (r.st : Int)) = _; rw [hst]; rfl)
  clear hst
  have z2 := h.froz 2
  have hRw : R ≤ w.heap.size := Nat.le_of_lt h.lt
  have he := rend_c R l r w ⟨_, _, _, _, h⟩ hz.1
  clear h hcb
  generalize (c.toNat : Int) = n at *
  go_enter Tryz.func12, Tryz.ntmps12
  go_wp2_with (first | (go_at_call 22; refine (hbl _).mono ?_; rintro e w' ⟨rfl, rfl⟩))
  refine he.mono ?_
  rintro e w2 ⟨rfl, h2, hb2⟩
  go_wp2_with fail
  go_ret
  exact ⟨rfl, h2, hb2⟩
set_option maxHeartbeats 2000000 in
set_option maxRecDepth 100000 in
theorem name_add (R : Nat) (l : List UInt8) (r : Rd) (c : UInt8) (w : World) (h : RdM R l r w) (hz : Sz r) (hst : r.st = 3) (hB : blB c = false) (h47 : c ≠ 47) (h62 : c ≠ 62) :
    Calls Tryz.prog 12 #[.pointer (some ⟨R, 0, none⟩), .int .u8 (c.toNat : Int)] w fun e w' => e = .returned (.bool false) ∧ RdM R l { r with tg := { r.tg with n := r.tg.n ++ [low c] } } w' ∧ Below R w w' := by
  have hcb : (c.toNat : Int) ≤ 255 := by have := c.toNat_lt; omega
  have hbl := fun w => rblank_c (c.toNat : Int) w (by omega) hcb
  have hq : blankI (c.toNat : Int) = false := hB
  simp only [hq] at hbl
  clear hq
  have hb47 : ((c.toNat : Int) == 47) = false := oct_ne (n := 47) h47 (by decide)
  have hb62 : ((c.toNat : Int) == 62) = false := oct_ne (n := 62) h62 (by decide)
  obtain ⟨vo, vt, va, ps, h⟩ := h
  have c2 : w.cell? ⟨R, 2, none⟩ = some (.int .i64 3) := (h.cell 2).trans (by show some (Value.int .i64 (r.st : Int)) = _; rw [hst]; rfl)
  clear hst
  have z2 := h.froz 2
  have hRw : R ≤ w.heap.size := Nat.le_of_lt h.lt
  have hlo := fun w => rlow_c c w
  have c5 : w.cell? ⟨R, 5, none⟩ = some (.string (S r.tg.n)) := (h.cell 5).trans rfl
  have z5 := h.froz 5
  have e1 : S r.tg.n ++ S [low c] = S (r.tg.n ++ [low c]) := S_append _ _
  have hz1 : (S r.tg.n).size ≤ 134217728 := by rw [size_S]; exact hz.2.1
  have hz2 : (S [low c]).size ≤ 1 := Nat.le_refl 1
  have HW := Lib.hid h
  have hRlt : R < w.heap.size := h.lt
  clear h hcb
  generalize (c.toNat : Int) = n at *
  obtain ⟨X, hX⟩ : ∃ X, X = S (r.tg.n ++ [low c]) := ⟨_, rfl⟩
  have HX := Lib.hid hX
  rw [← hX] at e1
  clear hX
  generalize S r.tg.n = A at c5 e1 hz1
  generalize S [low c] = L at e1 hz2 hlo
  have hcc : ¬ (9223372036854775807 < A.size + L.size) := by omega
  go_enter Tryz.func12, Tryz.ntmps12
  go_wp2_with (first | (go_at_call 22; refine (hbl _).mono ?_; rintro e w' ⟨rfl, rfl⟩))
  go_region_law (go_simp; go_at_call 24; refine (hlo _).mono ?_; rintro e w2 ⟨rfl, hb0⟩; have hb2 : Below w.heap.size w w2 := ⟨hb0.os, hb0.tape, hb0.output, hb0.size, hb0.block⟩; have d5 : _ = some (Value.string A) := (hb2.cell (p := ⟨R, 5, none⟩) hRlt).trans c5; have x5 := (HW.out.keep hb2).froz 5; have H2 := Lib.hid (And.intro ((HW.out.keep hb2).seti (r' := { r with tg := { r.tg with n := r.tg.n ++ [low c] } }) 5 (.string X) (by rw [HX.out]; rfl) rfl rfl rfl) (below_set (R := R) (i := 5) (.string X) (hb2.mono hRw))); clear hb2 hb0)
  all_goals
    go_wp2_with fail
    go_ret
    first
      | exact ⟨rfl, ⟨_, _, _, _, H2.out.1⟩, H2.out.2⟩
      | exact ⟨rfl, ⟨_, _, _, _, H2.out.1.keep (Below.refl _ _).drew⟩, H2.out.2.drew⟩
set_option maxHeartbeats 2000000 in
set_option maxRecDepth 100000 in
theorem before_blank (R : Nat) (l : List UInt8) (r : Rd) (c : UInt8) (w : World) (h : RdM R l r w) (_ : Sz r) (hst : r.st = 4) (hB : blB c = true) :
    Calls Tryz.prog 12 #[.pointer (some ⟨R, 0, none⟩), .int .u8 (c.toNat : Int)] w fun e w' => e = .returned (.bool false) ∧ RdM R l r w' ∧ Below R w w' := by
  have hcb : (c.toNat : Int) ≤ 255 := by have := c.toNat_lt; omega
  have hbl := fun w => rblank_c (c.toNat : Int) w (by omega) hcb
  have hq : blankI (c.toNat : Int) = true := hB
  simp only [hq] at hbl
  clear hq
  obtain ⟨vo, vt, va, ps, h⟩ := h
  have c2 : w.cell? ⟨R, 2, none⟩ = some (.int .i64 4) := (h.cell 2).trans (by show some (Value.int .i64 (r.st : Int)) = _; rw [hst]; rfl)
  clear hst
  have z2 := h.froz 2
  have hRw : R ≤ w.heap.size := Nat.le_of_lt h.lt
  have HW := Lib.hid h
  clear h hcb
  generalize (c.toNat : Int) = n at *
  go_enter Tryz.func12, Tryz.ntmps12
  go_wp2_with (first | (go_at_call 22; refine (hbl _).mono ?_; rintro e w' ⟨rfl, rfl⟩))
  go_ret
  exact ⟨rfl, ⟨_, _, _, _, HW.out⟩, Below.refl _ _⟩
set_option maxHeartbeats 2000000 in
set_option maxRecDepth 100000 in
theorem before_slash (R : Nat) (l : List UInt8) (r : Rd) (c : UInt8) (w : World) (h : RdM R l r w) (_ : Sz r) (hst : r.st = 4) (hB : blB c = false) (h47 : c = 47) :
    Calls Tryz.prog 12 #[.pointer (some ⟨R, 0, none⟩), .int .u8 (c.toNat : Int)] w fun e w' => e = .returned (.bool false) ∧ RdM R l (goR 11 r) w' ∧ Below R w w' := by
  have hcb : (c.toNat : Int) ≤ 255 := by have := c.toNat_lt; omega
  have hbl := fun w => rblank_c (c.toNat : Int) w (by omega) hcb
  have hq : blankI (c.toNat : Int) = false := hB
  simp only [hq] at hbl
  clear hq
  have hb47 : ((c.toNat : Int) == 47) = true := by rw [h47]; rfl
  obtain ⟨vo, vt, va, ps, h⟩ := h
  have c2 : w.cell? ⟨R, 2, none⟩ = some (.int .i64 4) := (h.cell 2).trans (by show some (Value.int .i64 (r.st : Int)) = _; rw [hst]; rfl)
  clear hst
  have z2 := h.froz 2
  have hRw : R ≤ w.heap.size := Nat.le_of_lt h.lt
  have HW := Lib.hid (h.seti (r' := goR 11 r) 2 (.int .i64 11) rfl rfl rfl rfl)
  clear h hcb
  generalize (c.toNat : Int) = n at *
  go_enter Tryz.func12, Tryz.ntmps12
  go_wp2_with (first | (go_at_call 22; refine (hbl _).mono ?_; rintro e w' ⟨rfl, rfl⟩))
  go_ret
  exact ⟨rfl, ⟨_, _, _, _, HW.out⟩, below_set _ (Below.refl _ _)⟩
set_option maxHeartbeats 2000000 in
set_option maxRecDepth 100000 in
theorem before_end (R : Nat) (l : List UInt8) (r : Rd) (c : UInt8) (w : World) (h : RdM R l r w) (hz : Sz r) (hst : r.st = 4) (hB : blB c = false) (h47 : c ≠ 47) (h62 : c = 62) :
    Calls Tryz.prog 12 #[.pointer (some ⟨R, 0, none⟩), .int .u8 (c.toNat : Int)] w fun e w' => e = .returned (.bool false) ∧ RdM R l (endR r) w' ∧ Below R w w' := by
  have hcb : (c.toNat : Int) ≤ 255 := by have := c.toNat_lt; omega
  have hbl := fun w => rblank_c (c.toNat : Int) w (by omega) hcb
  have hq : blankI (c.toNat : Int) = false := hB
  simp only [hq] at hbl
  clear hq
  have hb47 : ((c.toNat : Int) == 47) = false := oct_ne (n := 47) h47 (by decide)
  have hb62 : ((c.toNat : Int) == 62) = true := by rw [h62]; rfl
  obtain ⟨vo, vt, va, ps, h⟩ := h
  have c2 : w.cell? ⟨R, 2, none⟩ = some (.int .i64 4) := (h.cell 2).trans (by show some (Value.int .i64 (r.st : Int)) = _; rw [hst]; rfl)
  clear hst
  have z2 := h.froz 2
  have hRw : R ≤ w.heap.size := Nat.le_of_lt h.lt
  have he := rend_c R l r w ⟨_, _, _, _, h⟩ hz.1
  clear h hcb
  generalize (c.toNat : Int) = n at *
  go_enter Tryz.func12, Tryz.ntmps12
  go_wp2_with (first | (go_at_call 22; refine (hbl _).mono ?_; rintro e w' ⟨rfl, rfl⟩))
  refine he.mono ?_
  rintro e w2 ⟨rfl, h2, hb2⟩
  go_wp2_with fail
  go_ret
  exact ⟨rfl, h2, hb2⟩
set_option maxHeartbeats 2000000 in
set_option maxRecDepth 100000 in
theorem before_add (R : Nat) (l : List UInt8) (r : Rd) (c : UInt8) (w : World) (h : RdM R l r w) (_ : Sz r) (hst : r.st = 4) (hB : blB c = false) (h47 : c ≠ 47) (h62 : c ≠ 62) :
    Calls Tryz.prog 12 #[.pointer (some ⟨R, 0, none⟩), .int .u8 (c.toNat : Int)] w fun e w' => e = .returned (.bool false) ∧ RdM R l { r with st := 5, av := ⟨[low c], []⟩ } w' ∧ Below R w w' := by
  have hcb : (c.toNat : Int) ≤ 255 := by have := c.toNat_lt; omega
  have hbl := fun w => rblank_c (c.toNat : Int) w (by omega) hcb
  have hq : blankI (c.toNat : Int) = false := hB
  simp only [hq] at hbl
  clear hq
  have hb47 : ((c.toNat : Int) == 47) = false := oct_ne (n := 47) h47 (by decide)
  have hb62 : ((c.toNat : Int) == 62) = false := oct_ne (n := 62) h62 (by decide)
  obtain ⟨vo, vt, va, ps, h⟩ := h
  have c2 : w.cell? ⟨R, 2, none⟩ = some (.int .i64 4) := (h.cell 2).trans (by show some (Value.int .i64 (r.st : Int)) = _; rw [hst]; rfl)
  clear hst
  have z2 := h.froz 2
  have hRw : R ≤ w.heap.size := Nat.le_of_lt h.lt
  have hlo := fun w => rlow_c c w
  have hRlt : R < w.heap.size := h.lt
  have HW := Lib.hid h
  clear h hcb
  generalize (c.toNat : Int) = n at *
  obtain ⟨X, hX⟩ : ∃ X, X = S [low c] := ⟨_, rfl⟩
  have HX := Lib.hid hX
  rw [← hX] at hlo
  clear hX
  go_enter Tryz.func12, Tryz.ntmps12
  go_wp2_with (first | (go_at_call 22; refine (hbl _).mono ?_; rintro e w' ⟨rfl, rfl⟩))
  refine (hlo _).mono ?_
  rintro e w2 ⟨rfl, hb2⟩
  have k2 := HW.out.keep hb2
  have d2 : _ = some (Value.int .i64 4) := (hb2.cell (p := ⟨R, 2, none⟩) hRlt).trans c2
  have d9 : _ = some (Value.string (S r.av.n)) := (k2.cell 9).trans rfl
  have d10 : _ = some (Value.string (S r.av.v)) := (k2.cell 10).trans rfl
  have x2 := k2.froz 2
  have x9 := k2.froz 9
  have x10 := k2.froz 10
  have H2 := Lib.hid (And.intro (((k2.seti (r' := goR 5 r) 2 (.int .i64 5) rfl rfl rfl rfl).seti (r' := { r with st := 5, av := ⟨[low c], r.av.v⟩ }) 9 (.string X) (by rw [HX.out]; rfl) rfl rfl rfl).seti (r' := { r with st := 5, av := ⟨[low c], []⟩ }) 10 (.string ⟨#[]⟩) rfl rfl rfl rfl) (below_set (R := R) (i := 10) (.string ⟨#[]⟩) (below_set (R := R) (i := 9) (.string X) (below_set (R := R) (i := 2) (.int .i64 5) (hb2.mono hRw)))))
  clear hb2 k2
  go_wp2_with fail
  go_ret
  exact ⟨rfl, ⟨_, _, _, _, H2.out.1⟩, H2.out.2⟩
end Go.Proofs.YtidfcajhmldieaaGreat.Tok
