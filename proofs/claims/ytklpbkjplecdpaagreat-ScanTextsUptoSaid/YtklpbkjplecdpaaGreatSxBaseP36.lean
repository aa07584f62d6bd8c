/-
  Part 36: TokRawEnd.
-/
import Derived.Test.YtklpbkjplecdpaaGreatSxBaseP35
import Derived.Test.YtklpbkjplecdpaaGreatSxBaseP34
import Derived.Test.YtklpbkjplecdpaaGreatSxBaseP5
import Derived.Deep.RegionHeld3
/-
  Contracts of the page's reader's outside in raw text where it ends.
-/
namespace Go.Proofs.YtklpbkjplecdpaaGreat.Tok
open Go.RowKit Oct Utf Crf Tab Mem

theorem RdW.newTagN {R : Nat} {l : List UInt8} {r : Rd} {vo vt va : Value} {ps : List (Tk × Value)} {w : World} (h : RdW R l r vo vt va ps w) (k : Int) (nm : List UInt8) :
    RdW R l { r with st := 3, tg := { noTk with k := k, n := nm } } vo vt (.slice none 0 0) ps ((((((w.setCell ⟨R, 2, none⟩ (.int .i64 3)).setCell ⟨R, 4, none⟩ (.int .i64 k)).setCell ⟨R, 5, none⟩ (.string (S nm))).setCell ⟨R, 6, none⟩ (.string ⟨#[]⟩)).setCell ⟨R, 7, none⟩ (.slice none 0 0)).setCell ⟨R, 8, none⟩ (.bool false)) where
  box := box_set 8 (.bool false) (box_set 7 (.slice none 0 0) (box_set 6 (.string ⟨#[]⟩) (box_set 5 (.string (S nm)) (box_set 4 (.int .i64 k) (box_set 2 (.int .i64 3) h.box)))))
  out := own_set (own_set (own_set (own_set (own_set (own_set h.out)))))
  outs := h.outs
  txt := own_set (own_set (own_set (own_set (own_set (own_set h.txt)))))
  att := World.ownsRow_nil _ _ _ _
  ats := fun p hp => own_set (own_set (own_set (own_set (own_set (own_set (h.ats p hp))))))
  s1 := h.s1
  s2 := sep_nil _
  s3 := sep_nil _
  s4 := fun p hp => ⟨(h.s4 p hp).1, (h.s4 p hp).2.1, sep_nil _⟩

set_option maxHeartbeats 4000000 in
set_option maxRecDepth 100000 in
theorem raw_yes1 (R : Nat) (l : List UInt8) (hl : l.length ≤ 65536) (r : Rd) (i : Nat) (hi : i < l.length) (w : World) (h : RdM R l r w) (hz : Sz r) (hst : r.st = 15) (hq : startsB (l.drop i) (60 :: 47 :: r.rw) = true) (hn : i + 2 + r.rw.length < l.length) (hB : blB l[i + 2 + r.rw.length] = true) :
    Calls Tryz.prog 27 #[.pointer (some ⟨R, 0, none⟩), .int .i64 (i : Int)] w fun e w' => e = .returned (.int .i64 (2 + r.rw.length : Nat)) ∧ RdM R l { textR (r.kd == 1) r with st := 3, tg := { noTk with k := 2, n := ((l.drop (i + 2)).take r.rw.length).map low } } w' ∧ Below R w w' := by
  obtain ⟨r2, hr2⟩ : ∃ r2, r2 = textR (r.kd == 1) r := ⟨_, rfl⟩
  obtain ⟨nm, hnm⟩ : ∃ nm, nm = ((l.drop (i + 2)).take r.rw.length).map low := ⟨_, rfl⟩
  rw [← hr2, ← hnm]
  have HR2 := Lib.hid hr2
  have HNM := Lib.hid hnm
  clear hr2 hnm
  have hsz : ((S l).size : Int) = (l.length : Int) := by rw [size_S]
  have hx := at_T l i hi
  have j0 : (0 : Int) ≤ (i : Int) := by omega
  have j1 : (i : Int) < (l.length : Int) := by omega
  have jl : (l.length : Int) ≤ 65536 := by omega
  obtain ⟨vo, vt, va, ps, h⟩ := h
  have c0 : w.cell? ⟨R, 0, none⟩ = some (.string (S l)) := (h.cell 0).trans rfl
  have c2 : w.cell? ⟨R, 2, none⟩ = some (.int .i64 15) := (h.cell 2).trans (by show some (Value.int .i64 (r.st : Int)) = _; rw [hst]; rfl)
  clear hst
  have z2 := h.froz 2
  have hRw : R ≤ w.heap.size := Nat.le_of_lt h.lt
  have hRlt : R < w.heap.size := h.lt
  have c12 : w.cell? ⟨R, 12, none⟩ = some (.string (S r.rw)) := (h.cell 12).trans rfl
  have hrw : r.rw.length ≤ 134217728 := hz.2.2.2.2.2.2
  have hrz : ((S r.rw).size : Int) = (r.rw.length : Int) := by rw [size_S]
  have hrn : (S r.rw).size ≤ 134217728 := by rw [size_S]; exact hrw
  have j2 : (i : Int) ≤ (l.length : Int) := by omega
  have hf : (S l).extract i l.length = S (l.drop i) := by have := Crf.cutFrom (S l) i; rw [size_S, list_S] at this; exact this
  have e1 : (⟨#[60, 47]⟩ : ByteArray) ++ S r.rw = S (60 :: 47 :: r.rw) := S_append [60, 47] r.rw
  have hst2 := fun w => rstarts_c (S (l.drop i)) (S (60 :: 47 :: r.rw)) w (by rw [size_S, List.length_drop]; omega) (by rw [size_S, List.length_cons, List.length_cons]; omega)
  have hq2 : startsB (S (l.drop i)).data.toList (S (60 :: 47 :: r.rw)).data.toList = true := by rw [list_S, list_S]; exact hq
  simp only [hq2] at hst2
  rw [← hf] at hst2
  have HW0 := Lib.hid h
  clear hq hq2 hf
  have hy := at_T l (i + 2 + r.rw.length) hn
  have n0 : (0 : Int) ≤ (i : Int) + 2 + (r.rw.length : Int) := by omega
  have n1 : (i : Int) + 2 + (r.rw.length : Int) < (l.length : Int) := by omega
  have n1b : decide ((i : Int) + 2 + (r.rw.length : Int) < (l.length : Int)) = true := decide_eq_true n1
  have nt : ((i : Int) + 2 + (r.rw.length : Int)).toNat = i + 2 + r.rw.length := by omega
  have ndb : ((l[i + 2 + r.rw.length]).toNat : Int) ≤ 255 := by have := (l[i + 2 + r.rw.length]).toNat_lt; omega
  have hbl := fun w => rblank_c ((l[i + 2 + r.rw.length]).toNat : Int) w (by omega) ndb
  have hqb : blankI ((l[i + 2 + r.rw.length]).toNat : Int) = true := hB
  simp only [hqb] at hbl
  clear hqb hB
  generalize l[i + 2 + r.rw.length] = d at *
  obtain ⟨i0, hi0, hz0, hz1, hz2⟩ := info_parts Mem.info_u8
  have hzt : r.tx.length ≤ 134217728 := hz.2.2.2.2.2.1
  obtain ⟨Rw, hRw2⟩ : ∃ Rw, Rw = S r.rw := ⟨_, rfl⟩
  have HRw : Hid (S r.rw = Rw) := hRw2.symm
  rw [← hRw2] at c12 e1 hrz hrn
  clear hRw2 h
  generalize S (60 :: 47 :: r.rw) = P at hst2 e1
  have hcc : ¬ (9223372036854775807 < (⟨#[60, 47]⟩ : ByteArray).size + Rw.size) := by show ¬ (9223372036854775807 < 2 + Rw.size); omega
  have hcc2 : ¬ (9223372036854775807 < 2 + Rw.size) := hcc
  generalize l[i] = c at *
  go_enter Tryz.func27, Tryz.ntmps27
  go_wp2_with fail
  have k0 : w.drew.cell? ⟨R, 12, none⟩ = some (.string Rw) := c12
  refine wp_region_held_drew (S := (fun w' => w'.cell? ⟨R, 12, none⟩ = some (.string Rw))) (by kernel_rfl) k0 (fun hHeld => ?_)
  refine wpAnyH_take (i := 0) (v := ?_) rfl (by kernel_rfl) (by kernel_rfl) (by kernel_rfl) (fun _ _ _ h => h) (Or.inl ⟨by kernel_rfl, ?_⟩) (by assumption) ?_
  rotate_left
  · intro w hSw
    try dsimp only at hSw
    go_simp
    try with_reducible rfl
  (try simp only [List.getElem_toArray, List.getElem_cons_zero, Act.put, List.setIfInBounds_toArray, List.set_cons_succ, List.set_cons_zero])
  refine wpAnyH_take (i := 1) (v := ?_) rfl (by kernel_rfl) (by kernel_rfl) (by kernel_rfl) (fun _ _ _ h => h) (Or.inl ⟨by kernel_rfl, ?_⟩) (by assumption) ?_
  rotate_left
  · intro w hSw
    try dsimp only at hSw
    go_simp
    try with_reducible rfl
  (try simp only [List.getElem_toArray, List.getElem_cons_succ, List.getElem_cons_zero, Act.put, List.setIfInBounds_toArray, List.set_cons_succ, List.set_cons_zero])
  refine wpAnyH_take (i := 2) (v := ?_) rfl (by kernel_rfl) (by kernel_rfl) (by kernel_rfl) (fun _ _ _ h => h) (Or.inl ⟨by kernel_rfl, ?_⟩) (by assumption) ?_
  rotate_left
  · intro w hSw
    try dsimp only at hSw
    go_simp
    try with_reducible rfl
  (try simp only [List.getElem_toArray, List.getElem_cons_succ, List.getElem_cons_zero, Act.put, List.setIfInBounds_toArray, List.set_cons_succ, List.set_cons_zero])
  refine wpAnyH_take (i := 3) (v := ?_) rfl (by kernel_rfl) (by kernel_rfl) (by kernel_rfl) (fun _ _ _ h => h) (Or.inl ⟨by kernel_rfl, ?_⟩) (by assumption) ?_
  rotate_left
  · intro w hSw
    try dsimp only at hSw
    go_simp
    try with_reducible rfl
  (try simp only [List.getElem_toArray, List.getElem_cons_succ, List.getElem_cons_zero, Act.put, List.setIfInBounds_toArray, List.set_cons_succ, List.set_cons_zero])
  refine wpAnyH_take (i := 4) (v := ?_) rfl (by kernel_rfl) (by kernel_rfl) (by kernel_rfl) (fun _ _ _ h => h) (Or.inl ⟨by kernel_rfl, ?_⟩) (by assumption) ?_
  rotate_left
  · intro w hSw
    try dsimp only at hSw
    go_simp
    try with_reducible rfl
  (try simp only [List.getElem_toArray, List.getElem_cons_succ, List.getElem_cons_zero, Act.put, List.setIfInBounds_toArray, List.set_cons_succ, List.set_cons_zero])
  refine wpAnyH_take (i := 5) (v := ?_) rfl (by kernel_rfl) (by kernel_rfl) (by kernel_rfl) (fun _ _ _ h => h) (Or.inl ⟨by kernel_rfl, ?_⟩) (by assumption) ?_
  rotate_left
  · intro w hSw
    try dsimp only at hSw
    go_simp
    try with_reducible rfl
  (try simp only [List.getElem_toArray, List.getElem_cons_succ, List.getElem_cons_zero, Act.put, List.setIfInBounds_toArray, List.set_cons_succ, List.set_cons_zero])
  refine wpAnyH_take (i := 6) (v := ?_) rfl (by kernel_rfl) (by kernel_rfl) (by kernel_rfl) (fun _ _ _ h => h) (Or.inl ⟨by kernel_rfl, ?_⟩) (by assumption) ?_
  rotate_left
  · intro w hSw
    try dsimp only at hSw
    go_simp
    try with_reducible rfl
  (try simp only [List.getElem_toArray, List.getElem_cons_succ, List.getElem_cons_zero, Act.put, List.setIfInBounds_toArray, List.set_cons_succ, List.set_cons_zero])
  refine wpAnyH_take (i := 7) (v := ?_) rfl (by kernel_rfl) (by kernel_rfl) (by kernel_rfl) (fun _ _ _ h => h) (Or.inl ⟨by kernel_rfl, ?_⟩) (by assumption) ?_
  rotate_left
  · intro w hSw
    try dsimp only at hSw
    go_simp
    try with_reducible rfl
  (try simp only [List.getElem_toArray, List.getElem_cons_succ, List.getElem_cons_zero, Act.put, List.setIfInBounds_toArray, List.set_cons_succ, List.set_cons_zero])
  refine wpAnyH_ready (rs := [8]) (by kernel_rfl) (by simp) ?_
  refine AllReadyH.cons rfl (fun K hK => ?_) AllReadyH.nil
  go_simp
  refine (hst2 _).mono ?_
  rintro e w1 ⟨rfl, hb0⟩
  have hb1 : Below w.heap.size w w1 := ⟨hb0.os, hb0.tape, hb0.output, hb0.size, hb0.block⟩
  have HW := Lib.hid (HW0.out.keep hb1)
  have HB1 := Lib.hid (hb1.mono hRw)
  have d12 : w1.cell? ⟨R, 12, none⟩ = some (.string Rw) := (HW.out.cell 12).trans (by rw [← HRw.out]; rfl)
  have c3 : w1.cell? ⟨R, 3, none⟩ = some vt := (HW.out.cell 3).trans rfl
  have hR1 : R < w1.heap.size := HW.out.lt
  refine hK.out _ _ d12 (fun hHeld2 => ?_)
  clear hK K hHeld hb0 hb1
  (try simp only [List.getElem_toArray, List.getElem_cons_succ, List.getElem_cons_zero, Act.put, List.setIfInBounds_toArray, List.set_cons_succ, List.set_cons_zero])
  refine wpAnyH_take (i := 9) (v := ?_) rfl (by kernel_rfl) (by kernel_rfl) (by kernel_rfl) (fun _ _ _ h => h) (Or.inl ⟨by kernel_rfl, ?_⟩) (by assumption) ?_
  rotate_left
  · intro w hSw
    try dsimp only at hSw
    go_simp
    try with_reducible rfl
  (try simp only [List.getElem_toArray, List.getElem_cons_succ, List.getElem_cons_zero, Act.put, List.setIfInBounds_toArray, List.set_cons_succ, List.set_cons_zero])
  refine wpAnyH_take (i := 10) (v := ?_) rfl (by kernel_rfl) (by kernel_rfl) (by kernel_rfl) (fun _ _ _ h => h) (Or.inl ⟨by kernel_rfl, ?_⟩) (by assumption) ?_
  rotate_left
  · intro w hSw
    try dsimp only at hSw
    go_simp
    try with_reducible rfl
  (try simp only [List.getElem_toArray, List.getElem_cons_succ, List.getElem_cons_zero, Act.put, List.setIfInBounds_toArray, List.set_cons_succ, List.set_cons_zero])
  refine wpAnyH_take (i := 11) (v := ?_) rfl (by kernel_rfl) (by kernel_rfl) (by kernel_rfl) (fun _ _ _ h => h) (Or.inl ⟨by kernel_rfl, ?_⟩) (by assumption) ?_
  rotate_left
  · intro w hSw
    try dsimp only at hSw
    go_simp
    try with_reducible rfl
  (try simp only [List.getElem_toArray, List.getElem_cons_succ, List.getElem_cons_zero, Act.put, List.setIfInBounds_toArray, List.set_cons_succ, List.set_cons_zero])
  refine wpAnyH_take (i := 12) (v := ?_) rfl (by kernel_rfl) (by kernel_rfl) (by kernel_rfl) (fun _ _ _ h => h) (Or.inl ⟨by kernel_rfl, ?_⟩) (by assumption) ?_
  rotate_left
  · intro w hSw
    try dsimp only at hSw
    go_simp
    try with_reducible rfl
  (try simp only [List.getElem_toArray, List.getElem_cons_succ, List.getElem_cons_zero, Act.put, List.setIfInBounds_toArray, List.set_cons_succ, List.set_cons_zero])
  refine wpAnyH_take (i := 13) (v := ?_) rfl (by kernel_rfl) (by kernel_rfl) (by kernel_rfl) (fun _ _ _ h => h) (Or.inl ⟨by kernel_rfl, ?_⟩) (by assumption) ?_
  rotate_left
  · intro w hSw
    try dsimp only at hSw
    go_simp
    try with_reducible rfl
  (try simp only [List.getElem_toArray, List.getElem_cons_succ, List.getElem_cons_zero, Act.put, List.setIfInBounds_toArray, List.set_cons_succ, List.set_cons_zero])
  refine wpAnyH_take (i := 14) (v := ?_) rfl (by kernel_rfl) (by kernel_rfl) (by kernel_rfl) (fun _ _ _ h => h) (Or.inl ⟨by kernel_rfl, ?_⟩) (by assumption) ?_
  rotate_left
  · intro w hSw
    try dsimp only at hSw
    go_simp
    try with_reducible rfl
  (try simp only [List.getElem_toArray, List.getElem_cons_succ, List.getElem_cons_zero, Act.put, List.setIfInBounds_toArray, List.set_cons_succ, List.set_cons_zero])
  refine wpAnyH_take (i := 15) (v := ?_) rfl (by kernel_rfl) (by kernel_rfl) (by kernel_rfl) (fun _ _ _ h => h) (Or.inl ⟨by kernel_rfl, ?_⟩) (by assumption) ?_
  rotate_left
  · intro w hSw
    try dsimp only at hSw
    go_simp
    try with_reducible rfl
  (try simp only [List.getElem_toArray, List.getElem_cons_succ, List.getElem_cons_zero, Act.put, List.setIfInBounds_toArray, List.set_cons_succ, List.set_cons_zero])
  refine wpAnyH_take (i := 16) (v := ?_) rfl (by kernel_rfl) (by kernel_rfl) (by kernel_rfl) (fun _ _ _ h => h) (Or.inl ⟨by kernel_rfl, ?_⟩) (by assumption) ?_
  rotate_left
  · intro w hSw
    try dsimp only at hSw
    go_simp
    try with_reducible rfl
  (try simp only [List.getElem_toArray, List.getElem_cons_succ, List.getElem_cons_zero, Act.put, List.setIfInBounds_toArray, List.set_cons_succ, List.set_cons_zero])
  refine wpAnyH_take (i := 17) (v := ?_) rfl (by kernel_rfl) (by kernel_rfl) (by kernel_rfl) (fun _ _ _ h => h) (Or.inl ⟨by kernel_rfl, ?_⟩) (by assumption) ?_
  rotate_left
  · intro w hSw
    try dsimp only at hSw
    go_simp
    try with_reducible rfl
  (try simp only [List.getElem_toArray, List.getElem_cons_succ, List.getElem_cons_zero, Act.put, List.setIfInBounds_toArray, List.set_cons_succ, List.set_cons_zero])
  refine wpAnyH_take (i := 18) (v := ?_) rfl (by kernel_rfl) (by kernel_rfl) (by kernel_rfl) (fun _ _ _ h => h) (Or.inl ⟨by kernel_rfl, ?_⟩) (by assumption) ?_
  rotate_left
  · intro w hSw
    try dsimp only at hSw
    go_simp
    try with_reducible rfl
  (try simp only [List.getElem_toArray, List.getElem_cons_succ, List.getElem_cons_zero, Act.put, List.setIfInBounds_toArray, List.set_cons_succ, List.set_cons_zero])
  refine wpAnyH_ready (rs := [19]) (by kernel_rfl) (by simp) ?_
  refine AllReadyH.cons rfl (fun K hK => ?_) AllReadyH.nil
  go_simp
  refine (hbl _).mono ?_
  rintro e w4 ⟨rfl, rfl⟩
  refine hK.out _ _ d12 (fun hHeld3 => ?_)
  clear hK K
  (try simp only [List.getElem_toArray, List.getElem_cons_succ, List.getElem_cons_zero, Act.put, List.setIfInBounds_toArray, List.set_cons_succ, List.set_cons_zero])
  refine wpAnyH_take (i := 20) (v := ?_) rfl (by kernel_rfl) (by kernel_rfl) (by kernel_rfl) (fun _ _ _ h => h) (Or.inl ⟨by kernel_rfl, ?_⟩) (by assumption) ?_
  rotate_left
  · intro w hSw
    try dsimp only at hSw
    go_simp
    try with_reducible rfl
  (try simp only [List.getElem_toArray, List.getElem_cons_succ, List.getElem_cons_zero, Act.put, List.setIfInBounds_toArray, List.set_cons_succ, List.set_cons_zero])
  refine wpAnyH_take (i := 21) (v := undef) rfl (by kernel_rfl) (by kernel_rfl) (by kernel_rfl) (fun _ _ _ h => h) (Or.inr ⟨by kernel_rfl, rfl⟩) (by assumption) ?_
  (try simp only [List.getElem_toArray, List.getElem_cons_succ, List.getElem_cons_zero, Act.put, List.setIfInBounds_toArray, List.set_cons_succ, List.set_cons_zero])
  refine wpAnyH_take (i := 22) (v := undef) rfl (by kernel_rfl) (by kernel_rfl) (by kernel_rfl) (fun _ _ _ h => h) (Or.inr ⟨by kernel_rfl, rfl⟩) (by assumption) ?_
  (try simp only [List.getElem_toArray, List.getElem_cons_succ, List.getElem_cons_zero, Act.put, List.setIfInBounds_toArray, List.set_cons_succ, List.set_cons_zero])
  refine wpAnyH_take (i := 23) (v := undef) rfl (by kernel_rfl) (by kernel_rfl) (by kernel_rfl) (fun _ _ _ h => h) (Or.inr ⟨by kernel_rfl, rfl⟩) (by assumption) ?_
  (try simp only [List.getElem_toArray, List.getElem_cons_succ, List.getElem_cons_zero, Act.put, List.setIfInBounds_toArray, List.set_cons_succ, List.set_cons_zero])
  refine wpAnyH_take (i := 24) (v := undef) rfl (by kernel_rfl) (by kernel_rfl) (by kernel_rfl) (fun _ _ _ h => h) (Or.inr ⟨by kernel_rfl, rfl⟩) (by assumption) ?_
  (try simp only [List.getElem_toArray, List.getElem_cons_succ, List.getElem_cons_zero, Act.put, List.setIfInBounds_toArray, List.set_cons_succ, List.set_cons_zero])
  refine wpAnyH_take (i := 25) (v := ?_) rfl (by kernel_rfl) (by kernel_rfl) (by kernel_rfl) (fun _ _ _ h => h) (Or.inl ⟨by kernel_rfl, ?_⟩) (by assumption) ?_
  rotate_left
  · intro w hSw
    try dsimp only at hSw
    go_simp
    try with_reducible rfl
  (try simp only [List.getElem_toArray, List.getElem_cons_succ, List.getElem_cons_zero, Act.put, List.setIfInBounds_toArray, List.set_cons_succ, List.set_cons_zero])
  refine wpAnyH_take (i := 26) (v := ?_) rfl (by kernel_rfl) (by kernel_rfl) (by kernel_rfl) (fun _ _ _ h => h) (Or.inl ⟨by kernel_rfl, ?_⟩) (by assumption) ?_
  rotate_left
  · intro w hSw
    try dsimp only at hSw
    go_simp
    try with_reducible rfl
  (try simp only [List.getElem_toArray, List.getElem_cons_succ, List.getElem_cons_zero, Act.put, List.setIfInBounds_toArray, List.set_cons_succ, List.set_cons_zero])
  refine wpAnyH_take (i := 27) (v := undef) rfl (by kernel_rfl) (by kernel_rfl) (by kernel_rfl) (fun _ _ _ h => h) (Or.inr ⟨by kernel_rfl, rfl⟩) (by assumption) ?_
  (try simp only [List.getElem_toArray, List.getElem_cons_succ, List.getElem_cons_zero, Act.put, List.setIfInBounds_toArray, List.set_cons_succ, List.set_cons_zero])
  refine wpAnyH_take (i := 28) (v := undef) rfl (by kernel_rfl) (by kernel_rfl) (by kernel_rfl) (fun _ _ _ h => h) (Or.inr ⟨by kernel_rfl, rfl⟩) (by assumption) ?_
  (try simp only [List.getElem_toArray, List.getElem_cons_succ, List.getElem_cons_zero, Act.put, List.setIfInBounds_toArray, List.set_cons_succ, List.set_cons_zero])
  refine wpAnyH_take (i := 29) (v := undef) rfl (by kernel_rfl) (by kernel_rfl) (by kernel_rfl) (fun _ _ _ h => h) (Or.inr ⟨by kernel_rfl, rfl⟩) (by assumption) ?_
  (try simp only [List.getElem_toArray, List.getElem_cons_succ, List.getElem_cons_zero, Act.put, List.setIfInBounds_toArray, List.set_cons_succ, List.set_cons_zero])
  refine wpAnyH_take (i := 30) (v := undef) rfl (by kernel_rfl) (by kernel_rfl) (by kernel_rfl) (fun _ _ _ h => h) (Or.inr ⟨by kernel_rfl, rfl⟩) (by assumption) ?_
  (try simp only [List.getElem_toArray, List.getElem_cons_succ, List.getElem_cons_zero, Act.put, List.setIfInBounds_toArray, List.set_cons_succ, List.set_cons_zero])
  refine wpAnyH_take (i := 31) (v := ?_) rfl (by kernel_rfl) (by kernel_rfl) (by kernel_rfl) (fun _ _ _ h => h) (Or.inl ⟨by kernel_rfl, ?_⟩) (by assumption) ?_
  rotate_left
  · intro w hSw
    try dsimp only at hSw
    go_simp
    try with_reducible rfl
  (try simp only [List.getElem_toArray, List.getElem_cons_succ, List.getElem_cons_zero, Act.put, List.setIfInBounds_toArray, List.set_cons_succ, List.set_cons_zero])
  refine wpAnyH_take (i := 32) (v := ?_) rfl (by kernel_rfl) (by kernel_rfl) (by kernel_rfl) (fun _ _ _ h => h) (Or.inl ⟨by kernel_rfl, ?_⟩) (by assumption) ?_
  rotate_left
  · intro w hSw
    try dsimp only at hSw
    go_simp
    try with_reducible rfl
  (try simp only [List.getElem_toArray, List.getElem_cons_succ, List.getElem_cons_zero, Act.put, List.setIfInBounds_toArray, List.set_cons_succ, List.set_cons_zero])
  refine wpAnyH_done (by kernel_rfl) ?_ _
  have d13 : w1.cell? ⟨R, 13, none⟩ = some (.int .i64 (r.kd : Int)) := (HW.out.cell 13).trans rfl
  have hkd : ((r.kd : Int) == 1) = (r.kd == 1) := by rw [Bool.eq_iff_iff]; simp; omega
  have ht := rtext_c (r.kd == 1) R l r w1 ⟨_, _, _, _, HW.out⟩ hz.2.2.2.2.2.1 hz.1
  have m0 : (0 : Int) ≤ (i : Int) + 2 := by omega
  have m1 : (i : Int) + 2 ≤ (i : Int) + 2 + (r.rw.length : Int) := by omega
  have m2 : (i : Int) + 2 + (r.rw.length : Int) ≤ (l.length : Int) := by omega
  have m3 : ((i : Int) + 2).toNat = i + 2 := by omega
  have hex : (S l).extract (i + 2) (i + 2 + r.rw.length) = S ((l.drop (i + 2)).take r.rw.length) := by
    rw [Lib.extract_eq, list_S, show i + 2 + r.rw.length - (i + 2) = r.rw.length by omega]
  have hlo := fun w => rlower_c (S ((l.drop (i + 2)).take r.rw.length)) w (by rw [size_S, List.length_take]; omega)
  rw [list_S, ← hex] at hlo
  have HE := Lib.hid hex
  clear hHeld2 hHeld3 hex
  rw [← HR2.out] at ht
  rw [← HNM.out] at hlo
  go_wp2_with (first
    | (go_at_call 28; refine ht.mono ?_; rintro e w2 ⟨rfl, ⟨vo2, vt2, va2, ps2, h2⟩, hb2⟩; have H2 := Lib.hid h2; have HB2 := Lib.hid (HB1.out.trans hb2); clear h2 hb2)
    | (go_at_call 60; refine (hlo _).mono ?_; rintro e w3 ⟨rfl, hb3⟩; have h3 := H2.out.keep hb3; have HB3 := Lib.hid (HB2.out.trans (hb3.mono (Nat.le_of_lt H2.out.lt))); have y2 : _ = some (Value.int .i64 (r2.st : Int)) := (h3.cell 2).trans rfl; have y4 : _ = some (Value.int .i64 r2.tg.k) := (h3.cell 4).trans rfl; have y5 : _ = some (Value.string (S r2.tg.n)) := (h3.cell 5).trans rfl; have y6 : _ = some (Value.string (S r2.tg.x)) := (h3.cell 6).trans rfl; have y7 : _ = some va2 := (h3.cell 7).trans rfl; have y8 : _ = some (Value.bool r2.tg.c) := (h3.cell 8).trans rfl; have x2 := h3.froz 2; have x4 := h3.froz 4; have x5 := h3.froz 5; have x6 := h3.froz 6; have x7 := h3.froz 7; have x8 := h3.froz 8; have HW3 := Lib.hid (h3.newTagN 2 nm); clear hb3 h3))
  go_ret
  exact ⟨ret_int (by omega), ⟨_, _, _, _, HW3.out⟩, below_set _ (below_set _ (below_set _ (below_set _ (below_set _ (below_set _ HB3.out)))))⟩
set_option maxHeartbeats 4000000 in
set_option maxRecDepth 100000 in
theorem raw_yes2 (R : Nat) (l : List UInt8) (hl : l.length ≤ 65536) (r : Rd) (i : Nat) (hi : i < l.length) (w : World) (h : RdM R l r w) (hz : Sz r) (hst : r.st = 15) (hq : startsB (l.drop i) (60 :: 47 :: r.rw) = true) (hn : i + 2 + r.rw.length < l.length) (hB : blB l[i + 2 + r.rw.length] = false) (g47 : l[i + 2 + r.rw.length] = 47) :
    Calls Tryz.prog 27 #[.pointer (some ⟨R, 0, none⟩), .int .i64 (i : Int)] w fun e w' => e = .returned (.int .i64 (2 + r.rw.length : Nat)) ∧ RdM R l { textR (r.kd == 1) r with st := 3, tg := { noTk with k := 2, n := ((l.drop (i + 2)).take r.rw.length).map low } } w' ∧ Below R w w' := by
  obtain ⟨r2, hr2⟩ : ∃ r2, r2 = textR (r.kd == 1) r := ⟨_, rfl⟩
  obtain ⟨nm, hnm⟩ : ∃ nm, nm = ((l.drop (i + 2)).take r.rw.length).map low := ⟨_, rfl⟩
  rw [← hr2, ← hnm]
  have HR2 := Lib.hid hr2
  have HNM := Lib.hid hnm
  clear hr2 hnm
  have hsz : ((S l).size : Int) = (l.length : Int) := by rw [size_S]
  have hx := at_T l i hi
  have j0 : (0 : Int) ≤ (i : Int) := by omega
  have j1 : (i : Int) < (l.length : Int) := by omega
  have jl : (l.length : Int) ≤ 65536 := by omega
  obtain ⟨vo, vt, va, ps, h⟩ := h
  have c0 : w.cell? ⟨R, 0, none⟩ = some (.string (S l)) := (h.cell 0).trans rfl
  have c2 : w.cell? ⟨R, 2, none⟩ = some (.int .i64 15) := (h.cell 2).trans (by show some (Value.int .i64 (r.st : Int)) = _; rw [hst]; rfl)
  clear hst
  have z2 := h.froz 2
  have hRw : R ≤ w.heap.size := Nat.le_of_lt h.lt
  have hRlt : R < w.heap.size := h.lt
  have c12 : w.cell? ⟨R, 12, none⟩ = some (.string (S r.rw)) := (h.cell 12).trans rfl
  have hrw : r.rw.length ≤ 134217728 := hz.2.2.2.2.2.2
  have hrz : ((S r.rw).size : Int) = (r.rw.length : Int) := by rw [size_S]
  have hrn : (S r.rw).size ≤ 134217728 := by rw [size_S]; exact hrw
  have j2 : (i : Int) ≤ (l.length : Int) := by omega
  have hf : (S l).extract i l.length = S (l.drop i) := by have := Crf.cutFrom (S l) i; rw [size_S, list_S] at this; exact this
  have e1 : (⟨#[60, 47]⟩ : ByteArray) ++ S r.rw = S (60 :: 47 :: r.rw) := S_append [60, 47] r.rw
  have hst2 := fun w => rstarts_c (S (l.drop i)) (S (60 :: 47 :: r.rw)) w (by rw [size_S, List.length_drop]; omega) (by rw [size_S, List.length_cons, List.length_cons]; omega)
  have hq2 : startsB (S (l.drop i)).data.toList (S (60 :: 47 :: r.rw)).data.toList = true := by rw [list_S, list_S]; exact hq
  simp only [hq2] at hst2
  rw [← hf] at hst2
  have HW0 := Lib.hid h
  clear hq hq2 hf
  have hy := at_T l (i + 2 + r.rw.length) hn
  have n0 : (0 : Int) ≤ (i : Int) + 2 + (r.rw.length : Int) := by omega
  have n1 : (i : Int) + 2 + (r.rw.length : Int) < (l.length : Int) := by omega
  have n1b : decide ((i : Int) + 2 + (r.rw.length : Int) < (l.length : Int)) = true := decide_eq_true n1
  have nt : ((i : Int) + 2 + (r.rw.length : Int)).toNat = i + 2 + r.rw.length := by omega
  have ndb : ((l[i + 2 + r.rw.length]).toNat : Int) ≤ 255 := by have := (l[i + 2 + r.rw.length]).toNat_lt; omega
  have hbl := fun w => rblank_c ((l[i + 2 + r.rw.length]).toNat : Int) w (by omega) ndb
  have hqb : blankI ((l[i + 2 + r.rw.length]).toNat : Int) = false := hB
  simp only [hqb] at hbl
  clear hqb hB
  have he47 : (((l[i + 2 + r.rw.length]).toNat : Int) == 47) = true := by rw [g47]; rfl
  clear g47
  generalize l[i + 2 + r.rw.length] = d at *
  obtain ⟨i0, hi0, hz0, hz1, hz2⟩ := info_parts Mem.info_u8
  have hzt : r.tx.length ≤ 134217728 := hz.2.2.2.2.2.1
  obtain ⟨Rw, hRw2⟩ : ∃ Rw, Rw = S r.rw := ⟨_, rfl⟩
  have HRw : Hid (S r.rw = Rw) := hRw2.symm
  rw [← hRw2] at c12 e1 hrz hrn
  clear hRw2 h
  generalize S (60 :: 47 :: r.rw) = P at hst2 e1
  have hcc : ¬ (9223372036854775807 < (⟨#[60, 47]⟩ : ByteArray).size + Rw.size) := by show ¬ (9223372036854775807 < 2 + Rw.size); omega
  have hcc2 : ¬ (9223372036854775807 < 2 + Rw.size) := hcc
  generalize l[i] = c at *
  go_enter Tryz.func27, Tryz.ntmps27
  go_wp2_with fail
  have k0 : w.drew.cell? ⟨R, 12, none⟩ = some (.string Rw) := c12
  refine wp_region_held_drew (S := (fun w' => w'.cell? ⟨R, 12, none⟩ = some (.string Rw))) (by kernel_rfl) k0 (fun hHeld => ?_)
  refine wpAnyH_take (i := 0) (v := ?_) rfl (by kernel_rfl) (by kernel_rfl) (by kernel_rfl) (fun _ _ _ h => h) (Or.inl ⟨by kernel_rfl, ?_⟩) (by assumption) ?_
  rotate_left
  · intro w hSw
    try dsimp only at hSw
    go_simp
    try with_reducible rfl
  (try simp only [List.getElem_toArray, List.getElem_cons_zero, Act.put, List.setIfInBounds_toArray, List.set_cons_succ, List.set_cons_zero])
  refine wpAnyH_take (i := 1) (v := ?_) rfl (by kernel_rfl) (by kernel_rfl) (by kernel_rfl) (fun _ _ _ h => h) (Or.inl ⟨by kernel_rfl, ?_⟩) (by assumption) ?_
  rotate_left
  · intro w hSw
    try dsimp only at hSw
    go_simp
    try with_reducible rfl
  (try simp only [List.getElem_toArray, List.getElem_cons_succ, List.getElem_cons_zero, Act.put, List.setIfInBounds_toArray, List.set_cons_succ, List.set_cons_zero])
  refine wpAnyH_take (i := 2) (v := ?_) rfl (by kernel_rfl) (by kernel_rfl) (by kernel_rfl) (fun _ _ _ h => h) (Or.inl ⟨by kernel_rfl, ?_⟩) (by assumption) ?_
  rotate_left
  · intro w hSw
    try dsimp only at hSw
    go_simp
    try with_reducible rfl
  (try simp only [List.getElem_toArray, List.getElem_cons_succ, List.getElem_cons_zero, Act.put, List.setIfInBounds_toArray, List.set_cons_succ, List.set_cons_zero])
  refine wpAnyH_take (i := 3) (v := ?_) rfl (by kernel_rfl) (by kernel_rfl) (by kernel_rfl) (fun _ _ _ h => h) (Or.inl ⟨by kernel_rfl, ?_⟩) (by assumption) ?_
  rotate_left
  · intro w hSw
    try dsimp only at hSw
    go_simp
    try with_reducible rfl
  (try simp only [List.getElem_toArray, List.getElem_cons_succ, List.getElem_cons_zero, Act.put, List.setIfInBounds_toArray, List.set_cons_succ, List.set_cons_zero])
  refine wpAnyH_take (i := 4) (v := ?_) rfl (by kernel_rfl) (by kernel_rfl) (by kernel_rfl) (fun _ _ _ h => h) (Or.inl ⟨by kernel_rfl, ?_⟩) (by assumption) ?_
  rotate_left
  · intro w hSw
    try dsimp only at hSw
    go_simp
    try with_reducible rfl
  (try simp only [List.getElem_toArray, List.getElem_cons_succ, List.getElem_cons_zero, Act.put, List.setIfInBounds_toArray, List.set_cons_succ, List.set_cons_zero])
  refine wpAnyH_take (i := 5) (v := ?_) rfl (by kernel_rfl) (by kernel_rfl) (by kernel_rfl) (fun _ _ _ h => h) (Or.inl ⟨by kernel_rfl, ?_⟩) (by assumption) ?_
  rotate_left
  · intro w hSw
    try dsimp only at hSw
    go_simp
    try with_reducible rfl
  (try simp only [List.getElem_toArray, List.getElem_cons_succ, List.getElem_cons_zero, Act.put, List.setIfInBounds_toArray, List.set_cons_succ, List.set_cons_zero])
  refine wpAnyH_take (i := 6) (v := ?_) rfl (by kernel_rfl) (by kernel_rfl) (by kernel_rfl) (fun _ _ _ h => h) (Or.inl ⟨by kernel_rfl, ?_⟩) (by assumption) ?_
  rotate_left
  · intro w hSw
    try dsimp only at hSw
    go_simp
    try with_reducible rfl
  (try simp only [List.getElem_toArray, List.getElem_cons_succ, List.getElem_cons_zero, Act.put, List.setIfInBounds_toArray, List.set_cons_succ, List.set_cons_zero])
  refine wpAnyH_take (i := 7) (v := ?_) rfl (by kernel_rfl) (by kernel_rfl) (by kernel_rfl) (fun _ _ _ h => h) (Or.inl ⟨by kernel_rfl, ?_⟩) (by assumption) ?_
  rotate_left
  · intro w hSw
    try dsimp only at hSw
    go_simp
    try with_reducible rfl
  (try simp only [List.getElem_toArray, List.getElem_cons_succ, List.getElem_cons_zero, Act.put, List.setIfInBounds_toArray, List.set_cons_succ, List.set_cons_zero])
  refine wpAnyH_ready (rs := [8]) (by kernel_rfl) (by simp) ?_
  refine AllReadyH.cons rfl (fun K hK => ?_) AllReadyH.nil
  go_simp
  refine (hst2 _).mono ?_
  rintro e w1 ⟨rfl, hb0⟩
  have hb1 : Below w.heap.size w w1 := ⟨hb0.os, hb0.tape, hb0.output, hb0.size, hb0.block⟩
  have HW := Lib.hid (HW0.out.keep hb1)
  have HB1 := Lib.hid (hb1.mono hRw)
  have d12 : w1.cell? ⟨R, 12, none⟩ = some (.string Rw) := (HW.out.cell 12).trans (by rw [← HRw.out]; rfl)
  have c3 : w1.cell? ⟨R, 3, none⟩ = some vt := (HW.out.cell 3).trans rfl
  have hR1 : R < w1.heap.size := HW.out.lt
  refine hK.out _ _ d12 (fun hHeld2 => ?_)
  clear hK K hHeld hb0 hb1
  (try simp only [List.getElem_toArray, List.getElem_cons_succ, List.getElem_cons_zero, Act.put, List.setIfInBounds_toArray, List.set_cons_succ, List.set_cons_zero])
  refine wpAnyH_take (i := 9) (v := ?_) rfl (by kernel_rfl) (by kernel_rfl) (by kernel_rfl) (fun _ _ _ h => h) (Or.inl ⟨by kernel_rfl, ?_⟩) (by assumption) ?_
  rotate_left
  · intro w hSw
    try dsimp only at hSw
    go_simp
    try with_reducible rfl
  (try simp only [List.getElem_toArray, List.getElem_cons_succ, List.getElem_cons_zero, Act.put, List.setIfInBounds_toArray, List.set_cons_succ, List.set_cons_zero])
  refine wpAnyH_take (i := 10) (v := ?_) rfl (by kernel_rfl) (by kernel_rfl) (by kernel_rfl) (fun _ _ _ h => h) (Or.inl ⟨by kernel_rfl, ?_⟩) (by assumption) ?_
  rotate_left
  · intro w hSw
    try dsimp only at hSw
    go_simp
    try with_reducible rfl
  (try simp only [List.getElem_toArray, List.getElem_cons_succ, List.getElem_cons_zero, Act.put, List.setIfInBounds_toArray, List.set_cons_succ, List.set_cons_zero])
  refine wpAnyH_take (i := 11) (v := ?_) rfl (by kernel_rfl) (by kernel_rfl) (by kernel_rfl) (fun _ _ _ h => h) (Or.inl ⟨by kernel_rfl, ?_⟩) (by assumption) ?_
  rotate_left
  · intro w hSw
    try dsimp only at hSw
    go_simp
    try with_reducible rfl
  (try simp only [List.getElem_toArray, List.getElem_cons_succ, List.getElem_cons_zero, Act.put, List.setIfInBounds_toArray, List.set_cons_succ, List.set_cons_zero])
  refine wpAnyH_take (i := 12) (v := ?_) rfl (by kernel_rfl) (by kernel_rfl) (by kernel_rfl) (fun _ _ _ h => h) (Or.inl ⟨by kernel_rfl, ?_⟩) (by assumption) ?_
  rotate_left
  · intro w hSw
    try dsimp only at hSw
    go_simp
    try with_reducible rfl
  (try simp only [List.getElem_toArray, List.getElem_cons_succ, List.getElem_cons_zero, Act.put, List.setIfInBounds_toArray, List.set_cons_succ, List.set_cons_zero])
  refine wpAnyH_take (i := 13) (v := ?_) rfl (by kernel_rfl) (by kernel_rfl) (by kernel_rfl) (fun _ _ _ h => h) (Or.inl ⟨by kernel_rfl, ?_⟩) (by assumption) ?_
  rotate_left
  · intro w hSw
    try dsimp only at hSw
    go_simp
    try with_reducible rfl
  (try simp only [List.getElem_toArray, List.getElem_cons_succ, List.getElem_cons_zero, Act.put, List.setIfInBounds_toArray, List.set_cons_succ, List.set_cons_zero])
  refine wpAnyH_take (i := 14) (v := ?_) rfl (by kernel_rfl) (by kernel_rfl) (by kernel_rfl) (fun _ _ _ h => h) (Or.inl ⟨by kernel_rfl, ?_⟩) (by assumption) ?_
  rotate_left
  · intro w hSw
    try dsimp only at hSw
    go_simp
    try with_reducible rfl
  (try simp only [List.getElem_toArray, List.getElem_cons_succ, List.getElem_cons_zero, Act.put, List.setIfInBounds_toArray, List.set_cons_succ, List.set_cons_zero])
  refine wpAnyH_take (i := 15) (v := ?_) rfl (by kernel_rfl) (by kernel_rfl) (by kernel_rfl) (fun _ _ _ h => h) (Or.inl ⟨by kernel_rfl, ?_⟩) (by assumption) ?_
  rotate_left
  · intro w hSw
    try dsimp only at hSw
    go_simp
    try with_reducible rfl
  (try simp only [List.getElem_toArray, List.getElem_cons_succ, List.getElem_cons_zero, Act.put, List.setIfInBounds_toArray, List.set_cons_succ, List.set_cons_zero])
  refine wpAnyH_take (i := 16) (v := ?_) rfl (by kernel_rfl) (by kernel_rfl) (by kernel_rfl) (fun _ _ _ h => h) (Or.inl ⟨by kernel_rfl, ?_⟩) (by assumption) ?_
  rotate_left
  · intro w hSw
    try dsimp only at hSw
    go_simp
    try with_reducible rfl
  (try simp only [List.getElem_toArray, List.getElem_cons_succ, List.getElem_cons_zero, Act.put, List.setIfInBounds_toArray, List.set_cons_succ, List.set_cons_zero])
  refine wpAnyH_take (i := 17) (v := ?_) rfl (by kernel_rfl) (by kernel_rfl) (by kernel_rfl) (fun _ _ _ h => h) (Or.inl ⟨by kernel_rfl, ?_⟩) (by assumption) ?_
  rotate_left
  · intro w hSw
    try dsimp only at hSw
    go_simp
    try with_reducible rfl
  (try simp only [List.getElem_toArray, List.getElem_cons_succ, List.getElem_cons_zero, Act.put, List.setIfInBounds_toArray, List.set_cons_succ, List.set_cons_zero])
  refine wpAnyH_take (i := 18) (v := ?_) rfl (by kernel_rfl) (by kernel_rfl) (by kernel_rfl) (fun _ _ _ h => h) (Or.inl ⟨by kernel_rfl, ?_⟩) (by assumption) ?_
  rotate_left
  · intro w hSw
    try dsimp only at hSw
    go_simp
    try with_reducible rfl
  (try simp only [List.getElem_toArray, List.getElem_cons_succ, List.getElem_cons_zero, Act.put, List.setIfInBounds_toArray, List.set_cons_succ, List.set_cons_zero])
  refine wpAnyH_ready (rs := [19]) (by kernel_rfl) (by simp) ?_
  refine AllReadyH.cons rfl (fun K hK => ?_) AllReadyH.nil
  go_simp
  refine (hbl _).mono ?_
  rintro e w4 ⟨rfl, rfl⟩
  refine hK.out _ _ d12 (fun hHeld3 => ?_)
  clear hK K
  (try simp only [List.getElem_toArray, List.getElem_cons_succ, List.getElem_cons_zero, Act.put, List.setIfInBounds_toArray, List.set_cons_succ, List.set_cons_zero])
  refine wpAnyH_take (i := 20) (v := ?_) rfl (by kernel_rfl) (by kernel_rfl) (by kernel_rfl) (fun _ _ _ h => h) (Or.inl ⟨by kernel_rfl, ?_⟩) (by assumption) ?_
  rotate_left
  · intro w hSw
    try dsimp only at hSw
    go_simp
    try with_reducible rfl
  (try simp only [List.getElem_toArray, List.getElem_cons_succ, List.getElem_cons_zero, Act.put, List.setIfInBounds_toArray, List.set_cons_succ, List.set_cons_zero])
  refine wpAnyH_take (i := 21) (v := ?_) rfl (by kernel_rfl) (by kernel_rfl) (by kernel_rfl) (fun _ _ _ h => h) (Or.inl ⟨by kernel_rfl, ?_⟩) (by assumption) ?_
  rotate_left
  · intro w hSw
    try dsimp only at hSw
    go_simp
    try with_reducible rfl
  (try simp only [List.getElem_toArray, List.getElem_cons_succ, List.getElem_cons_zero, Act.put, List.setIfInBounds_toArray, List.set_cons_succ, List.set_cons_zero])
  refine wpAnyH_take (i := 22) (v := ?_) rfl (by kernel_rfl) (by kernel_rfl) (by kernel_rfl) (fun _ _ _ h => h) (Or.inl ⟨by kernel_rfl, ?_⟩) (by assumption) ?_
  rotate_left
  · intro w hSw
    try dsimp only at hSw
    go_simp
    try with_reducible rfl
  (try simp only [List.getElem_toArray, List.getElem_cons_succ, List.getElem_cons_zero, Act.put, List.setIfInBounds_toArray, List.set_cons_succ, List.set_cons_zero])
  refine wpAnyH_take (i := 23) (v := ?_) rfl (by kernel_rfl) (by kernel_rfl) (by kernel_rfl) (fun _ _ _ h => h) (Or.inl ⟨by kernel_rfl, ?_⟩) (by assumption) ?_
  rotate_left
  · intro w hSw
    try dsimp only at hSw
    go_simp
    try with_reducible rfl
  (try simp only [List.getElem_toArray, List.getElem_cons_succ, List.getElem_cons_zero, Act.put, List.setIfInBounds_toArray, List.set_cons_succ, List.set_cons_zero])
  refine wpAnyH_take (i := 24) (v := ?_) rfl (by kernel_rfl) (by kernel_rfl) (by kernel_rfl) (fun _ _ _ h => h) (Or.inl ⟨by kernel_rfl, ?_⟩) (by assumption) ?_
  rotate_left
  · intro w hSw
    try dsimp only at hSw
    go_simp
    try with_reducible rfl
  (try simp only [List.getElem_toArray, List.getElem_cons_succ, List.getElem_cons_zero, Act.put, List.setIfInBounds_toArray, List.set_cons_succ, List.set_cons_zero])
  refine wpAnyH_take (i := 25) (v := ?_) rfl (by kernel_rfl) (by kernel_rfl) (by kernel_rfl) (fun _ _ _ h => h) (Or.inl ⟨by kernel_rfl, ?_⟩) (by assumption) ?_
  rotate_left
  · intro w hSw
    try dsimp only at hSw
    go_simp
    try with_reducible rfl
  (try simp only [List.getElem_toArray, List.getElem_cons_succ, List.getElem_cons_zero, Act.put, List.setIfInBounds_toArray, List.set_cons_succ, List.set_cons_zero])
  refine wpAnyH_take (i := 26) (v := ?_) rfl (by kernel_rfl) (by kernel_rfl) (by kernel_rfl) (fun _ _ _ h => h) (Or.inl ⟨by kernel_rfl, ?_⟩) (by assumption) ?_
  rotate_left
  · intro w hSw
    try dsimp only at hSw
    go_simp
    try with_reducible rfl
  (try simp only [List.getElem_toArray, List.getElem_cons_succ, List.getElem_cons_zero, Act.put, List.setIfInBounds_toArray, List.set_cons_succ, List.set_cons_zero])
  refine wpAnyH_take (i := 27) (v := undef) rfl (by kernel_rfl) (by kernel_rfl) (by kernel_rfl) (fun _ _ _ h => h) (Or.inr ⟨by kernel_rfl, rfl⟩) (by assumption) ?_
  (try simp only [List.getElem_toArray, List.getElem_cons_succ, List.getElem_cons_zero, Act.put, List.setIfInBounds_toArray, List.set_cons_succ, List.set_cons_zero])
  refine wpAnyH_take (i := 28) (v := undef) rfl (by kernel_rfl) (by kernel_rfl) (by kernel_rfl) (fun _ _ _ h => h) (Or.inr ⟨by kernel_rfl, rfl⟩) (by assumption) ?_
  (try simp only [List.getElem_toArray, List.getElem_cons_succ, List.getElem_cons_zero, Act.put, List.setIfInBounds_toArray, List.set_cons_succ, List.set_cons_zero])
  refine wpAnyH_take (i := 29) (v := undef) rfl (by kernel_rfl) (by kernel_rfl) (by kernel_rfl) (fun _ _ _ h => h) (Or.inr ⟨by kernel_rfl, rfl⟩) (by assumption) ?_
  (try simp only [List.getElem_toArray, List.getElem_cons_succ, List.getElem_cons_zero, Act.put, List.setIfInBounds_toArray, List.set_cons_succ, List.set_cons_zero])
  refine wpAnyH_take (i := 30) (v := undef) rfl (by kernel_rfl) (by kernel_rfl) (by kernel_rfl) (fun _ _ _ h => h) (Or.inr ⟨by kernel_rfl, rfl⟩) (by assumption) ?_
  (try simp only [List.getElem_toArray, List.getElem_cons_succ, List.getElem_cons_zero, Act.put, List.setIfInBounds_toArray, List.set_cons_succ, List.set_cons_zero])
  refine wpAnyH_take (i := 31) (v := ?_) rfl (by kernel_rfl) (by kernel_rfl) (by kernel_rfl) (fun _ _ _ h => h) (Or.inl ⟨by kernel_rfl, ?_⟩) (by assumption) ?_
  rotate_left
  · intro w hSw
    try dsimp only at hSw
    go_simp
    try with_reducible rfl
  (try simp only [List.getElem_toArray, List.getElem_cons_succ, List.getElem_cons_zero, Act.put, List.setIfInBounds_toArray, List.set_cons_succ, List.set_cons_zero])
  refine wpAnyH_take (i := 32) (v := ?_) rfl (by kernel_rfl) (by kernel_rfl) (by kernel_rfl) (fun _ _ _ h => h) (Or.inl ⟨by kernel_rfl, ?_⟩) (by assumption) ?_
  rotate_left
  · intro w hSw
    try dsimp only at hSw
    go_simp
    try with_reducible rfl
  (try simp only [List.getElem_toArray, List.getElem_cons_succ, List.getElem_cons_zero, Act.put, List.setIfInBounds_toArray, List.set_cons_succ, List.set_cons_zero])
  refine wpAnyH_done (by kernel_rfl) ?_ _
  have d13 : w1.cell? ⟨R, 13, none⟩ = some (.int .i64 (r.kd : Int)) := (HW.out.cell 13).trans rfl
  have hkd : ((r.kd : Int) == 1) = (r.kd == 1) := by rw [Bool.eq_iff_iff]; simp; omega
  have ht := rtext_c (r.kd == 1) R l r w1 ⟨_, _, _, _, HW.out⟩ hz.2.2.2.2.2.1 hz.1
  have m0 : (0 : Int) ≤ (i : Int) + 2 := by omega
  have m1 : (i : Int) + 2 ≤ (i : Int) + 2 + (r.rw.length : Int) := by omega
  have m2 : (i : Int) + 2 + (r.rw.length : Int) ≤ (l.length : Int) := by omega
  have m3 : ((i : Int) + 2).toNat = i + 2 := by omega
  have hex : (S l).extract (i + 2) (i + 2 + r.rw.length) = S ((l.drop (i + 2)).take r.rw.length) := by
    rw [Lib.extract_eq, list_S, show i + 2 + r.rw.length - (i + 2) = r.rw.length by omega]
  have hlo := fun w => rlower_c (S ((l.drop (i + 2)).take r.rw.length)) w (by rw [size_S, List.length_take]; omega)
  rw [list_S, ← hex] at hlo
  have HE := Lib.hid hex
  clear hHeld2 hHeld3 hex
  rw [← HR2.out] at ht
  rw [← HNM.out] at hlo
  go_wp2_with (first
    | (go_at_call 28; refine ht.mono ?_; rintro e w2 ⟨rfl, ⟨vo2, vt2, va2, ps2, h2⟩, hb2⟩; have H2 := Lib.hid h2; have HB2 := Lib.hid (HB1.out.trans hb2); clear h2 hb2)
    | (go_at_call 60; refine (hlo _).mono ?_; rintro e w3 ⟨rfl, hb3⟩; have h3 := H2.out.keep hb3; have HB3 := Lib.hid (HB2.out.trans (hb3.mono (Nat.le_of_lt H2.out.lt))); have y2 : _ = some (Value.int .i64 (r2.st : Int)) := (h3.cell 2).trans rfl; have y4 : _ = some (Value.int .i64 r2.tg.k) := (h3.cell 4).trans rfl; have y5 : _ = some (Value.string (S r2.tg.n)) := (h3.cell 5).trans rfl; have y6 : _ = some (Value.string (S r2.tg.x)) := (h3.cell 6).trans rfl; have y7 : _ = some va2 := (h3.cell 7).trans rfl; have y8 : _ = some (Value.bool r2.tg.c) := (h3.cell 8).trans rfl; have x2 := h3.froz 2; have x4 := h3.froz 4; have x5 := h3.froz 5; have x6 := h3.froz 6; have x7 := h3.froz 7; have x8 := h3.froz 8; have HW3 := Lib.hid (h3.newTagN 2 nm); clear hb3 h3))
  go_ret
  exact ⟨ret_int (by omega), ⟨_, _, _, _, HW3.out⟩, below_set _ (below_set _ (below_set _ (below_set _ (below_set _ (below_set _ HB3.out)))))⟩
set_option maxHeartbeats 4000000 in
set_option maxRecDepth 100000 in
theorem raw_yes3 (R : Nat) (l : List UInt8) (hl : l.length ≤ 65536) (r : Rd) (i : Nat) (hi : i < l.length) (w : World) (h : RdM R l r w) (hz : Sz r) (hst : r.st = 15) (hq : startsB (l.drop i) (60 :: 47 :: r.rw) = true) (hn : i + 2 + r.rw.length < l.length) (hB : blB l[i + 2 + r.rw.length] = false) (g47 : l[i + 2 + r.rw.length] ≠ 47) (g62 : l[i + 2 + r.rw.length] = 62) :
    Calls Tryz.prog 27 #[.pointer (some ⟨R, 0, none⟩), .int .i64 (i : Int)] w fun e w' => e = .returned (.int .i64 (2 + r.rw.length : Nat)) ∧ RdM R l { textR (r.kd == 1) r with st := 3, tg := { noTk with k := 2, n := ((l.drop (i + 2)).take r.rw.length).map low } } w' ∧ Below R w w' := by
  obtain ⟨r2, hr2⟩ : ∃ r2, r2 = textR (r.kd == 1) r := ⟨_, rfl⟩
  obtain ⟨nm, hnm⟩ : ∃ nm, nm = ((l.drop (i + 2)).take r.rw.length).map low := ⟨_, rfl⟩
  rw [← hr2, ← hnm]
  have HR2 := Lib.hid hr2
  have HNM := Lib.hid hnm
  clear hr2 hnm
  have hsz : ((S l).size : Int) = (l.length : Int) := by rw [size_S]
  have hx := at_T l i hi
  have j0 : (0 : Int) ≤ (i : Int) := by omega
  have j1 : (i : Int) < (l.length : Int) := by omega
  have jl : (l.length : Int) ≤ 65536 := by omega
  obtain ⟨vo, vt, va, ps, h⟩ := h
  have c0 : w.cell? ⟨R, 0, none⟩ = some (.string (S l)) := (h.cell 0).trans rfl
  have c2 : w.cell? ⟨R, 2, none⟩ = some (.int .i64 15) := (h.cell 2).trans (by show some (Value.int .i64 (r.st : Int)) = _; rw [hst]; rfl)
  clear hst
  have z2 := h.froz 2
  have hRw : R ≤ w.heap.size := Nat.le_of_lt h.lt
  have hRlt : R < w.heap.size := h.lt
  have c12 : w.cell? ⟨R, 12, none⟩ = some (.string (S r.rw)) := (h.cell 12).trans rfl
  have hrw : r.rw.length ≤ 134217728 := hz.2.2.2.2.2.2
  have hrz : ((S r.rw).size : Int) = (r.rw.length : Int) := by rw [size_S]
  have hrn : (S r.rw).size ≤ 134217728 := by rw [size_S]; exact hrw
  have j2 : (i : Int) ≤ (l.length : Int) := by omega
  have hf : (S l).extract i l.length = S (l.drop i) := by have := Crf.cutFrom (S l) i; rw [size_S, list_S] at this; exact this
  have e1 : (⟨#[60, 47]⟩ : ByteArray) ++ S r.rw = S (60 :: 47 :: r.rw) := S_append [60, 47] r.rw
  have hst2 := fun w => rstarts_c (S (l.drop i)) (S (60 :: 47 :: r.rw)) w (by rw [size_S, List.length_drop]; omega) (by rw [size_S, List.length_cons, List.length_cons]; omega)
  have hq2 : startsB (S (l.drop i)).data.toList (S (60 :: 47 :: r.rw)).data.toList = true := by rw [list_S, list_S]; exact hq
  simp only [hq2] at hst2
  rw [← hf] at hst2
  have HW0 := Lib.hid h
  clear hq hq2 hf
  have hy := at_T l (i + 2 + r.rw.length) hn
  have n0 : (0 : Int) ≤ (i : Int) + 2 + (r.rw.length : Int) := by omega
  have n1 : (i : Int) + 2 + (r.rw.length : Int) < (l.length : Int) := by omega
  have n1b : decide ((i : Int) + 2 + (r.rw.length : Int) < (l.length : Int)) = true := decide_eq_true n1
  have nt : ((i : Int) + 2 + (r.rw.length : Int)).toNat = i + 2 + r.rw.length := by omega
  have ndb : ((l[i + 2 + r.rw.length]).toNat : Int) ≤ 255 := by have := (l[i + 2 + r.rw.length]).toNat_lt; omega
  have hbl := fun w => rblank_c ((l[i + 2 + r.rw.length]).toNat : Int) w (by omega) ndb
  have hqb : blankI ((l[i + 2 + r.rw.length]).toNat : Int) = false := hB
  simp only [hqb] at hbl
  clear hqb hB
  have he47 : (((l[i + 2 + r.rw.length]).toNat : Int) == 47) = false := oct_ne (n := 47) g47 (by decide)
  have he62 : (((l[i + 2 + r.rw.length]).toNat : Int) == 62) = true := by rw [g62]; rfl
  clear g62
  generalize l[i + 2 + r.rw.length] = d at *
  obtain ⟨i0, hi0, hz0, hz1, hz2⟩ := info_parts Mem.info_u8
  have hzt : r.tx.length ≤ 134217728 := hz.2.2.2.2.2.1
  obtain ⟨Rw, hRw2⟩ : ∃ Rw, Rw = S r.rw := ⟨_, rfl⟩
  have HRw : Hid (S r.rw = Rw) := hRw2.symm
  rw [← hRw2] at c12 e1 hrz hrn
  clear hRw2 h
  generalize S (60 :: 47 :: r.rw) = P at hst2 e1
  have hcc : ¬ (9223372036854775807 < (⟨#[60, 47]⟩ : ByteArray).size + Rw.size) := by show ¬ (9223372036854775807 < 2 + Rw.size); omega
  have hcc2 : ¬ (9223372036854775807 < 2 + Rw.size) := hcc
  generalize l[i] = c at *
  go_enter Tryz.func27, Tryz.ntmps27
  go_wp2_with fail
  have k0 : w.drew.cell? ⟨R, 12, none⟩ = some (.string Rw) := c12
  refine wp_region_held_drew (S := (fun w' => w'.cell? ⟨R, 12, none⟩ = some (.string Rw))) (by kernel_rfl) k0 (fun hHeld => ?_)
  refine wpAnyH_take (i := 0) (v := ?_) rfl (by kernel_rfl) (by kernel_rfl) (by kernel_rfl) (fun _ _ _ h => h) (Or.inl ⟨by kernel_rfl, ?_⟩) (by assumption) ?_
  rotate_left
  · intro w hSw
    try dsimp only at hSw
    go_simp
    try with_reducible rfl
  (try simp only [List.getElem_toArray, List.getElem_cons_zero, Act.put, List.setIfInBounds_toArray, List.set_cons_succ, List.set_cons_zero])
  refine wpAnyH_take (i := 1) (v := ?_) rfl (by kernel_rfl) (by kernel_rfl) (by kernel_rfl) (fun _ _ _ h => h) (Or.inl ⟨by kernel_rfl, ?_⟩) (by assumption) ?_
  rotate_left
  · intro w hSw
    try dsimp only at hSw
    go_simp
    try with_reducible rfl
  (try simp only [List.getElem_toArray, List.getElem_cons_succ, List.getElem_cons_zero, Act.put, List.setIfInBounds_toArray, List.set_cons_succ, List.set_cons_zero])
  refine wpAnyH_take (i := 2) (v := ?_) rfl (by kernel_rfl) (by kernel_rfl) (by kernel_rfl) (fun _ _ _ h => h) (Or.inl ⟨by kernel_rfl, ?_⟩) (by assumption) ?_
  rotate_left
  · intro w hSw
    try dsimp only at hSw
    go_simp
    try with_reducible rfl
  (try simp only [List.getElem_toArray, List.getElem_cons_succ, List.getElem_cons_zero, Act.put, List.setIfInBounds_toArray, List.set_cons_succ, List.set_cons_zero])
  refine wpAnyH_take (i := 3) (v := ?_) rfl (by kernel_rfl) (by kernel_rfl) (by kernel_rfl) (fun _ _ _ h => h) (Or.inl ⟨by kernel_rfl, ?_⟩) (by assumption) ?_
  rotate_left
  · intro w hSw
    try dsimp only at hSw
    go_simp
    try with_reducible rfl
  (try simp only [List.getElem_toArray, List.getElem_cons_succ, List.getElem_cons_zero, Act.put, List.setIfInBounds_toArray, List.set_cons_succ, List.set_cons_zero])
  refine wpAnyH_take (i := 4) (v := ?_) rfl (by kernel_rfl) (by kernel_rfl) (by kernel_rfl) (fun _ _ _ h => h) (Or.inl ⟨by kernel_rfl, ?_⟩) (by assumption) ?_
  rotate_left
  · intro w hSw
    try dsimp only at hSw
    go_simp
    try with_reducible rfl
  (try simp only [List.getElem_toArray, List.getElem_cons_succ, List.getElem_cons_zero, Act.put, List.setIfInBounds_toArray, List.set_cons_succ, List.set_cons_zero])
  refine wpAnyH_take (i := 5) (v := ?_) rfl (by kernel_rfl) (by kernel_rfl) (by kernel_rfl) (fun _ _ _ h => h) (Or.inl ⟨by kernel_rfl, ?_⟩) (by assumption) ?_
  rotate_left
  · intro w hSw
    try dsimp only at hSw
    go_simp
    try with_reducible rfl
  (try simp only [List.getElem_toArray, List.getElem_cons_succ, List.getElem_cons_zero, Act.put, List.setIfInBounds_toArray, List.set_cons_succ, List.set_cons_zero])
  refine wpAnyH_take (i := 6) (v := ?_) rfl (by kernel_rfl) (by kernel_rfl) (by kernel_rfl) (fun _ _ _ h => h) (Or.inl ⟨by kernel_rfl, ?_⟩) (by assumption) ?_
  rotate_left
  · intro w hSw
    try dsimp only at hSw
    go_simp
    try with_reducible rfl
  (try simp only [List.getElem_toArray, List.getElem_cons_succ, List.getElem_cons_zero, Act.put, List.setIfInBounds_toArray, List.set_cons_succ, List.set_cons_zero])
  refine wpAnyH_take (i := 7) (v := ?_) rfl (by kernel_rfl) (by kernel_rfl) (by kernel_rfl) (fun _ _ _ h => h) (Or.inl ⟨by kernel_rfl, ?_⟩) (by assumption) ?_
  rotate_left
  · intro w hSw
    try dsimp only at hSw
    go_simp
    try with_reducible rfl
  (try simp only [List.getElem_toArray, List.getElem_cons_succ, List.getElem_cons_zero, Act.put, List.setIfInBounds_toArray, List.set_cons_succ, List.set_cons_zero])
  refine wpAnyH_ready (rs := [8]) (by kernel_rfl) (by simp) ?_
  refine AllReadyH.cons rfl (fun K hK => ?_) AllReadyH.nil
  go_simp
  refine (hst2 _).mono ?_
  rintro e w1 ⟨rfl, hb0⟩
  have hb1 : Below w.heap.size w w1 := ⟨hb0.os, hb0.tape, hb0.output, hb0.size, hb0.block⟩
  have HW := Lib.hid (HW0.out.keep hb1)
  have HB1 := Lib.hid (hb1.mono hRw)
  have d12 : w1.cell? ⟨R, 12, none⟩ = some (.string Rw) := (HW.out.cell 12).trans (by rw [← HRw.out]; rfl)
  have c3 : w1.cell? ⟨R, 3, none⟩ = some vt := (HW.out.cell 3).trans rfl
  have hR1 : R < w1.heap.size := HW.out.lt
  refine hK.out _ _ d12 (fun hHeld2 => ?_)
  clear hK K hHeld hb0 hb1
  (try simp only [List.getElem_toArray, List.getElem_cons_succ, List.getElem_cons_zero, Act.put, List.setIfInBounds_toArray, List.set_cons_succ, List.set_cons_zero])
  refine wpAnyH_take (i := 9) (v := ?_) rfl (by kernel_rfl) (by kernel_rfl) (by kernel_rfl) (fun _ _ _ h => h) (Or.inl ⟨by kernel_rfl, ?_⟩) (by assumption) ?_
  rotate_left
  · intro w hSw
    try dsimp only at hSw
    go_simp
    try with_reducible rfl
  (try simp only [List.getElem_toArray, List.getElem_cons_succ, List.getElem_cons_zero, Act.put, List.setIfInBounds_toArray, List.set_cons_succ, List.set_cons_zero])
  refine wpAnyH_take (i := 10) (v := ?_) rfl (by kernel_rfl) (by kernel_rfl) (by kernel_rfl) (fun _ _ _ h => h) (Or.inl ⟨by kernel_rfl, ?_⟩) (by assumption) ?_
  rotate_left
  · intro w hSw
    try dsimp only at hSw
    go_simp
    try with_reducible rfl
  (try simp only [List.getElem_toArray, List.getElem_cons_succ, List.getElem_cons_zero, Act.put, List.setIfInBounds_toArray, List.set_cons_succ, List.set_cons_zero])
  refine wpAnyH_take (i := 11) (v := ?_) rfl (by kernel_rfl) (by kernel_rfl) (by kernel_rfl) (fun _ _ _ h => h) (Or.inl ⟨by kernel_rfl, ?_⟩) (by assumption) ?_
  rotate_left
  · intro w hSw
    try dsimp only at hSw
    go_simp
    try with_reducible rfl
  (try simp only [List.getElem_toArray, List.getElem_cons_succ, List.getElem_cons_zero, Act.put, List.setIfInBounds_toArray, List.set_cons_succ, List.set_cons_zero])
  refine wpAnyH_take (i := 12) (v := ?_) rfl (by kernel_rfl) (by kernel_rfl) (by kernel_rfl) (fun _ _ _ h => h) (Or.inl ⟨by kernel_rfl, ?_⟩) (by assumption) ?_
  rotate_left
  · intro w hSw
    try dsimp only at hSw
    go_simp
    try with_reducible rfl
  (try simp only [List.getElem_toArray, List.getElem_cons_succ, List.getElem_cons_zero, Act.put, List.setIfInBounds_toArray, List.set_cons_succ, List.set_cons_zero])
  refine wpAnyH_take (i := 13) (v := ?_) rfl (by kernel_rfl) (by kernel_rfl) (by kernel_rfl) (fun _ _ _ h => h) (Or.inl ⟨by kernel_rfl, ?_⟩) (by assumption) ?_
  rotate_left
  · intro w hSw
    try dsimp only at hSw
    go_simp
    try with_reducible rfl
  (try simp only [List.getElem_toArray, List.getElem_cons_succ, List.getElem_cons_zero, Act.put, List.setIfInBounds_toArray, List.set_cons_succ, List.set_cons_zero])
  refine wpAnyH_take (i := 14) (v := ?_) rfl (by kernel_rfl) (by kernel_rfl) (by kernel_rfl) (fun _ _ _ h => h) (Or.inl ⟨by kernel_rfl, ?_⟩) (by assumption) ?_
  rotate_left
  · intro w hSw
    try dsimp only at hSw
    go_simp
    try with_reducible rfl
  (try simp only [List.getElem_toArray, List.getElem_cons_succ, List.getElem_cons_zero, Act.put, List.setIfInBounds_toArray, List.set_cons_succ, List.set_cons_zero])
  refine wpAnyH_take (i := 15) (v := ?_) rfl (by kernel_rfl) (by kernel_rfl) (by kernel_rfl) (fun _ _ _ h => h) (Or.inl ⟨by kernel_rfl, ?_⟩) (by assumption) ?_
  rotate_left
  · intro w hSw
    try dsimp only at hSw
    go_simp
    try with_reducible rfl
  (try simp only [List.getElem_toArray, List.getElem_cons_succ, List.getElem_cons_zero, Act.put, List.setIfInBounds_toArray, List.set_cons_succ, List.set_cons_zero])
  refine wpAnyH_take (i := 16) (v := ?_) rfl (by kernel_rfl) (by kernel_rfl) (by kernel_rfl) (fun _ _ _ h => h) (Or.inl ⟨by kernel_rfl, ?_⟩) (by assumption) ?_
  rotate_left
  · intro w hSw
    try dsimp only at hSw
    go_simp
    try with_reducible rfl
  (try simp only [List.getElem_toArray, List.getElem_cons_succ, List.getElem_cons_zero, Act.put, List.setIfInBounds_toArray, List.set_cons_succ, List.set_cons_zero])
  refine wpAnyH_take (i := 17) (v := ?_) rfl (by kernel_rfl) (by kernel_rfl) (by kernel_rfl) (fun _ _ _ h => h) (Or.inl ⟨by kernel_rfl, ?_⟩) (by assumption) ?_
  rotate_left
  · intro w hSw
    try dsimp only at hSw
    go_simp
    try with_reducible rfl
  (try simp only [List.getElem_toArray, List.getElem_cons_succ, List.getElem_cons_zero, Act.put, List.setIfInBounds_toArray, List.set_cons_succ, List.set_cons_zero])
  refine wpAnyH_take (i := 18) (v := ?_) rfl (by kernel_rfl) (by kernel_rfl) (by kernel_rfl) (fun _ _ _ h => h) (Or.inl ⟨by kernel_rfl, ?_⟩) (by assumption) ?_
  rotate_left
  · intro w hSw
    try dsimp only at hSw
    go_simp
    try with_reducible rfl
  (try simp only [List.getElem_toArray, List.getElem_cons_succ, List.getElem_cons_zero, Act.put, List.setIfInBounds_toArray, List.set_cons_succ, List.set_cons_zero])
  refine wpAnyH_ready (rs := [19]) (by kernel_rfl) (by simp) ?_
  refine AllReadyH.cons rfl (fun K hK => ?_) AllReadyH.nil
  go_simp
  refine (hbl _).mono ?_
  rintro e w4 ⟨rfl, rfl⟩
  refine hK.out _ _ d12 (fun hHeld3 => ?_)
  clear hK K
  (try simp only [List.getElem_toArray, List.getElem_cons_succ, List.getElem_cons_zero, Act.put, List.setIfInBounds_toArray, List.set_cons_succ, List.set_cons_zero])
  refine wpAnyH_take (i := 20) (v := ?_) rfl (by kernel_rfl) (by kernel_rfl) (by kernel_rfl) (fun _ _ _ h => h) (Or.inl ⟨by kernel_rfl, ?_⟩) (by assumption) ?_
  rotate_left
  · intro w hSw
    try dsimp only at hSw
    go_simp
    try with_reducible rfl
  (try simp only [List.getElem_toArray, List.getElem_cons_succ, List.getElem_cons_zero, Act.put, List.setIfInBounds_toArray, List.set_cons_succ, List.set_cons_zero])
  refine wpAnyH_take (i := 21) (v := ?_) rfl (by kernel_rfl) (by kernel_rfl) (by kernel_rfl) (fun _ _ _ h => h) (Or.inl ⟨by kernel_rfl, ?_⟩) (by assumption) ?_
  rotate_left
  · intro w hSw
    try dsimp only at hSw
    go_simp
    try with_reducible rfl
  (try simp only [List.getElem_toArray, List.getElem_cons_succ, List.getElem_cons_zero, Act.put, List.setIfInBounds_toArray, List.set_cons_succ, List.set_cons_zero])
  refine wpAnyH_take (i := 22) (v := ?_) rfl (by kernel_rfl) (by kernel_rfl) (by kernel_rfl) (fun _ _ _ h => h) (Or.inl ⟨by kernel_rfl, ?_⟩) (by assumption) ?_
  rotate_left
  · intro w hSw
    try dsimp only at hSw
    go_simp
    try with_reducible rfl
  (try simp only [List.getElem_toArray, List.getElem_cons_succ, List.getElem_cons_zero, Act.put, List.setIfInBounds_toArray, List.set_cons_succ, List.set_cons_zero])
  refine wpAnyH_take (i := 23) (v := ?_) rfl (by kernel_rfl) (by kernel_rfl) (by kernel_rfl) (fun _ _ _ h => h) (Or.inl ⟨by kernel_rfl, ?_⟩) (by assumption) ?_
  rotate_left
  · intro w hSw
    try dsimp only at hSw
    go_simp
    try with_reducible rfl
  (try simp only [List.getElem_toArray, List.getElem_cons_succ, List.getElem_cons_zero, Act.put, List.setIfInBounds_toArray, List.set_cons_succ, List.set_cons_zero])
  refine wpAnyH_take (i := 24) (v := ?_) rfl (by kernel_rfl) (by kernel_rfl) (by kernel_rfl) (fun _ _ _ h => h) (Or.inl ⟨by kernel_rfl, ?_⟩) (by assumption) ?_
  rotate_left
  · intro w hSw
    try dsimp only at hSw
    go_simp
    try with_reducible rfl
  (try simp only [List.getElem_toArray, List.getElem_cons_succ, List.getElem_cons_zero, Act.put, List.setIfInBounds_toArray, List.set_cons_succ, List.set_cons_zero])
  refine wpAnyH_take (i := 25) (v := ?_) rfl (by kernel_rfl) (by kernel_rfl) (by kernel_rfl) (fun _ _ _ h => h) (Or.inl ⟨by kernel_rfl, ?_⟩) (by assumption) ?_
  rotate_left
  · intro w hSw
    try dsimp only at hSw
    go_simp
    try with_reducible rfl
  (try simp only [List.getElem_toArray, List.getElem_cons_succ, List.getElem_cons_zero, Act.put, List.setIfInBounds_toArray, List.set_cons_succ, List.set_cons_zero])
  refine wpAnyH_take (i := 26) (v := ?_) rfl (by kernel_rfl) (by kernel_rfl) (by kernel_rfl) (fun _ _ _ h => h) (Or.inl ⟨by kernel_rfl, ?_⟩) (by assumption) ?_
  rotate_left
  · intro w hSw
    try dsimp only at hSw
    go_simp
    try with_reducible rfl
  (try simp only [List.getElem_toArray, List.getElem_cons_succ, List.getElem_cons_zero, Act.put, List.setIfInBounds_toArray, List.set_cons_succ, List.set_cons_zero])
  refine wpAnyH_take (i := 27) (v := ?_) rfl (by kernel_rfl) (by kernel_rfl) (by kernel_rfl) (fun _ _ _ h => h) (Or.inl ⟨by kernel_rfl, ?_⟩) (by assumption) ?_
  rotate_left
  · intro w hSw
    try dsimp only at hSw
    go_simp
    try with_reducible rfl
  (try simp only [List.getElem_toArray, List.getElem_cons_succ, List.getElem_cons_zero, Act.put, List.setIfInBounds_toArray, List.set_cons_succ, List.set_cons_zero])
  refine wpAnyH_take (i := 28) (v := ?_) rfl (by kernel_rfl) (by kernel_rfl) (by kernel_rfl) (fun _ _ _ h => h) (Or.inl ⟨by kernel_rfl, ?_⟩) (by assumption) ?_
  rotate_left
  · intro w hSw
    try dsimp only at hSw
    go_simp
    try with_reducible rfl
  (try simp only [List.getElem_toArray, List.getElem_cons_succ, List.getElem_cons_zero, Act.put, List.setIfInBounds_toArray, List.set_cons_succ, List.set_cons_zero])
  refine wpAnyH_take (i := 29) (v := ?_) rfl (by kernel_rfl) (by kernel_rfl) (by kernel_rfl) (fun _ _ _ h => h) (Or.inl ⟨by kernel_rfl, ?_⟩) (by assumption) ?_
  rotate_left
  · intro w hSw
    try dsimp only at hSw
    go_simp
    try with_reducible rfl
  (try simp only [List.getElem_toArray, List.getElem_cons_succ, List.getElem_cons_zero, Act.put, List.setIfInBounds_toArray, List.set_cons_succ, List.set_cons_zero])
  refine wpAnyH_take (i := 30) (v := ?_) rfl (by kernel_rfl) (by kernel_rfl) (by kernel_rfl) (fun _ _ _ h => h) (Or.inl ⟨by kernel_rfl, ?_⟩) (by assumption) ?_
  rotate_left
  · intro w hSw
    try dsimp only at hSw
    go_simp
    try with_reducible rfl
  (try simp only [List.getElem_toArray, List.getElem_cons_succ, List.getElem_cons_zero, Act.put, List.setIfInBounds_toArray, List.set_cons_succ, List.set_cons_zero])
  refine wpAnyH_take (i := 31) (v := ?_) rfl (by kernel_rfl) (by kernel_rfl) (by kernel_rfl) (fun _ _ _ h => h) (Or.inl ⟨by kernel_rfl, ?_⟩) (by assumption) ?_
  rotate_left
  · intro w hSw
    try dsimp only at hSw
    go_simp
    try with_reducible rfl
  (try simp only [List.getElem_toArray, List.getElem_cons_succ, List.getElem_cons_zero, Act.put, List.setIfInBounds_toArray, List.set_cons_succ, List.set_cons_zero])
  refine wpAnyH_take (i := 32) (v := ?_) rfl (by kernel_rfl) (by kernel_rfl) (by kernel_rfl) (fun _ _ _ h => h) (Or.inl ⟨by kernel_rfl, ?_⟩) (by assumption) ?_
  rotate_left
  · intro w hSw
    try dsimp only at hSw
    go_simp
    try with_reducible rfl
  (try simp only [List.getElem_toArray, List.getElem_cons_succ, List.getElem_cons_zero, Act.put, List.setIfInBounds_toArray, List.set_cons_succ, List.set_cons_zero])
  refine wpAnyH_done (by kernel_rfl) ?_ _
  have d13 : w1.cell? ⟨R, 13, none⟩ = some (.int .i64 (r.kd : Int)) := (HW.out.cell 13).trans rfl
  have hkd : ((r.kd : Int) == 1) = (r.kd == 1) := by rw [Bool.eq_iff_iff]; simp; omega
  have ht := rtext_c (r.kd == 1) R l r w1 ⟨_, _, _, _, HW.out⟩ hz.2.2.2.2.2.1 hz.1
  have m0 : (0 : Int) ≤ (i : Int) + 2 := by omega
  have m1 : (i : Int) + 2 ≤ (i : Int) + 2 + (r.rw.length : Int) := by omega
  have m2 : (i : Int) + 2 + (r.rw.length : Int) ≤ (l.length : Int) := by omega
  have m3 : ((i : Int) + 2).toNat = i + 2 := by omega
  have hex : (S l).extract (i + 2) (i + 2 + r.rw.length) = S ((l.drop (i + 2)).take r.rw.length) := by
    rw [Lib.extract_eq, list_S, show i + 2 + r.rw.length - (i + 2) = r.rw.length by omega]
  have hlo := fun w => rlower_c (S ((l.drop (i + 2)).take r.rw.length)) w (by rw [size_S, List.length_take]; omega)
  rw [list_S, ← hex] at hlo
  have HE := Lib.hid hex
  clear hHeld2 hHeld3 hex
  rw [← HR2.out] at ht
  rw [← HNM.out] at hlo
  go_wp2_with (first
    | (go_at_call 28; refine ht.mono ?_; rintro e w2 ⟨rfl, ⟨vo2, vt2, va2, ps2, h2⟩, hb2⟩; have H2 := Lib.hid h2; have HB2 := Lib.hid (HB1.out.trans hb2); clear h2 hb2)
    | (go_at_call 60; refine (hlo _).mono ?_; rintro e w3 ⟨rfl, hb3⟩; have h3 := H2.out.keep hb3; have HB3 := Lib.hid (HB2.out.trans (hb3.mono (Nat.le_of_lt H2.out.lt))); have y2 : _ = some (Value.int .i64 (r2.st : Int)) := (h3.cell 2).trans rfl; have y4 : _ = some (Value.int .i64 r2.tg.k) := (h3.cell 4).trans rfl; have y5 : _ = some (Value.string (S r2.tg.n)) := (h3.cell 5).trans rfl; have y6 : _ = some (Value.string (S r2.tg.x)) := (h3.cell 6).trans rfl; have y7 : _ = some va2 := (h3.cell 7).trans rfl; have y8 : _ = some (Value.bool r2.tg.c) := (h3.cell 8).trans rfl; have x2 := h3.froz 2; have x4 := h3.froz 4; have x5 := h3.froz 5; have x6 := h3.froz 6; have x7 := h3.froz 7; have x8 := h3.froz 8; have HW3 := Lib.hid (h3.newTagN 2 nm); clear hb3 h3))
  go_ret
  exact ⟨ret_int (by omega), ⟨_, _, _, _, HW3.out⟩, below_set _ (below_set _ (below_set _ (below_set _ (below_set _ (below_set _ HB3.out)))))⟩
end Go.Proofs.YtklpbkjplecdpaaGreat.Tok
