/-
  The reader of package lex in memory; contracts of next, passBlanks, stood.
-/
import Derived.Test.YtbchjmldjdhjiaaLxwBuild
import Derived.StillTailTactics
namespace Go.Proofs.Ytbchjmldjdhjiaa.Lxw
open Go.RowKit Go.Proofs.Ytbchjmldjdhjiaa.Oct Go.Proofs.Ytbchjmldjdhjiaa.Lex

/-- The reader's box. -/
abbrev boxR (l : List UInt8) (b k p : Int) : Array Value := #[.string (S l), .int .i64 b, .int .i64 k, .int .i64 p]
def Rx (R : Nat) (l : List UInt8) (b k p : Int) (w : World) : Prop := w.heap[R]? = some (.cells (boxR l b k p) 49 (0, 0))
/-- All that lay in w lies as it lay, but for the block R. -/
structure Kr (R : Nat) (w w' : World) : Prop where
  os : w'.os = w.os
  tape : w'.tape = w.tape
  output : w'.output = w.output
  size : w.heap.size ≤ w'.heap.size
  block : ∀ k, k < w.heap.size → k ≠ R → w'.heap[k]? = w.heap[k]?
theorem Kr.refl (R : Nat) (w : World) : Kr R w w := ⟨rfl, rfl, rfl, Nat.le_refl _, fun _ _ _ => rfl⟩
theorem Kr.trans {R : Nat} {a b c : World} (h : Kr R a b) (k : Kr R b c) : Kr R a c :=
  ⟨k.os.trans h.os, k.tape.trans h.tape, k.output.trans h.output, Nat.le_trans h.size k.size, fun i hi hR => (k.block i (Nat.lt_of_lt_of_le hi h.size) hR).trans (h.block i hi hR)⟩
theorem Kr.of {R : Nat} {w w' : World} (h : Below w.heap.size w w') : Kr R w w' := ⟨h.os, h.tape, h.output, h.size, fun k hk _ => h.block k hk⟩
theorem Kr.set {R i : Nat} (w : World) (v : Value) : Kr R w (w.setCell ⟨R, i, none⟩ v) :=
  ⟨rfl, rfl, rfl, by simp [World.setCell], fun k _ hR => heap_setCell_other _ _ _ _ (by simpa using hR)⟩
theorem Kr.drew {R : Nat} {a w : World} (h : Kr R a w) : Kr R a w.drew := ⟨h.os, h.tape, h.output, h.size, h.block⟩
theorem Kr.kp {R : Nat} {w w' : World} (h : Kr R w w') : Kp R w.heap.size w w' := ⟨h.os, h.tape, h.output, h.size, h.block⟩
section
variable {R : Nat} {l : List UInt8} {b k p : Int} {w : World}
theorem Rx.lt (h : Rx R l b k p w) : R < w.heap.size := (Array.getElem?_eq_some_iff.1 h).1
theorem Rx.keep {w' : World} (h : Rx R l b k p w) (hb : Below w.heap.size w w') : Rx R l b k p w' := (hb.block R h.lt).trans h
theorem Rx.at_ (h : Rx R l b k p w) (j : Int) : Rx R l b j p (w.setCell ⟨R, 2, none⟩ (.int .i64 j)) := heap_setCell_same w R 2 _ _ _ h
theorem Rx.place (h : Rx R l b k p w) (j : Int) : Rx R l b k j (w.setCell ⟨R, 3, none⟩ (.int .i64 j)) := heap_setCell_same w R 3 _ _ _ h
theorem Rx.drew (h : Rx R l b k p w) : Rx R l b k p w.drew := h
end
structure RxC (R : Nat) (l : List UInt8) (b k p : Int) (w : World) : Prop where
  c0 : w.cell? ⟨R, 0, none⟩ = some (.string (S l))
  c1 : w.cell? ⟨R, 1, none⟩ = some (.int .i64 b)
  c2 : w.cell? ⟨R, 2, none⟩ = some (.int .i64 k)
  c3 : w.cell? ⟨R, 3, none⟩ = some (.int .i64 p)
  z2 : w.frozen? ⟨R, 2, none⟩ = false
  z3 : w.frozen? ⟨R, 3, none⟩ = false
theorem Rx.cells {R : Nat} {l : List UInt8} {b k p : Int} {w : World} (h : Rx R l b k p w) : RxC R l b k p w :=
  ⟨(cell_of_row w R 0 _ _ _ h).trans rfl, (cell_of_row w R 1 _ _ _ h).trans rfl, (cell_of_row w R 2 _ _ _ h).trans rfl, (cell_of_row w R 3 _ _ _ h).trans rfl, frozen_of_row w R 2 _ _ h, frozen_of_row w R 3 _ _ h⟩

/-- The octet that is read next; 0 behind the last. -/
def nextO (l : List UInt8) (k : Nat) : UInt8 := l.getD k 0
set_option maxHeartbeats 1000000 in
set_option maxRecDepth 100000 in
theorem next_c {R : Nat} {l : List UInt8} {b p : Int} {k : Nat} (hk : k ≤ l.length) (hl : l.length ≤ 4194304) (w : World) (h : Rx R l b k p w) :
    Calls Try.prog 39 #[.pointer (some ⟨R, 0, none⟩)] w fun e w' => e = .returned (.int .u8 ((nextO l k).toNat : Int)) ∧ ∃ q, w' = w.drewN q := by
  have hsz : ((S l).size : Int) = (l.length : Int) := by rw [size_S]
  have hsn : (S l).size = l.length := size_S l
  obtain ⟨c0, c1, c2, c3, z2, z3⟩ := h.cells
  have i0 : (0 : Int) ≤ (k : Int) := by omega
  have i1 : (k : Int) ≤ (l.length : Int) := by omega
  have i2 : (l.length : Int) ≤ 4194304 := by omega
  by_cases hlt : k < l.length
  · have hn : nextO l k = l[k] := by unfold nextO; simp [hlt]
    rw [hn]
    have h1 := at_S l k hlt
    have hcb : ((l[k]).toNat : Int) ≤ 255 := by have := (l[k]).toNat_lt; omega
    have i3 : (k : Int) < (l.length : Int) := by omega
    have hq : ((k : Int) == (l.length : Int)) = false := by rw [beq_eq_false_iff_ne]; omega
    have hq2 : ¬ (k : Int) = (l.length : Int) := by omega
    have hq3 : ¬ k = l.length := by omega
    clear hn h
    generalize l[k] = c at *
    go_enter Try.func39, Try.ntmps39
    go_wp2
    go_quiet (fail)
    go_wp2
    go_quiet (fail)
    go_wp2
    go_ret
    exact ⟨rfl, _, World.drewN_drewN _ _ _⟩
  · have hn : nextO l k = 0 := by unfold nextO; simp [hlt]
    rw [hn]
    have hq : ((k : Int) == (l.length : Int)) = true := by rw [beq_iff_eq]; omega
    have hq2 : (k : Int) = (l.length : Int) := by omega
    have hq4 := Lib.hid hq2
    clear hn h hq2 hk hlt i0 i1
    go_enter Try.func39, Try.ntmps39
    go_wp2
    go_quiet (fail)
    go_wp2
    go_ret
    exact ⟨rfl, _, rfl⟩
theorem next_b {R : Nat} {l : List UInt8} {b p : Int} {k : Nat} (hk : k ≤ l.length) (hl : l.length ≤ 4194304) (w : World) (h : Rx R l b k p w) :
    Calls Try.prog 39 #[.pointer (some ⟨R, 0, none⟩)] w fun e w' => e = .returned (.int .u8 ((nextO l k).toNat : Int)) ∧ Below w.heap.size w w' :=
  (next_c hk hl w h).mono fun _ _ ⟨h1, _, h2⟩ => ⟨h1, grown_q h2⟩

set_option maxHeartbeats 1000000 in
set_option maxRecDepth 100000 in
theorem blanks_c {R : Nat} {l : List UInt8} {b p : Int} {k : Nat} (hk : k ≤ l.length) (hl : l.length ≤ 4194304) (w : World) (h : Rx R l b k p w) :
    Calls Try.prog 24 #[.pointer (some ⟨R, 0, none⟩)] w fun e w' => e = .returned (.tuple #[]) ∧ Rx R l b ((k + skipN (l.drop k) : Nat) : Int) p w' ∧ Kr R w w' := by
  have hsz : ((S l).size : Int) = (l.length : Int) := by rw [size_S]
  have hsn : (S l).size = l.length := size_S l
  obtain ⟨c0, c1, c2, c3, z2, z3⟩ := h.cells
  have i0 : (0 : Int) ≤ (k : Int) := by omega
  have i1 : (k : Int) ≤ (l.length : Int) := by omega
  have i2 : (l.length : Int) ≤ 4194304 := by omega
  have hcut := cutFrom l k
  have hah := fun W => ahead_c (l.drop k) (by rw [List.length_drop]; omega) W
  rw [← hcut] at hah
  have hsk := skip_le (l.drop k)
  rw [List.length_drop] at hsk
  obtain ⟨n, hn⟩ : ∃ n, n = k + skipN (l.drop k) := ⟨_, rfl⟩
  have hni : (k : Int) + ((skipN (l.drop k) : Nat) : Int) = (n : Int) := by omega
  have hnb : (n : Int) ≤ 4194304 := by omega
  have hnw : IntKind.i64.wrap (n : Int) = (n : Int) := by rw [IntKind.wrap_i64]; omega
  rw [← hn]
  have HX := Lib.hid (And.intro (h.at_ (n : Int)).drew ((Kr.set (R := R) (i := 2) w (.int .i64 (n : Int))).drew))
  generalize skipN (l.drop k) = q at *
  clear hn hcut hsk h
  go_enter Try.func24, Try.ntmps24
  go_wp2_with fail
  go_still_tail 15, (by kernel_rfl)
  still_call ((hah _).mono fun _ _ h => ⟨h.1, h.2.symm⟩)
  repeat still_step
  refine wpStill_nil ?_
  change wpList _ _ _ _ _ w.drew
  go_wp2_with fail
  go_end0
  exact ⟨rfl, HX.out.1, HX.out.2⟩

theorem rdemand_c (R : Nat) (p : Int) (w : World) : Calls Try.prog 78 #[.pointer (some ⟨R, 0, none⟩), .bool true, .int .i64 p] w fun e w' => e = .returned (.tuple #[]) ∧ w = w' := by
  go_enter Try.func78, Try.ntmps78
  go_wp2_with (go_at_call 51; refine (demand_yes _ _).mono ?_; rintro e w' ⟨rfl, rfl⟩)
  go_end0
  exact ⟨rfl, rfl⟩
/-- What an octet behind a \\ stands for. -/
def escV (c : UInt8) : UInt8 := if c = 110 then 10 else if c = 116 then 9 else c
theorem short_tab : ∀ c : UInt8, (c = 110 ∨ c = 116 ∨ c = 92 ∨ c = 34) → ∃ k : Nat, Lib.indexByte [110, 116, 92, 34] c = (k : Int) ∧ k < 4 ∧ ∀ h : k < (⟨#[10, 9, 92, 34]⟩ : ByteArray).size, (⟨#[10, 9, 92, 34]⟩ : ByteArray)[k]'h = escV c := by
  rintro c (rfl | rfl | rfl | rfl)
  · exact ⟨0, by decide, by decide, fun _ => rfl⟩
  · exact ⟨1, by decide, by decide, fun _ => rfl⟩
  · exact ⟨2, by decide, by decide, fun _ => rfl⟩
  · exact ⟨3, by decide, by decide, fun _ => rfl⟩
theorem next_q {R : Nat} {l : List UInt8} {b p : Int} {k : Nat} (hk : k < l.length) (hl : l.length ≤ 4194304) (w : World) (h : Rx R l b k p w) (n : Nat) :
    Calls Try.prog 39 #[.pointer (some ⟨R, 0, none⟩)] (w.drewN n) fun e w' => e = .returned (.int .u8 ((l[k]).toNat : Int)) ∧ ∃ q, w' = (w.drewN n).drewN q := by
  have hne := next_c (by omega : k ≤ l.length) hl (w.drewN n) h
  have hn : nextO l k = l[k] := by unfold nextO; simp [hk]
  rw [hn] at hne
  exact hne
set_option maxHeartbeats 1000000 in
set_option maxRecDepth 100000 in
theorem stood_plain {R : Nat} {l : List UInt8} {b p : Int} {k : Nat} (hk : k < l.length) (hl : l.length ≤ 4194304) (w : World) (h : Rx R l b k p w) (h1 : l[k] ≠ 92) (h2 : l[k] ≠ 10) :
    Calls Try.prog 62 #[.pointer (some ⟨R, 0, none⟩)] w fun e w' => e = .returned (.int .u8 ((l[k]).toNat : Int)) ∧ Rx R l b k p w' ∧ Kr R w w' := by
  have hne := next_q hk hl w h
  obtain ⟨c0, c1, c2, c3, z2, z3⟩ := h.cells
  have e1 : (((l[k]).toNat : Int) == 92) = false := oct_ne (n := 92) h1 (by decide)
  have e2 : (((l[k]).toNat : Int) == 10) = false := oct_ne (n := 10) h2 (by decide)
  have n1 : ¬ ((l[k]).toNat : Int) = 92 := by rw [beq_eq_false_iff_ne] at e1; exact e1
  have n2 : ¬ ((l[k]).toNat : Int) = 10 := by rw [beq_eq_false_iff_ne] at e2; exact e2
  have f1 : (((l[k]).toNat : Int) != 92) = true := by rw [bne, e1]; rfl
  have f2 : (((l[k]).toNat : Int) != 10) = true := by rw [bne, e2]; rfl
  have hcb : ((l[k]).toNat : Int) ≤ 255 := by have := (l[k]).toNat_lt; omega
  have HW := Lib.hid h
  clear h h1 h2
  generalize l[k] = c at *
  go_enter Try.func62, Try.ntmps62
  go_wp2
  go_quiet ((go_at_call 39; exact Calls.quiet_of (hne _)))
  have H2 := Lib.hid (And.intro (HW.out.keep (Oct.below_drewN (Below.refl _ w) nq)) (Kr.of (R := R) (Oct.below_drewN (Below.refl _ w) nq)))
  generalize w.drewN nq = w2 at H2 ⊢
  go_wp2_with (go_at_call 78; refine (rdemand_c _ _ _).mono ?_; rintro e w' ⟨rfl, rfl⟩)
  go_ret
  exact ⟨rfl, H2.out.1, H2.out.2⟩
set_option maxHeartbeats 1000000 in
set_option maxRecDepth 100000 in
theorem stood_esc {R : Nat} {l : List UInt8} {b p : Int} {k : Nat} (hk : k + 1 < l.length) (hl : l.length ≤ 4194304) (w : World) (h : Rx R l b k p w) (h1 : l[k] = 92) (h2 : l[k + 1] = 110 ∨ l[k + 1] = 116 ∨ l[k + 1] = 92 ∨ l[k + 1] = 34) :
    Calls Try.prog 62 #[.pointer (some ⟨R, 0, none⟩)] w fun e w' => e = .returned (.int .u8 ((escV l[k + 1]).toNat : Int)) ∧ Rx R l b ((k + 1 : Nat) : Int) p w' ∧ Kr R w w' := by
  have hne := next_q (by omega : k < l.length) hl w h
  have HNe := Lib.hid (fun W (h : Rx R l b ((k + 1 : Nat) : Int) p W) => next_q hk hl W h 0)
  obtain ⟨c0, c1, c2, c3, z2, z3⟩ := h.cells
  have e1 : ((l[k]).toNat : Int) = 92 := by rw [h1]; rfl
  rw [e1] at hne
  obtain ⟨j, hj, hj4, hjt⟩ := short_tab _ h2
  have hcb : ((l[k + 1]).toNat : Int) ≤ 255 := by have := (l[k + 1]).toNat_lt; omega
  have hix := fun w => Try.strings_IndexByte (S [110, 116, 92, 34]) ((l[k + 1]).toNat : Int) w
  rw [list_S, show ((l[k + 1]).toNat : Int).toNat.toUInt8 = l[k + 1] by simp, hj] at hix
  replace hix : ∀ w, Calls Try.prog 15 #[.string ⟨#[110, 116, 92, 34]⟩, .int .u8 ((l[k + 1]).toNat : Int)] w fun e w' => e = .returned (.int .i64 (j : Int)) ∧ w' = w := hix
  have k0 : (k : Int) ≤ 4194304 := by omega
  have k1 : (0 : Int) ≤ (k : Int) := by omega
  have k2 : (k : Int) + 1 = ((k + 1 : Nat) : Int) := by omega
  have j0 : (0 : Int) ≤ (j : Int) := by omega
  have j1 : (j : Int) < 4 := by omega
  have hev : ((escV l[k + 1]).toNat : Int) ≤ 255 := by have := (escV l[k + 1]).toNat_lt; omega
  have HW := Lib.hid h
  clear h h1 h2 hj e1
  generalize escV l[k + 1] = ev at *
  generalize l[k + 1] = c at *
  generalize k + 1 = m at *
  go_enter Try.func62, Try.ntmps62
  go_wp2
  go_quiet ((go_at_call 39; exact Calls.quiet_of (hne _)))
  have H2 := Lib.hid (And.intro (HW.out.keep (Oct.below_drewN (Below.refl _ w) nq)) (Kr.of (R := R) (Oct.below_drewN (Below.refl _ w) nq)))
  clear c0 c1 c2 c3 z2 z3
  generalize w.drewN nq = w2 at H2 ⊢
  obtain ⟨c0, c1, c2, c3, z2, z3⟩ := H2.out.1.cells
  have H3 := Lib.hid (And.intro (H2.out.1.at_ (m : Int)) (H2.out.2.trans (Kr.set (R := R) (i := 2) w2 (.int .i64 (m : Int)))))
  have hne3 := HNe.out _ H3.out.1
  go_wp2_with fail
  refine hne3.mono ?_
  clear hne3
  rintro e w4 ⟨rfl, q4, hw4⟩
  have hb4 : Below (w2.setCell ⟨R, 2, none⟩ (.int .i64 (m : Int))).heap.size (w2.setCell ⟨R, 2, none⟩ (.int .i64 (m : Int))) w4 := grown_q hw4
  have H4 := Lib.hid (And.intro (H3.out.1.keep hb4) (H3.out.2.trans (Kr.of hb4)))
  clear hb4 hw4
  go_wp2_with (first
    | (go_at_call 15; refine (hix _).mono ?_; rintro e w5 ⟨rfl, rfl⟩)
    | (go_at_call 78; refine (rdemand_c _ _ _).mono ?_; rintro e w5 ⟨rfl, rfl⟩))
  go_ret
  exact ⟨rfl, H4.out.1, H4.out.2⟩
end Go.Proofs.Ytbchjmldjdhjiaa.Lxw
