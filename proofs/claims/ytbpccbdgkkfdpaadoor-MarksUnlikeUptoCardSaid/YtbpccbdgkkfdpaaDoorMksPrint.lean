/-
  Contract of marks.Print.
-/
import Derived.Test.YtbpccbdgkkfdpaaDoorMksPure
import Derived.Deep.RegionHeld3
import Derived.Deep.DrawnRows
namespace Go.Proofs.YtbpccbdgkkfdpaaDoor.Mks
open Go.RowKit Go.Proofs.YtbpccbdgkkfdpaaDoor.Oct Go.Proofs.YtbpccbdgkkfdpaaDoor.Num Go.Proofs.YtbpccbdgkkfdpaaDoor.Scn Go.Proofs.YtbpccbdgkkfdpaaDoor.Tab Go.Proofs.YtbpccbdgkkfdpaaDoor.Pct Go.Proofs.YtbpccbdgkkfdpaaDoor.Utf
attribute [local go_sem ↓] Go.wp_at_zero Go.wp_at_succ

/-- All of w as it lay, and behind it the block o. -/
def Kp (w : World) (o : Obj) (Y : World) : Prop := Below w.heap.size w Y ∧ Y.heap[w.heap.size]? = some o
theorem Kp.lt {w Y : World} {o : Obj} (h : Kp w o Y) : w.heap.size < Y.heap.size := by
  have := h.2
  exact (Array.getElem?_eq_some_iff.1 this).1
theorem Kp.ne {w Y : World} {o : Obj} (h : Kp w o Y) : Y.heap.size ≠ w.heap.size := Nat.ne_of_gt h.lt
theorem Kp.first (w : World) (o : Obj) : Kp w o (w.alloc o) := ⟨(Below.refl _ w).alloc (Nat.le_refl _) _, heap_alloc_new w o⟩
theorem Kp.next {w Y Z : World} {o : Obj} (h : Kp w o Y) (b : Below Y.heap.size Y Z) : Kp w o Z :=
  ⟨h.1.trans (b.mono (Nat.le_of_lt h.lt)), (b.block _ h.lt).trans h.2⟩
theorem Kp.alloc {w Y : World} {o : Obj} (h : Kp w o Y) (p : Obj) : Kp w o (Y.alloc p) := h.next ((Below.refl _ Y).alloc (Nat.le_refl _) _)
theorem Kp.drew {w Y : World} {o : Obj} (h : Kp w o Y) : Kp w o Y.drew := ⟨⟨h.1.os, h.1.tape, h.1.output, h.1.size, h.1.block⟩, h.2⟩
/-- The block that Print writes its eight texts into. -/
abbrev told0 : Array Value := #[.string ⟨#[]⟩, .string ⟨#[]⟩, .string ⟨#[]⟩, .string ⟨#[]⟩, .string ⟨#[]⟩, .string ⟨#[]⟩, .string ⟨#[]⟩, .string ⟨#[]⟩]
def Tb (b : Nat) (Y : World) : Prop := Y.heap[b]? = some (.cells told0 38 (0, 0))
theorem Tb.new {Y Z : World} (b : Below (Y.alloc (.cells told0 38)).heap.size (Y.alloc (.cells told0 38)) Z) : Tb Y.heap.size Z := (b.block _ (by simp)).trans (heap_alloc_new Y _)
theorem Tb.newD {w Z : World} {o : Obj} (b : Below ((w.alloc o).alloc (.cells told0 38)).drew.heap.size ((w.alloc o).alloc (.cells told0 38)).drew Z) : Tb (w.heap.size + 1) Z :=
  (b.block _ (by show _ < ((w.alloc o).alloc (.cells told0 38)).heap.size; simp)).trans (by
    show ((w.alloc o).alloc (.cells told0 38)).heap[w.heap.size + 1]? = _
    have := heap_alloc_new (w.alloc o) (.cells told0 38)
    rw [show (w.alloc o).heap.size = w.heap.size + 1 by simp] at this
    exact this)
theorem Tb.next {g : Nat} {Y Z : World} (h : Tb g Y) (b : Below Y.heap.size Y Z) : Tb g Z := (b.block _ (Array.getElem?_eq_some_iff.1 h).1).trans h
theorem Tb.cell {g : Nat} {Y : World} (h : Tb g Y) (j : Nat) (hj : j < 8) : Y.cell? ⟨g, j, none⟩ = some (.string ⟨#[]⟩) ∧ Y.frozen? ⟨g, j, none⟩ = false := by
  refine ⟨?_, frozen_of_row Y g j _ _ h⟩
  rw [cell_of_row Y g j _ _ _ h]
  have : j = 0 ∨ j = 1 ∨ j = 2 ∨ j = 3 ∨ j = 4 ∨ j = 5 ∨ j = 6 ∨ j = 7 := by omega
  rcases this with e | e | e | e | e | e | e | e <;> rw [e] <;> rfl
theorem row_set {w : World} {g j : Nat} {cs : Array Value} {t : TypeId} {u : Value} (h : w.heap[g]? = some (.cells cs t (0, 0))) : (w.setCell ⟨g, j, none⟩ u).heap[g]? = some (.cells (cs.setIfInBounds j u) t (0, 0)) := by
  have hlt : g < w.heap.size := (Array.getElem?_eq_some_iff.1 h).1
  have h' : w.heap[g] = .cells cs t (0, 0) := by simpa [Array.getElem?_eq_getElem hlt] using h
  show (w.heap.modify g _)[g]? = _
  rw [Array.getElem?_eq_getElem (by simpa using hlt), Array.getElem_modify_self, h']
  rfl
/-- The eight texts, laid into that block. -/
def laid8 (Y : World) (g : Nat) (r0 r1 r2 r3 r4 r5 r6 r7 : ByteArray) : World :=
  (((((((Y.setCell ⟨g, 0, none⟩ (.string r0)).setCell ⟨g, 1, none⟩ (.string r1)).setCell ⟨g, 2, none⟩ (.string r2)).setCell ⟨g, 3, none⟩ (.string r3)).setCell ⟨g, 4, none⟩ (.string r4)).setCell ⟨g, 5, none⟩ (.string r5)).setCell ⟨g, 6, none⟩ (.string r6)).setCell ⟨g, 7, none⟩ (.string r7)
abbrev toldR (r0 r1 r2 r3 r4 r5 r6 r7 : ByteArray) : Array Value := #[.string r0, .string r1, .string r2, .string r3, .string r4, .string r5, .string r6, .string r7]
theorem row_told {X : World} {g : Nat} {r0 r1 r2 r3 r4 r5 r6 r7 : ByteArray} (h : X.heap[g]? = some (.cells (toldR r0 r1 r2 r3 r4 r5 r6 r7) 38 (0, 0))) :
    ∀ (j : Nat) x, [r0, r1, r2, r3, r4, r5, r6, r7][j]? = some x → X.cell? ⟨g, 0 + j, none⟩ = some (.string x) := fun j x hx => by
  rw [Nat.zero_add, cell_of_row X g j _ _ _ h]
  have hj : j < 8 := (List.getElem?_eq_some_iff.1 hx).1
  have : j = 0 ∨ j = 1 ∨ j = 2 ∨ j = 3 ∨ j = 4 ∨ j = 5 ∨ j = 6 ∨ j = 7 := by omega
  rcases this with e | e | e | e | e | e | e | e <;> subst e <;> (injection hx with hx; subst hx; rfl)
theorem laid8_row {Y : World} {g : Nat} (h : Tb g Y) (r0 r1 r2 r3 r4 r5 r6 r7 : ByteArray) : (laid8 Y g r0 r1 r2 r3 r4 r5 r6 r7).heap[g]? = some (.cells (toldR r0 r1 r2 r3 r4 r5 r6 r7) 38 (0, 0)) := by
  have h0 : Y.heap[g]? = some (.cells told0 38 (0, 0)) := h
  have h8 := row_set (j := 7) (u := .string r7) (row_set (j := 6) (u := .string r6) (row_set (j := 5) (u := .string r5) (row_set (j := 4) (u := .string r4) (row_set (j := 3) (u := .string r3) (row_set (j := 2) (u := .string r2) (row_set (j := 1) (u := .string r1) (row_set (j := 0) (u := .string r0) h0)))))))
  simp only [told0, List.setIfInBounds_toArray, List.set_cons_zero, List.set_cons_succ] at h8
  exact h8
theorem laid8_below {w Y : World} {g : Nat} (hb : Below w.heap.size w Y) (hg : w.heap.size ≤ g) (r0 r1 r2 r3 r4 r5 r6 r7 : ByteArray) : Below w.heap.size w (laid8 Y g r0 r1 r2 r3 r4 r5 r6 r7) :=
  (((((((hb.setCell hg _).setCell hg _).setCell hg _).setCell hg _).setCell hg _).setCell hg _).setCell hg _).setCell hg _
theorem laid8_lt {Y : World} {g : Nat} (h : Tb g Y) (r0 r1 r2 r3 r4 r5 r6 r7 : ByteArray) : g < (laid8 Y g r0 r1 r2 r3 r4 r5 r6 r7).heap.size := (Array.getElem?_eq_some_iff.1 (laid8_row h r0 r1 r2 r3 r4 r5 r6 r7)).1
/-- The cells of a state's box. -/
abbrev boxO (k : Int) (E A : ByteArray) (d : Int) (P R : ByteArray) (n : Int) (W : ByteArray) : Obj := .cells #[.int .i64 k, .string E, .string A, .int .u8 d, .string P, .string R, .int .i64 n, .string W] 24
theorem Kp.cells {w Y : World} {k : Int} {E A : ByteArray} {d : Int} {P R : ByteArray} {n : Int} {W : ByteArray} (h : Kp w (boxO k E A d P R n W) Y) :
    Y.cell? ⟨w.heap.size, 0, none⟩ = some (.int .i64 k) ∧ Y.cell? ⟨w.heap.size, 1, none⟩ = some (.string E) ∧ Y.cell? ⟨w.heap.size, 2, none⟩ = some (.string A) ∧ Y.cell? ⟨w.heap.size, 3, none⟩ = some (.int .u8 d) ∧
      Y.cell? ⟨w.heap.size, 4, none⟩ = some (.string P) ∧ Y.cell? ⟨w.heap.size, 5, none⟩ = some (.string R) ∧ Y.cell? ⟨w.heap.size, 6, none⟩ = some (.int .i64 n) ∧ Y.cell? ⟨w.heap.size, 7, none⟩ = some (.string W) :=
  ⟨cell_of_row Y _ 0 _ _ _ h.2, cell_of_row Y _ 1 _ _ _ h.2, cell_of_row Y _ 2 _ _ _ h.2, cell_of_row Y _ 3 _ _ _ h.2, cell_of_row Y _ 4 _ _ _ h.2, cell_of_row Y _ 5 _ _ _ h.2, cell_of_row Y _ 6 _ _ _ h.2, cell_of_row Y _ 7 _ _ _ h.2⟩

/-- A state as it lies in a call. -/
abbrev stW (s : St) : Value := stV s.k (S s.e) (S s.a) s.d (S s.p) (S s.r) s.n (S s.w)
/-- What comes in is no greater than that. -/
structure Sized (s : St) : Prop where
  k0 : -9223372036854775808 ≤ s.k
  k1 : s.k ≤ 9223372036854775807
  n0 : -9223372036854775808 ≤ s.n
  n1 : s.n ≤ 9223372036854775807
  e : s.e.length ≤ 268435456
  a : s.a.length ≤ 268435456
  p : s.p.length ≤ 268435456
  r : s.r.length ≤ 268435456
  w : s.w.length ≤ 268435456

theorem enc_le (l : List UInt8) : (encT l).length ≤ 12 * l.length := by
  have h1 := enc_len' (rep l)
  have h2 := rep_len (S l)
  rw [list_S, size_S] at h2
  unfold encT
  omega
theorem print_le (n : Int) (h0 : -9223372036854775808 ≤ n) (h1 : n ≤ 9223372036854775807) : (printL n).length ≤ 20 := by
  have h2 := decL_len n.natAbs
  have h3 := lowL_len (u := n.natAbs) (by omega)
  unfold printL
  split
  · rw [List.length_cons]; omega
  · omega
theorem show_le (s : St) (h : Sized s) : (showL s).length ≤ 67 + 12 * (s.e.length + s.a.length + s.p.length + s.r.length + s.w.length) := by
  have e1 := print_le s.k h.k0 h.k1
  have e2 := print_le s.n h.n0 h.n1
  have e3 := print_le (s.d.toNat : Int) (by omega) (by have := s.d.toNat_lt; omega)
  have e4 := enc_le s.e
  have e5 := enc_le s.a
  have e6 := enc_le s.p
  have e7 := enc_le s.r
  have e8 := enc_le s.w
  unfold showL fldsL
  rw [Lib.join_cons]
  simp only [Lib.joinTail, List.map_cons, List.map_nil, List.flatten_cons, List.flatten_nil, List.length_append, List.length_cons, List.length_nil]
  omega

/-- Print's call of Encode, and of Print. -/
abbrev Enc (w : World) (o : Obj) (l r : ByteArray) : Prop := ∀ Y, Kp w o Y → Calls Tryd.prog 15 #[.string l] Y fun e Z => e = .returned (.string r) ∧ Below Y.heap.size Y Z
abbrev Num1 (n : Int) (r : ByteArray) : Prop := ∀ Y, Calls Tryd.prog 14 #[.int .i64 n] Y fun e Z => e = .returned (.string r) ∧ Below Y.heap.size Y Z

set_option maxHeartbeats 4000000 in
set_option maxRecDepth 100000 in
theorem print_w (k : Int) (E A : ByteArray) (d : UInt8) (P R : ByteArray) (n : Int) (W : ByteArray) (w : World) (r0 r1 r2 r3 r4 r5 r6 r7 ans : ByteArray)
    (h0 : Hid (Num1 k r0)) (h1 : Hid (Enc w (boxO k E A d.toNat P R n W) E r1)) (h2 : Hid (Enc w (boxO k E A d.toNat P R n W) A r2)) (h3 : Hid (Num1 d.toNat r3)) (h4 : Hid (Enc w (boxO k E A d.toNat P R n W) P r4)) (h5 : Hid (Enc w (boxO k E A d.toNat P R n W) R r5)) (h6 : Hid (Num1 n r6)) (h7 : Hid (Enc w (boxO k E A d.toNat P R n W) W r7))
    (hj : Hid (∀ b X, (∀ (j : Nat) x, [r0, r1, r2, r3, r4, r5, r6, r7][j]? = some x → X.cell? ⟨b, 0 + j, none⟩ = some (.string x)) → b < X.heap.size → Calls Tryd.prog 16 #[.slice (some ⟨b, 0, none⟩) 8 8, .string ⟨#[124]⟩] X fun e Z => e = .returned (.string ans) ∧ Below X.heap.size X Z)) :
    Calls Tryd.prog 9 #[stV k E A d P R n W] w fun e w' => e = .returned (.string ans) ∧ Below w.heap.size w w' := by
  have hd : (d.toNat : Int) < 256 := by have := d.toNat_lt; omega
  have hd0 : (0 : Int) ≤ d.toNat := by omega
  have hw64 : IntKind.i64.wrap (d.toNat : Int) = (d.toNat : Int) := by rw [IntKind.wrap_i64]; omega
  have K0 := Lib.hid (Kp.first w (boxO k E A d.toNat P R n W))
  obtain ⟨z0, z1, z2, z3, z4, z5, z6, z7⟩ := K0.out.cells
  go_enter Tryd.func9, Tryd.ntmps9
  go_wp2_with fail
  go_region_held3 (fun w' => w'.cell? ⟨w.heap.size, 0, none⟩ = some (.int .i64 k) ∧ w'.cell? ⟨w.heap.size, 1, none⟩ = some (.string E) ∧ w'.cell? ⟨w.heap.size, 2, none⟩ = some (.string A) ∧ w'.cell? ⟨w.heap.size, 3, none⟩ = some (.int .u8 (d.toNat : Int)) ∧ w'.cell? ⟨w.heap.size, 4, none⟩ = some (.string P) ∧ w'.cell? ⟨w.heap.size, 5, none⟩ = some (.string R) ∧ w'.cell? ⟨w.heap.size, 6, none⟩ = some (.int .i64 n) ∧ w'.cell? ⟨w.heap.size, 7, none⟩ = some (.string W))
    (first | with_reducible exact K0.out.drew.cells | with_reducible exact (K0.out.alloc _).drew.cells | with_reducible exact K1.out.cells | with_reducible exact (K1.out.alloc _).cells | with_reducible exact K2.out.cells | with_reducible exact (K2.out.alloc _).cells | with_reducible exact K3.out.cells | with_reducible exact (K3.out.alloc _).cells | with_reducible exact K4.out.cells | with_reducible exact (K4.out.alloc _).cells | with_reducible exact K5.out.cells | with_reducible exact (K5.out.alloc _).cells | with_reducible exact K6.out.cells | with_reducible exact (K6.out.alloc _).cells | with_reducible exact K7.out.cells | with_reducible exact (K7.out.alloc _).cells | with_reducible exact K8.out.cells | with_reducible exact (K8.out.alloc _).cells | (obtain ⟨q0, q1, q2, q3, q4, q5, q6, q7⟩ := K8.out.cells; simp [World.cell?_setCell_far, *]))
    (first
      | (go_at_call 14; with_reducible refine (h0.out _).mono ?_; rintro e Y1 ⟨rfl, b1⟩; have K1 := Lib.hid (Kp.next (by first | with_reducible exact K0.out.drew | with_reducible exact (K0.out.alloc _).drew) b1); have n1 := K1.out.ne; (first | have T1 := Lib.hid (Tb.newD b1) | have T1 := Lib.hid (Tb.new b1) | have T1 := Lib.hid (T0.out.next b1) | skip); clear b1)
      | (go_at_call 15; with_reducible refine (h1.out _ (by first | with_reducible exact K1.out | with_reducible exact K1.out.alloc _)).mono ?_; rintro e Y2 ⟨rfl, b2⟩; have K2 := Lib.hid (Kp.next (by first | with_reducible exact K1.out | with_reducible exact K1.out.alloc _) b2); have n2 := K2.out.ne; (first | have T2 := Lib.hid (Tb.newD b2) | have T2 := Lib.hid (Tb.new b2) | have T2 := Lib.hid (T1.out.next b2) | skip); clear b2)
      | (go_at_call 15; with_reducible refine (h2.out _ (by first | with_reducible exact K2.out | with_reducible exact K2.out.alloc _)).mono ?_; rintro e Y3 ⟨rfl, b3⟩; have K3 := Lib.hid (Kp.next (by first | with_reducible exact K2.out | with_reducible exact K2.out.alloc _) b3); have n3 := K3.out.ne; (first | have T3 := Lib.hid (Tb.newD b3) | have T3 := Lib.hid (Tb.new b3) | have T3 := Lib.hid (T2.out.next b3) | skip); clear b3)
      | (go_at_call 14; with_reducible refine (h3.out _).mono ?_; rintro e Y4 ⟨rfl, b4⟩; have K4 := Lib.hid (Kp.next (by first | with_reducible exact K3.out | with_reducible exact K3.out.alloc _) b4); have n4 := K4.out.ne; (first | have T4 := Lib.hid (Tb.newD b4) | have T4 := Lib.hid (Tb.new b4) | have T4 := Lib.hid (T3.out.next b4) | skip); clear b4)
      | (go_at_call 15; with_reducible refine (h4.out _ (by first | with_reducible exact K4.out | with_reducible exact K4.out.alloc _)).mono ?_; rintro e Y5 ⟨rfl, b5⟩; have K5 := Lib.hid (Kp.next (by first | with_reducible exact K4.out | with_reducible exact K4.out.alloc _) b5); have n5 := K5.out.ne; (first | have T5 := Lib.hid (Tb.newD b5) | have T5 := Lib.hid (Tb.new b5) | have T5 := Lib.hid (T4.out.next b5) | skip); clear b5)
      | (go_at_call 15; with_reducible refine (h5.out _ (by first | with_reducible exact K5.out | with_reducible exact K5.out.alloc _)).mono ?_; rintro e Y6 ⟨rfl, b6⟩; have K6 := Lib.hid (Kp.next (by first | with_reducible exact K5.out | with_reducible exact K5.out.alloc _) b6); have n6 := K6.out.ne; (first | have T6 := Lib.hid (Tb.newD b6) | have T6 := Lib.hid (Tb.new b6) | have T6 := Lib.hid (T5.out.next b6) | skip); clear b6)
      | (go_at_call 14; with_reducible refine (h6.out _).mono ?_; rintro e Y7 ⟨rfl, b7⟩; have K7 := Lib.hid (Kp.next (by first | with_reducible exact K6.out | with_reducible exact K6.out.alloc _) b7); have n7 := K7.out.ne; (first | have T7 := Lib.hid (Tb.newD b7) | have T7 := Lib.hid (Tb.new b7) | have T7 := Lib.hid (T6.out.next b7) | skip); clear b7)
      | (go_at_call 15; with_reducible refine (h7.out _ (by first | with_reducible exact K7.out | with_reducible exact K7.out.alloc _)).mono ?_; rintro e Y8 ⟨rfl, b8⟩; have K8 := Lib.hid (Kp.next (by first | with_reducible exact K7.out | with_reducible exact K7.out.alloc _) b8); have n8 := K8.out.ne; (first | have T8 := Lib.hid (Tb.newD b8) | have T8 := Lib.hid (Tb.new b8) | have T8 := Lib.hid (T7.out.next b8) | skip); clear b8; (first | (obtain ⟨t0, f0⟩ := T8.out.cell 0 (by decide); obtain ⟨t1, f1⟩ := T8.out.cell 1 (by decide); obtain ⟨t2, f2⟩ := T8.out.cell 2 (by decide); obtain ⟨t3, f3⟩ := T8.out.cell 3 (by decide); obtain ⟨t4, f4⟩ := T8.out.cell 4 (by decide); obtain ⟨t5, f5⟩ := T8.out.cell 5 (by decide); obtain ⟨t6, f6⟩ := T8.out.cell 6 (by decide); obtain ⟨t7, f7⟩ := T8.out.cell 7 (by decide)) | skip)))
  all_goals go_wp2_with fail
  · refine (hj.out _ _ (row_told (heap_alloc_new Y8 _)) (by simp)).mono ?_
    rintro e Z ⟨rfl, bZ⟩
    go_wp2_with fail
    go_ret
    exact ⟨rfl, (K8.out.alloc _).1.trans (bZ.mono (Nat.le_of_lt (K8.out.alloc _).lt))⟩
  · have HL := Lib.hid (laid8_below K8.out.1 (Nat.le_of_lt K7.out.lt) r0 r1 r2 r3 r4 r5 r6 r7)
    refine (hj.out _ _ (row_told (laid8_row T8.out r0 r1 r2 r3 r4 r5 r6 r7)) (laid8_lt T8.out r0 r1 r2 r3 r4 r5 r6 r7)).mono ?_
    rintro e Z ⟨rfl, bZ⟩
    go_wp2_with fail
    go_ret
    exact ⟨rfl, HL.out.trans (bZ.mono HL.out.size)⟩
  · have HL := Lib.hid (laid8_below K8.out.1 (Nat.le_of_lt K6.out.lt) r0 r1 r2 r3 r4 r5 r6 r7)
    refine (hj.out _ _ (row_told (laid8_row T8.out r0 r1 r2 r3 r4 r5 r6 r7)) (laid8_lt T8.out r0 r1 r2 r3 r4 r5 r6 r7)).mono ?_
    rintro e Z ⟨rfl, bZ⟩
    go_wp2_with fail
    go_ret
    exact ⟨rfl, HL.out.trans (bZ.mono HL.out.size)⟩
  · have HL := Lib.hid (laid8_below K8.out.1 (Nat.le_of_lt K5.out.lt) r0 r1 r2 r3 r4 r5 r6 r7)
    refine (hj.out _ _ (row_told (laid8_row T8.out r0 r1 r2 r3 r4 r5 r6 r7)) (laid8_lt T8.out r0 r1 r2 r3 r4 r5 r6 r7)).mono ?_
    rintro e Z ⟨rfl, bZ⟩
    go_wp2_with fail
    go_ret
    exact ⟨rfl, HL.out.trans (bZ.mono HL.out.size)⟩
  · have HL := Lib.hid (laid8_below K8.out.1 (Nat.le_of_lt K4.out.lt) r0 r1 r2 r3 r4 r5 r6 r7)
    refine (hj.out _ _ (row_told (laid8_row T8.out r0 r1 r2 r3 r4 r5 r6 r7)) (laid8_lt T8.out r0 r1 r2 r3 r4 r5 r6 r7)).mono ?_
    rintro e Z ⟨rfl, bZ⟩
    go_wp2_with fail
    go_ret
    exact ⟨rfl, HL.out.trans (bZ.mono HL.out.size)⟩
  · have HL := Lib.hid (laid8_below K8.out.1 (Nat.le_of_lt K3.out.lt) r0 r1 r2 r3 r4 r5 r6 r7)
    refine (hj.out _ _ (row_told (laid8_row T8.out r0 r1 r2 r3 r4 r5 r6 r7)) (laid8_lt T8.out r0 r1 r2 r3 r4 r5 r6 r7)).mono ?_
    rintro e Z ⟨rfl, bZ⟩
    go_wp2_with fail
    go_ret
    exact ⟨rfl, HL.out.trans (bZ.mono HL.out.size)⟩
  · have HL := Lib.hid (laid8_below K8.out.1 (Nat.le_of_lt K2.out.lt) r0 r1 r2 r3 r4 r5 r6 r7)
    refine (hj.out _ _ (row_told (laid8_row T8.out r0 r1 r2 r3 r4 r5 r6 r7)) (laid8_lt T8.out r0 r1 r2 r3 r4 r5 r6 r7)).mono ?_
    rintro e Z ⟨rfl, bZ⟩
    go_wp2_with fail
    go_ret
    exact ⟨rfl, HL.out.trans (bZ.mono HL.out.size)⟩
  · have HL := Lib.hid (laid8_below K8.out.1 (Nat.le_of_lt K1.out.lt) r0 r1 r2 r3 r4 r5 r6 r7)
    refine (hj.out _ _ (row_told (laid8_row T8.out r0 r1 r2 r3 r4 r5 r6 r7)) (laid8_lt T8.out r0 r1 r2 r3 r4 r5 r6 r7)).mono ?_
    rintro e Z ⟨rfl, bZ⟩
    go_wp2_with fail
    go_ret
    exact ⟨rfl, HL.out.trans (bZ.mono HL.out.size)⟩
  · have HL := Lib.hid (laid8_below K8.out.1 (Nat.le_succ _) r0 r1 r2 r3 r4 r5 r6 r7)
    refine (hj.out _ _ (row_told (laid8_row T8.out r0 r1 r2 r3 r4 r5 r6 r7)) (laid8_lt T8.out r0 r1 r2 r3 r4 r5 r6 r7)).mono ?_
    rintro e Z ⟨rfl, bZ⟩
    go_wp2_with fail
    go_ret
    exact ⟨rfl, HL.out.trans (bZ.mono HL.out.size)⟩
end Go.Proofs.YtbpccbdgkkfdpaaDoor.Mks
