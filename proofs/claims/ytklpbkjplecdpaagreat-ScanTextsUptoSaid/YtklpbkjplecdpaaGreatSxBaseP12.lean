/-
  Part 12: ScwBox, ScwName, Bytes, RefTexts, SchPgA, SchCodA.
-/
import Derived.Test.YtklpbkjplecdpaaGreatSxBaseP8
import Derived.Test.YtklpbkjplecdpaaGreatSxBaseP10
import Derived.Test.YtklpbkjplecdpaaGreatSxBaseP11
import Derived.Test.YtklpbkjplecdpaaGreatSxBaseP6
import Derived.Lib.BufferRead
import Derived.Test.YtklpbkjplecdpaaGreatSxBaseP9
import Derived.Test.YtklpbkjplecdpaaGreatSxBaseP2
/-
  The walker of package scan in memory, and contracts of the calls that go on to another state.
-/
namespace Go.Proofs.YtklpbkjplecdpaaGreat.Scw
open Go.RowKit Oct Scn Tab

abbrev faultV (n : Int) : Value := .iface 68 (.agg #[.int .i64 n])
abbrev Fault (n : Int) : Ending := .panicked [{ v := faultV n, recovered := false }]
structure Keeps (R : Nat) (w w' : World) : Prop where
  os : w'.os = w.os
  tape : w'.tape = w.tape
  output : w'.output = w.output
  size : w.heap.size ≤ w'.heap.size
  block : ∀ k, k < w.heap.size → k ≠ R → w'.heap[k]? = w.heap[k]?
theorem Keeps.refl (R : Nat) (w : World) : Keeps R w w := ⟨rfl, rfl, rfl, Nat.le_refl _, fun _ _ _ => rfl⟩
theorem Keeps.trans {R : Nat} {a b c : World} (h : Keeps R a b) (k : Keeps R b c) : Keeps R a c :=
  ⟨k.os.trans h.os, k.tape.trans h.tape, k.output.trans h.output, Nat.le_trans h.size k.size, fun i hi hR => (k.block i (Nat.lt_of_lt_of_le hi h.size) hR).trans (h.block i hi hR)⟩
theorem Keeps.of {R : Nat} {w w' : World} (h : Below w.heap.size w w') : Keeps R w w' := ⟨h.os, h.tape, h.output, h.size, fun k hk _ => h.block k hk⟩
theorem Keeps.set {R i : Nat} (w : World) (v : Value) : Keeps R w (w.setCell ⟨R, i, none⟩ v) :=
  ⟨rfl, rfl, rfl, by simp [World.setCell], fun k _ hR => heap_setCell_other _ _ _ _ (by simpa using hR)⟩
theorem Keeps.fresh {R g i : Nat} {w W : World} (h : Keeps R w W) (hg : w.heap.size ≤ g) (v : Value) : Keeps R w (W.setCell ⟨g, i, none⟩ v) :=
  ⟨h.os, h.tape, h.output, by have := h.size; simp [World.setCell]; omega, fun k hk hR => (heap_setCell_other _ _ _ _ (by simp; omega)).trans (h.block k hk hR)⟩
theorem Keeps.alloc {R : Nat} {w W : World} (h : Keeps R w W) (o : Obj) : Keeps R w (W.alloc o) := h.trans (.of ((Below.refl _ W).alloc (Nat.le_refl _) o))
theorem Keeps.drew {R : Nat} {a w : World} (h : Keeps R a w) : Keeps R a w.drew := ⟨h.os, h.tape, h.output, h.size, h.block⟩
theorem Keeps.drewN {R : Nat} {a w : World} (h : Keeps R a w) (n : Nat) : Keeps R a (w.drewN n) := h.trans (.of (Oct.below_drewN (Below.refl _ w) n))
theorem Keeps.below {R : Nat} {w w' : World} (h : Keeps R w w') (hR : R ≤ w.heap.size) : Below R w w' := ⟨h.os, h.tape, h.output, h.size, fun k hk => h.block k (by omega) (by omega)⟩

abbrev rowB (k : Int) (E A : ByteArray) (d : Int) (P F : ByteArray) (n : Int) (W : ByteArray) (tl : List Value) : Array Value :=
  (.int .i64 k :: .string E :: .string A :: .int .u8 d :: .string P :: .string F :: .int .i64 n :: .string W :: tl).toArray
def Pl (R : Nat) (T : TypeId) (tl : List Value) (k : Int) (E A : ByteArray) (d : Int) (P F : ByteArray) (n : Int) (W : ByteArray) (w : World) : Prop :=
  w.heap[R]? = some (.cells (rowB k E A d P F n W tl) T (0, 0))
section
variable {R : Nat} {T : TypeId} {tl : List Value} {k : Int} {E A : ByteArray} {d : Int} {P F : ByteArray} {n : Int} {W : ByteArray} {w : World}
theorem Pl.lt (h : Pl R T tl k E A d P F n W w) : R < w.heap.size := (Array.getElem?_eq_some_iff.1 h).1
theorem Pl.keep {w' : World} (h : Pl R T tl k E A d P F n W w) (hb : Below w.heap.size w w') : Pl R T tl k E A d P F n W w' := (hb.block R h.lt).trans h
theorem Pl.cells (h : Pl R T tl k E A d P F n W w) : w.cell? ⟨R, 0, none⟩ = some (.int .i64 k) ∧ w.cell? ⟨R, 1, none⟩ = some (.string E) ∧ w.cell? ⟨R, 2, none⟩ = some (.string A) ∧ w.cell? ⟨R, 3, none⟩ = some (.int .u8 d) ∧
    w.cell? ⟨R, 4, none⟩ = some (.string P) ∧ w.cell? ⟨R, 5, none⟩ = some (.string F) ∧ w.cell? ⟨R, 6, none⟩ = some (.int .i64 n) ∧ w.cell? ⟨R, 7, none⟩ = some (.string W) :=
  ⟨cell_of_row _ _ 0 _ _ _ h, cell_of_row _ _ 1 _ _ _ h, cell_of_row _ _ 2 _ _ _ h, cell_of_row _ _ 3 _ _ _ h, cell_of_row _ _ 4 _ _ _ h, cell_of_row _ _ 5 _ _ _ h, cell_of_row _ _ 6 _ _ _ h, cell_of_row _ _ 7 _ _ _ h⟩
theorem Pl.last {c : Value} (h : Pl R T [c] k E A d P F n W w) : w.cell? ⟨R, 8, none⟩ = some c := cell_of_row _ _ 8 _ _ _ h
theorem Pl.froz (h : Pl R T tl k E A d P F n W w) : w.frozen? ⟨R, 0, none⟩ = false ∧ w.frozen? ⟨R, 1, none⟩ = false ∧ w.frozen? ⟨R, 2, none⟩ = false ∧ w.frozen? ⟨R, 3, none⟩ = false ∧
    w.frozen? ⟨R, 4, none⟩ = false ∧ w.frozen? ⟨R, 5, none⟩ = false ∧ w.frozen? ⟨R, 6, none⟩ = false ∧ w.frozen? ⟨R, 7, none⟩ = false :=
  ⟨frozen_of_row _ _ 0 _ _ h, frozen_of_row _ _ 1 _ _ h, frozen_of_row _ _ 2 _ _ h, frozen_of_row _ _ 3 _ _ h, frozen_of_row _ _ 4 _ _ h, frozen_of_row _ _ 5 _ _ h, frozen_of_row _ _ 6 _ _ h, frozen_of_row _ _ 7 _ _ h⟩
end
theorem demand_yes (n : Int) (w : World) : Calls Tryz.prog 86 #[.bool true, .int .i64 n] w fun e w' => e = .returned (.tuple #[]) ∧ w' = w := by
  go_enter Tryz.func86, Tryz.ntmps86
  go_wp2
  go_end0
  exact ⟨rfl, rfl⟩
theorem demand_no (n : Int) (w : World) : Calls Tryz.prog 86 #[.bool false, .int .i64 n] w fun e w' => e = Fault n ∧ w' = w := by
  go_enter Tryz.func86, Tryz.ntmps86
  go_wp2
  exact ⟨rfl, rfl, rfl⟩
def put8 (Y : World) (g : Nat) (r0 r1 r2 r3 r4 r5 r6 r7 : Value) : World :=
  (((((((Y.setCell ⟨g, 0, none⟩ r0).setCell ⟨g, 1, none⟩ r1).setCell ⟨g, 2, none⟩ r2).setCell ⟨g, 3, none⟩ r3).setCell ⟨g, 4, none⟩ r4).setCell ⟨g, 5, none⟩ r5).setCell ⟨g, 6, none⟩ r6).setCell ⟨g, 7, none⟩ r7
theorem put8_pl {R : Nat} {T : TypeId} {tl : List Value} {k : Int} {E A : ByteArray} {d : Int} {P F : ByteArray} {n : Int} {W : ByteArray} {w : World} (h : Pl R T tl k E A d P F n W w) (k' : Int) (E' A' : ByteArray) (d' : Int) (P' F' : ByteArray) (n' : Int) (W' : ByteArray) :
    Pl R T tl k' E' A' d' P' F' n' W' (put8 w R (.int .i64 k') (.string E') (.string A') (.int .u8 d') (.string P') (.string F') (.int .i64 n') (.string W')) := by
  have h8 := heap_setCell_same _ R 7 _ _ (.string W') (heap_setCell_same _ R 6 _ _ (.int .i64 n') (heap_setCell_same _ R 5 _ _ (.string F') (heap_setCell_same _ R 4 _ _ (.string P') (heap_setCell_same _ R 3 _ _ (.int .u8 d') (heap_setCell_same _ R 2 _ _ (.string A') (heap_setCell_same _ R 1 _ _ (.string E') (heap_setCell_same _ R 0 _ _ (.int .i64 k') h)))))))
  simp only [List.setIfInBounds_toArray, List.set_cons_zero, List.set_cons_succ] at h8
  exact h8
theorem put8_keeps {R : Nat} {a w : World} (h : Keeps R a w) (r0 r1 r2 r3 r4 r5 r6 r7 : Value) : Keeps R a (put8 w R r0 r1 r2 r3 r4 r5 r6 r7) :=
  h.trans ((((((((Keeps.set w r0).trans (.set _ r1)).trans (.set _ r2)).trans (.set _ r3)).trans (.set _ r4)).trans (.set _ r5)).trans (.set _ r6)).trans (.set _ r7))

set_option maxHeartbeats 1000000 in
set_option maxRecDepth 100000 in
theorem enter_c (K : Int) (R : Nat) (T : TypeId) (tl : List Value) (k : Int) (E A : ByteArray) (d : Int) (P F : ByteArray) (n : Int) (W : ByteArray) (w : World) (h : Pl R T tl k E A d P F n W w) :
    Calls Tryz.prog 72 #[.pointer (some ⟨R, 0, none⟩), .int .i64 K] w fun e w' => e = .returned (.tuple #[]) ∧
      Pl R T tl K (if 5 ≤ K ∧ K ≤ 12 then E else ⟨#[]⟩) (if 7 ≤ K ∧ K ≤ 10 then A else ⟨#[]⟩) 0 ⟨#[]⟩ ⟨#[]⟩ 0 ⟨#[]⟩ w' ∧ Keeps R w w' := by
  have HP := Lib.hid h
  obtain ⟨c0, c1, c2, c3, c4, c5, c6, c7⟩ := h.cells
  obtain ⟨z0, z1, z2, z3, z4, z5, z6, z7⟩ := h.froz
  have hlt := h.lt
  clear h
  have fin : ∀ (E' A' : ByteArray) (o : Obj), Pl R T tl K E' A' 0 ⟨#[]⟩ ⟨#[]⟩ 0 ⟨#[]⟩ ((put8 w R (.int .i64 K) (.string E') (.string A') (.int .u8 0) (.string ⟨#[]⟩) (.string ⟨#[]⟩) (.int .i64 0) (.string ⟨#[]⟩)).alloc o) ∧
      Keeps R w ((put8 w R (.int .i64 K) (.string E') (.string A') (.int .u8 0) (.string ⟨#[]⟩) (.string ⟨#[]⟩) (.int .i64 0) (.string ⟨#[]⟩)).alloc o) := fun E' A' o =>
    ⟨(put8_pl HP.out _ _ _ _ _ _ _ _).keep ((Below.refl _ _).alloc (Nat.le_refl _) o), (put8_keeps (Keeps.refl R w) _ _ _ _ _ _ _ _).alloc o⟩
  have HF := Lib.hid fin
  clear fin
  by_cases h5 : 5 ≤ K ∧ K ≤ 12
  · rw [if_pos h5]
    have b5 : Num.betweenB K 5 12 = true := decide_eq_true h5
    by_cases h7 : 7 ≤ K ∧ K ≤ 10
    · rw [if_pos h7]
      have b7 : Num.betweenB K 7 10 = true := decide_eq_true h7
      clear h5 h7
      go_enter Tryz.func72, Tryz.ntmps72
      go_wp2_with (go_at_call 35; refine (Num.within_c _ _ _ _).mono ?_; rintro e w' ⟨rfl, rfl⟩)
      go_end0
      exact ⟨rfl, HF.out _ _ _⟩
    · rw [if_neg h7]
      have b7 : Num.betweenB K 7 10 = false := decide_eq_false h7
      clear h5 h7
      go_enter Tryz.func72, Tryz.ntmps72
      go_wp2_with (go_at_call 35; refine (Num.within_c _ _ _ _).mono ?_; rintro e w' ⟨rfl, rfl⟩)
      go_end0
      exact ⟨rfl, HF.out _ _ _⟩
  · rw [if_neg h5]
    have b5 : Num.betweenB K 5 12 = false := decide_eq_false h5
    have h7 : ¬ (7 ≤ K ∧ K ≤ 10) := by omega
    rw [if_neg h7]
    have b7 : Num.betweenB K 7 10 = false := decide_eq_false h7
    clear h5 h7
    go_enter Tryz.func72, Tryz.ntmps72
    go_wp2_with (go_at_call 35; refine (Num.within_c _ _ _ _).mono ?_; rintro e w' ⟨rfl, rfl⟩)
    go_end0
    exact ⟨rfl, HF.out _ _ _⟩
set_option maxHeartbeats 1000000 in
set_option maxRecDepth 100000 in
theorem enterOf_c (K : Int) (X : ByteArray) (R : Nat) (T : TypeId) (tl : List Value) (k : Int) (E A : ByteArray) (d : Int) (P F : ByteArray) (n : Int) (W : ByteArray) (w : World) (h : Pl R T tl k E A d P F n W w) :
    Calls Tryz.prog 74 #[.pointer (some ⟨R, 0, none⟩), .int .i64 K, .string X] w fun e w' => e = .returned (.tuple #[]) ∧ Pl R T tl K X ⟨#[]⟩ 0 ⟨#[]⟩ ⟨#[]⟩ 0 ⟨#[]⟩ w' ∧ Keeps R w w' := by
  have HP := Lib.hid h
  obtain ⟨c0, c1, c2, c3, c4, c5, c6, c7⟩ := h.cells
  obtain ⟨z0, z1, z2, z3, z4, z5, z6, z7⟩ := h.froz
  have hlt := h.lt
  clear h
  go_enter Tryz.func74, Tryz.ntmps74
  go_wp2_with fail
  go_end0
  exact ⟨rfl, put8_pl HP.out _ _ _ _ _ _ _ _, put8_keeps (Keeps.refl R w) _ _ _ _ _ _ _ _⟩
theorem inEndTag_c (l : List UInt8) (R : Nat) (T : TypeId) (tl : List Value) (k : Int) (A : ByteArray) (d : Int) (P F : ByteArray) (n : Int) (W : ByteArray) (w : World) (h : Pl R T tl k (S l) A d P F n W w) :
    Calls Tryz.prog 77 #[.pointer (some ⟨R, 0, none⟩)] w fun e w' => e = .returned (.bool (endE l)) ∧ w = w' := by
  have hp := Mks.pre_c [47] l w
  rw [pre_slash] at hp
  obtain ⟨c0, c1, c2, c3, c4, c5, c6, c7⟩ := h.cells
  clear h
  generalize endE l = b at hp ⊢
  generalize S l = L at *
  go_enter Tryz.func77, Tryz.ntmps77
  go_wp2_with fail
  refine hp.mono ?_
  rintro e w' ⟨rfl, rfl⟩
  go_wp2_with fail
  go_ret
  exact ⟨rfl, rfl⟩
def rulI (k : Int) (e a : List UInt8) : Nat := if k = 18 then 3 else if k = 19 then 2 else attI k e a
theorem rul_nat (s : Sc) : rulI (s.k : Int) s.e s.a = rulN s := by
  unfold rulI rulN attI attK
  have e : (((s.k : Int) < 8 ∨ 10 < (s.k : Int)) ∨ endE s.e = true) = ((s.k < 8 ∨ 10 < s.k) ∨ endE s.e = true) := by
    rw [show ((s.k : Int) < 8) = (s.k < 8) by rw [eq_iff_iff]; omega, show (10 < (s.k : Int)) = (10 < s.k) by rw [eq_iff_iff]; omega]
  simp only [e, show ((s.k : Int) = 18) = (s.k = 18) by rw [eq_iff_iff]; omega, show ((s.k : Int) = 19) = (s.k = 19) by rw [eq_iff_iff]; omega]
set_option maxHeartbeats 1000000 in
theorem rules_c (l a : List UInt8) (R : Nat) (T : TypeId) (tl : List Value) (k : Int) (d : UInt8) (P F : ByteArray) (n : Int) (W : ByteArray) (w : World) (h : Pl R T tl k (S l) (S a) (d.toNat : Int) P F n W w) :
    Calls Tryz.prog 82 #[.pointer (some ⟨R, 0, none⟩)] w fun e w' => e = .returned (.int .i64 (rulI k l a : Nat)) ∧ Below w.heap.size w w' := by
  have hk := Mks.kind_c k l a d P F n W
  obtain ⟨c0, c1, c2, c3, c4, c5, c6, c7⟩ := h.cells
  have E : Hid (rulI k l a = if k = 18 then 3 else if k = 19 then 2 else attI k l a) := by show _ = _; rfl
  clear h
  generalize rulI k l a = m at E ⊢
  generalize attI k l a = j at hk E
  generalize S l = L at *
  generalize S a = AA at *
  by_cases h18 : k = 18
  · have b1 : (k == 18) = true := by rw [h18]; rfl
    have q := E.out
    rw [if_pos h18] at q
    subst q
    clear h18 E
    go_enter Tryz.func82, Tryz.ntmps82
    go_wp2_with fail
    go_ret
    exact ⟨rfl, Below.refl _ _⟩
  · have b1 : (k == 18) = false := by rw [beq_eq_false_iff_ne]; exact h18
    by_cases h19 : k = 19
    · have b2 : (k == 19) = true := by rw [h19]; rfl
      have q := E.out
      rw [if_neg h18, if_pos h19] at q
      subst q
      clear h18 h19 E
      go_enter Tryz.func82, Tryz.ntmps82
      go_wp2_with fail
      go_ret
      exact ⟨rfl, Below.refl _ _⟩
    · have b2 : (k == 19) = false := by rw [beq_eq_false_iff_ne]; exact h19
      have q := E.out
      rw [if_neg h18, if_neg h19] at q
      subst q
      have HK := Lib.hid hk
      clear h18 h19 E hk
      go_enter Tryz.func82, Tryz.ntmps82
      go_wp2_with fail
      refine (HK.out _).mono ?_
      rintro e w' ⟨rfl, hb⟩
      go_wp2_with fail
      go_ret
      exact ⟨rfl, hb⟩
theorem said_c (c : UInt8) (R : Nat) (T : TypeId) (k : Int) (E A : ByteArray) (d : Int) (P F : ByteArray) (n : Int) (W : ByteArray) (w : World) (h : Pl R T [.int .u8 (c.toNat : Int)] k E A d P F n W w) :
    Calls Tryz.prog 84 #[.pointer (some ⟨R, 0, none⟩)] w fun e w' => e = .returned (.string (S [c])) ∧ Below w.heap.size w w' := by
  have c8 := h.last
  have hcv := Jsc.conv_one w c
  clear h
  generalize S [c] = Y at hcv ⊢
  generalize (c.toNat : Int) = n at *
  go_enter Tryz.func84, Tryz.ntmps84
  go_wp2_with fail
  go_ret
  exact ⟨rfl, (Below.refl _ w).alloc (Nat.le_refl _) _⟩
theorem demandOpen_c (l : List UInt8) (R : Nat) (T : TypeId) (tl : List Value) (k : Int) (A : ByteArray) (d : Int) (P F : ByteArray) (n : Int) (W : ByteArray) (w : World) (h : Pl R T tl k (S l) A d P F n W w) :
    Calls Tryz.prog 85 #[.pointer (some ⟨R, 0, none⟩)] w fun e w' => e = (if elemN l = 4 then Fault 91 else .returned (.tuple #[])) ∧ Below w.heap.size w w' := by
  have he := fun w => element_c l w
  obtain ⟨c0, c1, c2, c3, c4, c5, c6, c7⟩ := h.cells
  clear h
  by_cases h4 : elemN l = 4
  · rw [if_pos h4]
    rw [h4] at he
    have hd := demand_no 91
    clear h4
    generalize S l = L at *
    go_enter Tryz.func85, Tryz.ntmps85
    go_wp2_with fail
    refine (he _).mono ?_
    rintro e w1 ⟨rfl, hb⟩
    go_wp2_with fail
    refine (hd _).mono ?_
    rintro e w2 ⟨rfl, rfl⟩
    exact ⟨rfl, rfl, hb⟩
  · rw [if_neg h4]
    have b4 : (((elemN l : Nat) : Int) != 4) = true := by rw [bne_iff_ne]; omega
    have hd := demand_yes 91
    clear h4
    generalize elemN l = m at *
    generalize S l = L at *
    go_enter Tryz.func85, Tryz.ntmps85
    go_wp2_with fail
    refine (he _).mono ?_
    rintro e w1 ⟨rfl, hb⟩
    go_wp2_with fail
    refine (hd _).mono ?_
    rintro e w2 ⟨rfl, rfl⟩
    go_wp2_with fail
    go_end0
    exact ⟨rfl, hb⟩
end Go.Proofs.YtklpbkjplecdpaaGreat.Scw

/-
  Contracts of the walker of package scan: a tag's end, what ends a name, what a name grows to.
-/
namespace Go.Proofs.YtklpbkjplecdpaaGreat.Scw
open Go.RowKit Oct Scn Tab Tok

abbrev Wk (R : Nat) (T : TypeId) (tl : List Value) (s : Sc) (w : World) : Prop := Pl R T tl (s.k : Int) (S s.e) (S s.a) (s.d.toNat : Int) (S s.p) (S s.r) s.n (S s.w) w
abbrev Octet (c : UInt8) : List Value := [.int .u8 (c.toNat : Int)]
def To (R : Nat) (T : TypeId) (tl : List Value) (w : World) (x : Res) (e : Ending) (w' : World) : Prop :=
  Keeps R w w' ∧ match x with
    | .ok u => e = .returned (.tuple #[]) ∧ Wk R T tl u w'
    | .error n => e = Fault (n : Int)
theorem To.ok {R : Nat} {T : TypeId} {tl : List Value} {w w' : World} {u : Sc} (hk : Keeps R w w') (h : Wk R T tl u w') : To R T tl w (.ok u) (.returned (.tuple #[])) w' := ⟨hk, rfl, h⟩
theorem To.err {R : Nat} {T : TypeId} {tl : List Value} {w w' : World} {n : Nat} (hk : Keeps R w w') : To R T tl w (.error n) (Fault (n : Int)) w' := ⟨hk, rfl⟩
theorem To.trans {R : Nat} {T : TypeId} {tl : List Value} {w v w' : World} {x : Res} {e : Ending} (hk : Keeps R w v) (h : To R T tl v x e w') : To R T tl w x e w' := ⟨hk.trans h.1, h.2⟩
theorem S_if (q : Prop) [Decidable q] (l : List UInt8) : (if q then S l else ⟨#[]⟩) = S (if q then l else []) := by split <;> rfl
theorem enterS_c (K : Nat) (KI : Int) (hK : KI = (K : Int)) (R : Nat) (T : TypeId) (tl : List Value) (s : Sc) (w : World) (h : Wk R T tl s w) :
    Calls Tryz.prog 72 #[.pointer (some ⟨R, 0, none⟩), .int .i64 KI] w fun e w' => e = .returned (.tuple #[]) ∧ Wk R T tl (entS K s) w' ∧ Keeps R w w' := by
  subst hK
  refine (enter_c (K : Int) R T tl _ _ _ _ _ _ _ _ w h).mono ?_
  rintro e w' ⟨he, hp, hk⟩
  refine ⟨he, ?_, hk⟩
  rw [S_if, S_if] at hp
  have e1 : (5 ≤ (K : Int) ∧ (K : Int) ≤ 12) = (5 ≤ K ∧ K ≤ 12) := by rw [eq_iff_iff]; omega
  have e2 : (7 ≤ (K : Int) ∧ (K : Int) ≤ 10) = (7 ≤ K ∧ K ≤ 10) := by rw [eq_iff_iff]; omega
  simp only [e1, e2] at hp
  exact hp
theorem enterOfS_c (K : Nat) (KI : Int) (hK : KI = (K : Int)) (l : List UInt8) (R : Nat) (T : TypeId) (tl : List Value) (s : Sc) (w : World) (h : Wk R T tl s w) :
    Calls Tryz.prog 74 #[.pointer (some ⟨R, 0, none⟩), .int .i64 KI, .string (S l)] w fun e w' => e = .returned (.tuple #[]) ∧ Wk R T tl (scK K l) w' ∧ Keeps R w w' := by
  subst hK
  exact enterOf_c (K : Int) (S l) R T tl _ _ _ _ _ _ _ _ w h
set_option maxHeartbeats 1000000 in
set_option maxRecDepth 100000 in
theorem leaveTag_c (R : Nat) (T : TypeId) (tl : List Value) (s : Sc) (w : World) (h : Wk R T tl s w) :
    Calls Tryz.prog 80 #[.pointer (some ⟨R, 0, none⟩)] w (To R T tl w (endS s.e)) := by
  have hd := demandOpen_c s.e R T tl _ _ _ _ _ _ _ w h
  have he := fun w => element_c s.e w
  have HW := Lib.hid h
  have H1 : Hid (∀ W, Below w.heap.size w W → Wk R T tl s W ∧ W.cell? ⟨R, 1, none⟩ = some (.string (S s.e))) := fun W hb => ⟨h.keep hb, (h.keep hb).cells.2.1⟩
  have HO : Hid (∀ (K : Nat) (KI : Int) (_ : KI = (K : Int)) W, Wk R T tl s W → Calls Tryz.prog 74 #[.pointer (some ⟨R, 0, none⟩), .int .i64 KI, .string (S s.e)] W fun e w' => e = .returned (.tuple #[]) ∧ Wk R T tl (scK K s.e) w' ∧ Keeps R W w') :=
    fun K KI hK W g => enterOfS_c K KI hK s.e R T tl s W g
  have HE : Hid (∀ W, Wk R T tl s W → Calls Tryz.prog 72 #[.pointer (some ⟨R, 0, none⟩), .int .i64 0] W fun e w' => e = .returned (.tuple #[]) ∧ Wk R T tl sc0 w' ∧ Keeps R W w') :=
    fun W g => enterS_c 0 0 rfl R T tl s W g
  have E : Hid (endS s.e = if elemN s.e = 1 then .ok (scK 17 s.e) else if elemN s.e = 2 then .ok (scK 18 s.e) else if elemN s.e = 3 then .ok (scK 19 s.e) else if elemN s.e = 4 then .error 91 else .ok sc0) := by show _ = _; rfl
  clear h
  have e0 : ∀ m : Nat, ((m : Int) == 1) = decide (m = 1) ∧ ((m : Int) == 2) = decide (m = 2) ∧ ((m : Int) == 3) = decide (m = 3) := fun m => by
    refine ⟨?_, ?_, ?_⟩ <;> rw [Bool.eq_iff_iff, beq_iff_eq, decide_eq_true_iff] <;> omega
  generalize endS s.e = r at E ⊢
  obtain ⟨m, hm⟩ : ∃ m, m = elemN s.e := ⟨_, rfl⟩
  rw [← hm] at hd he E
  obtain ⟨f1, f2, f3⟩ := e0 m
  clear e0 hm
  have E := E.out
  by_cases h4 : m = 4
  · subst h4
    rw [if_pos rfl] at hd
    rw [if_neg (by decide), if_neg (by decide), if_neg (by decide), if_pos rfl] at E
    subst E
    generalize S s.e = L at *
    go_enter Tryz.func80, Tryz.ntmps80
    go_wp2_with fail
    refine hd.mono ?_
    rintro e w1 ⟨rfl, hb⟩
    exact ⟨rfl, To.err (Keeps.of hb)⟩
  · rw [if_neg h4] at hd
    have main : ∀ x, (m = 1 → x = Except.ok (scK 17 s.e)) → (m ≠ 1 → m = 2 → x = .ok (scK 18 s.e)) → (m ≠ 1 → m ≠ 2 → m = 3 → x = .ok (scK 19 s.e)) → (m ≠ 1 → m ≠ 2 → m ≠ 3 → x = .ok sc0) → x = r := fun x g1 g2 g3 g4 => by
      rw [E]
      by_cases q1 : m = 1
      · rw [if_pos q1, g1 q1]
      · rw [if_neg q1]
        by_cases q2 : m = 2
        · rw [if_pos q2, g2 q1 q2]
        · rw [if_neg q2]
          by_cases q3 : m = 3
          · rw [if_pos q3, g3 q1 q2 q3]
          · rw [if_neg q3, if_neg h4, g4 q1 q2 q3]
    have M := Lib.hid main
    clear main E
    by_cases q1 : m = 1
    · have er := M.out (.ok (scK 17 s.e)) (fun _ => rfl) (fun g => absurd q1 g) (fun g => absurd q1 g) (fun g => absurd q1 g)
      rw [decide_eq_true q1] at f1
      clear q1 f2 f3 h4 M
      subst er
      obtain ⟨L, hL⟩ : ∃ L, L = S s.e := ⟨_, rfl⟩
      rw [← hL] at he H1 HO
      clear hL
      go_enter Tryz.func80, Tryz.ntmps80
      go_wp2_with fail
      refine hd.mono ?_
      rintro e w1 ⟨rfl, hb1⟩
      have c1 := (H1.out _ hb1).2
      have B1 := Lib.hid hb1
      clear hb1 hd
      go_wp2_with fail
      refine (he _).mono ?_
      rintro e w2 ⟨rfl, hb2⟩
      have B2 := Lib.hid (B1.out.trans (hb2.mono B1.out.size))
      have c2 := (H1.out _ B2.out).2
      clear hb2 c1
      go_wp2_with fail
      refine (HO.out 17 17 rfl _ (H1.out _ B2.out).1).mono ?_
      rintro e w3 ⟨rfl, hw, hk⟩
      have K3 := Lib.hid (And.intro hw ((Keeps.of B2.out).trans hk))
      clear hw hk c2
      go_wp2_with fail
      go_end0
      exact To.ok K3.out.2 K3.out.1
    · rw [decide_eq_false q1] at f1
      by_cases q2 : m = 2
      · have er := M.out (.ok (scK 18 s.e)) (fun g => absurd g q1) (fun _ _ => rfl) (fun _ g => absurd q2 g) (fun _ g => absurd q2 g)
        rw [decide_eq_true q2] at f2
        clear q1 q2 f3 h4 M
        subst er
        obtain ⟨L, hL⟩ : ∃ L, L = S s.e := ⟨_, rfl⟩
        rw [← hL] at he H1 HO
        clear hL
        go_enter Tryz.func80, Tryz.ntmps80
        go_wp2_with fail
        refine hd.mono ?_
        rintro e w1 ⟨rfl, hb1⟩
        have c1 := (H1.out _ hb1).2
        have B1 := Lib.hid hb1
        clear hb1 hd
        go_wp2_with fail
        refine (he _).mono ?_
        rintro e w2 ⟨rfl, hb2⟩
        have B2 := Lib.hid (B1.out.trans (hb2.mono B1.out.size))
        have c2 := (H1.out _ B2.out).2
        clear hb2 c1
        go_wp2_with fail
        refine (HO.out 18 18 rfl _ (H1.out _ B2.out).1).mono ?_
        rintro e w3 ⟨rfl, hw, hk⟩
        have K3 := Lib.hid (And.intro hw ((Keeps.of B2.out).trans hk))
        clear hw hk c2
        go_wp2_with fail
        go_end0
        exact To.ok K3.out.2 K3.out.1
      · rw [decide_eq_false q2] at f2
        by_cases q3 : m = 3
        · have er := M.out (.ok (scK 19 s.e)) (fun g => absurd g q1) (fun _ g => absurd g q2) (fun _ _ _ => rfl) (fun _ _ g => absurd q3 g)
          rw [decide_eq_true q3] at f3
          clear q1 q2 q3 h4 M
          subst er
          obtain ⟨L, hL⟩ : ∃ L, L = S s.e := ⟨_, rfl⟩
          rw [← hL] at he H1 HO
          clear hL
          go_enter Tryz.func80, Tryz.ntmps80
          go_wp2_with fail
          refine hd.mono ?_
          rintro e w1 ⟨rfl, hb1⟩
          have c1 := (H1.out _ hb1).2
          have B1 := Lib.hid hb1
          clear hb1 hd
          go_wp2_with fail
          refine (he _).mono ?_
          rintro e w2 ⟨rfl, hb2⟩
          have B2 := Lib.hid (B1.out.trans (hb2.mono B1.out.size))
          have c2 := (H1.out _ B2.out).2
          clear hb2 c1
          go_wp2_with fail
          refine (HO.out 19 19 rfl _ (H1.out _ B2.out).1).mono ?_
          rintro e w3 ⟨rfl, hw, hk⟩
          have K3 := Lib.hid (And.intro hw ((Keeps.of B2.out).trans hk))
          clear hw hk c2
          go_wp2_with fail
          go_end0
          exact To.ok K3.out.2 K3.out.1
        · have er := M.out (.ok sc0) (fun g => absurd g q1) (fun _ g => absurd g q2) (fun _ _ g => absurd g q3) (fun _ _ _ => rfl)
          rw [decide_eq_false q3] at f3
          clear q1 q2 q3 h4 M
          subst er
          obtain ⟨L, hL⟩ : ∃ L, L = S s.e := ⟨_, rfl⟩
          rw [← hL] at he H1 HO
          clear hL
          go_enter Tryz.func80, Tryz.ntmps80
          go_wp2_with fail
          refine hd.mono ?_
          rintro e w1 ⟨rfl, hb1⟩
          have c1 := (H1.out _ hb1).2
          have B1 := Lib.hid hb1
          clear hb1 hd
          go_wp2_with fail
          refine (he _).mono ?_
          rintro e w2 ⟨rfl, hb2⟩
          have B2 := Lib.hid (B1.out.trans (hb2.mono B1.out.size))
          have c2 := (H1.out _ B2.out).2
          clear hb2 c1
          go_wp2_with fail
          refine (HE.out _ (H1.out _ B2.out).1).mono ?_
          rintro e w3 ⟨rfl, hw, hk⟩
          have K3 := Lib.hid (And.intro hw ((Keeps.of B2.out).trans hk))
          clear hw hk c2
          go_wp2_with fail
          go_end0
          exact To.ok K3.out.2 K3.out.1

def LeaveTo (R : Nat) (c : UInt8) (w : World) (s : Sc) (x : Option Res) (e : Ending) (w' : World) : Prop :=
  Keeps R w w' ∧ match x with
    | some (.ok u) => e = .returned (.bool true) ∧ Wk R 47 (Octet c) u w'
    | some (.error n) => e = Fault (n : Int)
    | none => e = .returned (.bool false) ∧ Wk R 47 (Octet c) s w'
theorem eq_oct (c : UInt8) (n : Nat) (hn : n < 256) : ((c.toNat : Int) == (n : Int)) = (c == n.toUInt8) := by
  rw [Bool.eq_iff_iff, beq_iff_eq, beq_iff_eq]
  constructor
  · intro h
    apply UInt8.toNat_inj.1
    rw [Nat.toUInt8_eq, UInt8.toNat_ofNat']
    omega
  · rintro rfl
    rw [Nat.toUInt8_eq, UInt8.toNat_ofNat']
    omega
set_option maxHeartbeats 1000000 in
set_option maxRecDepth 100000 in
theorem leavesName_c (b : Nat) (bI : Int) (hbI : bI = (b : Int)) (c : UInt8) (R : Nat) (s : Sc) (w : World) (h : Wk R 47 (Octet c) s w) :
    Calls Tryz.prog 76 #[.pointer (some ⟨R, 0, none⟩), .int .i64 bI] w (LeaveTo R c w s (leavesN b s c)) := by
  have hb := fun w => blank_c (c.toNat : Int) w
  have he1 := enterS_c b bI hbI R 47 (Octet c) s w h
  have he2 := enterS_c 12 12 rfl R 47 (Octet c) s w h
  have hl := leaveTag_c R 47 (Octet c) s w h
  have c8 := h.last
  have e47 := eq_oct c 47 (by decide)
  have e62 := eq_oct c 62 (by decide)
  have HW := Lib.hid h
  have E : Hid (leavesN b s c = if blB c = true then some (.ok (entS b s)) else if c = 47 then some (.ok (entS 12 s)) else if c = 62 then some (endS s.e) else none) := by show _ = _; rfl
  have hbl : blankI (c.toNat : Int) = blB c := rfl
  rw [hbl] at hb
  clear h hbl hbI
  generalize leavesN b s c = r at E ⊢
  have e47 : ((c.toNat : Int) == 47) = decide (c = 47) := by rw [Bool.eq_iff_iff, decide_eq_true_iff]; rw [show (47 : Int) = ((47 : Nat) : Int) from rfl, e47]; simp
  have e62 : ((c.toNat : Int) == 62) = decide (c = 62) := by rw [Bool.eq_iff_iff, decide_eq_true_iff]; rw [show (62 : Int) = ((62 : Nat) : Int) from rfl, e62]; simp
  have E := E.out
  by_cases q1 : blB c = true
  · rw [if_pos q1] at E
    rw [q1] at hb
    subst E
    clear q1 e47 e62 he2 hl
    go_enter Tryz.func76, Tryz.ntmps76
    go_wp2_with (go_at_call 79; refine (hb _).mono ?_; rintro e w' ⟨rfl, rfl⟩)
    refine he1.mono ?_
    rintro e w1 ⟨rfl, hw, hk⟩
    have K := Lib.hid (And.intro hk hw)
    clear hw hk he1 c8
    go_wp2_with fail
    go_ret
    exact ⟨K.out.1, rfl, K.out.2⟩
  · rw [if_neg q1] at E
    rw [Bool.eq_false_iff.2 q1] at hb
    by_cases q2 : c = 47
    · rw [if_pos q2] at E
      rw [decide_eq_true q2] at e47
      subst E
      clear q1 q2 e62 he1 hl
      go_enter Tryz.func76, Tryz.ntmps76
      go_wp2_with (go_at_call 79; refine (hb _).mono ?_; rintro e w' ⟨rfl, rfl⟩)
      refine he2.mono ?_
      rintro e w1 ⟨rfl, hw, hk⟩
      have K := Lib.hid (And.intro hk hw)
      clear hw hk he2 c8
      go_wp2_with fail
      go_ret
      exact ⟨K.out.1, rfl, K.out.2⟩
    · rw [if_neg q2] at E
      rw [decide_eq_false q2] at e47
      by_cases q3 : c = 62
      · rw [if_pos q3] at E
        rw [decide_eq_true q3] at e62
        subst E
        clear q1 q2 q3 he1 he2
        generalize endS s.e = x at hl ⊢
        go_enter Tryz.func76, Tryz.ntmps76
        go_wp2_with (go_at_call 79; refine (hb _).mono ?_; rintro e w' ⟨rfl, rfl⟩)
        refine hl.mono ?_
        clear hl
        rintro e w1 ⟨hk, hx⟩
        cases x with
        | error n =>
          subst hx
          exact ⟨rfl, hk, rfl⟩
        | ok u =>
          obtain ⟨rfl, hw⟩ := hx
          have K := Lib.hid (And.intro hk hw)
          clear hw hk c8
          go_wp2_with fail
          go_ret
          exact ⟨K.out.1, rfl, K.out.2⟩
      · rw [if_neg q3] at E
        rw [decide_eq_false q3] at e62
        subst E
        clear q1 q2 q3 he1 he2 hl
        go_enter Tryz.func76, Tryz.ntmps76
        go_wp2_with (go_at_call 79; refine (hb _).mono ?_; rintro e w' ⟨rfl, rfl⟩)
        go_ret
        exact ⟨Keeps.refl R w, rfl, HW.out⟩
set_option maxHeartbeats 1000000 in
set_option maxRecDepth 100000 in
theorem named_c (l : List UInt8) (hl : l.length ≤ 1000) (m : Nat) (mI : Int) (hmI : mI = (m : Int)) (c : UInt8) (R : Nat) (s : Sc) (w : World) (h : Wk R 47 (Octet c) s w) :
    Calls Tryz.prog 78 #[.pointer (some ⟨R, 0, none⟩), .string (S l), .int .i64 mI] w fun e w' => e = (if l.length < m then .returned (.string (S (l ++ [low c]))) else Fault 5) ∧ Below w.heap.size w w' := by
  have hs := said_c c R 47 _ _ _ _ _ _ _ _ w h
  have hlo := fun w => lower_c (S [c]) w (by rw [size_S]; simp)
  rw [list_S] at hlo
  have hlo : ∀ w, Calls Tryz.prog 89 #[.string (S [c])] w fun e w' => e = .returned (.string (S [low c])) ∧ Below w.heap.size w w' := hlo
  have hsz : ((S l).size : Int) = (l.length : Int) := by rw [size_S]
  have ha : S l ++ S [low c] = S (l ++ [low c]) := S_append l _
  have z1 : (S l).size ≤ 1000 := by rw [size_S]; exact hl
  have z2 : (S [low c]).size ≤ 1 := by rw [size_S]; simp
  clear h
  by_cases hm : l.length < m
  · rw [if_pos hm]
    have hd := demand_yes 5
    have b1 : decide ((l.length : Int) < mI) = true := decide_eq_true (by omega)
    have b2 : (l.length : Int) < mI := by omega
    clear hm hmI hl
    generalize S (l ++ [low c]) = X at ha ⊢
    generalize S [low c] = Y at *
    generalize S [c] = Z at *
    generalize S l = L at *
    go_enter Tryz.func78, Tryz.ntmps78
    go_wp2_with fail
    refine (hd _).mono ?_
    rintro e w1 ⟨rfl, rfl⟩
    go_wp2_with fail
    refine hs.mono ?_
    rintro e w2 ⟨rfl, hb2⟩
    have B2 := Lib.hid hb2
    clear hb2 hs
    go_wp2_with fail
    refine (hlo _).mono ?_
    rintro e w3 ⟨rfl, hb3⟩
    have B3 := Lib.hid (B2.out.trans (hb3.mono B2.out.size))
    clear hb3 hlo
    go_wp2_with fail
    go_ret
    exact ⟨rfl, B3.out⟩
  · rw [if_neg hm]
    have hd := demand_no 5
    have b1 : decide ((l.length : Int) < mI) = false := decide_eq_false (by omega)
    have b2 : ¬ (l.length : Int) < mI := by omega
    clear hm hmI hl
    generalize S (l ++ [low c]) = X at ha ⊢
    generalize S l = L at *
    go_enter Tryz.func78, Tryz.ntmps78
    go_wp2_with fail
    refine (hd _).mono ?_
    rintro e w1 ⟨rfl, rfl⟩
    exact ⟨rfl, rfl, Below.refl _ _⟩
end Go.Proofs.YtklpbkjplecdpaaGreat.Scw

/-
  Octets in memory: a slice of octets that the call itself made; what it is as a text.
-/
namespace Go.Proofs.YtklpbkjplecdpaaGreat.Oct
open Go.RowKit

abbrev bv (c : UInt8) : Value := .int .u8 (c.toNat : Int)

theorem conv_own {w : World} {base n : Nat} {v : Value} {l : List UInt8} (h : w.ownsRow base 5 1 v n (l.map bv)) :
    (convert 49 9 v).run Tryz.prog w = .ok (.string (S l)) w := by
  have hn : l.length = n := by simpa using h.1
  rcases h.2 with ⟨rfl, hz⟩ | ⟨g, cap, cur, rfl, hg, hh, hnc, hcm, hcs, htk⟩
  · have hl : l = [] := List.eq_nil_of_length_eq_zero (by omega)
    subst hl
    exact Lib.run_convert_nil_bytes w _ _ 5 0 Tryz.underlying49 Tryz.underlying5 Tryz.underlying9
  · subst hn
    exact run_convert_bytes_back w _ _ 5 ⟨g, 0, none⟩ cap l Tryz.underlying49 Tryz.underlying5 Tryz.underlying9
      (fun j hj => by
        have h1 := h.cellAt j (by omega)
        rw [Addr.add_lit, Nat.zero_add, h1]
        simp [hj])

def cellsTo (l : List UInt8) (k : Nat) : List Value := (l.take k).map bv
theorem cellsTo_all (l : List UInt8) (k : Nat) (h : l.length ≤ k) : cellsTo l k = l.map bv := by unfold cellsTo; rw [List.take_of_length_le h]
theorem cellsTo_succ (l : List UInt8) (k : Nat) (c : UInt8) (h : l[k]? = some c) : cellsTo l k ++ [bv c] = cellsTo l (k + 1) := by
  unfold cellsTo
  rw [List.take_add_one, h]
  simp

theorem own_base {w : World} {base n : Nat} {e : TypeId} {v : Value} {xs : List Value} (h : w.ownsRow base e 1 v n xs) : ∀ k, v.ownBlock = some k → base ≤ k := by
  intro k hk
  rcases h.2 with ⟨rfl, _⟩ | ⟨g, cap, cur, rfl, hg, _⟩
  · simp [Value.ownBlock] at hk
  · simp [Value.ownBlock] at hk; omega

theorem push_cell {w : World} {x : Int} {c : UInt8} (h : x = (c.toNat : Int)) (j : Nat) (u : Value) (hj : [bv c][j]? = some u) :
    (w.alloc (.cells #[.int .u8 x] 5)).cell? ((⟨w.heap.size, 0, none⟩ : Addr).add j) = some u := by
  subst h
  match j, hj with
  | 0, hj => simp at hj; subst hj; simp [Addr.add]
theorem push_one {c : UInt8} (u : Value) (hu : u ∈ [bv c]) : u.oneCell' = true := by simp at hu; subst hu; rfl

theorem push_own {w wr w1 : World} {B k : Nat} {v v' : Value} {l : List UInt8} {c : UInt8} {o : Obj} (hrow : wr.ownsRow B 5 1 v k (cellsTo l k)) (hbel : Below B w wr) (hB : B ≤ wr.heap.size)
    (hown : w1.ownsRow B 5 1 v' (k + 1) (cellsTo l k ++ [bv c])) (hgrow : (wr.alloc o).grownBy w1 v.ownBlock) (hl : l[k]? = some c) :
    w1.ownsRow B 5 1 v' (k + 1) (cellsTo l (k + 1)) ∧ Below B w w1 :=
  ⟨cellsTo_succ l k c hl ▸ hown, (hbel.alloc hB _).grown hgrow (by simp; omega) (own_base hrow)⟩
end Go.Proofs.YtklpbkjplecdpaaGreat.Oct

/-
  Contracts of the page's answers on texts: small and great letters.
-/
namespace Go.Proofs.YtklpbkjplecdpaaGreat.Oct
open Go.RowKit

theorem map_get (s : ByteArray) (k : Nat) (f : UInt8 → UInt8) (h : k < s.size) : (s.data.toList.map f)[k]? = some (f s[k]) := by
  rw [List.getElem?_map, List.getElem?_eq_getElem (by rw [size_list]; exact h)]
  rfl

set_option maxHeartbeats 1000000 in
set_option maxRecDepth 100000 in
theorem rlower_c (s : ByteArray) (w : World) (hs : s.size ≤ 140737488351232) :
    Calls Tryz.prog 60 #[.string s] w fun e w' => e = .returned (.string (S (s.data.toList.map low))) ∧ Below w.heap.size w w' := by
  obtain ⟨i0, hi, hz0, hz1, hz2⟩ := info_parts info_u8
  go_enter Tryz.func60, Tryz.ntmps60
  go_wp2
  go_loopw [3, 4, 5] (fun v i _ wr => ∃ k : Nat, k ≤ s.size ∧ i = .int .i64 k ∧ Hid (wr.ownsRow w.heap.size 5 1 v k (cellsTo (s.data.toList.map low) k)) ∧ Hid (Below w.heap.size w wr)) (fun _ i _ _ => s.size - (intOf i).toNat)
  case atStart => exact ⟨0, Nat.zero_le _, rfl, World.ownsRow_nil _ _ _ _, Below.refl _ _⟩
  case round =>
    obtain ⟨k, hk, rfl, hrow, hbel⟩ := hrel
    by_cases hlt : k < s.size
    · have hb1 : (s[k].toNat : Int) ≤ 255 := by have := s[k].toNat_lt; omega
      have hB : w.heap.size ≤ wr.heap.size := hbel.out.size
      have hL : Hid ((s.data.toList.map low)[k]? = some (low s[k])) := map_get s k low hlt
      have hN : Hid (((low s[k]).toNat : Int) = lowI (s[k].toNat : Int)) := low_toNat _
      by_cases hg : (65 : Int) ≤ (s[k].toNat : Int) ∧ (s[k].toNat : Int) ≤ 90
      · obtain ⟨hg1, hg2⟩ := hg
        have hx : Hid ((s[k].toNat : Int) - 65 + 97 = ((low s[k]).toNat : Int)) := by show _ = _; rw [hN.out, lowI, if_pos ⟨hg1, hg2⟩]; omega
        go_wp2_with (at_builtin; refine wpList_append_own _ rfl _ _ 49 rfl w.heap.size 5 i0 (.int .u8 0) 1 1 Tryz.underlying49 hi hz0 hz1 hz2 rfl (by decide) _ _ _ rfl (hrow.out.alloc _) ⟨wr.heap.size, 0, none⟩ 1 1 [bv (low s[k])] rfl rfl (push_cell hx.out) push_one (by unfold maxLen; omega) (by omega) (by simp; omega) ?_)
        intro v' w1 hown' hgrow _
        obtain ⟨ho, hb⟩ := push_own hrow.out hbel.out hB hown' hgrow hL.out
        clear hown' hgrow hrow hbel
        have HO := Lib.hid ho
        have HB := Lib.hid hb
        clear ho hb
        go_wp2
        go_roundw
        case rel => exact ⟨k + 1, by omega, by go_num, HO, HB⟩
        case measure => simp [intOf]; omega
      · have hx : Hid ((s[k].toNat : Int) = ((low s[k]).toNat : Int)) := by show _ = _; rw [hN.out, lowI, if_neg hg]
        rcases (show (s[k].toNat : Int) < 65 ∨ 90 < (s[k].toNat : Int) by omega) with hg1 | hg1
        · have hdb : decide ((65 : Int) ≤ (s[k].toNat : Int)) = false := by simp; omega
          clear hg
          go_wp2_with (at_builtin; refine wpList_append_own _ rfl _ _ 49 rfl w.heap.size 5 i0 (.int .u8 0) 1 1 Tryz.underlying49 hi hz0 hz1 hz2 rfl (by decide) _ _ _ rfl (hrow.out.alloc _) ⟨wr.heap.size, 0, none⟩ 1 1 [bv (low s[k])] rfl rfl (push_cell hx.out) push_one (by unfold maxLen; omega) (by omega) (by simp; omega) ?_)
          intro v' w1 hown' hgrow _
          obtain ⟨ho, hb⟩ := push_own hrow.out hbel.out hB hown' hgrow hL.out
          clear hown' hgrow hrow hbel
          have HO := Lib.hid ho
          have HB := Lib.hid hb
          clear ho hb
          go_wp2
          go_roundw
          case rel => exact ⟨k + 1, by omega, by go_num, HO, HB⟩
          case measure => simp [intOf]; omega
        · have hda : (65 : Int) ≤ (s[k].toNat : Int) := by omega
          clear hg
          go_wp2_with (at_builtin; refine wpList_append_own _ rfl _ _ 49 rfl w.heap.size 5 i0 (.int .u8 0) 1 1 Tryz.underlying49 hi hz0 hz1 hz2 rfl (by decide) _ _ _ rfl (hrow.out.alloc _) ⟨wr.heap.size, 0, none⟩ 1 1 [bv (low s[k])] rfl rfl (push_cell hx.out) push_one (by unfold maxLen; omega) (by omega) (by simp; omega) ?_)
          intro v' w1 hown' hgrow _
          obtain ⟨ho, hb⟩ := push_own hrow.out hbel.out hB hown' hgrow hL.out
          clear hown' hgrow hrow hbel
          have HO := Lib.hid ho
          have HB := Lib.hid hb
          clear ho hb
          go_wp2
          go_roundw
          case rel => exact ⟨k + 1, by omega, by go_num, HO, HB⟩
          case measure => simp [intOf]; omega
    · have hcv := conv_own (cellsTo_all (s.data.toList.map low) k (by rw [List.length_map, size_list]; omega) ▸ hrow.out)
      clear hrow
      go_wp2
      go_ret
      exact ⟨rfl, hbel.out⟩

end Go.Proofs.YtklpbkjplecdpaaGreat.Oct

/-
  Contracts of the page's Scheme and Allowed.
-/
namespace Go.Proofs.YtklpbkjplecdpaaGreat.Sch
open Go.RowKit Oct Utf Pct

theorem cutTo (s : ByteArray) (n : Nat) : s.extract 0 n = S (s.data.toList.take n) := by
  rw [Lib.extract_eq]; simp [S]
theorem oct_ne {c : UInt8} {n : Nat} (h : c ≠ n.toUInt8) (hn : n < 256) : ((c.toNat : Int) == (n : Int)) = false := by
  rw [beq_eq_false_iff_ne]
  intro e
  apply h
  apply UInt8.toNat_inj.1
  rw [Nat.toUInt8_eq, UInt8.toNat_ofNat_of_lt' (by show n < 256; exact hn)]
  omega

theorem eqL (a b : List UInt8) : ((S a).toList == b) = decide (a = b) := by
  rw [ByteArray.toList_eq, list_S, Bool.eq_iff_iff]
  simp
end Go.Proofs.YtklpbkjplecdpaaGreat.Sch

/-
  Contracts of strings.Clone and of Allowed of package schemes.
-/
namespace Go.Proofs.YtklpbkjplecdpaaGreat.Sch
open Go.RowKit Oct Utf Pct

theorem allowed_c (l : List UInt8) (w : World) :
    Calls Tryz.prog 159 #[.string (S l)] w fun e w' => e = .returned (.bool (allowL l)) ∧ w = w' := by
  have e1 : ((S l).toList == [104, 116, 116, 112]) = decide (l = httpL) := eqL l httpL
  have e2 : ((S l).toList == [104, 116, 116, 112, 115]) = decide (l = httpsL) := eqL l httpsL
  have e3 : ((S l).toList == [109, 97, 105, 108, 116, 111]) = decide (l = mailtoL) := eqL l mailtoL
  have E : Hid (allowL l = (decide (l = httpL) || (decide (l = httpsL) || decide (l = mailtoL)))) := by
    show _ = _
    unfold allowL
    rw [Bool.eq_iff_iff]
    simp
  generalize decide (l = httpL) = b1 at e1 E
  generalize decide (l = httpsL) = b2 at e2 E
  generalize decide (l = mailtoL) = b3 at e3 E
  generalize allowL l = ans at E ⊢
  generalize S l = T at e1 e2 e3
  cases b1 with
  | true =>
    go_enter Tryz.func159, Tryz.ntmps159
    go_wp2_with fail
    go_ret
    exact ⟨ret_bool (by rw [E.out]; rfl), rfl⟩
  | false =>
    cases b2 with
    | true =>
      go_enter Tryz.func159, Tryz.ntmps159
      go_wp2_with fail
      go_ret
      exact ⟨ret_bool (by rw [E.out]; rfl), rfl⟩
    | false =>
      cases b3 with
      | true =>
        go_enter Tryz.func159, Tryz.ntmps159
        go_wp2_with fail
        go_ret
        exact ⟨ret_bool (by rw [E.out]; rfl), rfl⟩
      | false =>
        go_enter Tryz.func159, Tryz.ntmps159
        go_wp2_with fail
        go_ret
        exact ⟨ret_bool (by rw [E.out]; rfl), rfl⟩

end Go.Proofs.YtklpbkjplecdpaaGreat.Sch
