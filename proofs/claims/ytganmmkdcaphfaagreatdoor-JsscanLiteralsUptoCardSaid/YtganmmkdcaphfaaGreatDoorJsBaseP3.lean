/-
  Part 3: RdBase, ValTree, RdBox, ValSame.
-/
import Derived.Test.YtganmmkdcaphfaaGreatDoorJsBaseP1
import Derived.Test.YtganmmkdcaphfaaGreatDoorProg
import Derived.Test.YtganmmkdcaphfaaGreatDoorJsBaseP2
import Derived.Lib.Hide
import Derived.Laws.Rows
import Derived.Deep.QuietTactic
import Derived.BigQuiet
import Derived.StillTailTactics
import Derived.WalkSmall
/-
  A reader in memory: its box, what stays beside it, and the fault that it panics with; contracts of demand, takes, must, take, ending.
-/
namespace Go.Proofs.YtganmmkdcaphfaaGreatDoor.Rd
open Go.RowKit Go.Proofs.YtganmmkdcaphfaaGreatDoor.Oct

/-- What the reader panics with. -/
abbrev faultV (n : Int) : Value := .iface 65 (.agg #[.int .i64 n])
abbrev Fault (n : Int) : Ending := .panicked [{ v := faultV n, recovered := false }]

/-- The reader's box. -/
def Rd (R : Nat) (s : ByteArray) (ov dv : Value) (w : World) : Prop := w.heap[R]? = some (.cells #[.string s, ov, dv] 68 (0, 0))

/-- All that lay in w lies as it lay, but for the block R. -/
structure Save (R : Nat) (w w' : World) : Prop where
  os : w'.os = w.os
  tape : w'.tape = w.tape
  output : w'.output = w.output
  size : w.heap.size ≤ w'.heap.size
  block : ∀ k, k < w.heap.size → k ≠ R → w'.heap[k]? = w.heap[k]?

theorem Save.refl (R : Nat) (w : World) : Save R w w := ⟨rfl, rfl, rfl, Nat.le_refl _, fun _ _ _ => rfl⟩
theorem Save.trans {R : Nat} {a b c : World} (h : Save R a b) (k : Save R b c) : Save R a c :=
  ⟨k.os.trans h.os, k.tape.trans h.tape, k.output.trans h.output, Nat.le_trans h.size k.size, fun i hi hR => (k.block i (Nat.lt_of_lt_of_le hi h.size) hR).trans (h.block i hi hR)⟩
theorem Save.of {R : Nat} {w w' : World} (h : Below w.heap.size w w') : Save R w w' := ⟨h.os, h.tape, h.output, h.size, fun k hk _ => h.block k hk⟩
theorem Save.setR {R i : Nat} (w : World) (v : Value) : Save R w (w.setCell ⟨R, i, none⟩ v) :=
  ⟨rfl, rfl, rfl, by simp [World.setCell], fun k _ hR => heap_setCell_other _ _ _ _ (by simpa using hR)⟩
theorem Save.drew {R : Nat} {a w : World} (h : Save R a w) : Save R a w.drew := ⟨h.os, h.tape, h.output, h.size, h.block⟩
theorem Save.below {R : Nat} {w w' : World} (h : Save R w w') : Below R w w' ∨ w.heap.size ≤ R := by
  rcases Nat.lt_or_ge R w.heap.size with h1 | h1
  · exact .inl ⟨h.os, h.tape, h.output, h.size, fun k hk => h.block k (by omega) (by omega)⟩
  · exact .inr h1

theorem Rd.lt {R : Nat} {s : ByteArray} {ov dv : Value} {w : World} (h : Rd R s ov dv w) : R < w.heap.size := (Array.getElem?_eq_some_iff.1 h).1
theorem Rd.cell0 {R : Nat} {s : ByteArray} {ov dv : Value} {w : World} (h : Rd R s ov dv w) : w.cell? ⟨R, 0, none⟩ = some (.string s) := (cell_of_row w R 0 _ _ _ h).trans rfl
theorem Rd.cell1 {R : Nat} {s : ByteArray} {ov dv : Value} {w : World} (h : Rd R s ov dv w) : w.cell? ⟨R, 1, none⟩ = some ov := (cell_of_row w R 1 _ _ _ h).trans rfl
theorem Rd.cell2 {R : Nat} {s : ByteArray} {ov dv : Value} {w : World} (h : Rd R s ov dv w) : w.cell? ⟨R, 2, none⟩ = some dv := (cell_of_row w R 2 _ _ _ h).trans rfl
theorem Rd.frozen {R : Nat} {s : ByteArray} {ov dv : Value} {w : World} (h : Rd R s ov dv w) (i : Nat) : w.frozen? ⟨R, i, none⟩ = false := frozen_of_row w R i _ _ h
theorem Rd.set {R : Nat} {s : ByteArray} {ov dv : Value} {w : World} (h : Rd R s ov dv w) (t : ByteArray) : Rd R t ov dv (w.setCell ⟨R, 0, none⟩ (.string t)) := by
  have e := heap_setCell_same w R 0 _ _ (.string t) h
  exact e
theorem Rd.keep {R : Nat} {s : ByteArray} {ov dv : Value} {w w' : World} (h : Rd R s ov dv w) (hb : Below w.heap.size w w') : Rd R s ov dv w' := by
  unfold Rd; rw [hb.block R h.lt]; exact h
theorem Rd.drew {R : Nat} {s : ByteArray} {ov dv : Value} {w : World} (h : Rd R s ov dv w) : Rd R s ov dv w.drew := h

/-- What a reader's call leaves that reads text alone: its answer and the rest, or the fault. -/
def Reads (R : Nat) (ov dv : Value) (w : World) (o : Option (Value × List UInt8)) (e : Ending) (w' : World) : Prop :=
  match o with
  | some (v, t) => e = .returned v ∧ Rd R (S t) ov dv w' ∧ Save R w w'
  | none => e = Fault 33 ∧ Save R w w'

theorem demand_yes (n : Int) (w : World) : Calls Tryz.prog 57 #[.bool true, .int .i64 n] w fun e w' => e = .returned (.tuple #[]) ∧ w' = w := by
  go_enter Tryz.func57, Tryz.ntmps57
  go_wp2
  go_end0
  exact ⟨rfl, rfl⟩
theorem demand_no (n : Int) (w : World) : Calls Tryz.prog 57 #[.bool false, .int .i64 n] w fun e w' => e = Fault n ∧ w' = w := by
  go_enter Tryz.func57, Tryz.ntmps57
  go_wp2
  exact ⟨rfl, rfl, rfl⟩

/-- What takes reads. -/
def takesP (sign l : List UInt8) : Bool × List UInt8 := if Lib.hasPrefix l sign then (true, l.drop sign.length) else (false, l)

theorem takes_c (R : Nat) (s p : ByteArray) (ov dv : Value) (w : World) (h : Rd R s ov dv w) :
    Calls Tryz.prog 63 #[.pointer (some ⟨R, 0, none⟩), .string p] w fun e w' => e = .returned (.bool (takesP p.data.toList s.data.toList).1) ∧ Rd R (S (takesP p.data.toList s.data.toList).2) ov dv w' ∧ Save R w w' := by
  have c0 := h.cell0
  have z0 := h.frozen 0
  have H := Lib.hid h
  have hc := Tryz.strings_CutPrefix s p w
  have e1 : (⟨(Lib.trimPrefix s.data.toList p.data.toList).toArray⟩ : ByteArray) = S (takesP p.data.toList s.data.toList).2 := by
    unfold takesP Lib.trimPrefix
    split <;> rfl
  have e2 : Lib.hasPrefix s.data.toList p.data.toList = (takesP p.data.toList s.data.toList).1 := by
    unfold takesP
    split <;> simp_all
  rw [e1, e2] at hc
  generalize takesP p.data.toList s.data.toList = q at hc ⊢
  obtain ⟨b, t⟩ := q
  clear e1 e2 h
  go_enter Tryz.func63, Tryz.ntmps63
  go_wp2_with (go_at_call 70; refine hc.mono ?_; rintro e w1 ⟨rfl, rfl⟩)
  go_ret
  exact ⟨rfl, H.out.set _, Save.setR _ _⟩

/-- What must reads. -/
def mustP (sign l : List UInt8) : Option (Value × List UInt8) := if Lib.hasPrefix l sign then some (.tuple #[], l.drop sign.length) else none

theorem must_c (R : Nat) (s p : ByteArray) (ov dv : Value) (w : World) (h : Rd R s ov dv w) :
    Calls Tryz.prog 71 #[.pointer (some ⟨R, 0, none⟩), .string p] w (Reads R ov dv w (mustP p.data.toList s.data.toList)) := by
  have hc := takes_c R s p ov dv w h
  unfold takesP at hc
  unfold mustP
  cases hp : Lib.hasPrefix s.data.toList p.data.toList with
  | true =>
    rw [hp] at hc
    simp only [if_true] at hc ⊢
    go_enter Tryz.func71, Tryz.ntmps71
    go_wp2_with (first | (go_at_call 63; refine hc.mono ?_; rintro e w1 ⟨rfl, h1, h2⟩; have HX := Lib.hid (And.intro h1 h2); clear h1 h2) | (go_at_call 57; refine (demand_yes _ _).mono ?_; rintro e w2 ⟨rfl, rfl⟩))
    go_end0
    exact ⟨rfl, HX.out.1, HX.out.2⟩
  | false =>
    rw [hp] at hc
    simp only [Bool.false_eq_true, if_false] at hc ⊢
    go_enter Tryz.func71, Tryz.ntmps71
    go_wp2_with (first | (go_at_call 63; refine hc.mono ?_; rintro e w1 ⟨rfl, h1, h2⟩; have HX := Lib.hid (And.intro h1 h2); clear h1 h2) | (go_at_call 57; refine (demand_no _ _).mono ?_; rintro e w2 ⟨rfl, rfl⟩))
    exact ⟨rfl, rfl, HX.out.2⟩
end Go.Proofs.YtganmmkdcaphfaaGreatDoor.Rd

/-
  Values in memory: a value as a tree of plain data, and what a world must hold so that it reads as that tree.
-/
namespace Go.Proofs.YtganmmkdcaphfaaGreatDoor.Val
open Go.RowKit Go.Proofs.YtganmmkdcaphfaaGreatDoor.Oct

/-- A value: kind, number, text, values, keys. -/
inductive V where
  | mk (kind num : Int) (text : ByteArray) (list : List V) (keys : List ByteArray)

/-- What is asked of each block that is reached: is it one of texts?, the block, the place in it, how many. -/
abbrev Cond := Bool → Nat → Nat → Nat → Prop

/-- A slice of texts reads as ks. -/
def Texts (C : Cond) (w : World) (K : Value) (ks : List ByteArray) : Prop :=
  ∃ (p : Option Addr) (cap b off : Nat), K = .slice p ks.length cap ∧ (ks.length * 16 ≤ 140737488351232 ∧ ∀ s ∈ ks, s.size ≤ 140737488351232) ∧
    (0 < ks.length → p = some ⟨b, off, none⟩ ∧ C true b off ks.length) ∧ ∀ i (h : i < ks.length), w.cell? ⟨b, off + i, none⟩ = some (.string ks[i])

/-- A value reads as a tree. -/
inductive Holds (C : Cond) (w : World) : Value → V → Prop where
  | mk (k n : Int) (s : ByteArray) (p : Option Addr) (cap : Nat) (K : Value) (l : List V) (ks : List ByteArray) (b off : Nat) (c : Nat → Nat → Value)
      (hr : -9223372036854775808 ≤ k ∧ k ≤ 9223372036854775807 ∧ -9223372036854775808 ≤ n ∧ n ≤ 9223372036854775807 ∧ s.size ≤ 140737488351232 ∧ l.length * 80 ≤ 140737488351232)
      (hp : 0 < l.length → p = some ⟨b, off, none⟩ ∧ C false b off l.length)
      (hc : ∀ i j, i < l.length → j < 5 → w.cell? ⟨b, off + (i * 5 + j), none⟩ = some (c i j))
      (hK : Texts C w K ks)
      (hl : ∀ i (h : i < l.length), Holds C w (.agg #[c i 0, c i 1, c i 2, c i 3, c i 4]) l[i]) :
      Holds C w (.agg #[.int .i64 k, .int .i64 n, .string s, .slice p l.length cap, K]) (.mk k n s l ks)

theorem Texts.frame {C C' : Cond} {w w' : World} {K : Value} {ks : List ByteArray} (h : Texts C w K ks) (hC : ∀ t b off n, C t b off n → w'.heap[b]? = w.heap[b]?) (hC' : ∀ t b off n, C t b off n → C' t b off n) : Texts C' w' K ks := by
  obtain ⟨p, cap, b, off, h1, h2, h3, h4⟩ := h
  refine ⟨p, cap, b, off, h1, h2, fun h0 => ⟨(h3 h0).1, hC' _ _ _ _ (h3 h0).2⟩, fun i hi => ?_⟩
  have := hC _ _ _ _ (h3 (by omega)).2
  rw [← h4 i hi]
  simp [World.cell?, this]

theorem Holds.frame {C C' : Cond} {w w' : World} {v : Value} {x : V} (h : Holds C w v x) (hC : ∀ t b off n, C t b off n → w'.heap[b]? = w.heap[b]?) (hC' : ∀ t b off n, C t b off n → C' t b off n) : Holds C' w' v x := by
  induction h with
  | mk k n s p cap K l ks b off c hr hp hc hK hl ih =>
    refine .mk k n s p cap K l ks b off c hr (fun h0 => ⟨(hp h0).1, hC' _ _ _ _ (hp h0).2⟩) (fun i j hi hj => ?_) (hK.frame hC hC') (fun i hi => ih i hi)
    have := hC _ _ _ _ (hp (by omega)).2
    rw [← hc i j hi hj]
    simp [World.cell?, this]

/-- What lies below n. -/
abbrev Old (n : Nat) : Cond := fun _ b _ _ => b < n

theorem Holds.kept {n : Nat} {w w' : World} {v : Value} {x : V} (h : Holds (Old n) w v x) (hb : Below n w w') : Holds (Old n) w' v x :=
  h.frame (fun _ b _ _ hb' => hb.block b hb') (fun _ _ _ _ h => h)
theorem Holds.older {n m : Nat} {w : World} {v : Value} {x : V} (h : Holds (Old n) w v x) (hnm : n ≤ m) : Holds (Old m) w v x :=
  h.frame (fun _ _ _ _ _ => rfl) (fun _ _ _ _ h => Nat.lt_of_lt_of_le h hnm)
end Go.Proofs.YtganmmkdcaphfaaGreatDoor.Val

/-
  A box of one value: written whole, and what stays.
-/
namespace Go.Proofs.YtganmmkdcaphfaaGreatDoor.Rd
open Go.RowKit Go.Proofs.YtganmmkdcaphfaaGreatDoor.Oct

/-- A box in block q that holds a value. -/
def Bx (W : World) (q : Nat) (u0 u1 u2 u3 u4 : Value) : Prop := W.heap[q]? = some (.cells #[u0, u1, u2, u3, u4] 25 (0, 0))
/-- A value is written into it. -/
abbrev st5 (W : World) (q : Nat) (v0 v1 v2 v3 v4 : Value) : World :=
  ((((W.setCell ⟨q, 0, none⟩ v0).setCell ⟨q, 1, none⟩ v1).setCell ⟨q, 2, none⟩ v2).setCell ⟨q, 3, none⟩ v3).setCell ⟨q, 4, none⟩ v4

theorem Bx.lt {W : World} {q : Nat} {u0 u1 u2 u3 u4 : Value} (h : Bx W q u0 u1 u2 u3 u4) : q < W.heap.size := (Array.getElem?_eq_some_iff.1 h).1
theorem Bx.five {W : World} {q : Nat} {u0 u1 u2 u3 u4 : Value} (h : Bx W q u0 u1 u2 u3 u4) :
    W.cell? ⟨q, 0, none⟩ = some u0 ∧ W.cell? ⟨q, 1, none⟩ = some u1 ∧ W.cell? ⟨q, 2, none⟩ = some u2 ∧ W.cell? ⟨q, 3, none⟩ = some u3 ∧ W.cell? ⟨q, 4, none⟩ = some u4 :=
  ⟨cell_of_row W q 0 _ _ _ h, cell_of_row W q 1 _ _ _ h, cell_of_row W q 2 _ _ _ h, cell_of_row W q 3 _ _ _ h, cell_of_row W q 4 _ _ _ h⟩
theorem Bx.froz {W : World} {q : Nat} {u0 u1 u2 u3 u4 : Value} (h : Bx W q u0 u1 u2 u3 u4) :
    W.frozen? ⟨q, 0, none⟩ = false ∧ W.frozen? ⟨q, 1, none⟩ = false ∧ W.frozen? ⟨q, 2, none⟩ = false ∧ W.frozen? ⟨q, 3, none⟩ = false ∧ W.frozen? ⟨q, 4, none⟩ = false :=
  ⟨frozen_of_row W q 0 _ _ h, frozen_of_row W q 1 _ _ h, frozen_of_row W q 2 _ _ h, frozen_of_row W q 3 _ _ h, frozen_of_row W q 4 _ _ h⟩
theorem Bx.new (W : World) (u0 u1 u2 u3 u4 : Value) : Bx (W.alloc (.cells #[u0, u1, u2, u3, u4] 25)) W.heap.size u0 u1 u2 u3 u4 := heap_alloc_new W _
theorem Bx.st5 {W : World} {q : Nat} {u0 u1 u2 u3 u4 : Value} (h : Bx W q u0 u1 u2 u3 u4) (v0 v1 v2 v3 v4 : Value) : Bx (st5 W q v0 v1 v2 v3 v4) q v0 v1 v2 v3 v4 := by
  have h0 := heap_setCell_same W q 0 _ _ v0 h
  have h1 := heap_setCell_same _ q 1 _ _ v1 h0
  have h2 := heap_setCell_same _ q 2 _ _ v2 h1
  have h3 := heap_setCell_same _ q 3 _ _ v3 h2
  have h4 := heap_setCell_same _ q 4 _ _ v4 h3
  exact h4
theorem st5_other (W : World) {q b : Nat} (v0 v1 v2 v3 v4 : Value) (h : b ≠ q) : (st5 W q v0 v1 v2 v3 v4).heap[b]? = W.heap[b]? := by
  rw [heap_setCell_other _ _ _ _ (by simpa using h), heap_setCell_other _ _ _ _ (by simpa using h), heap_setCell_other _ _ _ _ (by simpa using h), heap_setCell_other _ _ _ _ (by simpa using h), heap_setCell_other _ _ _ _ (by simpa using h)]
theorem st5_size (W : World) (q : Nat) (v0 v1 v2 v3 v4 : Value) : (st5 W q v0 v1 v2 v3 v4).heap.size = W.heap.size := by simp [World.setCell]
theorem Bx.save {R : Nat} {W W' : World} {q : Nat} {u0 u1 u2 u3 u4 : Value} (h : Bx W q u0 u1 u2 u3 u4) (hs : Save R W W') (hq : q ≠ R) : Bx W' q u0 u1 u2 u3 u4 := by
  unfold Bx; rw [hs.block q h.lt hq]; exact h
theorem Bx.keep {W W' : World} {q : Nat} {u0 u1 u2 u3 u4 : Value} (h : Bx W q u0 u1 u2 u3 u4) (hs : Below W.heap.size W W') : Bx W' q u0 u1 u2 u3 u4 := by
  unfold Bx; rw [hs.block q h.lt]; exact h
theorem Bx.other {W : World} {q p : Nat} {u0 u1 u2 u3 u4 : Value} (h : Bx W q u0 u1 u2 u3 u4) (hq : q ≠ p) (v0 v1 v2 v3 v4 : Value) : Bx (Rd.st5 W p v0 v1 v2 v3 v4) q u0 u1 u2 u3 u4 := by
  unfold Bx; rw [st5_other W v0 v1 v2 v3 v4 hq]; exact h
theorem st5_below {n : Nat} {w W : World} (h : Below n w W) {q : Nat} (hq : n ≤ q) (v0 v1 v2 v3 v4 : Value) : Below n w (st5 W q v0 v1 v2 v3 v4) :=
  ((((h.setCell (p := ⟨q, 0, none⟩) hq _).setCell (p := ⟨q, 1, none⟩) hq _).setCell (p := ⟨q, 2, none⟩) hq _).setCell (p := ⟨q, 3, none⟩) hq _).setCell (p := ⟨q, 4, none⟩) hq _
theorem Save.own {R : Nat} {w W W' : World} (h : Save R w W) (k : Below w.heap.size W W') : Save R w W' :=
  ⟨k.os.trans h.os, k.tape.trans h.tape, k.output.trans h.output, Nat.le_trans h.size k.size, fun i hi hR => (k.block i hi).trans (h.block i hi hR)⟩
theorem Save.st5 {R : Nat} {w W : World} (h : Save R w W) {q : Nat} (hq : w.heap.size ≤ q) (v0 v1 v2 v3 v4 : Value) : Save R w (st5 W q v0 v1 v2 v3 v4) := h.own (st5_below (Below.refl _ _) hq _ _ _ _ _)
theorem Save.alloc {R : Nat} {w W : World} (h : Save R w W) (o : Obj) : Save R w (W.alloc o) := h.own ((Below.refl _ _).alloc h.size _)
theorem Rd.st5 {R q : Nat} {s : ByteArray} {ov dv : Value} {W : World} (h : Rd R s ov dv W) (hR : R ≠ q) (v0 v1 v2 v3 v4 : Value) : Rd R s ov dv (st5 W q v0 v1 v2 v3 v4) := by
  unfold Rd; rw [st5_other W v0 v1 v2 v3 v4 hR]; exact h
theorem Rd.alloc {R : Nat} {s : ByteArray} {ov dv : Value} {W : World} (h : Rd R s ov dv W) (o : Obj) : Rd R s ov dv (W.alloc o) := h.keep ((Below.refl _ _).alloc (Nat.le_refl _) _)
end Go.Proofs.YtganmmkdcaphfaaGreatDoor.Rd

/-
  Contract of the page's Same, at two values that read as one tree: true; all older memory lies as it lay.
-/
namespace Go.Proofs.YtganmmkdcaphfaaGreatDoor.Val
open Go.RowKit Go.Proofs.YtganmmkdcaphfaaGreatDoor.Oct

theorem Holds.cases {C : Cond} {w : World} {v : Value} {k n : Int} {s : ByteArray} {l : List V} {ks : List ByteArray} (h : Holds C w v (.mk k n s l ks)) :
    ∃ (p : Option Addr) (cap : Nat) (K : Value) (b off : Nat) (c : Nat → Nat → Value), v = .agg #[.int .i64 k, .int .i64 n, .string s, .slice p l.length cap, K] ∧
      (0 < l.length → p = some ⟨b, off, none⟩ ∧ C false b off l.length) ∧ (∀ i j, i < l.length → j < 5 → w.cell? ⟨b, off + (i * 5 + j), none⟩ = some (c i j)) ∧ Texts C w K ks ∧
      ∀ i (h : i < l.length), Holds C w (.agg #[c i 0, c i 1, c i 2, c i 3, c i 4]) l[i] := by
  cases h with
  | mk _ _ _ p cap K _ _ b off c hr hp hc hK hl => exact ⟨p, cap, K, b, off, c, rfl, hp, hc, hK, hl⟩

end Go.Proofs.YtganmmkdcaphfaaGreatDoor.Val
