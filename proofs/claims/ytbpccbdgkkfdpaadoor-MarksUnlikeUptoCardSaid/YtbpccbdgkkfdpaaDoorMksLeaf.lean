/-
  Contracts of the leaves of marks.Check: greatest, sizes, Kind, and of the closure of uses.
-/
import Derived.Test.YtbpccbdgkkfdpaaDoorMksPure
namespace Go.Proofs.YtbpccbdgkkfdpaaDoor.Mks
open Go.RowKit Go.Proofs.YtbpccbdgkkfdpaaDoor.Oct Go.Proofs.YtbpccbdgkkfdpaaDoor.Num Go.Proofs.YtbpccbdgkkfdpaaDoor.Scn Go.Proofs.YtbpccbdgkkfdpaaDoor.Tab

abbrev greatV : Value := .agg #[.int .i64 19, .int .i64 33, .int .i64 32, .int .i64 255, .int .i64 34, .int .i64 16, .int .i64 15, .int .i64 16]
theorem greatest_c (w : World) : Calls Tryd.prog 36 #[] w fun x w' => x = .returned greatV ∧ Below w.heap.size w w' := by
  go_enter Tryd.func36, Tryd.ntmps36
  go_wp2_with fail
  refine bodyPost_ret (v := greatV) (by simp [results, Tryd.results36, go_sem]) rfl ?_
  exact ⟨rfl, (Below.refl _ w).alloc (Nat.le_refl _) _⟩
abbrev sizesV (k : Int) (E A : ByteArray) (d : UInt8) (P R : ByteArray) (n : Int) (W : ByteArray) : Value :=
  .agg #[.int .i64 k, .int .i64 E.size, .int .i64 A.size, .int .i64 (d.toNat : Int), .int .i64 P.size, .int .i64 R.size, .int .i64 n, .int .i64 W.size]
theorem sizes_c (k : Int) (E A : ByteArray) (d : UInt8) (P R : ByteArray) (n : Int) (W : ByteArray) (w : World) :
    Calls Tryd.prog 37 #[stV k E A d P R n W] w fun x w' => x = .returned (sizesV k E A d P R n W) ∧ Below w.heap.size w w' := by
  have hd : (d.toNat : Int) < 256 := by have := d.toNat_lt; omega
  have hd0 : (0 : Int) ≤ d.toNat := by omega
  go_enter Tryd.func37, Tryd.ntmps37
  go_wp2_with fail
  refine bodyPost_ret (v := sizesV k E A d P R n W) (by simp [results, Tryd.results37, go_sem]) rfl ?_
  exact ⟨rfl, ((Below.refl _ w).alloc (Nat.le_refl _) _).alloc (by simp) _⟩
theorem uses1_c (a b : Int) (g : Nat) (k : Int) (w : World) (hk : w.cell? ⟨g, 0, none⟩ = some (.int .i64 k)) :
    Calls Tryd.prog 57 #[.int .i64 a, .int .i64 b, .pointer (some ⟨g, 0, none⟩)] w fun e w' => e = .returned (.bool (betweenB k a b)) ∧ w = w' := by
  have hw := Num.within_c k a b w
  go_enter Tryd.func57, Tryd.ntmps57
  go_wp2_with fail
  refine hw.mono ?_
  rintro e w' ⟨rfl, rfl⟩
  go_wp2_with fail
  go_ret
  exact ⟨rfl, rfl⟩
theorem enter_uses1 : ∀ args w, (callFunc 57 args).run Tryd.prog w = .ok (.enter 57 args) w := enters_of Tryd.func57 (by kernel_rfl) rfl

abbrev usesV (u1 u2 u3 u4 u5 u6 : Bool) : Value := .agg #[.bool true, .bool u1, .bool u2, .bool u3, .bool u4, .bool u5, .bool u6, .bool u6]
abbrev res0 : Array Value := #[.bool false, .bool false, .bool false, .bool false, .bool false, .bool false, .bool false, .bool false]
/-- The state's box and the result's, behind a call. -/
theorem usesBox {w X : World} {c0 c1 c2 c3 c4 c5 c6 c7 : Value} (h : Below ((w.alloc (.cells #[c0, c1, c2, c3, c4, c5, c6, c7] 24)).alloc (.cells res0 67)).heap.size ((w.alloc (.cells #[c0, c1, c2, c3, c4, c5, c6, c7] 24)).alloc (.cells res0 67)) X) :
    X.cell? ⟨w.heap.size, 0, none⟩ = some c0 ∧ X.heap[w.heap.size + 1]? = some (.cells res0 67 (0, 0)) ∧ Below w.heap.size w X := by
  have e1 : X.heap[w.heap.size + 1]? = some (.cells res0 67 (0, 0)) := (h.block _ (by simp)).trans (by
    have := heap_alloc_new (w.alloc (.cells #[c0, c1, c2, c3, c4, c5, c6, c7] 24)) (.cells res0 67)
    simpa using this)
  have e0 : X.cell? ⟨w.heap.size, 0, none⟩ = some c0 := (h.cell (by simp; omega)).trans (by simp)
  exact ⟨e0, e1, ((((Below.refl _ w).alloc (Nat.le_refl _) _).alloc (by simp) _).trans (h.mono (by simp; omega)))⟩
theorem usesFz {X : World} {b : Nat} (h : X.heap[b]? = some (.cells res0 67 (0, 0))) :
    ∀ j, j < 8 → X.cell? ⟨b, j, none⟩ = some (.bool false) ∧ X.frozen? ⟨b, j, none⟩ = false := fun j hj => by
  have c : ∀ j : Fin 8, X.cell? ⟨b, j.val, none⟩ = some (.bool false) := fun j => by
    have : j.val = 0 ∨ j.val = 1 ∨ j.val = 2 ∨ j.val = 3 ∨ j.val = 4 ∨ j.val = 5 ∨ j.val = 6 ∨ j.val = 7 := by omega
    unfold World.cell?
    rw [h]
    rcases this with e | e | e | e | e | e | e | e <;> rw [e] <;> rfl
  exact ⟨c ⟨j, hj⟩, frozen_of_row X b j _ _ h⟩
theorem row_setU {w : World} {g j : Nat} {cs : Array Value} {t : TypeId} {u : Value} (h : w.heap[g]? = some (.cells cs t (0, 0))) : (w.setCell ⟨g, j, none⟩ u).heap[g]? = some (.cells (cs.setIfInBounds j u) t (0, 0)) := by
  have hlt : g < w.heap.size := (Array.getElem?_eq_some_iff.1 h).1
  have h' : w.heap[g] = .cells cs t (0, 0) := by simpa [Array.getElem?_eq_getElem hlt] using h
  show (w.heap.modify g _)[g]? = _
  rw [Array.getElem?_eq_getElem (by simpa using hlt), Array.getElem_modify_self, h']
  rfl
/-- The result's box, written. -/
def useL8 (Y : World) (g : Nat) (r0 r1 r2 r3 r4 r5 r6 r7 : Value) : World :=
  (((((((Y.setCell ⟨g, 0, none⟩ r0).setCell ⟨g, 1, none⟩ r1).setCell ⟨g, 2, none⟩ r2).setCell ⟨g, 3, none⟩ r3).setCell ⟨g, 4, none⟩ r4).setCell ⟨g, 5, none⟩ r5).setCell ⟨g, 6, none⟩ r6).setCell ⟨g, 7, none⟩ r7
theorem useL8_row {Y : World} {g : Nat} (h : Y.heap[g]? = some (.cells res0 67 (0, 0))) (r0 r1 r2 r3 r4 r5 r6 r7 : Value) : (useL8 Y g r0 r1 r2 r3 r4 r5 r6 r7).heap[g]? = some (.cells #[r0, r1, r2, r3, r4, r5, r6, r7] 67 (0, 0)) := by
  have h8 := row_setU (j := 7) (u := r7) (row_setU (j := 6) (u := r6) (row_setU (j := 5) (u := r5) (row_setU (j := 4) (u := r4) (row_setU (j := 3) (u := r3) (row_setU (j := 2) (u := r2) (row_setU (j := 1) (u := r1) (row_setU (j := 0) (u := r0) h)))))))
  simp only [List.setIfInBounds_toArray, List.set_cons_zero, List.set_cons_succ] at h8
  exact h8
theorem useL8_cells {Y : World} {g : Nat} (h : Y.heap[g]? = some (.cells res0 67 (0, 0))) (r0 r1 r2 r3 r4 r5 r6 r7 : Value) :
    (useL8 Y g r0 r1 r2 r3 r4 r5 r6 r7).cell? ⟨g, 0, none⟩ = some r0 ∧ (useL8 Y g r0 r1 r2 r3 r4 r5 r6 r7).cell? ⟨g, 1, none⟩ = some r1 ∧ (useL8 Y g r0 r1 r2 r3 r4 r5 r6 r7).cell? ⟨g, 2, none⟩ = some r2 ∧ (useL8 Y g r0 r1 r2 r3 r4 r5 r6 r7).cell? ⟨g, 3, none⟩ = some r3 ∧
      (useL8 Y g r0 r1 r2 r3 r4 r5 r6 r7).cell? ⟨g, 4, none⟩ = some r4 ∧ (useL8 Y g r0 r1 r2 r3 r4 r5 r6 r7).cell? ⟨g, 5, none⟩ = some r5 ∧ (useL8 Y g r0 r1 r2 r3 r4 r5 r6 r7).cell? ⟨g, 6, none⟩ = some r6 ∧ (useL8 Y g r0 r1 r2 r3 r4 r5 r6 r7).cell? ⟨g, 7, none⟩ = some r7 := by
  have e := useL8_row h r0 r1 r2 r3 r4 r5 r6 r7
  exact ⟨cell_of_row _ _ 0 _ _ _ e, cell_of_row _ _ 1 _ _ _ e, cell_of_row _ _ 2 _ _ _ e, cell_of_row _ _ 3 _ _ _ e, cell_of_row _ _ 4 _ _ _ e, cell_of_row _ _ 5 _ _ _ e, cell_of_row _ _ 6 _ _ _ e, cell_of_row _ _ 7 _ _ _ e⟩
theorem useL8_below {B : Nat} {w Y : World} {g : Nat} (hb : Below B w Y) (hg : B ≤ g) (r0 r1 r2 r3 r4 r5 r6 r7 : Value) : Below B w (useL8 Y g r0 r1 r2 r3 r4 r5 r6 r7) :=
  (((((((hb.setCell hg _).setCell hg _).setCell hg _).setCell hg _).setCell hg _).setCell hg _).setCell hg _).setCell hg _
theorem useL8_far {Y : World} {g c j : Nat} (h : c < g) {u : Value} (hc : Y.cell? ⟨c, j, none⟩ = some u) (r0 r1 r2 r3 r4 r5 r6 r7 : Value) : (useL8 Y g r0 r1 r2 r3 r4 r5 r6 r7).cell? ⟨c, j, none⟩ = some u :=
  ((useL8_below (B := g) (Below.refl _ Y) (Nat.le_refl _) r0 r1 r2 r3 r4 r5 r6 r7).cell h).trans hc
theorem pre_c (p s : List UInt8) (w : World) :
    Calls Tryd.prog 73 #[.string (S s), .string (S p)] w fun e w' => e = .returned (.bool (preL p s)) ∧ w' = w := by
  have hc := Tryd.strings_HasPrefix (S s) (S p) w
  have e : Lib.hasPrefix (S s).data.toList (S p).data.toList = preL p s := by
    rw [list_S, list_S]
    unfold Lib.hasPrefix preL
    rw [Bool.eq_iff_iff, List.isPrefixOf_iff_prefix, decide_eq_true_eq]
  rw [e] at hc
  exact hc

/-- What Kind tells of a state. -/
def KindOf (s : Value) (m : Int) : Prop := ∀ w, Calls Tryd.prog 58 #[s] w fun x w' => x = .returned (.int .i64 m) ∧ Below w.heap.size w w'
theorem kind_c (k : Int) (e a : List UInt8) (d : UInt8) (P R : ByteArray) (n : Int) (W : ByteArray) : KindOf (stV k (S e) (S a) d P R n W) (attI k e a : Nat) := fun w => by
  have hw := Num.within_c k 8 10
  have hp := fun w => pre_c [47] e w
  rw [pre_slash] at hp
  have ha := fun w => attribute_c e a w
  have E : Hid (attI k e a = if (k < 8 ∨ 10 < k) ∨ endE e = true then 0 else attrN e a) := by show _ = _; rfl
  have hb : betweenB k 8 10 = decide (8 ≤ k ∧ k ≤ 10) := rfl
  rw [hb] at hw
  clear hb
  generalize attI k e a = ans at E ⊢
  generalize endE e = b at hp E
  generalize attrN e a = m at ha E
  generalize S e = EE at *
  generalize S a = AA at *
  by_cases h1 : 8 ≤ k ∧ k ≤ 10
  · rw [decide_eq_true h1] at hw
    cases b with
    | true =>
      go_enter Tryd.func58, Tryd.ntmps58
      go_wp2_with (first
        | (go_at_call 17; refine (hw _).mono ?_; rintro e w' ⟨rfl, rfl⟩)
        | (go_at_call 73; refine (hp _).mono ?_; rintro e w' ⟨rfl, rfl⟩))
      go_ret
      exact ⟨ret_int (by rw [E.out, if_pos (.inr trivial)]; rfl), (Below.refl _ w).alloc (Nat.le_refl _) _⟩
    | false =>
      go_enter Tryd.func58, Tryd.ntmps58
      go_wp2_with (first
        | (go_at_call 17; refine (hw _).mono ?_; rintro e w' ⟨rfl, rfl⟩)
        | (go_at_call 73; refine (hp _).mono ?_; rintro e w' ⟨rfl, rfl⟩))
      refine (ha _).mono ?_
      rintro e w' ⟨rfl, hb⟩
      go_wp2_with fail
      go_ret
      exact ⟨ret_int (by rw [E.out, if_neg (fun h => h.elim (by omega) (by simp))]), ((Below.refl _ w).alloc (Nat.le_refl _) _).trans (hb.mono (by simp))⟩
  · rw [decide_eq_false h1] at hw
    go_enter Tryd.func58, Tryd.ntmps58
    go_wp2_with (go_at_call 17; refine (hw _).mono ?_; rintro e w' ⟨rfl, rfl⟩)
    go_ret
    exact ⟨ret_int (by rw [E.out, if_pos (.inl (by omega))]; rfl), (Below.refl _ w).alloc (Nat.le_refl _) _⟩

/-- What the closure within tells of the numbers a and b. -/
abbrev Wth (k a b : Int) (r : Bool) : Prop := ∀ (X : World) (g : Nat), X.cell? ⟨g, 0, none⟩ = some (.int .i64 k) →
  Calls Tryd.prog 57 #[.int .i64 a, .int .i64 b, .pointer (some ⟨g, 0, none⟩)] X fun e w' => e = .returned (.bool r) ∧ X = w'
theorem wth_of (k a b : Int) (r : Bool) (h : betweenB k a b = r) : Hid (Wth k a b r) := fun X g hc => by
  have := uses1_c a b g k X hc
  rw [h] at this
  exact this
end Go.Proofs.YtbpccbdgkkfdpaaDoor.Mks
