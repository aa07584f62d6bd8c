/-
  Part 11: NumPrint, RowKit, MkBase, MksPure, MksLeaf, JsBase, JscLeaf.
-/
import Derived.Test.YtklpbkjplecdpaaGreatSxBaseP10
import Derived.RangeFuncBox
import Derived.Laws.CopyOwn
import Derived.Lib.BufferWrite
import Derived.Test.YtklpbkjplecdpaaGreatRows
import Derived.WalkKit
import Derived.ProofKit
import Derived.OpenShut
import Derived.JoinedCond
import Derived.SizedLaws
import Derived.Test.YtklpbkjplecdpaaGreatSxBaseP8
import Derived.Lib.Split
import Derived.Lib.Join
import Derived.Test.YtklpbkjplecdpaaGreatSxBaseP2
import Derived.Test.YtklpbkjplecdpaaGreatSxBaseP9
/-
  Contract of number.Print: the number's digits; all older memory lies as it lay.
-/
namespace Go.Proofs.YtklpbkjplecdpaaGreat.Num
open Go.RowKit Oct

theorem cell_of_row {W : World} {g k : Nat} {l : List Value} {t : TypeId} {v : Value} (h : W.heap[g]? = some (.cells l.toArray t (0, 0))) (hv : l[k]? = some v) : W.cell? ⟨g, k, none⟩ = some v := by
  simp [World.cell?, h, hv]

theorem info_u8 : (Tryz.prog.info? 5).map (fun i => (i.zero, i.size, i.bytes)) = some (some (.int .u8 0), 1, 1) := by kernel_rfl

abbrev bv (c : UInt8) : Value := .int .u8 (c.toNat : Int)

end Go.Proofs.YtklpbkjplecdpaaGreat.Num

/-
  The last step of a law's row where the call leaves a world in which all that lay before lies unturned, the arguments are plain values (numbers, truths, texts), and the answer is the truth.
-/
namespace Go.Proofs.YtklpbkjplecdpaaGreat.Kit
open Go.ChangeShapes Go.WideShapes Go.ChangeAt Go.RowKit
variable {H : Type} {enc : TypeId × Value → H} {P : Program}

theorem own : ownKnob Tryz.prog.godebug = none := by kernel_rfl

theorem post_plain {f : Func} {s : ChangeSpec} {apart fresh handsOn again : Bool} {W W' : World} {args : Array Value} {v : Value} {ds gs : List (DataW H)}
    (hW : DataW.Whole enc P f.params.toList s.vars apart W args.toList ds gs [])
    (hres : ∀ (b : Nat) (sp : Nat → Bool) (hd : Bool), DataW.TrodAll enc P W' b sp hd f.resultTypes.toList (v.resultList f.resultTypes.size) (s.fn H (ds ++ gs)).results [])
    (hargs : ∀ sp : Nat → Bool, DataW.TrodAll enc P W' 0 sp true f.params.toList args.toList (s.fn H (ds ++ gs)).args [])
    (hvars : ∀ sp : Nat → Bool, DataW.TrodVars enc P W' sp s.vars (s.fn H (ds ++ gs)).vars [])
    (hb : Below W.heap.size W W')
    (hok : ∀ (j : Nat) (t : TypeId) (r : Value), f.resultTypes[j]? = some t → (v.resultList f.resultTypes.size)[j]? = some r → Value.okWide P W' .any 0 t r) :
    s.post enc P f apart fresh handsOn again W args v W' :=
  ⟨ds, gs, [], [], [], [], hW, hres _ _ _, hargs _, hvars _, hb.frame _, fun _ =>
    ⟨hok, _, _, [], ⟨[], [], trodAll_append (hargs _) (hres _ _ _), hvars _, rfl, fun _ _ h => by simp at h, fun _ => by simp⟩, fun _ h => by simp at h⟩⟩
end Go.Proofs.YtklpbkjplecdpaaGreat.Kit

/-
  What the contracts of states (marks) are built upon, where a later stage wants them: the code's tables, number, percent (in the place of stage 13's merged base).
-/

/-
  States of package marks as plain lists of octets, with no program: whether one may be, its text, what a text reads as.
-/
namespace Go.Proofs.YtklpbkjplecdpaaGreat.Mks
open Oct Utf Pct Num Scn Tab

structure St where
  k : Int
  e : List UInt8
  a : List UInt8
  d : UInt8
  p : List UInt8
  r : List UInt8
  n : Int
  w : List UInt8
deriving DecidableEq

def btw (n a b : Int) : Bool := decide (a ≤ n ∧ n ≤ b)
def attS (s : St) : Nat := if (s.k < 8 ∨ 10 < s.k) ∨ endE s.e = true then 0 else attrN s.e s.a
def partS (s : St) : Bool := btw s.k 18 19 || (btw s.k 9 10 && btw (attS s : Int) 1 3)
def useS (s : St) : List Bool := [true, btw s.k 3 12 || btw s.k 17 19, btw s.k 6 10, decide (s.k = 9), btw s.k 16 19, decide (s.k = 0) || btw s.k 9 10 || decide (s.k = 17), partS s, partS s]
def sizS (s : St) : List Int := [s.k, (s.e.length : Int), (s.a.length : Int), (s.d.toNat : Int), (s.p.length : Int), (s.r.length : Int), s.n, (s.w.length : Int)]
def mostS : List Int := [19, 33, 32, 255, 34, 16, 15, 16]
def okF (u : Bool) (z m : Int) : Bool := (u || decide (z = 0)) && btw z 0 m
def okAt (s : St) (j : Nat) : Bool := okF ((useS s).getD j false) ((sizS s).getD j 0) (mostS.getD j 0)
def endS (s : St) : Bool := decide (s.k ≠ 9) || s.d == 34 || s.d == 39
def mayS (s : St) : Bool := (List.range 8).all (okAt s) && endS s
def checkC (s : St) : Nat := if btw s.k 0 19 = true then (if mayS s = true then 0 else 9) else 4

theorem may_at {s : St} (h : mayS s = true) (j : Nat) (hj : j < 8) : okAt s j = true := by
  unfold mayS at h
  rw [Bool.and_eq_true, List.all_eq_true] at h
  exact h.1 j (by simp [hj])
theorem may_not {s : St} {j : Nat} (hj : j < 8) (h : okAt s j = false) : mayS s = false := by
  cases hm : mayS s with
  | false => rfl
  | true => rw [may_at hm j hj] at h; cases h
theorem may_all {s : St} (h : ∀ j, j < 8 → okAt s j = true) : mayS s = endS s := by
  unfold mayS
  rw [show (List.range 8).all (okAt s) = true from List.all_eq_true.2 fun j hj => h j (by simpa using hj), Bool.true_and]


end Go.Proofs.YtklpbkjplecdpaaGreat.Mks

/-
  Contracts of the leaves of marks.Check: greatest, sizes, Kind, and of the closure of uses.
-/
namespace Go.Proofs.YtklpbkjplecdpaaGreat.Mks
open Go.RowKit Oct Num Scn Tab

abbrev greatV : Value := .agg #[.int .i64 19, .int .i64 33, .int .i64 32, .int .i64 255, .int .i64 34, .int .i64 16, .int .i64 15, .int .i64 16]
theorem greatest_c (w : World) : Calls Tryz.prog 69 #[] w fun x w' => x = .returned greatV ∧ Below w.heap.size w w' := by
  go_enter Tryz.func69, Tryz.ntmps69
  go_wp2_with fail
  refine bodyPost_ret (v := greatV) (by simp [results, Tryz.results69, go_sem]) rfl ?_
  exact ⟨rfl, (Below.refl _ w).alloc (Nat.le_refl _) _⟩
abbrev sizesV (k : Int) (E A : ByteArray) (d : UInt8) (P R : ByteArray) (n : Int) (W : ByteArray) : Value :=
  .agg #[.int .i64 k, .int .i64 E.size, .int .i64 A.size, .int .i64 (d.toNat : Int), .int .i64 P.size, .int .i64 R.size, .int .i64 n, .int .i64 W.size]
theorem sizes_c (k : Int) (E A : ByteArray) (d : UInt8) (P R : ByteArray) (n : Int) (W : ByteArray) (w : World) :
    Calls Tryz.prog 70 #[stV k E A d P R n W] w fun x w' => x = .returned (sizesV k E A d P R n W) ∧ Below w.heap.size w w' := by
  have hd : (d.toNat : Int) < 256 := by have := d.toNat_lt; omega
  have hd0 : (0 : Int) ≤ d.toNat := by omega
  go_enter Tryz.func70, Tryz.ntmps70
  go_wp2_with fail
  refine bodyPost_ret (v := sizesV k E A d P R n W) (by simp [results, Tryz.results70, go_sem]) rfl ?_
  exact ⟨rfl, ((Below.refl _ w).alloc (Nat.le_refl _) _).alloc (by simp) _⟩
theorem uses1_c (a b : Int) (g : Nat) (k : Int) (w : World) (hk : w.cell? ⟨g, 0, none⟩ = some (.int .i64 k)) :
    Calls Tryz.prog 99 #[.int .i64 a, .int .i64 b, .pointer (some ⟨g, 0, none⟩)] w fun e w' => e = .returned (.bool (betweenB k a b)) ∧ w = w' := by
  have hw := Num.within_c k a b w
  go_enter Tryz.func99, Tryz.ntmps99
  go_wp2_with fail
  refine hw.mono ?_
  rintro e w' ⟨rfl, rfl⟩
  go_wp2_with fail
  go_ret
  exact ⟨rfl, rfl⟩
theorem enter_uses1 : ∀ args w, (callFunc 99 args).run Tryz.prog w = .ok (.enter 99 args) w := enters_of Tryz.func99 (by kernel_rfl) rfl

abbrev usesV (u1 u2 u3 u4 u5 u6 : Bool) : Value := .agg #[.bool true, .bool u1, .bool u2, .bool u3, .bool u4, .bool u5, .bool u6, .bool u6]
abbrev res0 : Array Value := #[.bool false, .bool false, .bool false, .bool false, .bool false, .bool false, .bool false, .bool false]
theorem usesBox {w X : World} {c0 c1 c2 c3 c4 c5 c6 c7 : Value} (h : Below ((w.alloc (.cells #[c0, c1, c2, c3, c4, c5, c6, c7] 24)).alloc (.cells res0 80)).heap.size ((w.alloc (.cells #[c0, c1, c2, c3, c4, c5, c6, c7] 24)).alloc (.cells res0 80)) X) :
    X.cell? ⟨w.heap.size, 0, none⟩ = some c0 ∧ X.heap[w.heap.size + 1]? = some (.cells res0 80 (0, 0)) ∧ Below w.heap.size w X := by
  have e1 : X.heap[w.heap.size + 1]? = some (.cells res0 80 (0, 0)) := (h.block _ (by simp)).trans (by
    have := heap_alloc_new (w.alloc (.cells #[c0, c1, c2, c3, c4, c5, c6, c7] 24)) (.cells res0 80)
    simpa using this)
  have e0 : X.cell? ⟨w.heap.size, 0, none⟩ = some c0 := (h.cell (by simp; omega)).trans (by simp)
  exact ⟨e0, e1, ((((Below.refl _ w).alloc (Nat.le_refl _) _).alloc (by simp) _).trans (h.mono (by simp; omega)))⟩
theorem usesFz {X : World} {b : Nat} (h : X.heap[b]? = some (.cells res0 80 (0, 0))) :
    ∀ j, j < 8 → X.cell? ⟨b, j, none⟩ = some (.bool false) ∧ X.frozen? ⟨b, j, none⟩ = false := fun j hj => by
  have c : ∀ j : Fin 8, X.cell? ⟨b, j.val, none⟩ = some (.bool false) := fun j => by
    have : j.val = 0 ∨ j.val = 1 ∨ j.val = 2 ∨ j.val = 3 ∨ j.val = 4 ∨ j.val = 5 ∨ j.val = 6 ∨ j.val = 7 := by omega
    unfold World.cell?
    rw [h]
    rcases this with e | e | e | e | e | e | e | e <;> rw [e] <;> rfl
  exact ⟨c ⟨j, hj⟩, frozen_of_row X b j _ _ h⟩
theorem row_setU {w : World} {g j : Nat} {cs : Array Value} {t : TypeId} {u : Value} (h : w.heap[g]? = some (.cells cs t (0, 0))) : (w.setCell ⟨g, j, none⟩ u).heap[g]? = some (.cells (cs.setIfInBounds j u) t (0, 0)) := by
  have hlt : g < w.heap.size := (Array.getElem?_eq_some_iff.1 h).1
  have h' : w.heap[g] = .cells cs t (0, 0) := by simpa [Array.getElem?_eq_getElem hlt] using h
  show (w.heap.modify g _)[g]? = _
  rw [Array.getElem?_eq_getElem (by simpa using hlt), Array.getElem_modify_self, h']
  rfl
def useL8 (Y : World) (g : Nat) (r0 r1 r2 r3 r4 r5 r6 r7 : Value) : World :=
  (((((((Y.setCell ⟨g, 0, none⟩ r0).setCell ⟨g, 1, none⟩ r1).setCell ⟨g, 2, none⟩ r2).setCell ⟨g, 3, none⟩ r3).setCell ⟨g, 4, none⟩ r4).setCell ⟨g, 5, none⟩ r5).setCell ⟨g, 6, none⟩ r6).setCell ⟨g, 7, none⟩ r7
theorem useL8_row {Y : World} {g : Nat} (h : Y.heap[g]? = some (.cells res0 80 (0, 0))) (r0 r1 r2 r3 r4 r5 r6 r7 : Value) : (useL8 Y g r0 r1 r2 r3 r4 r5 r6 r7).heap[g]? = some (.cells #[r0, r1, r2, r3, r4, r5, r6, r7] 80 (0, 0)) := by
  have h8 := row_setU (j := 7) (u := r7) (row_setU (j := 6) (u := r6) (row_setU (j := 5) (u := r5) (row_setU (j := 4) (u := r4) (row_setU (j := 3) (u := r3) (row_setU (j := 2) (u := r2) (row_setU (j := 1) (u := r1) (row_setU (j := 0) (u := r0) h)))))))
  simp only [List.setIfInBounds_toArray, List.set_cons_zero, List.set_cons_succ] at h8
  exact h8
theorem useL8_cells {Y : World} {g : Nat} (h : Y.heap[g]? = some (.cells res0 80 (0, 0))) (r0 r1 r2 r3 r4 r5 r6 r7 : Value) :
    (useL8 Y g r0 r1 r2 r3 r4 r5 r6 r7).cell? ⟨g, 0, none⟩ = some r0 ∧ (useL8 Y g r0 r1 r2 r3 r4 r5 r6 r7).cell? ⟨g, 1, none⟩ = some r1 ∧ (useL8 Y g r0 r1 r2 r3 r4 r5 r6 r7).cell? ⟨g, 2, none⟩ = some r2 ∧ (useL8 Y g r0 r1 r2 r3 r4 r5 r6 r7).cell? ⟨g, 3, none⟩ = some r3 ∧
      (useL8 Y g r0 r1 r2 r3 r4 r5 r6 r7).cell? ⟨g, 4, none⟩ = some r4 ∧ (useL8 Y g r0 r1 r2 r3 r4 r5 r6 r7).cell? ⟨g, 5, none⟩ = some r5 ∧ (useL8 Y g r0 r1 r2 r3 r4 r5 r6 r7).cell? ⟨g, 6, none⟩ = some r6 ∧ (useL8 Y g r0 r1 r2 r3 r4 r5 r6 r7).cell? ⟨g, 7, none⟩ = some r7 := by
  have e := useL8_row h r0 r1 r2 r3 r4 r5 r6 r7
  exact ⟨cell_of_row _ _ 0 _ _ _ e, cell_of_row _ _ 1 _ _ _ e, cell_of_row _ _ 2 _ _ _ e, cell_of_row _ _ 3 _ _ _ e, cell_of_row _ _ 4 _ _ _ e, cell_of_row _ _ 5 _ _ _ e, cell_of_row _ _ 6 _ _ _ e, cell_of_row _ _ 7 _ _ _ e⟩
theorem useL8_below {B : Nat} {w Y : World} {g : Nat} (hb : Below B w Y) (hg : B ≤ g) (r0 r1 r2 r3 r4 r5 r6 r7 : Value) : Below B w (useL8 Y g r0 r1 r2 r3 r4 r5 r6 r7) :=
  (((((((hb.setCell hg _).setCell hg _).setCell hg _).setCell hg _).setCell hg _).setCell hg _).setCell hg _).setCell hg _
theorem useL8_far {Y : World} {g c j : Nat} (h : c < g) {u : Value} (hc : Y.cell? ⟨c, j, none⟩ = some u) (r0 r1 r2 r3 r4 r5 r6 r7 : Value) : (useL8 Y g r0 r1 r2 r3 r4 r5 r6 r7).cell? ⟨c, j, none⟩ = some u :=
  ((useL8_below (B := g) (Below.refl _ Y) (Nat.le_refl _) r0 r1 r2 r3 r4 r5 r6 r7).cell h).trans hc
theorem pre_c (p s : List UInt8) (w : World) :
    Calls Tryz.prog 88 #[.string (S s), .string (S p)] w fun e w' => e = .returned (.bool (preL p s)) ∧ w' = w := by
  have hc := Tryz.strings_HasPrefix (S s) (S p) w
  have e : Lib.hasPrefix (S s).data.toList (S p).data.toList = preL p s := by
    rw [list_S, list_S]
    unfold Lib.hasPrefix preL
    rw [Bool.eq_iff_iff, List.isPrefixOf_iff_prefix, decide_eq_true_eq]
  rw [e] at hc
  exact hc

def KindOf (s : Value) (m : Int) : Prop := ∀ w, Calls Tryz.prog 100 #[s] w fun x w' => x = .returned (.int .i64 m) ∧ Below w.heap.size w w'
theorem kind_c (k : Int) (e a : List UInt8) (d : UInt8) (P R : ByteArray) (n : Int) (W : ByteArray) : KindOf (stV k (S e) (S a) d P R n W) (attI k e a : Nat) := fun w => by
  have hw := Num.within_c k 8 10
  have hp := fun w => pre_c [47] e w
  rw [pre_slash] at hp
  have ha := fun w => attribute_c e a w
  have E : Hid (attI k e a = if (k < 8 ∨ 10 < k) ∨ endE e = true then 0 else attrN e a) := by show _ = _; rfl
  have hb : betweenB k 8 10 = decide (8 ≤ k ∧ k ≤ 10) := rfl
  rw [hb] at hw
  clear hb
  generalize attI k e a = ans at E ⊢
  generalize endE e = b at hp E
  generalize attrN e a = m at ha E
  generalize S e = EE at *
  generalize S a = AA at *
  by_cases h1 : 8 ≤ k ∧ k ≤ 10
  · rw [decide_eq_true h1] at hw
    cases b with
    | true =>
      go_enter Tryz.func100, Tryz.ntmps100
      go_wp2_with (first
        | (go_at_call 35; refine (hw _).mono ?_; rintro e w' ⟨rfl, rfl⟩)
        | (go_at_call 88; refine (hp _).mono ?_; rintro e w' ⟨rfl, rfl⟩))
      go_ret
      exact ⟨ret_int (by rw [E.out, if_pos (.inr trivial)]; rfl), (Below.refl _ w).alloc (Nat.le_refl _) _⟩
    | false =>
      go_enter Tryz.func100, Tryz.ntmps100
      go_wp2_with (first
        | (go_at_call 35; refine (hw _).mono ?_; rintro e w' ⟨rfl, rfl⟩)
        | (go_at_call 88; refine (hp _).mono ?_; rintro e w' ⟨rfl, rfl⟩))
      refine (ha _).mono ?_
      rintro e w' ⟨rfl, hb⟩
      go_wp2_with fail
      go_ret
      exact ⟨ret_int (by rw [E.out, if_neg (fun h => h.elim (by omega) (by simp))]), ((Below.refl _ w).alloc (Nat.le_refl _) _).trans (hb.mono (by simp))⟩
  · rw [decide_eq_false h1] at hw
    go_enter Tryz.func100, Tryz.ntmps100
    go_wp2_with (go_at_call 35; refine (hw _).mono ?_; rintro e w' ⟨rfl, rfl⟩)
    go_ret
    exact ⟨ret_int (by rw [E.out, if_pos (.inl (by omega))]; rfl), (Below.refl _ w).alloc (Nat.le_refl _) _⟩

abbrev Wth (k a b : Int) (r : Bool) : Prop := ∀ (X : World) (g : Nat), X.cell? ⟨g, 0, none⟩ = some (.int .i64 k) →
  Calls Tryz.prog 99 #[.int .i64 a, .int .i64 b, .pointer (some ⟨g, 0, none⟩)] X fun e w' => e = .returned (.bool r) ∧ X = w'
theorem wth_of (k a b : Int) (r : Bool) (h : betweenB k a b = r) : Hid (Wth k a b r) := fun X g hc => by
  have := uses1_c a b g k X hc
  rw [h] at this
  exact this
end Go.Proofs.YtklpbkjplecdpaaGreat.Mks

/-
  What the contracts of jsscan's Step are built upon, where a later stage wants them (in the place of stage 15's merged base).
-/

/-
  Contracts of the leaves of package jsscan: newlines, words, marks, what ends a line.
-/
namespace Go.Proofs.YtklpbkjplecdpaaGreat.Jsc
open Go.RowKit Oct Utf

theorem oct_ne {c : UInt8} {n : Nat} (h : c ≠ n.toUInt8) (hn : n < 256) : ((c.toNat : Int) == (n : Int)) = false := by
  rw [beq_eq_false_iff_ne]
  intro e
  apply h
  apply UInt8.toNat_inj.1
  rw [Nat.toUInt8_eq, UInt8.toNat_ofNat']
  omega

def lineI (n : Int) : Bool := decide (n = 10 ∨ n = 13)
theorem newline_c (n : Int) (w : World) : Calls Tryz.prog 168 #[.int .u8 n] w fun e w' => e = .returned (.bool (lineI n)) ∧ w = w' := by
  by_cases h1 : n = 10
  · subst h1
    go_enter Tryz.func168, Tryz.ntmps168
    go_wp2_with fail
    go_ret
    exact ⟨rfl, rfl⟩
  have b1 : (n == 10) = false := by rw [beq_eq_false_iff_ne]; exact h1
  by_cases h2 : n = 13
  · subst h2
    go_enter Tryz.func168, Tryz.ntmps168
    go_wp2_with fail
    go_ret
    exact ⟨rfl, rfl⟩
  have b2 : (n == 13) = false := by rw [beq_eq_false_iff_ne]; exact h2
  have E : Hid (lineI n = false) := by
    show _ = _
    unfold lineI
    rw [decide_eq_false (by omega)]
  clear h1 h2
  go_enter Tryz.func168, Tryz.ntmps168
  go_wp2_with fail
  go_ret
  exact ⟨ret_bool (by rw [E.out]), rfl⟩

theorem upTo_c (e0 n p b : Int) (w : World) : Calls Tryz.prog 166 #[.int .u8 e0, .int .u8 n, .int .i64 p, .int .i64 b] w fun e w' => e = .returned (.int .i64 (if n = e0 then b else p)) ∧ w = w' := by
  by_cases h : n = e0
  · rw [if_pos h]
    have hb : (n == e0) = true := by rw [beq_iff_eq]; exact h
    clear h
    go_enter Tryz.func166, Tryz.ntmps166
    go_wp2_with fail
    go_ret
    exact ⟨rfl, rfl⟩
  · rw [if_neg h]
    have hb : (n == e0) = false := by rw [beq_eq_false_iff_ne]; exact h
    clear h
    go_enter Tryz.func166, Tryz.ntmps166
    go_wp2_with fail
    go_ret
    exact ⟨rfl, rfl⟩

def inLineI (n s r : Int) : Int := if lineI n = true then 15 else if n = 92 then s else r
theorem inLine_c (n s r : Int) (g b : Nat) (w : World) (eg : ∀ args w, (callFunc g args).run Tryz.prog w = .ok (.enter g args) w) (hg : Calls Tryz.prog g #[.pointer (some ⟨b, 0, none⟩)] w fun e w' => e = .returned (.int .i64 r) ∧ w = w') :
    Calls Tryz.prog 164 #[.int .u8 n, .int .i64 s, .func (.func g) #[] #[.pointer (some ⟨b, 0, none⟩)]] w fun e w' => e = .returned (.int .i64 (inLineI n s r)) ∧ w = w' := by
  have hn := newline_c n w
  unfold inLineI
  cases hl : lineI n with
  | true =>
    rw [hl] at hn
    rw [if_pos rfl]
    clear hl hg
    go_enter Tryz.func164, Tryz.ntmps164
    go_wp2_with (go_at_call 168; refine hn.mono ?_; rintro e w' ⟨rfl, rfl⟩)
    go_ret
    exact ⟨rfl, rfl⟩
  | false =>
    rw [hl] at hn
    rw [if_neg (by simp)]
    by_cases h : n = 92
    · rw [if_pos h]
      subst h
      clear hl hg
      go_enter Tryz.func164, Tryz.ntmps164
      go_wp2_with (go_at_call 168; refine hn.mono ?_; rintro e w' ⟨rfl, rfl⟩)
      go_ret
      exact ⟨rfl, rfl⟩
    · rw [if_neg h]
      have hb : (n == 92) = false := by rw [beq_eq_false_iff_ne]; exact h
      clear hl h
      go_enter Tryz.func164, Tryz.ntmps164
      go_wp2_with (first | (go_at_call 168; refine hn.mono ?_; rintro e w' ⟨rfl, rfl⟩) | (go_at_fn g; refine hg.mono ?_; rintro e w' ⟨rfl, rfl⟩))
      go_ret
      exact ⟨rfl, rfl⟩

def wordI (n : Int) : Bool := letterI n || digitI n || decide (n = 95) || decide (n = 36) || decide (127 < n)
theorem word_oct (c : UInt8) : wordI (c.toNat : Int) = wordB c := by
  have h : ∀ k : Fin 256, wordI ((UInt8.ofNat k.val).toNat : Int) = wordB (UInt8.ofNat k.val) := by decide +kernel
  have := h ⟨c.toNat, c.toNat_lt⟩
  simpa using this
theorem inWord_c (n : Int) (w : World) (h0 : 0 ≤ n) (h1 : n ≤ 255) : Calls Tryz.prog 160 #[.int .u8 n] w fun e w' => e = .returned (.bool (wordI n)) ∧ w = w' := by
  have hl := letter_c n w h0 h1
  have E : Hid (wordI n = (letterI n || digitI n || decide (n = 95) || decide (n = 36) || decide (127 < n))) := rfl
  generalize wordI n = ans at E ⊢
  cases hlt : letterI n with
  | true =>
    rw [hlt] at hl E
    go_enter Tryz.func160, Tryz.ntmps160
    go_wp2_with (go_at_call 73; refine hl.mono ?_; rintro e w' ⟨rfl, rfl⟩)
    go_ret
    exact ⟨ret_bool (by rw [E.out]; simp), rfl⟩
  | false =>
    rw [hlt] at hl E
    clear hlt
    go_enter Tryz.func160, Tryz.ntmps160
    go_wp2_with (go_at_call 73; refine hl.mono ?_; rintro e w' ⟨rfl, rfl⟩)
    all_goals go_ret
    all_goals (refine ⟨ret_bool ?_, rfl⟩; rw [E.out]; rw [Bool.eq_iff_iff]; simp [digitI]; try (first | omega | (simp only [beq_iff_eq, beq_eq_false_iff_ne] at *; omega)))

theorem conv_one (w : World) (c : UInt8) : (convert 49 9 (.slice (some ⟨w.heap.size, 0, none⟩) 1 1)).run Tryz.prog (w.alloc (.cells #[.int .u8 (c.toNat : Int)] 5)) = .ok (.string (S [c])) (w.alloc (.cells #[.int .u8 (c.toNat : Int)] 5)) := by
  refine Mem.conv_own (base := w.heap.size) (n := 1) ?_
  exact ⟨rfl, .inr ⟨w.heap.size, 1, #[.int .u8 (c.toNat : Int)], rfl, Nat.le_refl _, heap_alloc_new w _, Nat.le_refl _, by decide, rfl, rfl⟩⟩
theorem grown_c (l : List UInt8) (c : UInt8) (w : World) :
    Calls Tryz.prog 161 #[.string (S l), .int .u8 (c.toNat : Int)] w fun e w' => e = .returned (.string (S (if l.length < 16 then l ++ [c] else l))) ∧ Below w.heap.size w w' := by
  have hsz : ((S l).size : Int) = (l.length : Int) := by rw [size_S]
  by_cases hlt : l.length < 16
  · rw [if_pos hlt]
    have hz : ¬ ((16 : Int) ≤ (l.length : Int)) := by omega
    have hcv := conv_one w c
    have ha : S l ++ S [c] = S (l ++ [c]) := S_append l [c]
    have z1 : (S l).size ≤ 16 := by rw [size_S]; omega
    have z2 : (S [c]).size ≤ 1 := by rw [size_S]; simp
    generalize S (l ++ [c]) = X at ha ⊢
    generalize S [c] = Y at ha hcv z2
    generalize S l = L at ha hsz z1 ⊢
    generalize (c.toNat : Int) = n at hcv ⊢
    go_enter Tryz.func161, Tryz.ntmps161
    go_wp2_with fail
    go_ret
    exact ⟨rfl, (Below.refl _ w).alloc (Nat.le_refl _) _⟩
  · rw [if_neg hlt]
    have hz : ((16 : Int) ≤ (l.length : Int)) := by omega
    clear hlt
    generalize S l = L at hsz ⊢
    go_enter Tryz.func161, Tryz.ntmps161
    go_wp2_with fail
    go_ret
    exact ⟨rfl, Below.refl _ _⟩

theorem eqK (a b : List UInt8) : ((S a).toList == b) = decide (a = b) := by
  rw [ByteArray.toList_eq]
  simp only
  rw [Bool.eq_iff_iff]
  simp
theorem ahead_c (l : List UInt8) (w : World) : Calls Tryz.prog 162 #[.string (S l)] w fun e w' => e = .returned (.bool (keyB l)) ∧ w = w' := by
  have q0 : ((S l).toList == [114, 101, 116, 117, 114, 110]) = decide (l = [114, 101, 116, 117, 114, 110]) := eqK l _
  have q1 : ((S l).toList == [116, 121, 112, 101, 111, 102]) = decide (l = [116, 121, 112, 101, 111, 102]) := eqK l _
  have q2 : ((S l).toList == [99, 97, 115, 101]) = decide (l = [99, 97, 115, 101]) := eqK l _
  have q3 : ((S l).toList == [105, 110]) = decide (l = [105, 110]) := eqK l _
  have q4 : ((S l).toList == [111, 102]) = decide (l = [111, 102]) := eqK l _
  have q5 : ((S l).toList == [100, 101, 108, 101, 116, 101]) = decide (l = [100, 101, 108, 101, 116, 101]) := eqK l _
  have q6 : ((S l).toList == [118, 111, 105, 100]) = decide (l = [118, 111, 105, 100]) := eqK l _
  have q7 : ((S l).toList == [116, 104, 114, 111, 119]) = decide (l = [116, 104, 114, 111, 119]) := eqK l _
  have q8 : ((S l).toList == [110, 101, 119]) = decide (l = [110, 101, 119]) := eqK l _
  have q9 : ((S l).toList == [101, 108, 115, 101]) = decide (l = [101, 108, 115, 101]) := eqK l _
  have q10 : ((S l).toList == [100, 111]) = decide (l = [100, 111]) := eqK l _
  have q11 : ((S l).toList == [105, 110, 115, 116, 97, 110, 99, 101, 111, 102]) = decide (l = [105, 110, 115, 116, 97, 110, 99, 101, 111, 102]) := eqK l _
  have E : Hid (keyB l = (decide (l = [114, 101, 116, 117, 114, 110]) || decide (l = [116, 121, 112, 101, 111, 102]) || decide (l = [99, 97, 115, 101]) || decide (l = [105, 110]) || decide (l = [111, 102]) || decide (l = [100, 101, 108, 101, 116, 101]) || decide (l = [118, 111, 105, 100]) || decide (l = [116, 104, 114, 111, 119]) || decide (l = [110, 101, 119]) || decide (l = [101, 108, 115, 101]) || decide (l = [100, 111]) || decide (l = [105, 110, 115, 116, 97, 110, 99, 101, 111, 102]))) := by
    show _ = _
    unfold keyB keys
    rw [Bool.eq_iff_iff]
    simp [or_assoc]
  generalize decide (l = [114, 101, 116, 117, 114, 110]) = b0 at q0 E
  generalize decide (l = [116, 121, 112, 101, 111, 102]) = b1 at q1 E
  generalize decide (l = [99, 97, 115, 101]) = b2 at q2 E
  generalize decide (l = [105, 110]) = b3 at q3 E
  generalize decide (l = [111, 102]) = b4 at q4 E
  generalize decide (l = [100, 101, 108, 101, 116, 101]) = b5 at q5 E
  generalize decide (l = [118, 111, 105, 100]) = b6 at q6 E
  generalize decide (l = [116, 104, 114, 111, 119]) = b7 at q7 E
  generalize decide (l = [110, 101, 119]) = b8 at q8 E
  generalize decide (l = [101, 108, 115, 101]) = b9 at q9 E
  generalize decide (l = [100, 111]) = b10 at q10 E
  generalize decide (l = [105, 110, 115, 116, 97, 110, 99, 101, 111, 102]) = b11 at q11 E
  generalize keyB l = ans at E ⊢
  generalize S l = L at *
  cases b0
  rotate_left
  · go_enter Tryz.func162, Tryz.ntmps162
    go_wp2_with fail
    go_ret
    exact ⟨ret_bool (by rw [E.out]; simp), rfl⟩
  cases b1
  rotate_left
  · go_enter Tryz.func162, Tryz.ntmps162
    go_wp2_with fail
    go_ret
    exact ⟨ret_bool (by rw [E.out]; simp), rfl⟩
  cases b2
  rotate_left
  · go_enter Tryz.func162, Tryz.ntmps162
    go_wp2_with fail
    go_ret
    exact ⟨ret_bool (by rw [E.out]; simp), rfl⟩
  cases b3
  rotate_left
  · go_enter Tryz.func162, Tryz.ntmps162
    go_wp2_with fail
    go_ret
    exact ⟨ret_bool (by rw [E.out]; simp), rfl⟩
  cases b4
  rotate_left
  · go_enter Tryz.func162, Tryz.ntmps162
    go_wp2_with fail
    go_ret
    exact ⟨ret_bool (by rw [E.out]; simp), rfl⟩
  cases b5
  rotate_left
  · go_enter Tryz.func162, Tryz.ntmps162
    go_wp2_with fail
    go_ret
    exact ⟨ret_bool (by rw [E.out]; simp), rfl⟩
  cases b6
  rotate_left
  · go_enter Tryz.func162, Tryz.ntmps162
    go_wp2_with fail
    go_ret
    exact ⟨ret_bool (by rw [E.out]; simp), rfl⟩
  cases b7
  rotate_left
  · go_enter Tryz.func162, Tryz.ntmps162
    go_wp2_with fail
    go_ret
    exact ⟨ret_bool (by rw [E.out]; simp), rfl⟩
  cases b8
  rotate_left
  · go_enter Tryz.func162, Tryz.ntmps162
    go_wp2_with fail
    go_ret
    exact ⟨ret_bool (by rw [E.out]; simp), rfl⟩
  cases b9
  rotate_left
  · go_enter Tryz.func162, Tryz.ntmps162
    go_wp2_with fail
    go_ret
    exact ⟨ret_bool (by rw [E.out]; simp), rfl⟩
  cases b10
  rotate_left
  · go_enter Tryz.func162, Tryz.ntmps162
    go_wp2_with fail
    go_ret
    exact ⟨ret_bool (by rw [E.out]; simp), rfl⟩
  cases b11
  rotate_left
  · go_enter Tryz.func162, Tryz.ntmps162
    go_wp2_with fail
    go_ret
    exact ⟨ret_bool (by rw [E.out]; simp), rfl⟩
  go_enter Tryz.func162, Tryz.ntmps162
  go_wp2_with fail
  go_ret
  exact ⟨ret_bool (by rw [E.out]; rfl), rfl⟩

def markI (p n : Int) : Int := if n = 34 then 2 else if n = 39 then 3 else if n = 96 then 15 else if n = 47 then (if p = 0 then 13 else 14) else if n = 41 ∨ n = 93 ∨ n = 125 then 1 else if blankI n = true then p else 0
theorem mark_c (p n : Int) (w : World) : Calls Tryz.prog 163 #[.int .i64 p, .int .u8 n] w fun e w' => e = .returned (.int .i64 (markI p n)) ∧ w = w' := by
  have hbl := blank_c n w
  by_cases h34 : n = 34
  · have E : Hid (markI p n = 2) := by subst h34; rfl
    subst h34
    clear hbl
    go_enter Tryz.func163, Tryz.ntmps163
    go_wp2_with fail
    go_ret
    exact ⟨ret_int (by rw [E.out]), rfl⟩
  have n34 : (n == 34) = false := by rw [beq_eq_false_iff_ne]; exact h34
  by_cases h39 : n = 39
  · have E : Hid (markI p n = 3) := by subst h39; rfl
    subst h39
    clear hbl
    go_enter Tryz.func163, Tryz.ntmps163
    go_wp2_with fail
    go_ret
    exact ⟨ret_int (by rw [E.out]), rfl⟩
  have n39 : (n == 39) = false := by rw [beq_eq_false_iff_ne]; exact h39
  by_cases h96 : n = 96
  · have E : Hid (markI p n = 15) := by subst h96; rfl
    subst h96
    clear hbl
    go_enter Tryz.func163, Tryz.ntmps163
    go_wp2_with fail
    go_ret
    exact ⟨ret_int (by rw [E.out]), rfl⟩
  have n96 : (n == 96) = false := by rw [beq_eq_false_iff_ne]; exact h96
  by_cases h47 : n = 47
  · by_cases hp : p = 0
    · have E : Hid (markI p n = 13) := by subst h47 hp; rfl
      subst h47 hp
      clear hbl
      go_enter Tryz.func163, Tryz.ntmps163
      go_wp2_with fail
      go_ret
      exact ⟨ret_int (by rw [E.out]), rfl⟩
    · have E : Hid (markI p n = 14) := by
        subst h47
        show (if p = 0 then (13 : Int) else 14) = 14
        rw [if_neg hp]
      have hpb : (p == 0) = false := by rw [beq_eq_false_iff_ne]; exact hp
      subst h47
      clear hbl hp
      go_enter Tryz.func163, Tryz.ntmps163
      go_wp2_with fail
      go_ret
      exact ⟨ret_int (by rw [E.out]), rfl⟩
  have n47 : (n == 47) = false := by rw [beq_eq_false_iff_ne]; exact h47
  by_cases h41 : n = 41
  · have E : Hid (markI p n = 1) := by subst h41; rfl
    subst h41
    clear hbl
    go_enter Tryz.func163, Tryz.ntmps163
    go_wp2_with fail
    go_ret
    exact ⟨ret_int (by rw [E.out]), rfl⟩
  have n41 : (n == 41) = false := by rw [beq_eq_false_iff_ne]; exact h41
  by_cases h93 : n = 93
  · have E : Hid (markI p n = 1) := by subst h93; rfl
    subst h93
    clear hbl
    go_enter Tryz.func163, Tryz.ntmps163
    go_wp2_with fail
    go_ret
    exact ⟨ret_int (by rw [E.out]), rfl⟩
  have n93 : (n == 93) = false := by rw [beq_eq_false_iff_ne]; exact h93
  by_cases h125 : n = 125
  · have E : Hid (markI p n = 1) := by subst h125; rfl
    subst h125
    clear hbl
    go_enter Tryz.func163, Tryz.ntmps163
    go_wp2_with fail
    go_ret
    exact ⟨ret_int (by rw [E.out]), rfl⟩
  have n125 : (n == 125) = false := by rw [beq_eq_false_iff_ne]; exact h125
  have E : Hid (markI p n = if blankI n = true then p else 0) := by
    show _ = _
    unfold markI
    rw [if_neg h34, if_neg h39, if_neg h96, if_neg h47, if_neg (by omega)]
  clear h34 h39 h96 h47 h41 h93 h125
  cases hb : blankI n with
  | true =>
    rw [hb] at hbl E
    clear hb
    go_enter Tryz.func163, Tryz.ntmps163
    go_wp2_with (go_at_call 79; refine hbl.mono ?_; rintro e w' ⟨rfl, rfl⟩)
    go_ret
    exact ⟨ret_int (by rw [E.out]; rfl), rfl⟩
  | false =>
    rw [hb] at hbl E
    clear hb
    go_enter Tryz.func163, Tryz.ntmps163
    go_wp2_with (go_at_call 79; refine hbl.mono ?_; rintro e w' ⟨rfl, rfl⟩)
    go_ret
    exact ⟨ret_int (by rw [E.out]; rfl), rfl⟩
end Go.Proofs.YtklpbkjplecdpaaGreat.Jsc
