/-
  Part 19: ScwAll, ScwCopy, ScwCatch, ScwCaught, MksUsesA.
-/
import Derived.Test.YtklpbkjplecdpaaGreatSxBaseP18
import Derived.Test.YtklpbkjplecdpaaGreatSxBaseP12
import Derived.Defers
import Derived.Recover
import Derived.Test.YtklpbkjplecdpaaGreatSxBaseP11
import Derived.Deep.RegionHeld3
import Derived.Deep.DrawnRows
/-
  Contracts of the walker of package scan: an octet that is asked, in whatever state octets make.
-/
namespace Go.Proofs.YtklpbkjplecdpaaGreat.Scw
open Go.RowKit Oct Crf Scn Tab Tok

abbrev AskC (R : Nat) (c : UInt8) (s : Sc) (x : Res) : Prop := ∀ W, Wk R 47 (Octet c) s W → Calls Tryz.prog 23 #[.pointer (some ⟨R, 0, none⟩)] W (AskTo R c W x)
theorem elem_kind (c : UInt8) (R : Nat) (s : Sc) (hk : 17 ≤ s.k) (hk2 : s.k ≤ 19) (x : Res) (hq : ∀ W, Wk R 47 (Octet c) s W → Calls Tryz.prog 51 #[.pointer (some ⟨R, 0, none⟩)] W (AskTo R c W x)) : AskC R c s x := by
  have : s.k = 17 ∨ s.k = 18 ∨ s.k = 19 := by omega
  rcases this with e | e | e
  · exact fun W g => ask17_c c R s e x W g (hq W g)
  · exact fun W g => ask18_c c R s e x W g (hq W g)
  · exact fun W g => ask19_c c R s e x W g (hq W g)
theorem elem_none (c : UInt8) (R : Nat) (s : Sc) (hk : 17 ≤ s.k) (hk2 : s.k ≤ 19) (he : s.e.length ≤ 32) (hp : s.p = []) (hr16 : s.r.length ≤ 16) (hg : Scn.Good (s.n, s.w)) : AskC R c s (elm0 s c) := by
  refine elem_kind c R s hk hk2 _ fun W g => ?_
  rw [← elm_nil hp c]
  exact askElement_c c R s he (by rw [hp]; decide) hr16 hg (fun q => absurd hp q) W g
theorem ask_c (c : UInt8) (R : Nat) (s : Sc) (hm : Met s) : AskC R c s (goC s c) := by
  have hg : Scn.Good (s.n, s.w) := ⟨hm.n1, hm.n2, hm.w⟩
  have hr := hm.r2
  have hk := hm.k
  rw [← ask_go hm c]
  unfold askC
  by_cases h0 : s.k = 0
  · rw [if_pos h0]; exact fun W g => ask0_c c R s h0 _ W g (askData_c c R s hr hg W g)
  rw [if_neg h0]
  by_cases h1 : s.k = 1
  · rw [if_pos h1]; exact fun W g => ask1_c c R s h1 _ W g (askTagOpen_c c R s W g)
  rw [if_neg h1]
  by_cases h2 : s.k = 2
  · rw [if_pos h2]; exact fun W g => ask2_c c R s h2 _ W g (askEndOpen_c c R s W g)
  rw [if_neg h2]
  by_cases h3 : s.k = 3 ∨ s.k = 4
  · rw [if_pos h3]
    have he : s.e.length ≤ 100 := by have := hm.e2; omega
    rcases h3 with h3 | h3
    · exact fun W g => ask3_c c R s h3 _ W g (askTagName_c c R s he W g)
    · exact fun W g => ask4_c c R s h3 _ W g (askTagName_c c R s he W g)
  rw [if_neg h3]
  by_cases h5 : s.k = 5 ∨ s.k = 11 ∨ s.k = 12
  · rw [if_pos h5]
    rcases h5 with h5 | h5 | h5
    · exact fun W g => ask5_c c R s h5 _ W g (askBefore_c c R s W g)
    · exact fun W g => ask11_c c R s h5 _ W g (askBefore_c c R s W g)
    · exact fun W g => ask12_c c R s h5 _ W g (askBefore_c c R s W g)
  rw [if_neg h5]
  by_cases h6 : s.k = 6
  · rw [if_pos h6]; exact fun W g => ask6_c c R s h6 _ W g (askAttributeName_c c R s (by have := hm.a2; omega) W g)
  rw [if_neg h6]
  by_cases h7 : s.k = 7
  · rw [if_pos h7]; exact fun W g => ask7_c c R s h7 _ W g (askAfterName_c c R s (fun V q => ask5_c c R (entS 5 s) rfl _ V q (askBefore_c c R _ V q)) W g)
  rw [if_neg h7]
  by_cases h8 : s.k = 8
  · rw [if_pos h8]; exact fun W g => ask8_c c R s h8 _ W g (askBeforeValue_c c R s W g)
  rw [if_neg h8]
  by_cases h9 : s.k = 9
  · rw [if_pos h9]; exact fun W g => ask9_c c R s h9 _ W g (askValue_c c R s hr hg W g)
  rw [if_neg h9]
  by_cases h10 : s.k = 10
  · rw [if_pos h10]; exact fun W g => ask10_c c R s h10 _ W g (askUnquoted_c c R s hr hg W g)
  rw [if_neg h10]
  by_cases h13 : s.k = 13 ∨ s.k = 14
  · rw [if_pos h13]
    rcases h13 with h13 | h13
    · exact fun W g => ask13_c c R s h13 _ W g (askMarkup_c c R s W g)
    · exact fun W g => ask14_c c R s h13 _ W g (askMarkup_c c R s W g)
  rw [if_neg h13]
  by_cases h15 : s.k = 15
  · rw [if_pos h15]; exact fun W g => ask15_c c R s h15 _ W g (askBogus_c c R s W g)
  rw [if_neg h15]
  by_cases h16 : s.k = 16
  · rw [if_pos h16]; exact fun W g => ask16_c c R s h16 _ W g (askComment_c c R s W g)
  rw [if_neg h16]
  have hk17 : 17 ≤ s.k := by omega
  have hx := hm.x hk17
  refine elem_kind c R s hk17 hk _ fun W g => askElement_c c R s hx hm.p2 hr hg (fun _ u hu V q => ?_) W g
  have hd := fol_d _ _ { s with p := [] } u hu
  have hf := fol_good _ (s := { s with p := [] }) hg hu
  exact elem_none c R u (by rw [hd.2.1]; exact hk17) (by rw [hd.2.1]; exact hk) (by rw [hd.2.2.1]; exact hx) hd.2.2.2.2 (by rw [hf.2]; exact hr) hf.1 V q
end Go.Proofs.YtklpbkjplecdpaaGreat.Scw

/-
  Contract of package scan's copied.
-/
namespace Go.Proofs.YtklpbkjplecdpaaGreat.Scw
open Go.RowKit Oct Scn Tab

abbrev zeroRow : Array Value := #[.int .i64 0, .string ⟨#[]⟩, .string ⟨#[]⟩, .int .u8 0, .string ⟨#[]⟩, .string ⟨#[]⟩, .int .i64 0, .string ⟨#[]⟩]
structure Cop (w : World) (k : Int) (E A : ByteArray) (d : Int) (P F : ByteArray) (n : Int) (W : ByteArray) (Y : World) : Prop where
  low : Below w.heap.size w Y
  res : Y.heap[w.heap.size]? = some (.cells zeroRow 24 (0, 0))
  row : Y.heap[w.heap.size + 1]? = some (.cells #[.int .i64 k, .string E, .string A, .int .u8 d, .string P, .string F, .int .i64 n, .string W] 24 (0, 0))
  ptr : Y.heap[w.heap.size + 1 + 1]? = some (.cells #[.pointer (some ⟨w.heap.size + 1, 1, none⟩), .pointer (some ⟨w.heap.size + 1, 2, none⟩), .pointer (some ⟨w.heap.size + 1, 4, none⟩), .pointer (some ⟨w.heap.size + 1, 5, none⟩), .pointer (some ⟨w.heap.size + 1, 7, none⟩)] 72 (0, 0))
section
variable {w : World} {k : Int} {E A : ByteArray} {d : Int} {P F : ByteArray} {n : Int} {W : ByteArray} {Y : World}
theorem Cop.grow {Z : World} (h : Cop w k E A d P F n W Y) (hb : Below Y.heap.size Y Z) : Cop w k E A d P F n W Z where
  low := h.low.trans (hb.mono h.low.size)
  res := (hb.block _ (Array.getElem?_eq_some_iff.1 h.res).1).trans h.res
  row := (hb.block _ (Array.getElem?_eq_some_iff.1 h.row).1).trans h.row
  ptr := (hb.block _ (Array.getElem?_eq_some_iff.1 h.ptr).1).trans h.ptr
theorem Cop.same (h : Cop w k E A d P F n W Y) (o : Nat) (v : Value) (hv : (#[Value.int .i64 k, .string E, .string A, .int .u8 d, .string P, .string F, .int .i64 n, .string W].setIfInBounds o v) = #[.int .i64 k, .string E, .string A, .int .u8 d, .string P, .string F, .int .i64 n, .string W]) : Cop w k E A d P F n W (Y.setCell ⟨w.heap.size + 1, o, none⟩ v) where
  low := h.low.setCell (p := ⟨w.heap.size + 1, o, none⟩) (Nat.le_succ _) v
  res := (heap_setCell_other _ _ _ _ (by simp)).trans h.res
  row := by
    have q := heap_setCell_same Y (w.heap.size + 1) o _ _ v h.row
    rw [hv] at q
    exact q
  ptr := (heap_setCell_other _ _ _ _ (by simp)).trans h.ptr
theorem Cop.at_ (h : Cop w k E A d P F n W Y) (hE : E.size ≤ 281474976710656) (hA : A.size ≤ 281474976710656) (hP : P.size ≤ 281474976710656) (hF : F.size ≤ 281474976710656) (hW : W.size ≤ 281474976710656) (i : Nat) (hi : i < 5) :
    ∃ o X, X.size ≤ 281474976710656 ∧ Y.cell? ⟨w.heap.size + 1 + 1, i, none⟩ = some (.pointer (some ⟨w.heap.size + 1, o, none⟩)) ∧ Y.cell? ⟨w.heap.size + 1, o, none⟩ = some (.string X) ∧
      ∀ Z, Below Y.heap.size Y Z → Z.frozen? ⟨w.heap.size + 1, o, none⟩ = false ∧ Z.cell? ⟨w.heap.size + 1, o, none⟩ = some (.string X) ∧ Cop w k E A d P F n W (Z.setCell ⟨w.heap.size + 1, o, none⟩ (.string X)) := by
  have fz : ∀ o Z, Below Y.heap.size Y Z → Z.frozen? ⟨w.heap.size + 1, o, none⟩ = false := fun o Z hb => frozen_of_row Z _ o _ _ (h.grow hb).row
  have cz : ∀ o Z, Below Y.heap.size Y Z → Z.cell? ⟨w.heap.size + 1, o, none⟩ = _ := fun o Z hb => cell_of_row Z _ o _ _ _ (h.grow hb).row
  have : i = 0 ∨ i = 1 ∨ i = 2 ∨ i = 3 ∨ i = 4 := by omega
  rcases this with rfl | rfl | rfl | rfl | rfl
  · exact ⟨1, E, hE, cell_of_row _ _ 0 _ _ _ h.ptr, cell_of_row _ _ 1 _ _ _ h.row, fun Z hb => ⟨fz 1 Z hb, cz 1 Z hb, (h.grow hb).same 1 _ rfl⟩⟩
  · exact ⟨2, A, hA, cell_of_row _ _ 1 _ _ _ h.ptr, cell_of_row _ _ 2 _ _ _ h.row, fun Z hb => ⟨fz 2 Z hb, cz 2 Z hb, (h.grow hb).same 2 _ rfl⟩⟩
  · exact ⟨4, P, hP, cell_of_row _ _ 2 _ _ _ h.ptr, cell_of_row _ _ 4 _ _ _ h.row, fun Z hb => ⟨fz 4 Z hb, cz 4 Z hb, (h.grow hb).same 4 _ rfl⟩⟩
  · exact ⟨5, F, hF, cell_of_row _ _ 3 _ _ _ h.ptr, cell_of_row _ _ 5 _ _ _ h.row, fun Z hb => ⟨fz 5 Z hb, cz 5 Z hb, (h.grow hb).same 5 _ rfl⟩⟩
  · exact ⟨7, W, hW, cell_of_row _ _ 4 _ _ _ h.ptr, cell_of_row _ _ 7 _ _ _ h.row, fun Z hb => ⟨fz 7 Z hb, cz 7 Z hb, (h.grow hb).same 7 _ rfl⟩⟩
end
theorem cop_new (w : World) (k : Int) (E A : ByteArray) (d : Int) (P F : ByteArray) (n : Int) (W : ByteArray) : Cop w k E A d P F n W (((w.alloc (.cells zeroRow 24)).alloc (.cells #[.int .i64 k, .string E, .string A, .int .u8 d, .string P, .string F, .int .i64 n, .string W] 24)).alloc
    (.cells #[.pointer (some ⟨w.heap.size + 1, 1, none⟩), .pointer (some ⟨w.heap.size + 1, 2, none⟩), .pointer (some ⟨w.heap.size + 1, 4, none⟩), .pointer (some ⟨w.heap.size + 1, 5, none⟩), .pointer (some ⟨w.heap.size + 1, 7, none⟩)] 72)) := by
  have b1 : Below w.heap.size w (w.alloc (.cells zeroRow 24)) := (Below.refl _ w).alloc (Nat.le_refl _) _
  have s1 : (w.alloc (.cells zeroRow 24)).heap.size = w.heap.size + 1 := Array.size_push _
  have n1 := heap_alloc_new w (.cells zeroRow 24)
  generalize w.alloc (.cells zeroRow 24) = w1 at b1 s1 n1 ⊢
  have b2 := (Below.refl w1.heap.size w1).alloc (Nat.le_refl _) (.cells #[.int .i64 k, .string E, .string A, .int .u8 d, .string P, .string F, .int .i64 n, .string W] 24)
  have s2 : (w1.alloc (.cells #[.int .i64 k, .string E, .string A, .int .u8 d, .string P, .string F, .int .i64 n, .string W] 24)).heap.size = w1.heap.size + 1 := Array.size_push _
  have n2 := heap_alloc_new w1 (.cells #[.int .i64 k, .string E, .string A, .int .u8 d, .string P, .string F, .int .i64 n, .string W] 24)
  generalize w1.alloc (.cells #[.int .i64 k, .string E, .string A, .int .u8 d, .string P, .string F, .int .i64 n, .string W] 24) = w2 at b2 s2 n2 ⊢
  have b3 := (Below.refl w2.heap.size w2).alloc (Nat.le_refl _) (.cells #[.pointer (some ⟨w.heap.size + 1, 1, none⟩), .pointer (some ⟨w.heap.size + 1, 2, none⟩), .pointer (some ⟨w.heap.size + 1, 4, none⟩), .pointer (some ⟨w.heap.size + 1, 5, none⟩), .pointer (some ⟨w.heap.size + 1, 7, none⟩)] 72)
  have n3 := heap_alloc_new w2 (.cells #[.pointer (some ⟨w.heap.size + 1, 1, none⟩), .pointer (some ⟨w.heap.size + 1, 2, none⟩), .pointer (some ⟨w.heap.size + 1, 4, none⟩), .pointer (some ⟨w.heap.size + 1, 5, none⟩), .pointer (some ⟨w.heap.size + 1, 7, none⟩)] 72)
  generalize w2.alloc (.cells #[.pointer (some ⟨w.heap.size + 1, 1, none⟩), .pointer (some ⟨w.heap.size + 1, 2, none⟩), .pointer (some ⟨w.heap.size + 1, 4, none⟩), .pointer (some ⟨w.heap.size + 1, 5, none⟩), .pointer (some ⟨w.heap.size + 1, 7, none⟩)] 72) = w3 at b3 n3 ⊢
  rw [s1] at n2
  rw [s2, s1] at n3
  refine ⟨b1.trans ((b2.trans (b3.mono b2.size)).mono b1.size), ?_, ?_, n3⟩
  · rw [b3.block _ (by omega), b2.block _ (by omega)]; exact n1
  · rw [b3.block _ (by omega)]; exact n2
theorem cop_res {w Y : World} {k : Int} {E A : ByteArray} {d : Int} {P F : ByteArray} {n : Int} {W : ByteArray} (h : Cop w k E A d P F n W Y) :
    (Pl w.heap.size 24 [] k E A d P F n W (put8 Y w.heap.size (.int .i64 k) (.string E) (.string A) (.int .u8 d) (.string P) (.string F) (.int .i64 n) (.string W))) ∧ Below w.heap.size w (put8 Y w.heap.size (.int .i64 k) (.string E) (.string A) (.int .u8 d) (.string P) (.string F) (.int .i64 n) (.string W)) := by
  have h0 : Pl w.heap.size 24 [] 0 ⟨#[]⟩ ⟨#[]⟩ 0 ⟨#[]⟩ ⟨#[]⟩ 0 ⟨#[]⟩ Y := h.res
  exact ⟨put8_pl h0 k E A d P F n W, h.low.trans ((put8_keeps (Keeps.refl w.heap.size Y) _ _ _ _ _ _ _ _).below (Nat.le_of_lt (Array.getElem?_eq_some_iff.1 h.res).1))⟩
set_option maxHeartbeats 1000000 in
set_option maxRecDepth 100000 in
theorem copied_c (R : Nat) (T : TypeId) (tl : List Value) (k : Int) (E A : ByteArray) (d : Int) (P F : ByteArray) (n : Int) (W : ByteArray) (w : World) (h : Pl R T tl k E A d P F n W w)
    (hE : E.size ≤ 281474976710656) (hA : A.size ≤ 281474976710656) (hP : P.size ≤ 281474976710656) (hF : F.size ≤ 281474976710656) (hW : W.size ≤ 281474976710656) :
    Calls Tryz.prog 24 #[.pointer (some ⟨R, 0, none⟩)] w fun e w' => e = .returned (.agg #[.int .i64 k, .string E, .string A, .int .u8 d, .string P, .string F, .int .i64 n, .string W]) ∧ Below w.heap.size w w' := by
  obtain ⟨c0, c1, c2, c3, c4, c5, c6, c7⟩ := h.cells
  have hlt := h.lt
  have HN := Lib.hid (cop_new w k E A d P F n W)
  have HAt := Lib.hid (fun Y (g : Cop w k E A d P F n W Y) i hi => g.at_ hE hA hP hF hW i hi)
  have HCl := Lib.hid (fun (X : ByteArray) (hX : X.size ≤ 281474976710656) V => clone_c X V hX)
  clear h hE hA hP hF hW
  go_enter Tryz.func24, Tryz.ntmps24
  go_wp2_with fail
  go_loopw [17] (fun i wr => ∃ j : Nat, j ≤ 5 ∧ i = .int .i64 j ∧ Hid (Cop w k E A d P F n W wr)) (fun i _ => 5 - (intOf i).toNat)
  case atStart => exact ⟨0, by decide, rfl, HN.out⟩
  case round =>
    obtain ⟨j, hj, rfl, HI⟩ := hrel
    clear HN c0 c1 c2 c3 c4 c5 c6 c7
    by_cases hlt5 : j < 5
    · obtain ⟨o, X, hX, x1, x2, hz⟩ := HAt.out _ HI.out j hlt5
      have HZ := Lib.hid hz
      have hcl := HCl.out X hX wr
      have j0 : (0 : Int) ≤ (j : Int) := by omega
      have j1 : (j : Int) < 5 := by omega
      clear hz hX
      go_wp2_with fail
      refine hcl.mono ?_
      rintro e w2 ⟨rfl, hb2⟩
      obtain ⟨y1, y2, q⟩ := HZ.out _ hb2
      have KQ := Lib.hid q
      clear hcl hb2 q
      go_wp2_with fail
      go_roundw
      case rel => exact ⟨j + 1, by omega, by go_num, KQ.out⟩
      case measure => simp [intOf]; omega
    · have hj5 : j = 5 := by omega
      subst hj5
      have hr := Lib.hid (cop_res HI.out)
      have h0 : Pl w.heap.size 24 [] 0 ⟨#[]⟩ ⟨#[]⟩ 0 ⟨#[]⟩ ⟨#[]⟩ 0 ⟨#[]⟩ wr := HI.out.res
      have h1 : Pl (w.heap.size + 1) 24 [] k E A d P F n W wr := HI.out.row
      obtain ⟨a0, a1, a2, a3, a4, a5, a6, a7⟩ := h0.cells
      obtain ⟨z0, z1, z2, z3, z4, z5, z6, z7⟩ := h0.froz
      obtain ⟨b0, b1, b2, b3, b4, b5, b6, b7⟩ := h1.cells
      obtain ⟨g0, g1, g2, g3, g4, g5, g6, g7⟩ := hr.out.1.cells
      unfold put8 at g0 g1 g2 g3 g4 g5 g6 g7
      clear h0 h1
      go_wp2_with fail
      refine bodyPost_ret (v := .agg #[.int .i64 k, .string E, .string A, .int .u8 d, .string P, .string F, .int .i64 n, .string W]) (by simp [results, Tryz.results24, go_sem, g0, g1, g2, g3, g4, g5, g6, g7]) rfl ?_
      exact ⟨rfl, hr.out.2⟩
end Go.Proofs.YtklpbkjplecdpaaGreat.Scw

/-
  Contracts of faults.Caught at one of its instances, over whatever closure is handed in.
-/
namespace Go.Proofs.YtklpbkjplecdpaaGreat.Scw
open Go.RowKit Oct

theorem assert_fault (x : Value) (xT : TypeId) (w : World) : (Instr.typeAssert (.iface 68 x) xT 68 true).run Tryz.prog w = .ok (.tuple #[x, .bool true]) w := by kernel_rfl
theorem assert_nil (xT : TypeId) (w : World) : (Instr.typeAssert .nilIface xT 68 true).run Tryz.prog w = .ok (.tuple #[.agg #[.int .i64 0], .bool false]) w := by kernel_rfl

set_option maxHeartbeats 4000000 in
set_option maxRecDepth 100000 in
theorem catch_none (r : Nat) (w : World) :
    CallsD Tryz.prog 37 #[.pointer (some ⟨r, 0, none⟩)] .returning w fun e u' w' =>
      e = .returned (.tuple #[]) ∧ u' = .returning ∧ Below w.heap.size w w' := by
  have hta := assert_nil
  refine callsD_of_wpS Tryz.func37 rfl fun c₀ cs hu => ?_
  apply wpS_seq
  apply wpS_region
  simp [wpOpsS, go_sem, recoverD, hu, Tryz.ntmps37, Exit.thenS]
  refine wpS_of_wp ?_
  simp only [List.replicate, Array.replicate, List.setIfInBounds_toArray, List.set_cons_succ, List.set_cons_zero, List.append_toArray, List.cons_append, List.nil_append]
  go_wp2_with fail
  simp only [bodyPostS]
  exact ⟨trivial, .returning, by cases c₀; simp_all, .tuple #[], by simp [results, Tryz.results37], rfl, rfl, (Below.refl _ w).alloc (Nat.le_refl _) _⟩

set_option maxHeartbeats 400000 in
set_option maxRecDepth 100000 in
theorem catch_fault (r : Nat) (n x : Int) (w : World) (hx : w.cell? ⟨r, 0, none⟩ = some (.int .i64 x)) (hz : w.frozen? ⟨r, 0, none⟩ = false) (hr : r < w.heap.size) :
    CallsD Tryz.prog 37 #[.pointer (some ⟨r, 0, none⟩)] (.panicking [{ v := faultV n, recovered := false }]) w fun e u' w' =>
      e = .returned (.tuple #[]) ∧ u' = .panicking [{ v := faultV n, recovered := true }] ∧ w' = (w.setCell ⟨r, 0, none⟩ (.int .i64 n)).alloc (.cells #[.int .i64 n] 68) := by
  have hb := (Below.refl w.heap.size w).alloc (Nat.le_refl _) (.cells #[.int .i64 n] 68)
  have hx1 := (hb.cell (p := ⟨r, 0, none⟩) hr).trans hx
  have hz1 := (hb.frozen (p := ⟨r, 0, none⟩) hr).trans hz
  have hnc : (w.alloc (.cells #[.int .i64 n] 68)).cell? ⟨w.heap.size, 0, none⟩ = some (.int .i64 n) := cell_of_row _ w.heap.size 0 _ _ _ (heap_alloc_new w _)
  clear hb
  have hta := assert_fault (.agg #[.int .i64 n])
  refine callsD_of_wpS Tryz.func37 rfl fun c₀ cs hu => ?_
  replace hu : c₀.mode = .panicking [{ v := .iface 68 (.agg #[.int .i64 n]), recovered := false }] := hu
  apply wpS_seq
  apply wpS_region
  simp [wpOpsS, go_sem, recoverD, hu, Tryz.ntmps37, Exit.thenS]
  refine wpS_of_wp ?_
  simp only [List.replicate, Array.replicate, List.setIfInBounds_toArray, List.set_cons_succ, List.set_cons_zero, List.append_toArray, List.cons_append, List.nil_append]
  go_wp2_with fail
  show bodyPostS _ _ _ _ _ _ _ _ _
  simp only [bodyPostS]
  exact ⟨trivial, .panicking [{ v := faultV n, recovered := true }], by cases c₀; simp_all, .tuple #[], by simp [results, Tryz.results37], rfl, rfl, (by first | trivial | rfl)⟩

end Go.Proofs.YtklpbkjplecdpaaGreat.Scw

/-
  Contract of faults.Caught where a state is answered, over whatever closure.
-/
namespace Go.Proofs.YtklpbkjplecdpaaGreat.Scw
open Go.RowKit Oct Scn Tab

abbrev ansBox (w : World) : World := w.alloc (.cells zeroRow 24)
abbrev bothBox (w : World) : World := (ansBox w).alloc (.cells #[.int .i64 0] 25)
structure Both (P : Nat) (w Y : World) : Prop where
  low : Keeps P w Y
  ans : Pl w.heap.size 24 [] 0 ⟨#[]⟩ ⟨#[]⟩ 0 ⟨#[]⟩ ⟨#[]⟩ 0 ⟨#[]⟩ Y
  err : Y.heap[w.heap.size + 1]? = some (.cells #[.int .i64 0] 25 (0, 0))
theorem both_new (P : Nat) (w : World) : Both P w (bothBox w) ∧ (bothBox w).heap.size = w.heap.size + 2 := by
  have b1 : Below w.heap.size w (ansBox w) := (Below.refl _ w).alloc (Nat.le_refl _) _
  have s1 : (ansBox w).heap.size = w.heap.size + 1 := Array.size_push _
  have n1 := heap_alloc_new w (.cells zeroRow 24)
  have b2 : Below (ansBox w).heap.size (ansBox w) (bothBox w) := (Below.refl _ _).alloc (Nat.le_refl _) _
  have s2 : (bothBox w).heap.size = (ansBox w).heap.size + 1 := Array.size_push _
  have n2 := heap_alloc_new (ansBox w) (.cells #[.int .i64 0] 25)
  refine ⟨⟨(Keeps.of b1).trans (Keeps.of b2), ?_, ?_⟩, by rw [s2, s1]⟩
  · show (bothBox w).heap[w.heap.size]? = _
    rw [b2.block _ (by omega)]
    exact n1
  · rw [s1] at n2
    exact n2
theorem Both.grow {P : Nat} {w Y Z : World} (h : Both P w Y) (hP : P < w.heap.size) (hb : Keeps P Y Z) : Both P w Z := by
  have h1 : w.heap.size < Y.heap.size := h.ans.lt
  have h2 : w.heap.size + 1 < Y.heap.size := (Array.getElem?_eq_some_iff.1 h.err).1
  exact ⟨h.low.trans hb, (hb.block _ h1 (by omega)).trans h.ans, (hb.block _ h2 (by omega)).trans h.err⟩
theorem both_fault {P : Nat} {w Y Z : World} {n : Int} (h : Both P w Y) (hP : P < w.heap.size) (hZ : Z = (Y.setCell ⟨w.heap.size + 1, 0, none⟩ (.int .i64 n)).alloc (.cells #[.int .i64 n] 68)) :
    Keeps P w Z ∧ Pl w.heap.size 24 [] 0 ⟨#[]⟩ ⟨#[]⟩ 0 ⟨#[]⟩ ⟨#[]⟩ 0 ⟨#[]⟩ Z ∧ Z.cell? ⟨w.heap.size + 1, 0, none⟩ = some (.int .i64 n) ∧ Z.heap[P]? = Y.heap[P]? := by
  have hlt : w.heap.size + 1 < Y.heap.size := (Array.getElem?_eq_some_iff.1 h.err).1
  have hlt0 : w.heap.size < Y.heap.size := h.ans.lt
  have h3 := heap_setCell_same Y (w.heap.size + 1) 0 _ _ (.int .i64 n) h.err
  have h0 : (Y.setCell ⟨w.heap.size + 1, 0, none⟩ (.int .i64 n)).heap[w.heap.size]? = Y.heap[w.heap.size]? := heap_setCell_other _ _ _ _ (by simp)
  have hp : (Y.setCell ⟨w.heap.size + 1, 0, none⟩ (.int .i64 n)).heap[P]? = Y.heap[P]? := heap_setCell_other _ _ _ _ (by simp; omega)
  have hs : (Y.setCell ⟨w.heap.size + 1, 0, none⟩ (.int .i64 n)).heap.size = Y.heap.size := by simp [World.setCell]
  have hK : Keeps P w (Y.setCell ⟨w.heap.size + 1, 0, none⟩ (.int .i64 n)) := h.low.fresh (Nat.le_succ _) _
  generalize Y.setCell ⟨w.heap.size + 1, 0, none⟩ (.int .i64 n) = V at *
  have ha : Below V.heap.size V Z := by rw [hZ]; exact (Below.refl _ V).alloc (Nat.le_refl _) _
  refine ⟨hK.trans (Keeps.of ha), ?_, cell_of_row Z (w.heap.size + 1) 0 _ _ _ ((ha.block _ (by omega)).trans h3), (ha.block _ (by omega)).trans hp⟩
  exact (ha.block _ (by omega)).trans (h0.trans h.ans)
theorem both_ans {P : Nat} {w Y Z : World} (h : Both P w Y) (k : Int) (E A : ByteArray) (d : Int) (Q F : ByteArray) (n : Int) (W : ByteArray)
    (hZ : Below ((put8 Y w.heap.size (.int .i64 k) (.string E) (.string A) (.int .u8 d) (.string Q) (.string F) (.int .i64 n) (.string W)).setCell ⟨w.heap.size + 1, 0, none⟩ (.int .i64 0)).heap.size ((put8 Y w.heap.size (.int .i64 k) (.string E) (.string A) (.int .u8 d) (.string Q) (.string F) (.int .i64 n) (.string W)).setCell ⟨w.heap.size + 1, 0, none⟩ (.int .i64 0)) Z) :
    Keeps P w Z ∧ Pl w.heap.size 24 [] k E A d Q F n W Z ∧ Z.cell? ⟨w.heap.size + 1, 0, none⟩ = some (.int .i64 0) := by
  have hlt : w.heap.size + 1 < Y.heap.size := (Array.getElem?_eq_some_iff.1 h.err).1
  have h1 := put8_pl h.ans k E A d Q F n W
  have hk1 := put8_keeps (Keeps.refl w.heap.size Y) (.int .i64 k) (.string E) (.string A) (.int .u8 d) (.string Q) (.string F) (.int .i64 n) (.string W)
  generalize put8 Y w.heap.size (.int .i64 k) (.string E) (.string A) (.int .u8 d) (.string Q) (.string F) (.int .i64 n) (.string W) = U at *
  have h2 : U.heap[w.heap.size + 1]? = some (.cells #[.int .i64 0] 25 (0, 0)) := (hk1.block _ hlt (by omega)).trans h.err
  have h3 := heap_setCell_same U (w.heap.size + 1) 0 _ _ (.int .i64 0) h2
  have h4 : (U.setCell ⟨w.heap.size + 1, 0, none⟩ (.int .i64 0)).heap[w.heap.size]? = U.heap[w.heap.size]? := heap_setCell_other _ _ _ _ (by simp)
  have hs : (U.setCell ⟨w.heap.size + 1, 0, none⟩ (.int .i64 0)).heap.size = U.heap.size := by simp [World.setCell]
  have hU : Keeps P w U := ⟨hk1.os.trans h.low.os, hk1.tape.trans h.low.tape, hk1.output.trans h.low.output, Nat.le_trans h.low.size hk1.size, fun b hb hbP => (hk1.block b (Nat.lt_of_lt_of_le hb h.low.size) (by omega)).trans (h.low.block b hb hbP)⟩
  have hK : Keeps P w (U.setCell ⟨w.heap.size + 1, 0, none⟩ (.int .i64 0)) := hU.fresh (Nat.le_succ _) _
  have hUs := hk1.size
  generalize U.setCell ⟨w.heap.size + 1, 0, none⟩ (.int .i64 0) = V at *
  refine ⟨hK.trans (Keeps.of hZ), ?_, cell_of_row Z (w.heap.size + 1) 0 _ _ _ ((hZ.block _ (by omega)).trans h3)⟩
  exact (hZ.block _ (by omega)).trans (h4.trans h1)
abbrev zeroV : Value := .agg zeroRow

set_option maxHeartbeats 1000000 in
set_option maxRecDepth 100000 in
theorem caught_c (P : Nat) (g : Nat) (lb : Array Value) (w : World) (hP : P < w.heap.size) (FF : Int → World → Prop) (V : Value → Prop) (eg : ∀ args w, (callFunc g args).run Tryz.prog w = .ok (.enter g args) w)
    (hc : Calls Tryz.prog g lb (bothBox w) fun e Y => Keeps P (bothBox w) Y ∧ ((∃ n, e = Fault n ∧ FF n Y) ∨ ∃ k E A d Q F n W, e = .returned (.agg #[.int .i64 k, .string E, .string A, .int .u8 d, .string Q, .string F, .int .i64 n, .string W]) ∧ V (.agg #[.int .i64 k, .string E, .string A, .int .u8 d, .string Q, .string F, .int .i64 n, .string W]))) :
    Calls Tryz.prog 21 #[.func (.func g) #[] lb] w fun e w' => Keeps P w w' ∧
      ((∃ n Y, e = .returned (.tuple #[zeroV, .int .i64 n]) ∧ FF n Y ∧ w'.heap[P]? = Y.heap[P]?) ∨ ∃ v, e = .returned (.tuple #[v, .int .i64 0]) ∧ V v) := by
  have hmf : ∀ (fn : Fn) (first cap : Array Value) (w : World), (Instr.makeFunc fn first cap).run Tryz.prog w = .ok (.func fn first cap) w := fun _ _ _ _ => rfl
  have HB := Lib.hid (both_new P w).1
  have HC := Lib.hid hc
  clear hc
  go_enter_defers Tryz.func21, Tryz.ntmps21
  go_wp2_with fail
  refine HC.out.mono ?_
  rintro e1 Y ⟨hk, (⟨n, rfl, hF⟩ | ⟨k, E, A, d, Q, F, n, W, rfl, hV⟩)⟩
  · have B1 := Lib.hid (HB.out.grow hP hk)
    have xc := cell_of_row Y (w.heap.size + 1) 0 _ _ _ B1.out.err
    have xz := frozen_of_row Y (w.heap.size + 1) 0 _ _ B1.out.err
    have xl : w.heap.size + 1 < Y.heap.size := (Array.getElem?_eq_some_iff.1 B1.out.err).1
    refine leaves_cons (f := 37) (args := #[.pointer (some ⟨w.heap.size + 1, 0, none⟩)]) (by simp) (by simp [go_sem]) ?_
    refine (catch_fault (w.heap.size + 1) n 0 Y xc xz xl).mono ?_
    rintro e u' w'' ⟨rfl, rfl, hw''⟩
    obtain ⟨f1, f2, f3, f4⟩ := both_fault B1.out hP hw''
    obtain ⟨g0, g1, g2, g3, g4, g5, g6, g7⟩ := f2.cells
    clear hw''
    simp [Leaves, settle, results, Tryz.results21, go_sem, g0, g1, g2, g3, g4, g5, g6, g7, f3]
    exact ⟨f1, .inl ⟨Y, hF, f4⟩⟩
  · have B1 := Lib.hid (HB.out.grow hP hk)
    obtain ⟨a0, a1, a2, a3, a4, a5, a6, a7⟩ := B1.out.ans.cells
    obtain ⟨z0, z1, z2, z3, z4, z5, z6, z7⟩ := B1.out.ans.froz
    have xc := cell_of_row Y (w.heap.size + 1) 0 _ _ _ B1.out.err
    have xz := frozen_of_row Y (w.heap.size + 1) 0 _ _ B1.out.err
    have hV2 := Lib.hid hV
    have hne : w.heap.size + 1 ≠ w.heap.size := by omega
    have hne2 := Ne.symm hne
    clear hV hk
    go_wp2_with fail
    refine leaves_cons (f := 37) (args := #[.pointer (some ⟨w.heap.size + 1, 0, none⟩)]) (by simp) (by simp [go_sem]) ?_
    refine (catch_none (w.heap.size + 1) _).mono ?_
    rintro e u' w'' ⟨rfl, rfl, hw''⟩
    obtain ⟨f1, f2, f3⟩ := both_ans B1.out k E A d Q F n W hw''
    obtain ⟨g0, g1, g2, g3, g4, g5, g6, g7⟩ := f2.cells
    clear hw''
    simp [Leaves, settle, results, Tryz.results21, go_sem, g0, g1, g2, g3, g4, g5, g6, g7, f3]
    exact ⟨f1, .inr hV2.out⟩
end Go.Proofs.YtklpbkjplecdpaaGreat.Scw

/-
  Contract of marks.uses, class a of kinds: which fields a state uses.
-/
namespace Go.Proofs.YtklpbkjplecdpaaGreat.Mks
open Go.RowKit Oct Num Scn
attribute [local go_sem ↓] Go.wp_at_zero Go.wp_at_succ

set_option maxRecDepth 100000 in
set_option maxHeartbeats 4000000 in
theorem uses_a  (E A : ByteArray) (d : UInt8) (P R : ByteArray) (n : Int) (W : ByteArray) (w : World) (b6 b16 : Bool)
    (U9 : Hid (Wth (0 : Int) 9 10 false)) (U18 : Hid (Wth (0 : Int) 18 19 false)) (U3 : Hid (Wth (0 : Int) 3 12 false)) (U17 : Hid (Wth (0 : Int) 17 19 false)) (U6 : Hid (Wth (0 : Int) 6 10 b6)) (U16 : Hid (Wth (0 : Int) 16 19 b16)) :
    Calls Tryz.prog 68 #[stV (0 : Int) E A d P R n W] w fun x w' => x = .returned (usesV false b6 false b16 true false) ∧ Below w.heap.size w w' := by
  have e1 := enter_uses1
  go_enter Tryz.func68, Tryz.ntmps68
  go_wp2_with fail
  go_at_fn 99
  refine (U9.out _ _ (by simp)).mono ?_; rintro e w' ⟨rfl, rfl⟩
  go_wp2_with fail
  go_at_fn 99
  refine (U18.out _ _ (by simp)).mono ?_; rintro e w' ⟨rfl, rfl⟩
  go_wp2_with fail
  refine wp_region_held_drew (S := (fun w' => w'.cell? ⟨w.heap.size, 0, none⟩ = some (.int .i64 (0 : Int)))) (by kernel_rfl) (by simp) (fun hHeld => ?_)
  refine wpAnyH_take (i := 0) (v := ?_) rfl (by kernel_rfl) (by kernel_rfl) (by kernel_rfl) (fun _ _ _ h => h) (Or.inl ⟨by rfl, ?_⟩) (by assumption) ?_
  rotate_left
  · intro w hSw
    try dsimp only at hSw
    go_simp
    try with_reducible rfl
  (try simp only [List.getElem_toArray, List.getElem_cons_zero, Act.put, List.setIfInBounds_toArray, List.set_cons_succ, List.set_cons_zero])
  refine wpAnyH_take (i := 6) (v := ?_) rfl (by kernel_rfl) (by kernel_rfl) (by kernel_rfl) (fun _ _ _ h => h) (Or.inl ⟨by rfl, ?_⟩) (by assumption) ?_
  rotate_left
  · intro w hSw
    try dsimp only at hSw
    go_simp
    try with_reducible rfl
  (try simp only [List.getElem_toArray, List.getElem_cons_succ, List.getElem_cons_zero, Act.put, List.setIfInBounds_toArray, List.set_cons_succ, List.set_cons_zero])
  refine wpAnyH_take (i := 8) (v := ?_) rfl (by kernel_rfl) (by kernel_rfl) (by kernel_rfl) (fun _ _ _ h => h) (Or.inl ⟨by rfl, ?_⟩) (by assumption) ?_
  rotate_left
  · intro w hSw
    try dsimp only at hSw
    go_simp
    try with_reducible rfl
  (try simp only [List.getElem_toArray, List.getElem_cons_succ, List.getElem_cons_zero, Act.put, List.setIfInBounds_toArray, List.set_cons_succ, List.set_cons_zero])
  refine wpAnyH_take (i := 9) (v := ?_) rfl (by kernel_rfl) (by kernel_rfl) (by kernel_rfl) (fun _ _ _ h => h) (Or.inl ⟨by rfl, ?_⟩) (by assumption) ?_
  rotate_left
  · intro w hSw
    try dsimp only at hSw
    go_simp
    try with_reducible rfl
  (try simp only [List.getElem_toArray, List.getElem_cons_succ, List.getElem_cons_zero, Act.put, List.setIfInBounds_toArray, List.set_cons_succ, List.set_cons_zero])
  refine wpAnyH_take (i := 10) (v := ?_) rfl (by kernel_rfl) (by kernel_rfl) (by kernel_rfl) (fun _ _ _ h => h) (Or.inl ⟨by rfl, ?_⟩) (by assumption) ?_
  rotate_left
  · intro w hSw
    try dsimp only at hSw
    go_simp
    try with_reducible rfl
  (try simp only [List.getElem_toArray, List.getElem_cons_succ, List.getElem_cons_zero, Act.put, List.setIfInBounds_toArray, List.set_cons_succ, List.set_cons_zero])
  refine wpAnyH_take (i := 11) (v := ?_) rfl (by kernel_rfl) (by kernel_rfl) (by kernel_rfl) (fun _ _ _ h => h) (Or.inl ⟨by rfl, ?_⟩) (by assumption) ?_
  rotate_left
  · intro w hSw
    try dsimp only at hSw
    go_simp
    try with_reducible rfl
  (try simp only [List.getElem_toArray, List.getElem_cons_succ, List.getElem_cons_zero, Act.put, List.setIfInBounds_toArray, List.set_cons_succ, List.set_cons_zero])
  refine wpAnyH_take (i := 13) (v := ?_) rfl (by kernel_rfl) (by kernel_rfl) (by kernel_rfl) (fun _ _ _ h => h) (Or.inl ⟨by rfl, ?_⟩) (by assumption) ?_
  rotate_left
  · intro w hSw
    try dsimp only at hSw
    go_simp
    try with_reducible rfl
  (try simp only [List.getElem_toArray, List.getElem_cons_succ, List.getElem_cons_zero, Act.put, List.setIfInBounds_toArray, List.set_cons_succ, List.set_cons_zero])
  refine wpAnyH_take (i := 14) (v := ?_) rfl (by kernel_rfl) (by kernel_rfl) (by kernel_rfl) (fun _ _ _ h => h) (Or.inl ⟨by rfl, ?_⟩) (by assumption) ?_
  rotate_left
  · intro w hSw
    try dsimp only at hSw
    go_simp
    try with_reducible rfl
  (try simp only [List.getElem_toArray, List.getElem_cons_succ, List.getElem_cons_zero, Act.put, List.setIfInBounds_toArray, List.set_cons_succ, List.set_cons_zero])
  refine wpAnyH_take (i := 15) (v := ?_) rfl (by kernel_rfl) (by kernel_rfl) (by kernel_rfl) (fun _ _ _ h => h) (Or.inl ⟨by rfl, ?_⟩) (by assumption) ?_
  rotate_left
  · intro w hSw
    try dsimp only at hSw
    go_simp
    try with_reducible rfl
  (try simp only [List.getElem_toArray, List.getElem_cons_succ, List.getElem_cons_zero, Act.put, List.setIfInBounds_toArray, List.set_cons_succ, List.set_cons_zero])
  refine wpAnyH_take (i := 24) (v := ?_) rfl (by kernel_rfl) (by kernel_rfl) (by kernel_rfl) (fun _ _ _ h => h) (Or.inl ⟨by rfl, ?_⟩) (by assumption) ?_
  rotate_left
  · intro w hSw
    try dsimp only at hSw
    go_simp
    try with_reducible rfl
  (try simp only [List.getElem_toArray, List.getElem_cons_succ, List.getElem_cons_zero, Act.put, List.setIfInBounds_toArray, List.set_cons_succ, List.set_cons_zero])
  refine wpAnyH_take (i := 25) (v := ?_) rfl (by kernel_rfl) (by kernel_rfl) (by kernel_rfl) (fun _ _ _ h => h) (Or.inl ⟨by rfl, ?_⟩) (by assumption) ?_
  rotate_left
  · intro w hSw
    try dsimp only at hSw
    go_simp
    try with_reducible rfl
  (try simp only [List.getElem_toArray, List.getElem_cons_succ, List.getElem_cons_zero, Act.put, List.setIfInBounds_toArray, List.set_cons_succ, List.set_cons_zero])
  refine wpAnyH_ready (rs := [1]) (by kernel_rfl) (by simp) ?_
  refine AllReadyH.cons rfl (fun K hK => ?_) AllReadyH.nil
  go_simp
  with_reducible refine (U3.out _ _ (by simp)).mono ?_; rintro e w' ⟨rfl, rfl⟩; (try go_wp2_with fail)
  refine hK.out _ _ (by first | exact hHeld | assumption) (fun hHeld => ?_)
  clear hK K
  (try simp only [List.getElem_toArray, List.getElem_cons_succ, List.getElem_cons_zero, Act.put, List.setIfInBounds_toArray, List.set_cons_succ, List.set_cons_zero])
  refine wpAnyH_take (i := 2) (v := ?_) rfl (by kernel_rfl) (by kernel_rfl) (by kernel_rfl) (fun _ _ _ h => h) (Or.inl ⟨by rfl, ?_⟩) (by assumption) ?_
  rotate_left
  · intro w hSw
    try dsimp only at hSw
    go_simp
    try with_reducible rfl
  (try simp only [List.getElem_toArray, List.getElem_cons_succ, List.getElem_cons_zero, Act.put, List.setIfInBounds_toArray, List.set_cons_succ, List.set_cons_zero])
  refine wpAnyH_take (i := 3) (v := ?_) rfl (by kernel_rfl) (by kernel_rfl) (by kernel_rfl) (fun _ _ _ h => h) (Or.inl ⟨by rfl, ?_⟩) (by assumption) ?_
  rotate_left
  · intro w hSw
    try dsimp only at hSw
    go_simp
    try with_reducible rfl
  (try simp only [List.getElem_toArray, List.getElem_cons_succ, List.getElem_cons_zero, Act.put, List.setIfInBounds_toArray, List.set_cons_succ, List.set_cons_zero])
  refine wpAnyH_ready (rs := [4]) (by kernel_rfl) (by simp) ?_
  refine AllReadyH.cons rfl (fun K hK => ?_) AllReadyH.nil
  go_simp
  with_reducible refine (U17.out _ _ (by simp)).mono ?_; rintro e w' ⟨rfl, rfl⟩; (try go_wp2_with fail)
  refine hK.out _ _ (by first | exact hHeld | assumption) (fun hHeld => ?_)
  clear hK K
  (try simp only [List.getElem_toArray, List.getElem_cons_succ, List.getElem_cons_zero, Act.put, List.setIfInBounds_toArray, List.set_cons_succ, List.set_cons_zero])
  refine wpAnyH_take (i := 5) (v := ?_) rfl (by kernel_rfl) (by kernel_rfl) (by kernel_rfl) (fun _ _ _ h => h) (Or.inl ⟨by rfl, ?_⟩) (by assumption) ?_
  rotate_left
  · intro w hSw
    try dsimp only at hSw
    go_simp
    try with_reducible rfl
  (try simp only [List.getElem_toArray, List.getElem_cons_succ, List.getElem_cons_zero, Act.put, List.setIfInBounds_toArray, List.set_cons_succ, List.set_cons_zero])
  refine wpAnyH_ready (rs := [7]) (by kernel_rfl) (by simp) ?_
  refine AllReadyH.cons rfl (fun K hK => ?_) AllReadyH.nil
  go_simp
  with_reducible refine (U6.out _ _ (by simp)).mono ?_; rintro e w' ⟨rfl, rfl⟩; (try go_wp2_with fail)
  refine hK.out _ _ (by first | exact hHeld | assumption) (fun hHeld => ?_)
  clear hK K
  (try simp only [List.getElem_toArray, List.getElem_cons_succ, List.getElem_cons_zero, Act.put, List.setIfInBounds_toArray, List.set_cons_succ, List.set_cons_zero])
  refine wpAnyH_ready (rs := [12]) (by kernel_rfl) (by simp) ?_
  refine AllReadyH.cons rfl (fun K hK => ?_) AllReadyH.nil
  go_simp
  with_reducible refine (U16.out _ _ (by simp)).mono ?_; rintro e w' ⟨rfl, rfl⟩; (try go_wp2_with fail)
  refine hK.out _ _ (by first | exact hHeld | assumption) (fun hHeld => ?_)
  clear hK K
  (try simp only [List.getElem_toArray, List.getElem_cons_succ, List.getElem_cons_zero, Act.put, List.setIfInBounds_toArray, List.set_cons_succ, List.set_cons_zero])
  refine wpAnyH_take (i := 16) (v := ?_) rfl (by kernel_rfl) (by kernel_rfl) (by kernel_rfl) (fun _ _ _ h => h) (Or.inl ⟨by rfl, ?_⟩) (by assumption) ?_
  rotate_left
  · intro w hSw
    try dsimp only at hSw
    go_simp
    try with_reducible rfl
  (try simp only [List.getElem_toArray, List.getElem_cons_succ, List.getElem_cons_zero, Act.put, List.setIfInBounds_toArray, List.set_cons_succ, List.set_cons_zero])
  refine wpAnyH_take (i := 17) (v := undef) rfl (by kernel_rfl) (by kernel_rfl) (by kernel_rfl) (fun _ _ _ h => h) (Or.inr ⟨by rfl, rfl⟩) (by assumption) ?_
  (try simp only [List.getElem_toArray, List.getElem_cons_succ, List.getElem_cons_zero, Act.put, List.setIfInBounds_toArray, List.set_cons_succ, List.set_cons_zero])
  refine wpAnyH_take (i := 18) (v := ?_) rfl (by kernel_rfl) (by kernel_rfl) (by kernel_rfl) (fun _ _ _ h => h) (Or.inl ⟨by rfl, ?_⟩) (by assumption) ?_
  rotate_left
  · intro w hSw
    try dsimp only at hSw
    go_simp
    try with_reducible rfl
  (try simp only [List.getElem_toArray, List.getElem_cons_succ, List.getElem_cons_zero, Act.put, List.setIfInBounds_toArray, List.set_cons_succ, List.set_cons_zero])
  refine wpAnyH_take (i := 19) (v := ?_) rfl (by kernel_rfl) (by kernel_rfl) (by kernel_rfl) (fun _ _ _ h => h) (Or.inl ⟨by rfl, ?_⟩) (by assumption) ?_
  rotate_left
  · intro w hSw
    try dsimp only at hSw
    go_simp
    try with_reducible rfl
  (try simp only [List.getElem_toArray, List.getElem_cons_succ, List.getElem_cons_zero, Act.put, List.setIfInBounds_toArray, List.set_cons_succ, List.set_cons_zero])
  refine wpAnyH_take (i := 20) (v := undef) rfl (by kernel_rfl) (by kernel_rfl) (by kernel_rfl) (fun _ _ _ h => h) (Or.inr ⟨by rfl, rfl⟩) (by assumption) ?_
  (try simp only [List.getElem_toArray, List.getElem_cons_succ, List.getElem_cons_zero, Act.put, List.setIfInBounds_toArray, List.set_cons_succ, List.set_cons_zero])
  refine wpAnyH_take (i := 21) (v := undef) rfl (by kernel_rfl) (by kernel_rfl) (by kernel_rfl) (fun _ _ _ h => h) (Or.inr ⟨by rfl, rfl⟩) (by assumption) ?_
  (try simp only [List.getElem_toArray, List.getElem_cons_succ, List.getElem_cons_zero, Act.put, List.setIfInBounds_toArray, List.set_cons_succ, List.set_cons_zero])
  refine wpAnyH_take (i := 22) (v := undef) rfl (by kernel_rfl) (by kernel_rfl) (by kernel_rfl) (fun _ _ _ h => h) (Or.inr ⟨by rfl, rfl⟩) (by assumption) ?_
  (try simp only [List.getElem_toArray, List.getElem_cons_succ, List.getElem_cons_zero, Act.put, List.setIfInBounds_toArray, List.set_cons_succ, List.set_cons_zero])
  refine wpAnyH_take (i := 23) (v := ?_) rfl (by kernel_rfl) (by kernel_rfl) (by kernel_rfl) (fun _ _ _ h => h) (Or.inl ⟨by rfl, ?_⟩) (by assumption) ?_
  rotate_left
  · intro w hSw
    try dsimp only at hSw
    go_simp
    try with_reducible rfl
  (try simp only [List.getElem_toArray, List.getElem_cons_succ, List.getElem_cons_zero, Act.put, List.setIfInBounds_toArray, List.set_cons_succ, List.set_cons_zero])
  refine wpAnyH_take (i := 26) (v := ?_) rfl (by kernel_rfl) (by kernel_rfl) (by kernel_rfl) (fun _ _ _ h => h) (Or.inl ⟨by rfl, ?_⟩) (by assumption) ?_
  rotate_left
  · intro w hSw
    try dsimp only at hSw
    go_simp
    try with_reducible rfl
  (try simp only [List.getElem_toArray, List.getElem_cons_succ, List.getElem_cons_zero, Act.put, List.setIfInBounds_toArray, List.set_cons_succ, List.set_cons_zero])
  refine wpAnyH_ready (rs := [27]) (by kernel_rfl) (by simp) ?_
  refine AllReadyH.cons rfl (fun K hK => ?_) AllReadyH.nil
  go_simp
  refine hK.out _ _ (by simp) (fun hHeld => ?_)
  clear hK K
  (try simp only [List.getElem_toArray, List.getElem_cons_succ, List.getElem_cons_zero, Act.put, List.setIfInBounds_toArray, List.set_cons_succ, List.set_cons_zero])
  refine wpAnyH_done (by kernel_rfl) ?_ _
  go_wp2_with fail
  refine bodyPost_ret (v := usesV false b6 false b16 true false) (by simp [results, Tryz.results68, go_sem]) rfl ?_
  exact ⟨rfl, (((Below.refl _ w).alloc (Nat.le_refl _) _).alloc (by simp) _).drew⟩

end Go.Proofs.YtklpbkjplecdpaaGreat.Mks
