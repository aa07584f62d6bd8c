/-
  Part 24: PwPage4.
-/
import Derived.Test.YtmccbcficbbidaaGreatDoorPwAllP23
/-
  Contract of the page's pipelines: one call, of a function.
-/
namespace Go.Proofs.YtmccbcficbbidaaGreatDoor.Pw
open Go.RowKit Go.Proofs.YtmccbcficbbidaaGreatDoor.Oct Go.Proofs.YtmccbcficbbidaaGreatDoor.Lex Go.Proofs.YtmccbcficbbidaaGreatDoor.Lxw Go.Proofs.YtmccbcficbbidaaGreatDoor.Pip
open Go.Proofs.YtmccbcficbbidaaGreatDoor.Num (parseL)

/-- What stands below a row's own blocks stays where one more is put to it. -/
theorem grown_blk {D n s : Nat} {E : TypeId} {w wB : World} {v : Value} {o : Obj} {xs : List Value} (hrow : w.ownsRow D E s v n xs) (hg : (w.alloc o).grownBy wB v.ownBlock) (hD : D ≤ w.heap.size) {k : Nat} (hk : k < D) : wB.heap[k]? = w.heap[k]? := by
  have hal : Below w.heap.size w (w.alloc o) := (Below.refl _ _).alloc (Nat.le_refl _) _
  have h1 : k < w.heap.size := Nat.lt_of_lt_of_le hk hD
  refine (hg.block k (Nat.lt_of_lt_of_le h1 hal.size) fun e => ?_).trans (hal.block k h1)
  have := own_ge hrow k e.symm
  omega
theorem grown_below {D n s : Nat} {E : TypeId} {w0 w wB : World} {v : Value} {o : Obj} {xs : List Value} (hb : Below w0.heap.size w0 w) (hrow : w.ownsRow D E s v n xs) (hg : (w.alloc o).grownBy wB v.ownBlock) (hD : w0.heap.size ≤ D) (hDw : D ≤ w.heap.size) : Below w0.heap.size w0 wB := by
  have hal : Below w.heap.size w (w.alloc o) := (Below.refl _ _).alloc (Nat.le_refl _) _
  exact ⟨hg.os.trans (hal.os.trans hb.os), hg.tape.trans (hal.tape.trans hb.tape), hg.output.trans (hal.output.trans hb.output), Nat.le_trans hb.size (Nat.le_trans hal.size hg.size), fun k hk => (grown_blk hrow hg hDw (by omega)).trans (hb.block k hk)⟩
/-- The world while a function's words are read. -/
structure Rf (w : World) (x : Wd × Nat) (va : Value) (al : List Ar) (W : World) : Prop where
  rc : Rc w x W
  call : W.heap[w.heap.size + 2]? = some (.cells #[.string (S x.1.x), va] 41 (0, 0))
  args : ArgR (w.heap.size + 3) W va al
structure RfC (w : World) (x : Wd × Nat) (va : Value) (W : World) : Prop extends RcC w x W where
  v0 : W.cell? ⟨w.heap.size + 1 + 1, 0, none⟩ = some (.string (S x.1.x))
  v1 : W.cell? ⟨w.heap.size + 1 + 1, 1, none⟩ = some va
  y1 : W.frozen? ⟨w.heap.size + 1 + 1, 1, none⟩ = false
section
variable {w : World} {x : Wd × Nat} {va : Value} {al : List Ar} {W W' : World}
theorem Rf.lt (h : Rf w x va al W) : w.heap.size + 3 ≤ W.heap.size := (Array.getElem?_eq_some_iff.1 h.call).1
theorem Rf.cells (h : Rf w x va al W) : RfC w x va W := { h.rc.cells with v0 := (cell_of_row W _ 0 _ _ _ h.call).trans rfl, v1 := (cell_of_row W _ 1 _ _ _ h.call).trans rfl, y1 := frozen_of_row W _ 1 _ _ h.call }
theorem Rf.up (h : Rf w x va al W) (hb : Below W.heap.size W W') : Rf w x va al W' :=
  ⟨h.rc.up hb, (hb.block _ (by have := h.lt; omega)).trans h.call, h.args.same (kept_of hb)⟩
theorem Rf.push {wB : World} {v' vp : Value} {a : Ar} {o' : Obj} {l : List (Ar × Value)} (h : Rf w x va al W) (hl1 : l.map Prod.fst = al) (hl2 : W.ownsRow (w.heap.size + 3) 44 5 va l.length (l.flatMap arC2)) (hl3 : ∀ y ∈ l, PathR (w.heap.size + 3) W y.2 y.1.p) (hp : PathR (w.heap.size + 3) W vp a.p)
    (hown : wB.ownsRow (w.heap.size + 3) 44 5 v' (l.length + 1) (l.flatMap arC2 ++ arC a vp)) (hg : (W.alloc o').grownBy wB va.ownBlock) :
    Rf w x v' (al ++ [a]) (wB.setCell ⟨w.heap.size + 1 + 1, 1, none⟩ v') ∧ wB.cell? ⟨w.heap.size + 1 + 1, 1, none⟩ = some va ∧ wB.frozen? ⟨w.heap.size + 1 + 1, 1, none⟩ = false := by
  have hlt := h.lt
  have hb : ∀ k, k < w.heap.size + 3 → wB.heap[k]? = W.heap[k]? := fun k hk => grown_blk hl2 hg hlt hk
  have hbl := grown_below h.rc.below hl2 hg (by omega) hlt
  have hc : wB.heap[w.heap.size + 2]? = some (.cells #[.string (S x.1.x), va] 41 (0, 0)) := (hb _ (by omega)).trans h.call
  refine ⟨⟨⟨?_, ?_, hbl.setCell (p := ⟨w.heap.size + 2, 1, none⟩) (by simp) v'⟩, heap_setCell_same wB (w.heap.size + 2) 1 _ _ _ hc, (ArgR.push hl1 hl2 hl3 hp hown hg).same fun k hk _ => heap_setCell_other _ _ _ _ (by simp; omega)⟩, (cell_of_row wB _ 1 _ _ _ hc).trans rfl, frozen_of_row wB _ 1 _ _ hc⟩
  · rw [heap_setCell_other _ _ _ _ (by simp; try omega)]
    exact (hb _ (by omega)).trans h.rc.box
  · rw [heap_setCell_other _ _ _ _ (by simp; try omega)]
    exact (hb _ (by omega)).trans h.rc.word
end
theorem rf_start (w : World) (x : Wd × Nat) : Rf w x (.slice none 0 0) [] ((rcW w x).alloc (.cells #[.string (S x.1.x), .slice none 0 0] 41)) := by
  have hr : (rcW w x).heap.size = w.heap.size + 2 := by simp
  refine ⟨(rc_start w x).up ((Below.refl _ _).alloc (Nat.le_refl _) _), ?_, ArgR.nil _ _⟩
  have h := heap_alloc_new (rcW w x) (.cells #[.string (S x.1.x), .slice none 0 0] 41)
  rw [hr] at h
  exact h
set_option maxHeartbeats 2000000 in
set_option maxRecDepth 100000 in
theorem rcall_fun {b o c k : Nat} {x : Wd × Nat} {t : List (Wd × Nat)} {ah : Bool} {m : Nat × Nat} (hak : decide (0 < k) = ah) (hfn : ¬ (x.1.k ≠ 1 ∨ constB x.1.x = true)) (hm : arityL x.1.x = some m) (hlen : t.length + 1 ≤ 4194304) (hg : ∀ y ∈ x :: t, GoodX y.1) (w : World) (hw : WdAt w b o (x :: t)) :
    Calls Tryz.prog 40 #[wsV b o (t.length + 1) c, .bool ah] w (RCallTo ((x :: t).map Prod.fst) ah w) := by
  obtain ⟨x0, x1, x2⟩ := hw 0 (by simp)
  rw [Nat.zero_mul, Nat.add_zero] at x0 x1 x2
  replace x0 : w.cell? ⟨b, o, none⟩ = some (.int .i64 (x.1.k : Int)) := x0
  replace x1 : w.cell? ⟨b, o + 1, none⟩ = some (.string (S x.1.x)) := x1
  replace x2 : w.cell? ⟨b, o + 2, none⟩ = some (.int .i64 (x.2 : Int)) := x2
  have hal0 : Below w.heap.size w (w.alloc (.cells #[.string ⟨#[]⟩, .slice none 0 0] 41)) := (Below.refl _ w).alloc (Nat.le_refl _) _
  replace x0 := some_up x0 hal0
  replace x1 := some_up x1 hal0
  replace x2 := some_up x2 hal0
  clear hal0
  have HW := Lib.hid hw
  have HS := Lib.hid (rc_start w x)
  obtain ⟨n, hn⟩ : ∃ n, n = t.length + 1 := ⟨_, rfl⟩
  rw [← hn] at hlen ⊢
  have HN := Lib.hid hn
  have n1 : (1 : Int) ≤ (n : Int) := by omega
  have n0 : (0 : Int) < (n : Int) := by omega
  have n2 : 0 < n := by omega
  have n3 : (n : Int) ≤ 4194304 := by omega
  have hco := fun W => rconstant_c x.1.x W
  have hk1 : x.1.k = 1 := by
    by_cases h : x.1.k = 1
    · exact h
    · exact absurd (.inl h) hfn
  have hcb : constB x.1.x = false := by
    cases h : constB x.1.x with
    | false => rfl
    | true => exact absurd (.inr h) hfn
  rw [hcb] at hco
  have b0 : ((x.1.k : Int) == 1) = true := by rw [beq_iff_eq]; omega
  have b1 : ((x.1.k : Int) != 1) = false := by rw [bne, b0]; rfl
  have har := fun W => rarity_c x.1.x W
  have hae : arityE x.1.x = .tuple #[.int .i64 (m.1 : Int), .int .i64 (m.2 : Int), .bool true] := by unfold arityE; rw [hm]
  rw [hae] at har
  have HG := Lib.hid hg
  have HSt : Hid (St ((x :: t).map Prod.fst) k 1 x.1.x []) := .func x.1 (t.map Prod.fst) m 0 [] rfl hfn hm rfl rfl (Nat.zero_le _)
  have hx0 : x.1.x ≠ [] := (arity_name hm).2.2.2
  have HX0 := Lib.hid hx0
  have HArg := Lib.hid (fun (y : Wd × Nat) (hy : GoodX y.1) W => rarg_c y hy W)
  have HFin := Lib.hid (fun al (h : St ((x :: t).map Prod.fst) k ((x :: t).map Prod.fst).length x.1.x al) => show callE ((x :: t).map Prod.fst) ah = if (decide (m.1 ≤ al.length + (if 0 < k then 1 else 0) ∧ al.length + (if 0 < k then 1 else 0) ≤ m.2)) = true then .ok ⟨x.1.x, al⟩ else .error 3 by
    have := h.fin (by simp)
    rw [hak] at this
    rw [this]
    unfold fitsB
    rw [if_neg hx0, hm])
  have HErr := Lib.hid (fun j al mm (h : St ((x :: t).map Prod.fst) k j x.1.x al) (hj : j < (x :: t).length) (ha : argE ((x :: t)[j]).1 = .error mm) => show callE ((x :: t).map Prod.fst) ah = .error mm by
    rw [← hak]
    exact h.err (by rw [List.length_map]; exact hj) hx0 (by rw [List.getElem_map]; exact ha))
  have HNext := Lib.hid (fun j al a (h : St ((x :: t).map Prod.fst) k j x.1.x al) (hj : j < (x :: t).length) (ha : argE ((x :: t)[j]).1 = .ok a) => show St ((x :: t).map Prod.fst) k (j + 1) x.1.x (al ++ [a]) from h.next (by rw [List.length_map]; exact hj) hx0 (by rw [List.getElem_map]; exact ha))
  have HLen : Hid ((x :: t).length = n) := by show _ = _; rw [List.length_cons, HN.out]
  have HRf := Lib.hid (rf_start w x)
  clear hw hn hg hm hfn hcb hk1 hae hx0
  generalize (x :: t) = ws at *
  go_enter Tryz.func40, Tryz.ntmps40
  go_wp2_with (first
    | (go_at_call 62; refine (hco _).mono ?_; rintro e w9 ⟨rfl, rfl⟩)
    | (go_at_call 24; refine (har _).mono ?_; rintro e w9 ⟨rfl, rfl⟩))
  go_loopw [14] (fun iv wr => ∃ (j : Nat) (va : Value) (al : List Ar), 1 ≤ j ∧ j ≤ n ∧ iv = .int .i64 j ∧ Hid (St (ws.map Prod.fst) k j x.1.x al) ∧ Hid (Rf w x va al wr)) (fun iv _ => n - (intOf iv).toNat)
  case atStart => exact ⟨1, _, [], Nat.le_refl _, by omega, rfl, HSt.out, HRf.out⟩
  case round =>
    clear HRf HSt
    obtain ⟨j, va, al, hj1, hjn, rfl, hS, hR⟩ := hrel
    have i0 : (0 : Int) ≤ (j : Int) := by omega
    have i1 : (j : Int) ≤ (n : Int) := by omega
    by_cases hlt : j < n
    · have hjl : j < ws.length := by rw [HLen.out]; exact hlt
      have hd : decide ((j : Int) < (n : Int)) = true := decide_eq_true (by omega)
      have hd2 : decide (j < n) = true := decide_eq_true hlt
      have i2 : (j : Int) < (n : Int) := by omega
      have HWj : Hid (∀ W, Below w.heap.size w W → W.cell? ⟨b, o + j * 3, none⟩ = some (.int .i64 (ws[j].1.k : Int)) ∧ W.cell? ⟨b, o + j * 3 + 1, none⟩ = some (.string (S ws[j].1.x)) ∧ W.cell? ⟨b, o + j * 3 + 2, none⟩ = some (.int .i64 (ws[j].2 : Int))) := fun W hW => HW.out.up hW j hjl
      have hgy := HG.out ws[j] (List.getElem_mem hjl)
      have HErj := Lib.hid (fun mm (ha : argE ws[j].1 = .error mm) => HErr.out j al mm hS.out hjl ha)
      have HNxj := Lib.hid (fun a (ha : argE ws[j].1 = .ok a) => HNext.out j al a hS.out hjl ha)
      generalize ws[j] = y at *
      obtain ⟨q0, q1, q2⟩ := HWj.out wr hR.out.rc.below
      have harg := HArg.out y hgy wr
      obtain ⟨⟨k0, k1, k2, a0, a1, z0, z1⟩, v0, v1, y1⟩ := hR.out.cells
      have hal := hS.out.len
      cases hae : argE y.1 with
      | error mm =>
        replace harg : Calls Tryz.prog 63 #[.agg #[.int .i64 (y.1.k : Int), .string (S y.1.x), .int .i64 (y.2 : Int)]] wr fun e w' => Below wr.heap.size wr w' ∧ mm ≠ 0 ∧ ∃ a : Ar, e = .returned (.tuple #[arV a (.slice none 0 0), .int .i64 (mm : Int)]) := harg.mono fun e w' h => by
          obtain ⟨hb, (⟨a, _, _, ha, _⟩ | ⟨n', a, hn', h0, he⟩)⟩ := h
          · rw [hae] at ha; cases ha
          · rw [hae] at hn'
            injection hn' with hn'
            subst hn'
            exact ⟨hb, h0, a, he⟩
        have HE := Lib.hid (HErj.out mm hae)
        clear hae HErj HNxj hgy
        go_wp2_with fail
        refine harg.mono ?_
        clear harg
        rintro e w4 ⟨hb4, hm0, a, rfl⟩
        have h4 := hR.out.up hb4
        have hal4 : Below w4.heap.size w4 (w4.alloc (.cells #[.int .i64 a.k, .string (S a.n), .slice none 0 0, .int .i64 a.i, .string (S a.x)] 44)) := (Below.refl _ w4).alloc (Nat.le_refl _) _
        have h5 := h4.up hal4
        obtain ⟨_, _, p2⟩ := HWj.out _ h5.rc.below
        obtain ⟨⟨k0, k1, k2, a0, a1, z0, z1⟩, v0, v1, y1⟩ := h5.cells
        have H5 := Lib.hid h5
        have HM0 := Lib.hid hm0
        have c0 : ((mm : Int) == 0) = false := by rw [beq_eq_false_iff_ne]; omega
        have c1 : ((mm : Int) != 0) = true := by rw [bne, c0]; rfl
        have c2 : ¬ (mm : Int) = 0 := by omega
        have c3 : ¬ mm = 0 := hm0
        clear h4 h5 hal4 hb4 hm0
        go_wp2_with fail
        obtain ⟨g0, g1⟩ := two_set H5.out.rc.box (.string ⟨#[]⟩) (.slice none 0 0)
        go_region
        all_goals go_wp2_with fail
        all_goals (refine bodyPost_ret (v := .tuple #[caV ⟨[], []⟩ (.slice none 0 0), .int .i64 (y.2 : Int), .int .i64 (mm : Int)]) (by simp [results, Tryz.results40, go_sem, g0, g1]) rfl ?_; exact ⟨(two_below H5.out.rc.below (Nat.le_refl _) _ _).drew, .inr ⟨mm, _, HE.out, HM0.out, rfl⟩⟩)
      | ok a =>
        replace harg : Calls Tryz.prog 63 #[.agg #[.int .i64 (y.1.k : Int), .string (S y.1.x), .int .i64 (y.2 : Int)]] wr fun e w' => Below wr.heap.size wr w' ∧ ∃ p c, e = .returned (.tuple #[arV a (.slice p a.p.length c), .int .i64 0]) ∧ PathR wr.heap.size w' (.slice p a.p.length c) a.p := harg.mono fun e w' h => by
          obtain ⟨hb, (⟨a', p, c, ha, he, hP⟩ | ⟨n', a', hn', h0, he⟩)⟩ := h
          · rw [hae] at ha
            injection ha with ha
            subst ha
            exact ⟨hb, p, c, he, hP⟩
          · rw [hae] at hn'; cases hn'
        have HSn := Lib.hid (HNxj.out a hae)
        clear hae HErj HNxj hgy
        go_wp2_with fail
        refine harg.mono ?_
        clear harg
        rintro e w4 ⟨hb4, pp, pc, rfl, hP⟩
        have h4 := hR.out.up hb4
        have hal4 : Below w4.heap.size w4 (w4.alloc (.cells #[.int .i64 a.k, .string (S a.n), .slice pp a.p.length pc, .int .i64 a.i, .string (S a.x)] 44)) := (Below.refl _ w4).alloc (Nat.le_refl _) _
        have hs4 : (w4.alloc (.cells #[.int .i64 a.k, .string (S a.n), .slice pp a.p.length pc, .int .i64 a.i, .string (S a.x)] 44)).heap.size = w4.heap.size + 1 := Array.size_push _
        have h5 := h4.up hal4
        have hP5 : PathR (w.heap.size + 3) (w4.alloc (.cells #[.int .i64 a.k, .string (S a.n), .slice pp a.p.length pc, .int .i64 a.i, .string (S a.x)] 44)) (.slice pp a.p.length pc) a.p := (hP.less hR.out.lt).same (kept_of hal4)
        obtain ⟨⟨k0, k1, k2, a0, a1, z0, z1⟩, v0, v1, y1⟩ := h5.cells
        obtain ⟨l, hl1, hl2, hl3⟩ := h5.args
        obtain ⟨vp, vc, hva⟩ := own_shape hl2
        subst hva
        have hll : l.length ≤ 4194304 := by
          have e1 : l.length = al.length := by rw [← hl1, List.length_map]
          omega
        have HPu := Lib.hid (fun wB v' hown hg => h5.push (wB := wB) (v' := v') (a := a) (o' := .cells (arC a (.slice pp a.p.length pc)).toArray 44) hl1 hl2 hl3 hP5 hown hg)
        have HRow := Lib.hid hl2
        have HLow := Lib.hid h5.lt
        have HOne := Lib.hid (push_ar a pp a.p.length pc)
        have hs5 : ((w4.alloc (.cells #[.int .i64 a.k, .string (S a.n), .slice pp a.p.length pc, .int .i64 a.i, .string (S a.x)] 44)).alloc (.cells (arC a (.slice pp a.p.length pc)).toArray 44)).heap.size = w4.heap.size + 2 := (Array.size_push _).trans (by rw [hs4])
        have HPC := Lib.hid (fun (jj : Nat) (u : Value) (h : (arC a (.slice pp a.p.length pc))[jj]? = some u) => Pwr.push_cells_at (w := w4.alloc (.cells #[.int .i64 a.k, .string (S a.n), .slice pp a.p.length pc, .int .i64 a.i, .string (S a.x)] 44)) (T := 44) (cs := arC a (.slice pp a.p.length pc)) _ hs4 jj u h)
        obtain ⟨i9, hi, hz0, hz1, hz2⟩ := info_parts info_arg
        clear h4 h5 hal4 hb4 hP hP5 hl1 hl2 hl3 hs4 hs5
        go_wp2_with (at_builtin; refine wpList_append_own _ rfl _ _ 39 rfl (w.heap.size + 3) 44 i9 _ 5 72 Tryz.underlying39 hi hz0 hz1 hz2 rfl (by decide) _ _ _ rfl (HRow.out.alloc _) ⟨w4.heap.size + 1, 0, none⟩ 1 1 (arC a (.slice pp a.p.length pc)) rfl rfl HPC.out HOne.out (by unfold maxLen; omega) (by omega) (by have := HLow.out; simp at this; simp; omega) ?_)
        intro v' wB hown' hgrow _
        obtain ⟨p1', p2', p3'⟩ := HPu.out wB _ hown' hgrow
        obtain ⟨vp', vc', hv'⟩ := own_shape hown'
        subst hv'
        have HPP := Lib.hid p1'
        clear p1' hown' hgrow HPu HRow HPC HOne HLow
        go_wp2_with fail
        generalize World.setCell wB _ _ = w6 at HPP ⊢
        go_wp2_with fail
        go_roundw
        case rel => exact ⟨j + 1, _, _, by omega, by omega, by go_num, HSn.out, HPP.out⟩
        case measure => simp [intOf]; omega
    · obtain rfl : j = n := by omega
      have hd : decide ((j : Int) < (j : Int)) = false := decide_eq_false (by omega)
      obtain ⟨vp, vc, hva⟩ := hR.out.args.shape
      subst hva
      obtain ⟨q, hq⟩ : ∃ q, q = al.length := ⟨_, rfl⟩
      rw [← hq] at hR
      obtain ⟨⟨k0, k1, k2, a0, a1, z0, z1⟩, v0, v1, y1⟩ := hR.out.cells
      have hql : q ≤ 4194304 := by have := hS.out.len; omega
      have hfin : St (ws.map Prod.fst) k (ws.map Prod.fst).length x.1.x al := by
        rw [List.length_map, HLen.out]
        exact hS.out
      have HQ := Lib.hid hq
      clear hq hS
      cases ah with
      | false =>
        have HF := HFin.out al hfin
        rw [← HQ.out, show (if 0 < k then 1 else 0 : Nat) = 0 from if_neg (by simpa using hak), Nat.add_zero] at HF
        clear hfin
        by_cases hlo : q < m.1
        · have HE : Hid (callE (ws.map Prod.fst) false = .error 3) := by
            show _ = _
            rw [HF, if_neg]
            rw [decide_eq_true_eq]
            omega
          have l1 : decide ((q : Int) < (m.1 : Int)) = true := decide_eq_true (by omega)
          have l2 : (q : Int) < (m.1 : Int) := by omega
          have l3 : decide (q < m.1) = true := decide_eq_true hlo
          clear HF
          go_wp2_with fail
          obtain ⟨g0, g1⟩ := two_set hR.out.rc.box (.string ⟨#[]⟩) (.slice none 0 0)
          go_region
          all_goals go_wp2_with fail
          all_goals (refine bodyPost_ret (v := .tuple #[caV ⟨[], []⟩ (.slice none 0 0), .int .i64 (x.2 : Int), .int .i64 3]) (by simp [results, Tryz.results40, go_sem, g0, g1]) rfl ?_; exact ⟨(two_below hR.out.rc.below (Nat.le_refl _) _ _).drew, .inr ⟨3, _, HE.out, by decide, rfl⟩⟩)
        · have l1 : decide ((q : Int) < (m.1 : Int)) = false := decide_eq_false (by omega)
          have l2 : ¬ (q : Int) < (m.1 : Int) := by omega
          have l3 : decide (q < m.1) = false := decide_eq_false hlo
          by_cases hhi : m.2 < q
          · have HE : Hid (callE (ws.map Prod.fst) false = .error 3) := by
              show _ = _
              rw [HF, if_neg]
              rw [decide_eq_true_eq]
              omega
            have m1 : decide ((m.2 : Int) < (q : Int)) = true := decide_eq_true (by omega)
            have m2 : (m.2 : Int) < (q : Int) := by omega
            have m3 : decide (m.2 < q) = true := decide_eq_true hhi
            clear HF
            go_wp2_with fail
            obtain ⟨g0, g1⟩ := two_set hR.out.rc.box (.string ⟨#[]⟩) (.slice none 0 0)
            go_region
            all_goals go_wp2_with fail
            all_goals (refine bodyPost_ret (v := .tuple #[caV ⟨[], []⟩ (.slice none 0 0), .int .i64 (x.2 : Int), .int .i64 3]) (by simp [results, Tryz.results40, go_sem, g0, g1]) rfl ?_; exact ⟨(two_below hR.out.rc.below (Nat.le_refl _) _ _).drew, .inr ⟨3, _, HE.out, by decide, rfl⟩⟩)
          · have HE : Hid (callE (ws.map Prod.fst) false = .ok ⟨x.1.x, al⟩) := by
              show _ = _
              rw [HF, if_pos]
              rw [decide_eq_true_eq]
              omega
            have m1 : decide ((m.2 : Int) < (q : Int)) = false := decide_eq_false (by omega)
            have m2 : ¬ (m.2 : Int) < (q : Int) := by omega
            have m3 : decide (m.2 < q) = false := decide_eq_false hhi
            clear HF
            go_wp2_with fail
            obtain ⟨g0, g1⟩ := two_set hR.out.rc.box (.string (S x.1.x)) (.slice vp q vc)
            refine bodyPost_ret (v := .tuple #[caV ⟨x.1.x, al⟩ (.slice vp q vc), .int .i64 0, .int .i64 0]) (by simp [results, Tryz.results40, go_sem, g0, g1]) rfl ?_
            exact ⟨two_below hR.out.rc.below (Nat.le_refl _) _ _, .inl ⟨_, vp, vc, HE.out, by rw [← HQ.out], by rw [← HQ.out]; exact (hR.out.args.same (two_kept (by omega) _ _)).less (by omega)⟩⟩
      | true =>
        have HF := HFin.out al hfin
        rw [← HQ.out, show (if 0 < k then 1 else 0 : Nat) = 1 from if_pos (by simpa using hak)] at HF
        clear hfin
        by_cases hlo : q + 1 < m.1
        · have HE : Hid (callE (ws.map Prod.fst) true = .error 3) := by
            show _ = _
            rw [HF, if_neg]
            rw [decide_eq_true_eq]
            omega
          have l1 : decide ((q : Int) + 1 < (m.1 : Int)) = true := decide_eq_true (by omega)
          have l2 : (q : Int) + 1 < (m.1 : Int) := by omega
          have l3 : decide (q + 1 < m.1) = true := decide_eq_true hlo
          clear HF
          go_wp2_with fail
          obtain ⟨g0, g1⟩ := two_set hR.out.rc.box (.string ⟨#[]⟩) (.slice none 0 0)
          go_region
          all_goals go_wp2_with fail
          all_goals (refine bodyPost_ret (v := .tuple #[caV ⟨[], []⟩ (.slice none 0 0), .int .i64 (x.2 : Int), .int .i64 3]) (by simp [results, Tryz.results40, go_sem, g0, g1]) rfl ?_; exact ⟨(two_below hR.out.rc.below (Nat.le_refl _) _ _).drew, .inr ⟨3, _, HE.out, by decide, rfl⟩⟩)
        · have l1 : decide ((q : Int) + 1 < (m.1 : Int)) = false := decide_eq_false (by omega)
          have l2 : ¬ (q : Int) + 1 < (m.1 : Int) := by omega
          have l3 : decide (q + 1 < m.1) = false := decide_eq_false hlo
          by_cases hhi : m.2 < q + 1
          · have HE : Hid (callE (ws.map Prod.fst) true = .error 3) := by
              show _ = _
              rw [HF, if_neg]
              rw [decide_eq_true_eq]
              omega
            have m1 : decide ((m.2 : Int) < (q : Int) + 1) = true := decide_eq_true (by omega)
            have m2 : (m.2 : Int) < (q : Int) + 1 := by omega
            have m3 : decide (m.2 < q + 1) = true := decide_eq_true hhi
            clear HF
            go_wp2_with fail
            obtain ⟨g0, g1⟩ := two_set hR.out.rc.box (.string ⟨#[]⟩) (.slice none 0 0)
            go_region
            all_goals go_wp2_with fail
            all_goals (refine bodyPost_ret (v := .tuple #[caV ⟨[], []⟩ (.slice none 0 0), .int .i64 (x.2 : Int), .int .i64 3]) (by simp [results, Tryz.results40, go_sem, g0, g1]) rfl ?_; exact ⟨(two_below hR.out.rc.below (Nat.le_refl _) _ _).drew, .inr ⟨3, _, HE.out, by decide, rfl⟩⟩)
          · have HE : Hid (callE (ws.map Prod.fst) true = .ok ⟨x.1.x, al⟩) := by
              show _ = _
              rw [HF, if_pos]
              rw [decide_eq_true_eq]
              omega
            have m1 : decide ((m.2 : Int) < (q : Int) + 1) = false := decide_eq_false (by omega)
            have m2 : ¬ (m.2 : Int) < (q : Int) + 1 := by omega
            have m3 : decide (m.2 < q + 1) = false := decide_eq_false hhi
            clear HF
            go_wp2_with fail
            obtain ⟨g0, g1⟩ := two_set hR.out.rc.box (.string (S x.1.x)) (.slice vp q vc)
            refine bodyPost_ret (v := .tuple #[caV ⟨x.1.x, al⟩ (.slice vp q vc), .int .i64 0, .int .i64 0]) (by simp [results, Tryz.results40, go_sem, g0, g1]) rfl ?_
            exact ⟨two_below hR.out.rc.below (Nat.le_refl _) _ _, .inl ⟨_, vp, vc, HE.out, by rw [← HQ.out], by rw [← HQ.out]; exact (hR.out.args.same (two_kept (by omega) _ _)).less (by omega)⟩⟩
theorem rcall_c {b o c k : Nat} {ws : List (Wd × Nat)} (hne : ws ≠ []) (hlen : ws.length ≤ 4194304) (hg : ∀ y ∈ ws, GoodX y.1) (w : World) (hw : WdAt w b o ws) :
    Calls Tryz.prog 40 #[wsV b o ws.length c, .bool (decide (0 < k))] w (RCallTo (ws.map Prod.fst) (decide (0 < k)) w) := by
  cases ws with
  | nil => exact absurd rfl hne
  | cons x t =>
    rw [List.length_cons] at hlen ⊢
    by_cases hfn : x.1.k ≠ 1 ∨ constB x.1.x = true
    · by_cases hk : 0 < k
      · rw [decide_eq_true hk]
        exact rcall_behind hfn hlen w hw
      · rw [decide_eq_false hk]
        cases hm : argE x.1 with
        | error m => exact rcall_one_bad hfn hm hlen hg w hw
        | ok a =>
          by_cases ht : t = []
          · exact rcall_one hfn hm ht hlen hg w hw
          · exact rcall_more hfn hm ht hlen hg w hw
    · cases hm : arityL x.1.x with
      | none => exact rcall_nofun hfn hm hlen w hw
      | some m => exact rcall_fun rfl hfn hm hlen hg w hw
end Go.Proofs.YtmccbcficbbidaaGreatDoor.Pw
