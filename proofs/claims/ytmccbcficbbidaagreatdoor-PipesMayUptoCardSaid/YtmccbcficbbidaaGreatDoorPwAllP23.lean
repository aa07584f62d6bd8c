/-
  Part 23: PwPage3.
-/
import Derived.Test.YtmccbcficbbidaaGreatDoorPwAllP22
/-
  Contract of the page's pipelines: one call.
-/
namespace Go.Proofs.YtmccbcficbbidaaGreatDoor.Pw
open Go.RowKit Go.Proofs.YtmccbcficbbidaaGreatDoor.Oct Go.Proofs.YtmccbcficbbidaaGreatDoor.Lex Go.Proofs.YtmccbcficbbidaaGreatDoor.Lxw Go.Proofs.YtmccbcficbbidaaGreatDoor.Pip
open Go.Proofs.YtmccbcficbbidaaGreatDoor.Num (parseL)

/-- What the page's call answers. -/
def RCallTo (l : List Wd) (ahead : Bool) (w : World) (e : Ending) (w' : World) : Prop := Below w.heap.size w w' ∧
  ((∃ c p cc, callE l ahead = .ok c ∧ e = .returned (.tuple #[caV c (.slice p c.as.length cc), .int .i64 0, .int .i64 0]) ∧ ArgR w.heap.size w' (.slice p c.as.length cc) c.as) ∨ (∃ (n : Nat) (a : Int), callE l ahead = .error n ∧ n ≠ 0 ∧ e = .returned (.tuple #[caV ⟨[], []⟩ (.slice none 0 0), .int .i64 a, .int .i64 (n : Int)])))
/-- The boxes of the result and of the first word. -/
abbrev rcW (w : World) (x : Wd × Nat) : World :=
  (w.alloc (.cells #[.string ⟨#[]⟩, .slice none 0 0] 41)).alloc (.cells #[.int .i64 (x.1.k : Int), .string (S x.1.x), .int .i64 (x.2 : Int)] 83)
theorem rcW_below (w : World) (x : Wd × Nat) : Below w.heap.size w (rcW w x) := ((Below.refl _ w).alloc (Nat.le_refl _) _).alloc (by simp) _
/-- What a world that came out of the boxes' world holds of them. -/
structure RcC (w : World) (x : Wd × Nat) (W : World) : Prop where
  k0 : W.cell? ⟨w.heap.size + 1, 0, none⟩ = some (.int .i64 (x.1.k : Int))
  k1 : W.cell? ⟨w.heap.size + 1, 1, none⟩ = some (.string (S x.1.x))
  k2 : W.cell? ⟨w.heap.size + 1, 2, none⟩ = some (.int .i64 (x.2 : Int))
  a0 : W.cell? ⟨w.heap.size, 0, none⟩ = some (.string ⟨#[]⟩)
  a1 : W.cell? ⟨w.heap.size, 1, none⟩ = some (.slice none 0 0)
  z0 : W.frozen? ⟨w.heap.size, 0, none⟩ = false
  z1 : W.frozen? ⟨w.heap.size, 1, none⟩ = false
structure Rc (w : World) (x : Wd × Nat) (W : World) : Prop where
  box : W.heap[w.heap.size]? = some (.cells #[.string ⟨#[]⟩, .slice none 0 0] 41 (0, 0))
  word : W.heap[w.heap.size + 1]? = some (.cells #[.int .i64 (x.1.k : Int), .string (S x.1.x), .int .i64 (x.2 : Int)] 83 (0, 0))
  below : Below w.heap.size w W
theorem rc_start (w : World) (x : Wd × Nat) : Rc w x (rcW w x) := by
  have h1 : (w.alloc (.cells #[.string ⟨#[]⟩, .slice none 0 0] 41)).heap.size = w.heap.size + 1 := Array.size_push _
  refine ⟨?_, ?_, rcW_below w x⟩
  · rw [((Below.refl _ (w.alloc (.cells #[.string ⟨#[]⟩, .slice none 0 0] 41))).alloc (Nat.le_refl _) _).block w.heap.size (by omega)]
    exact heap_alloc_new w _
  · have h := heap_alloc_new (w.alloc (.cells #[.string ⟨#[]⟩, .slice none 0 0] 41)) (.cells #[.int .i64 (x.1.k : Int), .string (S x.1.x), .int .i64 (x.2 : Int)] 83)
    rw [h1] at h
    exact h
theorem Rc.lt {w W : World} {x : Wd × Nat} (h : Rc w x W) : w.heap.size + 2 ≤ W.heap.size := (Array.getElem?_eq_some_iff.1 h.word).1
theorem Rc.up {w W W' : World} {x : Wd × Nat} (h : Rc w x W) (hb : Below W.heap.size W W') : Rc w x W' :=
  ⟨(hb.block _ (by have := h.lt; omega)).trans h.box, (hb.block _ (by have := h.lt; omega)).trans h.word, h.below.trans (hb.mono (by have := h.lt; omega))⟩
theorem Rc.cells {w W : World} {x : Wd × Nat} (h : Rc w x W) : RcC w x W :=
  ⟨(cell_of_row W _ 0 _ _ _ h.word).trans rfl, (cell_of_row W _ 1 _ _ _ h.word).trans rfl, (cell_of_row W _ 2 _ _ _ h.word).trans rfl, (cell_of_row W _ 0 _ _ _ h.box).trans rfl, (cell_of_row W _ 1 _ _ _ h.box).trans rfl, frozen_of_row W _ 0 _ _ h.box, frozen_of_row W _ 1 _ _ h.box⟩
/-- The result's box written. -/
abbrev setTwo (w : World) (R : Nat) (b0 b1 : Value) : World := (w.setCell ⟨R, 0, none⟩ b0).setCell ⟨R, 1, none⟩ b1
/-- One argument's row. -/
theorem ArgR.one {D : Nat} {w : World} {vp : Value} {a : Ar} (hD : D ≤ w.heap.size) (hp : PathR D w vp a.p) : ArgR D (w.alloc (.cells #[.int .i64 a.k, .string (S a.n), vp, .int .i64 a.i, .string (S a.x)] 44)) (.slice (some ⟨w.heap.size, 0, none⟩) 1 1) [a] := by
  refine ⟨[(a, vp)], rfl, ⟨rfl, .inr ⟨w.heap.size, 1, #[.int .i64 a.k, .string (S a.n), vp, .int .i64 a.i, .string (S a.x)], rfl, hD, heap_alloc_new w _, Nat.le_refl _, by unfold maxLen; omega, rfl, rfl⟩⟩, fun x hx => ?_⟩
  have : x = (a, vp) := by simpa using hx
  subst this
  exact hp.same fun k _ hk => ((Below.refl _ w).alloc (Nat.le_refl _) _).block k hk
theorem two_kept {w : World} {base R : Nat} (hR : R < base) (b0 b1 : Value) : Kept base w (setTwo w R b0 b1) := fun k hk _ => by
  have hne : ¬ k = R := by omega
  rw [heap_setCell_other _ _ _ _ (by simpa using hne), heap_setCell_other _ _ _ _ (by simpa using hne)]
theorem two_set {w : World} {R : Nat} {a0 a1 : Value} {T : TypeId} (h : w.heap[R]? = some (.cells #[a0, a1] T (0, 0))) (b0 b1 : Value) : (w.setCell ⟨R, 0, none⟩ b0).cell? ⟨R, 0, none⟩ = some b0 ∧ (setTwo w R b0 b1).cell? ⟨R, 1, none⟩ = some b1 := by
  have h1 := heap_setCell_same _ R 1 _ _ b1 (heap_setCell_same w R 0 _ _ b0 h)
  exact ⟨(cell_of_row _ R 0 _ _ _ (heap_setCell_same w R 0 _ _ b0 h)).trans rfl, (cell_of_row _ R 1 _ _ _ h1).trans rfl⟩
theorem two_below {w0 w : World} {n R : Nat} (h : Below n w0 w) (hR : n ≤ R) (b0 b1 : Value) : Below n w0 (setTwo w R b0 b1) :=
  (h.setCell (p := ⟨R, 0, none⟩) hR b0).setCell (p := ⟨R, 1, none⟩) hR b1
set_option maxHeartbeats 2000000 in
set_option maxRecDepth 100000 in
theorem rcall_behind {b o c : Nat} {x : Wd × Nat} {t : List (Wd × Nat)} (hfn : x.1.k ≠ 1 ∨ constB x.1.x = true) (hlen : t.length + 1 ≤ 4194304) (w : World) (hw : WdAt w b o (x :: t)) :
    Calls Tryz.prog 40 #[wsV b o (t.length + 1) c, .bool true] w (RCallTo ((x :: t).map Prod.fst) true w) := by
  obtain ⟨x0, x1, x2⟩ := hw 0 (by simp)
  rw [Nat.zero_mul, Nat.add_zero] at x0 x1 x2
  replace x0 : w.cell? ⟨b, o, none⟩ = some (.int .i64 (x.1.k : Int)) := x0
  replace x1 : w.cell? ⟨b, o + 1, none⟩ = some (.string (S x.1.x)) := x1
  replace x2 : w.cell? ⟨b, o + 2, none⟩ = some (.int .i64 (x.2 : Int)) := x2
  have hal0 : Below w.heap.size w (w.alloc (.cells #[.string ⟨#[]⟩, .slice none 0 0] 41)) := (Below.refl _ w).alloc (Nat.le_refl _) _
  replace x0 := some_up x0 hal0
  replace x1 := some_up x1 hal0
  replace x2 := some_up x2 hal0
  clear hal0
  have HW := Lib.hid hw
  have HS := Lib.hid (rc_start w x)
  obtain ⟨n, hn⟩ : ∃ n, n = t.length + 1 := ⟨_, rfl⟩
  rw [← hn] at hlen ⊢
  have HN := Lib.hid hn
  have n1 : (1 : Int) ≤ (n : Int) := by omega
  have n0 : (0 : Int) < (n : Int) := by omega
  have n2 : 0 < n := by omega
  have n3 : (n : Int) ≤ 4194304 := by omega
  have hco := fun W => rconstant_c x.1.x W
  have hE : Hid (callE ((x :: t).map Prod.fst) true = .error 33) := call_behind (k := 1) hfn (by decide)
  clear hw hn
  by_cases hk1 : x.1.k = 1
  · have hcb : constB x.1.x = true := by
      rcases hfn with h | h
      · exact absurd hk1 h
      · exact h
    rw [hcb] at hco
    have b0 : ((x.1.k : Int) == 1) = true := by rw [beq_iff_eq]; omega
    have b1 : ((x.1.k : Int) != 1) = false := by rw [bne, b0]; rfl
    clear hcb hfn hk1
    go_enter Tryz.func40, Tryz.ntmps40
    go_wp2_with (go_at_call 62; refine (hco _).mono ?_; rintro e w9 ⟨rfl, rfl⟩)
    go_region
    all_goals go_wp2_with fail
    all_goals (refine bodyPost_ret (v := .tuple #[caV ⟨[], []⟩ (.slice none 0 0), .int .i64 (x.2 : Int), .int .i64 33]) (by simp [results, Tryz.results40, go_sem]) rfl ?_; exact ⟨HS.out.below.drew, .inr ⟨33, _, hE.out, by decide, rfl⟩⟩)
  · have b0 : ((x.1.k : Int) == 1) = false := by rw [beq_eq_false_iff_ne]; omega
    have b1 : ((x.1.k : Int) != 1) = true := by rw [bne, b0]; rfl
    have b2 : ¬ (x.1.k : Int) = 1 := by omega
    clear hfn hco
    go_enter Tryz.func40, Tryz.ntmps40
    go_wp2_with fail
    go_region
    all_goals go_wp2_with fail
    all_goals (refine bodyPost_ret (v := .tuple #[caV ⟨[], []⟩ (.slice none 0 0), .int .i64 (x.2 : Int), .int .i64 33]) (by simp [results, Tryz.results40, go_sem]) rfl ?_; exact ⟨HS.out.below.drew, .inr ⟨33, _, hE.out, by decide, rfl⟩⟩)
set_option maxHeartbeats 2000000 in
set_option maxRecDepth 100000 in
theorem rcall_one_bad {b o c : Nat} {x : Wd × Nat} {t : List (Wd × Nat)} (hfn : x.1.k ≠ 1 ∨ constB x.1.x = true) {m : Nat} (hm : argE x.1 = .error m) (hlen : t.length + 1 ≤ 4194304) (hg : ∀ y ∈ x :: t, GoodX y.1) (w : World) (hw : WdAt w b o (x :: t)) :
    Calls Tryz.prog 40 #[wsV b o (t.length + 1) c, .bool false] w (RCallTo ((x :: t).map Prod.fst) false w) := by
  obtain ⟨x0, x1, x2⟩ := hw 0 (by simp)
  rw [Nat.zero_mul, Nat.add_zero] at x0 x1 x2
  replace x0 : w.cell? ⟨b, o, none⟩ = some (.int .i64 (x.1.k : Int)) := x0
  replace x1 : w.cell? ⟨b, o + 1, none⟩ = some (.string (S x.1.x)) := x1
  replace x2 : w.cell? ⟨b, o + 2, none⟩ = some (.int .i64 (x.2 : Int)) := x2
  have hal0 : Below w.heap.size w (w.alloc (.cells #[.string ⟨#[]⟩, .slice none 0 0] 41)) := (Below.refl _ w).alloc (Nat.le_refl _) _
  replace x0 := some_up x0 hal0
  replace x1 := some_up x1 hal0
  replace x2 := some_up x2 hal0
  clear hal0
  have HW := Lib.hid hw
  have HS := Lib.hid (rc_start w x)
  obtain ⟨n, hn⟩ : ∃ n, n = t.length + 1 := ⟨_, rfl⟩
  rw [← hn] at hlen ⊢
  have HN := Lib.hid hn
  have n1 : (1 : Int) ≤ (n : Int) := by omega
  have n0 : (0 : Int) < (n : Int) := by omega
  have n2 : 0 < n := by omega
  have n3 : (n : Int) ≤ 4194304 := by omega
  have hco := fun W => rconstant_c x.1.x W
  have hE : Hid (callE ((x :: t).map Prod.fst) false = .error m) := call_noarg hfn hm
  have harg := rarg_c x (hg x (by simp)) (rcW w x)
  replace harg : Calls Tryz.prog 63 #[.agg #[.int .i64 (x.1.k : Int), .string (S x.1.x), .int .i64 (x.2 : Int)]] (rcW w x) fun e w' => Below (rcW w x).heap.size (rcW w x) w' ∧ m ≠ 0 ∧ ∃ a : Ar, e = .returned (.tuple #[arV a (.slice none 0 0), .int .i64 (m : Int)]) := harg.mono fun e w' h => by
    obtain ⟨hb, (⟨a, _, _, ha, _⟩ | ⟨n', a, hn', h0, he⟩)⟩ := h
    · rw [hm] at ha; cases ha
    · rw [hm] at hn'
      injection hn' with hn'
      subst hn'
      exact ⟨hb, h0, a, he⟩
  clear hw hn hm hg
  by_cases hk1 : x.1.k = 1
  · have hcb : constB x.1.x = true := by
      rcases hfn with h | h
      · exact absurd hk1 h
      · exact h
    rw [hcb] at hco
    have b0 : ((x.1.k : Int) == 1) = true := by rw [beq_iff_eq]; omega
    have b1 : ((x.1.k : Int) != 1) = false := by rw [bne, b0]; rfl
    clear hcb hfn hk1
    go_enter Tryz.func40, Tryz.ntmps40
    go_wp2_with (go_at_call 62; refine (hco _).mono ?_; rintro e w9 ⟨rfl, rfl⟩)
    refine harg.mono ?_
    clear harg
    rintro e w4 ⟨hb4, hm0, a, rfl⟩
    have h4 := HS.out.up hb4
    have hal4 : Below w4.heap.size w4 (w4.alloc (.cells #[.int .i64 a.k, .string (S a.n), .slice none 0 0, .int .i64 a.i, .string (S a.x)] 44)) := (Below.refl _ w4).alloc (Nat.le_refl _) _
    have h5 := h4.up hal4
    obtain ⟨k0, k1, k2, a0, a1, z0, z1⟩ := h5.cells
    have H5 := Lib.hid h5
    have HM0 := Lib.hid hm0
    have c0 : ((m : Int) == 0) = false := by rw [beq_eq_false_iff_ne]; omega
    have c1 : ((m : Int) != 0) = true := by rw [bne, c0]; rfl
    have c2 : ¬ (m : Int) = 0 := by omega
    have c3 : ¬ m = 0 := hm0
    clear h4 h5 hal4 hb4 hm0
    go_wp2_with fail
    obtain ⟨g0, g1⟩ := two_set H5.out.box (.string ⟨#[]⟩) (.slice none 0 0)
    go_region
    all_goals go_wp2_with fail
    all_goals (refine bodyPost_ret (v := .tuple #[caV ⟨[], []⟩ (.slice none 0 0), .int .i64 (x.2 : Int), .int .i64 (m : Int)]) (by simp [results, Tryz.results40, go_sem, g0, g1]) rfl ?_; exact ⟨(two_below H5.out.below (Nat.le_refl _) _ _).drew, .inr ⟨m, _, hE.out, HM0.out, rfl⟩⟩)
  · have b0 : ((x.1.k : Int) == 1) = false := by rw [beq_eq_false_iff_ne]; omega
    have b1 : ((x.1.k : Int) != 1) = true := by rw [bne, b0]; rfl
    have b2 : ¬ (x.1.k : Int) = 1 := by omega
    clear hfn hco
    go_enter Tryz.func40, Tryz.ntmps40
    go_wp2_with fail
    refine harg.mono ?_
    clear harg
    rintro e w4 ⟨hb4, hm0, a, rfl⟩
    have h4 := HS.out.up hb4
    have hal4 : Below w4.heap.size w4 (w4.alloc (.cells #[.int .i64 a.k, .string (S a.n), .slice none 0 0, .int .i64 a.i, .string (S a.x)] 44)) := (Below.refl _ w4).alloc (Nat.le_refl _) _
    have h5 := h4.up hal4
    obtain ⟨k0, k1, k2, a0, a1, z0, z1⟩ := h5.cells
    have H5 := Lib.hid h5
    have HM0 := Lib.hid hm0
    have c0 : ((m : Int) == 0) = false := by rw [beq_eq_false_iff_ne]; omega
    have c1 : ((m : Int) != 0) = true := by rw [bne, c0]; rfl
    have c2 : ¬ (m : Int) = 0 := by omega
    have c3 : ¬ m = 0 := hm0
    clear h4 h5 hal4 hb4 hm0
    go_wp2_with fail
    obtain ⟨g0, g1⟩ := two_set H5.out.box (.string ⟨#[]⟩) (.slice none 0 0)
    go_region
    all_goals go_wp2_with fail
    all_goals (refine bodyPost_ret (v := .tuple #[caV ⟨[], []⟩ (.slice none 0 0), .int .i64 (x.2 : Int), .int .i64 (m : Int)]) (by simp [results, Tryz.results40, go_sem, g0, g1]) rfl ?_; exact ⟨(two_below H5.out.below (Nat.le_refl _) _ _).drew, .inr ⟨m, _, hE.out, HM0.out, rfl⟩⟩)
set_option maxHeartbeats 2000000 in
set_option maxRecDepth 100000 in
theorem rcall_more {b o c : Nat} {x : Wd × Nat} {t : List (Wd × Nat)} {a : Ar} (hfn : x.1.k ≠ 1 ∨ constB x.1.x = true) (hm : argE x.1 = .ok a) (ht : t ≠ []) (hlen : t.length + 1 ≤ 4194304) (hg : ∀ y ∈ x :: t, GoodX y.1) (w : World) (hw : WdAt w b o (x :: t)) :
    Calls Tryz.prog 40 #[wsV b o (t.length + 1) c, .bool false] w (RCallTo ((x :: t).map Prod.fst) false w) := by
  obtain ⟨x0, x1, x2⟩ := hw 0 (by simp)
  rw [Nat.zero_mul, Nat.add_zero] at x0 x1 x2
  replace x0 : w.cell? ⟨b, o, none⟩ = some (.int .i64 (x.1.k : Int)) := x0
  replace x1 : w.cell? ⟨b, o + 1, none⟩ = some (.string (S x.1.x)) := x1
  replace x2 : w.cell? ⟨b, o + 2, none⟩ = some (.int .i64 (x.2 : Int)) := x2
  have hal0 : Below w.heap.size w (w.alloc (.cells #[.string ⟨#[]⟩, .slice none 0 0] 41)) := (Below.refl _ w).alloc (Nat.le_refl _) _
  replace x0 := some_up x0 hal0
  replace x1 := some_up x1 hal0
  replace x2 := some_up x2 hal0
  clear hal0
  have HW := Lib.hid hw
  have HS := Lib.hid (rc_start w x)
  obtain ⟨n, hn⟩ : ∃ n, n = t.length + 1 := ⟨_, rfl⟩
  rw [← hn] at hlen ⊢
  have HN := Lib.hid hn
  have n1 : (1 : Int) ≤ (n : Int) := by omega
  have n0 : (0 : Int) < (n : Int) := by omega
  have n2 : 0 < n := by omega
  have n3 : (n : Int) ≤ 4194304 := by omega
  have hco := fun W => rconstant_c x.1.x W
  have hE : Hid (callE ((x :: t).map Prod.fst) false = .error 33) := by
    show callE (x.1 :: t.map Prod.fst) false = _
    unfold callE
    dsimp only
    rw [if_pos hfn, if_neg (by simp), hm]
    dsimp only
    rw [if_neg (by simpa using ht)]
  have n4 : (1 : Int) < (n : Int) := by have := List.length_pos_iff.2 ht; omega
  have n5 : 1 < n := by omega
  have n6 : decide ((1 : Int) < (n : Int)) = true := decide_eq_true n4
  have n7 : decide (1 < n) = true := decide_eq_true n5
  have harg := rarg_c x (hg x (by simp)) (rcW w x)
  replace harg : Calls Tryz.prog 63 #[.agg #[.int .i64 (x.1.k : Int), .string (S x.1.x), .int .i64 (x.2 : Int)]] (rcW w x) fun e w' => Below (rcW w x).heap.size (rcW w x) w' ∧ ∃ p c, e = .returned (.tuple #[arV a (.slice p a.p.length c), .int .i64 0]) ∧ PathR (rcW w x).heap.size w' (.slice p a.p.length c) a.p := harg.mono fun e w' h => by
    obtain ⟨hb, (⟨a', p, c, ha, he, hP⟩ | ⟨n', a', hn', h0, he⟩)⟩ := h
    · rw [hm] at ha
      injection ha with ha
      subst ha
      exact ⟨hb, p, c, he, hP⟩
    · rw [hm] at hn'; cases hn'
  clear hw hn hm hg ht
  by_cases hk1 : x.1.k = 1
  · have hcb : constB x.1.x = true := by
      rcases hfn with h | h
      · exact absurd hk1 h
      · exact h
    rw [hcb] at hco
    have b0 : ((x.1.k : Int) == 1) = true := by rw [beq_iff_eq]; omega
    have b1 : ((x.1.k : Int) != 1) = false := by rw [bne, b0]; rfl
    clear hcb hfn hk1
    go_enter Tryz.func40, Tryz.ntmps40
    go_wp2_with (go_at_call 62; refine (hco _).mono ?_; rintro e w9 ⟨rfl, rfl⟩)
    refine harg.mono ?_
    clear harg
    rintro e w4 ⟨hb4, pp, pc, rfl, hP⟩
    have h4 := HS.out.up hb4
    have hal4 : Below w4.heap.size w4 (w4.alloc (.cells #[.int .i64 a.k, .string (S a.n), .slice pp a.p.length pc, .int .i64 a.i, .string (S a.x)] 44)) := (Below.refl _ w4).alloc (Nat.le_refl _) _
    have h5 := h4.up hal4
    obtain ⟨k0, k1, k2, a0, a1, z0, z1⟩ := h5.cells
    have H5 := Lib.hid h5
    have HB := Lib.hid (And.intro hb4 hal4)
    obtain ⟨_, _, y2⟩ := (HW.out.up (HS.out.below)).up hb4 1 (by rw [List.length_cons]; have := HN.out; omega)
    replace y2 := some_up y2 hal4
    generalize ((x :: t)[1]'(by rw [List.length_cons]; have := HN.out; omega)).2 = pl at y2
    replace y2 : (w4.alloc (.cells #[.int .i64 a.k, .string (S a.n), .slice pp a.p.length pc, .int .i64 a.i, .string (S a.x)] 44)).cell? ⟨b, o + 3 + 2, none⟩ = some (.int .i64 (pl : Int)) := y2
    clear h4 h5 hal4 hb4 hP
    go_wp2_with fail
    obtain ⟨g0, g1⟩ := two_set H5.out.box (.string ⟨#[]⟩) (.slice none 0 0)
    go_region
    all_goals go_wp2_with fail
    all_goals (refine bodyPost_ret (v := .tuple #[caV ⟨[], []⟩ (.slice none 0 0), .int .i64 (pl : Int), .int .i64 33]) (by simp [results, Tryz.results40, go_sem, g0, g1]) rfl ?_; exact ⟨(two_below H5.out.below (Nat.le_refl _) _ _).drew, .inr ⟨33, _, hE.out, by decide, rfl⟩⟩)
  · have b0 : ((x.1.k : Int) == 1) = false := by rw [beq_eq_false_iff_ne]; omega
    have b1 : ((x.1.k : Int) != 1) = true := by rw [bne, b0]; rfl
    have b2 : ¬ (x.1.k : Int) = 1 := by omega
    clear hfn hco
    go_enter Tryz.func40, Tryz.ntmps40
    go_wp2_with fail
    refine harg.mono ?_
    clear harg
    rintro e w4 ⟨hb4, pp, pc, rfl, hP⟩
    have h4 := HS.out.up hb4
    have hal4 : Below w4.heap.size w4 (w4.alloc (.cells #[.int .i64 a.k, .string (S a.n), .slice pp a.p.length pc, .int .i64 a.i, .string (S a.x)] 44)) := (Below.refl _ w4).alloc (Nat.le_refl _) _
    have h5 := h4.up hal4
    obtain ⟨k0, k1, k2, a0, a1, z0, z1⟩ := h5.cells
    have H5 := Lib.hid h5
    have HB := Lib.hid (And.intro hb4 hal4)
    obtain ⟨_, _, y2⟩ := (HW.out.up (HS.out.below)).up hb4 1 (by rw [List.length_cons]; have := HN.out; omega)
    replace y2 := some_up y2 hal4
    generalize ((x :: t)[1]'(by rw [List.length_cons]; have := HN.out; omega)).2 = pl at y2
    replace y2 : (w4.alloc (.cells #[.int .i64 a.k, .string (S a.n), .slice pp a.p.length pc, .int .i64 a.i, .string (S a.x)] 44)).cell? ⟨b, o + 3 + 2, none⟩ = some (.int .i64 (pl : Int)) := y2
    clear h4 h5 hal4 hb4 hP
    go_wp2_with fail
    obtain ⟨g0, g1⟩ := two_set H5.out.box (.string ⟨#[]⟩) (.slice none 0 0)
    go_region
    all_goals go_wp2_with fail
    all_goals (refine bodyPost_ret (v := .tuple #[caV ⟨[], []⟩ (.slice none 0 0), .int .i64 (pl : Int), .int .i64 33]) (by simp [results, Tryz.results40, go_sem, g0, g1]) rfl ?_; exact ⟨(two_below H5.out.below (Nat.le_refl _) _ _).drew, .inr ⟨33, _, hE.out, by decide, rfl⟩⟩)
set_option maxHeartbeats 2000000 in
set_option maxRecDepth 100000 in
theorem rcall_one {b o c : Nat} {x : Wd × Nat} {t : List (Wd × Nat)} {a : Ar} (hfn : x.1.k ≠ 1 ∨ constB x.1.x = true) (hm : argE x.1 = .ok a) (ht : t = []) (hlen : t.length + 1 ≤ 4194304) (hg : ∀ y ∈ x :: t, GoodX y.1) (w : World) (hw : WdAt w b o (x :: t)) :
    Calls Tryz.prog 40 #[wsV b o (t.length + 1) c, .bool false] w (RCallTo ((x :: t).map Prod.fst) false w) := by
  obtain ⟨x0, x1, x2⟩ := hw 0 (by simp)
  rw [Nat.zero_mul, Nat.add_zero] at x0 x1 x2
  replace x0 : w.cell? ⟨b, o, none⟩ = some (.int .i64 (x.1.k : Int)) := x0
  replace x1 : w.cell? ⟨b, o + 1, none⟩ = some (.string (S x.1.x)) := x1
  replace x2 : w.cell? ⟨b, o + 2, none⟩ = some (.int .i64 (x.2 : Int)) := x2
  have hal0 : Below w.heap.size w (w.alloc (.cells #[.string ⟨#[]⟩, .slice none 0 0] 41)) := (Below.refl _ w).alloc (Nat.le_refl _) _
  replace x0 := some_up x0 hal0
  replace x1 := some_up x1 hal0
  replace x2 := some_up x2 hal0
  clear hal0
  have HW := Lib.hid hw
  have HS := Lib.hid (rc_start w x)
  obtain ⟨n, hn⟩ : ∃ n, n = t.length + 1 := ⟨_, rfl⟩
  rw [← hn] at hlen ⊢
  have HN := Lib.hid hn
  have n1 : (1 : Int) ≤ (n : Int) := by omega
  have n0 : (0 : Int) < (n : Int) := by omega
  have n2 : 0 < n := by omega
  have n3 : (n : Int) ≤ 4194304 := by omega
  have hco := fun W => rconstant_c x.1.x W
  have hE : Hid (callE ((x :: t).map Prod.fst) false = .ok ⟨[], [a]⟩) := by
    show callE (x.1 :: t.map Prod.fst) false = _
    unfold callE
    dsimp only
    rw [if_pos hfn, if_neg (by simp), hm]
    dsimp only
    rw [if_pos (by simpa using ht)]
  have n4 : n = 1 := by rw [hn, ht]; rfl
  subst n4
  have harg := rarg_c x (hg x (by simp)) (rcW w x)
  replace harg : Calls Tryz.prog 63 #[.agg #[.int .i64 (x.1.k : Int), .string (S x.1.x), .int .i64 (x.2 : Int)]] (rcW w x) fun e w' => Below (rcW w x).heap.size (rcW w x) w' ∧ ∃ p c, e = .returned (.tuple #[arV a (.slice p a.p.length c), .int .i64 0]) ∧ PathR (rcW w x).heap.size w' (.slice p a.p.length c) a.p := harg.mono fun e w' h => by
    obtain ⟨hb, (⟨a', p, c, ha, he, hP⟩ | ⟨n', a', hn', h0, he⟩)⟩ := h
    · rw [hm] at ha
      injection ha with ha
      subst ha
      exact ⟨hb, p, c, he, hP⟩
    · rw [hm] at hn'; cases hn'
  clear hw hn hm hg ht HN
  by_cases hk1 : x.1.k = 1
  · have hcb : constB x.1.x = true := by
      rcases hfn with h | h
      · exact absurd hk1 h
      · exact h
    rw [hcb] at hco
    have b0 : ((x.1.k : Int) == 1) = true := by rw [beq_iff_eq]; omega
    have b1 : ((x.1.k : Int) != 1) = false := by rw [bne, b0]; rfl
    clear hcb hfn hk1
    go_enter Tryz.func40, Tryz.ntmps40
    go_wp2_with (go_at_call 62; refine (hco _).mono ?_; rintro e w9 ⟨rfl, rfl⟩)
    refine harg.mono ?_
    clear harg
    rintro e w4 ⟨hb4, pp, pc, rfl, hP⟩
    have h4 := HS.out.up hb4
    have hal4 : Below w4.heap.size w4 (w4.alloc (.cells #[.int .i64 a.k, .string (S a.n), .slice pp a.p.length pc, .int .i64 a.i, .string (S a.x)] 44)) := (Below.refl _ w4).alloc (Nat.le_refl _) _
    have h5 := h4.up hal4
    obtain ⟨k0, k1, k2, a0, a1, z0, z1⟩ := h5.cells
    have H5 := Lib.hid h5
    have HB := Lib.hid (And.intro hb4 hal4)
    have hs4 : (w4.alloc (.cells #[.int .i64 a.k, .string (S a.n), .slice pp a.p.length pc, .int .i64 a.i, .string (S a.x)] 44)).heap.size = w4.heap.size + 1 := Array.size_push _
    have hr : (rcW w x).heap.size = w.heap.size + 2 := by simp
    have hrow := ArgR.one (D := w.heap.size + 1) (w := w4.alloc (.cells #[.int .i64 a.k, .string (S a.n), .slice pp a.p.length pc, .int .i64 a.i, .string (S a.x)] 44)) (vp := .slice pp a.p.length pc) (a := a) (by have := h4.lt; omega) ((hP.less (by omega)).same (kept_of hal4))
    have hal5 : Below (w4.alloc (.cells #[.int .i64 a.k, .string (S a.n), .slice pp a.p.length pc, .int .i64 a.i, .string (S a.x)] 44)).heap.size (w4.alloc (.cells #[.int .i64 a.k, .string (S a.n), .slice pp a.p.length pc, .int .i64 a.i, .string (S a.x)] 44)) ((w4.alloc (.cells #[.int .i64 a.k, .string (S a.n), .slice pp a.p.length pc, .int .i64 a.i, .string (S a.x)] 44)).alloc (.cells #[.int .i64 a.k, .string (S a.n), .slice pp a.p.length pc, .int .i64 a.i, .string (S a.x)] 44)) := (Below.refl _ _).alloc (Nat.le_refl _) _
    have h6 := h5.up hal5
    obtain ⟨_, _, _, a0', a1', z0', z1'⟩ := h6.cells
    rw [hs4] at hrow
    have H6 := Lib.hid (And.intro h6 hrow)
    clear h4 h5 h6 hal4 hal5 hb4 hP hs4 hr hrow
    go_wp2_with fail
    obtain ⟨g0, g1⟩ := two_set H6.out.1.box (.string ⟨#[]⟩) (.slice (some ⟨w4.heap.size + 1, 0, none⟩) 1 1)
    refine bodyPost_ret (v := .tuple #[caV ⟨[], [a]⟩ (.slice (some ⟨w4.heap.size + 1, 0, none⟩) 1 1), .int .i64 0, .int .i64 0]) (by simp [results, Tryz.results40, go_sem, g0, g1]) rfl ?_
    exact ⟨two_below H6.out.1.below (Nat.le_refl _) _ _, .inl ⟨_, _, _, hE.out, rfl, (H6.out.2.same (two_kept (by omega) _ _)).less (by omega)⟩⟩
  · have b0 : ((x.1.k : Int) == 1) = false := by rw [beq_eq_false_iff_ne]; omega
    have b1 : ((x.1.k : Int) != 1) = true := by rw [bne, b0]; rfl
    have b2 : ¬ (x.1.k : Int) = 1 := by omega
    clear hfn hco
    go_enter Tryz.func40, Tryz.ntmps40
    go_wp2_with fail
    refine harg.mono ?_
    clear harg
    rintro e w4 ⟨hb4, pp, pc, rfl, hP⟩
    have h4 := HS.out.up hb4
    have hal4 : Below w4.heap.size w4 (w4.alloc (.cells #[.int .i64 a.k, .string (S a.n), .slice pp a.p.length pc, .int .i64 a.i, .string (S a.x)] 44)) := (Below.refl _ w4).alloc (Nat.le_refl _) _
    have h5 := h4.up hal4
    obtain ⟨k0, k1, k2, a0, a1, z0, z1⟩ := h5.cells
    have H5 := Lib.hid h5
    have HB := Lib.hid (And.intro hb4 hal4)
    have hs4 : (w4.alloc (.cells #[.int .i64 a.k, .string (S a.n), .slice pp a.p.length pc, .int .i64 a.i, .string (S a.x)] 44)).heap.size = w4.heap.size + 1 := Array.size_push _
    have hr : (rcW w x).heap.size = w.heap.size + 2 := by simp
    have hrow := ArgR.one (D := w.heap.size + 1) (w := w4.alloc (.cells #[.int .i64 a.k, .string (S a.n), .slice pp a.p.length pc, .int .i64 a.i, .string (S a.x)] 44)) (vp := .slice pp a.p.length pc) (a := a) (by have := h4.lt; omega) ((hP.less (by omega)).same (kept_of hal4))
    have hal5 : Below (w4.alloc (.cells #[.int .i64 a.k, .string (S a.n), .slice pp a.p.length pc, .int .i64 a.i, .string (S a.x)] 44)).heap.size (w4.alloc (.cells #[.int .i64 a.k, .string (S a.n), .slice pp a.p.length pc, .int .i64 a.i, .string (S a.x)] 44)) ((w4.alloc (.cells #[.int .i64 a.k, .string (S a.n), .slice pp a.p.length pc, .int .i64 a.i, .string (S a.x)] 44)).alloc (.cells #[.int .i64 a.k, .string (S a.n), .slice pp a.p.length pc, .int .i64 a.i, .string (S a.x)] 44)) := (Below.refl _ _).alloc (Nat.le_refl _) _
    have h6 := h5.up hal5
    obtain ⟨_, _, _, a0', a1', z0', z1'⟩ := h6.cells
    rw [hs4] at hrow
    have H6 := Lib.hid (And.intro h6 hrow)
    clear h4 h5 h6 hal4 hal5 hb4 hP hs4 hr hrow
    go_wp2_with fail
    obtain ⟨g0, g1⟩ := two_set H6.out.1.box (.string ⟨#[]⟩) (.slice (some ⟨w4.heap.size + 1, 0, none⟩) 1 1)
    refine bodyPost_ret (v := .tuple #[caV ⟨[], [a]⟩ (.slice (some ⟨w4.heap.size + 1, 0, none⟩) 1 1), .int .i64 0, .int .i64 0]) (by simp [results, Tryz.results40, go_sem, g0, g1]) rfl ?_
    exact ⟨two_below H6.out.1.below (Nat.le_refl _) _ _, .inl ⟨_, _, _, hE.out, rfl, (H6.out.2.same (two_kept (by omega) _ _)).less (by omega)⟩⟩
set_option maxHeartbeats 2000000 in
set_option maxRecDepth 100000 in
theorem rcall_nofun {b o c : Nat} {x : Wd × Nat} {t : List (Wd × Nat)} {ah : Bool} (hfn : ¬ (x.1.k ≠ 1 ∨ constB x.1.x = true)) (hm : arityL x.1.x = none) (hlen : t.length + 1 ≤ 4194304) (w : World) (hw : WdAt w b o (x :: t)) :
    Calls Tryz.prog 40 #[wsV b o (t.length + 1) c, .bool ah] w (RCallTo ((x :: t).map Prod.fst) ah w) := by
  obtain ⟨x0, x1, x2⟩ := hw 0 (by simp)
  rw [Nat.zero_mul, Nat.add_zero] at x0 x1 x2
  replace x0 : w.cell? ⟨b, o, none⟩ = some (.int .i64 (x.1.k : Int)) := x0
  replace x1 : w.cell? ⟨b, o + 1, none⟩ = some (.string (S x.1.x)) := x1
  replace x2 : w.cell? ⟨b, o + 2, none⟩ = some (.int .i64 (x.2 : Int)) := x2
  have hal0 : Below w.heap.size w (w.alloc (.cells #[.string ⟨#[]⟩, .slice none 0 0] 41)) := (Below.refl _ w).alloc (Nat.le_refl _) _
  replace x0 := some_up x0 hal0
  replace x1 := some_up x1 hal0
  replace x2 := some_up x2 hal0
  clear hal0
  have HW := Lib.hid hw
  have HS := Lib.hid (rc_start w x)
  obtain ⟨n, hn⟩ : ∃ n, n = t.length + 1 := ⟨_, rfl⟩
  rw [← hn] at hlen ⊢
  have HN := Lib.hid hn
  have n1 : (1 : Int) ≤ (n : Int) := by omega
  have n0 : (0 : Int) < (n : Int) := by omega
  have n2 : 0 < n := by omega
  have n3 : (n : Int) ≤ 4194304 := by omega
  have hco := fun W => rconstant_c x.1.x W
  have hk1 : x.1.k = 1 := by
    by_cases h : x.1.k = 1
    · exact h
    · exact absurd (.inl h) hfn
  have hcb : constB x.1.x = false := by
    cases h : constB x.1.x with
    | false => rfl
    | true => exact absurd (.inr h) hfn
  rw [hcb] at hco
  have b0 : ((x.1.k : Int) == 1) = true := by rw [beq_iff_eq]; omega
  have b1 : ((x.1.k : Int) != 1) = false := by rw [bne, b0]; rfl
  have har := fun W => rarity_c x.1.x W
  have hE : Hid (callE ((x :: t).map Prod.fst) ah = .error 31) := by
    show callE (x.1 :: t.map Prod.fst) ah = _
    unfold callE
    dsimp only
    rw [if_neg hfn, hm]
  have hae : arityE x.1.x = .tuple #[.int .i64 0, .int .i64 0, .bool false] := by unfold arityE; rw [hm]
  rw [hae] at har
  clear hw hn hm hfn hcb hk1 hae
  go_enter Tryz.func40, Tryz.ntmps40
  go_wp2_with (first
    | (go_at_call 62; refine (hco _).mono ?_; rintro e w9 ⟨rfl, rfl⟩)
    | (go_at_call 24; refine (har _).mono ?_; rintro e w9 ⟨rfl, rfl⟩))
  go_region
  all_goals go_wp2_with fail
  all_goals (refine bodyPost_ret (v := .tuple #[caV ⟨[], []⟩ (.slice none 0 0), .int .i64 (x.2 : Int), .int .i64 31]) (by simp [results, Tryz.results40, go_sem]) rfl ?_; exact ⟨HS.out.below.drew, .inr ⟨31, _, hE.out, by decide, rfl⟩⟩)
end Go.Proofs.YtmccbcficbbidaaGreatDoor.Pw
