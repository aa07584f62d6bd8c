/-
  Part 14: PwArg, PwArg2, PwCut.
-/
import Derived.Test.YtmccbcficbbidaaGreatDoorPwAllP13
import Derived.Test.YtmccbcficbbidaaGreatDoorPwAllP9
/-
  Contracts of package pipes: variable, argument.
-/
namespace Go.Proofs.YtmccbcficbbidaaGreatDoor.Pw
open Go.RowKit Go.Proofs.YtmccbcficbbidaaGreatDoor.Oct Go.Proofs.YtmccbcficbbidaaGreatDoor.Lex Go.Proofs.YtmccbcficbbidaaGreatDoor.Lxw Go.Proofs.YtmccbcficbbidaaGreatDoor.Pip
open Go.Proofs.YtmccbcficbbidaaGreatDoor.Num (parseL)

/-! ### An argument's box -/
structure Five (w : World) (R : Nat) (a0 a1 a2 a3 a4 : Value) : Prop where
  c0 : w.cell? ⟨R, 0, none⟩ = some a0
  c1 : w.cell? ⟨R, 1, none⟩ = some a1
  c2 : w.cell? ⟨R, 2, none⟩ = some a2
  c3 : w.cell? ⟨R, 3, none⟩ = some a3
  c4 : w.cell? ⟨R, 4, none⟩ = some a4
  z0 : w.frozen? ⟨R, 0, none⟩ = false
  z1 : w.frozen? ⟨R, 1, none⟩ = false
  z2 : w.frozen? ⟨R, 2, none⟩ = false
  z3 : w.frozen? ⟨R, 3, none⟩ = false
  z4 : w.frozen? ⟨R, 4, none⟩ = false
theorem five_of {w : World} {R : Nat} {a0 a1 a2 a3 a4 : Value} {T : TypeId} (h : w.heap[R]? = some (.cells #[a0, a1, a2, a3, a4] T (0, 0))) : Five w R a0 a1 a2 a3 a4 :=
  ⟨(cell_of_row w R 0 _ _ _ h).trans rfl, (cell_of_row w R 1 _ _ _ h).trans rfl, (cell_of_row w R 2 _ _ _ h).trans rfl, (cell_of_row w R 3 _ _ _ h).trans rfl, (cell_of_row w R 4 _ _ _ h).trans rfl,
    frozen_of_row w R 0 _ _ h, frozen_of_row w R 1 _ _ h, frozen_of_row w R 2 _ _ h, frozen_of_row w R 3 _ _ h, frozen_of_row w R 4 _ _ h⟩
/-- The box with five cells written. -/
abbrev setFive (w : World) (R : Nat) (b0 b1 b2 b3 b4 : Value) : World :=
  ((((w.setCell ⟨R, 0, none⟩ b0).setCell ⟨R, 1, none⟩ b1).setCell ⟨R, 2, none⟩ b2).setCell ⟨R, 3, none⟩ b3).setCell ⟨R, 4, none⟩ b4
theorem five_set {w : World} {R : Nat} {a0 a1 a2 a3 a4 : Value} {T : TypeId} (h : w.heap[R]? = some (.cells #[a0, a1, a2, a3, a4] T (0, 0))) (b0 b1 b2 b3 b4 : Value) : Five (setFive w R b0 b1 b2 b3 b4) R b0 b1 b2 b3 b4 :=
  five_of (heap_setCell_same _ R 4 _ _ b4 (heap_setCell_same _ R 3 _ _ b3 (heap_setCell_same _ R 2 _ _ b2 (heap_setCell_same _ R 1 _ _ b1 (heap_setCell_same w R 0 _ _ b0 h)))))
theorem five_below {w0 w : World} {n R : Nat} (h : Below n w0 w) (hR : n ≤ R) (b0 b1 b2 b3 b4 : Value) : Below n w0 (setFive w R b0 b1 b2 b3 b4) :=
  ((((h.setCell (p := ⟨R, 0, none⟩) hR b0).setCell (p := ⟨R, 1, none⟩) hR b1).setCell (p := ⟨R, 2, none⟩) hR b2).setCell (p := ⟨R, 3, none⟩) hR b3).setCell (p := ⟨R, 4, none⟩) hR b4
theorem five_kept {w : World} {base R : Nat} (hR : R < base) (b0 b1 b2 b3 b4 : Value) : Kept base w (setFive w R b0 b1 b2 b3 b4) := fun k hk _ => by
  have hne : ¬ k = R := by omega
  rw [heap_setCell_other _ _ _ _ (by simpa using hne), heap_setCell_other _ _ _ _ (by simpa using hne), heap_setCell_other _ _ _ _ (by simpa using hne), heap_setCell_other _ _ _ _ (by simpa using hne), heap_setCell_other _ _ _ _ (by simpa using hne)]
theorem one_box {w W : World} {a : Obj} (hb : Below (w.alloc a).heap.size (w.alloc a) W) : Below w.heap.size w W ∧ W.heap[w.heap.size]? = some a ∧ w.heap.size < W.heap.size := by
  have h1 : (w.alloc a).heap.size = w.heap.size + 1 := Array.size_push _
  have k1 : Below w.heap.size w (w.alloc a) := (Below.refl _ w).alloc (Nat.le_refl _) _
  refine ⟨k1.trans (hb.mono (by omega)), ?_, by have := hb.size; omega⟩
  rw [hb.block w.heap.size (by omega)]
  exact heap_alloc_new w a
theorem two_boxes {w W : World} {a b : Obj} (hb : Below ((w.alloc a).alloc b).heap.size ((w.alloc a).alloc b) W) : Below w.heap.size w W ∧ W.heap[w.heap.size + 1]? = some b ∧ w.heap.size + 1 < W.heap.size := by
  have h1 : (w.alloc a).heap.size = w.heap.size + 1 := Array.size_push _
  obtain ⟨k1, k2, k3⟩ := one_box hb
  rw [h1] at k2 k3
  exact ⟨((Below.refl _ w).alloc (Nat.le_refl _) a).trans (k1.mono (by omega)), k2, k3⟩

/-! ### variable -/
theorem mayName_c (n : List UInt8) (w : World) : Calls Tryz.prog 43 #[.string (S n)] w fun e w' => e = .returned (.bool (decide (n = []) || nameB n)) ∧ Below w.heap.size w w' := by
  have hq := eqN n
  have hnm := name_c (S n) w
  rw [list_S] at hnm
  by_cases h : n = []
  · have hE : Hid ((decide (n = []) || nameB n) = true) := by show _ = _; rw [decide_eq_true h]; rfl
    rw [decide_eq_true h] at hq
    clear h
    generalize (decide (n = []) || nameB n) = ans at *
    generalize S n = L at *
    go_enter Tryz.func43, Tryz.ntmps43
    go_wp2_with fail
    go_ret
    exact ⟨by rw [hE.out]; rfl, Below.refl _ _⟩
  · have hE : Hid ((decide (n = []) || nameB n) = nameB n) := by show _ = _; rw [decide_eq_false h]; rfl
    rw [decide_eq_false h] at hq
    clear h
    generalize (decide (n = []) || nameB n) = ans at *
    generalize nameB n = b at *
    generalize S n = L at *
    go_enter Tryz.func43, Tryz.ntmps43
    go_wp2_with fail
    refine hnm.mono ?_
    rintro e w1 ⟨rfl, hb1⟩
    have HB := Lib.hid hb1
    clear hb1 hnm
    go_wp2_with fail
    go_ret
    exact ⟨by rw [hE.out]; rfl, HB.out⟩
/-- What variable answers. -/
def VarTo (n : List UInt8) (ns : List (List UInt8)) (w : World) (e : Ending) (w' : World) : Prop := Below w.heap.size w w' ∧
  ((ns.length ≤ 16 ∧ ∃ p c, e = .returned (arV ⟨2, n, ns, 0, []⟩ (.slice p ns.length c)) ∧ PathR w.heap.size w' (.slice p ns.length c) ns) ∨ (16 < ns.length ∧ e = Fault 42))
set_option maxHeartbeats 1000000 in
set_option maxRecDepth 100000 in
theorem variable_c (n : List UInt8) (hn : n = [] ∨ nameB n = true) (ns : List (List UInt8)) (hns : ∀ n ∈ ns, nameB n = true) (hl : (n ++ pathL ns).length ≤ 4194304) (w : World) (hM : MaxAt w) :
    Calls Tryz.prog 116 #[.string (S (36 :: (n ++ pathL ns)))] w (VarTo n ns w) := by
  have hnd : ∀ c ∈ n, c ≠ 46 := by
    rcases hn with rfl | h
    · exact fun c hc => nomatch hc
    · exact (name_of h).2.2.2
  have hpre : ∀ W, Calls Tryz.prog 121 #[.string (S (36 :: (n ++ pathL ns))), .string ⟨#[36]⟩] W fun e w' => e = .returned (.tuple #[.string (S (n ++ pathL ns)), .bool true]) ∧ w' = W := fun W => by
    have h := Tryz.strings_CutPrefix (S (36 :: (n ++ pathL ns))) (S [36]) W
    rw [list_S, list_S] at h
    have e1 : Lib.trimPrefix (36 :: (n ++ pathL ns)) [36] = n ++ pathL ns := by
      unfold Lib.trimPrefix
      simp [List.isPrefixOf, Lib.hasPrefix]
    have e2 : Lib.hasPrefix (36 :: (n ++ pathL ns)) [36] = true := by simp [List.isPrefixOf, Lib.hasPrefix]
    rw [e1, e2] at h
    exact h
  have HCut := Lib.hid (fun W (h : MaxAt W) => show Calls Tryz.prog 128 #[.string (S (n ++ pathL ns)), .string ⟨#[46]⟩] W fun e w' => (∃ x b, e = .returned (.tuple #[.string (S n), .string x, .bool b])) ∧ Below W.heap.size W w' by
    obtain ⟨m, hm⟩ := h
    have h := Tryz.strings_Cut (S (n ++ pathL ns)) (S [46]) m W (by rw [size_S]; omega) hm
    rw [list_S, list_S, cut_first n ns hnd] at h
    exact h.mono fun e w' ⟨h1, _, h2⟩ => ⟨⟨_, _, h1⟩, grown_q h2⟩)
  have HMay := Lib.hid (fun W => show Calls Tryz.prog 43 #[.string (S n)] W fun e w' => e = .returned (.bool true) ∧ Below W.heap.size W w' by
    have h := mayName_c n W
    have e : (decide (n = []) || nameB n) = true := by
      rcases hn with h | h
      · rw [decide_eq_true h]; rfl
      · rw [h, Bool.or_true]
    rw [e] at h
    exact h)
  have hcut2 : (S (n ++ pathL ns)).extract n.length (n ++ pathL ns).length = S (pathL ns) := by rw [cutFrom, List.drop_left]
  have HFi := Lib.hid (fun W (h : MaxAt W) => fields_c ns hns (by rw [List.length_append] at hl; omega) W h)
  have HCl := Lib.hid (fun W => clone_c (S n) W (by rw [size_S]; rw [List.length_append] at hl; omega))
  have HM : Hid (∀ W, Below w.heap.size w W → MaxAt W) := fun W hW => hM.kept hW
  have z1 : ((S (n ++ pathL ns)).size : Int) = ((n ++ pathL ns).length : Int) := by rw [size_S]
  have z2 : (S (n ++ pathL ns)).size = (n ++ pathL ns).length := size_S _
  have z3 : ((S n).size : Int) = (n.length : Int) := by rw [size_S]
  have z4 : (S n).size = n.length := size_S n
  obtain ⟨A, hA⟩ : ∃ A, A = (n ++ pathL ns).length := ⟨_, rfl⟩
  have q1 : n.length ≤ A := by rw [hA, List.length_append]; omega
  have q2 : (n.length : Int) ≤ (A : Int) := by omega
  rw [← hA] at hcut2 z1 z2 hl
  have hA2 : (A : Int) ≤ 4194304 := by omega
  clear hnd hn hns hA
  generalize S (36 :: (n ++ pathL ns)) = P at *
  generalize S (n ++ pathL ns) = Q at *
  generalize S (pathL ns) = F at *
  have hal : Below w.heap.size w (w.alloc (.cells #[.int .i64 0, .string ⟨#[]⟩, .slice none 0 0, .int .i64 0, .string ⟨#[]⟩] 44)) := (Below.refl _ w).alloc (Nat.le_refl _) _
  have HAl := Lib.hid hal
  clear hal hM
  go_enter Tryz.func116, Tryz.ntmps116
  go_wp2_with (first
    | (go_at_call 121; refine (hpre _).mono ?_; rintro e w1 ⟨rfl, rfl⟩)
    | (go_at_call 57; refine (demand_yes _ _).mono ?_; rintro e w1 ⟨rfl, rfl⟩))
  refine (HCut.out _ (HM.out _ HAl.out)).mono ?_
  rintro e w2 ⟨⟨x, b, rfl⟩, hb2⟩
  have H2 := Lib.hid hb2
  clear hb2
  go_wp2_with fail
  refine (HMay.out _).mono ?_
  rintro e w3 ⟨rfl, hb3⟩
  have H3 := Lib.hid (H2.out.trans (hb3.mono H2.out.size))
  clear hb3 H2
  go_wp2_with (go_at_call 57; refine (demand_yes _ _).mono ?_; rintro e w4 ⟨rfl, rfl⟩)
  refine (HFi.out _ (HM.out _ (HAl.out.trans (H3.out.mono HAl.out.size)))).mono ?_
  rintro e w4 ⟨hb4, (⟨h16, v, rfl, hP⟩ | ⟨h16, rfl⟩)⟩
  · obtain ⟨vp, vc, rfl⟩ := own_shape hP
    have H4 := Lib.hid (And.intro (H3.out.trans (hb4.mono H3.out.size)) (And.intro h16 hP))
    have HS3 := Lib.hid H3.out.size
    clear hb4 h16 hP H3
    go_wp2_with fail
    refine (HCl.out _).mono ?_
    rintro e w5 ⟨rfl, hb5⟩
    obtain ⟨k1, k2, k3⟩ := one_box (H4.out.1.trans (hb5.mono H4.out.1.size))
    have hs : (w.alloc (.cells #[.int .i64 0, .string ⟨#[]⟩, .slice none 0 0, .int .i64 0, .string ⟨#[]⟩] 44)).heap.size = w.heap.size + 1 := Array.size_push _
    have hlt : w.heap.size < w3.heap.size := by have := HS3.out; omega
    have H5 := Lib.hid (And.intro k1 (And.intro k2 (And.intro H4.out.2.1 (And.intro (H4.out.2.2.same (kept_of hb5)) hlt))))
    obtain ⟨c0, c1, c2, c3, c4, y0, y1, y2, y3, y4⟩ := five_of k2
    clear hb5 k1 k2 k3 H4 hs hlt HS3
    go_wp2_with fail
    obtain ⟨g0, g1, g2, g3, g4, _, _, _, _, _⟩ := five_set H5.out.2.1 (.int .i64 2) (.string (S n)) (.slice vp ns.length vc) (.int .i64 0) (.string ⟨#[]⟩)
    refine bodyPost_ret (v := arV ⟨2, n, ns, 0, []⟩ (.slice vp ns.length vc)) (by simp [results, Tryz.results116, go_sem, g0, g1, g2, g3, g4]) rfl ?_
    exact ⟨five_below H5.out.1 (Nat.le_refl _) _ _ _ _ _, .inl ⟨H5.out.2.2.1, vp, vc, rfl, (H5.out.2.2.2.1.same (five_kept H5.out.2.2.2.2 _ _ _ _ _)).less (Nat.le_of_lt H5.out.2.2.2.2)⟩⟩
  · obtain ⟨k1, _, _⟩ := one_box (H3.out.trans (hb4.mono H3.out.size))
    exact ⟨rfl, k1, .inr ⟨h16, rfl⟩⟩
end Go.Proofs.YtmccbcficbbidaaGreatDoor.Pw

/-
  Contract of package pipes: argument.
-/
namespace Go.Proofs.YtmccbcficbbidaaGreatDoor.Pw
open Go.RowKit Go.Proofs.YtmccbcficbbidaaGreatDoor.Oct Go.Proofs.YtmccbcficbbidaaGreatDoor.Lex Go.Proofs.YtmccbcficbbidaaGreatDoor.Lxw Go.Proofs.YtmccbcficbbidaaGreatDoor.Pip
open Go.Proofs.YtmccbcficbbidaaGreatDoor.Num (parseL)

/-- What argument answers. -/
def ArgTo (x : Wd) (w : World) (e : Ending) (w' : World) : Prop := Below w.heap.size w w' ∧
  ((∃ a p c, argE x = .ok a ∧ e = .returned (arV a (.slice p a.p.length c)) ∧ PathR w.heap.size w' (.slice p a.p.length c) a.p) ∨ (∃ n : Nat, argE x = .error n ∧ n ≠ 0 ∧ e = Fault (n : Int)))
abbrev argW (w : World) (k0 : Int) (t : ByteArray) (pl : Int) (k i : Int) (n : ByteArray) : World :=
  (w.alloc (.cells #[.int .i64 k0, .string t, .int .i64 pl] 99)).alloc (.cells #[.int .i64 k, .string n, .slice none 0 0, .int .i64 i, .string ⟨#[]⟩] 44)
theorem argW_below (w : World) (k0 : Int) (t : ByteArray) (pl : Int) (k i : Int) (n : ByteArray) : Below w.heap.size w (argW w k0 t pl k i n) := ((Below.refl _ w).alloc (Nat.le_refl _) _).alloc (by simp) _
set_option maxHeartbeats 1000000 in
set_option maxRecDepth 100000 in
theorem arg_name_yes (t : List UInt8) (pl : Int) (h : constB t = true) (w : World) :
    Calls Tryz.prog 88 #[.agg #[.int .i64 1, .string (S t), .int .i64 pl]] w (ArgTo ⟨1, t⟩ w) := by
  have hB0 := Lib.hid (argW_below w 1 (S t) pl 0 0 ⟨#[]⟩)
  have hco := fun W => constant_c t W
  have hk : ¬ constK t = 0 := fun e => by rw [(const_zero t).1 e] at h; cases h
  have hE : Hid (argE ⟨1, t⟩ = .ok ⟨constK t, [], [], 0, []⟩) := by
    show _ = _
    unfold argE argL constK
    unfold constB at h
    rw [decide_eq_true_eq] at h
    rcases h with rfl | rfl | rfl <;> rfl
  have bk : (constK t == 0) = false := by rw [beq_eq_false_iff_ne]; exact hk
  have bn : (constK t != 0) = true := by rw [bne, bk]; rfl
  have hB1 : Hid (∀ k n : Int, Below w.heap.size w ((w.alloc (.cells #[.int .i64 1, .string (S t), .int .i64 n] 99)).alloc (.cells #[.int .i64 k, .string ⟨#[]⟩, .slice none 0 0, .int .i64 0, .string ⟨#[]⟩] 44))) := fun k n => ((Below.refl _ w).alloc (Nat.le_refl _) _).alloc (by simp) _
  generalize constK t = kk at *
  clear h hB0
  generalize S t = T at *
  go_enter Tryz.func88, Tryz.ntmps88
  go_wp2_with (first
    | (go_at_call 114; refine (hco _).mono ?_; rintro e w1 ⟨rfl, rfl⟩)
    | (go_at_call 57; refine (demand_yes _ _).mono ?_; rintro e w1 ⟨rfl, rfl⟩))
  refine bodyPost_ret (v := arV ⟨kk, [], [], 0, []⟩ (.slice none 0 0)) (by simp [results, Tryz.results88, go_sem]) rfl ?_
  exact ⟨hB1.out _ _, .inl ⟨_, none, 0, hE.out, rfl, PathR.nil _ _⟩⟩
set_option maxHeartbeats 1000000 in
set_option maxRecDepth 100000 in
theorem arg_name_no (t : List UInt8) (pl : Int) (h : constB t = false) (w : World) :
    Calls Tryz.prog 88 #[.agg #[.int .i64 1, .string (S t), .int .i64 pl]] w (ArgTo ⟨1, t⟩ w) := by
  have hB0 := Lib.hid (argW_below w 1 (S t) pl 0 0 ⟨#[]⟩)
  have hco := fun W => constant_c t W
  rw [(const_zero t).2 h] at hco
  have hE : Hid (argE ⟨1, t⟩ = .error 33) := by
    show _ = _
    have hc : argL ⟨1, t⟩ = none := by
      unfold argL
      unfold constB at h
      rw [decide_eq_false_iff_not] at h
      rw [if_pos rfl, if_neg (fun e => h (.inl e)), if_neg (fun e => h (.inr (.inl e))), if_neg (fun e => h (.inr (.inr e)))]
    unfold argE
    rw [hc]
    rfl
  clear h
  generalize S t = T at *
  go_enter Tryz.func88, Tryz.ntmps88
  go_wp2_with (first
    | (go_at_call 114; refine (hco _).mono ?_; rintro e w1 ⟨rfl, rfl⟩)
    | (go_at_call 57; refine (demand_no _ _).mono ?_; rintro e w1 ⟨rfl, rfl⟩))
  exact ⟨rfl, hB0.out, .inr ⟨33, hE.out, by decide, rfl⟩⟩
set_option maxHeartbeats 1000000 in
set_option maxRecDepth 100000 in
theorem arg_dot (t : List UInt8) (pl : Int) (h : t = [46]) (w : World) :
    Calls Tryz.prog 88 #[.agg #[.int .i64 2, .string (S t), .int .i64 pl]] w (ArgTo ⟨2, t⟩ w) := by
  have hB0 := Lib.hid (argW_below w 2 (S t) pl 0 0 ⟨#[]⟩)
  have hE : Hid (argE ⟨2, t⟩ = .ok ⟨1, [], [], 0, []⟩) := by subst h; rfl
  have hq := eqK t [46]
  rw [decide_eq_true h] at hq
  have hB1 := Lib.hid (argW_below w 2 (S t) pl 1 0 ⟨#[]⟩)
  clear h hB0
  generalize S t = T at *
  go_enter Tryz.func88, Tryz.ntmps88
  go_wp2_with fail
  refine bodyPost_ret (v := arV ⟨1, [], [], 0, []⟩ (.slice none 0 0)) (by simp [results, Tryz.results88, go_sem]) rfl ?_
  exact ⟨hB1.out, .inl ⟨_, none, 0, hE.out, rfl, PathR.nil _ _⟩⟩
set_option maxHeartbeats 1000000 in
set_option maxRecDepth 100000 in
theorem arg_path (t : List UInt8) (pl : Int) (ns : List (List UInt8)) (h0 : ns ≠ []) (hns : ∀ n ∈ ns, nameB n = true) (h : t = pathL ns) (hl : t.length ≤ 4194304) (w : World) (hM : MaxAt w) :
    Calls Tryz.prog 88 #[.agg #[.int .i64 2, .string (S t), .int .i64 pl]] w (ArgTo ⟨2, t⟩ w) := by
  have hB0 := Lib.hid (argW_below w 2 (S t) pl 0 0 ⟨#[]⟩)
  have hns2 : ∀ n ∈ ns, n ≠ [] ∧ ∀ c ∈ n, c ≠ 46 := fun n hn => (name_of (hns n hn)).2.2
  have hE : Hid (argE ⟨2, t⟩ = if 16 < ns.length then .error 42 else .ok ⟨1, [], ns, 0, []⟩) := by
    show _ = _
    unfold argE argL
    rw [if_neg (by simp), if_pos rfl, h, path_names ns hns2]
    by_cases h16 : 16 < ns.length
    · rw [if_pos h16, if_pos h16]; rfl
    · rw [if_neg h16, if_neg h16]
  have hne : t ≠ [] := fun e => by
    rw [h] at e
    cases ns with
    | nil => exact h0 rfl
    | cons n ns => rw [path_cons] at e; cases e
  have hnd : t ≠ [46] := fun e => by
    rw [h] at e
    cases ns with
    | nil => exact h0 rfl
    | cons n ns =>
      rw [path_cons] at e
      injection e with _ e
      have := (hns2 n (by simp)).1
      exact this (List.append_eq_nil_iff.1 e).1
  have hq := eqK t [46]
  rw [decide_eq_false hnd] at hq
  have hr := eqN t
  rw [decide_eq_false hne] at hr
  have HF := Lib.hid (fun W (hM : MaxAt W) => fields_c ns hns (by rw [← h]; exact hl) W hM)
  rw [← h] at HF
  have HM := Lib.hid (hM.kept hB0.out)
  clear h h0 hns hns2 hne hnd hl hM
  generalize S t = T at *
  go_enter Tryz.func88, Tryz.ntmps88
  go_wp2_with (first
    | (go_at_call 57; refine (demand_yes _ _).mono ?_; rintro e w1 ⟨rfl, rfl⟩))
  refine (HF.out _ HM.out).mono ?_
  rintro e w2 ⟨hb2, (⟨h16, v, rfl, hP⟩ | ⟨h16, rfl⟩)⟩
  · obtain ⟨vp, vc, rfl⟩ := own_shape hP
    have hE2 := Lib.hid (hE.out.trans (if_neg (by omega)))
    clear hE h16
    obtain ⟨k1, k2, k3⟩ := two_boxes hb2
    have H2 := Lib.hid (And.intro k1 (And.intro k2 hP))
    obtain ⟨c0, c1, c2, c3, c4, y0, y1, y2, y3, y4⟩ := five_of k2
    clear hb2 k1 k2 k3 hP
    go_wp2_with fail
    obtain ⟨g0, g1, g2, g3, g4, _, _, _, _, _⟩ := five_set H2.out.2.1 (.int .i64 1) (.string ⟨#[]⟩) (.slice vp ns.length vc) (.int .i64 0) (.string ⟨#[]⟩)
    refine bodyPost_ret (v := arV ⟨1, [], ns, 0, []⟩ (.slice vp ns.length vc)) (by simp [results, Tryz.results88, go_sem, g0, g1, g2, g3, g4]) rfl ?_
    have hsz : (argW w 2 T pl 0 0 ⟨#[]⟩).heap.size = w.heap.size + 2 := by simp
    exact ⟨five_below H2.out.1 (Nat.le_succ _) _ _ _ _ _, .inl ⟨_, vp, vc, hE2.out, rfl, (H2.out.2.2.same (five_kept (by rw [hsz]; omega) _ _ _ _ _)).less (by rw [hsz]; omega)⟩⟩
  · obtain ⟨k1, _, _⟩ := two_boxes hb2
    exact ⟨rfl, k1, .inr ⟨42, hE.out.trans (if_pos h16), by decide, rfl⟩⟩
set_option maxHeartbeats 1000000 in
set_option maxRecDepth 100000 in
theorem arg_var (t : List UInt8) (pl : Int) (n : List UInt8) (ns : List (List UInt8)) (hn : n = [] ∨ nameB n = true) (hns : ∀ n ∈ ns, nameB n = true) (h : t = 36 :: (n ++ pathL ns)) (hl : t.length ≤ 4194304) (w : World) (hM : MaxAt w) :
    Calls Tryz.prog 88 #[.agg #[.int .i64 3, .string (S t), .int .i64 pl]] w (ArgTo ⟨3, t⟩ w) := by
  have hB0 := Lib.hid (argW_below w 3 (S t) pl 0 0 ⟨#[]⟩)
  have hns2 : ∀ n ∈ ns, n ≠ [] ∧ ∀ c ∈ n, c ≠ 46 := fun n hn => (name_of (hns n hn)).2.2
  have hnd : ∀ c ∈ n, c ≠ 46 := by
    rcases hn with rfl | h
    · exact fun c hc => nomatch hc
    · exact (name_of h).2.2.2
  have hE : Hid (argE ⟨3, t⟩ = if 16 < ns.length then .error 42 else .ok ⟨2, n, ns, 0, []⟩) := by
    show _ = _
    obtain ⟨q1, q2⟩ := take_var hnd ns
    unfold argE argL
    rw [if_neg (by simp), if_neg (by simp), if_pos rfl, h]
    show (match (if 16 < (pathN ((n ++ pathL ns).dropWhile notDot)).length then none else some (⟨2, (n ++ pathL ns).takeWhile notDot, pathN ((n ++ pathL ns).dropWhile notDot), 0, []⟩ : Ar)) with
      | some a => Except.ok a
      | none => Except.error 42) = _
    rw [q1, q2, path_names ns hns2]
    by_cases h16 : 16 < ns.length
    · rw [if_pos h16, if_pos h16]
    · rw [if_neg h16, if_neg h16]
  have HV := Lib.hid (fun W (hM : MaxAt W) => variable_c n hn ns hns (by rw [h, List.length_cons] at hl; omega) W hM)
  rw [← h] at HV
  have HM := Lib.hid (hM.kept hB0.out)
  clear h hn hns hns2 hnd hl hM
  generalize S t = T at *
  go_enter Tryz.func88, Tryz.ntmps88
  go_wp2_with fail
  refine (HV.out _ HM.out).mono ?_
  rintro e w2 ⟨hb2, (⟨h16, vp, vc, rfl, hP⟩ | ⟨h16, rfl⟩)⟩
  · have hE2 := Lib.hid (hE.out.trans (if_neg (by omega)))
    clear hE h16
    obtain ⟨k1, k2, k3⟩ := two_boxes hb2
    have H2 := Lib.hid (And.intro k1 (And.intro k2 hP))
    obtain ⟨c0, c1, c2, c3, c4, y0, y1, y2, y3, y4⟩ := five_of k2
    clear hb2 k1 k2 k3 hP
    go_wp2_with fail
    obtain ⟨g0, g1, g2, g3, g4, _, _, _, _, _⟩ := five_set H2.out.2.1 (.int .i64 2) (.string (S n)) (.slice vp ns.length vc) (.int .i64 0) (.string ⟨#[]⟩)
    refine bodyPost_ret (v := arV ⟨2, n, ns, 0, []⟩ (.slice vp ns.length vc)) (by simp [results, Tryz.results88, go_sem, g0, g1, g2, g3, g4]) rfl ?_
    have hsz : (argW w 3 T pl 0 0 ⟨#[]⟩).heap.size = w.heap.size + 2 := by simp
    exact ⟨five_below H2.out.1 (Nat.le_succ _) _ _ _ _ _, .inl ⟨_, vp, vc, hE2.out, rfl, (H2.out.2.2.same (five_kept (by rw [hsz]; omega) _ _ _ _ _)).less (by rw [hsz]; omega)⟩⟩
  · obtain ⟨k1, _, _⟩ := two_boxes hb2
    exact ⟨rfl, k1, .inr ⟨42, hE.out.trans (if_pos h16), by decide, rfl⟩⟩
set_option maxHeartbeats 1000000 in
set_option maxRecDepth 100000 in
theorem arg_num (t : List UInt8) (pl : Int) (h : (parseL t).2 = 0) (hl : t.length ≤ 4194304) (w : World) :
    Calls Tryz.prog 88 #[.agg #[.int .i64 4, .string (S t), .int .i64 pl]] w (ArgTo ⟨4, t⟩ w) := by
  have hB0 := Lib.hid (argW_below w 4 (S t) pl 0 0 ⟨#[]⟩)
  have hpa := fun W => Num.parse_c (S t) W (by rw [size_S]; omega)
  rw [list_S, h] at hpa
  have hE : Hid (argE ⟨4, t⟩ = .ok ⟨3, [], [], (parseL t).1, []⟩) := rfl
  have hB1 := Lib.hid (argW_below w 4 (S t) pl 3 (parseL t).1 ⟨#[]⟩)
  generalize (parseL t).1 = n at *
  clear h hl hB0
  generalize S t = T at *
  go_enter Tryz.func88, Tryz.ntmps88
  go_wp2_with (first
    | (go_at_call 109; refine (hpa _).mono ?_; rintro e w1 ⟨rfl, rfl⟩)
    | (go_at_call 57; refine (demand_yes _ _).mono ?_; rintro e w1 ⟨rfl, rfl⟩))
  refine bodyPost_ret (v := arV ⟨3, [], [], n, []⟩ (.slice none 0 0)) (by simp [results, Tryz.results88, go_sem]) rfl ?_
  exact ⟨hB1.out, .inl ⟨_, none, 0, hE.out, rfl, PathR.nil _ _⟩⟩
set_option maxHeartbeats 1000000 in
set_option maxRecDepth 100000 in
theorem arg_text (t : List UInt8) (pl : Int) (h : t.length ≤ 4096) (w : World) :
    Calls Tryz.prog 88 #[.agg #[.int .i64 5, .string (S t), .int .i64 pl]] w (ArgTo ⟨5, t⟩ w) := by
  have hB0 := Lib.hid (argW_below w 5 (S t) pl 0 0 ⟨#[]⟩)
  have hcl := fun W => clone_c (S t) W (by rw [size_S]; omega)
  have hE : Hid (argE ⟨5, t⟩ = .ok ⟨4, [], [], 0, t⟩) := rfl
  have hT : Hid (arV ⟨4, [], [], 0, t⟩ (.slice none 0 0) = .agg #[.int .i64 4, .string ⟨#[]⟩, .slice none 0 0, .int .i64 0, .string (S t)]) := rfl
  have z1 : ((S t).size : Int) = (t.length : Int) := by rw [size_S]
  have z2 : (S t).size = t.length := size_S t
  have hd : decide ((t.length : Int) ≤ 4096) = true := decide_eq_true (by omega)
  have hd2 : (t.length : Int) ≤ 4096 := by omega
  clear h
  generalize S t = T at *
  go_enter Tryz.func88, Tryz.ntmps88
  go_wp2_with (first
    | (go_at_call 57; refine (demand_yes _ _).mono ?_; rintro e w1 ⟨rfl, rfl⟩))
  refine (hcl _).mono ?_
  rintro e w2 ⟨rfl, hb2⟩
  obtain ⟨k1, k2, k3⟩ := two_boxes hb2
  have H2 := Lib.hid (And.intro k1 k2)
  obtain ⟨c0, c1, c2, c3, c4, y0, y1, y2, y3, y4⟩ := five_of k2
  clear hb2 k1 k2 k3
  go_wp2_with fail
  obtain ⟨g0, g1, g2, g3, g4, _, _, _, _, _⟩ := five_set H2.out.2 (.int .i64 4) (.string ⟨#[]⟩) (.slice none 0 0) (.int .i64 0) (.string T)
  refine bodyPost_ret (v := .agg #[.int .i64 4, .string ⟨#[]⟩, .slice none 0 0, .int .i64 0, .string T]) (by simp [results, Tryz.results88, go_sem, g0, g1, g2, g3, g4]) rfl ?_
  exact ⟨five_below H2.out.1 (Nat.le_succ _) _ _ _ _ _, .inl ⟨_, none, 0, hE.out, by rw [← hT.out]; rfl, PathR.nil _ _⟩⟩
set_option maxHeartbeats 1000000 in
set_option maxRecDepth 100000 in
theorem arg_sign (t : List UInt8) (pl : Int) (w : World) :
    Calls Tryz.prog 88 #[.agg #[.int .i64 6, .string (S t), .int .i64 pl]] w (ArgTo ⟨6, t⟩ w) := by
  have hB0 := Lib.hid (argW_below w 6 (S t) pl 0 0 ⟨#[]⟩)
  have hE : Hid (argE ⟨6, t⟩ = .error 33) := rfl
  generalize S t = T at *
  go_enter Tryz.func88, Tryz.ntmps88
  go_wp2_with (first
    | (go_at_call 57; refine (demand_no _ _).mono ?_; rintro e w1 ⟨rfl, rfl⟩))
  exact ⟨rfl, hB0.out, .inr ⟨33, hE.out, by decide, rfl⟩⟩
theorem argument_c (x : Wd × Nat) (hg : GoodX x.1) (w : World) (hM : MaxAt w) : Calls Tryz.prog 88 #[wdV x] w (ArgTo x.1 w) := by
  obtain ⟨⟨k, t⟩, n⟩ := x
  have hk := hg.kind
  simp only at hk
  rcases (by omega : k = 1 ∨ k = 2 ∨ k = 3 ∨ k = 4 ∨ k = 5 ∨ k = 6) with rfl | rfl | rfl | rfl | rfl | rfl
  · cases h : constB t with
    | true => exact arg_name_yes t n h w
    | false => exact arg_name_no t n h w
  · rcases hg.path rfl with h | ⟨ns, h0, hns, h⟩
    · exact arg_dot t n h w
    · exact arg_path t n ns h0 hns h hg.len w hM
  · obtain ⟨m, ns, hm, hns, h⟩ := hg.var rfl
    exact arg_var t n m ns hm hns h hg.len w hM
  · exact arg_num t n (hg.num rfl) hg.len w
  · exact arg_text t n (hg.text rfl) w
  · exact arg_sign t n w
end Go.Proofs.YtmccbcficbbidaaGreatDoor.Pw

/-
  Contracts of package pipes' reader: functions' names, signs, the next word's place, what ends a call.
-/
namespace Go.Proofs.YtmccbcficbbidaaGreatDoor.Pw
open Go.RowKit Go.Proofs.YtmccbcficbbidaaGreatDoor.Oct Go.Proofs.YtmccbcficbbidaaGreatDoor.Lex Go.Proofs.YtmccbcficbbidaaGreatDoor.Lxw Go.Proofs.YtmccbcficbbidaaGreatDoor.Pip

abbrev wdW (w : World) (x : Wd × Nat) : World := w.alloc (.cells #[.int .i64 (x.1.k : Int), .string (S x.1.x), .int .i64 (x.2 : Int)] 99)
theorem wdW_below (w : World) (x : Wd × Nat) : Below w.heap.size w (wdW w x) := (Below.refl _ w).alloc (Nat.le_refl _) _
theorem wdW_cells (w W : World) (x : Wd × Nat) (hb : Below (wdW w x).heap.size (wdW w x) W) : Below w.heap.size w W ∧ W.cell? ⟨w.heap.size, 0, none⟩ = some (.int .i64 (x.1.k : Int)) ∧ W.cell? ⟨w.heap.size, 1, none⟩ = some (.string (S x.1.x)) ∧ W.cell? ⟨w.heap.size, 2, none⟩ = some (.int .i64 (x.2 : Int)) := by
  obtain ⟨k1, k2, _⟩ := one_box hb
  exact ⟨k1, (cell_of_row W w.heap.size 0 _ _ _ k2).trans rfl, (cell_of_row W w.heap.size 1 _ _ _ k2).trans rfl, (cell_of_row W w.heap.size 2 _ _ _ k2).trans rfl⟩
theorem namesFunction_c (x : Wd × Nat) (w : World) : Calls Tryz.prog 86 #[wdV x] w fun e w' => e = .returned (.bool (decide (x.1.k = 1) && !constB x.1.x)) ∧ Below w.heap.size w w' := by
  obtain ⟨⟨k, t⟩, n⟩ := x
  have hal := Lib.hid (wdW_below w (⟨k, t⟩, n))
  have hco := fun W => constant_c t W
  have hz := const_zero t
  show Calls Tryz.prog 86 #[.agg #[.int .i64 (k : Int), .string (S t), .int .i64 (n : Int)]] w fun e w' => e = .returned (.bool (decide (k = 1) && !constB t)) ∧ Below w.heap.size w w'
  by_cases h1 : k = 1
  · subst h1
    have hE : Hid ((decide ((1 : Nat) = 1) && !constB t) = !constB t) := by show _ = _; simp
    rw [hE.out]
    cases hc : constB t with
    | true =>
      have hk : ¬ constK t = 0 := fun e => by rw [hz.1 e] at hc; cases hc
      have bk : (constK t == 0) = false := by rw [beq_eq_false_iff_ne]; exact hk
      clear hz hc
      generalize constK t = kk at *
      go_enter Tryz.func86, Tryz.ntmps86
      go_wp2_with (go_at_call 114; refine (hco _).mono ?_; rintro e w1 ⟨rfl, rfl⟩)
      go_ret
      exact ⟨rfl, hal.out⟩
    | false =>
      rw [hz.2 hc] at hco
      clear hz hc
      go_enter Tryz.func86, Tryz.ntmps86
      go_wp2_with (go_at_call 114; refine (hco _).mono ?_; rintro e w1 ⟨rfl, rfl⟩)
      go_ret
      exact ⟨rfl, hal.out⟩
  · have hE : Hid ((decide (k = 1) && !constB t) = false) := by show _ = _; rw [decide_eq_false h1]; rfl
    rw [hE.out]
    have b1 : ((k : Int) == 1) = false := by rw [beq_eq_false_iff_ne]; omega
    have n1 : ¬ (k : Int) = 1 := by omega
    clear hz h1 hE
    generalize hki : (k : Int) = ki at *
    go_enter Tryz.func86, Tryz.ntmps86
    go_wp2_with fail
    go_ret
    refine ⟨rfl, ?_⟩
    subst hki
    exact hal.out
theorem function_c (x : Wd × Nat) (hl : x.1.x.length ≤ 4194304) (w : World) : Calls Tryz.prog 87 #[wdV x] w fun e w' => Below w.heap.size w w' ∧ ((∃ m, arityL x.1.x = some m ∧ e = .returned (.string (S x.1.x))) ∨ (arityL x.1.x = none ∧ e = Fault 31)) := by
  obtain ⟨⟨k, t⟩, n⟩ := x
  have har := fun W => arity_c t W
  have hcl := fun W => clone_c (S t) W (by rw [size_S]; simp only at hl; omega)
  have hal := Lib.hid (wdW_below w (⟨k, t⟩, n))
  have HCe := Lib.hid (fun W hb => wdW_cells w W (⟨k, t⟩, n) hb)
  show Calls Tryz.prog 87 #[.agg #[.int .i64 (k : Int), .string (S t), .int .i64 (n : Int)]] w fun e w' => Below w.heap.size w w' ∧ ((∃ m, arityL t = some m ∧ e = .returned (.string (S t))) ∨ (arityL t = none ∧ e = Fault 31))
  cases hA : arityL t with
  | none =>
    have e : arityE t = .tuple #[.int .i64 0, .int .i64 0, .bool false] := by unfold arityE; rw [hA]
    rw [e] at har
    clear hA e
    go_enter Tryz.func87, Tryz.ntmps87
    go_wp2_with (first
      | (go_at_call 41; refine (har _).mono ?_; rintro e w1 ⟨rfl, rfl⟩)
      | (go_at_call 57; refine (demand_no _ _).mono ?_; rintro e w1 ⟨rfl, rfl⟩))
    exact ⟨by first | rfl | trivial, hal.out, .inr ⟨by first | rfl | trivial, by first | rfl | trivial⟩⟩
  | some m =>
    have e : arityE t = .tuple #[.int .i64 (m.1 : Int), .int .i64 (m.2 : Int), .bool true] := by unfold arityE; rw [hA]
    rw [e] at har
    clear hA e
    go_enter Tryz.func87, Tryz.ntmps87
    go_wp2_with (first
      | (go_at_call 41; refine (har _).mono ?_; rintro e w1 ⟨rfl, rfl⟩)
      | (go_at_call 57; refine (demand_yes _ _).mono ?_; rintro e w1 ⟨rfl, rfl⟩))
    refine (hcl _).mono ?_
    rintro e w2 ⟨rfl, hb2⟩
    have HB := Lib.hid (hal.out.trans (hb2.mono hal.out.size))
    clear hb2
    go_wp2_with fail
    go_ret
    exact ⟨HB.out, .inl ⟨m, rfl, rfl⟩⟩

/-! ### What ends a call -/
theorem cut1_c (x : Wd × Nat) (hg : GoodX x.1) (w : World) : Calls Tryz.prog 113 #[wdV x] w fun e w' => e = .returned (.bool (!isWord x.1)) ∧ Below w.heap.size w w' := by
  have hs1 := fun W => isSign_c x [124] W
  have hs2 := fun W => isSign_c x [58, 61] W
  have hal := Lib.hid (wdW_below w x)
  have HCe := Lib.hid (fun W hb => wdW_cells w W x hb)
  have hE : Hid ((!isWord x.1) = (decide (x.1.k = 6 ∧ x.1.x = [124]) || decide (x.1.k = 6 ∧ x.1.x = [58, 61]))) := by
    show _ = _
    unfold isWord
    by_cases h6 : x.1.k = 6
    · rcases hg.sign h6 with h | h
      · simp [h6, h]
      · simp [h6, h]
    · have : (x.1.k == 6) = false := by rw [beq_eq_false_iff_ne]; exact h6
      rw [this]
      simp [h6]
  replace hs1 : ∀ W, Calls Tryz.prog 89 #[wdV x, .string ⟨#[124]⟩] W fun e w' => e = .returned (.bool (decide (x.1.k = 6 ∧ x.1.x = [124]))) ∧ Below W.heap.size W w' := hs1
  replace hs2 : ∀ W, Calls Tryz.prog 89 #[wdV x, .string ⟨#[58, 61]⟩] W fun e w' => e = .returned (.bool (decide (x.1.k = 6 ∧ x.1.x = [58, 61]))) ∧ Below W.heap.size W w' := hs2
  generalize decide (x.1.k = 6 ∧ x.1.x = [124]) = b1 at *
  generalize decide (x.1.k = 6 ∧ x.1.x = [58, 61]) = b2 at *
  generalize (!isWord x.1) = ans at *
  clear hg
  cases b1 with
  | true =>
    have hA : Hid (ans = true) := by show _ = _; rw [hE.out]; rfl
    clear hE
    go_enter Tryz.func113, Tryz.ntmps113
    go_wp2_with fail
    refine (hs1 _).mono ?_
    rintro e w2 ⟨rfl, hb2⟩
    have H2 := Lib.hid (HCe.out w2 hb2).1
    clear hb2
    go_wp2_with fail
    go_ret
    exact ⟨by rw [hA.out]; rfl, H2.out⟩
  | false =>
    have hA : Hid (ans = b2) := by show _ = _; rw [hE.out]; rfl
    clear hE
    go_enter Tryz.func113, Tryz.ntmps113
    go_wp2_with fail
    refine (hs1 _).mono ?_
    rintro e w2 ⟨rfl, hb2⟩
    obtain ⟨k1, d0, d1, d2⟩ := HCe.out w2 hb2
    have H2 := Lib.hid k1
    clear hb2 k1
    go_wp2_with fail
    refine (hs2 _).mono ?_
    rintro e w3 ⟨rfl, hb3⟩
    have H3 := Lib.hid (H2.out.trans (hb3.mono H2.out.size))
    clear hb3
    go_wp2_with fail
    go_ret
    exact ⟨by rw [hA.out]; rfl, H3.out⟩
theorem enter_cut1 : ∀ args w, (callFunc 113 args).run Tryz.prog w = .ok (.enter 113 args) w := enters_of Tryz.func113 (by kernel_rfl) rfl
/-- How many words a call has. -/
def callN (ws : List (Wd × Nat)) : Nat := (ws.takeWhile fun x => isWord x.1).length
theorem callN_le (ws : List (Wd × Nat)) : callN ws ≤ ws.length := (List.takeWhile_prefix _).length_le
theorem callN_at (ws : List (Wd × Nat)) : (∀ j (h : j < ws.length), j < callN ws → isWord ws[j].1 = true) ∧ ∀ h : callN ws < ws.length, isWord ws[callN ws].1 = false := by
  induction ws with
  | nil => exact ⟨fun j h => absurd h (by simp), fun h => absurd h (by simp)⟩
  | cons x t ih =>
    cases hb : isWord x.1 with
    | true =>
      have e : callN (x :: t) = callN t + 1 := by unfold callN; rw [List.takeWhile_cons_of_pos (p := fun x : Wd × Nat => isWord x.1) hb]; rfl
      refine ⟨fun j h hj => ?_, fun h => ?_⟩
      · cases j with
        | zero => exact hb
        | succ j => exact ih.1 j (by simpa using h) (by omega)
      · have h2 : callN t < t.length := by rw [e] at h; simpa using h
        have := ih.2 h2
        simp only [e, List.getElem_cons_succ]
        exact this
    | false =>
      have e : callN (x :: t) = 0 := by unfold callN; rw [List.takeWhile_cons_of_neg (p := fun x : Wd × Nat => isWord x.1) (by rw [hb]; simp)]; rfl
      refine ⟨fun j _ hj => by omega, fun h => ?_⟩
      simp only [e, List.getElem_cons_zero]
      exact hb
/-- What IndexFunc answers. -/
def callI (ws : List (Wd × Nat)) : Int := if callN ws = ws.length then -1 else (callN ws : Int)
set_option maxHeartbeats 1000000 in
set_option maxRecDepth 100000 in
theorem index_c (ws : List (Wd × Nat)) (hg : ∀ x ∈ ws, GoodX x.1) (b o c : Nat) (hlen : ws.length ≤ 4194304) (w : World) (hw : WdAt w b o ws) :
    Calls Tryz.prog 112 #[.slice (some ⟨b, o, none⟩) ws.length c, .func (.func 113) #[] #[]] w fun e w' => e = .returned (.int .i64 (callI ws)) ∧ Below w.heap.size w w' := by
  have eg := enter_cut1
  obtain ⟨n, hn⟩ : ∃ n, n = ws.length := ⟨_, rfl⟩
  have HN := Lib.hid hn
  have HW := Lib.hid hw
  have HC := Lib.hid (fun (k : Nat) (h : k < ws.length) W => cut1_c ws[k] (hg _ (List.getElem_mem h)) W)
  have hni : (n : Int) ≤ 4194304 := by omega
  obtain ⟨g1, g2⟩ := callN_at ws
  have hle := callN_le ws
  have HI : Hid (callI ws = if callN ws = n then -1 else (callN ws : Int)) := by show _ = _; unfold callI; rw [← hn]
  have HG := Lib.hid (And.intro g1 g2)
  rw [← hn] at hle ⊢
  generalize callI ws = ans at *
  obtain ⟨m, hm⟩ : ∃ m, m = callN ws := ⟨_, rfl⟩
  rw [← hm] at hle HI
  have HM := Lib.hid hm
  clear hn hg hw g1 g2 hm hlen
  go_enter Tryz.func112, Tryz.ntmps112
  go_wp2
  go_loopw [5, 8] (fun _ i wr => ∃ k : Nat, k ≤ m ∧ i = .int .i64 k ∧ Hid (Below w.heap.size w wr)) (fun _ i _ => n - (intOf i).toNat)
  case atStart => exact ⟨0, Nat.zero_le _, rfl, Below.refl _ _⟩
  case round =>
    obtain ⟨k, hk, rfl, hbel⟩ := hrel
    have i0 : (0 : Int) ≤ (k : Int) := by omega
    by_cases hlt : k < n
    · have hlt2 : k < ws.length := by have := HN.out; omega
      obtain ⟨c1, c2, c3⟩ := HW.out.up hbel.out k hlt2
      have hcall := HC.out k hlt2 wr
      have i1 : (k : Int) < (n : Int) := by omega
      have hd : decide ((k : Int) < (n : Int)) = true := decide_eq_true i1
      rcases (by omega : k < m ∨ k = m) with hkm | hkm
      · have hx := HG.out.1 k hlt2 (by rw [← HM.out]; exact hkm)
        rw [hx] at hcall
        have HK := Lib.hid hkm
        clear hx
        generalize ws[k] = x at *
        go_wp2_with (go_at_fn 113; refine hcall.mono ?_; rintro e w' ⟨rfl, hb'⟩)
        go_roundw
        case rel => exact ⟨k + 1, by have := HK.out; omega, by go_num, hbel.out.trans (hb'.mono hbel.out.size)⟩
        case measure => simp [intOf]; omega
      · have hx : isWord ws[k].1 = false := by
          have h5 := HG.out.2 (by rw [← HM.out, ← hkm]; exact hlt2)
          have e : callN ws = k := by rw [← HM.out, hkm]
          simp only [e] at h5
          exact h5
        rw [hx] at hcall
        have hA : Hid (ans = (k : Int)) := by show _ = _; rw [HI.out, if_neg (by omega), hkm]
        clear hx hkm HI
        generalize ws[k] = x at *
        go_wp2_with (go_at_fn 113; refine hcall.mono ?_; rintro e w' ⟨rfl, hb'⟩)
        go_ret
        exact ⟨by rw [hA.out]; rfl, hbel.out.trans (hb'.mono hbel.out.size)⟩
    · have hA : Hid (ans = -1) := by show _ = _; rw [HI.out, if_pos (by omega)]
      have hd : decide ((k : Int) < (n : Int)) = false := decide_eq_false (by omega)
      have i1 : ¬ ((k : Int) < (n : Int)) := by omega
      clear HI
      go_wp2
      go_ret
      exact ⟨by rw [hA.out]; rfl, hbel.out⟩
end Go.Proofs.YtmccbcficbbidaaGreatDoor.Pw
