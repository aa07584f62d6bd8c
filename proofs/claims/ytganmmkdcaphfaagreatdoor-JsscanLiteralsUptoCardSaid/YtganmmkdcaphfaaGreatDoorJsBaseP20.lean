/-
  Part 20: TlInt, TlLit, NumLeaves, NumParse.
-/
import Derived.Test.YtganmmkdcaphfaaGreatDoorJsBaseP16
import Derived.Test.YtganmmkdcaphfaaGreatDoorJsBaseP14
import Derived.Test.YtganmmkdcaphfaaGreatDoorJsBaseP19
import Derived.Test.YtganmmkdcaphfaaGreatDoorJsBaseP9
import Derived.Test.YtganmmkdcaphfaaGreatDoorProg
import Derived.Test.YtganmmkdcaphfaaGreatDoorJsBaseP2
import Derived.Lib.Hide
/-
  Contracts of literal's tellInt, of tell at a number, and of Literal at a number.
-/
namespace Go.Proofs.YtganmmkdcaphfaaGreatDoor.Tl
open Go.RowKit Go.Proofs.YtganmmkdcaphfaaGreatDoor.Oct Go.Proofs.YtganmmkdcaphfaaGreatDoor.Num Go.Proofs.YtganmmkdcaphfaaGreatDoor.Build Go.Proofs.YtganmmkdcaphfaaGreatDoor.Val Go.Proofs.YtganmmkdcaphfaaGreatDoor.Lit

/-- The world in which tell begins: the box of what it is handed, the box of where it is put. -/
abbrev tellStart (W : World) (u0 u1 u2 u3 u4 : Value) (b : Nat) : World :=
  (W.alloc (.cells #[u0, u1, u2, u3, u4] 25)).alloc (.cells #[putG b] 83)

theorem tell_blocks {W X : World} {u0 u1 u2 u3 u4 : Value} {b : Nat} (h : Below (tellStart W u0 u1 u2 u3 u4 b).heap.size (tellStart W u0 u1 u2 u3 u4 b) X) :
    X.heap[W.heap.size]? = some (.cells #[u0, u1, u2, u3, u4] 25 (0, 0)) ∧
    X.heap[W.heap.size + 1]? = some (.cells #[putG b] 83 (0, 0)) ∧ Below W.heap.size W X ∧ W.heap.size + 2 ≤ X.heap.size := by
  have z : (tellStart W u0 u1 u2 u3 u4 b).heap.size = W.heap.size + 2 := by simp
  refine ⟨?_, ?_, ?_, by have := h.size; omega⟩
  · rw [h.block _ (by omega), Go.heap_alloc_old _ _ (by simp), heap_alloc_new]
  · rw [h.block _ (by omega)]
    have := heap_alloc_new (W.alloc (.cells #[u0, u1, u2, u3, u4] 25)) (.cells #[putG b] 83)
    rw [World.size_alloc] at this
    exact this
  · exact (((Below.refl _ W).alloc (Nat.le_refl _) _).alloc (by simp) _).trans (h.mono (by omega))

/-- The two boxes stay. -/
theorem tell_kept {W X Y : World} {u0 u1 u2 u3 u4 : Value} {b : Nat} (hb : b < W.heap.size) (hX : X.heap[W.heap.size]? = some (.cells #[u0, u1, u2, u3, u4] 25 (0, 0)) ∧ X.heap[W.heap.size + 1]? = some (.cells #[putG b] 83 (0, 0))) (h : Others b X Y) :
    Y.heap[W.heap.size]? = some (.cells #[u0, u1, u2, u3, u4] 25 (0, 0)) ∧ Y.heap[W.heap.size + 1]? = some (.cells #[putG b] 83 (0, 0)) :=
  ⟨h _ _ hX.1 (by simp; omega) (fun c fz e => by cases e), h _ _ hX.2 (by simp; omega) (fun c fz e => by cases e)⟩

theorem two' {X : World} {B : Nat} {u0 u1 u2 u3 u4 : Value} {b : Nat} (h : X.heap[B]? = some (.cells #[u0, u1, u2, u3, u4] 25 (0, 0)) ∧ X.heap[B + 1]? = some (.cells #[putG b] 83 (0, 0))) :
    X.cell? ⟨B, 0, none⟩ = some u0 ∧ X.cell? ⟨B, 1, none⟩ = some u1 ∧ X.cell? ⟨B, 2, none⟩ = some u2 ∧ X.cell? ⟨B, 3, none⟩ = some u3 ∧ X.cell? ⟨B, 4, none⟩ = some u4 ∧ X.cell? ⟨B + 1, 0, none⟩ = some (putG b) :=
  ⟨cell_of_row X B 0 _ _ _ h.1, cell_of_row X B 1 _ _ _ h.1, cell_of_row X B 2 _ _ _ h.1, cell_of_row X B 3 _ _ _ h.1, cell_of_row X B 4 _ _ _ h.1, cell_of_row X (B + 1) 0 _ _ _ h.2⟩

/-- One put behind the start. -/
theorem put_from {B b : Nat} {l : List UInt8} {W X Y : World} {e : Ending} {u0 u1 u2 u3 u4 : Value} (hBW : B ≤ W.heap.size) (hX : Below (tellStart W u0 u1 u2 u3 u4 b).heap.size (tellStart W u0 u1 u2 u3 u4 b) X) (h : Put B b l X e Y) : Put B b l W e Y := by
  have b0 := (tell_blocks hX).2.2.1
  exact ⟨h.1, h.2.1, (b0.mono hBW).trans h.2.2.1, ((Lib.OthersKept.refl _ _ W).below b0).trans h.2.2.2⟩


/-- A number as a literal. -/
def litI (n : Int) : List UInt8 := if n < 0 then 32 :: printL n else printL n

set_option maxHeartbeats 2000000 in
set_option maxRecDepth 100000 in
theorem tellInt_c (B b : Nat) (l : List UInt8) (n : Int) (h0 : -9223372036854775808 ≤ n) (h1 : n ≤ 9223372036854775807) (w : World) (h : Has B b l w) (hlen : l.length + (litI n).length ≤ 140737488355328) (hBw : B ≤ w.heap.size) :
    Calls Tryz.prog 108 #[.int .i64 n, putG b] w (Put B b (l ++ litI n) w) := by
  have e9 := enter_put
  have HB := Lib.hid hBw
  have HP := Lib.hid (fun w => print_c n w h0 h1)
  by_cases hn : n < 0
  · have e0 : litI n = 32 :: printL n := by unfold litI; rw [if_pos hn]
    rw [e0] at hlen ⊢
    simp only [List.length_cons] at hlen
    have hc := put_c B b l [32] w h (by simp; omega) hBw
    have HC := Lib.hid (fun w1 (h1 : Has B b (l ++ [32]) w1) (hB : B ≤ w1.heap.size) => put_c B b (l ++ [32]) (printL n) w1 h1 (by simp only [List.length_append, List.length_cons, List.length_nil]; omega) hB)
    have e3 : Hid (l ++ 32 :: printL n = (l ++ [32]) ++ printL n) := by show _ = _; simp
    clear h hBw e0 hlen
    go_enter Tryz.func108, Tryz.ntmps108
    go_wp2_with (first
      | (go_at_call 121; refine (HP.out _).mono ?_; rintro e w2 ⟨rfl, h2⟩; have H2 := Lib.hid h2; clear h2; have hc2 := HC.out w2 (has_below H1.out.1 H2.out) (Nat.le_trans HB.out (Nat.le_trans H1.out.2.1.size H2.out.size)))
      | (go_at_fn 96; refine hc2.mono ?_; rintro e w3 h3; obtain rfl := h3.1)
      | (go_at_fn 96; refine hc.mono ?_; rintro e w1 ⟨rfl, h1⟩; have H1 := Lib.hid h1; clear h1))
    go_end0
    rw [e3.out]
    exact ⟨rfl, h3.2.1, (H1.out.2.1.trans (H2.out.mono (Nat.le_trans HB.out H1.out.2.1.size))).trans h3.2.2.1, (H1.out.2.2.below H2.out).trans h3.2.2.2⟩
  · have e0 : litI n = printL n := by unfold litI; rw [if_neg hn]
    rw [e0] at hlen ⊢
    have HC := Lib.hid (fun w1 (h1 : Has B b l w1) (hB : B ≤ w1.heap.size) => put_c B b l (printL n) w1 h1 hlen hB)
    have H0 := Lib.hid h
    clear h hBw e0 hlen
    go_enter Tryz.func108, Tryz.ntmps108
    go_wp2_with (first
      | (go_at_call 121; refine (HP.out _).mono ?_; rintro e w2 ⟨rfl, h2⟩; have H2 := Lib.hid h2; clear h2; have hc2 := HC.out w2 (has_below H0.out H2.out) (Nat.le_trans HB.out H2.out.size))
      | (go_at_fn 96; refine hc2.mono ?_; rintro e w3 h3; obtain rfl := h3.1))
    go_end0
    exact ⟨rfl, h3.2.1, (H2.out.mono HB.out).trans h3.2.2.1, ((Lib.OthersKept.refl _ _ _).below H2.out).trans h3.2.2.2⟩

set_option maxHeartbeats 2000000 in
set_option maxRecDepth 100000 in
theorem tell_int (B b : Nat) (l : List UInt8) (n : Int) (u2 u3 u4 : Value) (hone : u2.oneCell' = true ∧ u3.oneCell' = true ∧ u4.oneCell' = true) (W : World) (h : Has B b l W) (hlen : l.length + (litI n).length ≤ 140737488355328) (hBW : B ≤ W.heap.size) (h0 : -9223372036854775808 ≤ n) (h1 : n ≤ 9223372036854775807) :
    Calls Tryz.prog 95 #[.agg #[.int .i64 3, .int .i64 n, u2, u3, u4], putG b] W (Put B b (l ++ litI n) W) := by
  have hX : Below (tellStart W (.int .i64 3) (.int .i64 n) u2 u3 u4 b).heap.size (tellStart W (.int .i64 3) (.int .i64 n) u2 u3 u4 b) (tellStart W (.int .i64 3) (.int .i64 n) u2 u3 u4 b) := Below.refl _ _
  have hc := tellInt_c B b l n h0 h1 _ (has_below h (tell_blocks hX).2.2.1) hlen (by have := (tell_blocks hX).2.2.2; omega)
  have HF := Lib.hid (fun e Y => put_from (e := e) (Y := Y) (l := l ++ litI n) hBW hX)
  obtain ⟨o1, o2, o3⟩ := hone
  clear h hX
  go_enter Tryz.func95, Tryz.ntmps95
  go_wp2_with (go_at_call 108; refine hc.mono ?_; rintro e Y hP; obtain rfl := hP.1)
  go_end0
  exact HF.out _ _ hP
end Go.Proofs.YtganmmkdcaphfaaGreatDoor.Tl

/-
  Contract of literal.Literal, out of tell's; at a number.
-/
namespace Go.Proofs.YtganmmkdcaphfaaGreatDoor.Tl
open Go.RowKit Go.Proofs.YtganmmkdcaphfaaGreatDoor.Oct Go.Proofs.YtganmmkdcaphfaaGreatDoor.Num Go.Proofs.YtganmmkdcaphfaaGreatDoor.Build Go.Proofs.YtganmmkdcaphfaaGreatDoor.Val Go.Proofs.YtganmmkdcaphfaaGreatDoor.Lit

theorem enter_literal1 : ∀ args w, (callFunc 94 args).run Tryz.prog w = .ok (.enter 94 args) w := enters_of Tryz.func94 (by kernel_rfl) rfl

theorem five_cells {X : World} {q : Nat} {u0 u1 u2 u3 u4 : Value} (h : X.heap[q]? = some (.cells #[u0, u1, u2, u3, u4] 25 (0, 0))) :
    X.cell? ⟨q, 0, none⟩ = some u0 ∧ X.cell? ⟨q, 1, none⟩ = some u1 ∧ X.cell? ⟨q, 2, none⟩ = some u2 ∧ X.cell? ⟨q, 3, none⟩ = some u3 ∧ X.cell? ⟨q, 4, none⟩ = some u4 :=
  ⟨cell_of_row X q 0 _ _ _ h, cell_of_row X q 1 _ _ _ h, cell_of_row X q 2 _ _ _ h, cell_of_row X q 3 _ _ _ h, cell_of_row X q 4 _ _ _ h⟩

theorem literal1_c (q : Nat) (u0 u1 u2 u3 u4 : Value) (t : List UInt8) (w : World) (hq : w.heap[q]? = some (.cells #[u0, u1, u2, u3, u4] 25 (0, 0)))
    (ht : Calls Tryz.prog 95 #[.agg #[u0, u1, u2, u3, u4], putG w.heap.size] (fresh w) (Put w.heap.size w.heap.size t (fresh w))) :
    Calls Tryz.prog 94 #[putG w.heap.size, .pointer (some ⟨q, 0, none⟩)] (fresh w) (Tells w.heap.size (some t) (fun W => Below w.heap.size w W)) := by
  have hb0 : Below w.heap.size w (fresh w) := (Below.refl _ w).alloc (Nat.le_refl _) _
  have hlt := (Array.getElem?_eq_some_iff.1 hq).1
  obtain ⟨c0, c1, c2, c3, c4⟩ := five_cells (X := fresh w) ((hb0.block q hlt).trans hq)
  have HB0 := Lib.hid hb0
  clear hb0 hq
  go_enter Tryz.func94, Tryz.ntmps94
  go_wp2_with (go_at_call 95; refine ht.mono ?_; rintro e W1 h1; obtain rfl := h1.1)
  go_end0
  exact ⟨rfl, h1.2.1, HB0.out.trans h1.2.2.1⟩

theorem literal_of (u0 u1 u2 u3 u4 : Value) (hone : ∀ u ∈ [u0, u1, u2, u3, u4], u.oneCell' = true) (t : List UInt8) (w : World)
    (ht : ∀ w1, w1.heap[w.heap.size]? = some (.cells #[u0, u1, u2, u3, u4] 25 (0, 0)) → w1.heap.size = w.heap.size + 1 → Below w.heap.size w w1 →
      Calls Tryz.prog 95 #[.agg #[u0, u1, u2, u3, u4], putG w1.heap.size] (fresh w1) (Put w1.heap.size w1.heap.size t (fresh w1))) :
    Calls Tryz.prog 79 #[.agg #[u0, u1, u2, u3, u4]] w fun e w' => e = .returned (.string (S t)) ∧ Below w.heap.size w w' := by
  have hmf : ∀ (fn : Fn) (first cap : Array Value) (w : World), (Instr.makeFunc fn first cap).run Tryz.prog w = .ok (.func fn first cap) w := fun _ _ _ _ => rfl
  obtain ⟨w1, hw1⟩ : ∃ w1, w1 = w.alloc (.cells #[u0, u1, u2, u3, u4] 25) := ⟨_, rfl⟩
  have hb1 : Below w.heap.size w w1 := by rw [hw1]; exact (Below.refl _ w).alloc (Nat.le_refl _) _
  have hcell : w1.heap[w.heap.size]? = some (.cells #[u0, u1, u2, u3, u4] 25 (0, 0)) := by rw [hw1]; exact heap_alloc_new w _
  have h1 := literal1_c w.heap.size u0 u1 u2 u3 u4 t w1 hcell (ht w1 hcell (by rw [hw1]; simp) hb1)
  have hm := made_c 94 #[.pointer (some ⟨w.heap.size, 0, none⟩)] w1 _ _ enter_literal1 h1 (fun W w' h1 h2 => h1.trans h2)
  rw [hw1] at hm
  have HB1 := Lib.hid hb1
  rw [hw1] at HB1
  obtain ⟨o0, o1, o2, o3, o4⟩ : u0.oneCell' = true ∧ u1.oneCell' = true ∧ u2.oneCell' = true ∧ u3.oneCell' = true ∧ u4.oneCell' = true := by
    refine ⟨hone _ (by simp), hone _ (by simp), hone _ (by simp), hone _ (by simp), hone _ (by simp)⟩
  clear h1 hcell hb1 hw1 ht hone
  go_enter Tryz.func79, Tryz.ntmps79
  go_wp2_with (go_at_call 81; refine hm.mono ?_; rintro e W2 ⟨rfl, h2⟩)
  go_ret
  exact ⟨rfl, HB1.out.trans (h2.mono HB1.out.size)⟩

theorem literal_int (n : Int) (h0 : -9223372036854775808 ≤ n) (h1 : n ≤ 9223372036854775807) (w : World) :
    Calls Tryz.prog 79 #[.agg #[.int .i64 3, .int .i64 n, .string ⟨#[]⟩, .slice none 0 0, .slice none 0 0]] w fun e w' => e = .returned (.string (S (litI n))) ∧ Below w.heap.size w w' := by
  refine literal_of _ _ _ _ _ (by intro u hu; simp at hu; rcases hu with rfl | rfl | rfl | rfl | rfl <;> rfl) _ w (fun w1 hc hz hb => ?_)
  have hl : (litI n).length ≤ 140737488355328 := by
    have := printL_le n h0 h1
    unfold litI
    split
    · rw [List.length_cons]; omega
    · omega
  have := tell_int w1.heap.size w1.heap.size [] n (.string ⟨#[]⟩) (.slice none 0 0) (.slice none 0 0) ⟨rfl, rfl, rfl⟩ (fresh w1) (fresh_has w1) (by simpa using hl) (by simp) h0 h1
  rw [List.nil_append] at this
  exact this
end Go.Proofs.YtganmmkdcaphfaaGreatDoor.Tl

/-
  Contracts of the leaves of package number: each is called at any numbers of its kinds and changes nothing.
-/
namespace Go.Proofs.YtganmmkdcaphfaaGreatDoor.Num
open Go.RowKit Go.Proofs.YtganmmkdcaphfaaGreatDoor.Oct

/-- A sum and the error's number. -/
def addL (a b : Int) : Int × Nat := if -9223372036854775808 ≤ a + b ∧ a + b ≤ 9223372036854775807 then (a + b, 0) else (0, 4)
def cmpL (a b : Int) : Int := if a < b then -1 else if b < a then 1 else 0
theorem compareInt_eq (a b : Int) : Lib.compareInt a b = cmpL a b := by
  unfold Lib.compareInt cmpL
  repeat' split
  all_goals omega

theorem add_wrap (a b : Int) (a0 : -9223372036854775808 ≤ a) (a1 : a ≤ 9223372036854775807) (b0 : -9223372036854775808 ≤ b) (b1 : b ≤ 9223372036854775807) :
    (-9223372036854775808 ≤ a + b ∧ a + b ≤ 9223372036854775807 → IntKind.i64.wrap (a + b) = a + b ∧ (decide (a + b < a) != decide (b < 0)) = false) ∧
    (¬ (-9223372036854775808 ≤ a + b ∧ a + b ≤ 9223372036854775807) → (decide (wrap64 (a + b) < a) == decide (b < 0)) = false) := by
  rw [IntKind.wrap_i64]
  unfold wrap64
  refine ⟨fun h => ⟨by omega, ?_⟩, fun h => ?_⟩
  · rw [show decide (a + b < a) = decide (b < 0) by rw [decide_eq_decide]; omega]; simp
  · by_cases hb : b < 0
    · rw [decide_eq_true hb, decide_eq_false (by omega)]; rfl
    · rw [decide_eq_false hb, decide_eq_true (by omega)]; rfl

theorem ret2 {k k' : IntKind} {a b c d : Int} (h : a = b) (h' : c = d) : Ending.returned (.tuple #[.int k a, .int k' c]) = .returned (.tuple #[.int k b, .int k' d]) := by rw [h, h']

theorem signed_c (u : Nat) (below : Bool) (w : World) (hu : u < 18446744073709551616) :
    Calls Tryz.prog 91 #[.int .u64 (u : Int), .bool below] w fun e w' => e = .returned (.tuple #[.int .i64 (signedL u below).1, .int .i64 ((signedL u below).2 : Int)]) ∧ w = w' := by
  cases below with
  | true =>
    by_cases h : u ≤ 9223372036854775808
    · have F : Hid (signedL u true = (-(u : Int), 0)) := by show _ = _; unfold signedL; rw [if_pos rfl, if_pos h]
      go_enter Tryz.func91, Tryz.ntmps91
      go_wp2
      go_ret2
      refine ⟨?_, rfl⟩
      rw [F.out]
      exact ret2 (by unfold wrap64; rw [IntKind.wrap_u64]; show _ = -(u : Int); omega) rfl
    · have F : Hid (signedL u true = (0, 4)) := by show _ = _; unfold signedL; rw [if_pos rfl, if_neg h]
      go_enter Tryz.func91, Tryz.ntmps91
      go_wp2
      go_ret2
      exact ⟨by rw [F.out]; rfl, rfl⟩
  | false =>
    by_cases h : u ≤ 9223372036854775807
    · have F : Hid (signedL u false = ((u : Int), 0)) := by show _ = _; unfold signedL; rw [if_neg (by simp), if_pos h]
      go_enter Tryz.func91, Tryz.ntmps91
      go_wp2
      go_ret2
      refine ⟨?_, rfl⟩
      rw [F.out]
      rfl
    · have F : Hid (signedL u false = (0, 4)) := by show _ = _; unfold signedL; rw [if_neg (by simp), if_neg h]
      go_enter Tryz.func91, Tryz.ntmps91
      go_wp2
      go_ret2
      exact ⟨by rw [F.out]; rfl, rfl⟩
end Go.Proofs.YtganmmkdcaphfaaGreatDoor.Num

/-
  Contract of number.Parse: the number that a text prints, or the error's number; it changes nothing.
-/
namespace Go.Proofs.YtganmmkdcaphfaaGreatDoor.Num
open Go.RowKit Go.Proofs.YtganmmkdcaphfaaGreatDoor.Oct

theorem take_at (s : ByteArray) (k : Nat) (h : k < s.size) : s.data.toList.take (k + 1) = s.data.toList.take k ++ [s[k]] := by
  rw [List.take_succ_eq_append_getElem (by rw [size_list]; exact h)]; rfl
theorem mem_at (s : ByteArray) (k : Nat) (h : k < s.size) : s[k] ∈ s.data.toList := by
  rw [ByteArray.getElem_eq_getElem_data]; simp

set_option maxHeartbeats 1000000 in
theorem read_c (s : ByteArray) (w : World) (hd : ∀ c ∈ s.data.toList, isDig c = true) (hs : s.size ≤ 19) :
    Calls Tryz.prog 92 #[.string s] w fun e w' => e = .returned (.int .u64 (valD s.data.toList : Int)) ∧ w = w' := by
  have HD := Lib.hid hd
  clear hd
  go_enter Tryz.func92, Tryz.ntmps92
  go_wp2
  go_loop [3, 4, 7] (fun n _ i => ∃ k : Nat, k ≤ s.size ∧ i = .int .i64 k ∧ n = .int .u64 (valD (s.data.toList.take k) : Nat)) (fun _ _ i => s.size - (intOf i).toNat)
  case atStart => exact ⟨0, Nat.zero_le _, rfl, rfl⟩
  case round =>
    obtain ⟨k, hk, rfl, rfl⟩ := hrel
    by_cases hlt : k < s.size
    · have hv := valD_take k HD.out (show k ≤ 18 by omega)
      have hdk := of_decide_eq_true (HD.out _ (mem_at s k hlt))
      have HV : Hid (valD (s.data.toList.take (k + 1)) = valD (s.data.toList.take k) * 10 + cnt s[k]) := by show _ = _; rw [take_at s k hlt, valD_snoc]
      obtain ⟨hc0, hc1⟩ := hdk
      generalize valD (s.data.toList.take k) = v at hv HV
      go_wp2
      go_round
      case rel =>
        refine ⟨k + 1, by omega, by go_num, ?_⟩
        rw [HV.out]
        congr 1
        unfold cnt
        omega
      case measure => simp [intOf]; omega
    · go_wp2
      go_ret
      have hke : s.data.toList.take k = s.data.toList := List.take_of_length_le (by rw [size_list]; omega)
      exact ⟨ret_int (by rw [hke]), rfl⟩

theorem enter_odd : ∀ args w, (callFunc 90 args).run Tryz.prog w = .ok (.enter 90 args) w := enters_of Tryz.func90 (by kernel_rfl) rfl

theorem odd_c (c : UInt8) (w : World) :
    Calls Tryz.prog 90 #[.int .u8 (c.toNat : Int)] w fun e w' => e = .returned (.bool (!isDig c)) ∧ w = w' := by
  have h := c.toNat_lt
  go_enter Tryz.func90, Tryz.ntmps90
  go_wp2
  all_goals go_ret
  all_goals (refine ⟨ret_bool ?_, rfl⟩; unfold isDig; rw [Bool.eq_iff_iff]; simp; try omega)

set_option maxHeartbeats 1000000 in
theorem anyOctet_c (s : ByteArray) (w : World) (hs : s.size ≤ 9223372036854775807) :
    Calls Tryz.prog 89 #[.string s, .func (.func 90) #[] #[]] w fun e w' => e = .returned (.bool (!allDig s.data.toList)) ∧ w = w' := by
  have eg := enter_odd
  go_enter Tryz.func89, Tryz.ntmps89
  go_wp2
  go_loop [5, 8] (fun _ i => ∃ k : Nat, k ≤ s.size ∧ i = .int .i64 k ∧ Hid (∀ c ∈ s.data.toList.take k, isDig c = true)) (fun _ i => s.size - (intOf i).toNat)
  case atStart => exact ⟨0, Nat.zero_le _, rfl, fun c hc => by simp at hc⟩
  case round =>
    obtain ⟨k, hk, rfl, hno⟩ := hrel
    by_cases hlt : k < s.size
    · have hcall := odd_c s[k] w
      cases hq : isDig s[k] with
      | false =>
        rw [hq] at hcall
        have F : Hid (allDig s.data.toList = false) := allDig_no (mem_at s k hlt) hq
        go_wp2_with (go_at_fn 90; refine hcall.mono ?_; rintro e w' ⟨rfl, rfl⟩)
        go_ret
        exact ⟨by rw [F.out]; rfl, rfl⟩
      | true =>
        rw [hq] at hcall
        have F : Hid (∀ c ∈ s.data.toList.take (k + 1), isDig c = true) := by
          intro c hc
          rw [take_at s k hlt] at hc
          rcases List.mem_append.1 hc with hc | hc
          · exact hno.out c hc
          · rw [List.mem_singleton.1 hc]; exact hq
        clear hq
        go_wp2_with (go_at_fn 90; refine hcall.mono ?_; rintro e w' ⟨rfl, rfl⟩)
        go_round
        case rel => exact ⟨k + 1, by omega, by go_num, F⟩
        case measure => simp [intOf]; omega
    · have hke : s.data.toList.take k = s.data.toList := List.take_of_length_le (by rw [size_list]; omega)
      have F : Hid (allDig s.data.toList = true) := allDig_of (by rw [← hke]; exact hno.out)
      clear hke
      go_wp2
      go_ret
      exact ⟨by rw [F.out]; rfl, rfl⟩

theorem hasMinus (l : List UInt8) : Lib.hasPrefix l [45] = decide (l.head? = some 45) := by
  cases l with
  | nil => rfl
  | cons a l => rw [Bool.eq_iff_iff]; simp [Lib.hasPrefix]; try exact eq_comm
theorem cutMinus (l : List UInt8) : Lib.trimPrefix l [45] = if l.head? = some 45 then l.tail else l := by
  unfold Lib.trimPrefix
  rw [hasMinus]
  by_cases h : l.head? = some 45
  · simp [h]
  · simp [h]

/-- What comes of a text whose sign is cut off. -/
theorem parseL_eq (l : List UInt8) : parseL l = parseT (Lib.hasPrefix l [45]) (Lib.trimPrefix l [45]) := by
  unfold parseL
  rw [hasMinus, cutMinus]
  by_cases h : l.head? = some 45
  · rw [if_pos h, if_pos h, decide_eq_true h]
  · rw [if_neg h, if_neg h, decide_eq_false h]

/-- The one text of 0. -/
theorem zero_text (l : List UInt8) (h : (Lib.trimPrefix l [45]).head? = some 48) : (l = [48]) ↔ ¬ (Lib.hasPrefix l [45] = true ∨ 1 < (Lib.trimPrefix l [45]).length) := by
  rw [hasMinus, cutMinus] at *
  by_cases c : l.head? = some 45
  · rw [if_pos c] at h ⊢
    rw [decide_eq_true c]
    refine ⟨fun e => ?_, fun e => absurd (.inl rfl) e⟩
    rw [e] at c; exact absurd c (by decide)
  · rw [if_neg c] at h ⊢
    rw [decide_eq_false c]
    cases l with
    | nil => cases h
    | cons a l =>
      rw [Option.some.inj h]
      cases l with
      | nil => simp
      | cons b l => simp

set_option maxHeartbeats 1000000 in
theorem parse_core (s T : ByteArray) (B : Bool) (w : World) (hT : T.size ≤ 9223372036854775807)
    (hcut : Calls Tryz.prog 70 #[.string s, .string ⟨#[45]⟩] w fun e w' => e = .returned (.tuple #[.string T, .bool B]) ∧ w' = w)
    (hz : T.data.toList.head? = some 48 → ((s.toList = [48]) ↔ ¬ (B = true ∨ 1 < T.data.toList.length))) :
    Calls Tryz.prog 76 #[.string s] w fun e w' => e = .returned (.tuple #[.int .i64 (parseT B T.data.toList).1, .int .i64 ((parseT B T.data.toList).2 : Int)]) ∧ w = w' := by
  by_cases h0 : T.size = 0
  · have hs : T = ⟨#[]⟩ := by
      apply ByteArray.ext
      exact Array.eq_empty_of_size_eq_zero h0
    subst hs
    clear hz h0
    go_enter Tryz.func76, Tryz.ntmps76
    go_wp2_with (go_at_call 70; refine hcut.mono ?_; rintro e w' ⟨rfl, rfl⟩)
    go_ret2
    exact ⟨rfl, rfl⟩
  · have hne : T.data.toList ≠ [] := by intro h; apply h0; rw [← size_list, h]; rfl
    have he : T.data.toList.isEmpty = false := by rw [List.isEmpty_eq_false_iff]; exact hne
    have he' : T.toList.isEmpty = false := by rw [ByteArray.toList_eq]; exact he
    have hpos : 0 < T.size := by omega
    have hany := fun w => anyOctet_c T w hT
    by_cases hd : allDig T.data.toList = false
    · have F : Hid (parseT B T.data.toList = (0, 33)) := by
        show _ = _
        unfold parseT
        rw [if_neg hne, if_pos hd]
      rw [hd] at hany
      clear hne h0 hz hd
      go_enter Tryz.func76, Tryz.ntmps76
      go_wp2_with fail
      refine hcut.mono ?_
      rintro e w' ⟨rfl, rfl⟩
      go_wp2_with fail
      refine (hany _).mono ?_
      rintro e w' ⟨rfl, rfl⟩
      go_wp2_with fail
      go_ret2
      exact ⟨by rw [F.out]; rfl, rfl⟩
    · have hd' : allDig T.data.toList = true := by simpa using hd
      rw [hd'] at hany
      have hmem := allDig_mem hd'
      have hhead : T.data.toList.head? = some T[0] := by
        rw [List.head?_eq_getElem?, List.getElem?_eq_getElem (by rw [size_list]; exact hpos)]; rfl
      have hsz : T.data.toList.length = T.size := size_list T
      by_cases hbad : T.data.toList.head? = some 48 ∧ (B = true ∨ 1 < T.data.toList.length)
      · have F : Hid (parseT B T.data.toList = (0, 33)) := by
          show _ = _
          unfold parseT
          rw [if_neg hne, if_neg hd, if_pos hbad]
        have hzz : (s.toList == [48]) = false := by
          rw [beq_eq_false_iff_ne]
          exact fun e => (hz hbad.1).1 e hbad.2
        have h48 : T[0] = 48 := Option.some.inj (hhead.symm.trans hbad.1)
        have h48' : ((T[0].toNat : Int) == 48) = true := by rw [h48]; rfl
        clear hne h0 hz hd hd' hmem hhead hsz hbad h48
        go_enter Tryz.func76, Tryz.ntmps76
        go_wp2_with fail
        refine hcut.mono ?_
        rintro e w' ⟨rfl, rfl⟩
        go_wp2_with fail
        refine (hany _).mono ?_
        rintro e w' ⟨rfl, rfl⟩
        go_wp2_with fail
        go_ret2
        exact ⟨by rw [F.out]; rfl, rfl⟩
      · have hq : ((s.toList == [48]) = true ∧ ((T[0].toNat : Int) == 48) = true) ∨ ((T[0].toNat : Int) == 48) = false := by
          by_cases h48 : T[0] = 48
          · refine .inl ⟨?_, by rw [h48]; rfl⟩
            rw [beq_iff_eq]
            exact (hz (by rw [hhead, h48])).2 (fun h => hbad ⟨by rw [hhead, h48], h⟩)
          · refine .inr ?_
            rw [beq_eq_false_iff_ne]
            intro e
            apply h48
            apply UInt8.toNat_inj.1
            have : (48 : UInt8).toNat = 48 := rfl
            omega
        by_cases h19 : 19 < T.size
        · have F : Hid (parseT B T.data.toList = (0, 4)) := by
            show _ = _
            unfold parseT
            rw [if_neg hne, if_neg hd, if_neg hbad, if_pos (by rw [hsz]; exact h19)]
          clear hne h0 hz hd hd' hmem hhead hsz hbad
          rcases hq with ⟨hzz, h48'⟩ | h48'
          all_goals
            go_enter Tryz.func76, Tryz.ntmps76
            go_wp2_with fail
            refine hcut.mono ?_
            rintro e w' ⟨rfl, rfl⟩
            go_wp2_with fail
            refine (hany _).mono ?_
            rintro e w' ⟨rfl, rfl⟩
            go_wp2_with fail
            go_ret2
            exact ⟨by rw [F.out]; rfl, rfl⟩
        · have F : Hid (parseT B T.data.toList = signedL (valD T.data.toList) B) := by
            show _ = _
            unfold parseT
            rw [if_neg hne, if_neg hd, if_neg hbad, if_neg (by rw [hsz]; exact h19)]
          have hrd := fun w => read_c T w hmem (by omega)
          have hv := valD_all hmem (by omega)
          have hsg := fun w => signed_c (valD T.data.toList) B w (by omega)
          generalize valD T.data.toList = v at F hrd hsg
          clear hne h0 hz hd hd' hmem hhead hsz hbad hv
          rcases hq with ⟨hzz, h48'⟩ | h48'
          all_goals
            go_enter Tryz.func76, Tryz.ntmps76
            go_wp2_with fail
            refine hcut.mono ?_
            rintro e w' ⟨rfl, rfl⟩
            go_wp2_with fail
            refine (hany _).mono ?_
            rintro e w' ⟨rfl, rfl⟩
            go_wp2_with fail
            refine (hrd _).mono ?_
            rintro e w' ⟨rfl, rfl⟩
            go_wp2_with fail
            refine (hsg _).mono ?_
            rintro e w' ⟨rfl, rfl⟩
            go_wp2_with fail
            go_ret2
            exact ⟨by rw [F.out]; rfl, rfl⟩

theorem parse_c (s : ByteArray) (w : World) (hs : s.size ≤ 9223372036854775807) :
    Calls Tryz.prog 76 #[.string s] w fun e w' => e = .returned (.tuple #[.int .i64 (parseL s.data.toList).1, .int .i64 ((parseL s.data.toList).2 : Int)]) ∧ w = w' := by
  have h := parse_core s (S (Lib.trimPrefix s.data.toList [45])) (Lib.hasPrefix s.data.toList [45]) w
    (by
      rw [size_S, cutMinus]
      have := size_list s
      split
      · rw [List.length_tail]; omega
      · omega)
    (Tryz.strings_CutPrefix s ⟨#[45]⟩ w)
    (by rw [ByteArray.toList_eq]; exact zero_text s.data.toList)
  rw [parseL_eq]
  exact h

end Go.Proofs.YtganmmkdcaphfaaGreatDoor.Num
