/-
  Contracts of faults.Caught at one of its instances, over whatever closure is handed in.
-/
import Derived.Test.YtbchjmldjdhjiaaLxwEnd
import Derived.Defers
import Derived.Recover
namespace Go.Proofs.Ytbchjmldjdhjiaa.LxwW
open Go.RowKit Go.Proofs.Ytbchjmldjdhjiaa.Oct Go.Proofs.Ytbchjmldjdhjiaa.Lxw

theorem assert_fault (x : Value) (xT : TypeId) (w : World) : (Instr.typeAssert (.iface 60 x) xT 60 true).run Try.prog w = .ok (.tuple #[x, .bool true]) w := by kernel_rfl
theorem assert_nil (xT : TypeId) (w : World) : (Instr.typeAssert .nilIface xT 60 true).run Try.prog w = .ok (.tuple #[.agg #[.int .i64 0], .bool false]) w := by kernel_rfl

set_option maxHeartbeats 4000000 in
set_option maxRecDepth 100000 in
theorem catch_none (r : Nat) (w : World) :
    CallsD Try.prog 23 #[.pointer (some ⟨r, 0, none⟩)] .returning w fun e u' w' =>
      e = .returned (.tuple #[]) ∧ u' = .returning ∧ Below w.heap.size w w' := by
  have hta := assert_nil
  refine callsD_of_wpS Try.func23 rfl fun c₀ cs hu => ?_
  apply wpS_seq
  apply wpS_region
  simp [wpOpsS, go_sem, recoverD, hu, Try.ntmps23, Exit.thenS]
  refine wpS_of_wp ?_
  simp only [List.replicate, Array.replicate, List.setIfInBounds_toArray, List.set_cons_succ, List.set_cons_zero, List.append_toArray, List.cons_append, List.nil_append]
  go_wp2_with fail
  simp only [bodyPostS]
  exact ⟨trivial, .returning, by cases c₀; simp_all, .tuple #[], by simp [results, Try.results23], rfl, rfl, (Below.refl _ w).alloc (Nat.le_refl _) _⟩

set_option maxHeartbeats 400000 in
set_option maxRecDepth 100000 in
theorem catch_fault (r : Nat) (n x : Int) (w : World) (hx : w.cell? ⟨r, 0, none⟩ = some (.int .i64 x)) (hz : w.frozen? ⟨r, 0, none⟩ = false) (hr : r < w.heap.size) :
    CallsD Try.prog 23 #[.pointer (some ⟨r, 0, none⟩)] (.panicking [{ v := faultV n, recovered := false }]) w fun e u' w' =>
      e = .returned (.tuple #[]) ∧ u' = .panicking [{ v := faultV n, recovered := true }] ∧ w' = (w.setCell ⟨r, 0, none⟩ (.int .i64 n)).alloc (.cells #[.int .i64 n] 60) := by
  have hb := (Below.refl w.heap.size w).alloc (Nat.le_refl _) (.cells #[.int .i64 n] 60)
  have hx1 := (hb.cell (p := ⟨r, 0, none⟩) hr).trans hx
  have hz1 := (hb.frozen (p := ⟨r, 0, none⟩) hr).trans hz
  have hnc : (w.alloc (.cells #[.int .i64 n] 60)).cell? ⟨w.heap.size, 0, none⟩ = some (.int .i64 n) := cell_of_row _ w.heap.size 0 _ _ _ (heap_alloc_new w _)
  clear hb
  have hta := assert_fault (.agg #[.int .i64 n])
  refine callsD_of_wpS Try.func23 rfl fun c₀ cs hu => ?_
  replace hu : c₀.mode = .panicking [{ v := .iface 60 (.agg #[.int .i64 n]), recovered := false }] := hu
  apply wpS_seq
  apply wpS_region
  simp [wpOpsS, go_sem, recoverD, hu, Try.ntmps23, Exit.thenS]
  refine wpS_of_wp ?_
  simp only [List.replicate, Array.replicate, List.setIfInBounds_toArray, List.set_cons_succ, List.set_cons_zero, List.append_toArray, List.cons_append, List.nil_append]
  go_wp2_with fail
  show bodyPostS _ _ _ _ _ _ _ _ _
  simp only [bodyPostS]
  exact ⟨trivial, .panicking [{ v := faultV n, recovered := true }], by cases c₀; simp_all, .tuple #[], by simp [results, Try.results23], rfl, rfl, (by first | trivial | rfl)⟩

/-- The error's box. -/
abbrev errBox (w : World) : World := w.alloc (.cells #[.int .i64 0] 25)
/-- All that lay in w lies as it lay, but for the block r. -/
structure But (r : Nat) (w w' : World) : Prop where
  os : w'.os = w.os
  tape : w'.tape = w.tape
  output : w'.output = w.output
  size : w.heap.size ≤ w'.heap.size
  block : ∀ k, k < w.heap.size → k ≠ r → w'.heap[k]? = w.heap[k]?
theorem caught_fin {r : Nat} {W X : World} {n : Int} (hbox : W.heap[r]? = some (.cells #[.int .i64 0] 25 (0, 0))) (hX : Below W.heap.size (W.setCell ⟨r, 0, none⟩ (.int .i64 n)) X) :
    But r W X ∧ X.cell? ⟨r, 0, none⟩ = some (.int .i64 n) := by
  have hlt : r < W.heap.size := (Array.getElem?_eq_some_iff.1 hbox).1
  have hset := heap_setCell_same W r 0 _ _ (.int .i64 n) hbox
  have hs : (W.setCell ⟨r, 0, none⟩ (.int .i64 n)).heap.size = W.heap.size := by simp [World.setCell]
  exact ⟨⟨hX.os, hX.tape, hX.output, by have := hX.size; omega, fun k hk hr => (hX.block k hk).trans (heap_setCell_other _ _ _ _ (by simpa using hr))⟩, cell_of_row X r 0 _ _ _ ((hX.block _ hlt).trans hset)⟩

set_option maxHeartbeats 400000 in
set_option maxRecDepth 100000 in
/-- A method's value: what it writes may lie outside; the error's box it leaves alone. -/
theorem caught_any (g : Nat) (lb : Array Value) (w : World) (F : Int → World → Prop) (V : Value → World → Prop) (eg : ∀ args w, (callFunc g args).run Try.prog w = .ok (.enter g args) w)
    (hc : Calls Try.prog g lb (errBox w) fun e W => W.heap[w.heap.size]? = some (.cells #[.int .i64 0] 25 (0, 0)) ∧ ((∃ n, e = Fault n ∧ F n W) ∨ ∃ v, e = .returned v ∧ V v W)) :
    Calls Try.prog 17 #[.func (.func g) lb #[]] w fun e w' => ∃ W, But w.heap.size W w' ∧
      ((∃ n, e = .returned (.tuple #[.slice none 0 0, .int .i64 n]) ∧ F n W) ∨ ∃ v, e = .returned (.tuple #[v, .int .i64 0]) ∧ V v W) := by
  have hmf : ∀ (fn : Fn) (first cap : Array Value) (w : World), (Instr.makeFunc fn first cap).run Try.prog w = .ok (.func fn first cap) w := fun _ _ _ _ => rfl
  have hsz : (errBox w).heap.size = w.heap.size + 1 := Array.size_push _
  have HC := Lib.hid hc
  clear hc
  go_enter_defers Try.func17, Try.ntmps17
  have HF : Hid (∀ W : World, W.heap[w.heap.size]? = some (.cells #[.int .i64 0] 25 (0, 0)) → W.cell? ⟨w.heap.size, 0, none⟩ = some (.int .i64 0) ∧ W.frozen? ⟨w.heap.size, 0, none⟩ = false ∧ w.heap.size < W.heap.size) := fun W hbox =>
    ⟨(cell_of_row W w.heap.size 0 _ _ _ hbox).trans rfl, frozen_of_row W w.heap.size 0 _ _ hbox, (Array.getElem?_eq_some_iff.1 hbox).1⟩
  go_wp2_with (go_at_fn g; refine HC.out.mono ?_; rintro e1 W1 ⟨hb, (⟨n, rfl, hF⟩ | ⟨v, rfl, hV⟩)⟩ <;> obtain ⟨xc, xz, xl⟩ := HF.out W1 hb)
  · refine leaves_cons (f := 23) (args := #[.pointer (some ⟨w.heap.size, 0, none⟩)]) (by simp) (by simp [go_sem]) ?_
    refine (catch_fault w.heap.size n 0 W1 xc xz xl).mono ?_
    rintro e u' w'' ⟨rfl, rfl, hw''⟩
    obtain ⟨f1, f2⟩ := caught_fin hb (n := n) (X := w'') (by rw [hw'']; exact (by simpa using (Below.refl (W1.setCell ⟨w.heap.size, 0, none⟩ (.int .i64 n)).heap.size (W1.setCell ⟨w.heap.size, 0, none⟩ (.int .i64 n))).alloc (Nat.le_refl _) (.cells #[.int .i64 n] 60)))
    clear hw''
    simp [Leaves, settle, results, Try.results17, go_sem, f2]
    exact ⟨W1, f1, .inl hF⟩
  · refine leaves_cons (f := 23) (args := #[.pointer (some ⟨w.heap.size, 0, none⟩)]) (by simp) (by simp [go_sem]) ?_
    refine (catch_none w.heap.size _).mono ?_
    rintro e u' w'' ⟨rfl, rfl, hw''⟩
    obtain ⟨f1, f2⟩ := caught_fin hb (n := 0) (X := w'') (by simpa using hw'')
    clear hw''
    simp [Leaves, settle, results, Try.results17, go_sem, f2]
    exact ⟨W1, f1, .inr hV⟩
end Go.Proofs.Ytbchjmldjdhjiaa.LxwW
