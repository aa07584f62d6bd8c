/-
  Contracts of values.tell, at a text and at a number, into a builder: what Print puts together.
-/
import Derived.Test.YtcheiombgnabaaaValTree
import Derived.Test.YtcheiombgnabaaaBuildText
import Derived.Test.YtcheiombgnabaaaNumPrint
import Derived.Lib.BufferKept
import Derived.Deep.RegionHeld3
namespace Go.Proofs.Ytcheiombgnabaaa.Val
open Go.RowKit Go.Proofs.Ytcheiombgnabaaa.Oct Go.Proofs.Ytcheiombgnabaaa.Num Go.Proofs.Ytcheiombgnabaaa.Build

theorem enter_put : ∀ args w, (callFunc 29 args).run Try.prog w = .ok (.enter 29 args) w := enters_of Try.func29 (by kernel_rfl) rfl
theorem enter_write : ∀ args w, (callFunc 30 args).run Try.prog w = .ok (.enter 30 args) w := enters_of Try.func30 (by kernel_rfl) rfl

/-- The builder in block b holds these octets. -/
abbrev Has (B b : Nat) (l : List UInt8) (w : World) : Prop := Is B b (Lib.byteCells l) w

theorem has_below {B b : Nat} {l : List UInt8} {W W' : World} (h : Has B b l W) (hb : Below W.heap.size W W') : Has B b l W' := by
  have one : ∀ p, Lib.BuilderAt 53 5 B b p (Lib.byteCells l) W → Lib.BuilderAt 53 5 B b p (Lib.byteCells l) W' := fun p h => by
    have hlt := h.lt
    obtain ⟨h1, v, h2, h3, h4⟩ := h
    refine ⟨h1, v, by rw [hb.block b hlt]; exact h2, ?_, h4⟩
    refine h3.kept (row := none) ⟨hb.os, hb.tape, hb.output, hb.size, fun k hk _ => hb.block k hk⟩ ?_
    rcases h3.2 with ⟨rfl, _⟩ | ⟨g, cap, cur, rfl, _⟩
    · exact .inl rfl
    · exact .inr (by simp [Value.ownBlock])
  rcases h with h | h
  · exact .inl (one _ h)
  · exact .inr (one _ h)

theorem has_lt {B b : Nat} {l : List UInt8} {W : World} (h : Has B b l W) : B ≤ b ∧ b < W.heap.size := by
  rcases h with h | h
  · exact ⟨h.1, h.lt⟩
  · exact ⟨h.1, h.lt⟩

/-- What a call leaves that puts octets into the builder. -/
def Put (B b : Nat) (l : List UInt8) (w : World) (e : Ending) (w' : World) : Prop := e = .returned (.tuple #[]) ∧ Has B b l w' ∧ Below B w w' ∧ Others b w w'

/-- The function value that puts a text into the builder in block b. -/
abbrev putF (b : Nat) : Value := .func (.func 29) #[] #[.pointer (some ⟨b, 0, none⟩)]

set_option maxHeartbeats 1000000 in
theorem put_c (B b : Nat) (l : List UInt8) (s : ByteArray) (w : World) (h : Has B b l w) (hlen : l.length + s.size ≤ 140737488355328) (hBw : B ≤ w.heap.size) :
    Calls Try.prog 29 #[.string s, .pointer (some ⟨b, 0, none⟩)] w (Put B b (l ++ s.data.toList) w) := by
  have e30 := enter_write
  have hc := write_c B b (Lib.byteCells l) s w h (by rw [Lib.byteCells_length]; exact hlen) hBw
  rw [Lib.strCells_eq, ← Lib.byteCells_append] at hc
  clear h
  go_enter Try.func29, Try.ntmps29
  go_wp2_with (go_at_fn 30; refine hc.mono ?_; rintro e w1 ⟨rfl, h1, h2, h3⟩)
  go_end0
  exact ⟨rfl, h1, h2, h3⟩

/-- The world in which tell begins: the box of what it is handed, the box of where it is put. -/
abbrev tellStart (W : World) (u0 u1 u2 u3 u4 : Value) (b : Nat) : World :=
  (W.alloc (.cells #[u0, u1, u2, u3, u4] 25)).alloc (.cells #[putF b] 59)

theorem tell_blocks {W X : World} {u0 u1 u2 u3 u4 : Value} {b : Nat} (h : Below (tellStart W u0 u1 u2 u3 u4 b).heap.size (tellStart W u0 u1 u2 u3 u4 b) X) :
    X.heap[W.heap.size]? = some (.cells #[u0, u1, u2, u3, u4] 25 (0, 0)) ∧
    X.heap[W.heap.size + 1]? = some (.cells #[putF b] 59 (0, 0)) ∧ Below W.heap.size W X ∧ W.heap.size + 2 ≤ X.heap.size := by
  have z : (tellStart W u0 u1 u2 u3 u4 b).heap.size = W.heap.size + 2 := by simp
  refine ⟨?_, ?_, ?_, by have := h.size; omega⟩
  · rw [h.block _ (by omega), Go.heap_alloc_old _ _ (by simp), heap_alloc_new]
  · rw [h.block _ (by omega)]
    have := heap_alloc_new (W.alloc (.cells #[u0, u1, u2, u3, u4] 25)) (.cells #[putF b] 59)
    rw [World.size_alloc] at this
    exact this
  · exact (((Below.refl _ W).alloc (Nat.le_refl _) _).alloc (by simp) _).trans (h.mono (by omega))

/-- The two boxes stay. -/
theorem tell_kept {W X Y : World} {u0 u1 u2 u3 u4 : Value} {b : Nat} (hb : b < W.heap.size) (hX : X.heap[W.heap.size]? = some (.cells #[u0, u1, u2, u3, u4] 25 (0, 0)) ∧ X.heap[W.heap.size + 1]? = some (.cells #[putF b] 59 (0, 0))) (h : Others b X Y) :
    Y.heap[W.heap.size]? = some (.cells #[u0, u1, u2, u3, u4] 25 (0, 0)) ∧ Y.heap[W.heap.size + 1]? = some (.cells #[putF b] 59 (0, 0)) :=
  ⟨h _ _ hX.1 (by simp; omega) (fun c fz e => by cases e), h _ _ hX.2 (by simp; omega) (fun c fz e => by cases e)⟩

theorem two' {X : World} {B : Nat} {u0 u1 u2 u3 u4 : Value} {b : Nat} (h : X.heap[B]? = some (.cells #[u0, u1, u2, u3, u4] 25 (0, 0)) ∧ X.heap[B + 1]? = some (.cells #[putF b] 59 (0, 0))) :
    X.cell? ⟨B, 0, none⟩ = some u0 ∧ X.cell? ⟨B, 1, none⟩ = some u1 ∧ X.cell? ⟨B, 2, none⟩ = some u2 ∧ X.cell? ⟨B, 3, none⟩ = some u3 ∧ X.cell? ⟨B, 4, none⟩ = some u4 ∧ X.cell? ⟨B + 1, 0, none⟩ = some (putF b) :=
  ⟨cell_of_row X B 0 _ _ _ h.1, cell_of_row X B 1 _ _ _ h.1, cell_of_row X B 2 _ _ _ h.1, cell_of_row X B 3 _ _ _ h.1, cell_of_row X B 4 _ _ _ h.1, cell_of_row X (B + 1) 0 _ _ _ h.2⟩

/-- One put behind the start. -/
theorem put_from {B b : Nat} {l : List UInt8} {W X Y : World} {e : Ending} {u0 u1 u2 u3 u4 : Value} (hBW : B ≤ W.heap.size) (hX : Below (tellStart W u0 u1 u2 u3 u4 b).heap.size (tellStart W u0 u1 u2 u3 u4 b) X) (h : Put B b l X e Y) : Put B b l W e Y := by
  have b0 := (tell_blocks hX).2.2.1
  exact ⟨h.1, h.2.1, (b0.mono hBW).trans h.2.2.1, ((Lib.OthersKept.refl _ _ W).below b0).trans h.2.2.2⟩

set_option maxHeartbeats 2000000 in
set_option maxRecDepth 100000 in
theorem tell_text (B b : Nat) (l : List UInt8) (n : Int) (s : ByteArray) (p : Option Addr) (pl pc : Nat) (q : Option Addr) (ql qc : Nat) (W : World) (h : Has B b l W) (hlen : l.length + s.size ≤ 140737488355328) (hBW : B ≤ W.heap.size) :
    Calls Try.prog 28 #[.agg #[.int .i64 4, .int .i64 n, .string s, .slice p pl pc, .slice q ql qc], putF b] W (Put B b (l ++ s.data.toList) W) := by
  have e29 := enter_put
  have hX : Below (tellStart W (.int .i64 4) (.int .i64 n) (.string s) (.slice p pl pc) (.slice q ql qc) b).heap.size (tellStart W (.int .i64 4) (.int .i64 n) (.string s) (.slice p pl pc) (.slice q ql qc) b) (tellStart W (.int .i64 4) (.int .i64 n) (.string s) (.slice p pl pc) (.slice q ql qc) b) := Below.refl _ _
  have hc := put_c B b l s _ (has_below h (tell_blocks hX).2.2.1) hlen (by have := (tell_blocks hX).2.2.2; omega)
  have HF := Lib.hid (fun e Y => put_from (e := e) (Y := Y) (l := l ++ s.data.toList) hBW hX)
  clear h hX
  go_enter Try.func28, Try.ntmps28
  go_wp2_with (go_at_fn 29; refine hc.mono ?_; rintro e Y hP; obtain rfl := hP.1)
  go_end0
  exact HF.out _ _ hP

set_option maxHeartbeats 2000000 in
set_option maxRecDepth 100000 in
theorem tell_int (B b : Nat) (l : List UInt8) (n : Int) (s : ByteArray) (p : Option Addr) (pl pc : Nat) (q : Option Addr) (ql qc : Nat) (W : World) (h : Has B b l W) (hlen : l.length + (printL n).length ≤ 140737488355328) (hBW : B ≤ W.heap.size) (h0 : -9223372036854775808 ≤ n) (h1 : n ≤ 9223372036854775807) :
    Calls Try.prog 28 #[.agg #[.int .i64 3, .int .i64 n, .string s, .slice p pl pc, .slice q ql qc], putF b] W (Put B b (l ++ printL n) W) := by
  have e29 := enter_put
  have B0 : Below (tellStart W (.int .i64 3) (.int .i64 n) (.string s) (.slice p pl pc) (.slice q ql qc) b).heap.size (tellStart W (.int .i64 3) (.int .i64 n) (.string s) (.slice p pl pc) (.slice q ql qc) b) (tellStart W (.int .i64 3) (.int .i64 n) (.string s) (.slice p pl pc) (.slice q ql qc) b).drew := (Below.refl _ _).drew
  obtain ⟨-, o1, -, -, -, o5⟩ := two' ⟨(tell_blocks B0).1, (tell_blocks B0).2.1⟩
  have hc : ∀ X, Below (tellStart W (.int .i64 3) (.int .i64 n) (.string s) (.slice p pl pc) (.slice q ql qc) b).heap.size (tellStart W (.int .i64 3) (.int .i64 n) (.string s) (.slice p pl pc) (.slice q ql qc) b) X →
      Calls Try.prog 29 #[.string (S (printL n)), .pointer (some ⟨b, 0, none⟩)] X (Put B b (l ++ printL n) X) := fun X hX => by
    have := put_c B b l (S (printL n)) X (has_below h (tell_blocks hX).2.2.1) (by rw [size_S]; exact hlen) (by have := (tell_blocks hX).2.2.2; omega)
    rw [list_S] at this
    exact this
  have hbW := (has_lt h).2
  have HC := Lib.hid hc
  have HB0 := Lib.hid B0
  have HL := Lib.hid (And.intro hBW hbW)
  clear h hc B0 hbW hlen
  go_enter Try.func28, Try.ntmps28
  go_wp2_with fail
  go_region_held3 (fun w' => w'.cell? ⟨W.heap.size, 1, none⟩ = some (.int .i64 n) ∧ w'.cell? ⟨W.heap.size + 1, 0, none⟩ = some (putF b))
    (first | with_reducible exact ⟨o1, o5⟩ | with_reducible exact ⟨a1, a5⟩ | with_reducible exact ⟨b1, b5⟩)
    (first
      | (go_at_call 37; refine (print_c n _ h0 h1).mono ?_; rintro e X ⟨rfl, hX⟩; have BX := HB0.out.trans (hX.mono HB0.out.size); obtain ⟨-, a1, -, -, -, a5⟩ := two' ⟨(tell_blocks BX).1, (tell_blocks BX).2.1⟩; have HX := Lib.hid BX; clear hX BX)
      | (go_at_fn 29; refine (HC.out X HX.out).mono ?_; rintro e Y hP; obtain rfl := hP.1; obtain ⟨-, b1, -, -, -, b5⟩ := two' (tell_kept HL.out.2 ⟨(tell_blocks HX.out).1, (tell_blocks HX.out).2.1⟩ hP.2.2.2); have HP := Lib.hid hP; clear hP))
  go_wp2_with fail
  go_end0
  exact put_from HL.out.1 HX.out HP.out
end Go.Proofs.Ytcheiombgnabaaa.Val
