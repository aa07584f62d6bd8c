/-
  Contracts of values.Print, values.Int, values.Text, values.Truth, values.Plain, at texts, numbers and a list of numbers.
-/
import Derived.Test.YtcheiombgnabaaaValPrint
import Derived.Test.YtcheiombgnabaaaValClone
namespace Go.Proofs.Ytcheiombgnabaaa.Val
open Go.RowKit Go.Proofs.Ytcheiombgnabaaa.Oct Go.Proofs.Ytcheiombgnabaaa.Num Go.Proofs.Ytcheiombgnabaaa.Build

theorem enter_string : ∀ args w, (callFunc 31 args).run Try.prog w = .ok (.enter 31 args) w := enters_of Try.func31 (by kernel_rfl) rfl

/-- The world in which Print calls tell: the box of what it is handed, a fresh builder. -/
abbrev printStart (W : World) (u0 u1 u2 u3 u4 : Value) : World :=
  (W.alloc (.cells #[u0, u1, u2, u3, u4] 25)).alloc (.cells #[.pointer none, .slice none 0 0] 53)

theorem print_start (W : World) (u0 u1 u2 u3 u4 : Value) : Has W.heap.size (W.heap.size + 1) [] (printStart W u0 u1 u2 u3 u4) ∧ Below W.heap.size W (printStart W u0 u1 u2 u3 u4) := by
  refine ⟨.inl ⟨by omega, .slice none 0 0, ?_, ⟨rfl, .inl ⟨rfl, rfl⟩⟩, by simp [Value.ownBlock]⟩, ((Below.refl _ W).alloc (Nat.le_refl _) _).alloc (by simp) _⟩
  have := heap_alloc_new (W.alloc (.cells #[u0, u1, u2, u3, u4] 25)) (.cells #[.pointer none, .slice none 0 0] 53)
  rw [World.size_alloc] at this
  exact this

set_option maxHeartbeats 2000000 in
set_option maxRecDepth 100000 in
theorem print_of (k n : Int) (s : ByteArray) (p : Option Addr) (pl pc : Nat) (q : Option Addr) (ql qc : Nat) (t : List UInt8) (W : World)
    (ht : Has W.heap.size (W.heap.size + 1) [] (printStart W (.int .i64 k) (.int .i64 n) (.string s) (.slice p pl pc) (.slice q ql qc)) → Below W.heap.size W (printStart W (.int .i64 k) (.int .i64 n) (.string s) (.slice p pl pc) (.slice q ql qc)) →
      Calls Try.prog 28 #[.agg #[.int .i64 k, .int .i64 n, .string s, .slice p pl pc, .slice q ql qc], putF (W.heap.size + 1)] (printStart W (.int .i64 k) (.int .i64 n) (.string s) (.slice p pl pc) (.slice q ql qc)) (Put W.heap.size (W.heap.size + 1) t (printStart W (.int .i64 k) (.int .i64 n) (.string s) (.slice p pl pc) (.slice q ql qc)))) :
    Calls Try.prog 20 #[.agg #[.int .i64 k, .int .i64 n, .string s, .slice p pl pc, .slice q ql qc]] W fun e w' => e = .returned (.string (S t)) ∧ Below W.heap.size W w' := by
  have e31 := enter_string
  have h0 := print_start W (.int .i64 k) (.int .i64 n) (.string s) (.slice p pl pc) (.slice q ql qc)
  have hc := ht h0.1 h0.2
  have H0 := Lib.hid h0.2
  clear ht h0
  go_enter Try.func20, Try.ntmps20
  go_wp2_with (go_at_call 28; refine hc.mono ?_; rintro e1 Y1 h1; obtain rfl := h1.1; have H1 := Lib.hid h1; clear h1)
  go_wp2_with (go_at_fn 31; refine (Try.Builder_String_any W.heap.size (W.heap.size + 1) t Y1 H1.out.2.1 (Nat.le_trans H0.out.size (H1.out.2.2.1.size))).mono ?_; rintro e2 Y2 ⟨rfl, h2⟩)
  go_ret
  exact ⟨rfl, (H0.out.trans H1.out.2.2.1).trans h2⟩

theorem print_text (n : Int) (s : ByteArray) (p : Option Addr) (pl pc : Nat) (q : Option Addr) (ql qc : Nat) (W : World) (hs : s.size ≤ 140737488351232) :
    Calls Try.prog 20 #[.agg #[.int .i64 4, .int .i64 n, .string s, .slice p pl pc, .slice q ql qc]] W fun e w' => e = .returned (.string s) ∧ Below W.heap.size W w' := by
  have h := print_of 4 n s p pl pc q ql qc s.data.toList W (fun h1 h2 => by
    have := tell_text W.heap.size (W.heap.size + 1) [] n s p pl pc q ql qc _ h1 (by simp; omega) h2.size
    rw [List.nil_append] at this
    exact this)
  rw [S_list] at h
  exact h

theorem print_list (ns : List Int) (n : Int) (s : ByteArray) (bk off cap : Nat) (q : Option Addr) (ql qc : Nat) (W : World) (hbig : (listL ns).length ≤ 140737488355328) (hr : ∀ i, -9223372036854775808 ≤ ns.getD i 0 ∧ ns.getD i 0 ≤ 9223372036854775807) (hI : Ints bk off ns W) (hn : ns.length ≤ 140737488351232) :
    Calls Try.prog 20 #[.agg #[.int .i64 5, .int .i64 n, .string s, .slice (some ⟨bk, off, none⟩) ns.length cap, .slice q ql qc]] W fun e w' => e = .returned (.string (S (listL ns))) ∧ Below W.heap.size W w' := by
  have hlt : bk < W.heap.size := by
    obtain ⟨⟨cur, fz, h⟩, _⟩ := hI
    exact (Array.getElem?_eq_some_iff.1 h).1
  refine print_of 5 n s _ _ _ q ql qc (listL ns) W (fun h1 h2 => ?_)
  have := tell_list W.heap.size (W.heap.size + 1) [] ns n s bk off cap q ql qc _ h1 (by simp; omega) h2.size hr (hI.kept (b := W.heap.size + 1) (by omega) ((Lib.OthersKept.refl _ _ W).below h2)) (by omega) hn
  rw [List.nil_append] at this
  exact this

theorem int_c (n : Int) (w : World) : Calls Try.prog 16 #[.int .i64 n] w fun e w' => e = .returned (.agg #[.int .i64 3, .int .i64 n, .string ⟨#[]⟩, .slice none 0 0, .slice none 0 0]) ∧ Below w.heap.size w w' := by
  go_enter Try.func16, Try.ntmps16
  go_wp2
  refine bodyPost_ret (v := .agg #[.int .i64 3, .int .i64 n, .string ⟨#[]⟩, .slice none 0 0, .slice none 0 0]) (by simp [results, Try.results16, go_sem]) rfl ?_
  exact ⟨rfl, (Below.refl _ w).alloc (Nat.le_refl _) _⟩

set_option maxHeartbeats 1000000 in
theorem text_c (s : ByteArray) (w : World) (hs : s.size ≤ 140737488351232) : Calls Try.prog 15 #[.string s] w fun e w' => e = .returned (.agg #[.int .i64 4, .int .i64 0, .string s, .slice none 0 0, .slice none 0 0]) ∧ Below w.heap.size w w' := by
  have e23 := enter_sclone
  have hc := sclone_c s (w.alloc (.cells #[.int .i64 0, .int .i64 0, .string ⟨#[]⟩, .slice none 0 0, .slice none 0 0] 25)) hs
  go_enter Try.func15, Try.ntmps15
  go_wp2_with (go_at_fn 23; refine hc.mono ?_; rintro e X ⟨rfl, hX⟩; have g := (hX.block w.heap.size (by simp)).trans (heap_alloc_new w _); have g0 := cell_of_row X w.heap.size 0 _ _ _ g; have g1 := cell_of_row X w.heap.size 1 _ _ _ g; have g2 := cell_of_row X w.heap.size 2 _ _ _ g; have g3 := cell_of_row X w.heap.size 3 _ _ _ g; have g4 := cell_of_row X w.heap.size 4 _ _ _ g; have z0 := frozen_of_row X w.heap.size 0 _ _ g; have z1 := frozen_of_row X w.heap.size 1 _ _ g; have z2 := frozen_of_row X w.heap.size 2 _ _ g; have z3 := frozen_of_row X w.heap.size 3 _ _ g; have z4 := frozen_of_row X w.heap.size 4 _ _ g; have H := Lib.hid hX; clear hX g; simp at g0 g1 g2 g3 g4)
  refine bodyPost_ret (v := .agg #[.int .i64 4, .int .i64 0, .string s, .slice none 0 0, .slice none 0 0]) (by simp [results, Try.results15, go_sem, g0, g1, g2, g3, g4]) rfl ?_
  refine ⟨rfl, ?_⟩
  have b0 : Below w.heap.size w X := ((Below.refl _ w).alloc (Nat.le_refl _) _).trans (H.out.mono (by simp))
  exact ((((b0.setCell (p := ⟨w.heap.size, 0, none⟩) (by simp) _).setCell (p := ⟨w.heap.size, 1, none⟩) (by simp) _).setCell (p := ⟨w.heap.size, 2, none⟩) (by simp) _).setCell (p := ⟨w.heap.size, 3, none⟩) (by simp) _).setCell (p := ⟨w.heap.size, 4, none⟩) (by simp) _
end Go.Proofs.Ytcheiombgnabaaa.Val
