/-
  Contracts of values.tell at a list of numbers and of values.Print at a text and at a list of numbers.
-/
import Derived.Test.YtcheiombgnabaaaValTell2
namespace Go.Proofs.Ytcheiombgnabaaa.Val
open Go.RowKit Go.Proofs.Ytcheiombgnabaaa.Oct Go.Proofs.Ytcheiombgnabaaa.Num Go.Proofs.Ytcheiombgnabaaa.Build

/-- The print of a list of numbers. -/
def listL (ns : List Int) : List UInt8 := [91] ++ joinAt ns ns.length ++ [93]

set_option maxHeartbeats 4000000 in
set_option maxRecDepth 100000 in
theorem tell_list (B b : Nat) (l : List UInt8) (ns : List Int) (n : Int) (s : ByteArray) (bk off cap : Nat) (q : Option Addr) (ql qc : Nat) (W : World) (h : Has B b l W) (hbig : l.length + (listL ns).length ≤ 140737488355328) (hBW : B ≤ W.heap.size)
    (hr : ∀ i, -9223372036854775808 ≤ ns.getD i 0 ∧ ns.getD i 0 ≤ 9223372036854775807) (hI : Ints bk off ns W) (hne : bk ≠ b) (hn : ns.length ≤ 140737488351232) :
    Calls Try.prog 28 #[.agg #[.int .i64 5, .int .i64 n, .string s, .slice (some ⟨bk, off, none⟩) ns.length cap, .slice q ql qc], putF b] W (Put B b (l ++ listL ns) W) := by
  have e29 := enter_put
  have hX : Below (tellStart W (.int .i64 5) (.int .i64 n) (.string s) (.slice (some ⟨bk, off, none⟩) ns.length cap) (.slice q ql qc) b).heap.size (tellStart W (.int .i64 5) (.int .i64 n) (.string s) (.slice (some ⟨bk, off, none⟩) ns.length cap) (.slice q ql qc) b) (tellStart W (.int .i64 5) (.int .i64 n) (.string s) (.slice (some ⟨bk, off, none⟩) ns.length cap) (.slice q ql qc) b) := Below.refl _ _
  simp only [listL, List.length_append, List.length_cons, List.length_nil] at hbig
  have z2 := (tell_blocks hX).2.2.2
  have hbl := (has_lt h).2
  have hc1 := put_c B b l ⟨#[91]⟩ _ (has_below h (tell_blocks hX).2.2.1) (by simp [ByteArray.size]; omega) (Nat.le_trans hBW (tell_blocks hX).2.2.1.size)
  have hIX : Ints bk off ns (tellStart W (.int .i64 5) (.int .i64 n) (.string s) (.slice (some ⟨bk, off, none⟩) ns.length cap) (.slice q ql qc) b) := hI.kept hne ((Lib.OthersKept.refl _ _ W).below (tell_blocks hX).2.2.1)
  have HC2 : Hid (∀ e1 Y1, Put B b (l ++ [91]) (tellStart W (.int .i64 5) (.int .i64 n) (.string s) (.slice (some ⟨bk, off, none⟩) ns.length cap) (.slice q ql qc) b) e1 Y1 →
      (Y1.heap[W.heap.size]? = some (.cells #[.int .i64 5, .int .i64 n, .string s, .slice (some ⟨bk, off, none⟩) ns.length cap, .slice q ql qc] 25 (0, 0)) ∧ Y1.heap[W.heap.size + 1]? = some (.cells #[putF b] 59 (0, 0))) ∧
      Calls Try.prog 38 #[.slice (some ⟨bk, off, none⟩) ns.length cap, putF b, .func (.func 39) #[] #[]] Y1 (Put B b (l ++ [91] ++ joinAt ns ns.length) Y1)) := fun e1 Y1 h1 =>
    ⟨tell_kept hbl ⟨(tell_blocks hX).1, (tell_blocks hX).2.1⟩ h1.2.2.2, tellEach_c B b (l ++ [91]) ns bk off cap Y1 h1.2.1 (by simp only [List.length_append, List.length_cons, List.length_nil]; omega) (Nat.le_trans (Nat.le_trans hBW (by omega)) h1.2.2.1.size) hr (hIX.kept hne h1.2.2.2) hne hn⟩
  have HC3 : Hid (∀ Y1 e2 Y2, B ≤ Y1.heap.size → (Y1.heap[W.heap.size]? = some (.cells #[.int .i64 5, .int .i64 n, .string s, .slice (some ⟨bk, off, none⟩) ns.length cap, .slice q ql qc] 25 (0, 0)) ∧ Y1.heap[W.heap.size + 1]? = some (.cells #[putF b] 59 (0, 0))) → Put B b (l ++ [91] ++ joinAt ns ns.length) Y1 e2 Y2 →
      (Y2.heap[W.heap.size]? = some (.cells #[.int .i64 5, .int .i64 n, .string s, .slice (some ⟨bk, off, none⟩) ns.length cap, .slice q ql qc] 25 (0, 0)) ∧ Y2.heap[W.heap.size + 1]? = some (.cells #[putF b] 59 (0, 0))) ∧
      Calls Try.prog 29 #[.string ⟨#[93]⟩, .pointer (some ⟨b, 0, none⟩)] Y2 (Put B b (l ++ [91] ++ joinAt ns ns.length ++ [93]) Y2)) := fun Y1 e2 Y2 hz h0 h2 =>
    ⟨tell_kept hbl h0 h2.2.2.2, put_c B b _ ⟨#[93]⟩ Y2 h2.2.1 (by simp [ByteArray.size]; omega) (Nat.le_trans hz h2.2.2.1.size)⟩
  have HE : Hid (∀ e1 Y1 e2 Y2 e3 Y3, Put B b (l ++ [91]) (tellStart W (.int .i64 5) (.int .i64 n) (.string s) (.slice (some ⟨bk, off, none⟩) ns.length cap) (.slice q ql qc) b) e1 Y1 → Put B b (l ++ [91] ++ joinAt ns ns.length) Y1 e2 Y2 → Put B b (l ++ [91] ++ joinAt ns ns.length ++ [93]) Y2 e3 Y3 → Put B b (l ++ listL ns) W e3 Y3) := fun e1 Y1 e2 Y2 e3 Y3 h1 h2 h3 => by
    refine put_from hBW hX ⟨h3.1, ?_, (h1.2.2.1.trans h2.2.2.1).trans h3.2.2.1, (h1.2.2.2.trans h2.2.2.2).trans h3.2.2.2⟩
    have e9 : l ++ listL ns = l ++ [91] ++ joinAt ns ns.length ++ [93] := by simp [listL]
    rw [e9]
    exact h3.2.1
  have HZ : Hid (∀ e1 Y1, Put B b (l ++ [91]) (tellStart W (.int .i64 5) (.int .i64 n) (.string s) (.slice (some ⟨bk, off, none⟩) ns.length cap) (.slice q ql qc) b) e1 Y1 → B ≤ Y1.heap.size) := fun e1 Y1 h1 => Nat.le_trans (Nat.le_trans hBW (by omega)) h1.2.2.1.size
  clear h hbig hBW hr hI hIX hX z2 hbl hne
  go_enter Try.func28, Try.ntmps28
  go_wp2_with (go_at_fn 29; refine hc1.mono ?_; rintro e1 Y1 h1; obtain rfl := h1.1; obtain ⟨k1, hc2⟩ := HC2.out _ _ h1; obtain ⟨-, -, -, x3, -, x5⟩ := two' k1; have H1 := Lib.hid (And.intro h1 (And.intro k1 (HZ.out _ _ h1))); clear h1 k1 hc1)
  go_wp2_with (go_at_call 38; refine hc2.mono ?_; rintro e2 Y2 h2; obtain rfl := h2.1; obtain ⟨k2, hc3⟩ := HC3.out _ _ _ H1.out.2.2 H1.out.2.1 h2; obtain ⟨-, -, -, y3, -, y5⟩ := two' k2; have H2 := Lib.hid h2; clear h2 k2 hc2)
  go_wp2_with (go_at_fn 29; refine hc3.mono ?_; rintro e3 Y3 h3; obtain rfl := h3.1)
  go_end0
  exact HE.out _ _ _ _ _ _ H1.out.1 H2.out h3
end Go.Proofs.Ytcheiombgnabaaa.Val
