/-
  Contract of Write of package tokens, of a list of tokens that lies in memory.
-/
import Derived.Test.YtidfcajhmldieaaGreatDoorTkwWritten
import Derived.Test.YtidfcajhmldieaaGreatDoorTkwCaught
namespace Go.Proofs.YtidfcajhmldieaaGreatDoor.Tkw
open Go.RowKit Go.Proofs.YtidfcajhmldieaaGreatDoor.Oct Go.Proofs.YtidfcajhmldieaaGreatDoor.Utf Go.Proofs.YtidfcajhmldieaaGreatDoor.Tok
open Go.Proofs.YtidfcajhmldieaaGreatDoor.Tkc (faultV Fault)

/-- What is said of a list that was written. -/
def WroteV (ts : List Tk) (v : Value) : Prop := v = .string (S (ts.flatMap writeT)) ∧ (∀ k (h : k < ts.length), checkT ts[k] = 0) ∧ mayL ts = true ∧ (ts.flatMap writeT).length ≤ 65536
/-- What Write answers. -/
def WriteTo (ts : List Tk) (e : Ending) : Prop := (∃ v, e = .returned (.tuple #[v, .int .i64 0]) ∧ WroteV ts v) ∨ ∃ n : Int, e = .returned (.tuple #[.string ⟨#[]⟩, .int .i64 n]) ∧ n ≠ 0
/-- A list of tokens that lies in memory, below what is laid from here on. -/
structure Lies (ts : List Tk) (p : Option Addr) (cap : Nat) (w : World) : Prop where
  lies : ∀ W, Below w.heap.size w W → TkIn W (.slice p ts.length cap) ts
  cap : ts.length ≤ cap
  n : ts.length ≤ 2147483648
  fits : ∀ k (h : k < ts.length), Fits ts[k]
theorem Lies.up {ts : List Tk} {p : Option Addr} {cap : Nat} {w W : World} (h : Lies ts p cap w) (hb : Below w.heap.size w W) : Lies ts p cap W :=
  ⟨fun X hX => h.lies X (hb.trans (hX.mono hb.size)), h.cap, h.n, h.fits⟩
theorem enter_write1 : ∀ args w, (callFunc 10 args).run Tryz.prog w = .ok (.enter 10 args) w := enters_of Tryz.func10 (by kernel_rfl) rfl
set_option maxHeartbeats 2000000 in
set_option maxRecDepth 100000 in
theorem wclosure_c (ts : List Tk) (p : Option Addr) (cap : Nat) (sb : Nat) (w : World) (h : Lies ts p cap w) (hs : w.cell? ⟨sb, 0, none⟩ = some (.slice p ts.length cap)) (hT : Tabs w) (hM : Tkc.MaxAt w) :
    Calls Tryz.prog 10 #[.pointer (some ⟨sb, 0, none⟩)] w fun e W => Below w.heap.size w W ∧ ((∃ n, e = Fault n ∧ n ≠ 0) ∨ ∃ v, e = .returned v ∧ WroteV ts v) := by
  have hw := written_c ts p cap w h.lies h.cap h.n h.fits hT hM
  obtain ⟨n, hn⟩ : ∃ n, n = ts.length := ⟨_, rfl⟩
  rw [← hn] at hs hw
  clear hn h hT hM
  go_enter Tryz.func10, Tryz.ntmps10
  go_wp2_with fail
  refine hw.mono ?_
  clear hw
  rintro e w1 ⟨⟨rfl, h1, h2, h3⟩ | ⟨n, rfl, hn⟩, hb⟩
  · have H := Lib.hid (And.intro h1 (And.intro h2 (And.intro h3 hb)))
    clear h1 h2 h3 hb
    go_wp2_with fail
    go_ret
    exact ⟨H.out.2.2.2, .inr ⟨_, rfl, rfl, H.out.1, H.out.2.1, H.out.2.2.1⟩⟩
  · exact ⟨rfl, hb, .inl ⟨n, rfl, hn⟩⟩
set_option maxHeartbeats 2000000 in
set_option maxRecDepth 100000 in
theorem wrote_c (ts : List Tk) (p : Option Addr) (cap : Nat) (w : World) (h : Lies ts p cap w) (hT : Tabs w) (hM : Tkc.MaxAt w) :
    Calls Tryz.prog 5 #[.slice p ts.length cap] w fun e w' => WriteTo ts e ∧ Below w.heap.size w w' := by
  have hb1 : Below w.heap.size w (w.alloc (.cells #[.slice p ts.length cap] 22)) := (Below.refl _ w).alloc (Nat.le_refl _) _
  have hs1 : (w.alloc (.cells #[.slice p ts.length cap] 22)).heap.size = w.heap.size + 1 := Array.size_push _
  have hx1 : (w.alloc (.cells #[.slice p ts.length cap] 22)).cell? ⟨w.heap.size, 0, none⟩ = some (.slice p ts.length cap) := (cell_of_row _ _ 0 _ _ _ (heap_alloc_new w _)).trans rfl
  have hL1 := h.up hb1
  have hT1 := hT.kept hb1
  have hM1 := hM.kept hb1
  have HW := Lib.hid (And.intro hb1 hs1)
  obtain ⟨w1, hw1⟩ : ∃ w1, w1 = w.alloc (.cells #[.slice p ts.length cap] 22) := ⟨_, rfl⟩
  rw [← hw1] at hb1 hs1 hx1 hL1 hT1 hM1 HW
  have hb2 : Below w1.heap.size w1 (errBox w1) := (Below.refl _ w1).alloc (Nat.le_refl _) _
  have hc := caught_any 10 #[.pointer (some ⟨w.heap.size, 0, none⟩)] w1 (fun n _ => n ≠ 0) (fun v _ => WroteV ts v) enter_write1
    (wclosure_c ts p cap w.heap.size (errBox w1) (hL1.up hb2) ((hb2.cell (p := ⟨w.heap.size, 0, none⟩) (by rw [hs1]; exact Nat.lt_succ_self _)).trans hx1) (hT1.kept hb2) (hM1.kept hb2))
  rw [hw1] at hc
  obtain ⟨n, hn⟩ : ∃ n, n = ts.length := ⟨_, rfl⟩
  rw [← hn] at hc hw1 ⊢
  clear hb1 hs1 hx1 hL1 hT1 hM1 hb2 h hT hM hn
  go_enter Tryz.func5, Tryz.ntmps5
  go_wp2_with fail
  refine hc.mono ?_
  clear hc
  rw [← hw1]
  rintro e2 w2 ⟨W, hbW, _, (⟨n, rfl, hn⟩ | ⟨v, rfl, hv⟩)⟩
  · have hb := HW.out.1.trans (hbW.mono (by rw [HW.out.2]; omega))
    have HN := Lib.hid (And.intro hn hb)
    clear hbW hw1 hn hb
    go_wp2_with fail
    go_ret2
    exact ⟨.inr ⟨_, rfl, HN.out.1⟩, HN.out.2⟩
  · have hb := HW.out.1.trans (hbW.mono (by rw [HW.out.2]; omega))
    have HN := Lib.hid (And.intro hv hb)
    obtain ⟨rfl, _, _, _⟩ := hv
    clear hbW hw1 hb
    go_wp2_with fail
    go_ret2
    exact ⟨.inl ⟨_, rfl, HN.out.1⟩, HN.out.2⟩
end Go.Proofs.YtidfcajhmldieaaGreatDoor.Tkw
