/-
  Contract of Words of package lex where a text in quotes is all that there is.
-/
import Derived.Test.YtbchjmldjdhjiaaLxwWord
namespace Go.Proofs.Ytbchjmldjdhjiaa.Lxw
open Go.RowKit Go.Proofs.Ytbchjmldjdhjiaa.Oct Go.Proofs.Ytbchjmldjdhjiaa.Lex
open Go.Proofs.Ytbchjmldjdhjiaa.LxwW (errBox But)

theorem enter_words : ∀ args w, (callFunc 18 args).run Try.prog w = .ok (.enter 18 args) w := enters_of Try.func18 (by kernel_rfl) rfl
abbrev readBox (l : List UInt8) (b : Int) (w : World) : World := w.alloc (.cells #[.string (S l), .int .i64 b, .int .i64 0, .int .i64 0] 49)
theorem butw_below {r : Nat} {a W w' : World} {n : Nat} (h : Below n a W) (hn : n ≤ r) (hW : n ≤ W.heap.size) (hb : But r W w') : Below n a w' :=
  ⟨hb.os.trans h.os, hb.tape.trans h.tape, hb.output.trans h.output, Nat.le_trans h.size hb.size, fun k hk => (hb.block k (by omega) (by omega)).trans (h.block k hk)⟩
set_option maxHeartbeats 1000000 in
set_option maxRecDepth 100000 in
theorem words_text {l t : List UInt8} (hlt : l = 34 :: t) (hl : l.length ≤ 4194304) {x : List UInt8} (hs : strL t = some (x, [])) (w : World) :
    Calls Try.prog 9 #[.string (S l), .int .i64 0] w fun e w' => Below w.heap.size w w' ∧ ((x.length ≤ 4096 ∧ ∃ v, e = .returned (.tuple #[v, .int .i64 0, .int .i64 0]) ∧ w'.ownsRow w.heap.size 33 3 v 1 (wdCs x 0)) ∨ (4096 < x.length ∧ e = .returned (.tuple #[.slice none 0 0, .int .i64 0, .int .i64 5]))) := by
  have hb1 : Below w.heap.size w (readBox l 0 w) := (Below.refl _ w).alloc (Nat.le_refl _) _
  have hs1 : (readBox l 0 w).heap.size = w.heap.size + 1 := Array.size_push _
  have hb2 : Below (readBox l 0 w).heap.size (readBox l 0 w) (errBox (readBox l 0 w)) := (Below.refl _ _).alloc (Nat.le_refl _) _
  have hs2 : (errBox (readBox l 0 w)).heap.size = w.heap.size + 2 := (Array.size_push _).trans (by rw [hs1])
  have hrx : Rx w.heap.size l 0 ((0 : Nat) : Int) 0 (errBox (readBox l 0 w)) := (hb2.block w.heap.size (by rw [hs1]; exact Nat.lt_succ_self _)).trans (heap_alloc_new w _)
  have hb12 : Below w.heap.size w (errBox (readBox l 0 w)) := hb1.trans (hb2.mono (by rw [hs1]; exact Nat.le_succ _))
  have hwo := words_one hlt hl (by decide) (by decide) hs (errBox (readBox l 0 w)) hrx
  have herr : (errBox (readBox l 0 w)).heap[w.heap.size + 1]? = some (.cells #[.int .i64 0] 25 (0, 0)) := by
    have := heap_alloc_new (readBox l 0 w) (.cells #[.int .i64 0] 25)
    rw [hs1] at this
    exact this
  have hc := LxwW.caught_any 18 #[.pointer (some ⟨w.heap.size, 0, none⟩)] (readBox l 0 w)
    (fun n W => n = 5 ∧ Below w.heap.size w W ∧ 4096 < x.length ∧ W.cell? ⟨w.heap.size, 3, none⟩ = some (.int .i64 0) ∧ w.heap.size < W.heap.size)
    (fun v W => Below w.heap.size w W ∧ x.length ≤ 4096 ∧ W.ownsRow (w.heap.size + 2) 33 3 v 1 (wdCs x 0)) enter_words (hwo.mono (by
      rintro e W ⟨hk, hW⟩
      have hbW : Below w.heap.size w W := hb12.trans (hk.kp.below (by omega))
      refine ⟨?_, ?_⟩
      · rw [hs1]
        exact (hk.block _ (by omega) (by omega)).trans herr
      · rcases hW with ⟨hx, v, he, ho⟩ | ⟨hx, he, hcell⟩
        · rw [hs2] at ho
          exact .inr ⟨v, he, hbW, hx, ho⟩
        · exact .inl ⟨5, he, rfl, hbW, hx, hcell, by have := hk.size; omega⟩))
  rw [hs1] at hc
  clear hb1 hs1 hb2 hs2 hrx hb12 hwo herr hs hlt
  go_enter Try.func9, Try.ntmps9
  go_wp2_with fail
  refine hc.mono ?_
  clear hc
  rintro e w2 ⟨W, hbut, (⟨n, rfl, rfl, hbW, hx, hcell, hsW⟩ | ⟨v, rfl, hbW, hx, ho⟩)⟩
  · have hcell2 : w2.cell? ⟨w.heap.size, 3, none⟩ = some (.int .i64 0) := by
      have e := hbut.block w.heap.size hsW (by omega)
      have e2 : w2.cell? ⟨w.heap.size, 3, none⟩ = W.cell? ⟨w.heap.size, 3, none⟩ := by simp only [World.cell?, e]
      exact e2.trans hcell
    have HB := Lib.hid (And.intro hx (butw_below hbW (Nat.le_succ _) (Nat.le_of_lt hsW) hbut))
    clear hbut hbW hcell hx
    go_wp2_with fail
    go_region
    all_goals go_wp2_with fail
    all_goals go_ret3
    all_goals exact ⟨HB.out.2.drew, .inr ⟨HB.out.1, rfl⟩⟩
  · have HB := Lib.hid (And.intro hx (And.intro (butw_below hbW (Nat.le_succ _) hbW.size hbut) (own_less (own_same ho fun b hb he => hbut.block b (own_lt ho b he) (by omega)) (Nat.le_add_right w.heap.size 2))))
    clear hbut hbW ho hx
    go_wp2_with fail
    go_ret3
    exact ⟨HB.out.2.1, .inl ⟨HB.out.1, v, rfl, HB.out.2.2⟩⟩
end Go.Proofs.Ytbchjmldjdhjiaa.Lxw
