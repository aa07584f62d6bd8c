/-
  Contract of Items of package lex, at every text.
-/
import Derived.Test.YtbchjmldjdhjiaaLxwCut
import Derived.Test.YtbchjmldjdhjiaaLxwCaught
namespace Go.Proofs.Ytbchjmldjdhjiaa.Lxw
open Go.RowKit Go.Proofs.Ytbchjmldjdhjiaa.Oct Go.Proofs.Ytbchjmldjdhjiaa.Lex
open Go.Proofs.Ytbchjmldjdhjiaa.LxwI (errBox But)

/-- What Items answers. -/
inductive ItemsTo (B : Nat) (l : List UInt8) (e : Ending) (w : World) : Prop
  | long (h : 16384 < l.length) (he : e = .returned (.tuple #[.slice none 0 0, .int .i64 0, .int .i64 5]))
  | fault (h : l.length ≤ 16384) (k : Nat) (hi : itemsL l = .error k) (he : e = .returned (.tuple #[.slice none 0 0, .int .i64 (k : Int), .int .i64 8]))
  | done (h : l.length ≤ 16384) (v : Value) (its : List It) (hi : itemsL l = .ok its) (he : e = .returned (.tuple #[v, .int .i64 (l.length : Int), .int .i64 0])) (ho : ItR B w v its)
theorem enter_cut : ∀ args w, (callFunc 20 args).run Try.prog w = .ok (.enter 20 args) w := enters_of Try.func20 (by kernel_rfl) rfl
abbrev cutBox (l : List UInt8) (w : World) : World := w.alloc (.cells #[.string (S l), .int .i64 0, .string ⟨#[]⟩, .int .i64 0, .slice none 0 0] 54)
theorem but_below {r : Nat} {a W w' : World} {n : Nat} (h : Below n a W) (hn : n ≤ r) (hW : n ≤ W.heap.size) (hb : But r W w') : Below n a w' :=
  ⟨hb.os.trans h.os, hb.tape.trans h.tape, hb.output.trans h.output, Nat.le_trans h.size hb.size, fun k hk => (hb.block k (by omega) (by omega)).trans (h.block k hk)⟩

set_option maxHeartbeats 1000000 in
set_option maxRecDepth 100000 in
theorem items_c (l : List UInt8) (w : World) (hM : MaxAt w) :
    Calls Try.prog 11 #[.string (S l)] w fun e w' => ItemsTo w.heap.size l e w' ∧ Below w.heap.size w w' := by
  have hsz : ((S l).size : Int) = (l.length : Int) := by rw [size_S]
  by_cases hl : 16384 < l.length
  · have hli : 16384 < (l.length : Int) := by omega
    have hd : decide (16384 < (l.length : Int)) = true := decide_eq_true hli
    have HL := Lib.hid hl
    clear hl hM
    generalize S l = L at *
    go_enter Try.func11, Try.ntmps11
    go_wp2_with fail
    go_ret3
    exact ⟨.long HL.out rfl, Below.refl _ _⟩
  · have hli : ¬ (16384 < (l.length : Int)) := by omega
    have hd : decide (16384 < (l.length : Int)) = false := decide_eq_false hli
    have hll : l.length ≤ 16384 := by omega
    have hb1 : Below w.heap.size w (cutBox l w) := (Below.refl _ w).alloc (Nat.le_refl _) _
    have hs1 : (cutBox l w).heap.size = w.heap.size + 1 := Array.size_push _
    have hb2 : Below (cutBox l w).heap.size (cutBox l w) (errBox (cutBox l w)) := (Below.refl _ _).alloc (Nat.le_refl _) _
    have hs2 : (errBox (cutBox l w)).heap.size = w.heap.size + 2 := (Array.size_push _).trans (by rw [hs1])
    have hct : Ct w.heap.size (w.heap.size + 2) l 0 [] 0 (.slice none 0 0) [] (errBox (cutBox l w)) :=
      ⟨(hb2.block w.heap.size (by rw [hs1]; exact Nat.lt_succ_self _)).trans (heap_alloc_new w _), World.ownsRow_nil _ _ _ _, by omega, by rw [hs2]; exact Nat.le_refl _⟩
    have hlt0 : 0 < w.heap.size := by
      obtain ⟨m, hm⟩ := hM
      exact World.block_lt_of_cell? _ _ hm
    have hb12 : Below w.heap.size w (errBox (cutBox l w)) := hb1.trans (hb2.mono (by rw [hs1]; exact Nat.le_succ _))
    have hcut := cut_all hll (errBox (cutBox l w)) hct (hM.kept hb12) hlt0
    have herr : (errBox (cutBox l w)).heap[w.heap.size + 1]? = some (.cells #[.int .i64 0] 25 (0, 0)) := by
      have := heap_alloc_new (cutBox l w) (.cells #[.int .i64 0] 25)
      rw [hs1] at this
      exact this
    have hc := LxwI.caught_any 20 #[.pointer (some ⟨w.heap.size, 0, none⟩)] (cutBox l w)
      (fun n W => n = 8 ∧ Below w.heap.size w W ∧ ∃ k : Nat, itemsL l = .error k ∧ W.cell? ⟨w.heap.size, 1, none⟩ = some (.int .i64 (k : Int)) ∧ w.heap.size < W.heap.size)
      (fun v W => Below w.heap.size w W ∧ ∃ its, itemsL l = .ok its ∧ ItR (w.heap.size + 2) W v its) enter_cut (hcut.mono (by
        intro e W hW
        have hk : Kp w.heap.size (w.heap.size + 2) (errBox (cutBox l w)) W := by cases hW with | fault _ _ _ _ hb => exact hb | done _ _ _ _ _ hb => exact hb
        have hbW : Below w.heap.size w W := hb12.trans (hk.below (by omega))
        refine ⟨?_, ?_⟩
        · rw [hs1]
          exact (hk.block _ (by omega) (by omega)).trans herr
        · cases hW with
          | fault k hi he hcell hb => exact .inl ⟨8, he, rfl, hbW, k, hi, hcell, by have := hb.size; omega⟩
          | done v its hi he ho hb => exact .inr ⟨v, he, hbW, its, hi, ho⟩))
    rw [hs1] at hc
    have HLl := Lib.hid hll
    clear hb1 hs1 hb2 hs2 hct hb12 hcut herr hl hM hlt0 hll
    go_enter Try.func11, Try.ntmps11
    go_wp2_with fail
    refine hc.mono ?_
    clear hc
    rintro e w2 ⟨W, hbut, (⟨n, rfl, rfl, hbW, k, hi, hcell, hsW⟩ | ⟨v, rfl, hbW, its, hi, ho⟩)⟩
    · have hcell2 : w2.cell? ⟨w.heap.size, 1, none⟩ = some (.int .i64 (k : Int)) := by
        have e := hbut.block w.heap.size hsW (by omega)
        have e2 : w2.cell? ⟨w.heap.size, 1, none⟩ = W.cell? ⟨w.heap.size, 1, none⟩ := by simp only [World.cell?, e]
        exact e2.trans hcell
      have HB := Lib.hid (And.intro hi (but_below hbW (Nat.le_succ _) (Nat.le_of_lt hsW) hbut))
      clear hi hbut hbW hcell
      go_wp2_with fail
      go_region
      all_goals go_wp2_with fail
      all_goals go_ret3
      all_goals exact ⟨.fault HLl.out k HB.out.1 rfl, HB.out.2.drew⟩
    · have HB := Lib.hid (And.intro hi (And.intro (but_below hbW (Nat.le_succ _) hbW.size hbut) (own_less (own_same ho fun b hb he => hbut.block b (own_lt ho b he) (by omega)) (Nat.le_add_right w.heap.size 2))))
      clear hi hbut hbW ho
      go_wp2_with fail
      go_ret3
      exact ⟨.done HLl.out v its HB.out.1 rfl HB.out.2.2, HB.out.2.1⟩
end Go.Proofs.Ytbchjmldjdhjiaa.Lxw
