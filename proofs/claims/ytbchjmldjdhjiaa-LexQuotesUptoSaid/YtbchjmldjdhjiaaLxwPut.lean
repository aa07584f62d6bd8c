/-
  Contract of the cutter's putText: the text that was seen as a piece.
-/
import Derived.Test.YtbchjmldjdhjiaaLxwBox
namespace Go.Proofs.Ytbchjmldjdhjiaa.Lxw
open Go.RowKit Go.Proofs.Ytbchjmldjdhjiaa.Oct Go.Proofs.Ytbchjmldjdhjiaa.Lex

theorem info_item : (Try.prog.info? 34).map (fun i => (i.zero, i.size, i.bytes)) = some (some (.agg #[.int .i64 0, .string ⟨#[]⟩, .int .i64 0]), 3, 32) := by kernel_rfl
theorem push_item (i : It) : ∀ u ∈ itCs i, u.oneCell' = true := by
  intro u hu
  simp only [List.mem_cons, List.not_mem_nil, or_false] at hu
  rcases hu with rfl | rfl | rfl <;> rfl
theorem grown_drew {w w' : World} {b : Option Nat} (h : w.drew.grownBy w' b) : w.grownBy w' b := ⟨h.os, h.tape, h.output, h.size, h.block⟩
/-- A piece is put to the pieces. -/
theorem Ct.push {R B : Nat} {l : List UInt8} {k : Nat} {t : List UInt8} {p : Nat} {v v' : Value} {its : List It} {w w3 : World} (h : Ct R B l k t p v its w) (i : It) (o : Obj)
    (hown : w3.ownsRow B 34 3 v' (its.length + 1) (its.flatMap itCs ++ itCs i)) (hg : (w.alloc o).grownBy w3 v.ownBlock) :
    Ct R B l k t p v' (its ++ [i]) (w3.setCell ⟨R, 4, none⟩ v') ∧ Kp R B w (w3.setCell ⟨R, 4, none⟩ v') ∧ w3.cell? ⟨R, 4, none⟩ = some v ∧ w3.frozen? ⟨R, 4, none⟩ = false := by
  have hal : Below w.heap.size w (w.alloc o) := (Below.refl _ w).alloc (Nat.le_refl _) _
  have ha := h.keep hal
  have hlt := ha.lt
  have hR := h.hR
  have hlow := h.low
  have hne : some R ≠ v.ownBlock := fun e => by have := own_ge h.out R e.symm; omega
  have hb : w3.heap[R]? = (w.alloc o).heap[R]? := hg.block R hlt hne
  have hsz : w.heap.size ≤ w3.heap.size := Nat.le_trans hal.size hg.size
  refine ⟨⟨?_, ?_, hR, by simp [World.setCell]; omega⟩, ?_, (cell_of_row w3 R 4 _ _ _ (hb.trans ha.box)).trans rfl, frozen_of_row w3 R 4 _ _ (hb.trans ha.box)⟩
  · exact heap_setCell_same w3 R 4 _ _ v' (hb.trans ha.box)
  · show World.ownsRow _ _ _ _ _ _ _
    rw [List.length_append, List.length_singleton, List.flatMap_append]
    refine own_set hR ?_
    simpa using hown
  · refine kp_set _ ⟨hg.os.trans hal.os, hg.tape.trans hal.tape, hg.output.trans hal.output, hsz, fun k hk hkR => ?_⟩
    have hkw : k < w.heap.size := by omega
    exact (hg.block k (Nat.lt_of_lt_of_le hkw hal.size) (fun e => by have := own_ge h.out k e.symm; omega)).trans (hal.block k hkw)

set_option maxHeartbeats 2000000 in
set_option maxRecDepth 100000 in
theorem putText_c {R B : Nat} {l : List UInt8} {k : Nat} {t : List UInt8} {p : Nat} {v : Value} {its : List It} (ht : t.length ≤ 16384) (hn : its.length ≤ 65536) (w : World) (h : Ct R B l k t p v its w) :
    Calls Try.prog 33 #[.pointer (some ⟨R, 0, none⟩)] w fun e w' => e = .returned (.tuple #[]) ∧ ∃ v', Ct R B l k [] p v' (its ++ pieceL t p) w' ∧ Kp R B w w' := by
  have hlow := h.low
  have hte : (S t).toList.isEmpty = t.isEmpty := by rw [ByteArray.toList_eq, list_S]
  by_cases hemp : t = []
  · have he : t.isEmpty = true := by rw [hemp]; rfl
    have e : pieceL t p = [] := if_pos hemp
    rw [e, List.append_nil]
    obtain ⟨c0, c1, c2, c3, c4, z1, z2, z3, z4⟩ := h.cells
    have HW := Lib.hid h
    clear h hemp e
    go_enter Try.func33, Try.ntmps33
    go_wp2_with fail
    go_end0
    exact ⟨rfl, v, HW.out.text [], kp_set _ (Kp.refl R B w)⟩
  · have he : t.isEmpty = false := by cases t with | nil => exact absurd rfl hemp | cons c t => rfl
    have e : pieceL t p = [⟨1, t, p⟩] := if_neg hemp
    rw [e]
    obtain ⟨vp, vc, rfl⟩ := own_shape h.out
    have hcl := Oct.clone_c (S t) w (by rw [size_S]; omega)
    obtain ⟨c0, c1, c2, c3, c4, z1, z2, z3, z4⟩ := h.cells
    have HW := Lib.hid h
    clear h hemp e
    go_enter Try.func33, Try.ntmps33
    go_wp2_with (go_at_call 56; refine hcl.mono ?_; rintro e w1 ⟨rfl, hb1⟩)
    have H1 := Lib.hid (And.intro (HW.out.keep hb1) (kp_of (R := R) hb1 hlow))
    clear c0 c1 c2 c3 c4 z1 z2 z3 z4 hb1
    obtain ⟨c0, c1, c2, c3, c4, z1, z2, z3, z4⟩ := H1.out.1.cells
    have HA := Lib.hid (H1.out.1.keep ((Below.refl _ w1).alloc (Nat.le_refl _) (.cells (itCs ⟨1, t, p⟩).toArray 34))).cells
    have x3 : (w1.alloc (.cells #[.int .i64 1, .string (S t), .int .i64 (p : Int)] 34)).cell? ⟨R, 3, none⟩ = some (.int .i64 (p : Int)) := HA.out.c3
    have x4 : (w1.alloc (.cells #[.int .i64 1, .string (S t), .int .i64 (p : Int)] 34)).cell? ⟨R, 4, none⟩ = some (.slice vp its.length vc) := HA.out.c4
    have hR1 : B ≤ w1.heap.size := H1.out.1.low
    obtain ⟨i0, hi, hz0, hz1, hz2⟩ := info_parts info_item
    have HOne := Lib.hid (push_item ⟨1, t, p⟩)
    go_region_law (first
      | (refine step_append_lies _ rfl (.tmp 17) (.tmp 24) 29 rfl B 34 i0 _ 3 32 Try.underlying29 hi hz0 hz1 hz2 rfl (by omega) (.slice vp its.length vc) its.length (its.flatMap itCs) (by simp [Act.eval]) (H1.out.1.out.alloc _) ⟨w1.heap.size, 0, none⟩ 1 1 (itCs ⟨1, t, p⟩) (by simp [Act.eval]) rfl (push_cells (cs := itCs ⟨1, t, p⟩)) HOne.out (by omega) (by unfold maxLen; omega) (by omega) (by simp; omega) (w1.heap.size + 1) (by simp) ?_; intro g cp wB hownB hgB hatB hltB; obtain ⟨p1, p2, p3, p4⟩ := H1.out.1.push ⟨1, t, p⟩ _ hownB (grown_drew hgB); have HP := Lib.hid (And.intro p1 (H1.out.2.trans p2)); clear p1 p2 hownB hgB hatB hltB))
    all_goals
      clear c0 c1 c2 c3 c4 z1 z2 z3 z4 x3 x4 p3 p4
      generalize World.setCell wB _ _ = w4 at HP ⊢
      obtain ⟨c0, c1, c2, c3, c4, z1, z2, z3, z4⟩ := HP.out.1.cells
      go_wp2_with fail
      go_end0
      exact ⟨rfl, _, HP.out.1.text [], kp_set _ HP.out.2⟩
end Go.Proofs.Ytbchjmldjdhjiaa.Lxw
