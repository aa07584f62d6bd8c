/-
  The law's own 'alive': the page's example holds.
-/
import Derived.Test.YtcheiombgnabaaaValTold2
import Derived.Test.YtcheiombgnabaaaValCheck2
namespace Go.Proofs.Ytcheiombgnabaaa.Val
open Go.RowKit Go.Proofs.Ytcheiombgnabaaa.Oct Go.Proofs.Ytcheiombgnabaaa.Num Go.Proofs.Ytcheiombgnabaaa.Build

theorem list12 : listL [1, 2] = [91, 49, 32, 50, 93] := by
  have e1 : printL 1 = [49] := by unfold printL; rw [if_neg (by decide), show (1 : Int).natAbs = 1 from rfl, decL_lt (by omega)]; rfl
  have e2 : printL 2 = [50] := by unfold printL; rw [if_neg (by decide), show (2 : Int).natAbs = 2 from rfl, decL_lt (by omega)]; rfl
  simp [listL, joinAt, e1, e2]

/-- The world behind the list of two. -/
abbrev pairStart (X : World) : World :=
  (X.alloc (.cells #[.int .i64 3, .int .i64 1, .string ⟨#[]⟩, .slice none 0 0, .slice none 0 0, .int .i64 3, .int .i64 2, .string ⟨#[]⟩, .slice none 0 0, .slice none 0 0] 25)).alloc (.cells #[.int .i64 5, .int .i64 0, .string ⟨#[]⟩, .slice (some ⟨X.heap.size, 0, none⟩) 2 2, .slice none 0 0] 25)

theorem pair_ints {X Y : World} (h : Below (pairStart X).heap.size (pairStart X) Y) :
    Ints X.heap.size 0 [1, 2] Y ∧ (Y.cell? ⟨X.heap.size + 1, 0, none⟩ = some (.int .i64 5) ∧ Y.cell? ⟨X.heap.size + 1, 1, none⟩ = some (.int .i64 0) ∧ Y.cell? ⟨X.heap.size + 1, 2, none⟩ = some (.string ⟨#[]⟩) ∧ Y.cell? ⟨X.heap.size + 1, 3, none⟩ = some (.slice (some ⟨X.heap.size, 0, none⟩) 2 2) ∧ Y.cell? ⟨X.heap.size + 1, 4, none⟩ = some (.slice none 0 0)) ∧ Below X.heap.size X Y := by
  have z : (pairStart X).heap.size = X.heap.size + 2 := by simp
  have e0 : Y.heap[X.heap.size]? = some (.cells #[.int .i64 3, .int .i64 1, .string ⟨#[]⟩, .slice none 0 0, .slice none 0 0, .int .i64 3, .int .i64 2, .string ⟨#[]⟩, .slice none 0 0, .slice none 0 0] 25 (0, 0)) := by
    rw [h.block _ (by omega), Go.heap_alloc_old _ _ (by simp), heap_alloc_new]
  have e1 : Y.heap[X.heap.size + 1]? = some (.cells #[.int .i64 5, .int .i64 0, .string ⟨#[]⟩, .slice (some ⟨X.heap.size, 0, none⟩) 2 2, .slice none 0 0] 25 (0, 0)) := by
    rw [h.block _ (by omega)]
    have := heap_alloc_new (X.alloc (.cells #[.int .i64 3, .int .i64 1, .string ⟨#[]⟩, .slice none 0 0, .slice none 0 0, .int .i64 3, .int .i64 2, .string ⟨#[]⟩, .slice none 0 0, .slice none 0 0] 25)) (.cells #[.int .i64 5, .int .i64 0, .string ⟨#[]⟩, .slice (some ⟨X.heap.size, 0, none⟩) 2 2, .slice none 0 0] 25)
    rw [World.size_alloc] at this
    exact this
  refine ⟨⟨⟨_, _, e0⟩, fun i hi => ?_⟩, five' e1, (((Below.refl _ X).alloc (Nat.le_refl _) _).alloc (by simp) _).trans (h.mono (by omega))⟩
  rcases (show i = 0 ∨ i = 1 by simp at hi; omega) with rfl | rfl
  · exact ⟨cell_of_row Y _ 0 _ _ _ e0, cell_of_row Y _ 1 _ _ _ e0, cell_of_row Y _ 2 _ _ _ e0, cell_of_row Y _ 3 _ _ _ e0, cell_of_row Y _ 4 _ _ _ e0⟩
  · exact ⟨cell_of_row Y _ 5 _ _ _ e0, cell_of_row Y _ 6 _ _ _ e0, cell_of_row Y _ 7 _ _ _ e0, cell_of_row Y _ 8 _ _ _ e0, cell_of_row Y _ 9 _ _ _ e0⟩

theorem print_pair (bk : Nat) (W : World) (hI : Ints bk 0 [1, 2] W) : Calls Try.prog 20 #[pairV bk] W fun e w' => e = .returned (.string ⟨#[91, 49, 32, 50, 93]⟩) ∧ Below W.heap.size W w' := by
  have h := print_list [1, 2] 0 ⟨#[]⟩ bk 0 2 none 0 0 W (by rw [list12]; decide) (fun i => by
    rcases (show i = 0 ∨ i = 1 ∨ 2 ≤ i by omega) with rfl | rfl | h
    · simp
    · simp
    · simp [List.getD_eq_getElem?_getD, List.getElem?_eq_none (show ([1, 2] : List Int).length ≤ i by simpa using h)]) hI (by decide)
  rw [list12] at h
  exact h

set_option maxHeartbeats 2000000 in
set_option maxRecDepth 100000 in
theorem alive_c (w : World) : Calls Try.prog 5 #[] w fun e w' => e = .returned (.bool true) ∧ Below w.heap.size w w' := by
  go_enter Try.func5, Try.ntmps5
  go_wp2_with fail
  refine (int_c 1 _).mono ?_
  rintro e X1 ⟨rfl, h1⟩
  go_wp2_with fail
  refine (int_c 2 _).mono ?_
  rintro e X2 ⟨rfl, h2⟩
  have H2 := Lib.hid (h1.trans (h2.mono h1.size))
  clear h1 h2
  have hp := pair_ints (Below.refl (pairStart X2).heap.size (pairStart X2))
  have hc := print_pair X2.heap.size (pairStart X2) hp.1
  clear hp
  go_wp2_with fail
  refine hc.mono ?_
  rintro e X3 ⟨rfl, h3⟩
  obtain ⟨hI3, ⟨x0, x1, x2, x3, x4⟩, b3⟩ := pair_ints h3
  have H3 := Lib.hid (And.intro hI3 (And.intro h3 b3))
  clear hI3 h3 b3 hc
  go_wp2_with fail
  refine (truth_pair X2.heap.size X3).mono ?_
  rintro e X4 ⟨rfl, h4⟩
  have h4' := H3.out.2.1.trans (h4.mono H3.out.2.1.size)
  obtain ⟨hI4, ⟨y0, y1, y2, y3, y4⟩, b4⟩ := pair_ints h4'
  have hc4 := check_pair X2.heap.size X4 hI4
  have H4 := Lib.hid b4
  clear hI4 h4 h4' b4
  go_wp2_with fail
  refine hc4.mono ?_
  rintro e X5 ⟨rfl, h5⟩
  go_wp2_with fail
  refine (vnum_c _ _).mono ?_
  rintro e X6 ⟨rfl, rfl⟩
  go_wp2_with fail
  go_ret
  have b5 := H4.out.trans (h5.mono H4.out.size)
  exact ⟨rfl, H2.out.trans (b5.mono H2.out.size)⟩
end Go.Proofs.Ytcheiombgnabaaa.Val
