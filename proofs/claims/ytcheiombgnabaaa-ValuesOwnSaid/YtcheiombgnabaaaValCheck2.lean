/-
  Contracts of values.fault, values.checkAt and values.Check at a number that is 1 or 2 and at the list of the two; of the law's own 'alive'.
-/
import Derived.Test.YtcheiombgnabaaaValCheck
import Derived.Test.YtcheiombgnabaaaValMade
namespace Go.Proofs.Ytcheiombgnabaaa.Val
open Go.RowKit Go.Proofs.Ytcheiombgnabaaa.Oct Go.Proofs.Ytcheiombgnabaaa.Num Go.Proofs.Ytcheiombgnabaaa.Build

theorem five5 {X Y : World} {u0 u1 u2 u3 u4 : Value} (h : Below (X.alloc (.cells #[u0, u1, u2, u3, u4] 25)).heap.size (X.alloc (.cells #[u0, u1, u2, u3, u4] 25)) Y) :
    (Y.cell? ⟨X.heap.size, 0, none⟩ = some u0 ∧ Y.cell? ⟨X.heap.size, 1, none⟩ = some u1 ∧ Y.cell? ⟨X.heap.size, 2, none⟩ = some u2 ∧ Y.cell? ⟨X.heap.size, 3, none⟩ = some u3 ∧ Y.cell? ⟨X.heap.size, 4, none⟩ = some u4) ∧ Below X.heap.size X Y := by
  have e : Y.heap[X.heap.size]? = some (.cells #[u0, u1, u2, u3, u4] 25 (0, 0)) := (h.block _ (by simp)).trans (heap_alloc_new X _)
  exact ⟨⟨cell_of_row Y _ 0 _ _ _ e, cell_of_row Y _ 1 _ _ _ e, cell_of_row Y _ 2 _ _ _ e, cell_of_row Y _ 3 _ _ _ e, cell_of_row Y _ 4 _ _ _ e⟩, ((Below.refl _ X).alloc (Nat.le_refl _) _).trans (h.mono (by simp))⟩

abbrev startV (X : World) (u0 u1 u2 u3 u4 : Value) : World := X.alloc (.cells #[u0, u1, u2, u3, u4] 25)

set_option maxHeartbeats 2000000 in
set_option maxRecDepth 100000 in
theorem fault_int (n d : Int) (hn : n = 1 ∨ n = 2) (w : World) : Calls Try.prog 44 #[intV n, .int .i64 d] w fun e w' => e = .returned (.int .i64 0) ∧ Below w.heap.size w w' := by
  have hw : (betweenB 3 0 11) = true := rfl
  have hi := within_c 3 0 11 (startV w (.int .i64 3) (.int .i64 n) (.string ⟨#[]⟩) (.slice none 0 0) (.slice none 0 0))
  rw [hw] at hi
  clear hw
  go_enter Try.func44, Try.ntmps44
  go_wp2_with (first
    | (go_at_call 49; refine (nests_c 3 _ (.inl rfl)).mono ?_; rintro e w1 ⟨rfl, rfl⟩)
    | (go_at_call 36; refine hi.mono ?_; rintro e w2 ⟨rfl, rfl⟩)
    | (go_at_call 50; refine (unused_int n hn _).mono ?_; rintro e w3 ⟨rfl, h3⟩; obtain ⟨⟨x0, x1, x2, x3, x4⟩, b3⟩ := five5 h3)
    | (go_at_call 51; refine (keysFit_int n _).mono ?_; rintro e w4 ⟨rfl, h4⟩))
  go_ret
  exact ⟨rfl, b3.trans (h4.mono b3.size)⟩

set_option maxHeartbeats 2000000 in
set_option maxRecDepth 100000 in
theorem fault_pair (bk : Nat) (w : World) : Calls Try.prog 44 #[pairV bk, .int .i64 1] w fun e w' => e = .returned (.int .i64 0) ∧ Below w.heap.size w w' := by
  have hw : (betweenB 5 0 11) = true := rfl
  have hi := within_c 5 0 11 (startV w (.int .i64 5) (.int .i64 0) (.string ⟨#[]⟩) (.slice (some ⟨bk, 0, none⟩) 2 2) (.slice none 0 0))
  rw [hw] at hi
  clear hw
  go_enter Try.func44, Try.ntmps44
  go_wp2_with (first
    | (go_at_call 49; refine (nests_c 5 _ (.inr rfl)).mono ?_; rintro e w1 ⟨rfl, rfl⟩)
    | (go_at_call 36; refine hi.mono ?_; rintro e w2 ⟨rfl, rfl⟩)
    | (go_at_call 50; refine (unused_pair bk _).mono ?_; rintro e w3 ⟨rfl, h3⟩; obtain ⟨⟨x0, x1, x2, x3, x4⟩, b3⟩ := five5 h3)
    | (go_at_call 51; refine (keysFit_pair bk _).mono ?_; rintro e w4 ⟨rfl, h4⟩))
  go_ret
  exact ⟨rfl, b3.trans (h4.mono b3.size)⟩

set_option maxHeartbeats 2000000 in
set_option maxRecDepth 100000 in
theorem checkAt_int (n d : Int) (hn : n = 1 ∨ n = 2) (w : World) : Calls Try.prog 34 #[intV n, .int .i64 d] w fun e w' => e = .returned (.int .i64 0) ∧ Below w.heap.size w w' := by
  go_enter Try.func34, Try.ntmps34
  go_wp2_with (go_at_call 44; refine (fault_int n d hn _).mono ?_; rintro e w1 ⟨rfl, h1⟩; obtain ⟨⟨x0, x1, x2, x3, x4⟩, b1⟩ := five5 h1; have H1 := Lib.hid b1; clear h1 b1)
  go_loopw [7, 8, 18] (fun _ _ i wr => i = .int .i64 0 ∧ wr = w1) (fun _ _ _ _ => 0)
  case atStart => exact ⟨rfl, rfl⟩
  case round =>
    obtain ⟨rfl, rfl⟩ := hrel
    go_wp2
    go_ret
    exact ⟨rfl, H1.out⟩

set_option maxHeartbeats 2000000 in
set_option maxRecDepth 100000 in
theorem checkAt_pair (bk : Nat) (w : World) (hI : Ints bk 0 [1, 2] w) : Calls Try.prog 34 #[pairV bk, .int .i64 1] w fun e w' => e = .returned (.int .i64 0) ∧ Below w.heap.size w w' := by
  have HI := Lib.hid hI
  have hlt : bk < w.heap.size := by
    obtain ⟨⟨cur, fz, h⟩, _⟩ := hI
    exact (Array.getElem?_eq_some_iff.1 h).1
  clear hI
  go_enter Try.func34, Try.ntmps34
  go_wp2_with (go_at_call 44; refine (fault_pair bk _).mono ?_; rintro e w1 ⟨rfl, h1⟩; obtain ⟨⟨x0, x1, x2, x3, x4⟩, b1⟩ := five5 h1; have H1 := Lib.hid b1; clear h1 b1)
  go_loopw [7, 8, 18] (fun _ _ i wr => ∃ k : Nat, k ≤ 2 ∧ i = .int .i64 k ∧ Hid (Below w.heap.size w wr)) (fun _ _ i _ => 2 - (intOf i).toNat)
  case atStart => exact ⟨0, by omega, rfl, H1⟩
  case round =>
    obtain ⟨k, hk, rfl, hb⟩ := hrel
    by_cases hlt2 : k < 2
    · have hcs := HI.out.2 k (by simpa using hlt2)
      have e : ∀ o, wr.cell? ⟨bk, o, none⟩ = w.cell? ⟨bk, o, none⟩ := fun o => hb.out.cell (p := ⟨bk, o, none⟩) hlt
      rw [← e, ← e, ← e, ← e, ← e, Nat.zero_add] at hcs
      obtain ⟨c0, c1, c2, c3, c4⟩ := hcs
      obtain ⟨m, hm⟩ : ∃ m, ([1, 2] : List Int).getD k 0 = m := ⟨_, rfl⟩
      have hmn : m = 1 ∨ m = 2 := by
        rcases (show k = 0 ∨ k = 1 by omega) with rfl | rfl
        · exact .inl (by rw [← hm]; rfl)
        · exact .inr (by rw [← hm]; rfl)
      rw [hm] at c1
      have h1 : (0 : Int) ≤ (k : Int) := by omega
      have h2 : (k : Int) < 2 := by omega
      clear hm e
      go_wp2_with (go_at_call 34; refine (checkAt_int m _ hmn _).mono ?_; rintro e w2 ⟨rfl, h2⟩)
      go_roundw
      case rel => exact ⟨k + 1, by omega, by go_num, hb.out.trans ((five5 h2).2.mono hb.out.size)⟩
      case measure => simp [intOf]; omega
    · have hkn : k = 2 := by omega
      subst hkn
      go_wp2
      go_ret
      exact ⟨rfl, hb.out⟩

theorem check_pair (bk : Nat) (w : World) (hI : Ints bk 0 [1, 2] w) : Calls Try.prog 22 #[pairV bk] w fun e w' => e = .returned (.int .i64 0) ∧ Below w.heap.size w w' := by
  have b0 : Below w.heap.size w (startV w (.int .i64 5) (.int .i64 0) (.string ⟨#[]⟩) (.slice (some ⟨bk, 0, none⟩) 2 2) (.slice none 0 0)) := (Below.refl _ w).alloc (Nat.le_refl _) _
  have hlt : bk < w.heap.size := by
    obtain ⟨⟨cur, fz, h⟩, _⟩ := hI
    exact (Array.getElem?_eq_some_iff.1 h).1
  have hc := checkAt_pair bk _ (hI.kept (b := w.heap.size) (by omega) ((Lib.OthersKept.refl _ _ w).below b0))
  clear hI
  go_enter Try.func22, Try.ntmps22
  go_wp2_with (go_at_call 34; refine hc.mono ?_; rintro e w1 ⟨rfl, h1⟩)
  go_ret
  exact ⟨rfl, b0.trans (h1.mono b0.size)⟩
end Go.Proofs.Ytcheiombgnabaaa.Val
