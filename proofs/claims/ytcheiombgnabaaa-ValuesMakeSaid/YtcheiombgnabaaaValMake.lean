/-
  The law ValuesMake: texts and numbers are values, out of the contracts of the calls that it makes.
-/
import Derived.Test.YtcheiombgnabaaaValDev
namespace Go.Proofs.Ytcheiombgnabaaa.Val
open Go.RowKit Go.Proofs.Ytcheiombgnabaaa.Oct Go.Proofs.Ytcheiombgnabaaa.Num Go.Proofs.Ytcheiombgnabaaa.Build

theorem rint_c (n : Int) (w : World) : Calls Try.prog 18 #[.int .i64 n] w fun e w' => e = .returned (intV n) ∧ Below w.heap.size w w' := by
  go_enter Try.func18, Try.ntmps18
  go_wp2
  refine bodyPost_ret (v := intV n) (by simp [results, Try.results18, go_sem]) rfl ?_
  exact ⟨rfl, (Below.refl _ w).alloc (Nat.le_refl _) _⟩
theorem rtext_c (s : ByteArray) (w : World) : Calls Try.prog 17 #[.string s] w fun e w' => e = .returned (textV s) ∧ Below w.heap.size w w' := by
  go_enter Try.func17, Try.ntmps17
  go_wp2
  refine bodyPost_ret (v := textV s) (by simp [results, Try.results17, go_sem]) rfl ?_
  exact ⟨rfl, (Below.refl _ w).alloc (Nat.le_refl _) _⟩

theorem same_self {v : Value} {x : V} (h : ∀ (C : Cond) (w : World), Holds C w v x) (w : World) : Calls Try.prog 13 #[v, v] w fun e w' => e = .returned (.bool true) ∧ Below w.heap.size w w' :=
  same_c w.heap.size w (h _ _) _ (h _ _) w (Nat.le_refl _) (Below.refl _ _)
theorem int_holds (n : Int) (h0 : -9223372036854775808 ≤ n) (h1 : n ≤ 9223372036854775807) (C : Cond) (w : World) : Holds C w (intV n) (.mk 3 n ⟨#[]⟩ [] []) :=
  .mk 3 n ⟨#[]⟩ none 0 (.slice none 0 0) [] [] 0 0 (fun _ _ => undef) ⟨by omega, by omega, h0, h1, by simp [ByteArray.size], by simp⟩ (fun h => absurd h (by simp)) (fun i j h => absurd h (by simp)) ⟨none, 0, 0, 0, rfl, by simp, fun h => absurd h (by simp), fun i h => absurd h (by simp)⟩ (fun i h => absurd h (by simp))
theorem text_holds (s : ByteArray) (hs : s.size ≤ 140737488351232) (C : Cond) (w : World) : Holds C w (textV s) (.mk 4 0 s [] []) :=
  .mk 4 0 s none 0 (.slice none 0 0) [] [] 0 0 (fun _ _ => undef) ⟨by omega, by omega, by omega, by omega, hs, by simp⟩ (fun h => absurd h (by simp)) (fun i j h => absurd h (by simp)) ⟨none, 0, 0, 0, rfl, by simp, fun h => absurd h (by simp), fun i h => absurd h (by simp)⟩ (fun i h => absurd h (by simp))

/-- The world behind the two variables. -/
abbrev makeStart (X : World) (s : ByteArray) (n : Int) : World :=
  (X.alloc (.cells #[.int .i64 4, .int .i64 0, .string s, .slice none 0 0, .slice none 0 0] 25)).alloc (.cells #[.int .i64 3, .int .i64 n, .string ⟨#[]⟩, .slice none 0 0, .slice none 0 0] 25)

theorem make_cells {X Y : World} {s : ByteArray} {n : Int} (h : Below (makeStart X s n).heap.size (makeStart X s n) Y) :
    (Y.cell? ⟨X.heap.size, 0, none⟩ = some (.int .i64 4) ∧ Y.cell? ⟨X.heap.size, 1, none⟩ = some (.int .i64 0) ∧ Y.cell? ⟨X.heap.size, 2, none⟩ = some (.string s) ∧ Y.cell? ⟨X.heap.size, 3, none⟩ = some (.slice none 0 0) ∧ Y.cell? ⟨X.heap.size, 4, none⟩ = some (.slice none 0 0)) ∧
    (Y.cell? ⟨X.heap.size + 1, 0, none⟩ = some (.int .i64 3) ∧ Y.cell? ⟨X.heap.size + 1, 1, none⟩ = some (.int .i64 n) ∧ Y.cell? ⟨X.heap.size + 1, 2, none⟩ = some (.string ⟨#[]⟩) ∧ Y.cell? ⟨X.heap.size + 1, 3, none⟩ = some (.slice none 0 0) ∧ Y.cell? ⟨X.heap.size + 1, 4, none⟩ = some (.slice none 0 0)) := by
  have z : (makeStart X s n).heap.size = X.heap.size + 2 := by simp
  have e0 : Y.heap[X.heap.size]? = some (.cells #[.int .i64 4, .int .i64 0, .string s, .slice none 0 0, .slice none 0 0] 25 (0, 0)) := by
    rw [h.block _ (by omega), Go.heap_alloc_old _ _ (by simp), heap_alloc_new]
  have e1 : Y.heap[X.heap.size + 1]? = some (.cells #[.int .i64 3, .int .i64 n, .string ⟨#[]⟩, .slice none 0 0, .slice none 0 0] 25 (0, 0)) := by
    rw [h.block _ (by omega)]
    have := heap_alloc_new (X.alloc (.cells #[.int .i64 4, .int .i64 0, .string s, .slice none 0 0, .slice none 0 0] 25)) (.cells #[.int .i64 3, .int .i64 n, .string ⟨#[]⟩, .slice none 0 0, .slice none 0 0] 25)
    rw [World.size_alloc] at this
    exact this
  exact ⟨five' e0, five' e1⟩

set_option maxHeartbeats 8000000 in
set_option maxRecDepth 100000 in
theorem law_make (s : ByteArray) (n : Int) (W : World) (hs : s.size ≤ 140737488351232) (h0 : -9223372036854775808 ≤ n) (h1 : n ≤ 9223372036854775807) :
    Calls Try.prog 4 #[.string s, .int .i64 n] W fun e w' => e = .returned (.bool true) ∧ Below W.heap.size W w' := by
  have c1 := fun w => same_self (text_holds s hs) w
  have c2 := fun w => same_self (int_holds n h0 h1) w
  have HC := Lib.hid (And.intro c1 c2)
  clear c1 c2
  have hE : (someB s == !s.toList.isEmpty) = true := by simp [someB]
  have hS : (s.toList == s.toList) = true := by simp
  go_enter Try.func4, Try.ntmps4
  go_wp2_with fail
  refine (text_c s _ hs).mono ?_
  rintro e X1 ⟨rfl, b1⟩
  go_wp2_with fail
  refine (int_c n _).mono ?_
  rintro e X ⟨rfl, b2⟩
  have H0 := Lib.hid (b1.trans (b2.mono b1.size))
  clear b1 b2
  have B0 : Below (makeStart X s n).heap.size (makeStart X s n) (makeStart X s n).drew := (Below.refl _ _).drew
  have k0 := make_cells B0
  have HB0 := Lib.hid B0
  clear B0
  go_wp2_with fail
  go_region_held3 (fun w' => (w'.cell? ⟨X.heap.size, 0, none⟩ = some (.int .i64 4) ∧ w'.cell? ⟨X.heap.size, 1, none⟩ = some (.int .i64 0) ∧ w'.cell? ⟨X.heap.size, 2, none⟩ = some (.string s) ∧ w'.cell? ⟨X.heap.size, 3, none⟩ = some (.slice none 0 0) ∧ w'.cell? ⟨X.heap.size, 4, none⟩ = some (.slice none 0 0)) ∧
      (w'.cell? ⟨X.heap.size + 1, 0, none⟩ = some (.int .i64 3) ∧ w'.cell? ⟨X.heap.size + 1, 1, none⟩ = some (.int .i64 n) ∧ w'.cell? ⟨X.heap.size + 1, 2, none⟩ = some (.string ⟨#[]⟩) ∧ w'.cell? ⟨X.heap.size + 1, 3, none⟩ = some (.slice none 0 0) ∧ w'.cell? ⟨X.heap.size + 1, 4, none⟩ = some (.slice none 0 0)))
    (first | with_reducible exact k0 | with_reducible exact kk)
    (first
      | (go_at_call 17; refine (rtext_c s _).mono ?_; rintro e Y ⟨rfl, b⟩; have BB := HB0.out.trans (b.mono HB0.out.size); have kk := make_cells BB; have HB := Lib.hid BB; clear b BB)
      | (go_at_call 18; refine (rint_c n _).mono ?_; rintro e Y ⟨rfl, b⟩; have BB := HB.out.trans (b.mono HB.out.size); clear HB kk; have kk := make_cells BB; have HB := Lib.hid BB; clear b BB)
      | (go_at_call 13; with_reducible refine (HC.out.1 _).mono ?_; rintro e Y ⟨rfl, b⟩; have BB := HB.out.trans (b.mono HB.out.size); clear HB kk; have kk := make_cells BB; have HB := Lib.hid BB; clear b BB)
      | (go_at_call 13; with_reducible refine (HC.out.2 _).mono ?_; rintro e Y ⟨rfl, b⟩; have BB := HB.out.trans (b.mono HB.out.size); clear HB kk; have kk := make_cells BB; have HB := Lib.hid BB; clear b BB)
      | (go_at_call 19; with_reducible refine (truth_text s _).mono ?_; rintro e Y ⟨rfl, b⟩; have BB := HB.out.trans (b.mono HB.out.size); clear HB kk; have kk := make_cells BB; have HB := Lib.hid BB; clear b BB)
      | (go_at_call 19; with_reducible refine (truth_int n _).mono ?_; rintro e Y ⟨rfl, b⟩; have BB := HB.out.trans (b.mono HB.out.size); clear HB kk; have kk := make_cells BB; have HB := Lib.hid BB; clear b BB)
      | (go_at_call 20; refine (print_text 0 s none 0 0 none 0 0 _ hs).mono ?_; rintro e Y ⟨rfl, b⟩; have BB := HB.out.trans (b.mono HB.out.size); clear HB kk; have kk := make_cells BB; have HB := Lib.hid BB; clear b BB)
      | (go_at_call 21; refine (plain_text s _).mono ?_; rintro e Y ⟨rfl, b⟩; have BB := HB.out.trans (b.mono HB.out.size); clear HB kk; have kk := make_cells BB; have HB := Lib.hid BB; clear b BB)
      | (go_at_call 5; refine (alive_c _).mono ?_; rintro e Y ⟨rfl, b⟩; have BB := HB.out.trans (b.mono HB.out.size); clear HB kk; have kk := make_cells BB; have HB := Lib.hid BB; clear b BB))
  go_wp2_with fail
  go_ret
  have b0 : Below X.heap.size X (makeStart X s n) := ((Below.refl _ X).alloc (Nat.le_refl _) _).alloc (by simp) _
  exact ⟨rfl, H0.out.trans ((b0.trans (HB.out.mono b0.size)).mono H0.out.size)⟩
end Go.Proofs.Ytcheiombgnabaaa.Val
