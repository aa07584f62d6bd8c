/-
  Contracts of values.Truth, values.Plain and values.Check at texts, numbers and a list of two numbers.
-/
import Derived.Test.YtcheiombgnabaaaValTell2
import Derived.Test.YtcheiombgnabaaaNumSize
namespace Go.Proofs.Ytcheiombgnabaaa.Val
open Go.RowKit Go.Proofs.Ytcheiombgnabaaa.Oct Go.Proofs.Ytcheiombgnabaaa.Num

abbrev intV (n : Int) : Value := .agg #[.int .i64 3, .int .i64 n, .string ⟨#[]⟩, .slice none 0 0, .slice none 0 0]
abbrev textV (s : ByteArray) : Value := .agg #[.int .i64 4, .int .i64 0, .string s, .slice none 0 0, .slice none 0 0]
abbrev pairV (bk : Nat) : Value := .agg #[.int .i64 5, .int .i64 0, .string ⟨#[]⟩, .slice (some ⟨bk, 0, none⟩) 2 2, .slice none 0 0]

theorem truth_pair (bk : Nat) (w : World) : Calls Try.prog 19 #[pairV bk] w fun e w' => e = .returned (.bool true) ∧ Below w.heap.size w w' := by
  go_enter Try.func19, Try.ntmps19
  go_wp2
  go_ret
  exact ⟨rfl, (Below.refl _ w).alloc (Nat.le_refl _) _⟩

theorem truth_int (n : Int) (w : World) : Calls Try.prog 19 #[intV n] w fun e w' => e = .returned (.bool (n != 0)) ∧ Below w.heap.size w w' := by
  go_enter Try.func19, Try.ntmps19
  go_wp2
  go_ret
  exact ⟨rfl, (Below.refl _ w).alloc (Nat.le_refl _) _⟩

/-- Whether a text holds something. -/
def someB (s : ByteArray) : Bool := !(s.toList == [])
theorem truth_text (s : ByteArray) (w : World) : Calls Try.prog 19 #[textV s] w fun e w' => e = .returned (.bool (someB s)) ∧ Below w.heap.size w w' := by
  go_enter Try.func19, Try.ntmps19
  go_wp2
  go_ret
  exact ⟨ret_bool (by simp [someB]), (Below.refl _ w).alloc (Nat.le_refl _) _⟩

theorem idx_nil (g : Value) (w : World) : Calls Try.prog 43 #[.slice none 0 0, g] w fun e w' => e = .returned (.int .i64 (-1)) ∧ w' = w := by
  go_enter Try.func43, Try.ntmps43
  go_wp2
  go_loop [5, 8] (fun _ i => i = .int .i64 0) (fun _ _ => 0)
  case atStart => rfl
  case round =>
    subst hrel
    go_wp2
    go_ret
    exact ⟨rfl, rfl⟩

theorem has_nil (g : Value) (w : World) : Calls Try.prog 32 #[.slice none 0 0, g] w fun e w' => e = .returned (.bool false) ∧ w' = w := by
  go_enter Try.func32, Try.ntmps32
  go_wp2_with (go_at_call 43; refine (idx_nil _ _).mono ?_; rintro e w1 ⟨rfl, rfl⟩)
  go_ret
  exact ⟨rfl, rfl⟩

theorem plain_text (s : ByteArray) (w : World) : Calls Try.prog 21 #[textV s] w fun e w' => e = .returned (.bool true) ∧ Below w.heap.size w w' := by
  go_enter Try.func21, Try.ntmps21
  go_wp2_with (go_at_call 32; refine (has_nil _ _).mono ?_; rintro e w1 ⟨rfl, rfl⟩)
  go_ret
  exact ⟨rfl, (Below.refl _ w).alloc (Nat.le_refl _) _⟩

theorem nests_c (k : Int) (w : World) (hk : k = 3 ∨ k = 5) : Calls Try.prog 49 #[.int .i64 k] w fun e w' => e = .returned (.bool (k == 5)) ∧ w' = w := by
  rcases hk with rfl | rfl
  all_goals
    go_enter Try.func49, Try.ntmps49
    go_wp2
    go_ret
    exact ⟨rfl, rfl⟩

theorem unused_int (n : Int) (hn : n = 1 ∨ n = 2) (w : World) : Calls Try.prog 50 #[intV n] w fun e w' => e = .returned (.bool false) ∧ Below w.heap.size w w' := by
  rcases hn with rfl | rfl
  all_goals
    go_enter Try.func50, Try.ntmps50
    go_wp2
    go_ret
    exact ⟨rfl, (Below.refl _ w).alloc (Nat.le_refl _) _⟩

theorem unused_pair (bk : Nat) (w : World) : Calls Try.prog 50 #[pairV bk] w fun e w' => e = .returned (.bool false) ∧ Below w.heap.size w w' := by
  go_enter Try.func50, Try.ntmps50
  go_wp2_with (go_at_call 49; refine (nests_c 5 _ (.inr rfl)).mono ?_; rintro e w1 ⟨rfl, rfl⟩)
  go_ret
  exact ⟨rfl, (Below.refl _ w).alloc (Nat.le_refl _) _⟩

theorem keysFit_int (n : Int) (w : World) : Calls Try.prog 51 #[intV n] w fun e w' => e = .returned (.bool true) ∧ Below w.heap.size w w' := by
  go_enter Try.func51, Try.ntmps51
  go_wp2
  go_ret
  exact ⟨rfl, (Below.refl _ w).alloc (Nat.le_refl _) _⟩
theorem keysFit_pair (bk : Nat) (w : World) : Calls Try.prog 51 #[pairV bk] w fun e w' => e = .returned (.bool true) ∧ Below w.heap.size w w' := by
  go_enter Try.func51, Try.ntmps51
  go_wp2
  go_ret
  exact ⟨rfl, (Below.refl _ w).alloc (Nat.le_refl _) _⟩
end Go.Proofs.Ytcheiombgnabaaa.Val
