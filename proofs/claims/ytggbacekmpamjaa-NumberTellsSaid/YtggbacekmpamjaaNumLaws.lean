/-
  The three laws of layer 3, as contracts: each returns true, and all older memory lies as it lay.
-/
import Derived.Test.YtggbacekmpamjaaNumPrint
namespace Go.Proofs.Ytggbacekmpamjaa.Num
open Go.RowKit Go.Proofs.Ytggbacekmpamjaa.Oct

theorem below_step {a b c : World} (h : Below a.heap.size a b) (k : Below b.heap.size b c) : Below a.heap.size a c := h.trans (k.mono h.size)
theorem string_eq_self (s : ByteArray) : (s.toList == s.toList) = true := by simp

theorem alive_text : printL (-12) = [45, 49, 50] := by
  unfold printL
  rw [if_pos (by decide), show (-12 : Int).natAbs = 12 from rfl, decL_ge (by omega), decL_lt (by omega)]
  rfl

theorem alive_c (w : World) : Calls Try.prog 14 #[] w fun e w' => e = .returned (.bool true) ∧ Below w.heap.size w w' := by
  have h1 := print_c (-12) w (by omega) (by omega)
  rw [alive_text] at h1
  have h2 := fun w => within_c 2 1 3 w
  simp only [show betweenB 2 1 3 = true by decide] at h2
  go_enter Try.func14, Try.ntmps14
  go_wp2_with fail
  refine h1.mono ?_
  rintro e w1 ⟨rfl, hb1⟩
  go_wp2_with fail
  refine (h2 w1).mono ?_
  rintro e w2 ⟨rfl, rfl⟩
  go_wp2_with fail
  go_ret
  exact ⟨rfl, hb1⟩

theorem print_size (n : Int) (h0 : -9223372036854775808 ≤ n) (h1 : n ≤ 9223372036854775807) : (S (printL n)).size ≤ 20 := by
  have := lowL_len (u := n.natAbs) (by omega)
  rw [← decL_len] at this
  rw [size_S]
  unfold printL
  split
  · rw [List.length_cons]; omega
  · omega

theorem signed_range (u : Nat) (b : Bool) : -9223372036854775808 ≤ (signedL u b).1 ∧ (signedL u b).1 ≤ 9223372036854775807 := by
  unfold signedL
  repeat' split
  all_goals simp
  all_goals omega
theorem parse_range (l : List UInt8) : -9223372036854775808 ≤ (parseL l).1 ∧ (parseL l).1 ≤ 9223372036854775807 := by
  have g : ∀ b t, -9223372036854775808 ≤ (parseT b t).1 ∧ (parseT b t).1 ≤ 9223372036854775807 := by
    intro b t
    unfold parseT
    split
    · simp
    split
    · simp
    split
    · simp
    split
    · simp
    exact signed_range _ _
  unfold parseL
  split
  · exact g _ _
  · exact g _ _

set_option maxHeartbeats 1000000 in
theorem law_back (n : Int) (s : ByteArray) (w : World) (h0 : -9223372036854775808 ≤ n) (h1 : n ≤ 9223372036854775807) (hs : s.size ≤ 140737488351232) :
    Calls Try.prog 4 #[.int .i64 n, .string s] w fun e w' => e = .returned (.bool true) ∧ Below w.heap.size w w' := by
  have a1 := fun w => print_c n w h0 h1
  have hz := print_size n h0 h1
  have a2 := fun w => parse_c (S (printL n)) w (by omega)
  have a3 := fun w => parse_c s w (by omega)
  have hr := parse_range s.data.toList
  have a4 := fun w => print_c (parseL s.data.toList).1 w hr.1 hr.2
  simp only [parse_print n h0 h1] at a2
  clear hz
  have a5 := fun n w => num_c n w
  by_cases hf : (parseL s.data.toList).2 = 0
  · have hp := print_parse s.data.toList (parseL s.data.toList).1 (by rw [← hf])
    rw [hp, S_list] at a4
    rw [hf] at a3
    clear hf hp hr
    generalize (parseL s.data.toList).1 = k at a3 a4
    generalize S (printL n) = p at a1 a2
    have es := string_eq_self s
    go_enter Try.func4, Try.ntmps4
    go_wp2_with fail
    refine (alive_c _).mono ?_
    rintro e w1 ⟨rfl, hb1⟩
    go_wp2_with fail
    refine (a1 _).mono ?_
    rintro e w2 ⟨rfl, hb2⟩
    go_wp2_with fail
    refine (a2 _).mono ?_
    rintro e w3 ⟨rfl, rfl⟩
    go_wp2_with fail
    refine (a3 _).mono ?_
    rintro e w4 ⟨rfl, rfl⟩
    go_wp2_with fail
    refine (a5 _ _).mono ?_
    rintro e w5 ⟨rfl, rfl⟩
    go_wp2_with fail
    refine (a5 _ _).mono ?_
    rintro e w6 ⟨rfl, rfl⟩
    go_wp2_with fail
    refine (a4 _).mono ?_
    rintro e w7 ⟨rfl, hb7⟩
    go_wp2_with fail
    go_ret
    exact ⟨rfl, below_step (below_step hb1 hb2) hb7⟩
  · obtain ⟨f, hf2⟩ : ∃ f : Int, ((parseL s.data.toList).2 : Int) = f := ⟨_, rfl⟩
    rw [hf2] at a3
    have hfne : (f == 0) = false := by rw [beq_eq_false_iff_ne]; omega
    have hfne2 : (f != 0) = true := by rw [bne_iff_ne]; omega
    clear hf hf2 hr
    generalize (parseL s.data.toList).1 = k at a3 a4
    generalize S (printL n) = p at a1 a2
    go_enter Try.func4, Try.ntmps4
    go_wp2_with fail
    refine (alive_c _).mono ?_
    rintro e w1 ⟨rfl, hb1⟩
    go_wp2_with fail
    refine (a1 _).mono ?_
    rintro e w2 ⟨rfl, hb2⟩
    go_wp2_with fail
    refine (a2 _).mono ?_
    rintro e w3 ⟨rfl, rfl⟩
    go_wp2_with fail
    refine (a3 _).mono ?_
    rintro e w4 ⟨rfl, rfl⟩
    go_wp2_with fail
    refine (a5 _ _).mono ?_
    rintro e w5 ⟨rfl, rfl⟩
    go_wp2_with fail
    refine (a5 _ _).mono ?_
    rintro e w6 ⟨rfl, rfl⟩
    go_wp2_with fail
    go_ret
    exact ⟨rfl, below_step hb1 hb2⟩

theorem add_comm' (a b : Int) : addL b a = addL a b := by unfold addL; rw [Int.add_comm]

set_option maxHeartbeats 1000000 in
theorem law_sums (a b : Int) (w : World) (a0 : -9223372036854775808 ≤ a) (a1 : a ≤ 9223372036854775807) (b0 : -9223372036854775808 ≤ b) (b1 : b ≤ 9223372036854775807) :
    Calls Try.prog 5 #[.int .i64 a, .int .i64 b] w fun e w' => e = .returned (.bool true) ∧ Below w.heap.size w w' := by
  have h1 := fun w => add_c a b w a0 a1 b0 b1
  have h2 := fun w => add_c b a w b0 b1 a0 a1
  rw [add_comm'] at h2
  have h5 := fun n w => num_c n w
  by_cases h : -9223372036854775808 ≤ a + b ∧ a + b ≤ 9223372036854775807
  · have E : addL a b = (a + b, 0) := if_pos h
    rw [E] at h1 h2
    clear E
    obtain ⟨c0, c1⟩ := h
    go_enter Try.func5, Try.ntmps5
    go_wp2_with fail
    refine (alive_c _).mono ?_
    rintro e w1 ⟨rfl, hb1⟩
    go_wp2_with fail
    refine (h1 _).mono ?_
    rintro e w2 ⟨rfl, rfl⟩
    go_wp2_with fail
    refine (h5 _ _).mono ?_
    rintro e w2 ⟨rfl, rfl⟩
    go_wp2_with fail
    refine (h2 _).mono ?_
    rintro e w2 ⟨rfl, rfl⟩
    go_wp2_with fail
    refine (h5 _ _).mono ?_
    rintro e w2 ⟨rfl, rfl⟩
    go_wp2_with fail
    all_goals go_ret
    all_goals exact ⟨ret_bool (by first | rfl | (simp; omega)), hb1⟩
  · have E : addL a b = (0, 4) := if_neg h
    rw [E] at h1 h2
    clear E h
    go_enter Try.func5, Try.ntmps5
    go_wp2_with fail
    refine (alive_c _).mono ?_
    rintro e w1 ⟨rfl, hb1⟩
    go_wp2_with fail
    refine (h1 _).mono ?_
    rintro e w2 ⟨rfl, rfl⟩
    go_wp2_with fail
    refine (h5 _ _).mono ?_
    rintro e w2 ⟨rfl, rfl⟩
    go_wp2_with fail
    go_ret
    exact ⟨rfl, hb1⟩
end Go.Proofs.Ytggbacekmpamjaa.Num
