/-
  The law NumberTells of layer 3, as a contract.
-/
import Derived.Test.YtggbacekmpamjaaNumLaws
import Derived.Deep.DeepCutAuto
namespace Go.Proofs.Ytggbacekmpamjaa.Num
open Go.RowKit Go.Proofs.Ytggbacekmpamjaa.Oct

/-- What is known of a sum: it is one, or it is beyond the greatest, or below the least. -/
theorem sum_cases (a b : Int) (a0 : -9223372036854775808 ≤ a) (a1 : a ≤ 9223372036854775807) (b0 : -9223372036854775808 ≤ b) (b1 : b ≤ 9223372036854775807) :
    (((0 < a ∧ 0 < b ∧ 0 ≤ a + b) ∨ (0 < a ∧ b ≤ 0 ∧ True) ∨ (a ≤ 0 ∧ 0 ≤ a ∧ True) ∨ (a < 0 ∧ b < 0 ∧ a + b < 0) ∨ (a < 0 ∧ 0 ≤ b ∧ True)) ∧ -9223372036854775808 ≤ a + b ∧ a + b ≤ 9223372036854775807) ∨
    ((0 < a ∧ 0 < b ∧ wrap64 (a + b) < 0) ∨ (a < 0 ∧ b < 0 ∧ 0 ≤ wrap64 (a + b))) ∧ ¬ (-9223372036854775808 ≤ a + b ∧ a + b ≤ 9223372036854775807) := by
  unfold wrap64
  by_cases h : -9223372036854775808 ≤ a + b ∧ a + b ≤ 9223372036854775807
  · refine .inl ⟨?_, h⟩
    by_cases h1 : 0 < a
    · by_cases h2 : 0 < b
      · exact .inl ⟨h1, h2, by omega⟩
      · exact .inr (.inl ⟨h1, by omega, trivial⟩)
    · by_cases h2 : a < 0
      · by_cases h3 : b < 0
        · exact .inr (.inr (.inr (.inl ⟨h2, h3, by omega⟩)))
        · exact .inr (.inr (.inr (.inr ⟨h2, by omega, trivial⟩)))
      · exact .inr (.inr (.inl ⟨by omega, by omega, trivial⟩))
  · refine .inr ⟨?_, h⟩
    by_cases h1 : 0 < a
    · exact .inl ⟨h1, by omega, by omega⟩
    · exact .inr ⟨by omega, by omega, by omega⟩

theorem order_cases (a b : Int) : (a < b ∧ a ≤ b ∧ cmpL a b = -1) ∨ (b ≤ a ∧ a ≤ b ∧ cmpL a b = 0) ∨ (b ≤ a ∧ b < a ∧ cmpL a b = 1) := by
  unfold cmpL
  by_cases h : a < b
  · exact .inl ⟨h, by omega, if_pos h⟩
  · by_cases h2 : b < a
    · exact .inr (.inr ⟨by omega, h2, by rw [if_neg h, if_pos h2]⟩)
    · exact .inr (.inl ⟨by omega, by omega, by rw [if_neg h, if_neg h2]⟩)

theorem val_bool {a b : Bool} (h : a = b) : Value.bool a = .bool b := by rw [h]

theorem between_cases (n a b : Int) (z : Bool) (h : z = decide (a ≤ n ∧ n ≤ b)) : (z = true ∧ a ≤ n ∧ n ≤ b) ∨ (z = false ∧ n < a ∧ True) ∨ (z = false ∧ a ≤ n ∧ b < n) := by
  by_cases h1 : a ≤ n
  · by_cases h2 : n ≤ b
    · exact .inl ⟨by rw [h]; exact decide_eq_true ⟨h1, h2⟩, h1, h2⟩
    · exact .inr (.inr ⟨by rw [h]; exact decide_eq_false (fun x => h2 x.2), h1, by omega⟩)
  · exact .inr (.inl ⟨by rw [h]; exact decide_eq_false (fun x => h1 x.1), by omega, trivial⟩)

set_option maxHeartbeats 8000000 in
set_option maxRecDepth 100000 in
theorem tells_sum (n : Int) (s : ByteArray) (a b : Int) (w : World) (h0 : -9223372036854775808 ≤ n) (h1 : n ≤ 9223372036854775807) (hs : s.size ≤ 140737488351232)
    (a0 : -9223372036854775808 ≤ a) (a1 : a ≤ 9223372036854775807) (b0 : -9223372036854775808 ≤ b) (b1 : b ≤ 9223372036854775807)
    (hsg : (0 < a ∧ 0 < b ∧ 0 ≤ a + b) ∨ (0 < a ∧ b ≤ 0 ∧ True) ∨ (a ≤ 0 ∧ 0 ≤ a ∧ True) ∨ (a < 0 ∧ b < 0 ∧ a + b < 0) ∨ (a < 0 ∧ 0 ≤ b ∧ True)) (hr0 : -9223372036854775808 ≤ a + b) (hr1 : a + b ≤ 9223372036854775807) :
    Calls Try.prog 3 #[.int .i64 n, .string s, .int .i64 a, .int .i64 b] w fun e w' => e = .returned (.bool true) ∧ Below w.heap.size w w' := by
  have c1 := fun w => parse_c s w (by omega)
  have c2 := fun w => rparse_c s w (by omega)
  have c3 := fun w => add_c a b w a0 a1 b0 b1
  have c4 := fun w => print_c n w h0 h1
  have c5 := fun w => rprint_c n w h0 h1
  have c6 := fun n w => num_c n w
  have c7 := fun w => compare_c a b w
  have c8 := fun w => within_c n a b w
  have hbt : Hid (betweenB n a b = decide (a ≤ n ∧ n ≤ b)) := rfl
  obtain ⟨f, hf⟩ : ∃ f : Int, ((parseL s.data.toList).2 : Int) = f := ⟨_, rfl⟩
  rw [hf] at c1 c2
  clear hf
  generalize (parseL s.data.toList).1 = k at c1 c2
  generalize S (printL n) = p at c4 c5
  generalize betweenB n a b = z at c8 hbt
  have ep := string_eq_self p
  have E : addL a b = (a + b, 0) := if_pos ⟨hr0, hr1⟩
  rw [E] at c3
  clear E
  have HS := Lib.hid hsg
  clear hsg
  rcases order_cases a b with ⟨ho1, ho2, ho3⟩ | ⟨ho1, ho2, ho3⟩ | ⟨ho1, ho2, ho3⟩
  all_goals
    rw [ho3] at c7
    clear ho3
    go_enter Try.func3, Try.ntmps3
    go_wp2_with fail
    refine (c1 _).mono ?_
    rintro e w1 ⟨rfl, rfl⟩
    go_wp2_with fail
    refine (c2 _).mono ?_
    rintro e w1 ⟨rfl, rfl⟩
    go_wp2_with fail
    refine (c3 _).mono ?_
    rintro e w1 ⟨rfl, rfl⟩
    go_upto_region 5 with fail
    go_cut [16] (fun x wx => x = .bool false ∧ wx = w)
    case first =>
      clear ho1 ho2
      rcases HS.out with ⟨hs1, hs2, hs3⟩ | ⟨hs1, hs2, hs3⟩ | ⟨hs1, hs2, hs3⟩ | ⟨hs1, hs2, hs3⟩ | ⟨hs1, hs2, hs3⟩
      all_goals
        go_wp2_with fail
        go_meet
        exact ⟨val_bool (by first | rfl | (simp; done) | (simp; omega)), rfl⟩
    obtain ⟨rfl, rfl⟩ := hcut
    go_wp2_with fail
    refine (c4 _).mono ?_
    rintro e w4 ⟨rfl, hb4⟩
    go_wp2_with fail
    refine (c5 _).mono ?_
    rintro e w5 ⟨rfl, rfl⟩
    go_wp2_with fail
    refine (c6 _ _).mono ?_
    rintro e w5 ⟨rfl, rfl⟩
    go_wp2_with fail
    refine (c6 _ _).mono ?_
    rintro e w5 ⟨rfl, rfl⟩
    go_wp2_with fail
    refine (c7 _).mono ?_
    rintro e w5 ⟨rfl, rfl⟩
    go_wp2_with fail
    refine (c8 _).mono ?_
    rintro e w5 ⟨rfl, rfl⟩
    clear c1 c2 c3 c4 c5 c6 c7 c8
    rcases between_cases n a b z hbt.out with ⟨rfl, hx1, hx2⟩ | ⟨rfl, hx1, hx2⟩ | ⟨rfl, hx1, hx2⟩
    all_goals
      clear hbt
      go_wp2_with fail
      refine (alive_c _).mono ?_
      rintro e w6 ⟨rfl, hb6⟩
      go_wp2_with fail
      go_ret
      exact ⟨ret_bool (by first | rfl | (simp; done) | (simp; omega)), below_step hb4 hb6⟩

set_option maxHeartbeats 8000000 in
set_option maxRecDepth 100000 in
theorem tells_none (n : Int) (s : ByteArray) (a b : Int) (w : World) (h0 : -9223372036854775808 ≤ n) (h1 : n ≤ 9223372036854775807) (hs : s.size ≤ 140737488351232)
    (a0 : -9223372036854775808 ≤ a) (a1 : a ≤ 9223372036854775807) (b0 : -9223372036854775808 ≤ b) (b1 : b ≤ 9223372036854775807)
    (hsg : (0 < a ∧ 0 < b ∧ wrap64 (a + b) < 0) ∨ (a < 0 ∧ b < 0 ∧ 0 ≤ wrap64 (a + b))) (hr : ¬ (-9223372036854775808 ≤ a + b ∧ a + b ≤ 9223372036854775807)) :
    Calls Try.prog 3 #[.int .i64 n, .string s, .int .i64 a, .int .i64 b] w fun e w' => e = .returned (.bool true) ∧ Below w.heap.size w w' := by
  have c1 := fun w => parse_c s w (by omega)
  have c2 := fun w => rparse_c s w (by omega)
  have c3 := fun w => add_c a b w a0 a1 b0 b1
  have c4 := fun w => print_c n w h0 h1
  have c5 := fun w => rprint_c n w h0 h1
  have c6 := fun n w => num_c n w
  have c7 := fun w => compare_c a b w
  have c8 := fun w => within_c n a b w
  have hbt : Hid (betweenB n a b = decide (a ≤ n ∧ n ≤ b)) := rfl
  obtain ⟨f, hf⟩ : ∃ f : Int, ((parseL s.data.toList).2 : Int) = f := ⟨_, rfl⟩
  rw [hf] at c1 c2
  clear hf
  generalize (parseL s.data.toList).1 = k at c1 c2
  generalize S (printL n) = p at c4 c5
  generalize betweenB n a b = z at c8 hbt
  have ep := string_eq_self p
  have E : addL a b = (0, 4) := if_neg hr
  rw [E] at c3
  clear E hr
  have HS := Lib.hid hsg
  clear hsg
  rcases order_cases a b with ⟨ho1, ho2, ho3⟩ | ⟨ho1, ho2, ho3⟩ | ⟨ho1, ho2, ho3⟩
  all_goals
    rw [ho3] at c7
    clear ho3
    go_enter Try.func3, Try.ntmps3
    go_wp2_with fail
    refine (c1 _).mono ?_
    rintro e w1 ⟨rfl, rfl⟩
    go_wp2_with fail
    refine (c2 _).mono ?_
    rintro e w1 ⟨rfl, rfl⟩
    go_wp2_with fail
    refine (c3 _).mono ?_
    rintro e w1 ⟨rfl, rfl⟩
    go_upto_region 5 with fail
    go_cut [16] (fun x wx => x = .bool true ∧ wx = w)
    case first =>
      clear ho1 ho2
      rcases HS.out with ⟨hs1, hs2, hs3⟩ | ⟨hs1, hs2, hs3⟩
      all_goals
        go_wp2_with fail
        go_meet
        exact ⟨val_bool (by first | rfl | (simp; done) | (simp; omega)), rfl⟩
    obtain ⟨rfl, rfl⟩ := hcut
    go_wp2_with fail
    refine (c4 _).mono ?_
    rintro e w4 ⟨rfl, hb4⟩
    go_wp2_with fail
    refine (c5 _).mono ?_
    rintro e w5 ⟨rfl, rfl⟩
    go_wp2_with fail
    refine (c6 _ _).mono ?_
    rintro e w5 ⟨rfl, rfl⟩
    go_wp2_with fail
    refine (c6 _ _).mono ?_
    rintro e w5 ⟨rfl, rfl⟩
    go_wp2_with fail
    refine (c7 _).mono ?_
    rintro e w5 ⟨rfl, rfl⟩
    go_wp2_with fail
    refine (c8 _).mono ?_
    rintro e w5 ⟨rfl, rfl⟩
    clear c1 c2 c3 c4 c5 c6 c7 c8
    rcases between_cases n a b z hbt.out with ⟨rfl, hx1, hx2⟩ | ⟨rfl, hx1, hx2⟩ | ⟨rfl, hx1, hx2⟩
    all_goals
      clear hbt
      go_wp2_with fail
      refine (alive_c _).mono ?_
      rintro e w6 ⟨rfl, hb6⟩
      go_wp2_with fail
      go_ret
      exact ⟨ret_bool (by first | rfl | (simp; done) | (simp; omega)), below_step hb4 hb6⟩

theorem law_tells (n : Int) (s : ByteArray) (a b : Int) (w : World) (h0 : -9223372036854775808 ≤ n) (h1 : n ≤ 9223372036854775807) (hs : s.size ≤ 140737488351232)
    (a0 : -9223372036854775808 ≤ a) (a1 : a ≤ 9223372036854775807) (b0 : -9223372036854775808 ≤ b) (b1 : b ≤ 9223372036854775807) :
    Calls Try.prog 3 #[.int .i64 n, .string s, .int .i64 a, .int .i64 b] w fun e w' => e = .returned (.bool true) ∧ Below w.heap.size w w' := by
  rcases sum_cases a b a0 a1 b0 b1 with ⟨hsg, hr0, hr1⟩ | ⟨hsg, hr⟩
  · exact tells_sum n s a b w h0 h1 hs a0 a1 b0 b1 hsg hr0 hr1
  · exact tells_none n s a b w h0 h1 hs a0 a1 b0 b1 hsg hr
end Go.Proofs.Ytggbacekmpamjaa.Num
