/-
  Part 14: CscLeaf, ScwStep.
-/
import Derived.Test.YtklpbkjplecdpaaGreatSxBaseP12
import Derived.Test.YtklpbkjplecdpaaGreatSxBaseP2
import Derived.Test.YtklpbkjplecdpaaGreatSxBaseP13
/-
  Contracts of package cssscan but Feed: words, what grows, strings, parts, a step.
-/
namespace Go.Proofs.YtklpbkjplecdpaaGreat.Csc
open Go.RowKit Oct Css

theorem oct_ne {c : UInt8} {n : Nat} (h : c ≠ n.toUInt8) (hn : n < 256) : ((c.toNat : Int) == (n : Int)) = false := by
  rw [beq_eq_false_iff_ne]
  intro e
  apply h
  apply UInt8.toNat_inj.1
  rw [Nat.toUInt8_eq, UInt8.toNat_ofNat']
  omega
theorem oct_is {c : UInt8} {n : Nat} (h : c = n.toUInt8) (hn : n < 256) : ((c.toNat : Int) == (n : Int)) = true := by
  rw [beq_iff_eq, h, Nat.toUInt8_eq, UInt8.toNat_ofNat']
  omega

def wordI (n : Int) : Bool := letterI n || digitI n || decide (n = 45) || decide (n = 95)
theorem word_oct (c : UInt8) : wordI (c.toNat : Int) = wordC c := by
  have h : ∀ k : Fin 256, wordI ((UInt8.ofNat k.val).toNat : Int) = wordC (UInt8.ofNat k.val) := by decide +kernel
  have := h ⟨c.toNat, c.toNat_lt⟩
  simpa using this
theorem inWord_c (n : Int) (w : World) (h0 : 0 ≤ n) (h1 : n ≤ 255) : Calls Tryz.prog 171 #[.int .u8 n] w fun e w' => e = .returned (.bool (wordI n)) ∧ w = w' := by
  have hl := letter_c n w h0 h1
  have E : Hid (wordI n = (letterI n || digitI n || decide (n = 45) || decide (n = 95))) := rfl
  generalize wordI n = ans at E ⊢
  cases hlt : letterI n with
  | true =>
    rw [hlt] at hl E
    go_enter Tryz.func171, Tryz.ntmps171
    go_wp2_with (go_at_call 73; refine hl.mono ?_; rintro e w' ⟨rfl, rfl⟩)
    go_ret
    exact ⟨ret_bool (by rw [E.out]; simp), rfl⟩
  | false =>
    rw [hlt] at hl E
    clear hlt
    go_enter Tryz.func171, Tryz.ntmps171
    go_wp2_with (go_at_call 73; refine hl.mono ?_; rintro e w' ⟨rfl, rfl⟩)
    all_goals go_ret
    all_goals (refine ⟨ret_bool ?_, rfl⟩; rw [E.out]; rw [Bool.eq_iff_iff]; simp [digitI]; try (first | omega | (simp only [beq_iff_eq, beq_eq_false_iff_ne] at *; omega)))

theorem conv_one (w : World) (c : UInt8) : (convert 49 9 (.slice (some ⟨w.heap.size, 0, none⟩) 1 1)).run Tryz.prog (w.alloc (.cells #[.int .u8 (c.toNat : Int)] 5)) = .ok (.string (S [c])) (w.alloc (.cells #[.int .u8 (c.toNat : Int)] 5)) := by
  refine Oct.conv_own (base := w.heap.size) (n := 1) ?_
  exact ⟨rfl, .inr ⟨w.heap.size, 1, #[.int .u8 (c.toNat : Int)], rfl, Nat.le_refl _, heap_alloc_new w _, Nat.le_refl _, by decide, rfl, rfl⟩⟩
theorem eqK (a b : List UInt8) : ((S a).toList == b) = decide (a = b) := by
  rw [ByteArray.toList_eq]
  simp only
  rw [Bool.eq_iff_iff]
  simp
abbrev growC (l : List UInt8) (c : UInt8) : List UInt8 := if l ≠ holeW ∧ l.length < 16 then l ++ [low c] else l
theorem grown_c (l : List UInt8) (c : UInt8) (w : World) :
    Calls Tryz.prog 172 #[.string (S l), .int .u8 (c.toNat : Int)] w fun e w' => e = .returned (.string (S (growC l c))) ∧ Below w.heap.size w w' := by
  have hsz : ((S l).size : Int) = (l.length : Int) := by rw [size_S]
  have hq := eqK l [63]
  by_cases hh : l = holeW
  · have e : growC l c = l := if_neg (fun h => h.1 hh)
    rw [e]
    rw [decide_eq_true hh] at hq
    clear e hh
    generalize S l = L at *
    go_enter Tryz.func172, Tryz.ntmps172
    go_wp2_with fail
    go_ret
    exact ⟨rfl, Below.refl _ _⟩
  rw [decide_eq_false hh] at hq
  by_cases hlt : l.length < 16
  · have e : growC l c = l ++ [low c] := if_pos ⟨hh, hlt⟩
    rw [e]
    have hz : ¬ ((16 : Int) ≤ (l.length : Int)) := by omega
    have hlow := fun w => lower_c (S [c]) w (by rw [size_S, List.length_singleton]; omega)
    rw [list_S] at hlow
    have hcv := conv_one w c
    have hlow : ∀ w, Calls Tryz.prog 89 #[.string (S [c])] w fun e w' => e = .returned (.string (S [low c])) ∧ Below w.heap.size w w' := hlow
    generalize S [c] = T at hcv hlow
    generalize (c.toNat : Int) = n at hcv ⊢
    have ha : S l ++ S [low c] = S (l ++ [low c]) := S_append l [low c]
    have z1 : (S l).size ≤ 16 := by rw [size_S]; omega
    have z2 : (S [low c]).size ≤ 1 := by rw [size_S]; simp
    clear e hh
    generalize S (l ++ [low c]) = X at ha ⊢
    generalize S [low c] = Y at ha hlow z2
    generalize S l = L at ha hsz z1 hq ⊢
    go_enter Tryz.func172, Tryz.ntmps172
    go_wp2_with fail
    refine (hlow _).mono ?_
    rintro e w1 ⟨rfl, hb1⟩
    go_wp2_with fail
    go_ret
    exact ⟨rfl, ((Below.refl _ w).alloc (Nat.le_refl _) _).trans (hb1.mono (by simp))⟩
  · have e : growC l c = l := if_neg (fun h => hlt h.2)
    rw [e]
    have hz : ((16 : Int) ≤ (l.length : Int)) := by omega
    clear hlt e hh
    generalize S l = L at hsz hq ⊢
    go_enter Tryz.func172, Tryz.ntmps172
    go_wp2_with fail
    go_ret
    exact ⟨rfl, Below.refl _ _⟩
def openI (l : List UInt8) : Int := if l = urlL then 8 else if l = holeW then 9 else 0
theorem opened_c (l : List UInt8) (w : World) : Calls Tryz.prog 173 #[.string (S l)] w fun e w' => e = .returned (.int .i64 (openI l)) ∧ w = w' := by
  have q1 := eqK l [117, 114, 108]
  have q2 := eqK l [63]
  unfold openI
  by_cases h1 : l = urlL
  · rw [if_pos h1]
    rw [decide_eq_true h1] at q1
    clear q2 h1
    generalize S l = L at *
    go_enter Tryz.func173, Tryz.ntmps173
    go_wp2_with fail
    go_ret
    exact ⟨rfl, rfl⟩
  rw [if_neg h1]
  rw [decide_eq_false h1] at q1
  by_cases h2 : l = holeW
  · rw [if_pos h2]
    rw [decide_eq_true h2] at q2
    clear h1 h2
    generalize S l = L at *
    go_enter Tryz.func173, Tryz.ntmps173
    go_wp2_with fail
    go_ret
    exact ⟨rfl, rfl⟩
  rw [if_neg h2]
  rw [decide_eq_false h2] at q2
  clear h1 h2
  generalize S l = L at *
  go_enter Tryz.func173, Tryz.ntmps173
  go_wp2_with fail
  go_ret
  exact ⟨rfl, rfl⟩

theorem plain_word (l : List UInt8) (c : UInt8) (h : wordC c = true) : plainC l c = (0, growC l c) := by
  unfold plainC
  rw [if_pos h]
theorem plain_open (l : List UInt8) : plainC l 40 = (openI l, []) := by
  show (if l = urlL then ((8, []) : St) else if l = holeW then (9, []) else (0, [])) = _
  unfold openI
  split
  · rfl
  · split <;> rfl

theorem inPlain_c (l : List UInt8) (c : UInt8) (w : World) :
    Calls Tryz.prog 153 #[.string (S l), .int .u8 (c.toNat : Int)] w fun e w' => e = .returned (.tuple #[.int .i64 (plainC l c).1, .string (S (plainC l c).2)]) ∧ Below w.heap.size w w' := by
  have hcb : (c.toNat : Int) ≤ 255 := by have := c.toNat_lt; omega
  have hw := inWord_c (c.toNat : Int) w (by omega) hcb
  rw [word_oct] at hw
  cases hb : wordC c with
  | true =>
    rw [hb] at hw
    have hg := fun w => grown_c l c w
    have E := Lib.hid (plain_word l c hb)
    generalize plainC l c = ans at E ⊢
    generalize growC l c = g at hg E
    generalize S l = L at hg ⊢
    generalize (c.toNat : Int) = n at hw hg hcb ⊢
    clear hb
    go_enter Tryz.func153, Tryz.ntmps153
    go_wp2_with (first | (go_at_call 171; refine hw.mono ?_; rintro e w' ⟨rfl, rfl⟩) | (go_at_call 172; refine (hg _).mono ?_; rintro e w' ⟨rfl, hbg⟩))
    go_ret2
    exact ⟨by rw [E.out]; rfl, hbg⟩
  | false =>
    rw [hb] at hw
    by_cases h34 : c = 34
    · have E : Hid (plainC l c = (1, [])) := by rw [h34]; rfl
      have hv : ((c.toNat : Int) == 34) = true := oct_is (n := 34) h34 (by decide)
      clear hb h34
      generalize plainC l c = ans at E ⊢
      generalize S l = L at *
      generalize (c.toNat : Int) = n at *
      go_enter Tryz.func153, Tryz.ntmps153
      go_wp2_with (first | (go_at_call 171; refine hw.mono ?_; rintro e w' ⟨rfl, rfl⟩) | (go_at_call 173; refine ho.mono ?_; rintro e w' ⟨rfl, rfl⟩))
      go_ret2
      exact ⟨by rw [E.out]; rfl, Below.refl _ _⟩
    have n34 : ((c.toNat : Int) == 34) = false := oct_ne (n := 34) h34 (by decide)
    by_cases h39 : c = 39
    · have E : Hid (plainC l c = (2, [])) := by rw [h39]; rfl
      have hv : ((c.toNat : Int) == 39) = true := oct_is (n := 39) h39 (by decide)
      clear hb h39 h34
      generalize plainC l c = ans at E ⊢
      generalize S l = L at *
      generalize (c.toNat : Int) = n at *
      go_enter Tryz.func153, Tryz.ntmps153
      go_wp2_with (first | (go_at_call 171; refine hw.mono ?_; rintro e w' ⟨rfl, rfl⟩) | (go_at_call 173; refine ho.mono ?_; rintro e w' ⟨rfl, rfl⟩))
      go_ret2
      exact ⟨by rw [E.out]; rfl, Below.refl _ _⟩
    have n39 : ((c.toNat : Int) == 39) = false := oct_ne (n := 39) h39 (by decide)
    by_cases h47 : c = 47
    · have E : Hid (plainC l c = (5, [])) := by rw [h47]; rfl
      have hv : ((c.toNat : Int) == 47) = true := oct_is (n := 47) h47 (by decide)
      clear hb h47 h34 h39
      generalize plainC l c = ans at E ⊢
      generalize S l = L at *
      generalize (c.toNat : Int) = n at *
      go_enter Tryz.func153, Tryz.ntmps153
      go_wp2_with (first | (go_at_call 171; refine hw.mono ?_; rintro e w' ⟨rfl, rfl⟩) | (go_at_call 173; refine ho.mono ?_; rintro e w' ⟨rfl, rfl⟩))
      go_ret2
      exact ⟨by rw [E.out]; rfl, Below.refl _ _⟩
    have n47 : ((c.toNat : Int) == 47) = false := oct_ne (n := 47) h47 (by decide)
    by_cases h40 : c = 40
    · have ho := opened_c l w
      have E : Hid (plainC l c = (openI l, [])) := by rw [h40]; exact plain_open l
      have hv : ((c.toNat : Int) == 40) = true := oct_is (n := 40) h40 (by decide)
      clear hb h40 h34 h39 h47
      generalize plainC l c = ans at E ⊢
      generalize openI l = q at ho E
      generalize S l = L at *
      generalize (c.toNat : Int) = n at *
      go_enter Tryz.func153, Tryz.ntmps153
      go_wp2_with (first | (go_at_call 171; refine hw.mono ?_; rintro e w' ⟨rfl, rfl⟩) | (go_at_call 173; refine ho.mono ?_; rintro e w' ⟨rfl, rfl⟩))
      go_ret2
      exact ⟨by rw [E.out]; rfl, Below.refl _ _⟩
    have n40 : ((c.toNat : Int) == 40) = false := oct_ne (n := 40) h40 (by decide)
    by_cases h92 : c = 92
    · have E : Hid (plainC l c = (9, [])) := by rw [h92]; rfl
      have hv : ((c.toNat : Int) == 92) = true := oct_is (n := 92) h92 (by decide)
      clear hb h92 h34 h39 h47 h40
      generalize plainC l c = ans at E ⊢
      generalize S l = L at *
      generalize (c.toNat : Int) = n at *
      go_enter Tryz.func153, Tryz.ntmps153
      go_wp2_with (first | (go_at_call 171; refine hw.mono ?_; rintro e w' ⟨rfl, rfl⟩) | (go_at_call 173; refine ho.mono ?_; rintro e w' ⟨rfl, rfl⟩))
      go_ret2
      exact ⟨by rw [E.out]; rfl, Below.refl _ _⟩
    have n92 : ((c.toNat : Int) == 92) = false := oct_ne (n := 92) h92 (by decide)
    have E : Hid (plainC l c = (0, [])) := by
      show _ = _
      unfold plainC
      rw [if_neg (by rw [hb]; simp), if_neg h34, if_neg h39, if_neg h47, if_neg h92, if_neg h40]
    clear hb h34 h39 h47 h40 h92
    generalize plainC l c = ans at E ⊢
    generalize S l = L at *
    generalize (c.toNat : Int) = n at *
    go_enter Tryz.func153, Tryz.ntmps153
    go_wp2_with (first | (go_at_call 171; refine hw.mono ?_; rintro e w' ⟨rfl, rfl⟩) | (go_at_call 173; refine hw.mono ?_; rintro e w' ⟨rfl, rfl⟩))
    go_ret2
    exact ⟨by rw [E.out]; rfl, Below.refl _ _⟩

def strI (q n p s : Int) : Int := if n = q then 0 else if n = 92 then s else if n = 10 ∨ n = 13 then 9 else p
theorem ret_part {a b : Int} (h : a = b) : Ending.returned (.int .i64 a) = .returned (.int .i64 b) := by rw [h]
theorem str34_c (n p s : Int) (w : World) : Calls Tryz.prog 174 #[.int .u8 34, .int .u8 n, .int .i64 p, .int .i64 s] w fun e w' => e = .returned (.int .i64 (strI 34 n p s)) ∧ w = w' := by
  by_cases h34 : n = 34
  · have E : Hid (strI 34 n p s = 0) := by subst h34; rfl
    generalize strI 34 n p s = ans at E ⊢
    subst h34
    go_enter Tryz.func174, Tryz.ntmps174
    go_wp2_with fail
    go_ret
    exact ⟨ret_part (by rw [E.out]), rfl⟩
  have n34 : (n == 34) = false := by rw [beq_eq_false_iff_ne]; exact h34
  by_cases h92 : n = 92
  · have E : Hid (strI 34 n p s = s) := by subst h92; rfl
    generalize strI 34 n p s = ans at E ⊢
    subst h92
    go_enter Tryz.func174, Tryz.ntmps174
    go_wp2_with fail
    go_ret
    exact ⟨ret_part (by rw [E.out]), rfl⟩
  have n92 : (n == 92) = false := by rw [beq_eq_false_iff_ne]; exact h92
  by_cases h10 : n = 10
  · have E : Hid (strI 34 n p s = 9) := by subst h10; rfl
    generalize strI 34 n p s = ans at E ⊢
    subst h10
    go_enter Tryz.func174, Tryz.ntmps174
    go_wp2_with fail
    go_ret
    exact ⟨ret_part (by rw [E.out]), rfl⟩
  have n10 : (n == 10) = false := by rw [beq_eq_false_iff_ne]; exact h10
  by_cases h13 : n = 13
  · have E : Hid (strI 34 n p s = 9) := by subst h13; rfl
    generalize strI 34 n p s = ans at E ⊢
    subst h13
    go_enter Tryz.func174, Tryz.ntmps174
    go_wp2_with fail
    go_ret
    exact ⟨ret_part (by rw [E.out]), rfl⟩
  have n13 : (n == 13) = false := by rw [beq_eq_false_iff_ne]; exact h13
  have E : Hid (strI 34 n p s = p) := by
    show _ = _
    unfold strI
    rw [if_neg h34, if_neg h92, if_neg (by omega)]
  generalize strI 34 n p s = ans at E ⊢
  clear h34 h92 h10 h13
  go_enter Tryz.func174, Tryz.ntmps174
  go_wp2_with fail
  go_ret
  exact ⟨ret_part (by rw [E.out]), rfl⟩
theorem str39_c (n p s : Int) (w : World) : Calls Tryz.prog 174 #[.int .u8 39, .int .u8 n, .int .i64 p, .int .i64 s] w fun e w' => e = .returned (.int .i64 (strI 39 n p s)) ∧ w = w' := by
  by_cases h39 : n = 39
  · have E : Hid (strI 39 n p s = 0) := by subst h39; rfl
    generalize strI 39 n p s = ans at E ⊢
    subst h39
    go_enter Tryz.func174, Tryz.ntmps174
    go_wp2_with fail
    go_ret
    exact ⟨ret_part (by rw [E.out]), rfl⟩
  have n39 : (n == 39) = false := by rw [beq_eq_false_iff_ne]; exact h39
  by_cases h92 : n = 92
  · have E : Hid (strI 39 n p s = s) := by subst h92; rfl
    generalize strI 39 n p s = ans at E ⊢
    subst h92
    go_enter Tryz.func174, Tryz.ntmps174
    go_wp2_with fail
    go_ret
    exact ⟨ret_part (by rw [E.out]), rfl⟩
  have n92 : (n == 92) = false := by rw [beq_eq_false_iff_ne]; exact h92
  by_cases h10 : n = 10
  · have E : Hid (strI 39 n p s = 9) := by subst h10; rfl
    generalize strI 39 n p s = ans at E ⊢
    subst h10
    go_enter Tryz.func174, Tryz.ntmps174
    go_wp2_with fail
    go_ret
    exact ⟨ret_part (by rw [E.out]), rfl⟩
  have n10 : (n == 10) = false := by rw [beq_eq_false_iff_ne]; exact h10
  by_cases h13 : n = 13
  · have E : Hid (strI 39 n p s = 9) := by subst h13; rfl
    generalize strI 39 n p s = ans at E ⊢
    subst h13
    go_enter Tryz.func174, Tryz.ntmps174
    go_wp2_with fail
    go_ret
    exact ⟨ret_part (by rw [E.out]), rfl⟩
  have n13 : (n == 13) = false := by rw [beq_eq_false_iff_ne]; exact h13
  have E : Hid (strI 39 n p s = p) := by
    show _ = _
    unfold strI
    rw [if_neg h39, if_neg h92, if_neg (by omega)]
  generalize strI 39 n p s = ans at E ⊢
  clear h39 h92 h10 h13
  go_enter Tryz.func174, Tryz.ntmps174
  go_wp2_with fail
  go_ret
  exact ⟨ret_part (by rw [E.out]), rfl⟩

def inI (p n : Int) : Int :=
  if p = 1 then strI 34 n 1 3 else if p = 2 then strI 39 n 2 4 else if p = 3 then 1 else if p = 4 then 2
  else if p = 6 then (if n = 42 then 7 else 6) else if p = 7 then (if n = 42 then 7 else if n = 47 then 0 else 6)
  else if p = 8 then (if n = 41 then 0 else 8) else 9
theorem within1_c (n : Int) (w : World) : Calls Tryz.prog 154 #[.int .i64 1, .int .u8 n] w fun e w' => e = .returned (.int .i64 (strI 34 n 1 3)) ∧ w = w' := by
  have hs := str34_c n 1 3 w
  generalize strI 34 n 1 3 = r at hs ⊢
  go_enter Tryz.func154, Tryz.ntmps154
  go_wp2_with (go_at_call 174; refine hs.mono ?_; rintro e w' ⟨rfl, rfl⟩)
  go_ret
  exact ⟨rfl, rfl⟩
theorem within2_c (n : Int) (w : World) : Calls Tryz.prog 154 #[.int .i64 2, .int .u8 n] w fun e w' => e = .returned (.int .i64 (strI 39 n 2 4)) ∧ w = w' := by
  have hs := str39_c n 2 4 w
  generalize strI 39 n 2 4 = r at hs ⊢
  go_enter Tryz.func154, Tryz.ntmps154
  go_wp2_with (go_at_call 174; refine hs.mono ?_; rintro e w' ⟨rfl, rfl⟩)
  go_ret
  exact ⟨rfl, rfl⟩
theorem within3_c (n : Int) (w : World) : Calls Tryz.prog 154 #[.int .i64 3, .int .u8 n] w fun e w' => e = .returned (.int .i64 (1)) ∧ w = w' := by
  go_enter Tryz.func154, Tryz.ntmps154
  go_wp2_with fail
  go_ret
  exact ⟨rfl, rfl⟩
theorem within4_c (n : Int) (w : World) : Calls Tryz.prog 154 #[.int .i64 4, .int .u8 n] w fun e w' => e = .returned (.int .i64 (2)) ∧ w = w' := by
  go_enter Tryz.func154, Tryz.ntmps154
  go_wp2_with fail
  go_ret
  exact ⟨rfl, rfl⟩
theorem within6_c (n : Int) (w : World) : Calls Tryz.prog 154 #[.int .i64 6, .int .u8 n] w fun e w' => e = .returned (.int .i64 (if n = 42 then 7 else 6)) ∧ w = w' := by
  by_cases h : n = 42
  · rw [if_pos h]
    subst h
    go_enter Tryz.func154, Tryz.ntmps154
    go_wp2_with fail
    go_ret
    exact ⟨rfl, rfl⟩
  · rw [if_neg h]
    have hb : (n == 42) = false := by rw [beq_eq_false_iff_ne]; exact h
    clear h
    go_enter Tryz.func154, Tryz.ntmps154
    go_wp2_with fail
    go_ret
    exact ⟨rfl, rfl⟩
theorem within7_c (n : Int) (w : World) : Calls Tryz.prog 154 #[.int .i64 7, .int .u8 n] w fun e w' => e = .returned (.int .i64 (if n = 42 then 7 else if n = 47 then 0 else 6)) ∧ w = w' := by
  have h6 := within6_c n w
  by_cases h47 : n = 47
  · rw [if_neg (by omega), if_pos h47]
    subst h47
    clear h6
    go_enter Tryz.func154, Tryz.ntmps154
    go_wp2_with fail
    go_ret
    exact ⟨rfl, rfl⟩
  rw [if_neg h47]
  have hb : (n == 47) = false := by rw [beq_eq_false_iff_ne]; exact h47
  clear h47
  generalize (if n = 42 then (7 : Int) else 6) = r at h6 ⊢
  go_enter Tryz.func154, Tryz.ntmps154
  go_wp2_with (go_at_call 154; refine h6.mono ?_; rintro e w' ⟨rfl, rfl⟩)
  go_ret
  exact ⟨rfl, rfl⟩
theorem within8_c (n : Int) (w : World) : Calls Tryz.prog 154 #[.int .i64 8, .int .u8 n] w fun e w' => e = .returned (.int .i64 (if n = 41 then 0 else 8)) ∧ w = w' := by
  by_cases h : n = 41
  · rw [if_pos h]
    subst h
    go_enter Tryz.func154, Tryz.ntmps154
    go_wp2_with fail
    go_ret
    exact ⟨rfl, rfl⟩
  · rw [if_neg h]
    have hb : (n == 41) = false := by rw [beq_eq_false_iff_ne]; exact h
    clear h
    go_enter Tryz.func154, Tryz.ntmps154
    go_wp2_with fail
    go_ret
    exact ⟨rfl, rfl⟩
theorem within_other (p n : Int) (hp : p < 1 ∨ p = 5 ∨ 8 < p) (w : World) : Calls Tryz.prog 154 #[.int .i64 p, .int .u8 n] w fun e w' => e = .returned (.int .i64 9) ∧ w = w' := by
  have p1 : (p == 1) = false := by rw [beq_eq_false_iff_ne]; omega
  have p2 : (p == 2) = false := by rw [beq_eq_false_iff_ne]; omega
  have p3 : (p == 3) = false := by rw [beq_eq_false_iff_ne]; omega
  have p4 : (p == 4) = false := by rw [beq_eq_false_iff_ne]; omega
  have p6 : (p == 6) = false := by rw [beq_eq_false_iff_ne]; omega
  have p7 : (p == 7) = false := by rw [beq_eq_false_iff_ne]; omega
  have p8 : (p == 8) = false := by rw [beq_eq_false_iff_ne]; omega
  clear hp
  go_enter Tryz.func154, Tryz.ntmps154
  go_wp2_with fail
  go_ret
  exact ⟨rfl, rfl⟩
theorem within_c (p n : Int) (w : World) : Calls Tryz.prog 154 #[.int .i64 p, .int .u8 n] w fun e w' => e = .returned (.int .i64 (inI p n)) ∧ w = w' := by
  by_cases h1 : p = 1
  · subst h1; exact within1_c n w
  by_cases h2 : p = 2
  · subst h2; exact within2_c n w
  by_cases h3 : p = 3
  · subst h3; exact within3_c n w
  by_cases h4 : p = 4
  · subst h4; exact within4_c n w
  by_cases h6 : p = 6
  · subst h6; exact within6_c n w
  by_cases h7 : p = 7
  · subst h7; exact within7_c n w
  by_cases h8 : p = 8
  · subst h8; exact within8_c n w
  have e : inI p n = 9 := by
    unfold inI
    rw [if_neg h1, if_neg h2, if_neg h3, if_neg h4, if_neg h6, if_neg h7, if_neg h8]
  rw [e]
  exact within_other p n (by omega) w
theorem step_inI (p : Int) (h0 : p ≠ 0) (h5 : p ≠ 5) (l : List UInt8) (c : UInt8) : stepC (p, l) c = (inI p (c.toNat : Int), []) := by
  by_cases h1 : p = 1
  · subst h1
    have H : ∀ k : Fin 256, stepC (1, []) (UInt8.ofNat k.val) = (inI 1 ((UInt8.ofNat k.val).toNat : Int), []) := by decide +kernel
    have Hc := H ⟨c.toNat, c.toNat_lt⟩
    simp only [UInt8.ofNat_toNat] at Hc
    exact Hc
  by_cases h2 : p = 2
  · subst h2
    have H : ∀ k : Fin 256, stepC (2, []) (UInt8.ofNat k.val) = (inI 2 ((UInt8.ofNat k.val).toNat : Int), []) := by decide +kernel
    have Hc := H ⟨c.toNat, c.toNat_lt⟩
    simp only [UInt8.ofNat_toNat] at Hc
    exact Hc
  by_cases h3 : p = 3
  · subst h3
    have H : ∀ k : Fin 256, stepC (3, []) (UInt8.ofNat k.val) = (inI 3 ((UInt8.ofNat k.val).toNat : Int), []) := by decide +kernel
    have Hc := H ⟨c.toNat, c.toNat_lt⟩
    simp only [UInt8.ofNat_toNat] at Hc
    exact Hc
  by_cases h4 : p = 4
  · subst h4
    have H : ∀ k : Fin 256, stepC (4, []) (UInt8.ofNat k.val) = (inI 4 ((UInt8.ofNat k.val).toNat : Int), []) := by decide +kernel
    have Hc := H ⟨c.toNat, c.toNat_lt⟩
    simp only [UInt8.ofNat_toNat] at Hc
    exact Hc
  by_cases h6 : p = 6
  · subst h6
    have H : ∀ k : Fin 256, stepC (6, []) (UInt8.ofNat k.val) = (inI 6 ((UInt8.ofNat k.val).toNat : Int), []) := by decide +kernel
    have Hc := H ⟨c.toNat, c.toNat_lt⟩
    simp only [UInt8.ofNat_toNat] at Hc
    exact Hc
  by_cases h7 : p = 7
  · subst h7
    have H : ∀ k : Fin 256, stepC (7, []) (UInt8.ofNat k.val) = (inI 7 ((UInt8.ofNat k.val).toNat : Int), []) := by decide +kernel
    have Hc := H ⟨c.toNat, c.toNat_lt⟩
    simp only [UInt8.ofNat_toNat] at Hc
    exact Hc
  by_cases h8 : p = 8
  · subst h8
    have H : ∀ k : Fin 256, stepC (8, []) (UInt8.ofNat k.val) = (inI 8 ((UInt8.ofNat k.val).toNat : Int), []) := by decide +kernel
    have Hc := H ⟨c.toNat, c.toNat_lt⟩
    simp only [UInt8.ofNat_toNat] at Hc
    exact Hc
  unfold stepC inI
  simp only [h0, h1, h2, h3, h4, h5, h6, h7, h8, if_false]
theorem step_c (p : Int) (l : List UInt8) (c : UInt8) (w : World) :
    Calls Tryz.prog 140 #[.int .i64 p, .string (S l), .int .u8 (c.toNat : Int)] w fun e w' => e = .returned (.tuple #[.int .i64 (stepC (p, l) c).1, .string (S (stepC (p, l) c).2)]) ∧ Below w.heap.size w w' := by
  by_cases h0 : p = 0
  · subst h0
    have hi := fun w => inPlain_c l c w
    have e : stepC (0, l) c = plainC l c := rfl
    rw [e]
    generalize plainC l c = ans at hi ⊢
    generalize S ans.2 = X at hi ⊢
    generalize ans.1 = q at hi ⊢
    generalize S l = L at hi ⊢
    generalize (c.toNat : Int) = n at hi ⊢
    clear e
    go_enter Tryz.func140, Tryz.ntmps140
    go_wp2_with (go_at_call 153; refine (hi _).mono ?_; rintro e w' ⟨rfl, hb⟩)
    go_ret2
    exact ⟨rfl, hb⟩
  by_cases h5 : p = 5
  · subst h5
    have e : stepC (5, l) c = if c = 42 then (6, []) else plainC [] c := rfl
    rw [e]
    by_cases h42 : c = 42
    · rw [if_pos h42]
      have hv : ((c.toNat : Int) == 42) = true := oct_is (n := 42) h42 (by decide)
      clear e h42 h0
      generalize S l = L
      generalize (c.toNat : Int) = n at *
      go_enter Tryz.func140, Tryz.ntmps140
      go_wp2_with fail
      go_ret2
      exact ⟨rfl, Below.refl _ _⟩
    · rw [if_neg h42]
      have hv : ((c.toNat : Int) == 42) = false := oct_ne (n := 42) h42 (by decide)
      have hi := fun w => inPlain_c [] c w
      have es : S [] = ⟨#[]⟩ := rfl
      rw [es] at hi
      generalize plainC [] c = ans at hi ⊢
      generalize S ans.2 = X at hi ⊢
      generalize ans.1 = q at hi ⊢
      generalize S l = L
      generalize (c.toNat : Int) = n at *
      clear e h42 h0 es
      go_enter Tryz.func140, Tryz.ntmps140
      go_wp2_with (go_at_call 153; refine (hi _).mono ?_; rintro e w' ⟨rfl, hb⟩)
      go_ret2
      exact ⟨rfl, hb⟩
  have hi := within_c p (c.toNat : Int) w
  have e := step_inI p h0 h5 l c
  rw [e]
  have b0 : (p == 0) = false := by rw [beq_eq_false_iff_ne]; exact h0
  have b5 : (p == 5) = false := by rw [beq_eq_false_iff_ne]; exact h5
  clear e h0 h5
  generalize (c.toNat : Int) = n at *
  generalize S l = L
  generalize inI p n = r at hi ⊢
  go_enter Tryz.func140, Tryz.ntmps140
  go_wp2_with (go_at_call 154; refine hi.mono ?_; rintro e w' ⟨rfl, rfl⟩)
  go_ret2
  exact ⟨rfl, Below.refl _ _⟩
theorem plain_len (l : List UInt8) (c : UInt8) (M : Nat) (hM : 16 ≤ M) (h : l.length ≤ M) : (plainC l c).2.length ≤ M := by
  unfold plainC
  split
  · split
    · rw [List.length_append, List.length_singleton]; omega
    · exact h
  · repeat' split
    all_goals simp
theorem step_len (s : St) (c : UInt8) (M : Nat) (hM : 16 ≤ M) (h : s.2.length ≤ M) : (stepC s c).2.length ≤ M := by
  obtain ⟨p, l⟩ := s
  by_cases h0 : p = 0
  · subst h0
    exact plain_len l c M hM h
  by_cases h5 : p = 5
  · subst h5
    have e : stepC (5, l) c = if c = 42 then (6, []) else plainC [] c := rfl
    rw [e]
    split
    · simp
    · exact plain_len [] c M hM (by simp)
  rw [step_inI p h0 h5 l c]
  simp
end Go.Proofs.YtklpbkjplecdpaaGreat.Csc

/-
  Contracts of Step and Hole of packages urlscan, jsscan, cssscan; of package scan's followOctet and demandFollowed.
-/
namespace Go.Proofs.YtklpbkjplecdpaaGreat.Scw
open Go.RowKit Oct Scn Tab Tok

theorem step1_c (p : Int) (l : List UInt8) (c : UInt8) (h : Scn.Good (p, l)) (w : World) :
    Calls Tryz.prog 124 #[.int .i64 p, .string (S l), .int .u8 (c.toNat : Int)] w fun e w' => e = .returned (.tuple #[.int .i64 (stepK 1 (p, l) c).1, .string (S (stepK 1 (p, l) c).2)]) ∧ Below w.heap.size w w' := by
  have hs := fun w => Usc.step_c p l c (by have := h.2.2; simp only at this; omega) w
  have hg := good_u (p, l) c h
  have he : stepK 1 (p, l) c = Usc.stepU (p, l) c := rfl
  rw [← he] at hs hg
  have hl := hg.2.2
  generalize stepK 1 (p, l) c = x at *
  have hc := fun w => clone_c (S x.2) w (by rw [size_S]; omega)
  clear he hg hl h
  generalize S x.2 = X at *
  generalize S l = L at *
  generalize (c.toNat : Int) = n at *
  go_enter Tryz.func124, Tryz.ntmps124
  go_wp2_with fail
  refine (hs _).mono ?_
  rintro e w1 ⟨rfl, hb1⟩
  have B1 := Lib.hid hb1
  clear hb1 hs
  go_wp2_with fail
  refine (hc _).mono ?_
  rintro e w2 ⟨rfl, hb2⟩
  have B2 := Lib.hid (B1.out.trans (hb2.mono B1.out.size))
  clear hb2 hc
  go_wp2_with fail
  go_ret2
  exact ⟨rfl, B2.out⟩
theorem step2_c (p : Int) (l : List UInt8) (c : UInt8) (h : Scn.Good (p, l)) (w : World) :
    Calls Tryz.prog 125 #[.int .i64 p, .string (S l), .int .u8 (c.toNat : Int)] w fun e w' => e = .returned (.tuple #[.int .i64 (stepK 2 (p, l) c).1, .string (S (stepK 2 (p, l) c).2)]) ∧ Below w.heap.size w w' := by
  have hs := fun w => Jsc.step_c p l c w
  have hg := good_j (p, l) c h
  have he : stepK 2 (p, l) c = Jsc.stepJ (p, l) c := rfl
  rw [← he] at hs hg
  have hl := hg.2.2
  generalize stepK 2 (p, l) c = x at *
  have hc := fun w => clone_c (S x.2) w (by rw [size_S]; omega)
  clear he hg hl h
  generalize S x.2 = X at *
  generalize S l = L at *
  generalize (c.toNat : Int) = n at *
  go_enter Tryz.func125, Tryz.ntmps125
  go_wp2_with fail
  refine (hs _).mono ?_
  rintro e w1 ⟨rfl, hb1⟩
  have B1 := Lib.hid hb1
  clear hb1 hs
  go_wp2_with fail
  refine (hc _).mono ?_
  rintro e w2 ⟨rfl, hb2⟩
  have B2 := Lib.hid (B1.out.trans (hb2.mono B1.out.size))
  clear hb2 hc
  go_wp2_with fail
  go_ret2
  exact ⟨rfl, B2.out⟩
theorem step3_c (p : Int) (l : List UInt8) (c : UInt8) (h : Scn.Good (p, l)) (w : World) :
    Calls Tryz.prog 126 #[.int .i64 p, .string (S l), .int .u8 (c.toNat : Int)] w fun e w' => e = .returned (.tuple #[.int .i64 (stepK 3 (p, l) c).1, .string (S (stepK 3 (p, l) c).2)]) ∧ Below w.heap.size w w' := by
  have hs := fun w => Csc.step_c p l c w
  have hg := good_c (p, l) c h
  have he : stepK 3 (p, l) c = Csc.stepC (p, l) c := rfl
  rw [← he] at hs hg
  have hl := hg.2.2
  generalize stepK 3 (p, l) c = x at *
  have hc := fun w => clone_c (S x.2) w (by rw [size_S]; omega)
  clear he hg hl h
  generalize S x.2 = X at *
  generalize S l = L at *
  generalize (c.toNat : Int) = n at *
  go_enter Tryz.func126, Tryz.ntmps126
  go_wp2_with fail
  refine (hs _).mono ?_
  rintro e w1 ⟨rfl, hb1⟩
  have B1 := Lib.hid hb1
  clear hb1 hs
  go_wp2_with fail
  refine (hc _).mono ?_
  rintro e w2 ⟨rfl, hb2⟩
  have B2 := Lib.hid (B1.out.trans (hb2.mono B1.out.size))
  clear hb2 hc
  go_wp2_with fail
  go_ret2
  exact ⟨rfl, B2.out⟩

set_option maxHeartbeats 1000000 in
set_option maxRecDepth 100000 in
theorem demandFollowed_c (m : Nat) (R : Nat) (T : TypeId) (tl : List Value) (s : Sc) (w : World) (h : Wk R T tl s w) :
    Calls Tryz.prog 81 #[.pointer (some ⟨R, 0, none⟩), .int .i64 (m : Int)] w fun e w' => e = (match demS m s with | .ok _ => .returned (.tuple #[]) | .error n => Fault (n : Int)) ∧ w = w' := by
  obtain ⟨c0, c1, c2, c3, c4, c5, c6, c7⟩ := h.cells
  have hy := demand_yes
  have hn := demand_no
  have e2 : ((m : Int) != 2) = decide (m ≠ 2) := by rw [Bool.eq_iff_iff, bne_iff_ne, decide_eq_true_iff]; omega
  have e3 : ((m : Int) != 3) = decide (m ≠ 3) := by rw [Bool.eq_iff_iff, bne_iff_ne, decide_eq_true_iff]; omega
  have n15 : (s.n != 15) = decide (s.n ≠ 15) := by rw [Bool.eq_iff_iff, bne_iff_ne, decide_eq_true_iff]
  have n9 : (s.n != 9) = decide (s.n ≠ 9) := by rw [Bool.eq_iff_iff, bne_iff_ne, decide_eq_true_iff]
  clear h c0 c1 c2 c3 c4 c5 c7
  unfold demS
  by_cases h2 : m = 2 ∧ s.n = 15
  · rw [if_pos h2]
    obtain ⟨q1, q2⟩ := h2
    rw [decide_eq_false (fun g => g q1)] at e2
    rw [decide_eq_false (fun g => g q2)] at n15
    generalize (m : Int) = M at *
    generalize s.n = N at *
    clear e3 n9 q1 q2
    go_enter Tryz.func81, Tryz.ntmps81
    go_wp2_with fail
    refine (hn _ _).mono ?_
    rintro e w1 ⟨rfl, rfl⟩
    exact ⟨rfl, rfl, rfl⟩
  · rw [if_neg h2]
    by_cases h3 : m = 3 ∧ s.n = 9
    · rw [if_pos h3]
      obtain ⟨q1, q2⟩ := h3
      rw [decide_eq_true (by omega)] at e2
      rw [decide_eq_false (fun g => g q1)] at e3
      rw [decide_eq_false (fun g => g q2)] at n9
      generalize (m : Int) = M at *
      generalize s.n = N at *
      clear n15 h2 q1 q2
      go_enter Tryz.func81, Tryz.ntmps81
      go_wp2_with fail
      refine (hy _ _).mono ?_
      rintro e w1 ⟨rfl, rfl⟩
      go_wp2_with fail
      refine (hn _ _).mono ?_
      rintro e w1 ⟨rfl, rfl⟩
      exact ⟨rfl, rfl, rfl⟩
    · rw [if_neg h3]
      have key : Hid ((m ≠ 2 ∨ s.n ≠ 15) ∧ (m ≠ 3 ∨ s.n ≠ 9)) := ⟨by omega, by omega⟩
      clear h2 h3
      by_cases g2 : m = 2
      · have g15 : s.n ≠ 15 := by have := key.out; omega
        have g3 : m ≠ 3 := by omega
        rw [decide_eq_false (fun g => g g2)] at e2
        rw [decide_eq_true g15] at n15
        rw [decide_eq_true g3] at e3
        clear key g2 g15 g3 n9
        generalize (m : Int) = M at *
        generalize s.n = N at *
        go_enter Tryz.func81, Tryz.ntmps81
        go_wp2_with fail
        refine (hy _ _).mono ?_
        rintro e w1 ⟨rfl, rfl⟩
        go_wp2_with fail
        refine (hy _ _).mono ?_
        rintro e w1 ⟨rfl, rfl⟩
        go_wp2_with fail
        go_end0
        exact ⟨rfl, rfl⟩
      · rw [decide_eq_true g2] at e2
        by_cases g3 : m = 3
        · have g9 : s.n ≠ 9 := by have := key.out; omega
          rw [decide_eq_false (fun g => g g3)] at e3
          rw [decide_eq_true g9] at n9
          clear key g2 g3 g9 n15
          generalize (m : Int) = M at *
          generalize s.n = N at *
          go_enter Tryz.func81, Tryz.ntmps81
          go_wp2_with fail
          refine (hy _ _).mono ?_
          rintro e w1 ⟨rfl, rfl⟩
          go_wp2_with fail
          refine (hy _ _).mono ?_
          rintro e w1 ⟨rfl, rfl⟩
          go_wp2_with fail
          go_end0
          exact ⟨rfl, rfl⟩
        · rw [decide_eq_true g3] at e3
          clear key g2 g3 n9 n15
          generalize (m : Int) = M at *
          generalize s.n = N at *
          go_enter Tryz.func81, Tryz.ntmps81
          go_wp2_with fail
          refine (hy _ _).mono ?_
          rintro e w1 ⟨rfl, rfl⟩
          go_wp2_with fail
          refine (hy _ _).mono ?_
          rintro e w1 ⟨rfl, rfl⟩
          go_wp2_with fail
          go_end0
          exact ⟨rfl, rfl⟩

set_option maxHeartbeats 1000000 in
set_option maxRecDepth 100000 in
theorem follow1_c (c : UInt8) (R : Nat) (T : TypeId) (tl : List Value) (s : Sc) (hg : Scn.Good (s.n, s.w)) (w : World) (h : Wk R T tl s w) :
    Calls Tryz.prog 105 #[.pointer (some ⟨R, 0, none⟩), .int .i64 1, .int .u8 (c.toNat : Int)] w (To R T tl w (octK 1 s c)) := by
  have hs := fun w => step1_c s.n s.w c hg w
  have HX : Hid (∀ W, Below w.heap.size w W → W.cell? ⟨R, 6, none⟩ = some (.int .i64 s.n) ∧ W.cell? ⟨R, 7, none⟩ = some (.string (S s.w)) ∧ W.frozen? ⟨R, 6, none⟩ = false ∧ W.frozen? ⟨R, 7, none⟩ = false) := fun W hb => by
    have g := h.keep hb
    exact ⟨g.cells.2.2.2.2.2.2.1, g.cells.2.2.2.2.2.2.2, g.froz.2.2.2.2.2.2.1, g.froz.2.2.2.2.2.2.2⟩
  have fin : Hid (∀ W (p : Int) (X : List UInt8), Below w.heap.size w W → Wk R T tl { s with n := p, w := X } ((W.setCell ⟨R, 6, none⟩ (.int .i64 p)).setCell ⟨R, 7, none⟩ (.string (S X))) ∧ Keeps R w ((W.setCell ⟨R, 6, none⟩ (.int .i64 p)).setCell ⟨R, 7, none⟩ (.string (S X)))) := fun W p X hb => by
    have h8 := heap_setCell_same _ R 7 _ _ (.string (S X)) (heap_setCell_same _ R 6 _ _ (.int .i64 p) (h.keep hb))
    simp only [List.setIfInBounds_toArray, List.set_cons_zero, List.set_cons_succ] at h8
    exact ⟨h8, ((Keeps.of hb).trans (Keeps.set W _)).trans (Keeps.set _ _)⟩
  obtain ⟨c0, c1, c2, c3, c4, c5, c6, c7⟩ := h.cells
  clear h hg c0 c1 c2 c3 c4 c5
  have E : Hid (octK 1 s c = if s.n = 4 ∧ (stepK 1 (s.n, s.w) c).1 = 5 then .error 93 else .ok { s with n := (stepK 1 (s.n, s.w) c).1, w := (stepK 1 (s.n, s.w) c).2 }) := by
    show _ = _
    unfold octK
    rw [if_neg (by omega)]
    simp only [true_and]; rfl
  generalize octK 1 s c = r at E ⊢
  generalize stepK 1 (s.n, s.w) c = x at hs E
  obtain ⟨x1, x2⟩ := x
  have hs : ∀ w, Calls Tryz.prog 124 #[.int .i64 s.n, .string (S s.w), .int .u8 (c.toNat : Int)] w fun e w' => e = .returned (.tuple #[.int .i64 x1, .string (S x2)]) ∧ Below w.heap.size w w' := hs
  have E := E.out
  obtain ⟨X2, hX2⟩ : ∃ X, X = S x2 := ⟨_, rfl⟩
  rw [← hX2] at hs
  have HE := Lib.hid hX2
  have n4 : (s.n != 4) = decide (s.n ≠ 4) := by rw [Bool.eq_iff_iff, bne_iff_ne, decide_eq_true_iff]
  have n5 : (x1 != 5) = decide (x1 ≠ 5) := by rw [Bool.eq_iff_iff, bne_iff_ne, decide_eq_true_iff]
  have M6 : Hid (∀ W, Below w.heap.size w W → ((W.setCell ⟨R, 6, none⟩ (.int .i64 x1)).setCell ⟨R, 7, none⟩ (.string X2)).cell? ⟨R, 6, none⟩ = some (.int .i64 x1) ∧ True) := fun W hb => by
    have q := (fin.out W x1 x2 hb).1.cells.2.2.2.2.2.2.1
    rw [← hX2] at q
    exact ⟨q, trivial⟩
  clear hX2
  by_cases h45 : s.n = 4 ∧ x1 = 5
  · have hd := demand_no
    rw [if_pos h45] at E
    rw [decide_eq_false (fun g => g h45.1)] at n4
    rw [decide_eq_false (fun g => g h45.2)] at n5
    subst E
    generalize hN : s.n = N at *
    generalize x1 = N1 at *
    clear h45 hN
    go_enter Tryz.func105, Tryz.ntmps105
    go_wp2_with fail
    go_region_with (go_at_call 124; refine (hs _).mono ?_; rintro e w1 ⟨rfl, hb1⟩; have HB := Lib.hid (Below.trans ((Below.refl _ w).drew) hb1); obtain ⟨d6, d7, y6, y7⟩ := HX.out _ HB.out; clear hb1 c6 c7)
    all_goals (obtain ⟨m6, _⟩ := M6.out w1 HB.out)
    all_goals (go_wp2_with fail)
    all_goals (refine (hd _ _).mono ?_)
    all_goals (rintro e w2 ⟨rfl, rfl⟩)
    all_goals (have q := fin.out w1 N1 x2 HB.out; rw [← HE.out] at q; exact ⟨rfl, To.err q.2⟩)
  · have hd := demand_yes
    rw [if_neg h45] at E
    subst E
    by_cases h4 : s.n = 4
    · have h5 : x1 ≠ 5 := fun g => h45 ⟨h4, g⟩
      rw [decide_eq_false (fun g => g h4)] at n4
      rw [decide_eq_true h5] at n5
      clear h45 h4 h5
      go_enter Tryz.func105, Tryz.ntmps105
      go_wp2_with fail
      go_region_with (go_at_call 124; refine (hs _).mono ?_; rintro e w1 ⟨rfl, hb1⟩; have HB := Lib.hid (Below.trans ((Below.refl _ w).drew) hb1); obtain ⟨d6, d7, y6, y7⟩ := HX.out _ HB.out; clear hb1 c6 c7)
      all_goals (obtain ⟨m6, _⟩ := M6.out w1 HB.out)
      all_goals (go_wp2_with fail)
      all_goals (refine (hd _ _).mono ?_)
      all_goals (rintro e w2 ⟨rfl, rfl⟩)
      all_goals (go_wp2_with fail)
      all_goals go_end0
      all_goals (have q := fin.out w1 x1 x2 HB.out; rw [← HE.out] at q; exact To.ok q.2 q.1)
    · rw [decide_eq_true h4] at n4
      clear h45 h4 n5
      go_enter Tryz.func105, Tryz.ntmps105
      go_wp2_with fail
      go_region_with (go_at_call 124; refine (hs _).mono ?_; rintro e w1 ⟨rfl, hb1⟩; have HB := Lib.hid (Below.trans ((Below.refl _ w).drew) hb1); obtain ⟨d6, d7, y6, y7⟩ := HX.out _ HB.out; clear hb1 c6 c7)
      all_goals (obtain ⟨m6, _⟩ := M6.out w1 HB.out)
      all_goals (go_wp2_with fail)
      all_goals (refine (hd _ _).mono ?_)
      all_goals (rintro e w2 ⟨rfl, rfl⟩)
      all_goals (go_wp2_with fail)
      all_goals go_end0
      all_goals (have q := fin.out w1 x1 x2 HB.out; rw [← HE.out] at q; exact To.ok q.2 q.1)

set_option maxHeartbeats 1000000 in
set_option maxRecDepth 100000 in
theorem follow2_c (c : UInt8) (R : Nat) (T : TypeId) (tl : List Value) (s : Sc) (hg : Scn.Good (s.n, s.w)) (w : World) (h : Wk R T tl s w) :
    Calls Tryz.prog 105 #[.pointer (some ⟨R, 0, none⟩), .int .i64 2, .int .u8 (c.toNat : Int)] w (To R T tl w (octK 2 s c)) := by
  have hs := fun w => step2_c s.n s.w c hg w
  have HX : Hid (∀ W, Below w.heap.size w W → W.cell? ⟨R, 6, none⟩ = some (.int .i64 s.n) ∧ W.cell? ⟨R, 7, none⟩ = some (.string (S s.w)) ∧ W.frozen? ⟨R, 6, none⟩ = false ∧ W.frozen? ⟨R, 7, none⟩ = false) := fun W hb => by
    have g := h.keep hb
    exact ⟨g.cells.2.2.2.2.2.2.1, g.cells.2.2.2.2.2.2.2, g.froz.2.2.2.2.2.2.1, g.froz.2.2.2.2.2.2.2⟩
  have fin : Hid (∀ W (p : Int) (X : List UInt8), Below w.heap.size w W → Wk R T tl { s with n := p, w := X } ((W.setCell ⟨R, 6, none⟩ (.int .i64 p)).setCell ⟨R, 7, none⟩ (.string (S X))) ∧ Keeps R w ((W.setCell ⟨R, 6, none⟩ (.int .i64 p)).setCell ⟨R, 7, none⟩ (.string (S X)))) := fun W p X hb => by
    have h8 := heap_setCell_same _ R 7 _ _ (.string (S X)) (heap_setCell_same _ R 6 _ _ (.int .i64 p) (h.keep hb))
    simp only [List.setIfInBounds_toArray, List.set_cons_zero, List.set_cons_succ] at h8
    exact ⟨h8, ((Keeps.of hb).trans (Keeps.set W _)).trans (Keeps.set _ _)⟩
  obtain ⟨c0, c1, c2, c3, c4, c5, c6, c7⟩ := h.cells
  clear h hg c0 c1 c2 c3 c4 c5
  have E : Hid (octK 2 s c = Except.ok { s with n := (stepK 2 (s.n, s.w) c).1, w := (stepK 2 (s.n, s.w) c).2 }) := by
    show _ = _
    unfold octK
    rw [if_neg (by omega), if_neg (by omega)]
    rfl
  generalize octK 2 s c = r at E ⊢
  generalize stepK 2 (s.n, s.w) c = x at hs E
  obtain ⟨x1, x2⟩ := x
  have hs : ∀ w, Calls Tryz.prog 125 #[.int .i64 s.n, .string (S s.w), .int .u8 (c.toNat : Int)] w fun e w' => e = .returned (.tuple #[.int .i64 x1, .string (S x2)]) ∧ Below w.heap.size w w' := hs
  have E := E.out
  subst E
  obtain ⟨X2, hX2⟩ : ∃ X, X = S x2 := ⟨_, rfl⟩
  rw [← hX2] at hs
  have HE := Lib.hid hX2
  clear hX2
  go_enter Tryz.func105, Tryz.ntmps105
  go_wp2_with fail
  go_region_with (go_at_call 125; refine (hs _).mono ?_; rintro e w1 ⟨rfl, hb1⟩; have HB := Lib.hid (Below.trans ((Below.refl _ w).drew) hb1); obtain ⟨d6, d7, y6, y7⟩ := HX.out _ HB.out; clear hb1 c6 c7)
  all_goals (go_wp2_with fail)
  all_goals go_end0
  all_goals (have q := fin.out w1 x1 x2 HB.out; rw [← HE.out] at q; exact To.ok q.2 q.1)

set_option maxHeartbeats 1000000 in
set_option maxRecDepth 100000 in
theorem follow3_c (c : UInt8) (R : Nat) (T : TypeId) (tl : List Value) (s : Sc) (hg : Scn.Good (s.n, s.w)) (w : World) (h : Wk R T tl s w) :
    Calls Tryz.prog 105 #[.pointer (some ⟨R, 0, none⟩), .int .i64 3, .int .u8 (c.toNat : Int)] w (To R T tl w (octK 3 s c)) := by
  have hs := fun w => step3_c s.n s.w c hg w
  have HX : Hid (∀ W, Below w.heap.size w W → W.cell? ⟨R, 6, none⟩ = some (.int .i64 s.n) ∧ W.cell? ⟨R, 7, none⟩ = some (.string (S s.w)) ∧ W.frozen? ⟨R, 6, none⟩ = false ∧ W.frozen? ⟨R, 7, none⟩ = false) := fun W hb => by
    have g := h.keep hb
    exact ⟨g.cells.2.2.2.2.2.2.1, g.cells.2.2.2.2.2.2.2, g.froz.2.2.2.2.2.2.1, g.froz.2.2.2.2.2.2.2⟩
  have fin : Hid (∀ W (p : Int) (X : List UInt8), Below w.heap.size w W → Wk R T tl { s with n := p, w := X } ((W.setCell ⟨R, 6, none⟩ (.int .i64 p)).setCell ⟨R, 7, none⟩ (.string (S X))) ∧ Keeps R w ((W.setCell ⟨R, 6, none⟩ (.int .i64 p)).setCell ⟨R, 7, none⟩ (.string (S X)))) := fun W p X hb => by
    have h8 := heap_setCell_same _ R 7 _ _ (.string (S X)) (heap_setCell_same _ R 6 _ _ (.int .i64 p) (h.keep hb))
    simp only [List.setIfInBounds_toArray, List.set_cons_zero, List.set_cons_succ] at h8
    exact ⟨h8, ((Keeps.of hb).trans (Keeps.set W _)).trans (Keeps.set _ _)⟩
  obtain ⟨c0, c1, c2, c3, c4, c5, c6, c7⟩ := h.cells
  clear h hg c0 c1 c2 c3 c4 c5
  have E : Hid (octK 3 s c = Except.ok { s with n := (stepK 3 (s.n, s.w) c).1, w := (stepK 3 (s.n, s.w) c).2 }) := by
    show _ = _
    unfold octK
    rw [if_neg (by omega), if_neg (by omega)]
    rfl
  generalize octK 3 s c = r at E ⊢
  generalize stepK 3 (s.n, s.w) c = x at hs E
  obtain ⟨x1, x2⟩ := x
  have hs : ∀ w, Calls Tryz.prog 126 #[.int .i64 s.n, .string (S s.w), .int .u8 (c.toNat : Int)] w fun e w' => e = .returned (.tuple #[.int .i64 x1, .string (S x2)]) ∧ Below w.heap.size w w' := hs
  have E := E.out
  subst E
  obtain ⟨X2, hX2⟩ : ∃ X, X = S x2 := ⟨_, rfl⟩
  rw [← hX2] at hs
  have HE := Lib.hid hX2
  clear hX2
  go_enter Tryz.func105, Tryz.ntmps105
  go_wp2_with fail
  go_region_with (go_at_call 126; refine (hs _).mono ?_; rintro e w1 ⟨rfl, hb1⟩; have HB := Lib.hid (Below.trans ((Below.refl _ w).drew) hb1); obtain ⟨d6, d7, y6, y7⟩ := HX.out _ HB.out; clear hb1 c6 c7)
  all_goals (go_wp2_with fail)
  all_goals go_end0
  all_goals (have q := fin.out w1 x1 x2 HB.out; rw [← HE.out] at q; exact To.ok q.2 q.1)

theorem follow0_c (m : Nat) (hm : m = 0 ∨ 4 ≤ m) (c : UInt8) (R : Nat) (T : TypeId) (tl : List Value) (s : Sc) (w : World) (h : Wk R T tl s w) :
    Calls Tryz.prog 105 #[.pointer (some ⟨R, 0, none⟩), .int .i64 (m : Int), .int .u8 (c.toNat : Int)] w (To R T tl w (octK m s c)) := by
  have e1 : ((m : Int) == 1) = false := by rw [beq_eq_false_iff_ne]; omega
  have e2 : ((m : Int) == 2) = false := by rw [beq_eq_false_iff_ne]; omega
  have e3 : ((m : Int) == 3) = false := by rw [beq_eq_false_iff_ne]; omega
  have E : octK m s c = .ok s := by unfold octK; rw [if_pos hm]
  rw [E]
  have HW := Lib.hid h
  clear E hm h
  generalize (m : Int) = M at *
  go_enter Tryz.func105, Tryz.ntmps105
  go_wp2_with fail
  go_end0
  exact To.ok (Keeps.refl R w) HW.out
theorem followOctet_c (m : Nat) (c : UInt8) (R : Nat) (T : TypeId) (tl : List Value) (s : Sc) (hg : Scn.Good (s.n, s.w)) (w : World) (h : Wk R T tl s w) :
    Calls Tryz.prog 105 #[.pointer (some ⟨R, 0, none⟩), .int .i64 (m : Int), .int .u8 (c.toNat : Int)] w (To R T tl w (octK m s c)) := by
  by_cases h0 : m = 0 ∨ 4 ≤ m
  · exact follow0_c m h0 c R T tl s w h
  · have : m = 1 ∨ m = 2 ∨ m = 3 := by omega
    rcases this with rfl | rfl | rfl
    · exact follow1_c c R T tl s hg w h
    · exact follow2_c c R T tl s hg w h
    · exact follow3_c c R T tl s hg w h

end Go.Proofs.YtklpbkjplecdpaaGreat.Scw
