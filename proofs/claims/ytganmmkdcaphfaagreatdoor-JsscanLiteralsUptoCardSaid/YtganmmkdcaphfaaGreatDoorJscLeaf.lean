/-
  Contracts of the leaves of package jsscan: newlines, words, marks, what ends a line.
-/
import Derived.Test.YtganmmkdcaphfaaGreatDoorJsBase
namespace Go.Proofs.YtganmmkdcaphfaaGreatDoor.Jsc
open Go.RowKit Go.Proofs.YtganmmkdcaphfaaGreatDoor.Oct Go.Proofs.YtganmmkdcaphfaaGreatDoor.Utf

theorem oct_ne {c : UInt8} {n : Nat} (h : c ≠ n.toUInt8) (hn : n < 256) : ((c.toNat : Int) == (n : Int)) = false := by
  rw [beq_eq_false_iff_ne]
  intro e
  apply h
  apply UInt8.toNat_inj.1
  rw [Nat.toUInt8_eq, UInt8.toNat_ofNat']
  omega

/-! ### Newlines -/
def lineI (n : Int) : Bool := decide (n = 10 ∨ n = 13)
theorem newline_c (n : Int) (w : World) : Calls Tryz.prog 52 #[.int .u8 n] w fun e w' => e = .returned (.bool (lineI n)) ∧ w = w' := by
  by_cases h1 : n = 10
  · subst h1
    go_enter Tryz.func52, Tryz.ntmps52
    go_wp2_with fail
    go_ret
    exact ⟨rfl, rfl⟩
  have b1 : (n == 10) = false := by rw [beq_eq_false_iff_ne]; exact h1
  by_cases h2 : n = 13
  · subst h2
    go_enter Tryz.func52, Tryz.ntmps52
    go_wp2_with fail
    go_ret
    exact ⟨rfl, rfl⟩
  have b2 : (n == 13) = false := by rw [beq_eq_false_iff_ne]; exact h2
  have E : Hid (lineI n = false) := by
    show _ = _
    unfold lineI
    rw [decide_eq_false (by omega)]
  clear h1 h2
  go_enter Tryz.func52, Tryz.ntmps52
  go_wp2_with fail
  go_ret
  exact ⟨ret_bool (by rw [E.out]), rfl⟩

/-! ### Up to an octet -/
theorem upTo_c (e0 n p b : Int) (w : World) : Calls Tryz.prog 50 #[.int .u8 e0, .int .u8 n, .int .i64 p, .int .i64 b] w fun e w' => e = .returned (.int .i64 (if n = e0 then b else p)) ∧ w = w' := by
  by_cases h : n = e0
  · rw [if_pos h]
    have hb : (n == e0) = true := by rw [beq_iff_eq]; exact h
    clear h
    go_enter Tryz.func50, Tryz.ntmps50
    go_wp2_with fail
    go_ret
    exact ⟨rfl, rfl⟩
  · rw [if_neg h]
    have hb : (n == e0) = false := by rw [beq_eq_false_iff_ne]; exact h
    clear h
    go_enter Tryz.func50, Tryz.ntmps50
    go_wp2_with fail
    go_ret
    exact ⟨rfl, rfl⟩

/-- Where an octet leads to from what may not go on in another line. -/
def inLineI (n s r : Int) : Int := if lineI n = true then 15 else if n = 92 then s else r
theorem inLine_c (n s r : Int) (g b : Nat) (w : World) (eg : ∀ args w, (callFunc g args).run Tryz.prog w = .ok (.enter g args) w) (hg : Calls Tryz.prog g #[.pointer (some ⟨b, 0, none⟩)] w fun e w' => e = .returned (.int .i64 r) ∧ w = w') :
    Calls Tryz.prog 48 #[.int .u8 n, .int .i64 s, .func (.func g) #[] #[.pointer (some ⟨b, 0, none⟩)]] w fun e w' => e = .returned (.int .i64 (inLineI n s r)) ∧ w = w' := by
  have hn := newline_c n w
  unfold inLineI
  cases hl : lineI n with
  | true =>
    rw [hl] at hn
    rw [if_pos rfl]
    clear hl hg
    go_enter Tryz.func48, Tryz.ntmps48
    go_wp2_with (go_at_call 52; refine hn.mono ?_; rintro e w' ⟨rfl, rfl⟩)
    go_ret
    exact ⟨rfl, rfl⟩
  | false =>
    rw [hl] at hn
    rw [if_neg (by simp)]
    by_cases h : n = 92
    · rw [if_pos h]
      subst h
      clear hl hg
      go_enter Tryz.func48, Tryz.ntmps48
      go_wp2_with (go_at_call 52; refine hn.mono ?_; rintro e w' ⟨rfl, rfl⟩)
      go_ret
      exact ⟨rfl, rfl⟩
    · rw [if_neg h]
      have hb : (n == 92) = false := by rw [beq_eq_false_iff_ne]; exact h
      clear hl h
      go_enter Tryz.func48, Tryz.ntmps48
      go_wp2_with (first | (go_at_call 52; refine hn.mono ?_; rintro e w' ⟨rfl, rfl⟩) | (go_at_fn g; refine hg.mono ?_; rintro e w' ⟨rfl, rfl⟩))
      go_ret
      exact ⟨rfl, rfl⟩

/-! ### Words -/
def wordI (n : Int) : Bool := letterI n || digitI n || decide (n = 95) || decide (n = 36) || decide (127 < n)
theorem word_oct (c : UInt8) : wordI (c.toNat : Int) = wordB c := by
  have h : ∀ k : Fin 256, wordI ((UInt8.ofNat k.val).toNat : Int) = wordB (UInt8.ofNat k.val) := by decide +kernel
  have := h ⟨c.toNat, c.toNat_lt⟩
  simpa using this
theorem inWord_c (n : Int) (w : World) (h0 : 0 ≤ n) (h1 : n ≤ 255) : Calls Tryz.prog 44 #[.int .u8 n] w fun e w' => e = .returned (.bool (wordI n)) ∧ w = w' := by
  have hl := letter_c n w h0 h1
  have E : Hid (wordI n = (letterI n || digitI n || decide (n = 95) || decide (n = 36) || decide (127 < n))) := rfl
  generalize wordI n = ans at E ⊢
  cases hlt : letterI n with
  | true =>
    rw [hlt] at hl E
    go_enter Tryz.func44, Tryz.ntmps44
    go_wp2_with (go_at_call 60; refine hl.mono ?_; rintro e w' ⟨rfl, rfl⟩)
    go_ret
    exact ⟨ret_bool (by rw [E.out]; simp), rfl⟩
  | false =>
    rw [hlt] at hl E
    clear hlt
    go_enter Tryz.func44, Tryz.ntmps44
    go_wp2_with (go_at_call 60; refine hl.mono ?_; rintro e w' ⟨rfl, rfl⟩)
    all_goals go_ret
    all_goals (refine ⟨ret_bool ?_, rfl⟩; rw [E.out]; rw [Bool.eq_iff_iff]; simp [digitI]; try (first | omega | (simp only [beq_iff_eq, beq_eq_false_iff_ne] at *; omega)))

theorem conv_one (w : World) (c : UInt8) : (convert 44 9 (.slice (some ⟨w.heap.size, 0, none⟩) 1 1)).run Tryz.prog (w.alloc (.cells #[.int .u8 (c.toNat : Int)] 5)) = .ok (.string (S [c])) (w.alloc (.cells #[.int .u8 (c.toNat : Int)] 5)) := by
  refine Mem.conv_own (base := w.heap.size) (n := 1) ?_
  exact ⟨rfl, .inr ⟨w.heap.size, 1, #[.int .u8 (c.toNat : Int)], rfl, Nat.le_refl _, heap_alloc_new w _, Nat.le_refl _, by decide, rfl, rfl⟩⟩
theorem grown_c (l : List UInt8) (c : UInt8) (w : World) :
    Calls Tryz.prog 45 #[.string (S l), .int .u8 (c.toNat : Int)] w fun e w' => e = .returned (.string (S (if l.length < 16 then l ++ [c] else l))) ∧ Below w.heap.size w w' := by
  have hsz : ((S l).size : Int) = (l.length : Int) := by rw [size_S]
  by_cases hlt : l.length < 16
  · rw [if_pos hlt]
    have hz : ¬ ((16 : Int) ≤ (l.length : Int)) := by omega
    have hcv := conv_one w c
    have ha : S l ++ S [c] = S (l ++ [c]) := S_append l [c]
    have z1 : (S l).size ≤ 16 := by rw [size_S]; omega
    have z2 : (S [c]).size ≤ 1 := by rw [size_S]; simp
    generalize S (l ++ [c]) = X at ha ⊢
    generalize S [c] = Y at ha hcv z2
    generalize S l = L at ha hsz z1 ⊢
    generalize (c.toNat : Int) = n at hcv ⊢
    go_enter Tryz.func45, Tryz.ntmps45
    go_wp2_with fail
    go_ret
    exact ⟨rfl, (Below.refl _ w).alloc (Nat.le_refl _) _⟩
  · rw [if_neg hlt]
    have hz : ((16 : Int) ≤ (l.length : Int)) := by omega
    clear hlt
    generalize S l = L at hsz ⊢
    go_enter Tryz.func45, Tryz.ntmps45
    go_wp2_with fail
    go_ret
    exact ⟨rfl, Below.refl _ _⟩

theorem eqK (a b : List UInt8) : ((S a).toList == b) = decide (a = b) := by
  rw [ByteArray.toList_eq]
  simp only
  rw [Bool.eq_iff_iff]
  simp
theorem ahead_c (l : List UInt8) (w : World) : Calls Tryz.prog 46 #[.string (S l)] w fun e w' => e = .returned (.bool (keyB l)) ∧ w = w' := by
  have q0 : ((S l).toList == [114, 101, 116, 117, 114, 110]) = decide (l = [114, 101, 116, 117, 114, 110]) := eqK l _
  have q1 : ((S l).toList == [116, 121, 112, 101, 111, 102]) = decide (l = [116, 121, 112, 101, 111, 102]) := eqK l _
  have q2 : ((S l).toList == [99, 97, 115, 101]) = decide (l = [99, 97, 115, 101]) := eqK l _
  have q3 : ((S l).toList == [105, 110]) = decide (l = [105, 110]) := eqK l _
  have q4 : ((S l).toList == [111, 102]) = decide (l = [111, 102]) := eqK l _
  have q5 : ((S l).toList == [100, 101, 108, 101, 116, 101]) = decide (l = [100, 101, 108, 101, 116, 101]) := eqK l _
  have q6 : ((S l).toList == [118, 111, 105, 100]) = decide (l = [118, 111, 105, 100]) := eqK l _
  have q7 : ((S l).toList == [116, 104, 114, 111, 119]) = decide (l = [116, 104, 114, 111, 119]) := eqK l _
  have q8 : ((S l).toList == [110, 101, 119]) = decide (l = [110, 101, 119]) := eqK l _
  have q9 : ((S l).toList == [101, 108, 115, 101]) = decide (l = [101, 108, 115, 101]) := eqK l _
  have q10 : ((S l).toList == [100, 111]) = decide (l = [100, 111]) := eqK l _
  have q11 : ((S l).toList == [105, 110, 115, 116, 97, 110, 99, 101, 111, 102]) = decide (l = [105, 110, 115, 116, 97, 110, 99, 101, 111, 102]) := eqK l _
  have E : Hid (keyB l = (decide (l = [114, 101, 116, 117, 114, 110]) || decide (l = [116, 121, 112, 101, 111, 102]) || decide (l = [99, 97, 115, 101]) || decide (l = [105, 110]) || decide (l = [111, 102]) || decide (l = [100, 101, 108, 101, 116, 101]) || decide (l = [118, 111, 105, 100]) || decide (l = [116, 104, 114, 111, 119]) || decide (l = [110, 101, 119]) || decide (l = [101, 108, 115, 101]) || decide (l = [100, 111]) || decide (l = [105, 110, 115, 116, 97, 110, 99, 101, 111, 102]))) := by
    show _ = _
    unfold keyB keys
    rw [Bool.eq_iff_iff]
    simp [or_assoc]
  generalize decide (l = [114, 101, 116, 117, 114, 110]) = b0 at q0 E
  generalize decide (l = [116, 121, 112, 101, 111, 102]) = b1 at q1 E
  generalize decide (l = [99, 97, 115, 101]) = b2 at q2 E
  generalize decide (l = [105, 110]) = b3 at q3 E
  generalize decide (l = [111, 102]) = b4 at q4 E
  generalize decide (l = [100, 101, 108, 101, 116, 101]) = b5 at q5 E
  generalize decide (l = [118, 111, 105, 100]) = b6 at q6 E
  generalize decide (l = [116, 104, 114, 111, 119]) = b7 at q7 E
  generalize decide (l = [110, 101, 119]) = b8 at q8 E
  generalize decide (l = [101, 108, 115, 101]) = b9 at q9 E
  generalize decide (l = [100, 111]) = b10 at q10 E
  generalize decide (l = [105, 110, 115, 116, 97, 110, 99, 101, 111, 102]) = b11 at q11 E
  generalize keyB l = ans at E ⊢
  generalize S l = L at *
  cases b0
  rotate_left
  · go_enter Tryz.func46, Tryz.ntmps46
    go_wp2_with fail
    go_ret
    exact ⟨ret_bool (by rw [E.out]; simp), rfl⟩
  cases b1
  rotate_left
  · go_enter Tryz.func46, Tryz.ntmps46
    go_wp2_with fail
    go_ret
    exact ⟨ret_bool (by rw [E.out]; simp), rfl⟩
  cases b2
  rotate_left
  · go_enter Tryz.func46, Tryz.ntmps46
    go_wp2_with fail
    go_ret
    exact ⟨ret_bool (by rw [E.out]; simp), rfl⟩
  cases b3
  rotate_left
  · go_enter Tryz.func46, Tryz.ntmps46
    go_wp2_with fail
    go_ret
    exact ⟨ret_bool (by rw [E.out]; simp), rfl⟩
  cases b4
  rotate_left
  · go_enter Tryz.func46, Tryz.ntmps46
    go_wp2_with fail
    go_ret
    exact ⟨ret_bool (by rw [E.out]; simp), rfl⟩
  cases b5
  rotate_left
  · go_enter Tryz.func46, Tryz.ntmps46
    go_wp2_with fail
    go_ret
    exact ⟨ret_bool (by rw [E.out]; simp), rfl⟩
  cases b6
  rotate_left
  · go_enter Tryz.func46, Tryz.ntmps46
    go_wp2_with fail
    go_ret
    exact ⟨ret_bool (by rw [E.out]; simp), rfl⟩
  cases b7
  rotate_left
  · go_enter Tryz.func46, Tryz.ntmps46
    go_wp2_with fail
    go_ret
    exact ⟨ret_bool (by rw [E.out]; simp), rfl⟩
  cases b8
  rotate_left
  · go_enter Tryz.func46, Tryz.ntmps46
    go_wp2_with fail
    go_ret
    exact ⟨ret_bool (by rw [E.out]; simp), rfl⟩
  cases b9
  rotate_left
  · go_enter Tryz.func46, Tryz.ntmps46
    go_wp2_with fail
    go_ret
    exact ⟨ret_bool (by rw [E.out]; simp), rfl⟩
  cases b10
  rotate_left
  · go_enter Tryz.func46, Tryz.ntmps46
    go_wp2_with fail
    go_ret
    exact ⟨ret_bool (by rw [E.out]; simp), rfl⟩
  cases b11
  rotate_left
  · go_enter Tryz.func46, Tryz.ntmps46
    go_wp2_with fail
    go_ret
    exact ⟨ret_bool (by rw [E.out]; simp), rfl⟩
  go_enter Tryz.func46, Tryz.ntmps46
  go_wp2_with fail
  go_ret
  exact ⟨ret_bool (by rw [E.out]; rfl), rfl⟩

/-! ### Marks -/
/-- Where an octet leads to that is in no word. -/
def markI (p n : Int) : Int := if n = 34 then 2 else if n = 39 then 3 else if n = 96 then 15 else if n = 47 then (if p = 0 then 13 else 14) else if n = 41 ∨ n = 93 ∨ n = 125 then 1 else if blankI n = true then p else 0
theorem mark_c (p n : Int) (w : World) : Calls Tryz.prog 47 #[.int .i64 p, .int .u8 n] w fun e w' => e = .returned (.int .i64 (markI p n)) ∧ w = w' := by
  have hbl := blank_c n w
  by_cases h34 : n = 34
  · have E : Hid (markI p n = 2) := by subst h34; rfl
    subst h34
    clear hbl
    go_enter Tryz.func47, Tryz.ntmps47
    go_wp2_with fail
    go_ret
    exact ⟨ret_int (by rw [E.out]), rfl⟩
  have n34 : (n == 34) = false := by rw [beq_eq_false_iff_ne]; exact h34
  by_cases h39 : n = 39
  · have E : Hid (markI p n = 3) := by subst h39; rfl
    subst h39
    clear hbl
    go_enter Tryz.func47, Tryz.ntmps47
    go_wp2_with fail
    go_ret
    exact ⟨ret_int (by rw [E.out]), rfl⟩
  have n39 : (n == 39) = false := by rw [beq_eq_false_iff_ne]; exact h39
  by_cases h96 : n = 96
  · have E : Hid (markI p n = 15) := by subst h96; rfl
    subst h96
    clear hbl
    go_enter Tryz.func47, Tryz.ntmps47
    go_wp2_with fail
    go_ret
    exact ⟨ret_int (by rw [E.out]), rfl⟩
  have n96 : (n == 96) = false := by rw [beq_eq_false_iff_ne]; exact h96
  by_cases h47 : n = 47
  · by_cases hp : p = 0
    · have E : Hid (markI p n = 13) := by subst h47 hp; rfl
      subst h47 hp
      clear hbl
      go_enter Tryz.func47, Tryz.ntmps47
      go_wp2_with fail
      go_ret
      exact ⟨ret_int (by rw [E.out]), rfl⟩
    · have E : Hid (markI p n = 14) := by
        subst h47
        show (if p = 0 then (13 : Int) else 14) = 14
        rw [if_neg hp]
      have hpb : (p == 0) = false := by rw [beq_eq_false_iff_ne]; exact hp
      subst h47
      clear hbl hp
      go_enter Tryz.func47, Tryz.ntmps47
      go_wp2_with fail
      go_ret
      exact ⟨ret_int (by rw [E.out]), rfl⟩
  have n47 : (n == 47) = false := by rw [beq_eq_false_iff_ne]; exact h47
  by_cases h41 : n = 41
  · have E : Hid (markI p n = 1) := by subst h41; rfl
    subst h41
    clear hbl
    go_enter Tryz.func47, Tryz.ntmps47
    go_wp2_with fail
    go_ret
    exact ⟨ret_int (by rw [E.out]), rfl⟩
  have n41 : (n == 41) = false := by rw [beq_eq_false_iff_ne]; exact h41
  by_cases h93 : n = 93
  · have E : Hid (markI p n = 1) := by subst h93; rfl
    subst h93
    clear hbl
    go_enter Tryz.func47, Tryz.ntmps47
    go_wp2_with fail
    go_ret
    exact ⟨ret_int (by rw [E.out]), rfl⟩
  have n93 : (n == 93) = false := by rw [beq_eq_false_iff_ne]; exact h93
  by_cases h125 : n = 125
  · have E : Hid (markI p n = 1) := by subst h125; rfl
    subst h125
    clear hbl
    go_enter Tryz.func47, Tryz.ntmps47
    go_wp2_with fail
    go_ret
    exact ⟨ret_int (by rw [E.out]), rfl⟩
  have n125 : (n == 125) = false := by rw [beq_eq_false_iff_ne]; exact h125
  have E : Hid (markI p n = if blankI n = true then p else 0) := by
    show _ = _
    unfold markI
    rw [if_neg h34, if_neg h39, if_neg h96, if_neg h47, if_neg (by omega)]
  clear h34 h39 h96 h47 h41 h93 h125
  cases hb : blankI n with
  | true =>
    rw [hb] at hbl E
    clear hb
    go_enter Tryz.func47, Tryz.ntmps47
    go_wp2_with (go_at_call 34; refine hbl.mono ?_; rintro e w' ⟨rfl, rfl⟩)
    go_ret
    exact ⟨ret_int (by rw [E.out]; rfl), rfl⟩
  | false =>
    rw [hb] at hbl E
    clear hb
    go_enter Tryz.func47, Tryz.ntmps47
    go_wp2_with (go_at_call 34; refine hbl.mono ?_; rintro e w' ⟨rfl, rfl⟩)
    go_ret
    exact ⟨ret_int (by rw [E.out]; rfl), rfl⟩
end Go.Proofs.YtganmmkdcaphfaaGreatDoor.Jsc
