/-
  The law RefsNumbers, out of the contracts of the calls that it makes.
-/
import Derived.Test.YtamenccdnobjkaaDoorCrfLaws
namespace Go.Proofs.YtamenccdnobjkaaDoor.Crf
open Go.RowKit Go.Proofs.YtamenccdnobjkaaDoor.Oct Go.Proofs.YtamenccdnobjkaaDoor.Num Go.Proofs.YtamenccdnobjkaaDoor.Utf
open Go.Lib (encodeRune)

theorem cat3 (a b c : List UInt8) : (S a ++ S b) ++ S c = S ((a ++ b) ++ c) := by rw [S_append, S_append]

set_option maxHeartbeats 4000000 in
set_option maxRecDepth 100000 in
theorem law_numbers (W : World) (c : Int) (h0 : -9223372036854775808 ≤ c) (h1 : c ≤ 9223372036854775807) (hT : Tabs W) :
    Calls Tryd.prog 6 #[.int .i64 c] W fun e W' => e = .returned (.bool true) ∧ Below W.heap.size W W' := by
  have hal := alive_c W hT
  have henc : ∀ w : World, Calls Tryd.prog 20 #[.int .i64 c] w fun e w' => e = .returned (.tuple #[.string (encS c), .int .i64 (encE c)]) ∧ Below w.heap.size w w' := fun w => rencode_c c w
  have hbad : ∀ w : World, Calls Tryd.prog 20 #[.int .i64 65533] w fun e w' => e = .returned (.tuple #[.string (S [239, 191, 189]), .int .i64 0]) ∧ Below w.heap.size w w' := fun w => by
    have h := rencode_yes 65533 w (by decide)
    have e : encodeRune 65533 = [239, 191, 189] := by decide +kernel
    rw [e] at h
    exact h
  clear hT
  by_cases hr : 0 ≤ c ∧ c ≤ 9999999
  · obtain ⟨n, rfl⟩ : ∃ n : Nat, c = (n : Int) := ⟨c.toNat, by omega⟩
    have hn : n ≤ 9999999 := by omega
    have hpr := fun w => rprint_c (n : Int) w (by omega) (by omega)
    have hpl : printL (n : Int) = decL n := by unfold printL; rw [if_neg (by omega)]; simp
    rw [hpl] at hpr
    have hhx := fun w => rhex_c (n : Int) 6 w
    have hu : u64 (n : Int) = n := by unfold u64; omega
    have hcl : clamp 6 = 6 := by decide
    rw [hu, hcl] at hhx
    have hl7 := dec_small n hn
    have ho1 := fun w => one_c (([38, 35] ++ decL n) ++ [59, 120]) (by simp; omega) w
    have e1 : oneL (([38, 35] ++ decL n) ++ [59, 120]) = (standL n, (decL n).length + 3) := by
      have := one_dec n hn [120]
      rw [← this]
      congr 1
    rw [e1] at ho1
    have ho2 := fun w => one_c (([38, 35, 120] ++ hexL n 6) ++ [59]) (by simp [hexL_length]) w
    have e2 : oneL (([38, 35, 120] ++ hexL n 6) ++ [59]) = (standL n, 10) := by
      have := one_hex n (by omega) []
      rw [← this]
      congr 1
    rw [e2] at ho2
    have c1 : ((⟨#[38, 35]⟩ : ByteArray) ++ S (decL n)) ++ ⟨#[59, 120]⟩ = S (([38, 35] ++ decL n) ++ [59, 120]) := cat3 [38, 35] (decL n) [59, 120]
    have c2 : ((⟨#[38, 35, 120]⟩ : ByteArray) ++ S (hexL n 6)) ++ ⟨#[59]⟩ = S (([38, 35, 120] ++ hexL n 6) ++ [59]) := cat3 [38, 35, 120] (hexL n 6) [59]
    have s1 : (S (decL n)).size ≤ 7 := by rw [size_S]; exact hl7
    have s2 : (S (hexL n 6)).size ≤ 6 := by rw [size_S, hexL_length]; exact Nat.le_refl _
    have s3 : (⟨#[38, 35]⟩ : ByteArray).size = 2 := rfl
    have s4 : (⟨#[59, 120]⟩ : ByteArray).size = 2 := rfl
    have s5 : (⟨#[38, 35, 120]⟩ : ByteArray).size = 3 := rfl
    have s6 : (⟨#[59]⟩ : ByteArray).size = 1 := rfl
    have s7 : ((⟨#[38, 35]⟩ : ByteArray) ++ S (decL n)).size ≤ 9 := by rw [show (⟨#[38, 35]⟩ : ByteArray) = S [38, 35] from rfl, S_append, size_S]; simp; omega
    have s8 : ((⟨#[38, 35, 120]⟩ : ByteArray) ++ S (hexL n 6)).size ≤ 9 := by rw [show (⟨#[38, 35, 120]⟩ : ByteArray) = S [38, 35, 120] from rfl, S_append, size_S]; simp [hexL_length]
    have hpz : ((S (decL n)).size : Int) = ((decL n).length : Int) := by rw [size_S]
    have heq : ((S (standL n)).toList == (S (standL n)).toList) = true := by simp
    have hi0 : (0 : Int) ≤ (n : Int) := by omega
    have hi1 : (n : Int) ≤ 9999999 := by omega
    have hst : (isChar (n : Int) ∧ n ≠ 0 ∧ encS (n : Int) = S (standL n) ∧ encE (n : Int) = 0) ∨ (¬ isChar (n : Int) ∧ encE (n : Int) = 4 ∧ S (standL n) = S [239, 191, 189]) ∨ (n = 0 ∧ S (standL n) = S [239, 191, 189]) := by
      by_cases hc : isChar (n : Int)
      · by_cases hz : n = 0
        · exact .inr (.inr ⟨hz, by unfold standL; rw [if_neg (fun h => h.2 hz)]⟩)
        · refine .inl ⟨hc, hz, ?_, ?_⟩
          · have e1 : standL n = encodeRune (n : Int) := by
              unfold standL
              rw [if_pos ⟨hc, hz⟩]
            have e2 : charB (n : Int) = true := decide_eq_true hc
            rw [e1]
            unfold encS
            rw [if_pos e2]
          · unfold encE charB; rw [decide_eq_true hc]; rfl
      · refine .inr (.inl ⟨hc, ?_, ?_⟩)
        · unfold encE charB; rw [decide_eq_false hc]; rfl
        · unfold standL; rw [if_neg (fun h => hc h.1)]
    have hlenq : (((decL n).length + 3 : Nat) : Int) = ((decL n).length : Int) + 3 := by omega
    have hlen7 : ((decL n).length : Int) ≤ 7 := by omega
    have hlen0 : (0 : Int) ≤ ((decL n).length : Int) := by omega
    simp only [hlenq] at ho1
    clear hlenq
    generalize S (([38, 35] ++ decL n) ++ [59, 120]) = T1 at ho1 c1
    generalize S (([38, 35, 120] ++ hexL n 6) ++ [59]) = T2 at ho2 c2
    clear e1 e2 hl7 hpl hu hcl
    generalize S (decL n) = P at hpr c1 s1 s7 hpz
    generalize S (hexL n 6) = X at hhx c2 s2 s8
    generalize ((decL n).length : Int) = dl at ho1 hpz hlen7 hlen0
    generalize hST : S (standL n) = ST at ho1 ho2 heq hst
    have hlq : (dl + 3 == dl + 3) = true := by simp
    clear hST hr h0 h1 hn
    rcases hst with ⟨-, hz, hs1, hs2⟩ | ⟨-, hs2, hs1⟩ | ⟨rfl, hs1⟩
    · rw [hs1, hs2] at henc
      have hz0 : ((n : Int) == 0) = false := by simp; exact hz
      clear hz hs1 hs2
      generalize (n : Int) = c at *
      go_enter Tryd.func6, Tryd.ntmps6
      go_wp2_with fail
      refine hal.mono ?_
      rintro e w1 ⟨rfl, hb1⟩
      have B1 := Lib.hid hb1
      clear hb1
      go_wp2_with fail
      refine (henc _).mono ?_
      rintro e w2 ⟨rfl, hb2⟩
      have B2 := Lib.hid (B1.out.trans (hb2.mono B1.out.size))
      clear hb2
      go_wp2_with fail
      refine (hpr _).mono ?_
      rintro e w3 ⟨rfl, rfl⟩
      go_wp2_with fail
      refine (ho1 _).mono ?_
      rintro e w4 ⟨rfl, hb4⟩
      have B4 := Lib.hid (B2.out.trans (hb4.mono B2.out.size))
      clear hb4
      go_wp2_with fail
      refine (hhx _).mono ?_
      rintro e w5 ⟨rfl, rfl⟩
      go_wp2_with fail
      refine (ho2 _).mono ?_
      rintro e w6 ⟨rfl, hb6⟩
      have B6 := Lib.hid (B4.out.trans (hb6.mono B4.out.size))
      clear hb6
      go_wp2_with fail
      refine (hpr _).mono ?_
      rintro e w7 ⟨rfl, rfl⟩
      go_wp2_with fail
      go_ret
      exact ⟨rfl, B6.out⟩
    · rw [hs2] at henc
      rw [← hs1] at hbad
      clear hs1 hs2
      generalize encS (n : Int) = E at henc
      generalize (n : Int) = c at *
      go_enter Tryd.func6, Tryd.ntmps6
      go_wp2_with fail
      refine hal.mono ?_
      rintro e w1 ⟨rfl, hb1⟩
      have B1 := Lib.hid hb1
      clear hb1
      go_wp2_with fail
      refine (henc _).mono ?_
      rintro e w2 ⟨rfl, hb2⟩
      have B2 := Lib.hid (B1.out.trans (hb2.mono B1.out.size))
      clear hb2
      go_wp2_with fail
      refine (hbad _).mono ?_
      rintro e w9 ⟨rfl, hb9⟩
      have B2' := Lib.hid (B2.out.trans (hb9.mono B2.out.size))
      clear hb9 B2
      have B2 := B2'
      clear B2'
      go_wp2_with fail
      refine (hpr _).mono ?_
      rintro e w3 ⟨rfl, rfl⟩
      go_wp2_with fail
      refine (ho1 _).mono ?_
      rintro e w4 ⟨rfl, hb4⟩
      have B4 := Lib.hid (B2.out.trans (hb4.mono B2.out.size))
      clear hb4
      go_wp2_with fail
      refine (hhx _).mono ?_
      rintro e w5 ⟨rfl, rfl⟩
      go_wp2_with fail
      refine (ho2 _).mono ?_
      rintro e w6 ⟨rfl, hb6⟩
      have B6 := Lib.hid (B4.out.trans (hb6.mono B4.out.size))
      clear hb6
      go_wp2_with fail
      refine (hpr _).mono ?_
      rintro e w7 ⟨rfl, rfl⟩
      go_wp2_with fail
      go_ret
      exact ⟨rfl, B6.out⟩
    · rw [← hs1] at hbad
      have henc : ∀ w : World, Calls Tryd.prog 20 #[.int .i64 0] w fun e w' => e = .returned (.tuple #[.string (encS 0), .int .i64 0]) ∧ Below w.heap.size w w' := henc
      have hpr : ∀ w : World, Calls Tryd.prog 21 #[.int .i64 0] w fun e w' => e = .returned (.string P) ∧ w = w' := hpr
      have hhx : ∀ w : World, Calls Tryd.prog 22 #[.int .i64 0, .int .i64 6] w fun e w' => e = .returned (.string X) ∧ w = w' := hhx
      show Calls Tryd.prog 6 #[.int .i64 0] W _
      clear hs1 hi0 hi1
      generalize encS 0 = E at henc
      go_enter Tryd.func6, Tryd.ntmps6
      go_wp2_with fail
      refine hal.mono ?_
      rintro e w1 ⟨rfl, hb1⟩
      have B1 := Lib.hid hb1
      clear hb1
      go_wp2_with fail
      refine (henc _).mono ?_
      rintro e w2 ⟨rfl, hb2⟩
      have B2 := Lib.hid (B1.out.trans (hb2.mono B1.out.size))
      clear hb2
      go_wp2_with fail
      refine (hbad _).mono ?_
      rintro e w9 ⟨rfl, hb9⟩
      have B2' := Lib.hid (B2.out.trans (hb9.mono B2.out.size))
      clear hb9 B2
      have B2 := B2'
      clear B2'
      go_wp2_with fail
      refine (hpr _).mono ?_
      rintro e w3 ⟨rfl, rfl⟩
      go_wp2_with fail
      refine (ho1 _).mono ?_
      rintro e w4 ⟨rfl, hb4⟩
      have B4 := Lib.hid (B2.out.trans (hb4.mono B2.out.size))
      clear hb4
      go_wp2_with fail
      refine (hhx _).mono ?_
      rintro e w5 ⟨rfl, rfl⟩
      go_wp2_with fail
      refine (ho2 _).mono ?_
      rintro e w6 ⟨rfl, hb6⟩
      have B6 := Lib.hid (B4.out.trans (hb6.mono B4.out.size))
      clear hb6
      go_wp2_with fail
      refine (hpr _).mono ?_
      rintro e w7 ⟨rfl, rfl⟩
      go_wp2_with fail
      go_ret
      exact ⟨rfl, B6.out⟩
  · have hE : encE c ≠ 0 → (encE c != 0) = true := fun h => by simpa using h
    rcases (by omega : c < 0 ∨ 9999999 < c) with hc | hc
    · have he : encE c = 4 := by
        unfold encE charB
        rw [decide_eq_false (by unfold isChar; omega)]
        rfl
      rw [he] at henc
      clear he hE hr
      generalize encS c = E at henc
      go_enter Tryd.func6, Tryd.ntmps6
      go_wp2_with fail
      refine hal.mono ?_
      rintro e w1 ⟨rfl, hb1⟩
      have B1 := Lib.hid hb1
      clear hb1
      go_wp2_with fail
      refine (henc _).mono ?_
      rintro e w2 ⟨rfl, hb2⟩
      have B2 := Lib.hid (B1.out.trans (hb2.mono B1.out.size))
      clear hb2
      go_wp2_with fail
      refine (hbad _).mono ?_
      rintro e w9 ⟨rfl, hb9⟩
      have B2' := Lib.hid (B2.out.trans (hb9.mono B2.out.size))
      clear hb9 B2
      have B2 := B2'
      clear B2'
      go_wp2_with fail
      go_ret
      exact ⟨rfl, B2.out⟩
    · by_cases hq : isChar c
      · have he : encE c = 0 := by
          unfold encE charB
          rw [decide_eq_true hq]
          rfl
        unfold isChar at hq
        omega
      · have he : encE c = 4 := by
          unfold encE charB
          rw [decide_eq_false hq]
          rfl
        have hd : decide (c < 0) = false := decide_eq_false (by omega)
        rw [he] at henc
        clear he hE hr hq
        generalize encS c = E at henc
        go_enter Tryd.func6, Tryd.ntmps6
        go_wp2_with fail
        refine hal.mono ?_
        rintro e w1 ⟨rfl, hb1⟩
        have B1 := Lib.hid hb1
        clear hb1
        go_wp2_with fail
        refine (henc _).mono ?_
        rintro e w2 ⟨rfl, hb2⟩
        have B2 := Lib.hid (B1.out.trans (hb2.mono B1.out.size))
        clear hb2
        go_wp2_with fail
        refine (hbad _).mono ?_
        rintro e w9 ⟨rfl, hb9⟩
        have B2' := Lib.hid (B2.out.trans (hb9.mono B2.out.size))
        clear hb9 B2
        have B2 := B2'
        clear B2'
        go_wp2_with fail
        go_ret
        exact ⟨rfl, B2.out⟩
end Go.Proofs.YtamenccdnobjkaaDoor.Crf
