/-
  Contract of Feed of package jsscan.
-/
import Derived.Test.YtganmmkdcaphfaaGreatDoorJscStep
namespace Go.Proofs.YtganmmkdcaphfaaGreatDoor.Jsc
open Go.RowKit Go.Proofs.YtganmmkdcaphfaaGreatDoor.Oct Go.Proofs.YtganmmkdcaphfaaGreatDoor.Utf

theorem code_len (p : Int) (l : List UInt8) (c : UInt8) (M : Nat) (hM : 16 ≤ M) (h : l.length ≤ M) : (codeJ p l c).2.length ≤ M := by
  unfold codeJ
  split
  · show (if l.length < 16 then l ++ [c] else l).length ≤ M
    split
    · rw [List.length_append, List.length_singleton]; omega
    · exact h
  · repeat' split
    all_goals simp
theorem step_len (s : St) (c : UInt8) (M : Nat) (hM : 16 ≤ M) (h : s.2.length ≤ M) : (stepJ s c).2.length ≤ M := by
  obtain ⟨p, l⟩ := s
  by_cases h01 : p = 0 ∨ p = 1
  · have e : stepJ (p, l) c = codeJ p l c := by unfold stepJ; simp only [h01, if_true]
    rw [e]
    exact code_len p l c M hM h
  · have h0 : p ≠ 0 := fun h => h01 (.inl h)
    have h1 : p ≠ 1 := fun h => h01 (.inr h)
    by_cases h13 : p = 13
    · subst h13
      have e9 : stepJ (9, []) c = (inI 9 (c.toNat : Int), []) := step_inI 9 (by decide) (by decide) (by decide) (by decide) [] c
      have e : stepJ (13, l) c = if c = 47 then (6, []) else if c = 42 then (7, []) else stepJ (9, []) c := rfl
      rw [e, e9]
      repeat' split
      all_goals simp
    · by_cases h14 : p = 14
      · subst h14
        have e : stepJ (14, l) c = if c = 47 then (6, []) else if c = 42 then (7, []) else codeJ 0 [] c := rfl
        rw [e]
        split
        · simp
        · split
          · simp
          · exact code_len 0 [] c M hM (by simp)
      · rw [step_inI p h0 h1 h13 h14 l c]
        simp
theorem feed_len (l : List UInt8) (M : Nat) (hM : 16 ≤ M) : ∀ s : St, s.2.length ≤ M → (feedJ s l).2.length ≤ M := by
  induction l with
  | nil => exact fun _ h => h
  | cons c t ih => exact fun s h => ih _ (step_len s c M hM h)
theorem feed_take (s : St) (l : List UInt8) (k : Nat) (h : k < l.length) : feedJ s (l.take (k + 1)) = stepJ (feedJ s (l.take k)) l[k] := by
  rw [List.take_succ_eq_append_getElem h, feed_append]
  rfl
theorem at_S' (l : List UInt8) (k : Nat) (h : k < l.length) : (S l)[k]'(by rw [size_S]; exact h) = l[k] := rfl

set_option maxHeartbeats 1000000 in
theorem feed_c (p : Int) (m : List UInt8) (hm : m.length ≤ 281474976710656) (l : List UInt8) (hl : l.length ≤ 4611686018427387904) (w : World) :
    Calls Tryz.prog 10 #[.int .i64 p, .string (S m), .string (S l)] w fun e w' => e = .returned (.tuple #[.int .i64 (feedJ (p, m) l).1, .string (S (feedJ (p, m) l).2)]) ∧ Below w.heap.size w w' := by
  have hsz : ((S l).size : Int) = (l.length : Int) := by rw [size_S]
  have hli : (l.length : Int) ≤ 4611686018427387904 := by omega
  have HOne := Lib.hid (fun k (h : k < l.length) => at_S' l k h)
  have HStep := Lib.hid (fun (x : St) c w => step_c x.1 x.2 c w)
  have hcl := fun w => Oct.clone_c (S (feedJ (p, m) l).2) w (by rw [size_S]; exact feed_len l _ (by omega) (p, m) hm)
  clear hm
  go_enter Tryz.func10, Tryz.ntmps10
  go_wp2_with fail
  go_loopw [0, 1, 11] (fun q x i wr => ∃ k : Nat, k ≤ l.length ∧ q = .int .i64 (feedJ (p, m) (l.take k)).1 ∧ x = .string (S (feedJ (p, m) (l.take k)).2) ∧ i = .int .i64 k ∧ Hid (Below w.heap.size w wr)) (fun _ _ i _ => l.length - (intOf i).toNat)
  case atStart => exact ⟨0, Nat.zero_le _, rfl, rfl, rfl, Below.refl _ _⟩
  case round =>
    obtain ⟨k, hk, rfl, rfl, rfl, HB⟩ := hrel
    by_cases hlt : k < l.length
    · have h1 := HOne.out k hlt
      have hs := HStep.out (feedJ (p, m) (l.take k)) l[k] wr
      have ef := Lib.hid (feed_take (p, m) l k hlt)
      generalize l[k] = c at h1 hs ef
      generalize feedJ (p, m) (l.take k) = x at hs ef ⊢
      have j0 : (0 : Int) ≤ (k : Int) := by omega
      have j1 : (k : Int) < (l.length : Int) := by omega
      have hcb : (c.toNat : Int) ≤ 255 := by have := c.toNat_lt; omega
      have ex : (x.1, x.2) = x := rfl
      rw [ex] at hs
      generalize stepJ x c = y at hs ef
      generalize S x.2 = X at hs ⊢
      generalize x.1 = xp at hs ⊢
      go_wp2_with (go_at_call 17; refine hs.mono ?_; rintro e w2 ⟨rfl, hb2⟩)
      go_roundw
      case rel => exact ⟨k + 1, by omega, by rw [ef.out], by rw [ef.out], by go_num, HB.out.trans (hb2.mono HB.out.size)⟩
      case measure => simp [intOf]; omega
    · have hkl : k = l.length := by omega
      subst hkl
      have e := Lib.hid (List.take_length (l := l))
      clear HOne HStep
      simp only [e.out]
      go_wp2_with (go_at_call 18; refine (hcl _).mono ?_; rintro e w2 ⟨rfl, hb2⟩)
      go_ret2
      exact ⟨rfl, HB.out.trans (hb2.mono HB.out.size)⟩
end Go.Proofs.YtganmmkdcaphfaaGreatDoor.Jsc
