/-
  Contract of Feed of package cssscan; alive.
-/
import Derived.Test.YtlekaibiofkleaaCscLeaf
import Derived.Test.YtlekaibiofkleaaOctTrim
namespace Go.Proofs.Ytlekaibiofkleaa.Csc
open Go.RowKit Go.Proofs.Ytlekaibiofkleaa.Oct Go.Proofs.Ytlekaibiofkleaa.Css

theorem feed_len (l : List UInt8) (M : Nat) (hM : 16 ≤ M) : ∀ s : St, s.2.length ≤ M → (feedC s l).2.length ≤ M := by
  induction l with
  | nil => exact fun _ h => h
  | cons c t ih => exact fun s h => ih _ (step_len s c M hM h)
theorem feed_take (s : St) (l : List UInt8) (k : Nat) (h : k < l.length) : feedC s (l.take (k + 1)) = stepC (feedC s (l.take k)) l[k] := by
  rw [List.take_succ_eq_append_getElem h, feed_append]
  rfl
theorem at_S' (l : List UInt8) (k : Nat) (h : k < l.length) : (S l)[k]'(by rw [size_S]; exact h) = l[k] := rfl

set_option maxHeartbeats 1000000 in
theorem feed_c (p : Int) (m : List UInt8) (hm : m.length ≤ 140737488351232) (l : List UInt8) (hl : l.length ≤ 4611686018427387904) (w : World) :
    Calls Try.prog 6 #[.int .i64 p, .string (S m), .string (S l)] w fun e w' => e = .returned (.tuple #[.int .i64 (feedC (p, m) l).1, .string (S (feedC (p, m) l).2)]) ∧ Below w.heap.size w w' := by
  have hsz : ((S l).size : Int) = (l.length : Int) := by rw [size_S]
  have hli : (l.length : Int) ≤ 4611686018427387904 := by omega
  have HOne := Lib.hid (fun k (h : k < l.length) => at_S' l k h)
  have HStep := Lib.hid (fun (x : St) c w => step_c x.1 x.2 c w)
  have hcl := fun w => Oct.clone_c (S (feedC (p, m) l).2) w (by rw [size_S]; have := feed_len l _ (by omega) (p, m) hm; omega)
  clear hm
  go_enter Try.func6, Try.ntmps6
  go_wp2_with fail
  go_loopw [0, 1, 11] (fun q x i wr => ∃ k : Nat, k ≤ l.length ∧ q = .int .i64 (feedC (p, m) (l.take k)).1 ∧ x = .string (S (feedC (p, m) (l.take k)).2) ∧ i = .int .i64 k ∧ Hid (Below w.heap.size w wr)) (fun _ _ i _ => l.length - (intOf i).toNat)
  case atStart => exact ⟨0, Nat.zero_le _, rfl, rfl, rfl, Below.refl _ _⟩
  case round =>
    obtain ⟨k, hk, rfl, rfl, rfl, HB⟩ := hrel
    by_cases hlt : k < l.length
    · have h1 := HOne.out k hlt
      have hs := HStep.out (feedC (p, m) (l.take k)) l[k] wr
      have ef := Lib.hid (feed_take (p, m) l k hlt)
      generalize l[k] = c at h1 hs ef
      generalize feedC (p, m) (l.take k) = x at hs ef ⊢
      have j0 : (0 : Int) ≤ (k : Int) := by omega
      have j1 : (k : Int) < (l.length : Int) := by omega
      have hcb : (c.toNat : Int) ≤ 255 := by have := c.toNat_lt; omega
      have ex : (x.1, x.2) = x := rfl
      rw [ex] at hs
      generalize stepC x c = y at hs ef
      generalize S x.2 = X at hs ⊢
      generalize x.1 = xp at hs ⊢
      go_wp2_with (go_at_call 9; refine hs.mono ?_; rintro e w2 ⟨rfl, hb2⟩)
      go_roundw
      case rel => exact ⟨k + 1, by omega, by rw [ef.out], by rw [ef.out], by go_num, HB.out.trans (hb2.mono HB.out.size)⟩
      case measure => simp [intOf]; omega
    · have hkl : k = l.length := by omega
      subst hkl
      have e := Lib.hid (List.take_length (l := l))
      clear HOne HStep
      simp only [e.out]
      go_wp2_with (go_at_call 10; refine (hcl _).mono ?_; rintro e w2 ⟨rfl, hb2⟩)
      go_ret2
      exact ⟨rfl, HB.out.trans (hb2.mono HB.out.size)⟩

theorem alive_c (w : World) : Calls Try.prog 8 #[] w fun e w' => e = .returned (.bool true) ∧ Below w.heap.size w w' := by
  have h1 := feed_c 0 [] (by simp) [97, 58, 32, 34] (by decide) w
  have e1 : feedC (0, []) [97, 58, 32, 34] = (1, []) := by decide +kernel
  rw [e1] at h1
  go_enter Try.func8, Try.ntmps8
  go_wp2_with fail
  refine h1.mono ?_
  rintro e w1 ⟨rfl, hb1⟩
  go_wp2_with fail
  go_ret
  exact ⟨rfl, hb1⟩
end Go.Proofs.Ytlekaibiofkleaa.Csc
