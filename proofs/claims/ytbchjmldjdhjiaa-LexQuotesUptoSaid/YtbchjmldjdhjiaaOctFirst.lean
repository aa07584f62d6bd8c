/-
  Contracts of octets.first, none and made, at whatever function value that is handed in, and of digitValue.
-/
import Derived.Test.YtbchjmldjdhjiaaOctLeaves
import Derived.Test.YtbchjmldjdhjiaaShelf
import Derived.Lib.Hide
import Derived.Deep.RegionWith
namespace Go.Proofs.Ytbchjmldjdhjiaa.Oct
open Go.RowKit

/-- The first place below n that is wanted, or n. -/
def firstOf (p : Nat → Bool) : Nat → Nat → Nat
  | _, 0 => 0
  | k, n + 1 => if p k then 0 else firstOf p (k + 1) n + 1

theorem firstOf_le (p : Nat → Bool) (k n : Nat) : firstOf p k n ≤ n := by
  induction n generalizing k with
  | zero => simp [firstOf]
  | succ n ih => have := ih (k + 1); unfold firstOf; split <;> omega

theorem firstOf_hit (p : Nat → Bool) (k n j : Nat) (hj : j < n) (hp : p (k + j) = true) (hn : ∀ i, i < j → p (k + i) = false) : firstOf p k n = j := by
  induction n generalizing k j with
  | zero => omega
  | succ n ih =>
    unfold firstOf
    cases j with
    | zero => rw [if_pos (by simpa using hp)]
    | succ j =>
      have h0 : p k = false := by simpa using hn 0 (by omega)
      rw [h0, if_neg (by simp), ih (k + 1) j (by omega) (by rw [← hp]; congr 1; omega) (fun i hi => by rw [← hn (i + 1) (by omega)]; congr 1; omega)]

theorem firstOf_miss (p : Nat → Bool) (k n : Nat) (hn : ∀ i, i < n → p (k + i) = false) : firstOf p k n = n := by
  induction n generalizing k with
  | zero => rfl
  | succ n ih =>
    unfold firstOf
    have h0 : p k = false := by simpa using hn 0 (by omega)
    rw [h0, if_neg (by simp), ih (k + 1) (fun i hi => by rw [← hn (i + 1) (by omega)]; congr 1; omega)]

/-- What is asked of a function value that tells of a place whether it is wanted: in every world in which all that lay in w lies unturned, and it leaves such a world again. -/
def Wants (g : Nat) (lb : Array Value) (p : Nat → Bool) (n : Nat) (w : World) : Prop :=
  ∀ (k : Nat) (W : World), k < n → Below w.heap.size w W → Calls Try.prog g (#[.int .i64 (k : Int)] ++ lb) W fun e w' => e = .returned (.bool (p k)) ∧ Below w.heap.size w w'

set_option maxHeartbeats 1000000 in
theorem first_c (n : Nat) (g : Nat) (lb : Array Value) (p : Nat → Bool) (w : World) (hn : n ≤ 9223372036854775807)
    (eg : ∀ args w, (callFunc g args).run Try.prog w = .ok (.enter g args) w) (hp : Wants g lb p n w) :
    Calls Try.prog 69 #[.int .i64 (n : Int), .func (.func g) #[] lb] w fun e w' => e = .returned (.int .i64 (firstOf p 0 n : Nat)) ∧ Below w.heap.size w w' := by
  go_enter Try.func69, Try.ntmps69
  go_wp2
  go_loopw [5, 7] (fun _ i wr => ∃ k : Nat, k ≤ n ∧ i = .int .i64 k ∧ Hid (∀ i, i < k → p i = false) ∧ Hid (Below w.heap.size w wr)) (fun _ i _ => n - (intOf i).toNat)
  case atStart => exact ⟨0, Nat.zero_le _, rfl, fun i hi => absurd hi (Nat.not_lt_zero _), Below.refl _ _⟩
  case round =>
    obtain ⟨k, hk, rfl, hno, hbel⟩ := hrel
    by_cases hlt : k < n
    · have hcall := hp k wr hlt hbel.out
      cases hq : p k with
      | true =>
        rw [hq] at hcall
        go_wp2_with (go_at_fn g; refine hcall.mono ?_; rintro e w' ⟨rfl, hb'⟩)
        go_ret
        exact ⟨ret_int (by rw [firstOf_hit p 0 n k hlt (by simpa using hq) (fun i hi => by simpa using hno.out i hi)]), hb'⟩
      | false =>
        rw [hq] at hcall
        go_wp2_with (go_at_fn g; refine hcall.mono ?_; rintro e w' ⟨rfl, hb'⟩)
        go_roundw
        case rel =>
          refine ⟨k + 1, by omega, by go_num, fun i hi => ?_, hb'⟩
          by_cases e : i = k
          · rw [e]; exact hq
          · exact hno.out i (by omega)
        case measure => simp [intOf]; omega
    · go_wp2
      go_ret
      have : k = n := by omega
      subst this
      exact ⟨ret_int (by rw [firstOf_miss p 0 k (fun i hi => by simpa using hno.out i hi)]), hbel.out⟩

end Go.Proofs.Ytbchjmldjdhjiaa.Oct
