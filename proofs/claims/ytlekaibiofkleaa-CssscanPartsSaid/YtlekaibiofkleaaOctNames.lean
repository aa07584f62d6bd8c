/-
  Contracts of octets.Name, Starts, Trim, as plain functions of lists of octets.
-/
import Derived.Test.YtlekaibiofkleaaOctTexts
import Derived.Deep.QuietTactic
import Derived.BigQuiet
namespace Go.Proofs.Ytlekaibiofkleaa.Oct
open Go.RowKit

theorem firstOf_all (p : Nat → Bool) (n : Nat) : (firstOf p 0 n == n) = (List.range n).all (fun k => !p k) := by
  rw [Bool.eq_iff_iff, List.all_eq_true]
  simp only [beq_iff_eq, List.mem_range, Bool.not_eq_true']
  constructor
  · intro h k hk
    rcases hq : p k with _ | _
    · rfl
    · exfalso
      -- the first place that is wanted is at most k
      have : ∀ (m k' : Nat), k' < m → ∀ a, p (a + k') = true → firstOf p a m < m := by
        intro m
        induction m with
        | zero => intro k' h'; omega
        | succ m ih =>
          intro k' h' a hp
          unfold firstOf
          split
          · omega
          · cases k' with
            | zero => simp_all
            | succ k' => have := ih k' (by omega) (a + 1) (by rw [← hp]; congr 1; omega); omega
      have := this n k hk 0 (by simpa using hq)
      omega
  · intro h
    exact firstOf_miss p 0 n (fun i hi => by simpa using h i hi)


theorem quiet_same {P : Program} {f : FuncId} {args : Array Value} {w : World} {n : Nat} {v : Value}
    (h : Calls P f args (w.drewN n) fun e w' => e = .returned v ∧ w.drewN n = w') : Calls P f args (w.drewN n) fun e w'' => e = .returned v ∧ ∃ m, w'' = w.drewN m :=
  h.mono fun _ _ ⟨he, hm⟩ => ⟨he, n, hm.symm⟩

end Go.Proofs.Ytlekaibiofkleaa.Oct
