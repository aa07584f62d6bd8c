/-
  Contracts of octets.Name, Starts, Trim, as plain functions of lists of octets.
-/
import Derived.Test.YtamenccdnobjkaaDoorOctTexts
import Derived.Deep.QuietTactic
import Derived.BigQuiet
namespace Go.Proofs.YtamenccdnobjkaaDoor.Oct
open Go.RowKit

theorem firstOf_all (p : Nat → Bool) (n : Nat) : (firstOf p 0 n == n) = (List.range n).all (fun k => !p k) := by
  rw [Bool.eq_iff_iff, List.all_eq_true]
  simp only [beq_iff_eq, List.mem_range, Bool.not_eq_true']
  constructor
  · intro h k hk
    rcases hq : p k with _ | _
    · rfl
    · exfalso
      -- the first place that is wanted is at most k
      have : ∀ (m k' : Nat), k' < m → ∀ a, p (a + k') = true → firstOf p a m < m := by
        intro m
        induction m with
        | zero => intro k' h'; omega
        | succ m ih =>
          intro k' h' a hp
          unfold firstOf
          split
          · omega
          · cases k' with
            | zero => simp_all
            | succ k' => have := ih k' (by omega) (a + 1) (by rw [← hp]; congr 1; omega); omega
      have := this n k hk 0 (by simpa using hq)
      omega
  · intro h
    exact firstOf_miss p 0 n (fun i hi => by simpa using h i hi)


theorem enter_starts : ∀ args w, (callFunc 72 args).run Tryd.prog w = .ok (.enter 72 args) w := enters_of Tryd.func72 (by kernel_rfl) rfl
theorem quiet_same {P : Program} {f : FuncId} {args : Array Value} {w : World} {n : Nat} {v : Value}
    (h : Calls P f args (w.drewN n) fun e w' => e = .returned v ∧ w.drewN n = w') : Calls P f args (w.drewN n) fun e w'' => e = .returned v ∧ ∃ m, w'' = w.drewN m :=
  h.mono fun _ _ ⟨he, hm⟩ => ⟨he, n, hm.symm⟩

theorem starts1_c (s p : ByteArray) (k b b' : Nat) (w : World) (hk : k < s.size) (hk' : k < p.size) (hc : w.cell? ⟨b, 0, none⟩ = some (.string s)) (hc' : w.cell? ⟨b', 0, none⟩ = some (.string p)) :
    Calls Tryd.prog 72 #[.int .i64 (k : Int), .pointer (some ⟨b, 0, none⟩), .pointer (some ⟨b', 0, none⟩)] w fun e w' => e = .returned (.bool (low (at' s k) != low (at' p k))) ∧ ∃ q, w' = w.drewN q := by
  have hb : (s[k].toNat : Int) ≤ 255 := by have := s[k].toNat_lt; omega
  have hb' : (p[k].toNat : Int) ≤ 255 := by have := p[k].toNat_lt; omega
  have E : Hid ((low (at' s k) != low (at' p k)) = (lowI (s[k].toNat : Int) != lowI (p[k].toNat : Int))) := by
    show _ = _
    rw [at_eq s k hk, at_eq p k hk', ← low_toNat, ← low_toNat, Bool.eq_iff_iff]
    simp only [bne_iff_ne, ne_eq, Int.natCast_inj, UInt8.toNat_inj]
  go_enter Tryd.func72, Tryd.ntmps72
  go_wp2
  go_quiet ((go_at_call 73; exact quiet_same (small_c _ _ (by omega) (by omega))))
  go_wp2
  go_ret
  exact ⟨ret_bool E.out.symm, _, rfl⟩

end Go.Proofs.YtamenccdnobjkaaDoor.Oct
