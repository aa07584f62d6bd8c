/-
  Contracts of octets.Name, Starts, Trim, as plain functions of lists of octets.
-/
import Derived.Test.YtnfpgfpendflnaaOctTexts
import Derived.Deep.QuietTactic
import Derived.BigQuiet
namespace Go.Proofs.Ytnfpgfpendflnaa.Oct
open Go.RowKit

theorem firstOf_all (p : Nat → Bool) (n : Nat) : (firstOf p 0 n == n) = (List.range n).all (fun k => !p k) := by
  rw [Bool.eq_iff_iff, List.all_eq_true]
  simp only [beq_iff_eq, List.mem_range, Bool.not_eq_true']
  constructor
  · intro h k hk
    rcases hq : p k with _ | _
    · rfl
    · exfalso
      -- the first place that is wanted is at most k
      have : ∀ (m k' : Nat), k' < m → ∀ a, p (a + k') = true → firstOf p a m < m := by
        intro m
        induction m with
        | zero => intro k' h'; omega
        | succ m ih =>
          intro k' h' a hp
          unfold firstOf
          split
          · omega
          · cases k' with
            | zero => simp_all
            | succ k' => have := ih k' (by omega) (a + 1) (by rw [← hp]; congr 1; omega); omega
      have := this n k hk 0 (by simpa using hq)
      omega
  · intro h
    exact firstOf_miss p 0 n (fun i hi => by simpa using h i hi)

/-- A name, as the page says. -/
def nameB (l : List UInt8) : Bool := decide (1 ≤ l.length ∧ l.length ≤ 32) && !digitI ((l.getD 0 0).toNat : Int) && l.all (fun c => nameI (c.toNat : Int))

theorem all_at (s : ByteArray) (q : UInt8 → Bool) : (List.range s.size).all (fun k => q (at' s k)) = s.data.toList.all q := by
  have h := map_at s (fun c => if q c then 1 else 0)
  have e : ∀ l : List UInt8, (l.map (fun c => if q c then (1 : UInt8) else 0)).all (· == 1) = l.all q := by
    intro l
    induction l with
    | nil => rfl
    | cons c l ih =>
      simp only [List.map_cons, List.all_cons, ih]
      cases q c <;> simp
  rw [← e, ← h, List.all_map]
  congr 1
  funext k
  simp only [Function.comp]
  cases q (at' s k) <;> simp

theorem enter_name : ∀ args w, (callFunc 34 args).run Try.prog w = .ok (.enter 34 args) w := enters_of Try.func34 (by kernel_rfl) rfl
theorem enter_starts : ∀ args w, (callFunc 37 args).run Try.prog w = .ok (.enter 37 args) w := enters_of Try.func37 (by kernel_rfl) rfl
theorem enter_trim1 : ∀ args w, (callFunc 40 args).run Try.prog w = .ok (.enter 40 args) w := enters_of Try.func40 (by kernel_rfl) rfl
theorem enter_trim2 : ∀ args w, (callFunc 41 args).run Try.prog w = .ok (.enter 41 args) w := enters_of Try.func41 (by kernel_rfl) rfl

theorem name1_c (s : ByteArray) (k b : Nat) (w : World) (hk : k < s.size) (hc : w.cell? ⟨b, 0, none⟩ = some (.string s)) :
    Calls Try.prog 34 #[.int .i64 (k : Int), .pointer (some ⟨b, 0, none⟩)] w fun e w' => e = .returned (.bool (!nameI ((at' s k).toNat : Int))) ∧ w = w' := by
  have hb : (s[k].toNat : Int) ≤ 255 := by have := s[k].toNat_lt; omega
  have E : Hid ((at' s k) = s[k]) := (at_eq s k hk).symm
  go_enter Try.func34, Try.ntmps34
  go_wp2_with (go_at_call 35; refine (inName_c _ _ (by omega) (by omega)).mono ?_; rintro e w' ⟨rfl, rfl⟩)
  go_ret
  exact ⟨ret_bool (by rw [E.out]), rfl⟩

theorem trim1_c (s : ByteArray) (k b : Nat) (w : World) (hk : k < s.size) (hc : w.cell? ⟨b, 0, none⟩ = some (.string s)) :
    Calls Try.prog 40 #[.int .i64 (k : Int), .pointer (some ⟨b, 0, none⟩)] w fun e w' => e = .returned (.bool (!blankI ((at' s k).toNat : Int))) ∧ w = w' := by
  have E : Hid ((at' s k) = s[k]) := (at_eq s k hk).symm
  go_enter Try.func40, Try.ntmps40
  go_wp2_with (go_at_call 7; refine (blank_c _ _).mono ?_; rintro e w' ⟨rfl, rfl⟩)
  go_ret
  exact ⟨ret_bool (by rw [E.out]), rfl⟩

theorem trim2_c (s : ByteArray) (k b : Nat) (w : World) (hk : k < s.size) (hs : s.size ≤ 9223372036854775807) (hc : w.cell? ⟨b, 0, none⟩ = some (.string s)) :
    Calls Try.prog 41 #[.int .i64 (k : Int), .pointer (some ⟨b, 0, none⟩)] w fun e w' => e = .returned (.bool (!blankI ((at' s (s.size - 1 - k)).toNat : Int))) ∧ w = w' := by
  have E : Hid ((at' s (s.size - 1 - k)) = s[s.size - 1 - k]) := (at_eq s (s.size - 1 - k) (by omega)).symm
  go_enter Try.func41, Try.ntmps41
  go_wp2_with (go_at_call 7; refine (blank_c _ _).mono ?_; rintro e w' ⟨rfl, rfl⟩)
  go_ret
  exact ⟨ret_bool (by rw [E.out]), rfl⟩

theorem quiet_same {P : Program} {f : FuncId} {args : Array Value} {w : World} {n : Nat} {v : Value}
    (h : Calls P f args (w.drewN n) fun e w' => e = .returned v ∧ w.drewN n = w') : Calls P f args (w.drewN n) fun e w'' => e = .returned v ∧ ∃ m, w'' = w.drewN m :=
  h.mono fun _ _ ⟨he, hm⟩ => ⟨he, n, hm.symm⟩

theorem starts1_c (s p : ByteArray) (k b b' : Nat) (w : World) (hk : k < s.size) (hk' : k < p.size) (hc : w.cell? ⟨b, 0, none⟩ = some (.string s)) (hc' : w.cell? ⟨b', 0, none⟩ = some (.string p)) :
    Calls Try.prog 37 #[.int .i64 (k : Int), .pointer (some ⟨b, 0, none⟩), .pointer (some ⟨b', 0, none⟩)] w fun e w' => e = .returned (.bool (low (at' s k) != low (at' p k))) ∧ ∃ q, w' = w.drewN q := by
  have hb : (s[k].toNat : Int) ≤ 255 := by have := s[k].toNat_lt; omega
  have hb' : (p[k].toNat : Int) ≤ 255 := by have := p[k].toNat_lt; omega
  have E : Hid ((low (at' s k) != low (at' p k)) = (lowI (s[k].toNat : Int) != lowI (p[k].toNat : Int))) := by
    show _ = _
    rw [at_eq s k hk, at_eq p k hk', ← low_toNat, ← low_toNat, Bool.eq_iff_iff]
    simp only [bne_iff_ne, ne_eq, Int.natCast_inj, UInt8.toNat_inj]
  go_enter Try.func37, Try.ntmps37
  go_wp2
  go_quiet ((go_at_call 30; exact quiet_same (small_c _ _ (by omega) (by omega))))
  go_wp2
  go_ret
  exact ⟨ret_bool E.out.symm, _, rfl⟩

end Go.Proofs.Ytnfpgfpendflnaa.Oct
