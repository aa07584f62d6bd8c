/-
  Contract of the page's Find: where a text first stands in another one.
-/
import Derived.Test.YtlekaibiofkleaaFindPure
import Derived.Test.YtlekaibiofkleaaProg
import Derived.LoopTactic
import Derived.Lib.Hide
import Derived.Lib.Strings
namespace Go.Proofs.Ytlekaibiofkleaa.Lex
open Go.RowKit Go.Proofs.Ytlekaibiofkleaa.Oct

theorem eqP (a b : List UInt8) : ((S a).toList == (S b).toList) = decide (a = b) := by
  rw [ByteArray.toList_eq, ByteArray.toList_eq, list_S, list_S]
  by_cases h : a = b
  · rw [h]; simp
  · rw [decide_eq_false h, beq_eq_false_iff_ne]; exact h
theorem pre_take (p l : List UInt8) : decide (l.take p.length = p) = p.isPrefixOf l := by
  rw [Bool.eq_iff_iff, decide_eq_true_eq, List.isPrefixOf_iff_prefix, List.prefix_iff_eq_take]
  exact eq_comm

set_option maxHeartbeats 1000000 in
theorem rfind_c (l p : List UInt8) (hl : l.length ≤ 140737488351240) (hp : p.length ≤ 140737488351232) (w : World) :
    Calls Try.prog 19 #[.string (S l), .string (S p)] w fun e w' => e = .returned (.int .i64 (findI p l)) ∧ w = w' := by
  have zl : ((S l).size : Int) = (l.length : Int) := by rw [size_S]
  have zp : ((S p).size : Int) = (p.length : Int) := by rw [size_S]
  have HC : Hid (∀ k : Nat, (S l).extract k (k + p.length) = S ((l.drop k).take p.length)) := by
    show ∀ k : Nat, _
    intro k
    rw [Lib.extract_eq, Nat.add_sub_cancel_left, list_S]
  have HE := Lib.hid (fun k : Nat => (eqP ((l.drop k).take p.length) p).trans (pre_take p (l.drop k)))
  have hli : (l.length : Int) ≤ 140737488351240 := by omega
  have hpi : (p.length : Int) ≤ 140737488351232 := by omega
  have hp0 : (0 : Int) ≤ (p.length : Int) := by omega
  generalize S l = L at *
  generalize S p = P at *
  go_enter Try.func19, Try.ntmps19
  go_wp2_with fail
  go_loop [5] (fun i => ∃ k : Nat, k ≤ l.length + 1 ∧ i = .int .i64 k ∧ Hid (0 < k → 0 < p.length) ∧ Hid (findL p l = (findL p (l.drop k)).map (· + k))) (fun i => l.length + 1 - (intOf i).toNat)
  case atStart => exact ⟨0, Nat.zero_le _, rfl, fun h => absurd h (by omega), by show _ = _; simp⟩
  case round =>
    obtain ⟨k, hk, rfl, hz, hr⟩ := hrel
    have i0 : (0 : Int) ≤ (k : Int) := by omega
    have i1 : (k : Int) ≤ 140737488351241 := by omega
    by_cases hlt : k + p.length ≤ l.length
    · have hc := HC.out k
      have he := HE.out k
      have i2 : (k : Int) + (p.length : Int) = ((k + p.length : Nat) : Int) := by omega
      have i3 : ((k + p.length : Nat) : Int) ≤ (l.length : Int) := by omega
      have i4 : (k : Int) ≤ ((k + p.length : Nat) : Int) := by omega
      have hle : p.length ≤ (l.drop k).length := by rw [List.length_drop]; omega
      cases hq : p.isPrefixOf (l.drop k) with
      | true =>
        have HR : Hid (findI p l = (k : Int)) := by
          show _ = _
          unfold findI
          rw [hr.out, find_yes hq]
          simp
        rw [hq] at he
        clear hq
        generalize S ((l.drop k).take p.length) = X at hc he
        generalize k + p.length = n at hc i2 i3 i4 hlt
        go_wp2_with fail
        go_ret
        exact ⟨ret_int HR.out.symm, rfl⟩
      | false =>
        have HN : Hid (findL p l = (findL p (l.drop (k + 1))).map (· + (k + 1))) := by
          show _ = _
          rw [hr.out, find_no hq hle, List.drop_drop, Option.map_map]
          congr 1
          funext x
          simp
          omega
        have HZ : Hid (0 < k + 1 → 0 < p.length) := fun _ => by
          cases p with
          | nil => simp at hq
          | cons c t => simp
        rw [hq] at he
        clear hq
        generalize S ((l.drop k).take p.length) = X at hc he
        generalize k + p.length = n at hc i2 i3 i4 hlt
        go_wp2_with fail
        go_round
        case rel => exact ⟨k + 1, by omega, by go_num, HZ, HN⟩
        case measure => simp [intOf]; omega
    · have HR : Hid (findI p l = -1) := by
        show _ = _
        unfold findI
        have h0 := hz.out
        rw [hr.out, find_long (by rw [List.length_drop]; omega)]
        rfl
      have i2 : (l.length : Int) < (k : Int) + (p.length : Int) := by omega
      go_wp2_with fail
      go_ret
      exact ⟨ret_int HR.out.symm, rfl⟩
end Go.Proofs.Ytlekaibiofkleaa.Lex
