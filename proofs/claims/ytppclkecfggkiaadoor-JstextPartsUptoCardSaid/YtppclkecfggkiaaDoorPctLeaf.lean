/-
  Contracts of Unreserved, Reserved and octet of package percent.
-/
import Derived.Test.YtppclkecfggkiaaDoorPctPure
import Derived.Test.YtppclkecfggkiaaDoorOctUnhex
namespace Go.Proofs.YtppclkecfggkiaaDoor.Pct
open Go.RowKit Go.Proofs.YtppclkecfggkiaaDoor.Oct

theorem unr_table : ∀ k : Fin 256, decide (0 ≤ Lib.indexByte [45, 46, 95, 126] (k.val : Int).toNat.toUInt8) = decide ((k.val : Int) = 45 ∨ (k.val : Int) = 46 ∨ (k.val : Int) = 95 ∨ (k.val : Int) = 126) := by decide +kernel
theorem res_table : ∀ k : Fin 256, decide (0 ≤ Lib.indexByte [33, 35, 36, 38, 42, 43, 44, 47, 58, 59, 61, 63, 64, 91, 93] (k.val : Int).toNat.toUInt8) = resI (k.val : Int) := by decide +kernel

theorem unhex_two (a b : UInt8) : unhexL [a, b] = if two a b = true then ((hc a).toNat * 16 + (hc b).toNat, 0) else (0, 33) := by
  have e1 : unhexL [a, b] = if [a, b].all (fun c => decide (0 ≤ hexC c)) then (valL [a, b], 0) else (0, 33) := by
    unfold unhexL
    rw [if_neg (by simp), if_neg (by simp)]
  have e2 : [a, b].all (fun c => decide (0 ≤ hexC c)) = two a b := by
    unfold two
    rw [Bool.eq_iff_iff]
    simp only [hexC, hc, List.all_cons, List.all_nil, Bool.and_true, Bool.and_eq_true]
    exact ⟨fun h => decide_eq_true ⟨of_decide_eq_true h.1, of_decide_eq_true h.2⟩, fun h => ⟨decide_eq_true (of_decide_eq_true h).1, decide_eq_true (of_decide_eq_true h).2⟩⟩
  have e3 : valL [a, b] = (hc a).toNat * 16 + (hc b).toNat := by simp [valL, hexC, hc]
  rw [e1, e2, e3]

theorem hc_le (c : UInt8) : hc c ≤ 15 := (hexI_range _).2

end Go.Proofs.YtppclkecfggkiaaDoor.Pct
