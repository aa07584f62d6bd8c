/-
  Contracts of the page's leaves that references are read by: Begins, Has, digit, Unhex at one octet, run, number.
-/
import Derived.Test.YtlekaibiofkleaaCrfNumber
import Derived.Test.YtlekaibiofkleaaPgOct
import Derived.LoopTactic
namespace Go.Proofs.Ytlekaibiofkleaa.Crf
open Go.RowKit Go.Proofs.Ytlekaibiofkleaa.Oct Go.Proofs.Ytlekaibiofkleaa.Num Go.Proofs.Ytlekaibiofkleaa.Utf
open Go.Lib (encodeRune)

theorem prefix_take (l p : List UInt8) : Lib.hasPrefix l p = decide (l.take p.length = p) := by
  rw [Bool.eq_iff_iff, pre_iff, decide_eq_true_eq]
  constructor
  · intro hp
    exact (List.prefix_iff_eq_take.1 hp).symm
  · intro e
    rw [← e]
    exact List.take_prefix _ _

/-- Is an octet among these? -/
def hasB (l : List UInt8) (c : UInt8) : Bool := l.contains c
/-- Contract of the page's Has. -/
theorem rhas_c (s : ByteArray) (c : UInt8) (hs : s.size ≤ 4611686018427387904) (w : World) :
    Calls Try.prog 18 #[.string s, .int .u8 (c.toNat : Int)] w fun e w' => e = .returned (.bool (hasB s.data.toList c)) ∧ w = w' := by
  have HL := Lib.hid (fun k (h : k < s.size) => (by
    rw [List.getElem?_eq_getElem (by rw [size_list]; exact h)]
    rfl : s.data.toList[k]? = some s[k]))
  go_enter Try.func18, Try.ntmps18
  go_wp2_with fail
  go_loop [5] (fun i => ∃ k : Nat, k ≤ s.size ∧ i = .int .i64 k ∧ Hid (∀ j (x : UInt8), j < k → s.data.toList[j]? = some x → x ≠ c)) (fun i => s.size - (intOf i).toNat)
  case atStart => exact ⟨0, Nat.zero_le _, rfl, fun j _ h => absurd h (by omega)⟩
  case round =>
    obtain ⟨k, hk, rfl, hno⟩ := hrel
    by_cases hlt : k < s.size
    · have hx := HL.out k hlt
      by_cases he : s[k] = c
      · have HR : Hid (hasB s.data.toList c = true) := by
          show s.data.toList.contains c = true
          rw [List.contains_iff_mem, ← he]
          exact List.mem_of_getElem? hx
        have hb : ((s[k].toNat : Int) == (c.toNat : Int)) = true := by rw [he]; simp
        clear hx he
        go_wp2_with fail
        go_ret
        exact ⟨by rw [HR.out]; rfl, rfl⟩
      · have hb : ((s[k].toNat : Int) == (c.toNat : Int)) = false := by
          rw [beq_eq_false_iff_ne]
          intro e
          exact he (UInt8.toNat_inj.1 (by omega))
        have HN : Hid (∀ j (x : UInt8), j < k + 1 → s.data.toList[j]? = some x → x ≠ c) := fun j x hj hxj => by
          rcases Nat.lt_or_ge j k with h | h
          · exact hno.out j x h hxj
          · obtain rfl : j = k := by omega
            rw [hx] at hxj
            injection hxj with e
            rw [← e]
            exact he
        clear hx he
        go_wp2_with fail
        go_round
        case rel => exact ⟨k + 1, by omega, by go_num, HN⟩
        case measure => simp [intOf]; omega
    · have HR : Hid (hasB s.data.toList c = false) := by
        show s.data.toList.contains c = false
        rw [Bool.eq_false_iff]
        intro hc
        rw [List.contains_iff_mem] at hc
        obtain ⟨j, hj⟩ := List.mem_iff_getElem?.1 hc
        have hjl := (List.getElem?_eq_some_iff.1 hj).1
        rw [size_list] at hjl
        exact hno.out j c (by omega) hj rfl
      go_wp2_with fail
      go_ret
      exact ⟨by rw [HR.out]; rfl, rfl⟩

end Go.Proofs.Ytlekaibiofkleaa.Crf
