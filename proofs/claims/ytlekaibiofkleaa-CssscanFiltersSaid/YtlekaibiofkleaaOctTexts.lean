/-
  Contracts of octets.none, digitValue, Lower, Upper, Name, Starts, Trim.
-/
import Derived.Test.YtlekaibiofkleaaOctMade
import Derived.Lib.Bytealg
namespace Go.Proofs.Ytlekaibiofkleaa.Oct
open Go.RowKit

theorem digit_table : ∀ k : Fin 256, Lib.indexByte [48, 49, 50, 51, 52, 53, 54, 55, 56, 57, 97, 98, 99, 100, 101, 102] (lowI (k.val : Int)).toNat.toUInt8 = hexI (k.val : Int) := by decide +kernel

theorem enter_lower : ∀ args w, (callFunc 28 args).run Try.prog w = .ok (.enter 28 args) w := enters_of Try.func28 (by kernel_rfl) rfl
theorem lower1_c (s : ByteArray) (k b : Nat) (w : World) (hk : k < s.size) (hc : w.cell? ⟨b, 0, none⟩ = some (.string s)) :
    Calls Try.prog 28 #[.int .i64 (k : Int), .pointer (some ⟨b, 0, none⟩)] w fun e w' => e = .returned (.int .u8 ((low (at' s k)).toNat : Int)) ∧ w = w' := by
  have hb : (s[k].toNat : Int) ≤ 255 := by have := s[k].toNat_lt; omega
  have E : Hid (((low (at' s k)).toNat : Int) = lowI (s[k].toNat : Int)) := by show _ = _; rw [low_toNat, at_eq s k hk]
  go_enter Try.func28, Try.ntmps28
  go_wp2_with (go_at_call 29; refine (small_c _ _ (by omega) (by omega)).mono ?_; rintro e w' ⟨rfl, rfl⟩)
  go_ret
  exact ⟨ret_int E.out.symm, rfl⟩

theorem lower_c (s : ByteArray) (w : World) (hs : s.size ≤ 281474976710656) :
    Calls Try.prog 25 #[.string s] w fun e w' => e = .returned (.string (S (s.data.toList.map low))) ∧ Below w.heap.size w w' := by
  have hm := made_c s.size 28 #[.pointer (some ⟨w.heap.size, 0, none⟩)] (fun k => low (at' s k)) (w.alloc (.cells #[.string s] 9)) hs enter_lower
    (fun k W hk hb => lower1_c s k w.heap.size W hk (by rw [hb.cell (by simp)]; simp))
  rw [map_at] at hm
  go_enter Try.func25, Try.ntmps25
  go_wp2_with (go_at_call 27; refine hm.mono ?_; rintro e w' ⟨rfl, hb⟩)
  go_ret
  exact ⟨rfl, ((Below.refl _ w).alloc (Nat.le_refl _) _).trans (hb.mono (by simp))⟩

end Go.Proofs.Ytlekaibiofkleaa.Oct
