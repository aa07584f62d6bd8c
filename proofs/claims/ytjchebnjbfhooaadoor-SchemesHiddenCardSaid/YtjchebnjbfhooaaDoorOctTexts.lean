/-
  Contracts of octets.none, digitValue, Lower, Upper, Name, Starts, Trim.
-/
import Derived.Test.YtjchebnjbfhooaaDoorOctMade
namespace Go.Proofs.YtjchebnjbfhooaaDoor.Oct
open Go.RowKit

theorem none_c (n : Nat) (g : Nat) (lb : Array Value) (p : Nat → Bool) (w : World) (hn : n ≤ 9223372036854775807)
    (eg : ∀ args w, (callFunc g args).run Tryd.prog w = .ok (.enter g args) w) (hp : Wants g lb p n w) :
    Calls Tryd.prog 64 #[.int .i64 (n : Int), .func (.func g) #[] lb] w fun e w' => e = .returned (.bool (firstOf p 0 n == n)) ∧ Below w.heap.size w w' := by
  have hle := firstOf_le p 0 n
  go_enter Tryd.func64, Tryd.ntmps64
  go_wp2_with (go_at_call 72; refine (first_c n g lb p _ hn eg hp).mono ?_; rintro e w' ⟨rfl, hb'⟩)
  go_ret
  refine ⟨ret_bool ?_, hb'⟩
  rw [Bool.eq_iff_iff]; simp; omega

theorem digit_table : ∀ k : Fin 256, Lib.indexByte [48, 49, 50, 51, 52, 53, 54, 55, 56, 57, 97, 98, 99, 100, 101, 102] (lowI (k.val : Int)).toNat.toUInt8 = hexI (k.val : Int) := by decide +kernel

theorem digitValue_c (n : Int) (w : World) (h0 : 0 ≤ n) (h1 : n ≤ 255) :
    Calls Tryd.prog 66 #[.int .u8 n] w fun e w' => e = .returned (.int .i64 (hexI n)) ∧ w = w' := by
  have T : Lib.indexByte [48, 49, 50, 51, 52, 53, 54, 55, 56, 57, 97, 98, 99, 100, 101, 102] (lowI n).toNat.toUInt8 = hexI n := by
    have := digit_table ⟨n.toNat, by omega⟩
    rwa [show ((⟨n.toNat, by omega⟩ : Fin 256).val : Int) = n from Int.toNat_of_nonneg h0] at this
  have HT := Lib.hid T
  clear T
  go_enter Tryd.func66, Tryd.ntmps66
  go_wp2_with (first
    | (go_at_call 27; refine (small_c n _ h0 h1).mono ?_; rintro e w' ⟨rfl, rfl⟩)
    | (go_at_call 39; refine (Tryd.strings_IndexByte _ _ _).mono ?_; rintro e w' ⟨rfl, rfl⟩))
  go_ret
  exact ⟨ret_int HT.out, rfl⟩

theorem enter_lower : ∀ args w, (callFunc 26 args).run Tryd.prog w = .ok (.enter 26 args) w := enters_of Tryd.func26 (by kernel_rfl) rfl
theorem lower1_c (s : ByteArray) (k b : Nat) (w : World) (hk : k < s.size) (hc : w.cell? ⟨b, 0, none⟩ = some (.string s)) :
    Calls Tryd.prog 26 #[.int .i64 (k : Int), .pointer (some ⟨b, 0, none⟩)] w fun e w' => e = .returned (.int .u8 ((low (at' s k)).toNat : Int)) ∧ w = w' := by
  have hb : (s[k].toNat : Int) ≤ 255 := by have := s[k].toNat_lt; omega
  have E : Hid (((low (at' s k)).toNat : Int) = lowI (s[k].toNat : Int)) := by show _ = _; rw [low_toNat, at_eq s k hk]
  go_enter Tryd.func26, Tryd.ntmps26
  go_wp2_with (go_at_call 27; refine (small_c _ _ (by omega) (by omega)).mono ?_; rintro e w' ⟨rfl, rfl⟩)
  go_ret
  exact ⟨ret_int E.out.symm, rfl⟩

theorem lower_c (s : ByteArray) (w : World) (hs : s.size ≤ 281474976710656) :
    Calls Tryd.prog 18 #[.string s] w fun e w' => e = .returned (.string (S (s.data.toList.map low))) ∧ Below w.heap.size w w' := by
  have hm := made_c s.size 26 #[.pointer (some ⟨w.heap.size, 0, none⟩)] (fun k => low (at' s k)) (w.alloc (.cells #[.string s] 9)) hs enter_lower
    (fun k W hk hb => lower1_c s k w.heap.size W hk (by rw [hb.cell (by simp)]; simp))
  rw [map_at] at hm
  go_enter Tryd.func18, Tryd.ntmps18
  go_wp2_with (go_at_call 25; refine hm.mono ?_; rintro e w' ⟨rfl, hb⟩)
  go_ret
  exact ⟨rfl, ((Below.refl _ w).alloc (Nat.le_refl _) _).trans (hb.mono (by simp))⟩

end Go.Proofs.YtjchebnjbfhooaaDoor.Oct
