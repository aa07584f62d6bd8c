/-
  Contracts of octets.none, digitValue, Lower, Upper, Name, Starts, Trim.
-/
import Derived.Test.YtppclkecfggkiaaDoorOctMade
namespace Go.Proofs.YtppclkecfggkiaaDoor.Oct
open Go.RowKit

theorem none_c (n : Nat) (g : Nat) (lb : Array Value) (p : Nat → Bool) (w : World) (hn : n ≤ 9223372036854775807)
    (eg : ∀ args w, (callFunc g args).run Tryd.prog w = .ok (.enter g args) w) (hp : Wants g lb p n w) :
    Calls Tryd.prog 60 #[.int .i64 (n : Int), .func (.func g) #[] lb] w fun e w' => e = .returned (.bool (firstOf p 0 n == n)) ∧ Below w.heap.size w w' := by
  have hle := firstOf_le p 0 n
  go_enter Tryd.func60, Tryd.ntmps60
  go_wp2_with (go_at_call 66; refine (first_c n g lb p _ hn eg hp).mono ?_; rintro e w' ⟨rfl, hb'⟩)
  go_ret
  refine ⟨ret_bool ?_, hb'⟩
  rw [Bool.eq_iff_iff]; simp; omega

theorem digit_table : ∀ k : Fin 256, Lib.indexByte [48, 49, 50, 51, 52, 53, 54, 55, 56, 57, 97, 98, 99, 100, 101, 102] (lowI (k.val : Int)).toNat.toUInt8 = hexI (k.val : Int) := by decide +kernel

theorem digitValue_c (n : Int) (w : World) (h0 : 0 ≤ n) (h1 : n ≤ 255) :
    Calls Tryd.prog 62 #[.int .u8 n] w fun e w' => e = .returned (.int .i64 (hexI n)) ∧ w = w' := by
  have T : Lib.indexByte [48, 49, 50, 51, 52, 53, 54, 55, 56, 57, 97, 98, 99, 100, 101, 102] (lowI n).toNat.toUInt8 = hexI n := by
    have := digit_table ⟨n.toNat, by omega⟩
    rwa [show ((⟨n.toNat, by omega⟩ : Fin 256).val : Int) = n from Int.toNat_of_nonneg h0] at this
  have HT := Lib.hid T
  clear T
  go_enter Tryd.func62, Tryd.ntmps62
  go_wp2_with (first
    | (go_at_call 67; refine (small_c n _ h0 h1).mono ?_; rintro e w' ⟨rfl, rfl⟩)
    | (go_at_call 33; refine (Tryd.strings_IndexByte _ _ _).mono ?_; rintro e w' ⟨rfl, rfl⟩))
  go_ret
  exact ⟨ret_int HT.out, rfl⟩

end Go.Proofs.YtppclkecfggkiaaDoor.Oct
