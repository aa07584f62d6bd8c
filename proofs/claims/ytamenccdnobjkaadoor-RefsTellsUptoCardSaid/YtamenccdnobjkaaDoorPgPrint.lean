/-
  Contract of the page's Print of a number: its digits; it changes nothing.
-/
import Derived.Test.YtamenccdnobjkaaDoorNumPure
import Derived.Test.YtamenccdnobjkaaDoorProg
import Derived.Lib.Hide
namespace Go.Proofs.YtamenccdnobjkaaDoor.Num
open Go.RowKit Go.Proofs.YtamenccdnobjkaaDoor.Oct

theorem digit_cut (d : Nat) (h : d < 10) : (⟨#[48, 49, 50, 51, 52, 53, 54, 55, 56, 57]⟩ : ByteArray).extract d (d + 1) = S [dig d] := by
  have : ∀ d : Fin 10, (⟨#[48, 49, 50, 51, 52, 53, 54, 55, 56, 57]⟩ : ByteArray).extract d.val (d.val + 1) = S [dig d.val] := by decide +kernel
  exact this ⟨d, h⟩

theorem digit_slice (d : Nat) (h : d < 10) (w : World) :
    (Instr.slice 9 (.string ⟨#[48, 49, 50, 51, 52, 53, 54, 55, 56, 57]⟩) (some (.int .i64 (d : Int))) (some (.int .i64 ((d : Int) + 1))) none).run Tryd.prog w = .ok (.string (S [dig d])) w := by
  have h16 : (⟨#[48, 49, 50, 51, 52, 53, 54, 55, 56, 57]⟩ : ByteArray).size = 10 := rfl
  rw [← digit_cut d h]
  generalize (⟨#[48, 49, 50, 51, 52, 53, 54, 55, 56, 57]⟩ : ByteArray) = s at h16
  have e1 : ((d : Int) + 1).toNat = d + 1 := by omega
  rw [run_slice_string w _ s .i64 .i64 (d : Int) ((d : Int) + 1) Tryd.underlying9 (by omega) (by omega) (by omega), e1, Int.toNat_natCast]

theorem ret_str {a b : ByteArray} (h : a = b) : Ending.returned (.string a) = .returned (.string b) := by rw [h]
theorem S_minus (l : List UInt8) : (⟨#[45]⟩ : ByteArray) ++ S l = S (45 :: l) := S_append [45] l

set_option maxHeartbeats 1000000 in
theorem rprint_c (n : Int) (w : World) (h0 : -9223372036854775808 ≤ n) (h1 : n ≤ 9223372036854775807) :
    Calls Tryd.prog 21 #[.int .i64 n] w fun e w' => e = .returned (.string (S (printL n))) ∧ w = w' := by
  have HL : Hid ((decL n.natAbs).length ≤ 19) := by show _ ≤ _; rw [decL_len]; exact lowL_len (by omega)
  by_cases hn : n < 0
  all_goals
    go_enter Tryd.func21, Tryd.ntmps21
    go_wp2
    go_loop [3, 4, 5] (fun u o _ => ∃ (v : Nat) (l : List UInt8), u = .int .u64 (v : Int) ∧ o = .string (S l) ∧ v < 10000000000000000000 ∧ Hid (decL v ++ l = decL n.natAbs)) (fun u _ _ => (intOf u).toNat)
    case atStart =>
      refine ⟨n.natAbs, [], ?_, rfl, by omega, List.append_nil _⟩
      congr 1
      try simp only [IntKind.wrap_u64]
      omega
    case round =>
      obtain ⟨v, l, rfl, rfl, hv, hl⟩ := hrel
      have hll : l.length ≤ 19 := by have := congrArg List.length hl.out; rw [List.length_append] at this; have := HL.out; omega
      have hol : (S l).size ≤ 19 := by rw [size_S]; exact hll
      by_cases hlt : 10 ≤ v
      · have hnext : Hid (S [dig (v % 10)] ++ S l = S (dig (v % 10) :: l)) := S_append _ _
        have hE : Hid (decL (v / 10) ++ (dig (v % 10) :: l) = decL n.natAbs) := by
          show _ = _
          rw [← hl.out, decL_ge hlt, List.append_assoc]
          rfl
        obtain ⟨d, hd⟩ : ∃ d, v % 10 = d := ⟨_, rfl⟩
        have hdI : (v : Int) % 10 = (d : Int) := by omega
        have hd10 : d < 10 := by omega
        rw [hd] at hnext hE
        have hcut := digit_slice d hd10
        have hxl : (S [dig d]).size ≤ 1 := by rw [size_S]; simp
        generalize S [dig d] = x at hnext hcut hxl
        generalize S l = o at hnext hol
        clear hd hl
        go_wp2
        go_round
        case rel => exact ⟨v / 10, dig d :: l, by go_num, by rw [hnext.out], by omega, hE⟩
        case measure => simp [intOf]; omega
      · have hnext : Hid (S [dig v] ++ S l = S (decL n.natAbs)) := by show _ = _; rw [S_append, ← hl.out, decL_lt (by omega)]
        have hcut := digit_slice v (by omega)
        have hxl : (S [dig v]).size ≤ 1 := by rw [size_S]; simp
        have hout : (S (decL n.natAbs)).size ≤ 19 := by rw [size_S]; exact HL.out
        have F : Hid (printL n = if n < 0 then 45 :: decL n.natAbs else decL n.natAbs) := rfl
        generalize S [dig v] = x at hnext hcut hxl
        generalize S l = o at hnext hol
        clear hl
        go_wp2
        go_ret
        exact ⟨ret_str (by rw [hnext.out, F.out]; first | rw [S_minus, if_pos hn] | rw [if_neg (by omega)]), rfl⟩
end Go.Proofs.YtamenccdnobjkaaDoor.Num
