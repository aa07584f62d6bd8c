/-
  Contracts of the page's answers on texts: small and great letters.
-/
import Derived.Test.YtlekaibiofkleaaBytes
import Derived.Test.YtlekaibiofkleaaOctUnhex
namespace Go.Proofs.Ytlekaibiofkleaa.Oct
open Go.RowKit

theorem map_get (s : ByteArray) (k : Nat) (f : UInt8 → UInt8) (h : k < s.size) : (s.data.toList.map f)[k]? = some (f s[k]) := by
  rw [List.getElem?_map, List.getElem?_eq_getElem (by rw [size_list]; exact h)]
  rfl

set_option maxHeartbeats 1000000 in
set_option maxRecDepth 100000 in
theorem rlower_c (s : ByteArray) (w : World) (hs : s.size ≤ 140737488351232) :
    Calls Try.prog 15 #[.string s] w fun e w' => e = .returned (.string (S (s.data.toList.map low))) ∧ Below w.heap.size w w' := by
  obtain ⟨i0, hi, hz0, hz1, hz2⟩ := info_parts info_u8
  go_enter Try.func15, Try.ntmps15
  go_wp2
  go_loopw [3, 4, 5] (fun v i _ wr => ∃ k : Nat, k ≤ s.size ∧ i = .int .i64 k ∧ Hid (wr.ownsRow w.heap.size 5 1 v k (cellsTo (s.data.toList.map low) k)) ∧ Hid (Below w.heap.size w wr)) (fun _ i _ _ => s.size - (intOf i).toNat)
  case atStart => exact ⟨0, Nat.zero_le _, rfl, World.ownsRow_nil _ _ _ _, Below.refl _ _⟩
  case round =>
    obtain ⟨k, hk, rfl, hrow, hbel⟩ := hrel
    by_cases hlt : k < s.size
    · have hb1 : (s[k].toNat : Int) ≤ 255 := by have := s[k].toNat_lt; omega
      have hB : w.heap.size ≤ wr.heap.size := hbel.out.size
      have hL : Hid ((s.data.toList.map low)[k]? = some (low s[k])) := map_get s k low hlt
      have hN : Hid (((low s[k]).toNat : Int) = lowI (s[k].toNat : Int)) := low_toNat _
      by_cases hg : (65 : Int) ≤ (s[k].toNat : Int) ∧ (s[k].toNat : Int) ≤ 90
      · obtain ⟨hg1, hg2⟩ := hg
        have hx : Hid ((s[k].toNat : Int) - 65 + 97 = ((low s[k]).toNat : Int)) := by show _ = _; rw [hN.out, lowI, if_pos ⟨hg1, hg2⟩]; omega
        go_wp2_with (at_builtin; refine wpList_append_own _ rfl _ _ 37 rfl w.heap.size 5 i0 (.int .u8 0) 1 1 Try.underlying37 hi hz0 hz1 hz2 rfl (by decide) _ _ _ rfl (hrow.out.alloc _) ⟨wr.heap.size, 0, none⟩ 1 1 [bv (low s[k])] rfl rfl (push_cell hx.out) push_one (by unfold maxLen; omega) (by omega) (by simp; omega) ?_)
        intro v' w1 hown' hgrow _
        obtain ⟨ho, hb⟩ := push_own hrow.out hbel.out hB hown' hgrow hL.out
        clear hown' hgrow hrow hbel
        have HO := Lib.hid ho
        have HB := Lib.hid hb
        clear ho hb
        go_wp2
        go_roundw
        case rel => exact ⟨k + 1, by omega, by go_num, HO, HB⟩
        case measure => simp [intOf]; omega
      · have hx : Hid ((s[k].toNat : Int) = ((low s[k]).toNat : Int)) := by show _ = _; rw [hN.out, lowI, if_neg hg]
        rcases (show (s[k].toNat : Int) < 65 ∨ 90 < (s[k].toNat : Int) by omega) with hg1 | hg1
        · have hdb : decide ((65 : Int) ≤ (s[k].toNat : Int)) = false := by simp; omega
          clear hg
          go_wp2_with (at_builtin; refine wpList_append_own _ rfl _ _ 37 rfl w.heap.size 5 i0 (.int .u8 0) 1 1 Try.underlying37 hi hz0 hz1 hz2 rfl (by decide) _ _ _ rfl (hrow.out.alloc _) ⟨wr.heap.size, 0, none⟩ 1 1 [bv (low s[k])] rfl rfl (push_cell hx.out) push_one (by unfold maxLen; omega) (by omega) (by simp; omega) ?_)
          intro v' w1 hown' hgrow _
          obtain ⟨ho, hb⟩ := push_own hrow.out hbel.out hB hown' hgrow hL.out
          clear hown' hgrow hrow hbel
          have HO := Lib.hid ho
          have HB := Lib.hid hb
          clear ho hb
          go_wp2
          go_roundw
          case rel => exact ⟨k + 1, by omega, by go_num, HO, HB⟩
          case measure => simp [intOf]; omega
        · have hda : (65 : Int) ≤ (s[k].toNat : Int) := by omega
          clear hg
          go_wp2_with (at_builtin; refine wpList_append_own _ rfl _ _ 37 rfl w.heap.size 5 i0 (.int .u8 0) 1 1 Try.underlying37 hi hz0 hz1 hz2 rfl (by decide) _ _ _ rfl (hrow.out.alloc _) ⟨wr.heap.size, 0, none⟩ 1 1 [bv (low s[k])] rfl rfl (push_cell hx.out) push_one (by unfold maxLen; omega) (by omega) (by simp; omega) ?_)
          intro v' w1 hown' hgrow _
          obtain ⟨ho, hb⟩ := push_own hrow.out hbel.out hB hown' hgrow hL.out
          clear hown' hgrow hrow hbel
          have HO := Lib.hid ho
          have HB := Lib.hid hb
          clear ho hb
          go_wp2
          go_roundw
          case rel => exact ⟨k + 1, by omega, by go_num, HO, HB⟩
          case measure => simp [intOf]; omega
    · have hcv := conv_own (cellsTo_all (s.data.toList.map low) k (by rw [List.length_map, size_list]; omega) ▸ hrow.out)
      clear hrow
      go_wp2
      go_ret
      exact ⟨rfl, hbel.out⟩

end Go.Proofs.Ytlekaibiofkleaa.Oct
