/-
  Contract of the page's Escape.
-/
import Derived.Test.YtamenccdnobjkaaDoorCrfPgRow
namespace Go.Proofs.YtamenccdnobjkaaDoor.Crf
open Go.RowKit Go.Proofs.YtamenccdnobjkaaDoor.Oct Go.Proofs.YtamenccdnobjkaaDoor.Num Go.Proofs.YtamenccdnobjkaaDoor.Utf Go.Proofs.YtamenccdnobjkaaDoor.Mem
open Go.Lib (encodeRune)

set_option maxHeartbeats 1000000 in
set_option maxRecDepth 100000 in
/-- Contract of the page's Escape. -/
theorem rEscape_c (s0 : ByteArray) (hs : s0.size ≤ 134217728) (w : World) :
    Calls Tryd.prog 11 #[.string s0] w fun e w' => e = .returned (.string (S (escL (rep s0.data.toList)))) ∧ Below w.heap.size w w' := by
  obtain ⟨i0, hi, hz0, hz1, hz2⟩ := info_parts Mem.info_u8
  have hrp := rrepair_c s0 (by omega) w
  have hrl : (rep s0.data.toList).length ≤ 4 * s0.size := by
    have h1 := encs_len (chars s0.data.toList)
    have h2 := chars_len s0.data.toList
    rw [size_list] at h2
    unfold rep
    omega
  generalize rep s0.data.toList = r at hrp hrl
  have hrl2 : r.length ≤ 536870912 := by omega
  have HX := Lib.hid (fun k (h : k < (S r).size) => (by
    have h' : k < r.length := by rw [← size_S]; exact h
    exact ⟨h', rfl⟩ : ∃ h' : k < r.length, (S r)[k]'h = r[k]'h'))
  have hsz : (S r).size = r.length := size_S r
  have hszi : ((S r).size : Int) = (r.length : Int) := by rw [size_S]
  have HNext := Lib.hid (fun k (h : k < r.length) => (by rw [List.take_succ_eq_append_getElem h, esc_snoc] : escL (r.take (k + 1)) = escL (r.take k) ++ escO r[k]))
  have HLen := Lib.hid (fun k => esc_len (r.take k))
  generalize S r = s at hrp HX hsz hszi
  clear hrl hs
  go_enter Tryd.func11, Tryd.ntmps11
  go_wp2_with fail
  refine hrp.mono ?_
  rintro e w1 ⟨rfl, hb1⟩
  have HB1 := Lib.hid (show Below w.heap.size w w1 from hb1)
  clear hb1 hrp
  go_wp2_with fail
  go_loopw [4, 5] (fun b i wr => ∃ k : Nat, k ≤ r.length ∧ i = .int .i64 k ∧ Hid (Row w1.heap.size b (escL (r.take k)) wr) ∧ Hid (Below w1.heap.size w1 wr)) (fun _ i _ => r.length - (intOf i).toNat)
  case atStart => exact ⟨0, Nat.zero_le _, rfl, World.ownsRow_nil _ _ _ _, Below.refl _ _⟩
  case round =>
    obtain ⟨k, hk, rfl, hrow, hb⟩ := hrel
    by_cases hlt : k < r.length
    · have hks : k < s.size := by omega
      obtain ⟨h', hx⟩ := HX.out k hks
      have hnx := HNext.out k hlt
      have hB : w1.heap.size ≤ wr.heap.size := hb.out.size
      have i0' : (0 : Int) ≤ (k : Int) := by omega
      have i1 : (k : Int) < (r.length : Int) := by omega
      have hln := HLen.out k
      rw [List.length_take] at hln
      obtain ⟨o, ho⟩ : ∃ o, o = escL (r.take k) := ⟨_, rfl⟩
      rw [← ho] at hnx hln hrow
      obtain ⟨m, hm⟩ : ∃ m, m = o.length := ⟨_, rfl⟩
      have hrow' : wr.ownsRow w1.heap.size 5 1 u4 m (o.map Mem.bv) := by rw [hm]; exact hrow.out
      have HR := Lib.hid hrow'
      have hml : m ≤ 2684354560 := by omega
      have HM := Lib.hid hm
      have HO := Lib.hid ho
      have HNx := Lib.hid hnx
      have hxn : s[k].toNat = r[k].toNat := by rw [hx]
      have hxu : s[k].toNat < 256 := s[k].toNat_lt
      clear hrow' hrow ho hm hnx hln
      by_cases h38 : r[k] = 38
      · have hE : Hid (escL (r.take (k + 1)) = o ++ [38, 97, 109, 112, 59]) := by show _ = _; rw [HNx.out, h38]; rfl
        have e38 : ((s[k].toNat : Int) == 38) = true := by rw [hxn, h38]; rfl
        have HC : Hid (Lib.strCells (⟨#[38, 97, 109, 112, 59]⟩ : ByteArray) = ([38, 97, 109, 112, 59] : List UInt8).map Mem.bv ∧ (⟨#[38, 97, 109, 112, 59]⟩ : ByteArray).size = ([38, 97, 109, 112, 59] : List UInt8).length) := cells_S [38, 97, 109, 112, 59]
        clear hxn hx h38
        go_wp2_with (at_builtin; refine Lib.wpList_append_own_string _ rfl _ _ 32 9 rfl w1.heap.size 5 i0 Tryd.underlying32 Tryd.underlying9 hi hz0 hz1 hz2 _ m _ rfl HR.out (⟨#[38, 97, 109, 112, 59]⟩ : ByteArray) rfl (by rw [HC.out.2]; unfold maxLen; simp; omega) (by rw [HC.out.2]; simp; omega) hB ?_)
        intro v' w3 hown hg _
        have HO2 : Hid (Row w1.heap.size v' (escL (r.take (k + 1))) w3) := by
          show Row _ _ _ _
          rw [hE.out]
          refine Row.more ?_
          rw [← HC.out.1, ← HC.out.2, ← HM.out]
          exact hown
        have HB3 : Hid (Below w1.heap.size w1 w3) := hb.out.grown hg hB (own_base HR.out)
        clear hown hg
        go_wp2_with fail
        go_roundw
        case rel => exact ⟨k + 1, by omega, by go_num, HO2, HB3⟩
        case measure => simp [intOf]; omega
      have n38 : ((s[k].toNat : Int) == 38) = false := by rw [beq_eq_false_iff_ne]; intro e; exact h38 (UInt8.toNat_inj.1 (by have : (38 : UInt8).toNat = 38 := rfl; omega))
      by_cases h60 : r[k] = 60
      · have hE : Hid (escL (r.take (k + 1)) = o ++ [38, 108, 116, 59]) := by show _ = _; rw [HNx.out, h60]; rfl
        have e60 : ((s[k].toNat : Int) == 60) = true := by rw [hxn, h60]; rfl
        have e38 : ((s[k].toNat : Int) == 38) = false := by rw [hxn, h60]; rfl
        have HC : Hid (Lib.strCells (⟨#[38, 108, 116, 59]⟩ : ByteArray) = ([38, 108, 116, 59] : List UInt8).map Mem.bv ∧ (⟨#[38, 108, 116, 59]⟩ : ByteArray).size = ([38, 108, 116, 59] : List UInt8).length) := cells_S [38, 108, 116, 59]
        clear hxn hx h60 n38
        go_wp2_with (at_builtin; refine Lib.wpList_append_own_string _ rfl _ _ 32 9 rfl w1.heap.size 5 i0 Tryd.underlying32 Tryd.underlying9 hi hz0 hz1 hz2 _ m _ rfl HR.out (⟨#[38, 108, 116, 59]⟩ : ByteArray) rfl (by rw [HC.out.2]; unfold maxLen; simp; omega) (by rw [HC.out.2]; simp; omega) hB ?_)
        intro v' w3 hown hg _
        have HO2 : Hid (Row w1.heap.size v' (escL (r.take (k + 1))) w3) := by
          show Row _ _ _ _
          rw [hE.out]
          refine Row.more ?_
          rw [← HC.out.1, ← HC.out.2, ← HM.out]
          exact hown
        have HB3 : Hid (Below w1.heap.size w1 w3) := hb.out.grown hg hB (own_base HR.out)
        clear hown hg
        go_wp2_with fail
        go_roundw
        case rel => exact ⟨k + 1, by omega, by go_num, HO2, HB3⟩
        case measure => simp [intOf]; omega
      have n60 : ((s[k].toNat : Int) == 60) = false := by rw [beq_eq_false_iff_ne]; intro e; exact h60 (UInt8.toNat_inj.1 (by have : (60 : UInt8).toNat = 60 := rfl; omega))
      by_cases h62 : r[k] = 62
      · have hE : Hid (escL (r.take (k + 1)) = o ++ [38, 103, 116, 59]) := by show _ = _; rw [HNx.out, h62]; rfl
        have e62 : ((s[k].toNat : Int) == 62) = true := by rw [hxn, h62]; rfl
        have e38 : ((s[k].toNat : Int) == 38) = false := by rw [hxn, h62]; rfl
        have e60 : ((s[k].toNat : Int) == 60) = false := by rw [hxn, h62]; rfl
        have HC : Hid (Lib.strCells (⟨#[38, 103, 116, 59]⟩ : ByteArray) = ([38, 103, 116, 59] : List UInt8).map Mem.bv ∧ (⟨#[38, 103, 116, 59]⟩ : ByteArray).size = ([38, 103, 116, 59] : List UInt8).length) := cells_S [38, 103, 116, 59]
        clear hxn hx h62 n38 n60
        go_wp2_with (at_builtin; refine Lib.wpList_append_own_string _ rfl _ _ 32 9 rfl w1.heap.size 5 i0 Tryd.underlying32 Tryd.underlying9 hi hz0 hz1 hz2 _ m _ rfl HR.out (⟨#[38, 103, 116, 59]⟩ : ByteArray) rfl (by rw [HC.out.2]; unfold maxLen; simp; omega) (by rw [HC.out.2]; simp; omega) hB ?_)
        intro v' w3 hown hg _
        have HO2 : Hid (Row w1.heap.size v' (escL (r.take (k + 1))) w3) := by
          show Row _ _ _ _
          rw [hE.out]
          refine Row.more ?_
          rw [← HC.out.1, ← HC.out.2, ← HM.out]
          exact hown
        have HB3 : Hid (Below w1.heap.size w1 w3) := hb.out.grown hg hB (own_base HR.out)
        clear hown hg
        go_wp2_with fail
        go_roundw
        case rel => exact ⟨k + 1, by omega, by go_num, HO2, HB3⟩
        case measure => simp [intOf]; omega
      have n62 : ((s[k].toNat : Int) == 62) = false := by rw [beq_eq_false_iff_ne]; intro e; exact h62 (UInt8.toNat_inj.1 (by have : (62 : UInt8).toNat = 62 := rfl; omega))
      by_cases h34 : r[k] = 34
      · have hE : Hid (escL (r.take (k + 1)) = o ++ [38, 35, 51, 52, 59]) := by show _ = _; rw [HNx.out, h34]; rfl
        have e34 : ((s[k].toNat : Int) == 34) = true := by rw [hxn, h34]; rfl
        have e38 : ((s[k].toNat : Int) == 38) = false := by rw [hxn, h34]; rfl
        have e60 : ((s[k].toNat : Int) == 60) = false := by rw [hxn, h34]; rfl
        have e62 : ((s[k].toNat : Int) == 62) = false := by rw [hxn, h34]; rfl
        have HC : Hid (Lib.strCells (⟨#[38, 35, 51, 52, 59]⟩ : ByteArray) = ([38, 35, 51, 52, 59] : List UInt8).map Mem.bv ∧ (⟨#[38, 35, 51, 52, 59]⟩ : ByteArray).size = ([38, 35, 51, 52, 59] : List UInt8).length) := cells_S [38, 35, 51, 52, 59]
        clear hxn hx h34 n38 n60 n62
        go_wp2_with (at_builtin; refine Lib.wpList_append_own_string _ rfl _ _ 32 9 rfl w1.heap.size 5 i0 Tryd.underlying32 Tryd.underlying9 hi hz0 hz1 hz2 _ m _ rfl HR.out (⟨#[38, 35, 51, 52, 59]⟩ : ByteArray) rfl (by rw [HC.out.2]; unfold maxLen; simp; omega) (by rw [HC.out.2]; simp; omega) hB ?_)
        intro v' w3 hown hg _
        have HO2 : Hid (Row w1.heap.size v' (escL (r.take (k + 1))) w3) := by
          show Row _ _ _ _
          rw [hE.out]
          refine Row.more ?_
          rw [← HC.out.1, ← HC.out.2, ← HM.out]
          exact hown
        have HB3 : Hid (Below w1.heap.size w1 w3) := hb.out.grown hg hB (own_base HR.out)
        clear hown hg
        go_wp2_with fail
        go_roundw
        case rel => exact ⟨k + 1, by omega, by go_num, HO2, HB3⟩
        case measure => simp [intOf]; omega
      have n34 : ((s[k].toNat : Int) == 34) = false := by rw [beq_eq_false_iff_ne]; intro e; exact h34 (UInt8.toNat_inj.1 (by have : (34 : UInt8).toNat = 34 := rfl; omega))
      by_cases h39 : r[k] = 39
      · have hE : Hid (escL (r.take (k + 1)) = o ++ [38, 35, 51, 57, 59]) := by show _ = _; rw [HNx.out, h39]; rfl
        have e39 : ((s[k].toNat : Int) == 39) = true := by rw [hxn, h39]; rfl
        have e38 : ((s[k].toNat : Int) == 38) = false := by rw [hxn, h39]; rfl
        have e60 : ((s[k].toNat : Int) == 60) = false := by rw [hxn, h39]; rfl
        have e62 : ((s[k].toNat : Int) == 62) = false := by rw [hxn, h39]; rfl
        have e34 : ((s[k].toNat : Int) == 34) = false := by rw [hxn, h39]; rfl
        have HC : Hid (Lib.strCells (⟨#[38, 35, 51, 57, 59]⟩ : ByteArray) = ([38, 35, 51, 57, 59] : List UInt8).map Mem.bv ∧ (⟨#[38, 35, 51, 57, 59]⟩ : ByteArray).size = ([38, 35, 51, 57, 59] : List UInt8).length) := cells_S [38, 35, 51, 57, 59]
        clear hxn hx h39 n38 n60 n62 n34
        go_wp2_with (at_builtin; refine Lib.wpList_append_own_string _ rfl _ _ 32 9 rfl w1.heap.size 5 i0 Tryd.underlying32 Tryd.underlying9 hi hz0 hz1 hz2 _ m _ rfl HR.out (⟨#[38, 35, 51, 57, 59]⟩ : ByteArray) rfl (by rw [HC.out.2]; unfold maxLen; simp; omega) (by rw [HC.out.2]; simp; omega) hB ?_)
        intro v' w3 hown hg _
        have HO2 : Hid (Row w1.heap.size v' (escL (r.take (k + 1))) w3) := by
          show Row _ _ _ _
          rw [hE.out]
          refine Row.more ?_
          rw [← HC.out.1, ← HC.out.2, ← HM.out]
          exact hown
        have HB3 : Hid (Below w1.heap.size w1 w3) := hb.out.grown hg hB (own_base HR.out)
        clear hown hg
        go_wp2_with fail
        go_roundw
        case rel => exact ⟨k + 1, by omega, by go_num, HO2, HB3⟩
        case measure => simp [intOf]; omega
      have n39 : ((s[k].toNat : Int) == 39) = false := by rw [beq_eq_false_iff_ne]; intro e; exact h39 (UInt8.toNat_inj.1 (by have : (39 : UInt8).toNat = 39 := rfl; omega))
      by_cases h43 : r[k] = 43
      · have hE : Hid (escL (r.take (k + 1)) = o ++ [38, 35, 52, 51, 59]) := by show _ = _; rw [HNx.out, h43]; rfl
        have e43 : ((s[k].toNat : Int) == 43) = true := by rw [hxn, h43]; rfl
        have e38 : ((s[k].toNat : Int) == 38) = false := by rw [hxn, h43]; rfl
        have e60 : ((s[k].toNat : Int) == 60) = false := by rw [hxn, h43]; rfl
        have e62 : ((s[k].toNat : Int) == 62) = false := by rw [hxn, h43]; rfl
        have e34 : ((s[k].toNat : Int) == 34) = false := by rw [hxn, h43]; rfl
        have e39 : ((s[k].toNat : Int) == 39) = false := by rw [hxn, h43]; rfl
        have HC : Hid (Lib.strCells (⟨#[38, 35, 52, 51, 59]⟩ : ByteArray) = ([38, 35, 52, 51, 59] : List UInt8).map Mem.bv ∧ (⟨#[38, 35, 52, 51, 59]⟩ : ByteArray).size = ([38, 35, 52, 51, 59] : List UInt8).length) := cells_S [38, 35, 52, 51, 59]
        clear hxn hx h43 n38 n60 n62 n34 n39
        go_wp2_with (at_builtin; refine Lib.wpList_append_own_string _ rfl _ _ 32 9 rfl w1.heap.size 5 i0 Tryd.underlying32 Tryd.underlying9 hi hz0 hz1 hz2 _ m _ rfl HR.out (⟨#[38, 35, 52, 51, 59]⟩ : ByteArray) rfl (by rw [HC.out.2]; unfold maxLen; simp; omega) (by rw [HC.out.2]; simp; omega) hB ?_)
        intro v' w3 hown hg _
        have HO2 : Hid (Row w1.heap.size v' (escL (r.take (k + 1))) w3) := by
          show Row _ _ _ _
          rw [hE.out]
          refine Row.more ?_
          rw [← HC.out.1, ← HC.out.2, ← HM.out]
          exact hown
        have HB3 : Hid (Below w1.heap.size w1 w3) := hb.out.grown hg hB (own_base HR.out)
        clear hown hg
        go_wp2_with fail
        go_roundw
        case rel => exact ⟨k + 1, by omega, by go_num, HO2, HB3⟩
        case measure => simp [intOf]; omega
      have n43 : ((s[k].toNat : Int) == 43) = false := by rw [beq_eq_false_iff_ne]; intro e; exact h43 (UInt8.toNat_inj.1 (by have : (43 : UInt8).toNat = 43 := rfl; omega))
      have hE : Hid (escL (r.take (k + 1)) = o ++ [r[k]]) := by
        show _ = _
        rw [HNx.out]
        congr 1
        unfold escO
        rw [if_neg h38, if_neg h60, if_neg h62, if_neg h34, if_neg h39, if_neg h43]
      have hpc : (s[k].toNat : Int) = (r[k].toNat : Int) := by rw [hxn]
      have HPC := Lib.hid hpc
      clear hxn hx hpc h38 h60 h62 h34 h39 h43
      generalize r[k] = c at hE HPC
      go_wp2_with (at_builtin; refine wpList_append_own _ rfl _ _ 32 rfl w1.heap.size 5 i0 (.int .u8 0) 1 1 Tryd.underlying32 hi hz0 hz1 hz2 rfl (by decide) _ _ _ rfl (HR.out.alloc _) ⟨wr.heap.size, 0, none⟩ 1 1 [Mem.bv c] rfl rfl (push_cell HPC.out) push_one (by unfold maxLen; omega) (by omega) (by simp; omega) ?_)
      intro v' w3 hown hg _
      have HO2 : Hid (Row w1.heap.size v' (escL (r.take (k + 1))) w3) := by
        show Row _ _ _ _
        rw [hE.out]
        refine Row.more ?_
        rw [← HM.out]
        exact hown
      have HB3 : Hid (Below w1.heap.size w1 w3) := (hb.out.alloc hB _).grown hg (by simp; omega) (own_base HR.out)
      clear hown hg
      go_wp2_with fail
      go_roundw
      case rel => exact ⟨k + 1, by omega, by go_num, HO2, HB3⟩
      case measure => simp [intOf]; omega
    · have hkl : k = r.length := by omega
      have hcv := conv_own hrow.out
      rw [hkl, List.take_length] at hcv
      subst hkl
      go_wp2_with fail
      go_ret
      exact ⟨rfl, HB1.out.trans (hb.out.mono HB1.out.size)⟩

end Go.Proofs.YtamenccdnobjkaaDoor.Crf
