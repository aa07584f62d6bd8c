/-
  Part 9: UtfRefDec, PgChars, LitQuote, PgPrint, LitLiteral, LitList, LitRecord, LitAll, LitPlain, LitReads, RowKit, UtfLaid.
-/
import Derived.Test.YtgfbednfiejlfaaGreatDoorLitReadsCardP8
import Derived.Maps.AppendAt
import Derived.Test.YtgfbednfiejlfaaGreatDoorLitReadsCardP5
import Derived.Test.YtgfbednfiejlfaaGreatDoorLitReadsCardP2
import Derived.Test.YtgfbednfiejlfaaGreatDoorLitReadsCardP3
import Derived.Test.YtgfbednfiejlfaaGreatDoorProg
import Derived.Lib.Hide
import Derived.Test.YtgfbednfiejlfaaGreatDoorRows
import Derived.WalkKit
import Derived.ProofKit
import Derived.OpenShut
import Derived.JoinedCond
import Derived.SizedLaws
import Derived.Test.YtgfbednfiejlfaaGreatDoorCards
import Derived.Test.YtgfbednfiejlfaaGreatDoorTie
import Derived.Lib.LaidU8
import Derived.Deep.DeepHandedRow
/-
  Contract of the page's Decode.
-/
namespace Go.Proofs.YtgfbednfiejlfaaGreatDoor.Utf
open Go.RowKit Go.Proofs.YtgfbednfiejlfaaGreatDoor.Oct Go.Proofs.YtgfbednfiejlfaaGreatDoor.Mem
open Go.Lib (encodeRune encodeRuneZ)

theorem oct_at (s : ByteArray) (k : Nat) (h : k < s.size) : oct s.data.toList k = s[k].toNat := by
  unfold oct
  rw [at_eq s k h]; rfl

def maskI (n : Nat) : Int := if n = 1 then 127 else if n = 2 then 31 else if n = 3 then 15 else 7
theorem mask_all : ∀ (n : Fin 4) (b : Fin 256), bits .and .i64 ((b.val : Nat) : Int) (maskI (n.val + 1)) = ((b.val % partN (n.val + 1) : Nat) : Int) := by decide +kernel
theorem mask_eq (n b : Nat) (h1 : 1 ≤ n) (h4 : n ≤ 4) (hb : b < 256) : bits .and .i64 (b : Int) (maskI n) = ((b % partN n : Nat) : Int) := by
  have := mask_all ⟨n - 1, by omega⟩ ⟨b, hb⟩
  simp only at this
  rwa [show n - 1 + 1 = n by omega] at this

theorem cut_take (s : ByteArray) (n : Nat) : (s.extract 0 n).data.toList = s.data.toList.take n := by
  rw [Lib.extract_data, List.drop_zero, Nat.sub_zero]

theorem rdecode_nil (s : ByteArray) (hs : s.size = 0) (w : World) :
    Calls Tryz.prog 66 #[.string s] w fun e w' => e = .returned (.tuple #[.int .i64 (-1), .int .i64 0]) ∧ Kept w w' := by
  have hne : s.toList.isEmpty = true := by
    rw [Lib.toList_data, List.isEmpty_iff]
    exact List.eq_nil_of_length_eq_zero (by rw [size_list]; exact hs)
  have hne2 : s.toList = [] := List.isEmpty_iff.1 hne
  go_enter Tryz.func66, Tryz.ntmps66
  go_wp2
  go_ret2
  exact ⟨rfl, Below.refl _ _⟩

theorem rsize_at (s : ByteArray) (hs : 0 < s.size) (w : World) :
    Calls Tryz.prog 87 #[.int .u8 (s[0].toNat : Int)] w fun e w' => e = .returned (.int .i64 (sizeN (oct s.data.toList 0) : Nat)) ∧ w = w' := by
  rw [oct_at s 0 hs, ← sizeI_eq]
  exact rsize_c _ w (by omega) (by have := s[0].toNat_lt; omega)

theorem text_ne (s : ByteArray) (hs : 0 < s.size) : s.toList.isEmpty = false ∧ s.toList ≠ [] := by
  have hne : s.toList.isEmpty = false := by
    rw [Lib.toList_data]
    cases h : s.data.toList with
    | nil => have := size_list s; rw [h] at this; simp at this; omega
    | cons _ _ => rfl
  exact ⟨hne, by intro e; rw [e] at hne; simp at hne⟩

set_option maxHeartbeats 2000000 in
theorem rdecode_short (s : ByteArray) (hs : 0 < s.size) (_ : s.size ≤ 4611686018427387904) (w : World) (h : sizeN (oct s.data.toList 0) = 0 ∨ s.size < sizeN (oct s.data.toList 0)) :
    Calls Tryz.prog 66 #[.string s] w fun e w' => e = .returned (.tuple #[.int .i64 (-1), .int .i64 1]) ∧ Kept w w' := by
  obtain ⟨hne, hne2⟩ := text_ne s hs
  have hz := fun w => rsize_at s hs w
  have hle := sizeN_le (oct s.data.toList 0)
  generalize sizeN (oct s.data.toList 0) = n at h hle hz
  by_cases hn0 : n = 0
  · subst hn0
    clear h
    go_enter Tryz.func66, Tryz.ntmps66
    go_wp2_with (go_at_call 87; refine (hz _).mono ?_; rintro e w' ⟨rfl, rfl⟩)
    go_ret2
    exact ⟨rfl, Below.refl _ _⟩
  · have hlt : s.size < n := by omega
    have b0 : ((n : Int) == 0) = false := by simp; omega
    clear h
    go_enter Tryz.func66, Tryz.ntmps66
    go_wp2_with (go_at_call 87; refine (hz _).mono ?_; rintro e w' ⟨rfl, rfl⟩)
    go_ret2
    exact ⟨rfl, Below.refl _ _⟩

theorem mask_cell (w : World) (n : Nat) (h1 : 1 ≤ n) (h4 : n ≤ 4) : (w.alloc (.cells #[.int .i64 0, .int .i64 127, .int .i64 31, .int .i64 15, .int .i64 7] 3)).cell? ⟨w.heap.size, n, none⟩ = some (.int .i64 (maskI n)) := by
  unfold World.cell?
  rw [World.alloc_heap_new]
  match n, h1, h4 with
  | 1, _, _ => rfl
  | 2, _, _ => rfl
  | 3, _, _ => rfl
  | 4, _, _ => rfl

theorem partN_b (n : Nat) : 0 < partN n ∧ partN n ≤ 128 := by
  unfold partN
  repeat' split
  all_goals omega
theorem below_drewN {B : Nat} {a w : World} (h : Below B a w) : ∀ q, Below B a (w.drewN q)
  | 0 => h
  | q + 1 => (below_drewN h q).drew

set_option maxHeartbeats 4000000 in
set_option maxRecDepth 100000 in
theorem rdecode_main (s : ByteArray) (hm : s.size ≤ 4611686018427387904) (w : World) (n : Nat) (hn : n = sizeN (oct s.data.toList 0)) (h1 : 1 ≤ n) (hns : n ≤ s.size) :
    Calls Tryz.prog 66 #[.string s] w fun e w' => e = .returned (.tuple #[.int .i64 (dec s.data.toList).1, .int .i64 ((dec s.data.toList).2 : Nat)]) ∧ Kept w w' := by
  have hs : 0 < s.size := by omega
  obtain ⟨hne, hne2⟩ := text_ne s hs
  have hz := fun w => rsize_at s hs w
  have h4 : n ≤ 4 := by rw [hn]; exact sizeN_le _
  rw [← hn] at hz
  have hlne : s.data.toList ≠ [] := by intro e; have := size_list s; rw [e] at this; simp at this; omega
  have b0 : ((n : Int) == 0) = false := by simp; omega
  have b1 : decide (s.size < n) = false := by simp; omega
  have hcell := mask_cell w n h1 h4
  have hand := mask_eq n s[0].toNat h1 h4 s[0].toNat_lt
  have HN := Lib.hid hn
  clear hn
  obtain ⟨mk, hmk⟩ : ∃ mk, mk = maskI n := ⟨_, rfl⟩
  rw [← hmk] at hcell hand
  clear hmk
  go_enter Tryz.func66, Tryz.ntmps66
  go_wp2_with (go_at_call 87; refine (hz _).mono ?_; rintro e w' ⟨rfl, rfl⟩)
  go_quiet (fail)
  rename_i nq _
  have hk0 : Kept w ((w.alloc (.cells #[.int .i64 0, .int .i64 127, .int .i64 31, .int .i64 15, .int .i64 7] 3)).drewN nq) := below_drewN ((Below.refl _ w).alloc (Nat.le_refl _) _) nq
  have HK0 := Lib.hid hk0
  have HA : Hid (bits .and .i64 (wrap64 (s[0].toNat : Int)) mk = runV s.data.toList (partN n) 0) := by
    show _ = _
    rw [IntWalk.wrap64_in _ (by have := s[0].toNat_lt; omega), hand]
    unfold runV
    rw [oct_at s 0 hs]
  clear hcell hand hk0 hz hne hne2 b1
  go_wp2
  go_loop [6, 7] (fun c i => ∃ k : Nat, 1 ≤ k ∧ k ≤ n ∧ i = .int .i64 (k : Int) ∧ c = .int .i64 (runV s.data.toList (partN n) (k - 1)) ∧ Hid (∀ j, 1 ≤ j → j < k → 128 ≤ oct s.data.toList j ∧ oct s.data.toList j ≤ 191)) (fun _ i => n - (intOf i).toNat)
  case atStart => exact ⟨1, Nat.le_refl _, h1, rfl, by rw [HA.out], fun j hj1 hj2 => absurd hj1 (by omega)⟩
  case round =>
    obtain ⟨k, hk1, hk2, rfl, rfl, hcont⟩ := hrel
    have hbd := runV_bound s.data.toList (partN n) (partN_b n).1 (partN_b n).2 (k - 1) (by omega) (fun j hj1 hj2 => hcont.out j hj1 (by omega))
    by_cases hlt : k < n
    · have hks : k < s.size := by omega
      have ho := oct_at s k hks
      have hb : (s[k].toNat : Int) ≤ 255 := by have := s[k].toNat_lt; omega
      rcases (show (s[k].toNat : Int) < 128 ∨ 191 < (s[k].toNat : Int) ∨ (128 ≤ (s[k].toNat : Int) ∧ (s[k].toNat : Int) ≤ 191) by omega) with hx | hx | ⟨hx1, hx2⟩
      · have E := Lib.hid (dec_broken s.data.toList hlne k hk1 (by rw [← HN.out]; exact hlt) (by rw [ho]; omega))
        clear ho
        go_wp2
        go_ret2
        rw [E.out]
        exact ⟨rfl, HK0.out⟩
      · have E := Lib.hid (dec_broken s.data.toList hlne k hk1 (by rw [← HN.out]; exact hlt) (by rw [ho]; omega))
        have d1 : decide ((s[k].toNat : Int) < 128) = false := by simp; omega
        clear ho
        go_wp2
        go_ret2
        rw [E.out]
        exact ⟨rfl, HK0.out⟩
      · have d1 : decide ((s[k].toNat : Int) < 128) = false := by simp; omega
        have d2 : decide (191 < (s[k].toNat : Int)) = false := by simp; omega
        have E : Hid (runV s.data.toList (partN n) (k - 1) * 64 + (s[k].toNat : Int) - 128 = runV s.data.toList (partN n) k) := by
          show _ = _
          obtain ⟨k', rfl⟩ : ∃ k', k = k' + 1 := ⟨k - 1, by omega⟩
          rw [Nat.add_sub_cancel]
          show _ = runV s.data.toList (partN n) k' * 64 + (oct s.data.toList (k' + 1) : Int) - 128
          rw [ho]
        have HC : Hid (∀ j, 1 ≤ j → j < k + 1 → 128 ≤ oct s.data.toList j ∧ oct s.data.toList j ≤ 191) := fun j hj1 hj2 => by
          by_cases e : j = k
          · subst e; rw [ho]; omega
          · exact hcont.out j hj1 (by omega)
        clear ho
        go_wp2
        go_round
        case rel => exact ⟨k + 1, by omega, by omega, by go_num, by rw [Nat.add_sub_cancel, ← E.out], HC⟩
        case measure => simp [intOf]; omega
    · obtain rfl : k = n := by omega
      clear hcont hlt
      have hno := dec_no s.data.toList hlne
      rw [← HN.out] at hno
      have hyes := fun hc h => dec_yes s.data.toList (runV s.data.toList (partN k) (k - 1)) hc (by rw [← HN.out]; exact h)
      rw [← HN.out] at hyes
      have HNO := Lib.hid hno
      have HYES := Lib.hid hyes
      clear hno hyes
      generalize runV s.data.toList (partN k) (k - 1) = v at hbd HNO HYES
      cases hc : charB v with
      | false =>
        have henc := fun w => rencode_no v w hc
        have E := Lib.hid (HNO.out (fun h => of_decide_eq_false hc h.1))
        clear HNO HYES hc
        go_wp2_with fail
        refine (henc _).mono ?_
        rintro e w1 ⟨rfl, hb1⟩
        have HB := Lib.hid (kept_trans HK0.out hb1)
        clear hb1 henc
        go_wp2
        go_ret2
        rw [E.out]
        exact ⟨rfl, HB.out⟩
      | true =>
        have henc := fun w => rencode_yes v w hc
        obtain ⟨t, ht⟩ : ∃ t, t = S (encodeRune v) := ⟨_, rfl⟩
        rw [← ht] at henc
        by_cases heq : s.data.toList.take k = encodeRune v
        · have E := Lib.hid (HYES.out (of_decide_eq_true hc) heq)
          have q1 : (t.toList == (s.extract 0 k).toList) = true := by
            rw [str_beq, decide_eq_true_eq, ht, ← S_list (s.extract 0 k), cut_take, heq]
          have q2 : (t.toList != (s.extract 0 k).toList) = false := by rw [bne, q1]; rfl
          clear HNO HYES hc heq ht
          go_wp2_with fail
          refine (henc _).mono ?_
          rintro e w1 ⟨rfl, hb1⟩
          have HB := Lib.hid (kept_trans HK0.out hb1)
          clear hb1 henc
          go_wp2
          go_ret2
          rw [E.out]
          exact ⟨rfl, HB.out⟩
        · have E := Lib.hid (HNO.out (fun h => heq h.2))
          have q1 : (t.toList == (s.extract 0 k).toList) = false := by
            rw [str_beq, decide_eq_false_iff_not, ht]
            intro e; apply heq; rw [← cut_take, ← e, list_S]
          have q2 : (t.toList != (s.extract 0 k).toList) = true := by rw [bne, q1]; rfl
          clear HNO HYES hc heq ht
          go_wp2_with fail
          refine (henc _).mono ?_
          rintro e w1 ⟨rfl, hb1⟩
          have HB := Lib.hid (kept_trans HK0.out hb1)
          clear hb1 henc
          go_wp2
          go_ret2
          rw [E.out]
          exact ⟨rfl, HB.out⟩

theorem rdecode_c (s : ByteArray) (hm : s.size ≤ 4611686018427387904) (w : World) :
    Calls Tryz.prog 66 #[.string s] w fun e w' => e = .returned (.tuple #[.int .i64 (dec s.data.toList).1, .int .i64 ((dec s.data.toList).2 : Nat)]) ∧ Kept w w' := by
  by_cases h0 : s.size = 0
  · have hl : s.data.toList = [] := List.eq_nil_of_length_eq_zero (by rw [size_list]; exact h0)
    rw [hl, dec_nil]
    exact rdecode_nil s h0 w
  · have hl : s.data.toList ≠ [] := by intro e; apply h0; rw [← size_list, e]; rfl
    by_cases h : sizeN (oct s.data.toList 0) = 0 ∨ s.size < sizeN (oct s.data.toList 0)
    · rw [dec_short s.data.toList hl (by rw [size_list]; exact h)]
      exact rdecode_short s (by omega) hm w h
    · exact rdecode_main s hm w _ rfl (by omega) (by omega)
end Go.Proofs.YtgfbednfiejlfaaGreatDoor.Utf

/-
  Contract of the page's Chars: the characters of a text, as they are repaired, in a list of its own.
-/
namespace Go.Proofs.YtgfbednfiejlfaaGreatDoor.Utf
open Go.RowKit Go.Proofs.YtgfbednfiejlfaaGreatDoor.Oct Go.Proofs.YtgfbednfiejlfaaGreatDoor.Mem
open Go.Lib (encodeRune encodeRuneZ)

theorem chars_step (l : List UInt8) (hl : l ≠ []) : chars l = fix (dec l).1 :: chars (l.drop (dec l).2) := by
  unfold chars
  rw [parts_step l hl, List.map_cons]
theorem chars_nil : chars [] = [] := rfl
theorem drop_ne (s : ByteArray) (a : Nat) (h : a < s.size) : s.data.toList.drop a ≠ [] := by
  intro e; have := congrArg List.length e; rw [List.length_drop, size_list] at this; simp at this; omega
theorem drop_nil (s : ByteArray) (a : Nat) (h : s.size ≤ a) : s.data.toList.drop a = [] := List.drop_eq_nil_of_le (by rw [size_list]; exact h)

theorem fix_low {c : Int} (h : c = -1 ∨ isChar c) (hc : c ≤ 0) : fix c = 65533 := by
  unfold fix; rw [if_pos]; unfold isChar at h; omega
theorem fix_high {c : Int} (hc : 0 < c) : fix c = c := by
  unfold fix; rw [if_neg]; omega

set_option maxHeartbeats 4000000 in
theorem rchars_c (s : ByteArray) (hs : s.size ≤ 17592186044416) (w : World) :
    Calls Tryz.prog 47 #[.string s] w fun e w' => ∃ v, e = .returned v ∧ w'.ownsRow w.heap.size 3 1 v (chars s.data.toList).length ((chars s.data.toList).map iv) ∧ Kept w w' := by
  obtain ⟨i0, hi, hz0, hz1, hz2⟩ := info_parts info_int
  go_enter Tryz.func47, Tryz.ntmps47
  go_wp2
  go_loopw [3, 4, 5, 6] (fun v i _ _ wr => ∃ (a n : Nat) (pre : List Int), a ≤ s.size ∧ n ≤ a ∧ i = .int .i64 a ∧ Hid (pre ++ chars (s.data.toList.drop a) = chars s.data.toList) ∧ Hid (wr.ownsRow w.heap.size 3 1 v n (pre.map iv)) ∧ Hid (Kept w wr)) (fun _ i _ _ _ => s.size - (intOf i).toNat)
  case atStart => exact ⟨0, 0, [], Nat.zero_le _, Nat.le_refl _, rfl, rfl, World.ownsRow_nil _ _ _ _, Below.refl _ _⟩
  case round =>
    obtain ⟨a, n, pre, ha, hna, rfl, hv, hrow, hb⟩ := hrel
    by_cases hlt : a < s.size
    · have hsz : (s.extract a s.size).size ≤ 4611686018427387904 := by rw [← size_list, cut_list, List.length_drop, size_list]; omega
      have hd := rdecode_c (s.extract a s.size) hsz wr
      rw [cut_list] at hd
      have hne := drop_ne s a hlt
      have hw := dec_width _ hne
      rw [List.length_drop, size_list] at hw
      have hc := dec_char _ hne
      have hst := Lib.hid (chars_step _ hne)
      rw [List.drop_drop] at hst
      clear hne hsz
      generalize dec (s.data.toList.drop a) = d at hd hw hc hst
      obtain ⟨c, k⟩ := d
      simp only at hd hw hc
      have hst' : Hid (chars (s.data.toList.drop a) = fix c :: chars (s.data.toList.drop (a + k))) := hst
      clear hst
      have HC := Lib.hid hc
      clear hc
      go_wp2_with fail
      refine hd.mono ?_
      rintro e w1 ⟨rfl, hb1⟩
      have HB1 := Lib.hid (kept_trans hb.out hb1)
      have HR1 : Hid (w1.ownsRow w.heap.size 3 1 _ n (pre.map iv)) := own_kept hrow.out hb1
      have hB : w.heap.size ≤ w1.heap.size := HB1.out.size
      clear hb1 hd hb hrow
      by_cases hc0 : c ≤ 0
      · have hfx := Lib.hid (fix_low HC.out hc0)
        go_wp2_with (at_builtin; refine wpList_append_own _ rfl _ _ 75 rfl w.heap.size 3 i0 (.int .i64 0) 1 8 Tryz.underlying75 hi hz0 hz1 hz2 rfl (by decide) _ _ _ rfl (HR1.out.alloc _) ⟨w1.heap.size, 0, none⟩ 1 1 [iv 65533] rfl rfl (cell_one_new _ _ _) (by simp [Value.oneCell']) (by unfold maxLen; omega) (by omega) (by simp; omega) ?_)
        intro v' w2 hown hg _
        have HO := Lib.hid hown
        have HB2 : Hid (Kept w w2) := (HB1.out.alloc hB _).grown hg (by simp; omega) (own_base HR1.out)
        clear hown hg HR1 HB1
        go_wp2
        go_roundw
        case rel =>
          refine ⟨a + k, n + 1, pre ++ [65533], by omega, by omega, by go_num, ?_, ?_, HB2⟩
          · show _ = _
            rw [← hv.out, hst'.out, hfx.out]; simp
          · show World.ownsRow _ _ _ _ _ _ _
            rw [List.map_append]; exact HO.out
        case measure => simp [intOf]; omega
      · have hc1 : 0 < c := by omega
        have hfx := Lib.hid (fix_high hc1)
        have d0 : decide (c ≤ 0) = false := by simp; omega
        go_wp2_with (at_builtin; refine wpList_append_own _ rfl _ _ 75 rfl w.heap.size 3 i0 (.int .i64 0) 1 8 Tryz.underlying75 hi hz0 hz1 hz2 rfl (by decide) _ _ _ rfl (HR1.out.alloc _) ⟨w1.heap.size, 0, none⟩ 1 1 [iv c] rfl rfl (cell_one_new _ _ _) (by simp [Value.oneCell']) (by unfold maxLen; omega) (by omega) (by simp; omega) ?_)
        intro v' w2 hown hg _
        have HO := Lib.hid hown
        have HB2 : Hid (Kept w w2) := (HB1.out.alloc hB _).grown hg (by simp; omega) (own_base HR1.out)
        clear hown hg HR1 HB1
        go_wp2
        go_roundw
        case rel =>
          refine ⟨a + k, n + 1, pre ++ [c], by omega, by omega, by go_num, ?_, ?_, HB2⟩
          · show _ = _
            rw [← hv.out, hst'.out, hfx.out]; simp
          · show World.ownsRow _ _ _ _ _ _ _
            rw [List.map_append]; exact HO.out
        case measure => simp [intOf]; omega
    · have hfin : Hid (pre = chars s.data.toList) := by
        show _ = _
        rw [← hv.out, drop_nil s a (by omega), chars_nil, List.append_nil]
      go_wp2
      go_ret
      refine ⟨_, rfl, ?_, hb.out⟩
      have hr := hrow.out
      have hn : pre.length = n := by simpa using hr.1
      rw [← hfin.out, hn]
      exact hr
end Go.Proofs.YtgfbednfiejlfaaGreatDoor.Utf

/-
  Contracts of the page's Bare, Inside and Quote: a text as a literal.
-/
namespace Go.Proofs.YtgfbednfiejlfaaGreatDoor.Lit
open Go.RowKit Go.Proofs.YtgfbednfiejlfaaGreatDoor.Oct Go.Proofs.YtgfbednfiejlfaaGreatDoor.Num Go.Proofs.YtgfbednfiejlfaaGreatDoor.Utf Go.Proofs.YtgfbednfiejlfaaGreatDoor.Val Go.Proofs.YtgfbednfiejlfaaGreatDoor.Mem

set_option maxHeartbeats 2000000 in
theorem bare_c (c : Int) (w : World) (h0 : 0 ≤ c) (h1 : c ≤ 1114111) : Calls Tryz.prog 48 #[.int .i64 c] w fun e w' => e = .returned (.bool (bareB c)) ∧ w = w' := by
  by_cases h128 : c < 128
  · have hu : IntKind.u8.wrap c = c := by rw [IntKind.wrap_u8]; omega
    have hl := rletter_c c w h0 (by omega)
    have hd := rdigit_c c w h0 (by omega)
    cases el : letterI c with
    | true =>
      rw [el] at hl
      have F : Hid (bareB c = true) := by show _ = _; simp [letterI] at el; simp [bareB]; omega
      clear el
      go_enter Tryz.func48, Tryz.ntmps48
      go_wp2_with (go_at_call 67; refine hl.mono ?_; rintro e w' ⟨rfl, rfl⟩)
      go_ret
      exact ⟨by rw [F.out]; rfl, rfl⟩
    | false =>
      rw [el] at hl
      cases ed : digitI c with
      | true =>
        rw [ed] at hd
        have F : Hid (bareB c = true) := by show _ = _; simp [digitI] at ed; simp [bareB]; omega
        clear el ed
        go_enter Tryz.func48, Tryz.ntmps48
        go_wp2_with (first | (go_at_call 67; refine hl.mono ?_; rintro e w' ⟨rfl, rfl⟩) | (go_at_call 68; refine hd.mono ?_; rintro e w' ⟨rfl, rfl⟩))
        go_ret
        exact ⟨by rw [F.out]; rfl, rfl⟩
      | false =>
        rw [ed] at hd
        have F : Hid (bareB c = ((c == 32) || (c == 95) || (c == 46) || (c == 44))) := by
          show _ = _
          simp [digitI] at ed; simp [letterI] at el
          rw [Bool.eq_iff_iff]; simp [bareB]; omega
        clear el ed
        obtain ⟨b1, e1⟩ : ∃ b, (c == 32) = b := ⟨_, rfl⟩
        obtain ⟨b2, e2⟩ : ∃ b, (c == 95) = b := ⟨_, rfl⟩
        obtain ⟨b3, e3⟩ : ∃ b, (c == 46) = b := ⟨_, rfl⟩
        obtain ⟨b4, e4⟩ : ∃ b, (c == 44) = b := ⟨_, rfl⟩
        rw [e1, e2, e3, e4] at F
        cases b1 <;> cases b2 <;> cases b3 <;> cases b4
        all_goals
          go_enter Tryz.func48, Tryz.ntmps48
          go_wp2_with (first | (go_at_call 67; refine hl.mono ?_; rintro e w' ⟨rfl, rfl⟩) | (go_at_call 68; refine hd.mono ?_; rintro e w' ⟨rfl, rfl⟩))
          go_ret
          exact ⟨by rw [F.out]; rfl, rfl⟩
  · have F : Hid (bareB c = false) := by show _ = _; simp [bareB]; omega
    have hd : decide (c < 128) = false := by simp; omega
    go_enter Tryz.func48, Tryz.ntmps48
    go_wp2
    go_ret
    exact ⟨by rw [F.out]; rfl, rfl⟩

/-- Four digits. -/
def hex4 (n : Int) : ByteArray := S (hexL (u64 n) 4)
theorem hex4_size (n : Int) : (hex4 n).size = 4 := by rw [hex4, size_S, hexL_length]
theorem hex4_c (n : Int) (w : World) : Calls Tryz.prog 49 #[.int .i64 n, .int .i64 4] w fun e w' => e = .returned (.string (hex4 n)) ∧ w = w' := rhex_c n 4 w
theorem esc_hex (n : Int) (m : Nat) (h : n = (m : Int)) (hm : m < 18446744073709551616) (o : List UInt8) : S o ++ (⟨#[92, 117]⟩ : ByteArray) ++ hex4 n = S (o ++ escL m) := by
  subst h
  have e : u64 (m : Int) = m := by unfold u64; omega
  rw [show (⟨#[92, 117]⟩ : ByteArray) = S [92, 117] from rfl, S_append, hex4, e, S_append, escL, List.append_assoc]

set_option maxHeartbeats 4000000 in
set_option maxRecDepth 100000 in
theorem inside_c (s : ByteArray) (w : World) (hs : s.size ≤ 17592186044416) (hb : (insideL (chars s.data.toList)).length ≤ 17592186044416) :
    Calls Tryz.prog 31 #[.string s] w fun e w' => e = .returned (.string (S (insideL (chars s.data.toList)))) ∧ Kept w w' := by
  have hcall := rchars_c s hs w
  have hch := Lib.hid (chars_char s.data.toList)
  obtain ⟨cs, hcs⟩ : ∃ cs, chars s.data.toList = cs := ⟨_, rfl⟩
  rw [hcs] at hcall hch hb ⊢
  have HT := Lib.hid (fun k => insideL_take cs k)
  have hn := insideL_len cs
  have hx4 := hex4_size
  clear hcs
  go_enter Tryz.func31, Tryz.ntmps31
  go_wp2_with fail
  refine hcall.mono ?_
  rintro e w1 ⟨v, rfl, hown, hk1⟩
  clear hcall
  obtain ⟨lp, lc, rfl⟩ : ∃ lp lc, v = .slice lp cs.length lc := by
    rcases hown.2 with ⟨rfl, h⟩ | ⟨g, cap, cur, rfl, _⟩
    · exact ⟨none, 0, by rw [h]⟩
    · exact ⟨_, _, rfl⟩
  obtain ⟨n, hnn⟩ : ∃ n, cs.length = n := ⟨_, rfl⟩
  have hbn : n ≤ 17592186044416 := by omega
  have HB := Lib.hid hb
  have HO := Lib.hid (And.intro hown hk1)
  clear hown hk1 hb hn
  rw [hnn]
  go_wp2_with fail
  go_loopw [3, 5, 6, 7] (fun o i _ _ wr => ∃ k : Nat, k ≤ n ∧ o = .string (S (insideL (cs.take k))) ∧ i = .int .i64 k ∧ Hid (Kept w1 wr)) (fun _ i _ _ _ => n - (intOf i).toNat)
  case atStart => exact ⟨0, Nat.zero_le _, rfl, rfl, Below.refl _ _⟩
  case round =>
    obtain ⟨k, hk, rfl, rfl, hkr⟩ := hrel
    by_cases hlt : k < n
    · have hkl : k < cs.length := by omega
      have hown := Go.Proofs.YtgfbednfiejlfaaGreatDoor.Mem.own_kept HO.out.1 hkr.out
      rw [hnn] at hown
      obtain ⟨g, rfl⟩ : ∃ g, lp = some ⟨g, 0, none⟩ := by
        rcases hown.2 with ⟨_, h⟩ | ⟨g, cap, cur, hv, _⟩
        · omega
        · simp at hv; exact ⟨g, hv.1⟩
      have hcell : wr.cell? ⟨g, k, none⟩ = some (.int .i64 cs[k]) := by
        rw [hown.cellAt k (by omega)]
        simp [hkl]
      have hcc := hch.out cs[k] (List.getElem_mem _)
      have hnext : Hid (∀ x, S (insideL (cs.take k)) ++ x = S (insideL (cs.take k) ++ charL cs[k]) → S (insideL (cs.take k)) ++ x = S (insideL (cs.take (k + 1)))) := fun x hx => by
        rw [hx, List.take_succ_eq_append_getElem hkl, insideL_snoc]
      have hol : (S (insideL (cs.take k))).size ≤ 17592186044416 := by rw [size_S]; exact Nat.le_trans (HT.out k) HB.out
      have hN : Hid (∀ m, m = S (insideL (cs.take k) ++ charL cs[k]) → m = S (insideL (cs.take (k + 1)))) := fun m hm => by
        rw [hm, List.take_succ_eq_append_getElem hkl, insideL_snoc]
      have hnm := hcell
      obtain ⟨c, hcE⟩ : ∃ c, cs[k] = c := ⟨_, rfl⟩
      rw [hcE] at hcell hcc hN
      have hc0 : 0 ≤ c := by have := hcc.1; unfold isChar at this; omega
      have hc1 : c ≤ 1114111 := by have := hcc.1; unfold isChar at this; omega
      have hbare := bare_c c wr hc0 hc1
      have h1 : (0 : Int) ≤ (k : Int) := by omega
      have h2 : (k : Int) < (n : Int) := by omega
      clear hcc hnm hnext hcE hown hkl
      cases hq : bareB c with
      | true =>
        rw [hq] at hbare
        have hu : IntKind.u8.wrap c = c := by rw [IntKind.wrap_u8]; simp [bareB] at hq; omega
        have hc9 : 0 ≤ c ∧ c < 256 := by simp [bareB] at hq; omega
        have hcv : (convert 59 9 (.slice (some ⟨wr.heap.size, 0, none⟩) 1 1)).run Tryz.prog (wr.alloc (.cells #[.int .u8 c] 5)) = .ok (.string (S [c.toNat.toUInt8])) (wr.alloc (.cells #[.int .u8 c] 5)) := conv_new wr [c] (fun x hx => by simp at hx; subst hx; exact hc9)
        have F : Hid (S (insideL (cs.take k)) ++ S [c.toNat.toUInt8] = S (insideL (cs.take (k + 1)))) := hN.out _ (by rw [S_append]; unfold charL; rw [if_pos hq])
        have hxl : (S [c.toNat.toUInt8]).size = 1 := by rw [size_S]; rfl
        generalize S [c.toNat.toUInt8] = x at hcv F hxl
        generalize S (insideL (cs.take k)) = o at hol F
        clear hq hN hc9
        go_wp2_with (go_at_call 48; refine hbare.mono ?_; rintro e w' ⟨rfl, rfl⟩)
        go_roundw
        case rel => exact ⟨k + 1, by omega, by rw [F.out], by go_num, hkr.out.alloc (by have := hkr.out.size; omega) _⟩
        case measure => simp [intOf]; omega
      | false =>
        rw [hq] at hbare
        by_cases hbig : 65536 ≤ c
        · have F : Hid (∀ n1 n2 : Int, n1 = ((55296 + (c - 65536).toNat / 1024 : Nat) : Int) → n2 = ((56320 + (c - 65536).toNat % 1024 : Nat) : Int) → S (insideL (cs.take k)) ++ (⟨#[92, 117]⟩ : ByteArray) ++ hex4 n1 ++ (⟨#[92, 117]⟩ : ByteArray) ++ hex4 n2 = S (insideL (cs.take (k + 1)))) := fun n1 n2 e1 e2 => hN.out _ (by
            rw [esc_hex n1 _ e1 (by omega), esc_hex n2 _ e2 (by omega)]
            unfold charL
            rw [if_neg (by simp [hq]), if_pos hbig, List.append_assoc])
          generalize S (insideL (cs.take k)) = o at hol F
          have s1 : (⟨#[92, 117]⟩ : ByteArray).size = 2 := rfl
          clear hq hN
          go_wp2_with (first | (go_at_call 48; refine hbare.mono ?_; rintro e w' ⟨rfl, rfl⟩) | (go_at_call 49; refine (hex4_c _ _).mono ?_; rintro e w' ⟨rfl, rfl⟩))
          go_roundw
          case rel => exact ⟨k + 1, by omega, congrArg Value.string (F.out _ _ (by omega) (by omega)), by go_num, hkr⟩
          case measure => simp [intOf]; omega
        · have F : Hid (S (insideL (cs.take k)) ++ (⟨#[92, 117]⟩ : ByteArray) ++ hex4 c = S (insideL (cs.take (k + 1)))) := hN.out _ (by
            rw [esc_hex c c.toNat (by omega) (by omega)]
            unfold charL
            rw [if_neg (by simp [hq]), if_neg hbig])
          generalize S (insideL (cs.take k)) = o at hol F
          have s1 : (⟨#[92, 117]⟩ : ByteArray).size = 2 := rfl
          clear hq hN
          go_wp2_with (first | (go_at_call 48; refine hbare.mono ?_; rintro e w' ⟨rfl, rfl⟩) | (go_at_call 49; refine (hex4_c _ _).mono ?_; rintro e w' ⟨rfl, rfl⟩))
          go_roundw
          case rel => exact ⟨k + 1, by omega, by rw [← F.out], by go_num, hkr⟩
          case measure => simp [intOf]; omega
    · have hkn : k = n := by omega
      have F : Hid (cs.take k = cs) := List.take_of_length_le (by omega)
      go_wp2
      go_ret
      exact ⟨by rw [F.out]; rfl, kept_trans HO.out.2 hkr.out⟩
end Go.Proofs.YtgfbednfiejlfaaGreatDoor.Lit

/-
  Contract of the page's Print of a number: its digits; it changes nothing.
-/
namespace Go.Proofs.YtgfbednfiejlfaaGreatDoor.Num
open Go.RowKit Go.Proofs.YtgfbednfiejlfaaGreatDoor.Oct

theorem digit_cut (d : Nat) (h : d < 10) : (⟨#[48, 49, 50, 51, 52, 53, 54, 55, 56, 57]⟩ : ByteArray).extract d (d + 1) = S [dig d] := by
  have : ∀ d : Fin 10, (⟨#[48, 49, 50, 51, 52, 53, 54, 55, 56, 57]⟩ : ByteArray).extract d.val (d.val + 1) = S [dig d.val] := by decide +kernel
  exact this ⟨d, h⟩

theorem digit_slice (d : Nat) (h : d < 10) (w : World) :
    (Instr.slice 9 (.string ⟨#[48, 49, 50, 51, 52, 53, 54, 55, 56, 57]⟩) (some (.int .i64 (d : Int))) (some (.int .i64 ((d : Int) + 1))) none).run Tryz.prog w = .ok (.string (S [dig d])) w := by
  have h16 : (⟨#[48, 49, 50, 51, 52, 53, 54, 55, 56, 57]⟩ : ByteArray).size = 10 := rfl
  rw [← digit_cut d h]
  generalize (⟨#[48, 49, 50, 51, 52, 53, 54, 55, 56, 57]⟩ : ByteArray) = s at h16
  have e1 : ((d : Int) + 1).toNat = d + 1 := by omega
  rw [run_slice_string w _ s .i64 .i64 (d : Int) ((d : Int) + 1) Tryz.underlying9 (by omega) (by omega) (by omega), e1, Int.toNat_natCast]

theorem ret_str {a b : ByteArray} (h : a = b) : Ending.returned (.string a) = .returned (.string b) := by rw [h]
theorem S_minus (l : List UInt8) : (⟨#[45]⟩ : ByteArray) ++ S l = S (45 :: l) := S_append [45] l

set_option maxHeartbeats 1000000 in
theorem rprint_c (n : Int) (w : World) (h0 : -9223372036854775808 ≤ n) (h1 : n ≤ 9223372036854775807) :
    Calls Tryz.prog 20 #[.int .i64 n] w fun e w' => e = .returned (.string (S (printL n))) ∧ w = w' := by
  have HL : Hid ((decL n.natAbs).length ≤ 19) := by show _ ≤ _; rw [decL_len]; exact lowL_len (by omega)
  by_cases hn : n < 0
  all_goals
    go_enter Tryz.func20, Tryz.ntmps20
    go_wp2
    go_loop [3, 4, 5] (fun u o _ => ∃ (v : Nat) (l : List UInt8), u = .int .u64 (v : Int) ∧ o = .string (S l) ∧ v < 10000000000000000000 ∧ Hid (decL v ++ l = decL n.natAbs)) (fun u _ _ => (intOf u).toNat)
    case atStart =>
      refine ⟨n.natAbs, [], ?_, rfl, by omega, List.append_nil _⟩
      congr 1
      try simp only [IntKind.wrap_u64]
      omega
    case round =>
      obtain ⟨v, l, rfl, rfl, hv, hl⟩ := hrel
      have hll : l.length ≤ 19 := by have := congrArg List.length hl.out; rw [List.length_append] at this; have := HL.out; omega
      have hol : (S l).size ≤ 19 := by rw [size_S]; exact hll
      by_cases hlt : 10 ≤ v
      · have hnext : Hid (S [dig (v % 10)] ++ S l = S (dig (v % 10) :: l)) := S_append _ _
        have hE : Hid (decL (v / 10) ++ (dig (v % 10) :: l) = decL n.natAbs) := by
          show _ = _
          rw [← hl.out, decL_ge hlt, List.append_assoc]
          rfl
        obtain ⟨d, hd⟩ : ∃ d, v % 10 = d := ⟨_, rfl⟩
        have hdI : (v : Int) % 10 = (d : Int) := by omega
        have hd10 : d < 10 := by omega
        rw [hd] at hnext hE
        have hcut := digit_slice d hd10
        have hxl : (S [dig d]).size ≤ 1 := by rw [size_S]; simp
        generalize S [dig d] = x at hnext hcut hxl
        generalize S l = o at hnext hol
        clear hd hl
        go_wp2
        go_round
        case rel => exact ⟨v / 10, dig d :: l, by go_num, by rw [hnext.out], by omega, hE⟩
        case measure => simp [intOf]; omega
      · have hnext : Hid (S [dig v] ++ S l = S (decL n.natAbs)) := by show _ = _; rw [S_append, ← hl.out, decL_lt (by omega)]
        have hcut := digit_slice v (by omega)
        have hxl : (S [dig v]).size ≤ 1 := by rw [size_S]; simp
        have hout : (S (decL n.natAbs)).size ≤ 19 := by rw [size_S]; exact HL.out
        have F : Hid (printL n = if n < 0 then 45 :: decL n.natAbs else decL n.natAbs) := rfl
        generalize S [dig v] = x at hnext hcut hxl
        generalize S l = o at hnext hol
        clear hl
        go_wp2
        go_ret
        exact ⟨ret_str (by rw [hnext.out, F.out]; first | rw [S_minus, if_pos hn] | rw [if_neg (by omega)]), rfl⟩
end Go.Proofs.YtgfbednfiejlfaaGreatDoor.Num

/-
  Contracts of the page's Quote, Print at null and truths, and Literal: a value as a script's literal.
-/
namespace Go.Proofs.YtgfbednfiejlfaaGreatDoor.Lit
open Go.RowKit Go.Proofs.YtgfbednfiejlfaaGreatDoor.Oct Go.Proofs.YtgfbednfiejlfaaGreatDoor.Num Go.Proofs.YtgfbednfiejlfaaGreatDoor.Utf Go.Proofs.YtgfbednfiejlfaaGreatDoor.Val Go.Proofs.YtgfbednfiejlfaaGreatDoor.Mem

theorem quote_c (s : ByteArray) (w : World) (hb : (quoteL s).length ≤ 4398046511104) : Calls Tryz.prog 21 #[.string s] w fun e w' => e = .returned (.string (S (quoteL s))) ∧ Kept w w' := by
  have hw := quoteL_wide s
  have hl : (insideL (chars s.data.toList)).length ≤ 4398046511104 := by simp [quoteL] at hb; omega
  have hc := inside_c s w (by omega) (by omega)
  have F : Hid ((⟨#[34]⟩ : ByteArray) ++ S (insideL (chars s.data.toList)) ++ ⟨#[34]⟩ = S (quoteL s)) := by
    show _ = _
    rw [show (⟨#[34]⟩ : ByteArray) = S [34] from rfl, S_append, S_append]; rfl
  have hz : (S (insideL (chars s.data.toList))).size ≤ 4398046511104 := by rw [size_S]; exact hl
  generalize S (insideL (chars s.data.toList)) = x at hc F hz
  have s1 : (⟨#[34]⟩ : ByteArray).size = 1 := rfl
  clear hl hb hw
  go_enter Tryz.func21, Tryz.ntmps21
  go_wp2_with (go_at_call 31; refine hc.mono ?_; rintro e w1 ⟨rfl, h1⟩)
  go_ret
  exact ⟨by rw [← F.out]; rfl, h1⟩

theorem kindPrint_c (k : Int) (t : List UInt8) (hk : (k = 0 ∧ t = [110, 117, 108, 108]) ∨ (k = 1 ∧ t = [102, 97, 108, 115, 101]) ∨ (k = 2 ∧ t = [116, 114, 117, 101])) (w : World) :
    Calls Tryz.prog 19 #[.agg #[.int .i64 k, .int .i64 0, .string ⟨#[]⟩, .slice none 0 0, .slice none 0 0]] w fun e w' => e = .returned (.string (S t)) ∧ Below w.heap.size w w' := by
  rcases hk with ⟨rfl, rfl⟩ | ⟨rfl, rfl⟩ | ⟨rfl, rfl⟩
  all_goals
    go_enter Tryz.func19, Tryz.ntmps19
    go_wp2
    go_ret
    exact ⟨rfl, (Below.refl _ w).alloc (Nat.le_refl _) _⟩

theorem parts5 {C : Cond} {w : World} {u0 u1 u2 u3 u4 : Value} {x : V} (h : Holds C w (.agg #[u0, u1, u2, u3, u4]) x) : ∃ k n s p a b q c d, u0 = .int .i64 k ∧ u1 = .int .i64 n ∧ u2 = .string s ∧ u3 = .slice p a b ∧ u4 = .slice q c d := by
  cases h with
  | mk k n s p cap K l ks b off c hr hp hc hK hl =>
    obtain ⟨q, qc, qb, qo, rfl, _⟩ := hK
    exact ⟨k, n, s, p, _, _, q, _, _, rfl, rfl, rfl, rfl, rfl⟩

theorem join_item (r : Bool) (ks : List ByteArray) (l : List V) {j : Nat} (h : j < l.length) : (litL l[j]).length ≤ (joinK r ks (litAll l) (litAll l).length).length ∧ (keyAt r ks j).length ≤ (joinK r ks (litAll l) (litAll l).length).length ∧ (joinK r ks (litAll l) j).length ≤ (joinK r ks (litAll l) (litAll l).length).length := by
  have h1 := joinK_le r ks (litAll l) (show j + 1 ≤ (litAll l).length by rw [litAll_len]; omega)
  simp only [joinK, List.length_append, litAll_at l j h] at h1
  omega
theorem join_step (r : Bool) (ks : List ByteArray) (l : List V) {j : Nat} (h : j < l.length) : joinK r ks (litAll l) (j + 1) = joinK r ks (litAll l) j ++ ((if j = 0 then [] else [44]) ++ (keyAt r ks j ++ litL l[j])) := by
  simp only [joinK, litAll_at l j h]
theorem key_none {ks : List ByteArray} {j : Nat} (h : ks.length ≤ j) : keyAt true ks j = [] := by simp [keyAt, List.getElem?_eq_none h]
theorem key_some {ks : List ByteArray} {j : Nat} (h : j < ks.length) : keyAt true ks j = quoteL ks[j] ++ [58] := by simp [keyAt, h]
end Go.Proofs.YtgfbednfiejlfaaGreatDoor.Lit

/-
  Contract of the page's Literal at a list.
-/
namespace Go.Proofs.YtgfbednfiejlfaaGreatDoor.Lit
open Go.RowKit Go.Proofs.YtgfbednfiejlfaaGreatDoor.Oct Go.Proofs.YtgfbednfiejlfaaGreatDoor.Num Go.Proofs.YtgfbednfiejlfaaGreatDoor.Utf Go.Proofs.YtgfbednfiejlfaaGreatDoor.Val Go.Proofs.YtgfbednfiejlfaaGreatDoor.Mem

set_option maxHeartbeats 8000000 in
set_option maxRecDepth 100000 in
theorem rlit_5 (n : Int) (s : ByteArray) (p : Option Addr) (cap : Nat) (q : Option Addr) (qc : Nat) (l : List V) (ks : List ByteArray) (bl off qb qo : Nat) (k1 n1 : Nat → Int) (s1 : Nat → ByteArray) (p1 q1 : Nat → Option Addr) (a1 b1 c1 d1 : Nat → Nat) (W : World)
    (hlen : (joinK false ks (litAll l) (litAll l).length).length ≤ 4398046511104) (hl80 : l.length * 80 ≤ 140737488351232) (hk16 : ks.length * 16 ≤ 140737488351232)
    (hp : 0 < l.length → p = some ⟨bl, off, none⟩ ∧ bl < W.heap.size) (hq : 0 < ks.length → q = some ⟨qb, qo, none⟩ ∧ qb < W.heap.size)
    (hc : ∀ i, i < l.length → W.cell? ⟨bl, off + i * 5, none⟩ = some (.int .i64 (k1 i)) ∧ W.cell? ⟨bl, off + i * 5 + 1, none⟩ = some (.int .i64 (n1 i)) ∧ W.cell? ⟨bl, off + i * 5 + 2, none⟩ = some (.string (s1 i)) ∧ W.cell? ⟨bl, off + i * 5 + 3, none⟩ = some (.slice (p1 i) (a1 i) (b1 i)) ∧ W.cell? ⟨bl, off + i * 5 + 4, none⟩ = some (.slice (q1 i) (c1 i) (d1 i)))
    (hcq : ∀ i (h : i < ks.length), W.cell? ⟨qb, qo + i, none⟩ = some (.string ks[i]))
    (ih : ∀ i (h : i < l.length) (X : World), Below W.heap.size W X → (litL l[i]).length ≤ 4398046511104 → Calls Tryz.prog 9 #[.agg #[.int .i64 (k1 i), .int .i64 (n1 i), .string (s1 i), .slice (p1 i) (a1 i) (b1 i), .slice (q1 i) (c1 i) (d1 i)]] X fun e X' => e = .returned (.string (S (litL l[i]))) ∧ Kept X X') :
    Calls Tryz.prog 9 #[.agg #[.int .i64 5, .int .i64 n, .string s, .slice p l.length cap, .slice q ks.length qc]] W fun e W' => e = .returned (.string (S (brackL 91 93 (joinK false ks (litAll l) (litAll l).length)))) ∧ Kept W W' := by
  have B0 : Below W.heap.size W (W.alloc (.cells #[.int .i64 5, .int .i64 n, .string s, .slice p l.length cap, .slice q ks.length qc] 26)) := (Below.refl _ W).alloc (Nat.le_refl _) _
  obtain ⟨W1, hW1⟩ : ∃ W1, W1 = W.alloc (.cells #[.int .i64 5, .int .i64 n, .string s, .slice p l.length cap, .slice q ks.length qc] 26) := ⟨_, rfl⟩
  have HBX : Hid (∀ X, Kept W1 X → X.cell? ⟨W.heap.size, 0, none⟩ = some (.int .i64 5) ∧ X.cell? ⟨W.heap.size, 1, none⟩ = some (.int .i64 n) ∧ X.cell? ⟨W.heap.size, 2, none⟩ = some (.string s) ∧ X.cell? ⟨W.heap.size, 3, none⟩ = some (.slice p l.length cap) ∧ X.cell? ⟨W.heap.size, 4, none⟩ = some (.slice q ks.length qc)) := fun X hX => by
    have e : X.heap[W.heap.size]? = some (.cells #[.int .i64 5, .int .i64 n, .string s, .slice p l.length cap, .slice q ks.length qc] 26 (0, 0)) := (hX.block _ (by rw [hW1]; simp)).trans (by rw [hW1]; exact heap_alloc_new W _)
    exact ⟨cell_of_row X _ 0 _ _ _ e, cell_of_row X _ 1 _ _ _ e, cell_of_row X _ 2 _ _ _ e, cell_of_row X _ 3 _ _ _ e, cell_of_row X _ 4 _ _ _ e⟩
  have hWX : ∀ X, Kept W1 X → Below W.heap.size W X := fun X hX => (hW1 ▸ B0).trans (hX.mono (by rw [hW1]; simp))
  have HE : Hid (∀ X, Kept W1 X → ∀ j (h : j < l.length), (litL l[j]).length ≤ 4398046511104 →
      (X.cell? ⟨bl, off + j * 5, none⟩ = some (.int .i64 (k1 j)) ∧ X.cell? ⟨bl, off + j * 5 + 1, none⟩ = some (.int .i64 (n1 j)) ∧ X.cell? ⟨bl, off + j * 5 + 2, none⟩ = some (.string (s1 j)) ∧ X.cell? ⟨bl, off + j * 5 + 3, none⟩ = some (.slice (p1 j) (a1 j) (b1 j)) ∧ X.cell? ⟨bl, off + j * 5 + 4, none⟩ = some (.slice (q1 j) (c1 j) (d1 j))) ∧
      Calls Tryz.prog 9 #[.agg #[.int .i64 (k1 j), .int .i64 (n1 j), .string (s1 j), .slice (p1 j) (a1 j) (b1 j), .slice (q1 j) (c1 j) (d1 j)]] X fun e X' => e = .returned (.string (S (litL l[j]))) ∧ Kept X X') := fun X hX j h hz => by
    have e : ∀ o, X.cell? ⟨bl, o, none⟩ = W.cell? ⟨bl, o, none⟩ := fun o => (hWX X hX).cell (p := ⟨bl, o, none⟩) (hp (by omega)).2
    rw [e, e, e, e, e]
    exact ⟨hc j h, ih j h X (hWX X hX) hz⟩
  have HK : Hid (∀ X, Kept W1 X → ∀ j (h : j < ks.length), (quoteL ks[j]).length ≤ 4398046511104 → X.cell? ⟨qb, qo + j, none⟩ = some (.string ks[j]) ∧ Calls Tryz.prog 21 #[.string ks[j]] X fun e w' => e = .returned (.string (S (quoteL ks[j]))) ∧ Kept X w') := fun X hX j h hz =>
    ⟨((hWX X hX).cell (p := ⟨qb, qo + j, none⟩) (hq (by omega)).2).trans (hcq j h), quote_c ks[j] X hz⟩
  have HP := Lib.hid hp
  have HQ := Lib.hid hq
  have HW := Lib.hid hWX
  clear hp hq hc hcq ih hWX
  go_enter Tryz.func9, Tryz.ntmps9
  go_wp2_with fail
  rw [← hW1]
  clear hW1 B0
  go_loopw [3, 4] (fun o i wr => ∃ j : Nat, j ≤ l.length ∧ o = .string (S (joinK false ks (litAll l) j)) ∧ i = .int .i64 j ∧ Hid (Kept W1 wr)) (fun _ i _ => l.length - (intOf i).toNat)
  case atStart => exact ⟨0, Nat.zero_le _, rfl, rfl, Below.refl _ _⟩
  case round =>
    obtain ⟨j, hj, rfl, rfl, hb⟩ := hrel
    by_cases hlt : j < l.length
    · by_cases hj0 : j = 0
      · have F : Hid (S (joinK false ks (litAll l) j) ++ S (litL l[j]) = S (joinK false ks (litAll l) (j + 1))) := by
          show _ = _
          rw [join_step _ ks l hlt, if_pos hj0]
          simp only [S_append]
          simp [keyAt]
        have hi3 := join_item false ks l hlt
        have ho : (S (joinK false ks (litAll l) j)).size ≤ 4398046511104 := by rw [size_S]; omega
        have hi : (S (litL l[j])).size ≤ 4398046511104 := by rw [size_S]; omega
        obtain ⟨⟨e0, e1, e2, e3, e4⟩, hcall⟩ := HE.out wr hb.out j hlt (by omega)
        obtain ⟨rfl, -⟩ := HP.out (by omega)
        obtain ⟨x0, -, -, x3, x4⟩ := HBX.out wr hb.out
        have h1 : (0 : Int) ≤ (j : Int) := by omega
        have h2 : (j : Int) < (l.length : Int) := by omega
        have hj1 : j = 0 := by omega
        generalize S (litL l[j]) = x at F hi hcall
        generalize S (joinK false ks (litAll l) j) = o at F ho
        have s1 : (⟨#[44]⟩ : ByteArray).size = 1 := rfl
        have s2 : (⟨#[58]⟩ : ByteArray).size = 1 := rfl
        clear hi3
        subst hj1
        rw [Nat.zero_mul, Nat.add_zero] at e0 e1 e2 e3 e4
        go_wp2_with (go_at_call 9; refine hcall.mono ?_; rintro e Z ⟨rfl, hZ⟩)
        go_roundw
        case rel => exact ⟨0 + 1, by omega, congrArg Value.string F.out, by go_num, kept_trans hb.out hZ⟩
        case measure => simp [intOf]; omega
      · have F : Hid (S (joinK false ks (litAll l) j) ++ (⟨#[44]⟩ : ByteArray) ++ S (litL l[j]) = S (joinK false ks (litAll l) (j + 1))) := by
          show _ = _
          rw [join_step _ ks l hlt, if_neg hj0]
          simp only [show (⟨#[44]⟩ : ByteArray) = S [44] from rfl, S_append]
          simp [keyAt]
        have hi3 := join_item false ks l hlt
        have ho : (S (joinK false ks (litAll l) j)).size ≤ 4398046511104 := by rw [size_S]; omega
        have hi : (S (litL l[j])).size ≤ 4398046511104 := by rw [size_S]; omega
        obtain ⟨⟨e0, e1, e2, e3, e4⟩, hcall⟩ := HE.out wr hb.out j hlt (by omega)
        obtain ⟨rfl, -⟩ := HP.out (by omega)
        obtain ⟨x0, -, -, x3, x4⟩ := HBX.out wr hb.out
        have h1 : (0 : Int) ≤ (j : Int) := by omega
        have h2 : (j : Int) < (l.length : Int) := by omega
        have hj1 : (0 : Int) < (j : Int) := by omega
        generalize S (litL l[j]) = x at F hi hcall
        generalize S (joinK false ks (litAll l) j) = o at F ho
        have s1 : (⟨#[44]⟩ : ByteArray).size = 1 := rfl
        have s2 : (⟨#[58]⟩ : ByteArray).size = 1 := rfl
        clear hi3
        go_wp2_with (go_at_call 9; refine hcall.mono ?_; rintro e Z ⟨rfl, hZ⟩)
        go_roundw
        case rel => exact ⟨j + 1, by omega, congrArg Value.string F.out, by go_num, kept_trans hb.out hZ⟩
        case measure => simp [intOf]; omega
    · have hjl : j = l.length := by omega
      subst hjl
      obtain ⟨x0, -, -, x3, x4⟩ := HBX.out wr hb.out
      have F : Hid ((⟨#[91]⟩ : ByteArray) ++ S (joinK false ks (litAll l) l.length) ++ (⟨#[93]⟩ : ByteArray) = S (brackL 91 93 (joinK false ks (litAll l) (litAll l).length))) := by
        show _ = _
        rw [litAll_len, show (⟨#[91]⟩ : ByteArray) = S [91] from rfl, show (⟨#[93]⟩ : ByteArray) = S [93] from rfl, S_append, S_append]; rfl
      have ho : (S (joinK false ks (litAll l) l.length)).size ≤ 4398046511104 := by rw [size_S]; rw [litAll_len] at hlen; exact hlen
      generalize S (joinK false ks (litAll l) l.length) = o at F ho
      have s1 : (⟨#[91]⟩ : ByteArray).size = 1 := rfl
      have s2 : (⟨#[93]⟩ : ByteArray).size = 1 := rfl
      go_wp2
      go_ret
      exact ⟨by rw [← F.out]; rfl, HW.out wr hb.out⟩
end Go.Proofs.YtgfbednfiejlfaaGreatDoor.Lit

/-
  Contract of the page's Literal at a record.
-/
namespace Go.Proofs.YtgfbednfiejlfaaGreatDoor.Lit
open Go.RowKit Go.Proofs.YtgfbednfiejlfaaGreatDoor.Oct Go.Proofs.YtgfbednfiejlfaaGreatDoor.Num Go.Proofs.YtgfbednfiejlfaaGreatDoor.Utf Go.Proofs.YtgfbednfiejlfaaGreatDoor.Val Go.Proofs.YtgfbednfiejlfaaGreatDoor.Mem

set_option maxHeartbeats 8000000 in
set_option maxRecDepth 100000 in
theorem rlit_6 (n : Int) (s : ByteArray) (p : Option Addr) (cap : Nat) (q : Option Addr) (qc : Nat) (l : List V) (ks : List ByteArray) (bl off qb qo : Nat) (k1 n1 : Nat → Int) (s1 : Nat → ByteArray) (p1 q1 : Nat → Option Addr) (a1 b1 c1 d1 : Nat → Nat) (W : World)
    (hlen : (joinK true ks (litAll l) (litAll l).length).length ≤ 4398046511104) (hl80 : l.length * 80 ≤ 140737488351232) (hk16 : ks.length * 16 ≤ 140737488351232)
    (hp : 0 < l.length → p = some ⟨bl, off, none⟩ ∧ bl < W.heap.size) (hq : 0 < ks.length → q = some ⟨qb, qo, none⟩ ∧ qb < W.heap.size)
    (hc : ∀ i, i < l.length → W.cell? ⟨bl, off + i * 5, none⟩ = some (.int .i64 (k1 i)) ∧ W.cell? ⟨bl, off + i * 5 + 1, none⟩ = some (.int .i64 (n1 i)) ∧ W.cell? ⟨bl, off + i * 5 + 2, none⟩ = some (.string (s1 i)) ∧ W.cell? ⟨bl, off + i * 5 + 3, none⟩ = some (.slice (p1 i) (a1 i) (b1 i)) ∧ W.cell? ⟨bl, off + i * 5 + 4, none⟩ = some (.slice (q1 i) (c1 i) (d1 i)))
    (hcq : ∀ i (h : i < ks.length), W.cell? ⟨qb, qo + i, none⟩ = some (.string ks[i]))
    (ih : ∀ i (h : i < l.length) (X : World), Below W.heap.size W X → (litL l[i]).length ≤ 4398046511104 → Calls Tryz.prog 9 #[.agg #[.int .i64 (k1 i), .int .i64 (n1 i), .string (s1 i), .slice (p1 i) (a1 i) (b1 i), .slice (q1 i) (c1 i) (d1 i)]] X fun e X' => e = .returned (.string (S (litL l[i]))) ∧ Kept X X') :
    Calls Tryz.prog 9 #[.agg #[.int .i64 6, .int .i64 n, .string s, .slice p l.length cap, .slice q ks.length qc]] W fun e W' => e = .returned (.string (S (brackL 123 125 (joinK true ks (litAll l) (litAll l).length)))) ∧ Kept W W' := by
  have B0 : Below W.heap.size W (W.alloc (.cells #[.int .i64 6, .int .i64 n, .string s, .slice p l.length cap, .slice q ks.length qc] 26)) := (Below.refl _ W).alloc (Nat.le_refl _) _
  obtain ⟨W1, hW1⟩ : ∃ W1, W1 = W.alloc (.cells #[.int .i64 6, .int .i64 n, .string s, .slice p l.length cap, .slice q ks.length qc] 26) := ⟨_, rfl⟩
  have HBX : Hid (∀ X, Kept W1 X → X.cell? ⟨W.heap.size, 0, none⟩ = some (.int .i64 6) ∧ X.cell? ⟨W.heap.size, 1, none⟩ = some (.int .i64 n) ∧ X.cell? ⟨W.heap.size, 2, none⟩ = some (.string s) ∧ X.cell? ⟨W.heap.size, 3, none⟩ = some (.slice p l.length cap) ∧ X.cell? ⟨W.heap.size, 4, none⟩ = some (.slice q ks.length qc)) := fun X hX => by
    have e : X.heap[W.heap.size]? = some (.cells #[.int .i64 6, .int .i64 n, .string s, .slice p l.length cap, .slice q ks.length qc] 26 (0, 0)) := (hX.block _ (by rw [hW1]; simp)).trans (by rw [hW1]; exact heap_alloc_new W _)
    exact ⟨cell_of_row X _ 0 _ _ _ e, cell_of_row X _ 1 _ _ _ e, cell_of_row X _ 2 _ _ _ e, cell_of_row X _ 3 _ _ _ e, cell_of_row X _ 4 _ _ _ e⟩
  have hWX : ∀ X, Kept W1 X → Below W.heap.size W X := fun X hX => (hW1 ▸ B0).trans (hX.mono (by rw [hW1]; simp))
  have HE : Hid (∀ X, Kept W1 X → ∀ j (h : j < l.length), (litL l[j]).length ≤ 4398046511104 →
      (X.cell? ⟨bl, off + j * 5, none⟩ = some (.int .i64 (k1 j)) ∧ X.cell? ⟨bl, off + j * 5 + 1, none⟩ = some (.int .i64 (n1 j)) ∧ X.cell? ⟨bl, off + j * 5 + 2, none⟩ = some (.string (s1 j)) ∧ X.cell? ⟨bl, off + j * 5 + 3, none⟩ = some (.slice (p1 j) (a1 j) (b1 j)) ∧ X.cell? ⟨bl, off + j * 5 + 4, none⟩ = some (.slice (q1 j) (c1 j) (d1 j))) ∧
      Calls Tryz.prog 9 #[.agg #[.int .i64 (k1 j), .int .i64 (n1 j), .string (s1 j), .slice (p1 j) (a1 j) (b1 j), .slice (q1 j) (c1 j) (d1 j)]] X fun e X' => e = .returned (.string (S (litL l[j]))) ∧ Kept X X') := fun X hX j h hz => by
    have e : ∀ o, X.cell? ⟨bl, o, none⟩ = W.cell? ⟨bl, o, none⟩ := fun o => (hWX X hX).cell (p := ⟨bl, o, none⟩) (hp (by omega)).2
    rw [e, e, e, e, e]
    exact ⟨hc j h, ih j h X (hWX X hX) hz⟩
  have HK : Hid (∀ X, Kept W1 X → ∀ j (h : j < ks.length), (quoteL ks[j]).length ≤ 4398046511104 → X.cell? ⟨qb, qo + j, none⟩ = some (.string ks[j]) ∧ Calls Tryz.prog 21 #[.string ks[j]] X fun e w' => e = .returned (.string (S (quoteL ks[j]))) ∧ Kept X w') := fun X hX j h hz =>
    ⟨((hWX X hX).cell (p := ⟨qb, qo + j, none⟩) (hq (by omega)).2).trans (hcq j h), quote_c ks[j] X hz⟩
  have HP := Lib.hid hp
  have HQ := Lib.hid hq
  have HW := Lib.hid hWX
  clear hp hq hc hcq ih hWX
  go_enter Tryz.func9, Tryz.ntmps9
  go_wp2_with fail
  rw [← hW1]
  clear hW1 B0
  go_loopw [3, 4] (fun o i wr => ∃ j : Nat, j ≤ l.length ∧ o = .string (S (joinK true ks (litAll l) j)) ∧ i = .int .i64 j ∧ Hid (Kept W1 wr)) (fun _ i _ => l.length - (intOf i).toNat)
  case atStart => exact ⟨0, Nat.zero_le _, rfl, rfl, Below.refl _ _⟩
  case round =>
    obtain ⟨j, hj, rfl, rfl, hb⟩ := hrel
    by_cases hlt : j < l.length
    · by_cases hj0 : j = 0
      · by_cases hky : j < ks.length
        · have F : Hid (S (joinK true ks (litAll l) j) ++ S (quoteL ks[j]) ++ (⟨#[58]⟩ : ByteArray) ++ S (litL l[j]) = S (joinK true ks (litAll l) (j + 1))) := by
            show _ = _
            rw [join_step _ ks l hlt, if_pos hj0, key_some hky]
            simp only [show (⟨#[58]⟩ : ByteArray) = S [58] from rfl, S_append]
            simp
          have hi3 := join_item true ks l hlt
          have ho : (S (joinK true ks (litAll l) j)).size ≤ 4398046511104 := by rw [size_S]; omega
          have hi : (S (litL l[j])).size ≤ 4398046511104 := by rw [size_S]; omega
          have hkl : (quoteL ks[j]).length ≤ 4398046511104 := by have := hi3.2.1; rw [key_some hky, List.length_append] at this; omega
          have hkz : (S (quoteL ks[j])).size ≤ 4398046511104 := by rw [size_S]; exact hkl
          obtain ⟨y4, kq⟩ := HK.out wr hb.out j hky hkl
          obtain ⟨rfl, -⟩ := HQ.out (by omega)
          have HI := Lib.hid (fun Y (hY : Kept wr Y) => HE.out Y (kept_trans hb.out hY) j hlt (by omega))
          generalize S (quoteL ks[j]) = kx at F kq hkz
          generalize ks[j] = key at kq y4
          obtain ⟨rfl, -⟩ := HP.out (by omega)
          obtain ⟨x0, -, -, x3, x4⟩ := HBX.out wr hb.out
          have h1 : (0 : Int) ≤ (j : Int) := by omega
          have h2 : (j : Int) < (l.length : Int) := by omega
          have hj1 : j = 0 := by omega
          have hky2 : (j : Int) < (ks.length : Int) := by omega
          generalize S (litL l[j]) = x at F hi HI
          generalize S (joinK true ks (litAll l) j) = o at F ho
          have s1 : (⟨#[44]⟩ : ByteArray).size = 1 := rfl
          have s2 : (⟨#[58]⟩ : ByteArray).size = 1 := rfl
          clear hi3
          subst hj1
          rw [Nat.add_zero] at y4
          go_wp2_with (first | (go_at_call 21; refine kq.mono ?_; rintro e Y ⟨rfl, hY⟩; obtain ⟨⟨e0, e1, e2, e3, e4⟩, hcall⟩ := HI.out Y hY; rw [Nat.zero_mul, Nat.add_zero] at e0 e1 e2 e3 e4; obtain ⟨-, -, -, z3, -⟩ := HBX.out Y (kept_trans hb.out hY); have HY := Lib.hid hY; clear hY) | (go_at_call 9; refine hcall.mono ?_; rintro e Z ⟨rfl, hZ⟩))
          go_roundw
          case rel => exact ⟨0 + 1, by omega, congrArg Value.string F.out, by go_num, kept_trans hb.out (kept_trans HY.out hZ)⟩
          case measure => simp [intOf]; omega
        · have F : Hid (S (joinK true ks (litAll l) j) ++ S (litL l[j]) = S (joinK true ks (litAll l) (j + 1))) := by
            show _ = _
            rw [join_step _ ks l hlt, if_pos hj0, key_none (by omega)]
            simp only [S_append]
            simp
          have hi3 := join_item true ks l hlt
          have ho : (S (joinK true ks (litAll l) j)).size ≤ 4398046511104 := by rw [size_S]; omega
          have hi : (S (litL l[j])).size ≤ 4398046511104 := by rw [size_S]; omega
          obtain ⟨⟨e0, e1, e2, e3, e4⟩, hcall⟩ := HE.out wr hb.out j hlt (by omega)
          obtain ⟨rfl, -⟩ := HP.out (by omega)
          obtain ⟨x0, -, -, x3, x4⟩ := HBX.out wr hb.out
          have h1 : (0 : Int) ≤ (j : Int) := by omega
          have h2 : (j : Int) < (l.length : Int) := by omega
          have hj1 : j = 0 := by omega
          have hky2 : decide ((j : Int) < (ks.length : Int)) = false := by simp; omega
          generalize S (litL l[j]) = x at F hi hcall
          generalize S (joinK true ks (litAll l) j) = o at F ho
          have s1 : (⟨#[44]⟩ : ByteArray).size = 1 := rfl
          have s2 : (⟨#[58]⟩ : ByteArray).size = 1 := rfl
          clear hi3
          subst hj1
          rw [Nat.zero_mul, Nat.add_zero] at e0 e1 e2 e3 e4
          go_wp2_with (go_at_call 9; refine hcall.mono ?_; rintro e Z ⟨rfl, hZ⟩)
          go_roundw
          case rel => exact ⟨0 + 1, by omega, congrArg Value.string F.out, by go_num, kept_trans hb.out hZ⟩
          case measure => simp [intOf]; omega
      · by_cases hky : j < ks.length
        · have F : Hid (S (joinK true ks (litAll l) j) ++ (⟨#[44]⟩ : ByteArray) ++ S (quoteL ks[j]) ++ (⟨#[58]⟩ : ByteArray) ++ S (litL l[j]) = S (joinK true ks (litAll l) (j + 1))) := by
            show _ = _
            rw [join_step _ ks l hlt, if_neg hj0, key_some hky]
            simp only [show (⟨#[44]⟩ : ByteArray) = S [44] from rfl, show (⟨#[58]⟩ : ByteArray) = S [58] from rfl, S_append]
            simp
          have hi3 := join_item true ks l hlt
          have ho : (S (joinK true ks (litAll l) j)).size ≤ 4398046511104 := by rw [size_S]; omega
          have hi : (S (litL l[j])).size ≤ 4398046511104 := by rw [size_S]; omega
          have hkl : (quoteL ks[j]).length ≤ 4398046511104 := by have := hi3.2.1; rw [key_some hky, List.length_append] at this; omega
          have hkz : (S (quoteL ks[j])).size ≤ 4398046511104 := by rw [size_S]; exact hkl
          obtain ⟨y4, kq⟩ := HK.out wr hb.out j hky hkl
          obtain ⟨rfl, -⟩ := HQ.out (by omega)
          have HI := Lib.hid (fun Y (hY : Kept wr Y) => HE.out Y (kept_trans hb.out hY) j hlt (by omega))
          generalize S (quoteL ks[j]) = kx at F kq hkz
          generalize ks[j] = key at kq y4
          obtain ⟨rfl, -⟩ := HP.out (by omega)
          obtain ⟨x0, -, -, x3, x4⟩ := HBX.out wr hb.out
          have h1 : (0 : Int) ≤ (j : Int) := by omega
          have h2 : (j : Int) < (l.length : Int) := by omega
          have hj1 : (0 : Int) < (j : Int) := by omega
          have hky2 : (j : Int) < (ks.length : Int) := by omega
          generalize S (litL l[j]) = x at F hi HI
          generalize S (joinK true ks (litAll l) j) = o at F ho
          have s1 : (⟨#[44]⟩ : ByteArray).size = 1 := rfl
          have s2 : (⟨#[58]⟩ : ByteArray).size = 1 := rfl
          clear hi3
          go_wp2_with (first | (go_at_call 21; refine kq.mono ?_; rintro e Y ⟨rfl, hY⟩; obtain ⟨⟨e0, e1, e2, e3, e4⟩, hcall⟩ := HI.out Y hY; obtain ⟨-, -, -, z3, -⟩ := HBX.out Y (kept_trans hb.out hY); have HY := Lib.hid hY; clear hY) | (go_at_call 9; refine hcall.mono ?_; rintro e Z ⟨rfl, hZ⟩))
          go_roundw
          case rel => exact ⟨j + 1, by omega, congrArg Value.string F.out, by go_num, kept_trans hb.out (kept_trans HY.out hZ)⟩
          case measure => simp [intOf]; omega
        · have F : Hid (S (joinK true ks (litAll l) j) ++ (⟨#[44]⟩ : ByteArray) ++ S (litL l[j]) = S (joinK true ks (litAll l) (j + 1))) := by
            show _ = _
            rw [join_step _ ks l hlt, if_neg hj0, key_none (by omega)]
            simp only [show (⟨#[44]⟩ : ByteArray) = S [44] from rfl, S_append]
            simp
          have hi3 := join_item true ks l hlt
          have ho : (S (joinK true ks (litAll l) j)).size ≤ 4398046511104 := by rw [size_S]; omega
          have hi : (S (litL l[j])).size ≤ 4398046511104 := by rw [size_S]; omega
          obtain ⟨⟨e0, e1, e2, e3, e4⟩, hcall⟩ := HE.out wr hb.out j hlt (by omega)
          obtain ⟨rfl, -⟩ := HP.out (by omega)
          obtain ⟨x0, -, -, x3, x4⟩ := HBX.out wr hb.out
          have h1 : (0 : Int) ≤ (j : Int) := by omega
          have h2 : (j : Int) < (l.length : Int) := by omega
          have hj1 : (0 : Int) < (j : Int) := by omega
          have hky2 : decide ((j : Int) < (ks.length : Int)) = false := by simp; omega
          generalize S (litL l[j]) = x at F hi hcall
          generalize S (joinK true ks (litAll l) j) = o at F ho
          have s1 : (⟨#[44]⟩ : ByteArray).size = 1 := rfl
          have s2 : (⟨#[58]⟩ : ByteArray).size = 1 := rfl
          clear hi3
          go_wp2_with (go_at_call 9; refine hcall.mono ?_; rintro e Z ⟨rfl, hZ⟩)
          go_roundw
          case rel => exact ⟨j + 1, by omega, congrArg Value.string F.out, by go_num, kept_trans hb.out hZ⟩
          case measure => simp [intOf]; omega
    · have hjl : j = l.length := by omega
      subst hjl
      obtain ⟨x0, -, -, x3, x4⟩ := HBX.out wr hb.out
      have F : Hid ((⟨#[123]⟩ : ByteArray) ++ S (joinK true ks (litAll l) l.length) ++ (⟨#[125]⟩ : ByteArray) = S (brackL 123 125 (joinK true ks (litAll l) (litAll l).length))) := by
        show _ = _
        rw [litAll_len, show (⟨#[123]⟩ : ByteArray) = S [123] from rfl, show (⟨#[125]⟩ : ByteArray) = S [125] from rfl, S_append, S_append]; rfl
      have ho : (S (joinK true ks (litAll l) l.length)).size ≤ 4398046511104 := by rw [size_S]; rw [litAll_len] at hlen; exact hlen
      generalize S (joinK true ks (litAll l) l.length) = o at F ho
      have s1 : (⟨#[123]⟩ : ByteArray).size = 1 := rfl
      have s2 : (⟨#[125]⟩ : ByteArray).size = 1 := rfl
      go_wp2
      go_ret
      exact ⟨by rw [← F.out]; rfl, HW.out wr hb.out⟩
end Go.Proofs.YtgfbednfiejlfaaGreatDoor.Lit

/-
  Contracts of the page's Literal and Plain at every value that reads as a tree.
-/
namespace Go.Proofs.YtgfbednfiejlfaaGreatDoor.Lit
open Go.RowKit Go.Proofs.YtgfbednfiejlfaaGreatDoor.Oct Go.Proofs.YtgfbednfiejlfaaGreatDoor.Num Go.Proofs.YtgfbednfiejlfaaGreatDoor.Utf Go.Proofs.YtgfbednfiejlfaaGreatDoor.Val Go.Proofs.YtgfbednfiejlfaaGreatDoor.Mem

def gI : Value → Int
  | .int _ k => k
  | _ => 0
def gS : Value → ByteArray
  | .string s => s
  | _ => ⟨#[]⟩
def gP : Value → Option Addr
  | .slice p _ _ => p
  | _ => none
def gA : Value → Nat
  | .slice _ a _ => a
  | _ => 0
def gB : Value → Nat
  | .slice _ _ b => b
  | _ => 0
theorem forms {C : Cond} {w : World} {u0 u1 u2 u3 u4 : Value} {x : V} (h : Holds C w (.agg #[u0, u1, u2, u3, u4]) x) : u0 = .int .i64 (gI u0) ∧ u1 = .int .i64 (gI u1) ∧ u2 = .string (gS u2) ∧ u3 = .slice (gP u3) (gA u3) (gB u3) ∧ u4 = .slice (gP u4) (gA u4) (gB u4) := by
  obtain ⟨k, n, s, p, a, b, q, c, d, rfl, rfl, rfl, rfl, rfl⟩ := parts5 h
  exact ⟨rfl, rfl, rfl, rfl, rfl⟩

set_option maxHeartbeats 4000000 in
set_option maxRecDepth 100000 in
theorem rlit_c (N : Nat) (w : World) {a : Value} {x : V} (ha : Holds (Old N) w a x) : ∀ (W : World), N ≤ W.heap.size → Below N w W → (litL x).length ≤ 4398046511104 →
    Calls Tryz.prog 9 #[a] W fun e W' => e = .returned (.string (S (litL x))) ∧ Kept W W' := by
  induction ha with
  | mk k n s p cap K l ks bl off c hr hp hc hK hl ih =>
    intro W hN hW hlen
    obtain ⟨q, qc, qb, qo, rfl, ⟨hq1, -⟩, hq2, hq3⟩ := hK
    have hb0 : ∀ o, Below W.heap.size W (W.alloc o) := fun o => (Below.refl _ W).alloc (Nat.le_refl _) _
    by_cases h012 : k = 0 ∨ k = 1 ∨ k = 2
    · obtain ⟨t, ht, F⟩ : ∃ t, ((k = 0 ∧ t = [110, 117, 108, 108]) ∨ (k = 1 ∧ t = [102, 97, 108, 115, 101]) ∨ (k = 2 ∧ t = [116, 114, 117, 101])) ∧ Hid (litL (.mk k n s l ks) = t) := by
        rcases h012 with rfl | rfl | rfl
        · exact ⟨_, .inl ⟨rfl, rfl⟩, by show _ = _; simp [litL]⟩
        · exact ⟨_, .inr (.inl ⟨rfl, rfl⟩), by show _ = _; simp [litL]⟩
        · exact ⟨_, .inr (.inr ⟨rfl, rfl⟩), by show _ = _; simp [litL]⟩
      have hc9 := kindPrint_c k t ht (W.alloc (.cells #[.int .i64 k, .int .i64 n, .string s, .slice p l.length cap, .slice q ks.length qc] 26))
      have HB0 := Lib.hid hb0
      clear hp hc hl ih hq2 hq3 hr hlen hb0 ht
      rw [F.out]
      clear F
      generalize S t = T at hc9
      rcases h012 with rfl | rfl | rfl
      all_goals
        go_enter Tryz.func9, Tryz.ntmps9
        go_wp2_with (go_at_call 19; refine hc9.mono ?_; rintro e w1 ⟨rfl, h1⟩)
        go_ret
        exact ⟨rfl, kept_trans (HB0.out _) h1⟩
    · by_cases h3 : k = 3
      · subst h3
        have hpz : (S (printL n)).size ≤ 20 := by
          have := lowL_len (u := n.natAbs) (by omega)
          rw [← decL_len] at this
          rw [size_S]
          unfold printL
          split
          · simp; omega
          · omega
        have hpr := rprint_c n (W.alloc (.cells #[.int .i64 3, .int .i64 n, .string s, .slice p l.length cap, .slice q ks.length qc] 26)) hr.2.2.1 hr.2.2.2.1
        have HB0 := Lib.hid hb0
        by_cases hneg : n < 0
        · have F : Hid ((⟨#[32]⟩ : ByteArray) ++ S (printL n) = S (litL (.mk 3 n s l ks))) := by
            show _ = _
            rw [show (⟨#[32]⟩ : ByteArray) = S [32] from rfl, S_append]
            simp [litL, hneg]
          clear hp hc hl ih hq2 hq3 hr hlen hb0 h012
          rw [← F.out]
          clear F
          generalize S (printL n) = T at hpr hpz
          have s1 : (⟨#[32]⟩ : ByteArray).size = 1 := rfl
          go_enter Tryz.func9, Tryz.ntmps9
          go_wp2_with (go_at_call 20; refine hpr.mono ?_; rintro e w1 ⟨rfl, rfl⟩)
          go_ret
          exact ⟨rfl, HB0.out _⟩
        · have F : Hid (S (printL n) = S (litL (.mk 3 n s l ks))) := by
            show _ = _
            simp [litL, hneg]
          clear hp hc hl ih hq2 hq3 hr hlen hb0 h012
          rw [← F.out]
          clear F
          generalize S (printL n) = T at hpr hpz
          go_enter Tryz.func9, Tryz.ntmps9
          go_wp2_with (go_at_call 20; refine hpr.mono ?_; rintro e w1 ⟨rfl, rfl⟩)
          go_ret
          exact ⟨rfl, HB0.out _⟩
      · have pre : (0 < l.length → p = some ⟨bl, off, none⟩ ∧ bl < W.heap.size) ∧ (0 < ks.length → q = some ⟨qb, qo, none⟩ ∧ qb < W.heap.size) :=
          ⟨fun h => ⟨(hp h).1, Nat.lt_of_lt_of_le (hp h).2 hN⟩, fun h => ⟨(hq2 h).1, Nat.lt_of_lt_of_le (hq2 h).2 hN⟩⟩
        have cells : ∀ i, i < l.length → W.cell? ⟨bl, off + i * 5, none⟩ = some (.int .i64 (gI (c i 0))) ∧ W.cell? ⟨bl, off + i * 5 + 1, none⟩ = some (.int .i64 (gI (c i 1))) ∧ W.cell? ⟨bl, off + i * 5 + 2, none⟩ = some (.string (gS (c i 2))) ∧ W.cell? ⟨bl, off + i * 5 + 3, none⟩ = some (.slice (gP (c i 3)) (gA (c i 3)) (gB (c i 3))) ∧ W.cell? ⟨bl, off + i * 5 + 4, none⟩ = some (.slice (gP (c i 4)) (gA (c i 4)) (gB (c i 4))) := fun i hi => by
          obtain ⟨f0, f1, f2, f3, f4⟩ := forms (hl i hi)
          have hcs : ∀ t, t < 5 → W.cell? ⟨bl, off + (i * 5 + t), none⟩ = some (c i t) := fun t ht => by rw [hW.cell (p := ⟨bl, off + (i * 5 + t), none⟩) (show bl < N from (hp (by omega)).2)]; exact hc i t hi ht
          exact ⟨(hcs 0 (by omega)).trans (congrArg some f0), (hcs 1 (by omega)).trans (congrArg some f1), (hcs 2 (by omega)).trans (congrArg some f2), (hcs 3 (by omega)).trans (congrArg some f3), (hcs 4 (by omega)).trans (congrArg some f4)⟩
        have keys : ∀ i (h : i < ks.length), W.cell? ⟨qb, qo + i, none⟩ = some (.string ks[i]) := fun i hi => by
          rw [hW.cell (p := ⟨qb, qo + i, none⟩) (show qb < N from (hq2 (by omega)).2)]
          exact hq3 i hi
        have inner : ∀ i (h : i < l.length) (X : World), Below W.heap.size W X → (litL l[i]).length ≤ 4398046511104 → Calls Tryz.prog 9 #[.agg #[.int .i64 (gI (c i 0)), .int .i64 (gI (c i 1)), .string (gS (c i 2)), .slice (gP (c i 3)) (gA (c i 3)) (gB (c i 3)), .slice (gP (c i 4)) (gA (c i 4)) (gB (c i 4))]] X fun e X' => e = .returned (.string (S (litL l[i]))) ∧ Kept X X' := fun i h X hX hz => by
          obtain ⟨f0, f1, f2, f3, f4⟩ := forms (hl i h)
          rw [← f0, ← f1, ← f2, ← f3, ← f4]
          exact ih i h X (Nat.le_trans hN hX.size) (hW.trans (hX.mono hN)) hz
        by_cases h5 : k = 5
        · subst h5
          have e : litL (.mk 5 n s l ks) = brackL 91 93 (joinK false ks (litAll l) (litAll l).length) := by simp [litL]
          rw [e] at hlen ⊢
          rw [brackL_len] at hlen
          exact rlit_5 n s p cap q qc l ks bl off qb qo _ _ _ _ _ _ _ _ _ W (by omega) hr.2.2.2.2.2 hq1 pre.1 pre.2 cells keys inner
        · by_cases h6 : k = 6
          · subst h6
            have e : litL (.mk 6 n s l ks) = brackL 123 125 (joinK true ks (litAll l) (litAll l).length) := by simp [litL]
            rw [e] at hlen ⊢
            rw [brackL_len] at hlen
            exact rlit_6 n s p cap q qc l ks bl off qb qo _ _ _ _ _ _ _ _ _ W (by omega) hr.2.2.2.2.2 hq1 pre.1 pre.2 cells keys inner
          · have e : litL (.mk k n s l ks) = quoteL s := by
              have : k ≠ 0 ∧ k ≠ 1 ∧ k ≠ 2 := by omega
              simp [litL, this, h3, h5, h6]
            rw [e] at hlen ⊢
            have hq := quote_c s (W.alloc (.cells #[.int .i64 k, .int .i64 n, .string s, .slice p l.length cap, .slice q ks.length qc] 26)) hlen
            have HB0 := Lib.hid hb0
            have d0 : (k == 0) = false := by simp; omega
            have d1 : (k == 1) = false := by simp; omega
            have d2 : (k == 2) = false := by simp; omega
            have d3 : (k == 3) = false := by simp; omega
            have d5 : (k == 5) = false := by simp; omega
            have d6 : (k == 6) = false := by simp; omega
            clear hp hc hl ih hq2 hq3 hr hlen hb0 h012 h3 h5 h6 pre cells keys inner e
            generalize S (quoteL s) = T at hq
            go_enter Tryz.func9, Tryz.ntmps9
            go_wp2_with (go_at_call 21; refine hq.mono ?_; rintro e w1 ⟨rfl, h1⟩)
            go_ret
            exact ⟨rfl, kept_trans (HB0.out _) h1⟩
end Go.Proofs.YtgfbednfiejlfaaGreatDoor.Lit

/-
  Contract of the page's Plain at every value that reads as a tree.
-/
namespace Go.Proofs.YtgfbednfiejlfaaGreatDoor.Lit
open Go.RowKit Go.Proofs.YtgfbednfiejlfaaGreatDoor.Oct Go.Proofs.YtgfbednfiejlfaaGreatDoor.Num Go.Proofs.YtgfbednfiejlfaaGreatDoor.Utf Go.Proofs.YtgfbednfiejlfaaGreatDoor.Val Go.Proofs.YtgfbednfiejlfaaGreatDoor.Mem

set_option maxHeartbeats 4000000 in
set_option maxRecDepth 100000 in
theorem rplain_c (N : Nat) (w : World) {a : Value} {x : V} (ha : Holds (Old N) w a x) : ∀ (W : World), N ≤ W.heap.size → Below N w W →
    Calls Tryz.prog 10 #[a] W fun e W' => e = .returned (.bool (plainV x)) ∧ Kept W W' := by
  induction ha with
  | mk k n s p cap K l ks bl off c hr hp hc hK hl ih =>
    intro W hN hW
    obtain ⟨q, qc, qb, qo, rfl, -, -, -⟩ := hK
    have E : Hid (plainV (.mk k n s l ks) = (l.all plainV && decide (k < 7))) := by show _ = _; rw [plainV, plainAll_eq]
    obtain ⟨W1, hW1⟩ : ∃ W1, W1 = W.alloc (.cells #[.int .i64 k, .int .i64 n, .string s, .slice p l.length cap, .slice q ks.length qc] 26) := ⟨_, rfl⟩
    have hWX : ∀ X, Kept W1 X → Below W.heap.size W X := fun X hX => (hW1 ▸ ((Below.refl _ W).alloc (Nat.le_refl _) _)).trans (hX.mono (by rw [hW1]; simp))
    have HBX : Hid (∀ X, Kept W1 X → X.cell? ⟨W.heap.size, 0, none⟩ = some (.int .i64 k) ∧ X.cell? ⟨W.heap.size, 3, none⟩ = some (.slice p l.length cap)) := fun X hX => by
      have e : X.heap[W.heap.size]? = some (.cells #[.int .i64 k, .int .i64 n, .string s, .slice p l.length cap, .slice q ks.length qc] 26 (0, 0)) := (hX.block _ (by rw [hW1]; simp)).trans (by rw [hW1]; exact heap_alloc_new W _)
      exact ⟨cell_of_row X _ 0 _ _ _ e, cell_of_row X _ 3 _ _ _ e⟩
    have HE : Hid (∀ X, Kept W1 X → ∀ j (h : j < l.length),
        (X.cell? ⟨bl, off + j * 5, none⟩ = some (.int .i64 (gI (c j 0))) ∧ X.cell? ⟨bl, off + j * 5 + 1, none⟩ = some (.int .i64 (gI (c j 1))) ∧ X.cell? ⟨bl, off + j * 5 + 2, none⟩ = some (.string (gS (c j 2))) ∧ X.cell? ⟨bl, off + j * 5 + 3, none⟩ = some (.slice (gP (c j 3)) (gA (c j 3)) (gB (c j 3))) ∧ X.cell? ⟨bl, off + j * 5 + 4, none⟩ = some (.slice (gP (c j 4)) (gA (c j 4)) (gB (c j 4)))) ∧
        Calls Tryz.prog 10 #[.agg #[.int .i64 (gI (c j 0)), .int .i64 (gI (c j 1)), .string (gS (c j 2)), .slice (gP (c j 3)) (gA (c j 3)) (gB (c j 3)), .slice (gP (c j 4)) (gA (c j 4)) (gB (c j 4))]] X fun e X' => e = .returned (.bool (plainV l[j])) ∧ Kept X X') := fun X hX j h => by
      obtain ⟨f0, f1, f2, f3, f4⟩ := forms (hl j h)
      have hwX : Below N w X := hW.trans ((hWX X hX).mono hN)
      have hcs : ∀ t, t < 5 → X.cell? ⟨bl, off + (j * 5 + t), none⟩ = some (c j t) := fun t ht => by rw [hwX.cell (p := ⟨bl, off + (j * 5 + t), none⟩) (show bl < N from (hp (by omega)).2)]; exact hc j t h ht
      refine ⟨⟨(hcs 0 (by omega)).trans (congrArg some f0), (hcs 1 (by omega)).trans (congrArg some f1), (hcs 2 (by omega)).trans (congrArg some f2), (hcs 3 (by omega)).trans (congrArg some f3), (hcs 4 (by omega)).trans (congrArg some f4)⟩, ?_⟩
      rw [← f0, ← f1, ← f2, ← f3, ← f4]
      exact ih j h X (Nat.le_trans hN (hWX X hX).size) hwX
    have HP := Lib.hid hp
    have HW := Lib.hid hWX
    have HR := Lib.hid hr
    have hl80 : l.length * 80 ≤ 140737488351232 := hr.2.2.2.2.2
    clear hp hc hl ih hWX hr
    go_enter Tryz.func10, Tryz.ntmps10
    go_wp2_with fail
    rw [← hW1]
    clear hW1
    go_loopw [3] (fun i wr => ∃ j : Nat, j ≤ l.length ∧ i = .int .i64 j ∧ Hid ((l.take j).all plainV = true) ∧ Hid (Kept W1 wr)) (fun i _ => l.length - (intOf i).toNat)
    case atStart => exact ⟨0, Nat.zero_le _, rfl, rfl, Below.refl _ _⟩
    case round =>
      obtain ⟨j, hj, rfl, hall, hb⟩ := hrel
      obtain ⟨x0, x3⟩ := HBX.out wr hb.out
      by_cases hlt : j < l.length
      · obtain ⟨⟨e0, e1, e2, e3, e4⟩, hcall⟩ := HE.out wr hb.out j hlt
        obtain ⟨rfl, -⟩ := HP.out (by omega)
        have h1 : (0 : Int) ≤ (j : Int) := by omega
        have h2 : (j : Int) < (l.length : Int) := by omega
        cases hq : plainV l[j] with
        | true =>
          rw [hq] at hcall
          have F : Hid ((l.take (j + 1)).all plainV = true) := by
            show _ = _
            rw [List.take_succ_eq_append_getElem hlt, List.all_append, hall.out]
            simp [hq]
          clear hq
          go_wp2_with (go_at_call 10; refine hcall.mono ?_; rintro e Z ⟨rfl, hZ⟩)
          go_roundw
          case rel => exact ⟨j + 1, by omega, by go_num, F, kept_trans hb.out hZ⟩
          case measure => simp [intOf]; omega
        | false =>
          rw [hq] at hcall
          have F : Hid (plainV (.mk k n s l ks) = false) := by
            show _ = _
            rw [E.out]
            have : l.all plainV = false := by
              rw [Bool.eq_false_iff]
              intro h
              have := List.all_eq_true.1 h l[j] (List.getElem_mem _)
              rw [hq] at this
              cases this
            rw [this]; rfl
          clear hq
          go_wp2_with (go_at_call 10; refine hcall.mono ?_; rintro e Z ⟨rfl, hZ⟩)
          go_ret
          exact ⟨by rw [F.out]; rfl, HW.out Z (kept_trans hb.out hZ)⟩
      · have hjl : j = l.length := by omega
        have F : Hid (plainV (.mk k n s l ks) = decide (k < 7)) := by
          show _ = _
          rw [E.out]
          have := hall.out
          rw [hjl, List.take_length] at this
          rw [this, Bool.true_and]
        subst hjl
        go_wp2
        go_ret
        exact ⟨by rw [F.out]; rfl, HW.out wr hb.out⟩
end Go.Proofs.YtgfbednfiejlfaaGreatDoor.Lit

/-
  The law LiteralReads, out of the contracts of the calls that it makes.
-/
namespace Go.Proofs.YtgfbednfiejlfaaGreatDoor.Rd
open Go.RowKit Go.Proofs.YtgfbednfiejlfaaGreatDoor.Oct Go.Proofs.YtgfbednfiejlfaaGreatDoor.Val Go.Proofs.YtgfbednfiejlfaaGreatDoor.Tl Go.Proofs.YtgfbednfiejlfaaGreatDoor.Lit Go.Proofs.YtgfbednfiejlfaaGreatDoor.Utf Go.Proofs.YtgfbednfiejlfaaGreatDoor.Mem

set_option maxHeartbeats 8000000 in
set_option maxRecDepth 100000 in
theorem law_reads (W : World) (s : ByteArray) (hs : s.size ≤ 274877906944) (hT : TabN W.heap.size W) :
    Calls Tryz.prog 3 #[.string s] W fun e W' => e = .returned (.bool true) ∧ Below W.heap.size W W' := by
  obtain ⟨l, rfl⟩ : ∃ l, s = S l := ⟨s.data.toList, (S_list s).symm⟩
  have hl : l.length ≤ 274877906944 := by rw [← size_S]; exact hs
  have HT := Lib.hid hT
  have HL := Lib.hid hl
  have hal := lalive_c W hT
  have hn := lnum_c
  clear hs hT hl
  go_enter Tryz.func3, Tryz.ntmps3
  go_wp2_with fail
  refine hal.mono ?_
  rintro e w1 ⟨rfl, hb1⟩
  clear hal
  have hr1 := read_c w1 l HL.out (fun X hX => HT.out X (hb1.trans (hX.mono hb1.size)))
  have B1 := Lib.hid hb1
  clear hb1
  go_wp2_with fail
  refine hr1.mono ?_
  clear hr1
  rintro e w2 ⟨hb2, hg⟩
  have hbW : Below W.heap.size W w2 := B1.out.trans (hb2.mono B1.out.size)
  rcases hg with ⟨rfl, -⟩ | ⟨rfl, -⟩ | ⟨⟨v0, v1, v2, v3, v4⟩, x, d, rfl, h1, h2, h3⟩
  · have HB := Lib.hid (hbW.alloc hbW.size (.cells #[.int .i64 0, .int .i64 0, .string ⟨#[]⟩, .slice none 0 0, .slice none 0 0] 26))
    clear hb2 hbW
    go_wp2_with (first | (go_at_call 8; refine (hn _ _).mono ?_; rintro e2 W2 ⟨rfl, rfl⟩))
    try (go_quiet ((go_at_call 8; exact Calls.quiet_of_same (hn _ _))))
    go_wp2
    go_ret
    exact ⟨rfl, HB.out⟩
  · have HB := Lib.hid (hbW.alloc hbW.size (.cells #[.int .i64 0, .int .i64 0, .string ⟨#[]⟩, .slice none 0 0, .slice none 0 0] 26))
    clear hb2 hbW
    go_wp2_with (first | (go_at_call 8; refine (hn _ _).mono ?_; rintro e2 W2 ⟨rfl, rfl⟩))
    try (go_quiet ((go_at_call 8; exact Calls.quiet_of_same (hn _ _))))
    go_wp2
    go_ret
    exact ⟨rfl, HB.out⟩
  · obtain ⟨k2, n2, t2, p2, m2, a2, q2, c2, d2, rfl, rfl, rfl, rfl, rfl⟩ := holds_parts h3
    obtain ⟨hpl, hlit⟩ := read_lit h1
    have O3 : Holds (Old w2.heap.size) w2 (.agg #[.int .i64 k2, .int .i64 n2, .string t2, .slice p2 m2 a2, .slice q2 c2 d2]) x := h3.frame (fun _ _ _ _ _ => rfl) (fun _ _ _ _ h => h.lt)
    have hcl := fun W' (hW : Below w2.heap.size w2 W') => rlit_c w2.heap.size w2 O3 W' hW.size hW (by rw [hlit]; have := HL.out; omega)
    have hcp := fun W' (hW : Below w2.heap.size w2 W') => rplain_c w2.heap.size w2 O3 W' hW.size hW
    rw [hlit] at hcl
    rw [hpl] at hcp
    obtain ⟨w3, hw3⟩ : ∃ w3, w3 = w2.alloc (.cells #[.int .i64 k2, .int .i64 n2, .string t2, .slice p2 m2 a2, .slice q2 c2 d2] 26) := ⟨_, rfl⟩
    have hb3 : Below w2.heap.size w2 w3 := by rw [hw3]; exact (Below.refl _ w2).alloc (Nat.le_refl _) _
    have D3 : w3.heap[w2.heap.size]? = some (.cells #[.int .i64 k2, .int .i64 n2, .string t2, .slice p2 m2 a2, .slice q2 c2 d2] 26 (0, 0)) := by rw [hw3]; exact heap_alloc_new w2 _
    have hcl3 := hcl w3 hb3
    have HC := Lib.hid (And.intro hcp (And.intro hb3 (And.intro D3 hbW)))
    have HW3 := Lib.hid hw3
    rw [hw3] at hcl3
    have hll : ((S l).size : Int) = (l.length : Int) := by rw [size_S]
    have hbe : ((S l).toList == (S l).toList) = true := by simp
    clear h1 h2 h3 hb2 hbW O3 hcl hcp hb3 D3 hw3 hlit hpl
    generalize hSl : S l = sl at hcl3 hll hbe
    clear hSl
    go_wp2_with (first | (go_at_call 8; refine (hn _ _).mono ?_; rintro e2 W2 ⟨rfl, rfl⟩))
    refine hcl3.mono ?_
    clear hcl3
    rintro e4 w4 ⟨rfl, h4⟩
    rw [← HW3.out] at h4
    have hb4 : Below w2.heap.size w2 w4 := HC.out.2.1.trans (h4.mono HC.out.2.1.size)
    obtain ⟨y0, y1, y2, y3, y4⟩ := five5 ((h4.block _ (Array.getElem?_eq_some_iff.1 HC.out.2.2.1).1).trans HC.out.2.2.1)
    have hcp4 := HC.out.1 w4 hb4
    have HB4 := Lib.hid (HC.out.2.2.2.trans (hb4.mono HC.out.2.2.2.size))
    clear h4 hb4
    go_wp2_with fail
    refine hcp4.mono ?_
    rintro e5 w5 ⟨rfl, h5⟩
    go_wp2_with fail
    go_ret
    exact ⟨rfl, HB4.out.trans (h5.mono HB4.out.size)⟩
end Go.Proofs.YtgfbednfiejlfaaGreatDoor.Rd

/-
  The last step of a law's row where the call leaves a world in which all that lay before lies unturned, the arguments are plain values (numbers, truths, texts), and the answer is the truth.
-/
namespace Go.Proofs.YtgfbednfiejlfaaGreatDoor.Kit
open Go.ChangeShapes Go.WideShapes Go.ChangeAt Go.RowKit
variable {H : Type} {enc : TypeId × Value → H} {P : Program}

theorem own : ownKnob Tryz.prog.godebug = none := by kernel_rfl

/-- Arguments without places: what is asked of the world behind the call is that nothing older has turned. -/
theorem post_plain {f : Func} {s : ChangeSpec} {apart fresh handsOn again : Bool} {W W' : World} {args : Array Value} {v : Value} {ds gs : List (DataW H)}
    (hW : DataW.Whole enc P f.params.toList s.vars apart W args.toList ds gs [])
    (hres : ∀ (b : Nat) (sp : Nat → Bool) (hd : Bool), DataW.TrodAll enc P W' b sp hd f.resultTypes.toList (v.resultList f.resultTypes.size) (s.fn H (ds ++ gs)).results [])
    (hargs : ∀ sp : Nat → Bool, DataW.TrodAll enc P W' 0 sp true f.params.toList args.toList (s.fn H (ds ++ gs)).args [])
    (hvars : ∀ sp : Nat → Bool, DataW.TrodVars enc P W' sp s.vars (s.fn H (ds ++ gs)).vars [])
    (hb : Below W.heap.size W W')
    (hok : ∀ (j : Nat) (t : TypeId) (r : Value), f.resultTypes[j]? = some t → (v.resultList f.resultTypes.size)[j]? = some r → Value.okWide P W' .any 0 t r) :
    s.post enc P f apart fresh handsOn again W args v W' :=
  ⟨ds, gs, [], [], [], [], hW, hres _ _ _, hargs _, hvars _, hb.frame _, fun _ =>
    ⟨hok, _, _, [], ⟨[], [], trodAll_append (hargs _) (hres _ _ _), hvars _, rfl, fun _ _ h => by simp at h, fun _ => by simp⟩, fun _ h => by simp at h⟩⟩
end Go.Proofs.YtgfbednfiejlfaaGreatDoor.Kit

/-
  What a row that lists Go's own two tables of characters' first octets gives: the tables, as they lie in memory; and a world that holds them.
-/
namespace Go.Proofs.YtgfbednfiejlfaaGreatDoor.Laid
open Go.ChangeShapes Go.WideShapes Go.ChangeAt Go.RowKit

abbrev list : List (String × DataW Unit) := [("unicode/utf8.acceptRanges", Rows.laid_unicode_utf8_acceptRanges), ("unicode/utf8.first", Rows.laid_unicode_utf8_first)]
set_option maxRecDepth 100000 in
theorem first_eq : Rows.laid_unicode_utf8_first = Lib.firstData := by kernel_rfl
theorem accept_eq : (Rows.laid_unicode_utf8_acceptRanges : DataW Unit) = Lib.acceptData := by kernel_rfl

theorem tabs {W : World} (h : laidMetH Tryz.prog list W) : Utf.Tabs W := by
  have h' : laidMet Tryz.prog list W := h
  have h3 := Lib.laidMet.reads h' (n := "unicode/utf8.first") (d := Rows.laid_unicode_utf8_first) (.tail _ (.head _))
  have h4 := Lib.laidMet.reads h' (n := "unicode/utf8.acceptRanges") (d := Rows.laid_unicode_utf8_acceptRanges) (.head _)
  rw [first_eq] at h3
  rw [accept_eq] at h4
  exact utf8Tabs_of_reads (ρ := Tryz.lays260_ren) Tryz.lays260 ⟨by kernel_rfl, by kernel_rfl, by kernel_rfl, by kernel_rfl, by kernel_rfl, by kernel_rfl, by kernel_rfl⟩ h3 h4

/-- A world that holds the two tables. -/
noncomputable def laidWorld (os : Os) : World :=
  { World.holding Tryz.prog os ⟨#[], #[], []⟩ with heap := (((World.holding Tryz.prog os ⟨#[], #[], []⟩).heap.modify 1 fun
      | .cells _ t frozen => .cells (Lib.firstTab.map fun z => Value.int .u8 z).toArray t frozen
      | o => o).modify 2 fun
      | .cells _ t frozen => .cells ((List.range 16).flatMap fun i => [Value.int .u8 (Lib.accLo i), Value.int .u8 (Lib.accHi i)]).toArray t frozen
      | o => o) }
set_option maxRecDepth 100000 in
theorem laid_met (os : Os) (args : Array Value) : laidMet Tryz.prog list ((laidWorld os).forCall (fun _ _ => 0) ⟨#[], args, []⟩).memory :=
  laidMet_of_run' 8 (by kernel_rfl) (by kernel_rfl)
end Go.Proofs.YtgfbednfiejlfaaGreatDoor.Laid
