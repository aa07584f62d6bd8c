/-
  Contract of the page's Decode.
-/
import Derived.Test.YtppclkecfggkiaaDoorUtfRef
namespace Go.Proofs.YtppclkecfggkiaaDoor.Utf
open Go.RowKit Go.Proofs.YtppclkecfggkiaaDoor.Oct Go.Proofs.YtppclkecfggkiaaDoor.Mem
open Go.Lib (encodeRune encodeRuneZ)

theorem oct_at (s : ByteArray) (k : Nat) (h : k < s.size) : oct s.data.toList k = s[k].toNat := by
  unfold oct
  rw [at_eq s k h]; rfl

def maskI (n : Nat) : Int := if n = 1 then 127 else if n = 2 then 31 else if n = 3 then 15 else 7
theorem mask_all : ∀ (n : Fin 4) (b : Fin 256), bits .and .i64 ((b.val : Nat) : Int) (maskI (n.val + 1)) = ((b.val % partN (n.val + 1) : Nat) : Int) := by decide +kernel
theorem mask_eq (n b : Nat) (h1 : 1 ≤ n) (h4 : n ≤ 4) (hb : b < 256) : bits .and .i64 (b : Int) (maskI n) = ((b % partN n : Nat) : Int) := by
  have := mask_all ⟨n - 1, by omega⟩ ⟨b, hb⟩
  simp only at this
  rwa [show n - 1 + 1 = n by omega] at this

theorem cut_take (s : ByteArray) (n : Nat) : (s.extract 0 n).data.toList = s.data.toList.take n := by
  rw [Lib.extract_data, List.drop_zero, Nat.sub_zero]

theorem rdecode_nil (s : ByteArray) (hs : s.size = 0) (w : World) :
    Calls Tryd.prog 28 #[.string s] w fun e w' => e = .returned (.tuple #[.int .i64 (-1), .int .i64 0]) ∧ Kept w w' := by
  have hne : s.toList.isEmpty = true := by
    rw [Lib.toList_data, List.isEmpty_iff]
    exact List.eq_nil_of_length_eq_zero (by rw [size_list]; exact hs)
  have hne2 : s.toList = [] := List.isEmpty_iff.1 hne
  go_enter Tryd.func28, Tryd.ntmps28
  go_wp2
  go_ret2
  exact ⟨rfl, Below.refl _ _⟩

theorem rsize_at (s : ByteArray) (hs : 0 < s.size) (w : World) :
    Calls Tryd.prog 40 #[.int .u8 (s[0].toNat : Int)] w fun e w' => e = .returned (.int .i64 (sizeN (oct s.data.toList 0) : Nat)) ∧ w = w' := by
  rw [oct_at s 0 hs, ← sizeI_eq]
  exact rsize_c _ w (by omega) (by have := s[0].toNat_lt; omega)

theorem text_ne (s : ByteArray) (hs : 0 < s.size) : s.toList.isEmpty = false ∧ s.toList ≠ [] := by
  have hne : s.toList.isEmpty = false := by
    rw [Lib.toList_data]
    cases h : s.data.toList with
    | nil => have := size_list s; rw [h] at this; simp at this; omega
    | cons _ _ => rfl
  exact ⟨hne, by intro e; rw [e] at hne; simp at hne⟩

set_option maxHeartbeats 2000000 in
theorem rdecode_short (s : ByteArray) (hs : 0 < s.size) (_ : s.size ≤ 4611686018427387904) (w : World) (h : sizeN (oct s.data.toList 0) = 0 ∨ s.size < sizeN (oct s.data.toList 0)) :
    Calls Tryd.prog 28 #[.string s] w fun e w' => e = .returned (.tuple #[.int .i64 (-1), .int .i64 1]) ∧ Kept w w' := by
  obtain ⟨hne, hne2⟩ := text_ne s hs
  have hz := fun w => rsize_at s hs w
  have hle := sizeN_le (oct s.data.toList 0)
  generalize sizeN (oct s.data.toList 0) = n at h hle hz
  by_cases hn0 : n = 0
  · subst hn0
    clear h
    go_enter Tryd.func28, Tryd.ntmps28
    go_wp2_with (go_at_call 40; refine (hz _).mono ?_; rintro e w' ⟨rfl, rfl⟩)
    go_ret2
    exact ⟨rfl, Below.refl _ _⟩
  · have hlt : s.size < n := by omega
    have b0 : ((n : Int) == 0) = false := by simp; omega
    clear h
    go_enter Tryd.func28, Tryd.ntmps28
    go_wp2_with (go_at_call 40; refine (hz _).mono ?_; rintro e w' ⟨rfl, rfl⟩)
    go_ret2
    exact ⟨rfl, Below.refl _ _⟩

theorem mask_cell (w : World) (n : Nat) (h1 : 1 ≤ n) (h4 : n ≤ 4) : (w.alloc (.cells #[.int .i64 0, .int .i64 127, .int .i64 31, .int .i64 15, .int .i64 7] 3)).cell? ⟨w.heap.size, n, none⟩ = some (.int .i64 (maskI n)) := by
  unfold World.cell?
  rw [World.alloc_heap_new]
  match n, h1, h4 with
  | 1, _, _ => rfl
  | 2, _, _ => rfl
  | 3, _, _ => rfl
  | 4, _, _ => rfl

theorem partN_b (n : Nat) : 0 < partN n ∧ partN n ≤ 128 := by
  unfold partN
  repeat' split
  all_goals omega
theorem below_drewN {B : Nat} {a w : World} (h : Below B a w) : ∀ q, Below B a (w.drewN q)
  | 0 => h
  | q + 1 => (below_drewN h q).drew

set_option maxHeartbeats 4000000 in
set_option maxRecDepth 100000 in
theorem rdecode_main (s : ByteArray) (hm : s.size ≤ 4611686018427387904) (w : World) (n : Nat) (hn : n = sizeN (oct s.data.toList 0)) (h1 : 1 ≤ n) (hns : n ≤ s.size) :
    Calls Tryd.prog 28 #[.string s] w fun e w' => e = .returned (.tuple #[.int .i64 (dec s.data.toList).1, .int .i64 ((dec s.data.toList).2 : Nat)]) ∧ Kept w w' := by
  have hs : 0 < s.size := by omega
  obtain ⟨hne, hne2⟩ := text_ne s hs
  have hz := fun w => rsize_at s hs w
  have h4 : n ≤ 4 := by rw [hn]; exact sizeN_le _
  rw [← hn] at hz
  have hlne : s.data.toList ≠ [] := by intro e; have := size_list s; rw [e] at this; simp at this; omega
  have b0 : ((n : Int) == 0) = false := by simp; omega
  have b1 : decide (s.size < n) = false := by simp; omega
  have hcell := mask_cell w n h1 h4
  have hand := mask_eq n s[0].toNat h1 h4 s[0].toNat_lt
  have HN := Lib.hid hn
  clear hn
  obtain ⟨mk, hmk⟩ : ∃ mk, mk = maskI n := ⟨_, rfl⟩
  rw [← hmk] at hcell hand
  clear hmk
  go_enter Tryd.func28, Tryd.ntmps28
  go_wp2_with (go_at_call 40; refine (hz _).mono ?_; rintro e w' ⟨rfl, rfl⟩)
  go_quiet (fail)
  rename_i nq _
  have hk0 : Kept w ((w.alloc (.cells #[.int .i64 0, .int .i64 127, .int .i64 31, .int .i64 15, .int .i64 7] 3)).drewN nq) := below_drewN ((Below.refl _ w).alloc (Nat.le_refl _) _) nq
  have HK0 := Lib.hid hk0
  have HA : Hid (bits .and .i64 (wrap64 (s[0].toNat : Int)) mk = runV s.data.toList (partN n) 0) := by
    show _ = _
    rw [IntWalk.wrap64_in _ (by have := s[0].toNat_lt; omega), hand]
    unfold runV
    rw [oct_at s 0 hs]
  clear hcell hand hk0 hz hne hne2 b1
  go_wp2
  go_loop [6, 7] (fun c i => ∃ k : Nat, 1 ≤ k ∧ k ≤ n ∧ i = .int .i64 (k : Int) ∧ c = .int .i64 (runV s.data.toList (partN n) (k - 1)) ∧ Hid (∀ j, 1 ≤ j → j < k → 128 ≤ oct s.data.toList j ∧ oct s.data.toList j ≤ 191)) (fun _ i => n - (intOf i).toNat)
  case atStart => exact ⟨1, Nat.le_refl _, h1, rfl, by rw [HA.out], fun j hj1 hj2 => absurd hj1 (by omega)⟩
  case round =>
    obtain ⟨k, hk1, hk2, rfl, rfl, hcont⟩ := hrel
    have hbd := runV_bound s.data.toList (partN n) (partN_b n).1 (partN_b n).2 (k - 1) (by omega) (fun j hj1 hj2 => hcont.out j hj1 (by omega))
    by_cases hlt : k < n
    · have hks : k < s.size := by omega
      have ho := oct_at s k hks
      have hb : (s[k].toNat : Int) ≤ 255 := by have := s[k].toNat_lt; omega
      rcases (show (s[k].toNat : Int) < 128 ∨ 191 < (s[k].toNat : Int) ∨ (128 ≤ (s[k].toNat : Int) ∧ (s[k].toNat : Int) ≤ 191) by omega) with hx | hx | ⟨hx1, hx2⟩
      · have E := Lib.hid (dec_broken s.data.toList hlne k hk1 (by rw [← HN.out]; exact hlt) (by rw [ho]; omega))
        clear ho
        go_wp2
        go_ret2
        rw [E.out]
        exact ⟨rfl, HK0.out⟩
      · have E := Lib.hid (dec_broken s.data.toList hlne k hk1 (by rw [← HN.out]; exact hlt) (by rw [ho]; omega))
        have d1 : decide ((s[k].toNat : Int) < 128) = false := by simp; omega
        clear ho
        go_wp2
        go_ret2
        rw [E.out]
        exact ⟨rfl, HK0.out⟩
      · have d1 : decide ((s[k].toNat : Int) < 128) = false := by simp; omega
        have d2 : decide (191 < (s[k].toNat : Int)) = false := by simp; omega
        have E : Hid (runV s.data.toList (partN n) (k - 1) * 64 + (s[k].toNat : Int) - 128 = runV s.data.toList (partN n) k) := by
          show _ = _
          obtain ⟨k', rfl⟩ : ∃ k', k = k' + 1 := ⟨k - 1, by omega⟩
          rw [Nat.add_sub_cancel]
          show _ = runV s.data.toList (partN n) k' * 64 + (oct s.data.toList (k' + 1) : Int) - 128
          rw [ho]
        have HC : Hid (∀ j, 1 ≤ j → j < k + 1 → 128 ≤ oct s.data.toList j ∧ oct s.data.toList j ≤ 191) := fun j hj1 hj2 => by
          by_cases e : j = k
          · subst e; rw [ho]; omega
          · exact hcont.out j hj1 (by omega)
        clear ho
        go_wp2
        go_round
        case rel => exact ⟨k + 1, by omega, by omega, by go_num, by rw [Nat.add_sub_cancel, ← E.out], HC⟩
        case measure => simp [intOf]; omega
    · obtain rfl : k = n := by omega
      clear hcont hlt
      have hno := dec_no s.data.toList hlne
      rw [← HN.out] at hno
      have hyes := fun hc h => dec_yes s.data.toList (runV s.data.toList (partN k) (k - 1)) hc (by rw [← HN.out]; exact h)
      rw [← HN.out] at hyes
      have HNO := Lib.hid hno
      have HYES := Lib.hid hyes
      clear hno hyes
      generalize runV s.data.toList (partN k) (k - 1) = v at hbd HNO HYES
      cases hc : charB v with
      | false =>
        have henc := fun w => rencode_no v w hc
        have E := Lib.hid (HNO.out (fun h => of_decide_eq_false hc h.1))
        clear HNO HYES hc
        go_wp2_with fail
        refine (henc _).mono ?_
        rintro e w1 ⟨rfl, hb1⟩
        have HB := Lib.hid (kept_trans HK0.out hb1)
        clear hb1 henc
        go_wp2
        go_ret2
        rw [E.out]
        exact ⟨rfl, HB.out⟩
      | true =>
        have henc := fun w => rencode_yes v w hc
        obtain ⟨t, ht⟩ : ∃ t, t = S (encodeRune v) := ⟨_, rfl⟩
        rw [← ht] at henc
        by_cases heq : s.data.toList.take k = encodeRune v
        · have E := Lib.hid (HYES.out (of_decide_eq_true hc) heq)
          have q1 : (t.toList == (s.extract 0 k).toList) = true := by
            rw [str_beq, decide_eq_true_eq, ht, ← S_list (s.extract 0 k), cut_take, heq]
          have q2 : (t.toList != (s.extract 0 k).toList) = false := by rw [bne, q1]; rfl
          clear HNO HYES hc heq ht
          go_wp2_with fail
          refine (henc _).mono ?_
          rintro e w1 ⟨rfl, hb1⟩
          have HB := Lib.hid (kept_trans HK0.out hb1)
          clear hb1 henc
          go_wp2
          go_ret2
          rw [E.out]
          exact ⟨rfl, HB.out⟩
        · have E := Lib.hid (HNO.out (fun h => heq h.2))
          have q1 : (t.toList == (s.extract 0 k).toList) = false := by
            rw [str_beq, decide_eq_false_iff_not, ht]
            intro e; apply heq; rw [← cut_take, ← e, list_S]
          have q2 : (t.toList != (s.extract 0 k).toList) = true := by rw [bne, q1]; rfl
          clear HNO HYES hc heq ht
          go_wp2_with fail
          refine (henc _).mono ?_
          rintro e w1 ⟨rfl, hb1⟩
          have HB := Lib.hid (kept_trans HK0.out hb1)
          clear hb1 henc
          go_wp2
          go_ret2
          rw [E.out]
          exact ⟨rfl, HB.out⟩

theorem rdecode_c (s : ByteArray) (hm : s.size ≤ 4611686018427387904) (w : World) :
    Calls Tryd.prog 28 #[.string s] w fun e w' => e = .returned (.tuple #[.int .i64 (dec s.data.toList).1, .int .i64 ((dec s.data.toList).2 : Nat)]) ∧ Kept w w' := by
  by_cases h0 : s.size = 0
  · have hl : s.data.toList = [] := List.eq_nil_of_length_eq_zero (by rw [size_list]; exact h0)
    rw [hl, dec_nil]
    exact rdecode_nil s h0 w
  · have hl : s.data.toList ≠ [] := by intro e; apply h0; rw [← size_list, e]; rfl
    by_cases h : sizeN (oct s.data.toList 0) = 0 ∨ s.size < sizeN (oct s.data.toList 0)
    · rw [dec_short s.data.toList hl (by rw [size_list]; exact h)]
      exact rdecode_short s (by omega) hm w h
    · exact rdecode_main s hm w _ rfl (by omega) (by omega)
end Go.Proofs.YtppclkecfggkiaaDoor.Utf
