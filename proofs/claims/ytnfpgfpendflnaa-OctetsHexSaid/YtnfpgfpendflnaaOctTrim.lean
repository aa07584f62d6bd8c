/-
  Contracts of octets.Name, Starts and Trim: as plain functions of lists of octets.
-/
import Derived.Test.YtnfpgfpendflnaaOctLists
namespace Go.Proofs.Ytnfpgfpendflnaa.Oct
open Go.RowKit

theorem name_none (s : ByteArray) : (firstOf (fun k => !nameI ((at' s k).toNat : Int)) 0 s.size == s.size) = s.data.toList.all (fun c => nameI (c.toNat : Int)) := by
  rw [firstOf_all, ← all_at]
  simp

theorem at_zero (s : ByteArray) : s.data.toList.getD 0 0 = at' s 0 := rfl

theorem name_c (s : ByteArray) (w : World) :
    Calls Try.prog 15 #[.string s] w fun e w' => e = .returned (.bool (nameB s.data.toList)) ∧ Below w.heap.size w w' := by
  by_cases h0 : s.size = 0
  · have hs : s = ⟨#[]⟩ := by
      apply ByteArray.ext
      exact Array.eq_empty_of_size_eq_zero h0
    subst hs
    go_enter Try.func15, Try.ntmps15
    go_wp2
    go_ret
    exact ⟨ret_bool (by simp [nameB]), (Below.refl _ w).alloc (Nat.le_refl _) _⟩
  · have he : s.data.toList.isEmpty = false := by
      rw [List.isEmpty_eq_false_iff]; intro h; apply h0; rw [← size_list, h]; rfl
    have he' : s.toList.isEmpty = false := by rw [ByteArray.toList_eq]; exact he
    by_cases h32 : 32 < s.size
    · go_enter Try.func15, Try.ntmps15
      go_wp2
      go_ret
      exact ⟨ret_bool (by unfold nameB; rw [size_list, decide_eq_false (by omega)]; rfl), (Below.refl _ w).alloc (Nat.le_refl _) _⟩
    · have hpos : 0 < s.size := by omega
      have hlen : s.size ≤ 32 := by omega
      have hat : Hid ((at' s 0) = s[0]) := (at_eq s 0 hpos).symm
      have hn := none_c s.size 34 #[.pointer (some ⟨w.heap.size, 0, none⟩)] (fun k => !nameI ((at' s k).toNat : Int)) (w.alloc (.cells #[.string s] 9)) (by omega) enter_name
        (fun k W hk hb => (name1_c s k w.heap.size W hk (by rw [hb.cell (by simp)]; simp)).mono fun _ _ ⟨he, hw⟩ => ⟨he, hw ▸ hb⟩)
      rw [name_none] at hn
      clear h0 h32
      have hfin : Hid (nameB s.data.toList = (!digitI (s[0].toNat : Int) && s.data.toList.all (fun c => nameI (c.toNat : Int)))) := by
        show _ = _
        unfold nameB
        rw [size_list, decide_eq_true (by omega), at_zero, hat.out]
        simp
      generalize s.data.toList.all (fun c => nameI (c.toNat : Int)) = r at hn hfin
      by_cases hd : (48 : Int) ≤ (s[0].toNat : Int) ∧ (s[0].toNat : Int) ≤ 57
      · obtain ⟨hd1, hd2⟩ := hd
        go_enter Try.func15, Try.ntmps15
        go_wp2
        go_ret
        exact ⟨ret_bool (by rw [hfin.out, digitI, decide_eq_true ⟨hd1, hd2⟩]; rfl), (Below.refl _ w).alloc (Nat.le_refl _) _⟩
      · have hw : decide ((48 : Int) ≤ (s[0].toNat : Int) ∧ (s[0].toNat : Int) ≤ 57) = false := decide_eq_false hd
        have hwi := within_c (s[0].toNat : Int) 48 57
        rw [hw] at hwi
        clear hw
        have HD := Lib.hid hd
        clear hd
        go_enter Try.func15, Try.ntmps15
        go_wp2_with (first
          | (go_at_call 27; refine (hwi _).mono ?_; rintro e w' ⟨rfl, rfl⟩)
          | (go_at_call 33; refine hn.mono ?_; rintro e w' ⟨rfl, hb⟩))
        go_ret
        exact ⟨ret_bool (by rw [hfin.out, digitI, decide_eq_false HD.out]; rfl), ((Below.refl _ w).alloc (Nat.le_refl _) _).trans (hb.mono (by simp))⟩

theorem starts_c (s p : ByteArray) (w : World) (hp : p.size ≤ 9223372036854775807) :
    Calls Try.prog 17 #[.string s, .string p] w fun e w' => e = .returned (.bool (startsB s.data.toList p.data.toList)) ∧ Below w.heap.size w w' := by
  by_cases hl : s.size < p.size
  · go_enter Try.func17, Try.ntmps17
    go_wp2
    go_ret
    exact ⟨ret_bool (by unfold startsB; rw [size_list, size_list, decide_eq_false (by omega)]; rfl), ((Below.refl _ w).alloc (Nat.le_refl _) _).alloc (by simp) _⟩
  · have hl' : p.size ≤ s.size := by omega
    have hn := none_c p.size 37 #[.pointer (some ⟨w.heap.size, 0, none⟩), .pointer (some ⟨w.heap.size + 1, 0, none⟩)] (fun k => low (at' s k) != low (at' p k))
      ((w.alloc (.cells #[.string s] 9)).alloc (.cells #[.string p] 9)) hp enter_starts
      (fun k W hk hb => (starts1_c s p k w.heap.size (w.heap.size + 1) W (by omega) hk (by rw [hb.cell (by simp; omega)]; simp) (by rw [hb.cell (by simp)]; simp)).mono
        fun _ _ ⟨he, q, hw⟩ => ⟨he, hw ▸ below_drewN hb q⟩)
    rw [starts_none s p hl'] at hn
    go_enter Try.func17, Try.ntmps17
    go_wp2_with (go_at_call 33; refine hn.mono ?_; rintro e w' ⟨rfl, hb⟩)
    go_ret
    exact ⟨rfl, (((Below.refl _ w).alloc (Nat.le_refl _) _).alloc (by simp) _).trans (hb.mono (by simp; omega))⟩

theorem clone_c (s : ByteArray) (w : World) (hs : s.size ≤ 281474976710656) :
    Calls Try.prog 42 #[.string s] w fun e w' => e = .returned (.string s) ∧ Below w.heap.size w w' := by
  go_enter Try.func42, Try.ntmps42
  go_wp2_with (go_at_call 47; refine (Try.stringslite_Clone _ _ hs).mono ?_; rintro e w' ⟨rfl, hb⟩)
  go_ret
  exact ⟨rfl, hb⟩

set_option maxHeartbeats 1000000 in
theorem trim_c (s : ByteArray) (w : World) (hs : s.size ≤ 281474976710656) :
    Calls Try.prog 19 #[.string s] w fun e w' => e = .returned (.string (S (trimL s.data.toList))) ∧ Below w.heap.size w w' := by
  have h1 := first_c s.size 40 #[.pointer (some ⟨w.heap.size, 0, none⟩)] (fun k => !blankI ((at' s k).toNat : Int)) (w.alloc (.cells #[.string s] 9)) (by omega) enter_trim1
    (fun k W hk hb => (trim1_c s k w.heap.size W hk (by rw [hb.cell (by simp)]; simp)).mono fun _ _ ⟨he, hw⟩ => ⟨he, hw ▸ hb⟩)
  have ha : firstOf (fun k => !blankI ((at' s k).toNat : Int)) 0 s.size ≤ s.size := firstOf_le _ _ _
  have E1 := Lib.hid (trim_ahead s)
  generalize firstOf (fun k => !blankI ((at' s k).toNat : Int)) 0 s.size = a at h1 ha E1
  go_enter Try.func19, Try.ntmps19
  go_wp2_with fail
  refine h1.mono ?_
  rintro e w1 ⟨rfl, hb1⟩
  have hc1 : w1.cell? ⟨w.heap.size, 0, none⟩ = some (.string s) := by rw [hb1.cell (by simp)]; simp
  go_wp2_with fail
  obtain ⟨r, hr⟩ : ∃ r, r = s.extract a s.size := ⟨_, rfl⟩
  have hrd : r.data.toList = s.data.toList.dropWhile bl := by
    rw [hr, Lib.extract_data, List.take_of_length_le (by rw [List.length_drop, size_list]; exact Nat.le_refl _), E1.out]
  have hrs : r.size = s.size - a := by rw [← size_list, hr, Lib.extract_data, List.length_take, List.length_drop, size_list]; omega
  rw [← hr, ← hrs]
  have hrl : r.size ≤ 281474976710656 := by omega
  have hlt : w.heap.size + 1 ≤ w1.heap.size := by have := hb1.size; simpa using this
  have Hrd := Lib.hid hrd
  clear hr hrs hrd E1 h1
  have h2 := first_c r.size 41 #[.pointer (some ⟨w1.heap.size, 0, none⟩)] (fun k => !blankI ((at' r (r.size - 1 - k)).toNat : Int)) (w1.alloc (.cells #[.string r] 9)) (by omega) enter_trim2
    (fun k W hk hb => (trim2_c r k w1.heap.size W hk (by omega) (by rw [hb.cell (by simp)]; simp)).mono fun _ _ ⟨he, hw⟩ => ⟨he, hw ▸ hb⟩)
  have hbl : firstOf (fun k => !blankI ((at' r (r.size - 1 - k)).toNat : Int)) 0 r.size ≤ r.size := firstOf_le _ _ _
  have E2 := Lib.hid (trim_behind r)
  generalize firstOf (fun k => !blankI ((at' r (r.size - 1 - k)).toNat : Int)) 0 r.size = b at h2 hbl E2
  refine h2.mono ?_
  clear h2
  rintro e w2 ⟨rfl, hb2⟩
  have hc2 : w2.cell? ⟨w1.heap.size, 0, none⟩ = some (.string r) := by rw [hb2.cell (by simp)]; simp
  go_wp2_with fail
  have ht : r.extract 0 (r.size - b) = S (trimL s.data.toList) := by
    rw [← S_list (r.extract 0 (r.size - b)), Lib.extract_data, List.drop_zero, Nat.sub_zero, E2.out, Hrd.out]
    rfl
  have hts : (S (trimL s.data.toList)).size ≤ 281474976710656 := by
    rw [← ht, ← size_list, Lib.extract_data, List.length_take, List.length_drop, size_list]; omega
  rw [ht]
  clear ht E2 Hrd
  obtain ⟨y, hy⟩ : ∃ y, y = S (trimL s.data.toList) := ⟨_, rfl⟩
  rw [← hy] at hts ⊢
  have HY := Lib.hid hy
  clear hy
  refine (clone_c y w2 hts).mono ?_
  rintro e w3 ⟨rfl, hb3⟩
  go_wp2_with fail
  go_ret
  have hlt2 : w.heap.size ≤ w2.heap.size := by have := hb2.size; simp at this; omega
  refine ⟨congrArg (fun x => Ending.returned (.string x)) HY.out, ?_⟩
  exact (((((Below.refl _ w).alloc (Nat.le_refl _) _).trans (hb1.mono (by simp))).alloc (by omega) _).trans (hb2.mono (by simp; omega))).trans (hb3.mono hlt2)

end Go.Proofs.Ytnfpgfpendflnaa.Oct
