/-
  Contracts of octets.Name, Starts and Trim: as plain functions of lists of octets.
-/
import Derived.Test.YtbchjmldjdhjiaaOctLists
namespace Go.Proofs.Ytbchjmldjdhjiaa.Oct
open Go.RowKit

theorem name_none (s : ByteArray) : (firstOf (fun k => !nameI ((at' s k).toNat : Int)) 0 s.size == s.size) = s.data.toList.all (fun c => nameI (c.toNat : Int)) := by
  rw [firstOf_all, ← all_at]
  simp


theorem clone_c (s : ByteArray) (w : World) (hs : s.size ≤ 281474976710656) :
    Calls Try.prog 56 #[.string s] w fun e w' => e = .returned (.string s) ∧ Below w.heap.size w w' := by
  go_enter Try.func56, Try.ntmps56
  go_wp2_with (go_at_call 68; refine (Try.stringslite_Clone _ _ hs).mono ?_; rintro e w' ⟨rfl, hb⟩)
  go_ret
  exact ⟨rfl, hb⟩

set_option maxHeartbeats 1000000 in
theorem trim_c (s : ByteArray) (w : World) (hs : s.size ≤ 281474976710656) :
    Calls Try.prog 57 #[.string s] w fun e w' => e = .returned (.string (S (trimL s.data.toList))) ∧ Below w.heap.size w w' := by
  have h1 := first_c s.size 70 #[.pointer (some ⟨w.heap.size, 0, none⟩)] (fun k => !blankI ((at' s k).toNat : Int)) (w.alloc (.cells #[.string s] 9)) (by omega) enter_trim1
    (fun k W hk hb => (trim1_c s k w.heap.size W hk (by rw [hb.cell (by simp)]; simp)).mono fun _ _ ⟨he, hw⟩ => ⟨he, hw ▸ hb⟩)
  have ha : firstOf (fun k => !blankI ((at' s k).toNat : Int)) 0 s.size ≤ s.size := firstOf_le _ _ _
  have E1 := Lib.hid (trim_ahead s)
  generalize firstOf (fun k => !blankI ((at' s k).toNat : Int)) 0 s.size = a at h1 ha E1
  go_enter Try.func57, Try.ntmps57
  go_wp2_with fail
  refine h1.mono ?_
  rintro e w1 ⟨rfl, hb1⟩
  have hc1 : w1.cell? ⟨w.heap.size, 0, none⟩ = some (.string s) := by rw [hb1.cell (by simp)]; simp
  go_wp2_with fail
  obtain ⟨r, hr⟩ : ∃ r, r = s.extract a s.size := ⟨_, rfl⟩
  have hrd : r.data.toList = s.data.toList.dropWhile bl := by
    rw [hr, Lib.extract_data, List.take_of_length_le (by rw [List.length_drop, size_list]; exact Nat.le_refl _), E1.out]
  have hrs : r.size = s.size - a := by rw [← size_list, hr, Lib.extract_data, List.length_take, List.length_drop, size_list]; omega
  rw [← hr, ← hrs]
  have hrl : r.size ≤ 281474976710656 := by omega
  have hlt : w.heap.size + 1 ≤ w1.heap.size := by have := hb1.size; simpa using this
  have Hrd := Lib.hid hrd
  clear hr hrs hrd E1 h1
  have h2 := first_c r.size 71 #[.pointer (some ⟨w1.heap.size, 0, none⟩)] (fun k => !blankI ((at' r (r.size - 1 - k)).toNat : Int)) (w1.alloc (.cells #[.string r] 9)) (by omega) enter_trim2
    (fun k W hk hb => (trim2_c r k w1.heap.size W hk (by omega) (by rw [hb.cell (by simp)]; simp)).mono fun _ _ ⟨he, hw⟩ => ⟨he, hw ▸ hb⟩)
  have hbl : firstOf (fun k => !blankI ((at' r (r.size - 1 - k)).toNat : Int)) 0 r.size ≤ r.size := firstOf_le _ _ _
  have E2 := Lib.hid (trim_behind r)
  generalize firstOf (fun k => !blankI ((at' r (r.size - 1 - k)).toNat : Int)) 0 r.size = b at h2 hbl E2
  refine h2.mono ?_
  clear h2
  rintro e w2 ⟨rfl, hb2⟩
  have hc2 : w2.cell? ⟨w1.heap.size, 0, none⟩ = some (.string r) := by rw [hb2.cell (by simp)]; simp
  go_wp2_with fail
  have ht : r.extract 0 (r.size - b) = S (trimL s.data.toList) := by
    rw [← S_list (r.extract 0 (r.size - b)), Lib.extract_data, List.drop_zero, Nat.sub_zero, E2.out, Hrd.out]
    rfl
  have hts : (S (trimL s.data.toList)).size ≤ 281474976710656 := by
    rw [← ht, ← size_list, Lib.extract_data, List.length_take, List.length_drop, size_list]; omega
  rw [ht]
  clear ht E2 Hrd
  obtain ⟨y, hy⟩ : ∃ y, y = S (trimL s.data.toList) := ⟨_, rfl⟩
  rw [← hy] at hts ⊢
  have HY := Lib.hid hy
  clear hy
  refine (clone_c y w2 hts).mono ?_
  rintro e w3 ⟨rfl, hb3⟩
  go_wp2_with fail
  go_ret
  have hlt2 : w.heap.size ≤ w2.heap.size := by have := hb2.size; simp at this; omega
  refine ⟨congrArg (fun x => Ending.returned (.string x)) HY.out, ?_⟩
  exact (((((Below.refl _ w).alloc (Nat.le_refl _) _).trans (hb1.mono (by simp))).alloc (by omega) _).trans (hb2.mono (by simp; omega))).trans (hb3.mono hlt2)

end Go.Proofs.Ytbchjmldjdhjiaa.Oct
