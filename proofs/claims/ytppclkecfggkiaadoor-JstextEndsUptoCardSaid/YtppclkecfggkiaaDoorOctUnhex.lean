/-
  Contract of octets.Unhex: the number whose digits of base 16 a text is.
-/
import Derived.Test.YtppclkecfggkiaaDoorOctHex
namespace Go.Proofs.YtppclkecfggkiaaDoor.Oct
open Go.RowKit

def hexC (c : UInt8) : Int := hexI (c.toNat : Int)
def valL (l : List UInt8) : Nat := l.foldl (fun n c => n * 16 + (hexC c).toNat) 0
/-- The number, and the error's. -/
def unhexL (l : List UInt8) : Nat × Nat :=
  if l = [] then (0, 8) else if 8 < l.length then (0, 5) else if l.all (fun c => decide (0 ≤ hexC c)) then (valL l, 0) else (0, 33)

theorem hexC_le (c : UInt8) : hexC c ≤ 15 := (hexI_range _).2
theorem valL_snoc (l : List UInt8) (c : UInt8) : valL (l ++ [c]) = valL l * 16 + (hexC c).toNat := by simp [valL]
theorem valL_lt (l : List UInt8) : valL l < 16 ^ l.length := by
  have gen : ∀ (l : List UInt8) (a e : Nat), a < 16 ^ e → l.foldl (fun n c => n * 16 + (hexC c).toNat) a < 16 ^ (e + l.length) := by
    intro l
    induction l with
    | nil => intro a e h; simpa using h
    | cons c l ih =>
      intro a e h
      have hc := hexC_le c
      have := ih (a * 16 + (hexC c).toNat) (e + 1) (by rw [Nat.pow_succ]; omega)
      rw [List.foldl_cons, List.length_cons, show e + (l.length + 1) = e + 1 + l.length by omega]
      exact this
  have := gen l 0 0 (by simp)
  simpa [valL] using this
theorem valL_le (l : List UInt8) (k : Nat) (h : k ≤ 7) : valL (l.take k) < 268435456 := by
  have h1 := valL_lt (l.take k)
  have h2 : (l.take k).length ≤ 7 := by rw [List.length_take]; omega
  have h3 : 16 ^ (l.take k).length ≤ 16 ^ 7 := Nat.pow_le_pow_right (by omega) h2
  omega
theorem take_at (s : ByteArray) (k : Nat) (h : k < s.size) : s.data.toList.take (k + 1) = s.data.toList.take k ++ [s[k]] := by
  rw [List.take_succ_eq_append_getElem (by rw [size_list]; exact h)]; rfl

theorem unhex_none (s : ByteArray) : (firstOf (fun k => decide (hexC (at' s k) < 0)) 0 s.size == s.size) = s.data.toList.all (fun c => decide (0 ≤ hexC c)) := by
  rw [firstOf_all, ← all_at]
  congr 1
  funext k
  rw [Bool.eq_iff_iff]; simp

theorem or_digit (x : Int) (y : Int) (h0 : 0 ≤ x) (h1 : x ≤ 268435456) (h2 : 0 ≤ y) (h3 : y ≤ 15) : bits .or .i64 (x * 16) y = x * 16 + y := by
  exact bits_join .i64 62 (by decide) (fun n h0 h1 => by rw [IntKind.wrap_i64]; omega) 4 (x * 16) y (by omega) (by omega) (by omega) h2 (by omega) (by omega)

theorem enter_unhex : ∀ args w, (callFunc 61 args).run Tryd.prog w = .ok (.enter 61 args) w := enters_of Tryd.func61 (by kernel_rfl) rfl

theorem unhex1_c (s : ByteArray) (k b : Nat) (w : World) (hk : k < s.size) (hc : w.cell? ⟨b, 0, none⟩ = some (.string s)) :
    Calls Tryd.prog 61 #[.int .i64 (k : Int), .pointer (some ⟨b, 0, none⟩)] w fun e w' => e = .returned (.bool (decide (hexC (at' s k) < 0))) ∧ w = w' := by
  have hb : (s[k].toNat : Int) ≤ 255 := by have := s[k].toNat_lt; omega
  have E : Hid ((at' s k) = s[k]) := (at_eq s k hk).symm
  go_enter Tryd.func61, Tryd.ntmps61
  go_wp2_with (go_at_call 62; refine (digitValue_c _ _ (by omega) (by omega)).mono ?_; rintro e w' ⟨rfl, rfl⟩)
  go_ret
  exact ⟨ret_bool (by rw [E.out]; rfl), rfl⟩

theorem unhex_c (s : ByteArray) (w : World) :
    Calls Tryd.prog 57 #[.string s] w fun e w' => e = .returned (.tuple #[.int .i64 ((unhexL s.data.toList).1 : Int), .int .i64 ((unhexL s.data.toList).2 : Int)]) ∧ Below w.heap.size w w' := by
  by_cases h0 : s.size = 0
  · have hs : s = ⟨#[]⟩ := by
      apply ByteArray.ext
      exact Array.eq_empty_of_size_eq_zero h0
    subst hs
    go_enter Tryd.func57, Tryd.ntmps57
    go_wp2
    go_ret2
    exact ⟨rfl, (Below.refl _ w).alloc (Nat.le_refl _) _⟩
  · have hne : s.data.toList ≠ [] := by intro h; apply h0; rw [← size_list, h]; rfl
    have he : s.data.toList.isEmpty = false := by rw [List.isEmpty_eq_false_iff]; exact hne
    have he' : s.toList.isEmpty = false := by rw [ByteArray.toList_eq]; exact he
    by_cases h8 : 8 < s.size
    · have F : Hid (unhexL s.data.toList = (0, 5)) := by
        show _ = _
        unfold unhexL
        rw [if_neg hne, if_pos (by rw [size_list]; exact h8)]
      clear hne
      go_enter Tryd.func57, Tryd.ntmps57
      go_wp2
      go_ret2
      exact ⟨by rw [F.out]; rfl, (Below.refl _ w).alloc (Nat.le_refl _) _⟩
    · have hlen : s.size ≤ 8 := by omega
      have hn := none_c s.size 61 #[.pointer (some ⟨w.heap.size, 0, none⟩)] (fun k => decide (hexC (at' s k) < 0)) (w.alloc (.cells #[.string s] 9)) (by omega) enter_unhex
        (fun k W hk hb => (unhex1_c s k w.heap.size W hk (by rw [hb.cell (by simp)]; simp)).mono fun _ _ ⟨he, hw⟩ => ⟨he, hw ▸ hb⟩)
      rw [unhex_none] at hn
      cases hall : s.data.toList.all (fun c => decide (0 ≤ hexC c)) with
      | false =>
        have F : Hid (unhexL s.data.toList = (0, 33)) := by
          show _ = _
          unfold unhexL
          rw [if_neg hne, if_neg (by rw [size_list]; exact h8), hall]
          rfl
        rw [hall] at hn
        clear hall hne h8 h0
        go_enter Tryd.func57, Tryd.ntmps57
        go_wp2_with (go_at_call 60; refine hn.mono ?_; rintro e w' ⟨rfl, hb⟩)
        go_ret2
        exact ⟨by rw [F.out]; rfl, ((Below.refl _ w).alloc (Nat.le_refl _) _).trans (hb.mono (by simp))⟩
      | true =>
        have F : Hid (unhexL s.data.toList = (valL s.data.toList, 0)) := by
          show _ = _
          unfold unhexL
          rw [if_neg hne, if_neg (by rw [size_list]; exact h8), hall]
          rfl
        rw [hall] at hn
        have HA := Lib.hid hall
        clear hall hne h8 h0
        go_enter Tryd.func57, Tryd.ntmps57
        go_wp2_with (go_at_call 60; refine hn.mono ?_; rintro e w1 ⟨rfl, hb⟩; have hc1 : w1.cell? ⟨w.heap.size, 0, none⟩ = some (.string s) := by (rw [hb.cell (by simp)]; simp))
        have hbw : Hid (Below w.heap.size w w1) := ((Below.refl _ w).alloc (Nat.le_refl _) _).trans (hb.mono (by simp))
        clear hn hb
        go_loop [4, 5, 21] (fun n _ i => ∃ k : Nat, k ≤ s.size ∧ i = .int .i64 k ∧ n = .int .i64 (valL (s.data.toList.take k) : Nat)) (fun _ _ i => s.size - (intOf i).toNat)
        case atStart => exact ⟨0, Nat.zero_le _, rfl, rfl⟩
        case round =>
          obtain ⟨k, hk, rfl, rfl⟩ := hrel
          by_cases hlt : k < s.size
          · have hv := valL_le s.data.toList k (by omega)
            have hb1 : (s[k].toNat : Int) ≤ 255 := by have := s[k].toNat_lt; omega
            have HV : Hid (valL (s.data.toList.take (k + 1)) = valL (s.data.toList.take k) * 16 + (hexC s[k]).toNat) := by show _ = _; rw [take_at s k hlt, valL_snoc]
            have hd := (hexI_range (s[k].toNat : Int)).2
            have hd0 : 0 ≤ hexI (s[k].toNat : Int) := by
              have := List.all_eq_true.1 HA.out s[k] (by rw [ByteArray.getElem_eq_getElem_data]; simp)
              exact of_decide_eq_true this
            have ho := or_digit (valL (s.data.toList.take k) : Nat) (hexI (s[k].toNat : Int)) (by omega) (by omega) hd0 hd
            generalize valL (s.data.toList.take k) = v at hv HV ho
            go_wp2_with (go_at_call 62; refine (digitValue_c _ _ (by omega) (by omega)).mono ?_; rintro e w' ⟨rfl, rfl⟩)
            go_round
            case rel =>
              refine ⟨k + 1, by omega, by go_num, ?_⟩
              rw [HV.out]
              congr 1
              unfold hexC
              omega
            case measure => simp [intOf]; omega
          · go_wp2
            go_ret2
            have hke : s.data.toList.take k = s.data.toList := List.take_of_length_le (by rw [size_list]; omega)
            exact ⟨by rw [F.out, hke]; rfl, hbw.out⟩

end Go.Proofs.YtppclkecfggkiaaDoor.Oct
