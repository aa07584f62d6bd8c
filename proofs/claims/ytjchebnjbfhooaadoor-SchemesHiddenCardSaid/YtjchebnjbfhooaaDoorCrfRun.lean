/-
  Contracts of the page's run and number: how many digits stand from a place on, and what they count.
-/
import Derived.Test.YtjchebnjbfhooaaDoorCrfPage
namespace Go.Proofs.YtjchebnjbfhooaaDoor.Crf
open Go.RowKit Go.Proofs.YtjchebnjbfhooaaDoor.Oct Go.Proofs.YtjchebnjbfhooaaDoor.Num Go.Proofs.YtjchebnjbfhooaaDoor.Utf
open Go.Lib (encodeRune)

abbrev abcL : List UInt8 := [97, 98, 99, 100, 101, 102, 65, 66, 67, 68, 69, 70]
theorem dig10 (c : UInt8) : digB 10 c = digitI (c.toNat : Int) := by
  have h : ∀ c : Fin 256, digB 10 (UInt8.ofNat c.val) = digitI ((UInt8.ofNat c.val).toNat : Int) := by decide +kernel
  have h2 := h ⟨c.toNat, c.toNat_lt⟩
  simpa using h2
theorem dig16 (c : UInt8) : digB 16 c = (digitI (c.toNat : Int) || hasB abcL c) := by
  have h : ∀ c : Fin 256, digB 16 (UInt8.ofNat c.val) = (digitI ((UInt8.ofNat c.val).toNat : Int) || hasB abcL (UInt8.ofNat c.val)) := by decide +kernel
  have h2 := h ⟨c.toNat, c.toNat_lt⟩
  simpa using h2
theorem runN_is {base : Int} {l : List UInt8} {k : Nat} (h : (l.take k).all (digB base) = true) (hk : k = l.length ∨ ∃ c, l[k]? = some c ∧ digB base c = false) : runN base l = k := by
  rcases hk with rfl | ⟨c, hc, hd⟩
  · rw [List.take_length] at h
    exact (runN_full base l).2 h
  · obtain ⟨hlt, hce⟩ := List.getElem?_eq_some_iff.1 hc
    have e : l = l.take k ++ c :: l.drop (k + 1) := by
      conv => lhs; rw [← List.take_append_drop k l, List.drop_eq_getElem_cons hlt, hce]
    unfold runN
    rw [e, List.takeWhile_append_of_pos (List.all_eq_true.1 h), List.takeWhile_cons_of_neg (by rw [hd]; simp)]
    simp
    omega
theorem all_next {base : Int} {l : List UInt8} {k : Nat} {c : UInt8} (h : (l.take k).all (digB base) = true) (hc : l[k]? = some c) (hd : digB base c = true) : (l.take (k + 1)).all (digB base) = true := by
  obtain ⟨hlt, hce⟩ := List.getElem?_eq_some_iff.1 hc
  rw [List.take_succ_eq_append_getElem hlt, List.all_append, h, hce]
  simp [hd]

set_option maxHeartbeats 4000000 in
set_option maxRecDepth 100000 in
theorem rrun_c (s : ByteArray) (at_ : Nat) (hex : Bool) (hat : at_ ≤ s.size) (hs : s.size ≤ 2305843009213693952) (w : World) :
    Calls Tryd.prog 58 #[.string s, .int .i64 (at_ : Int), .bool hex] w fun e w' => e = .returned (.int .i64 (runN (if hex then 16 else 10) (s.data.toList.drop at_) : Nat)) ∧ w = w' := by
  obtain ⟨d, hd⟩ : ∃ d, d = s.data.toList.drop at_ := ⟨_, rfl⟩
  have hdl : d.length = s.size - at_ := by rw [hd, List.length_drop, size_list]
  have HX := Lib.hid (fun k (h : at_ + k < s.size) => (by
    rw [hd, List.getElem?_drop, List.getElem?_eq_getElem (by rw [size_list]; exact h)]
    rfl : d[k]? = some s[at_ + k]))
  have HDg := Lib.hid (fun (c : UInt8) w => rdigit_c (c.toNat : Int) w (by omega) (by have := c.toNat_lt; omega))
  have HHas := Lib.hid (fun (c : UInt8) w => (by exact rhas_c (S abcL) c (by decide) w : Calls Tryd.prog 57 #[.string ⟨#[97, 98, 99, 100, 101, 102, 65, 66, 67, 68, 69, 70]⟩, .int .u8 (c.toNat : Int)] w fun e w' => e = .returned (.bool (hasB abcL c)) ∧ w = w'))
  rw [← hd]
  clear hd
  have hai : (0 : Int) ≤ (at_ : Int) := by omega
  obtain ⟨base, hb⟩ : ∃ base : Int, base = (if hex then 16 else 10) := ⟨_, rfl⟩
  rw [← hb]
  have HB := Lib.hid hb
  have HL := Lib.hid hdl
  clear hb hdl
  go_enter Tryd.func58, Tryd.ntmps58
  go_wp2_with fail
  go_loop [7] (fun n => ∃ k : Nat, at_ + k ≤ s.size ∧ n = .int .i64 k ∧ Hid ((d.take k).all (digB base) = true)) (fun n => s.size - at_ - (intOf n).toNat)
  case atStart => exact ⟨0, by omega, rfl, by show _ = _; simp⟩
  case round =>
    obtain ⟨k, hk, rfl, hall⟩ := hrel
    have i0 : (0 : Int) ≤ (k : Int) := by omega
    have i1 : ((at_ : Int) + (k : Int)).toNat = at_ + k := by omega
    by_cases hlt : at_ + k < s.size
    · have i2 : (at_ : Int) + (k : Int) < (s.size : Int) := by omega
      have hx := HX.out k hlt
      have hdg := HDg.out (s[at_ + k]) w
      have hha := HHas.out (s[at_ + k]) w
      have hcn : (s[at_ + k].toNat : Int) ≤ 255 := by have := s[at_ + k].toNat_lt; omega
      cases hq : digitI (s[at_ + k].toNat : Int) with
      | true =>
        have HN : Hid ((d.take (k + 1)).all (digB base) = true) := all_next hall.out hx (by
          rw [HB.out]
          cases hex with
          | true => rw [if_pos rfl, dig16, hq]; rfl
          | false => rw [if_neg (by simp), dig10, hq])
        rw [hq] at hdg
        clear hq hx hha
        go_wp2_with (first | (go_at_call 56; refine hdg.mono ?_; rintro e w' ⟨rfl, rfl⟩))
        go_round
        case rel => exact ⟨k + 1, by omega, by go_num, HN⟩
        case measure => simp [intOf]; omega
      | false =>
        rw [hq] at hdg
        cases hex with
        | false =>
          have HR : Hid (runN base d = k) := runN_is hall.out (.inr ⟨_, hx, by rw [HB.out, if_neg (by simp), dig10, hq]⟩)
          clear hq hx hha
          go_wp2_with (first | (go_at_call 56; refine hdg.mono ?_; rintro e w' ⟨rfl, rfl⟩))
          go_ret
          exact ⟨by rw [HR.out]; rfl, rfl⟩
        | true =>
          cases hq2 : hasB abcL (s[at_ + k]) with
          | true =>
            have HN : Hid ((d.take (k + 1)).all (digB base) = true) := all_next hall.out hx (by rw [HB.out, if_pos rfl, dig16, hq, hq2]; rfl)
            rw [hq2] at hha
            clear hq hq2 hx
            go_wp2_with (first
              | (go_at_call 56; refine hdg.mono ?_; rintro e w' ⟨rfl, rfl⟩)
              | (go_at_call 57; refine hha.mono ?_; rintro e w' ⟨rfl, rfl⟩))
            go_round
            case rel => exact ⟨k + 1, by omega, by go_num, HN⟩
            case measure => simp [intOf]; omega
          | false =>
            have HR : Hid (runN base d = k) := runN_is hall.out (.inr ⟨_, hx, by rw [HB.out, if_pos rfl, dig16, hq, hq2]; rfl⟩)
            rw [hq2] at hha
            clear hq hq2 hx
            go_wp2_with (first
              | (go_at_call 56; refine hdg.mono ?_; rintro e w' ⟨rfl, rfl⟩)
              | (go_at_call 57; refine hha.mono ?_; rintro e w' ⟨rfl, rfl⟩))
            go_ret
            exact ⟨by rw [HR.out]; rfl, rfl⟩
    · have i2 : decide ((at_ : Int) + (k : Int) < (s.size : Int)) = false := decide_eq_false (by omega)
      have HR : Hid (runN base d = k) := runN_is hall.out (.inl (by have := HL.out; omega))
      go_wp2_with fail
      go_ret
      exact ⟨by rw [HR.out]; rfl, rfl⟩

end Go.Proofs.YtjchebnjbfhooaaDoor.Crf
