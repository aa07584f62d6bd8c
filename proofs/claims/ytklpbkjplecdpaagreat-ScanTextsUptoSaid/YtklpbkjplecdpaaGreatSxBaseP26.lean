/-
  Part 26: CrfRun.
-/
import Derived.Test.YtklpbkjplecdpaaGreatSxBaseP25
/-
  Contracts of the page's run and number: how many digits stand from a place on, and what they count.
-/
namespace Go.Proofs.YtklpbkjplecdpaaGreat.Crf
open Go.RowKit Oct Num Utf
open Go.Lib (encodeRune)

abbrev abcL : List UInt8 := [97, 98, 99, 100, 101, 102, 65, 66, 67, 68, 69, 70]
theorem dig10 (c : UInt8) : digB 10 c = digitI (c.toNat : Int) := by
  have h : ∀ c : Fin 256, digB 10 (UInt8.ofNat c.val) = digitI ((UInt8.ofNat c.val).toNat : Int) := by decide +kernel
  have h2 := h ⟨c.toNat, c.toNat_lt⟩
  simpa using h2
theorem dig16 (c : UInt8) : digB 16 c = (digitI (c.toNat : Int) || hasB abcL c) := by
  have h : ∀ c : Fin 256, digB 16 (UInt8.ofNat c.val) = (digitI ((UInt8.ofNat c.val).toNat : Int) || hasB abcL (UInt8.ofNat c.val)) := by decide +kernel
  have h2 := h ⟨c.toNat, c.toNat_lt⟩
  simpa using h2
theorem runN_is {base : Int} {l : List UInt8} {k : Nat} (h : (l.take k).all (digB base) = true) (hk : k = l.length ∨ ∃ c, l[k]? = some c ∧ digB base c = false) : runN base l = k := by
  rcases hk with rfl | ⟨c, hc, hd⟩
  · rw [List.take_length] at h
    exact (runN_full base l).2 h
  · obtain ⟨hlt, hce⟩ := List.getElem?_eq_some_iff.1 hc
    have e : l = l.take k ++ c :: l.drop (k + 1) := by
      conv => lhs; rw [← List.take_append_drop k l, List.drop_eq_getElem_cons hlt, hce]
    unfold runN
    rw [e, List.takeWhile_append_of_pos (List.all_eq_true.1 h), List.takeWhile_cons_of_neg (by rw [hd]; simp)]
    simp
    omega
theorem all_next {base : Int} {l : List UInt8} {k : Nat} {c : UInt8} (h : (l.take k).all (digB base) = true) (hc : l[k]? = some c) (hd : digB base c = true) : (l.take (k + 1)).all (digB base) = true := by
  obtain ⟨hlt, hce⟩ := List.getElem?_eq_some_iff.1 hc
  rw [List.take_succ_eq_append_getElem hlt, List.all_append, h, hce]
  simp [hd]

set_option maxHeartbeats 4000000 in
set_option maxRecDepth 100000 in
theorem rrun_c (s : ByteArray) (at_ : Nat) (hex : Bool) (hat : at_ ≤ s.size) (hs : s.size ≤ 2305843009213693952) (w : World) :
    Calls Tryz.prog 113 #[.string s, .int .i64 (at_ : Int), .bool hex] w fun e w' => e = .returned (.int .i64 (runN (if hex then 16 else 10) (s.data.toList.drop at_) : Nat)) ∧ w = w' := by
  obtain ⟨d, hd⟩ : ∃ d, d = s.data.toList.drop at_ := ⟨_, rfl⟩
  have hdl : d.length = s.size - at_ := by rw [hd, List.length_drop, size_list]
  have HX := Lib.hid (fun k (h : at_ + k < s.size) => (by
    rw [hd, List.getElem?_drop, List.getElem?_eq_getElem (by rw [size_list]; exact h)]
    rfl : d[k]? = some s[at_ + k]))
  have HDg := Lib.hid (fun (c : UInt8) w => rdigit_c (c.toNat : Int) w (by omega) (by have := c.toNat_lt; omega))
  have HHas := Lib.hid (fun (c : UInt8) w => (by exact rhas_c (S abcL) c (by decide) w : Calls Tryz.prog 128 #[.string ⟨#[97, 98, 99, 100, 101, 102, 65, 66, 67, 68, 69, 70]⟩, .int .u8 (c.toNat : Int)] w fun e w' => e = .returned (.bool (hasB abcL c)) ∧ w = w'))
  rw [← hd]
  clear hd
  have hai : (0 : Int) ≤ (at_ : Int) := by omega
  obtain ⟨base, hb⟩ : ∃ base : Int, base = (if hex then 16 else 10) := ⟨_, rfl⟩
  rw [← hb]
  have HB := Lib.hid hb
  have HL := Lib.hid hdl
  clear hb hdl
  go_enter Tryz.func113, Tryz.ntmps113
  go_wp2_with fail
  go_loop [7] (fun n => ∃ k : Nat, at_ + k ≤ s.size ∧ n = .int .i64 k ∧ Hid ((d.take k).all (digB base) = true)) (fun n => s.size - at_ - (intOf n).toNat)
  case atStart => exact ⟨0, by omega, rfl, by show _ = _; simp⟩
  case round =>
    obtain ⟨k, hk, rfl, hall⟩ := hrel
    have i0 : (0 : Int) ≤ (k : Int) := by omega
    have i1 : ((at_ : Int) + (k : Int)).toNat = at_ + k := by omega
    by_cases hlt : at_ + k < s.size
    · have i2 : (at_ : Int) + (k : Int) < (s.size : Int) := by omega
      have hx := HX.out k hlt
      have hdg := HDg.out (s[at_ + k]) w
      have hha := HHas.out (s[at_ + k]) w
      have hcn : (s[at_ + k].toNat : Int) ≤ 255 := by have := s[at_ + k].toNat_lt; omega
      cases hq : digitI (s[at_ + k].toNat : Int) with
      | true =>
        have HN : Hid ((d.take (k + 1)).all (digB base) = true) := all_next hall.out hx (by
          rw [HB.out]
          cases hex with
          | true => rw [if_pos rfl, dig16, hq]; rfl
          | false => rw [if_neg (by simp), dig10, hq])
        rw [hq] at hdg
        clear hq hx hha
        go_wp2_with (first | (go_at_call 67; refine hdg.mono ?_; rintro e w' ⟨rfl, rfl⟩))
        go_round
        case rel => exact ⟨k + 1, by omega, by go_num, HN⟩
        case measure => simp [intOf]; omega
      | false =>
        rw [hq] at hdg
        cases hex with
        | false =>
          have HR : Hid (runN base d = k) := runN_is hall.out (.inr ⟨_, hx, by rw [HB.out, if_neg (by simp), dig10, hq]⟩)
          clear hq hx hha
          go_wp2_with (first | (go_at_call 67; refine hdg.mono ?_; rintro e w' ⟨rfl, rfl⟩))
          go_ret
          exact ⟨by rw [HR.out]; rfl, rfl⟩
        | true =>
          cases hq2 : hasB abcL (s[at_ + k]) with
          | true =>
            have HN : Hid ((d.take (k + 1)).all (digB base) = true) := all_next hall.out hx (by rw [HB.out, if_pos rfl, dig16, hq, hq2]; rfl)
            rw [hq2] at hha
            clear hq hq2 hx
            go_wp2_with (first
              | (go_at_call 67; refine hdg.mono ?_; rintro e w' ⟨rfl, rfl⟩)
              | (go_at_call 128; refine hha.mono ?_; rintro e w' ⟨rfl, rfl⟩))
            go_round
            case rel => exact ⟨k + 1, by omega, by go_num, HN⟩
            case measure => simp [intOf]; omega
          | false =>
            have HR : Hid (runN base d = k) := runN_is hall.out (.inr ⟨_, hx, by rw [HB.out, if_pos rfl, dig16, hq, hq2]; rfl⟩)
            rw [hq2] at hha
            clear hq hq2 hx
            go_wp2_with (first
              | (go_at_call 67; refine hdg.mono ?_; rintro e w' ⟨rfl, rfl⟩)
              | (go_at_call 128; refine hha.mono ?_; rintro e w' ⟨rfl, rfl⟩))
            go_ret
            exact ⟨by rw [HR.out]; rfl, rfl⟩
    · have i2 : decide ((at_ : Int) + (k : Int) < (s.size : Int)) = false := decide_eq_false (by omega)
      have HR : Hid (runN base d = k) := runN_is hall.out (.inl (by have := HL.out; omega))
      go_wp2_with fail
      go_ret
      exact ⟨by rw [HR.out]; rfl, rfl⟩

set_option maxHeartbeats 4000000 in
set_option maxRecDepth 100000 in
theorem rnumber_c (l : List UInt8) (b : Nat) (hb : b = 10 ∨ b = 16) (hl : l.length ≤ 7) (hd : l.all (digB b) = true) (w : World) :
    Calls Tryz.prog 114 #[.string (S l), .int .i64 (b : Int)] w fun e w' => e = .returned (.int .i64 (valB b l : Nat)) ∧ w = w' := by
  have hz : ((S l).size : Int) = (l.length : Int) := by rw [size_S]
  have H1 := Lib.hid (fun k (h : k < l.length) => cutOne l k h)
  have HD := Lib.hid (fun k (h : k < l.length) => (of_decide_eq_true (List.all_eq_true.1 hd l[k] (List.getElem_mem h)) : 0 ≤ hx l[k] ∧ hx l[k] < (b : Int)))
  have HU := Lib.hid (fun (c : UInt8) (hc : 0 ≤ hx c) w => rone_c c hc w)
  have HV := Lib.hid (fun k (h : k < l.length) => (by rw [List.take_succ_eq_append_getElem h, valB_snoc] : valB b (l.take (k + 1)) = valB b (l.take k) * b + (hx l[k]).toNat))
  have hli : (l.length : Int) ≤ 7 := by omega
  generalize S l = L at hz H1
  clear hd
  rcases hb with rfl | rfl
  · show Calls Tryz.prog 114 #[.string L, .int .i64 10] w _
    go_enter Tryz.func114, Tryz.ntmps114
    go_wp2_with fail
    go_loop [5, 6] (fun n i => ∃ k : Nat, k ≤ l.length ∧ i = .int .i64 k ∧ n = .int .i64 (valB 10 (l.take k) : Nat)) (fun _ i => l.length - (intOf i).toNat)
    case atStart => exact ⟨0, Nat.zero_le _, rfl, rfl⟩
    case round =>
      obtain ⟨k, hk, rfl, rfl⟩ := hrel
      by_cases hlt : k < l.length
      · obtain ⟨d0, d1⟩ := HD.out k hlt
        have h1 := H1.out k hlt
        have hu := HU.out l[k] d0 w
        have hv := valB_small 10 (by omega) l k hl
        have HE : Hid ((valB 10 (l.take (k + 1)) : Int) = (valB 10 (l.take k) : Int) * 10 + hx l[k]) := by
          show _ = _
          rw [HV.out k hlt]
          push_cast
          rw [Int.toNat_of_nonneg d0]
        generalize hx l[k] = d at d0 d1 hu HE
        generalize l[k] = c at h1 hu
        generalize S [c] = C at h1 hu
        generalize valB 10 (l.take k) = v at hv HE
        have i0 : (0 : Int) ≤ (k : Int) := by omega
        have i1 : (k : Int) < (l.length : Int) := by omega
        have i2 : (k : Int) + 1 ≤ (l.length : Int) := by omega
        have i3 : (k : Int) ≤ (k : Int) + 1 := by omega
        have i4 : ((k : Int) + 1).toNat = k + 1 := by omega
        go_wp2_with (first | (go_at_call 129; refine hu.mono ?_; rintro e w' ⟨rfl, rfl⟩))
        go_round
        case rel => exact ⟨k + 1, by omega, by go_num, by rw [HE.out]⟩
        case measure => simp [intOf]; omega
      · have hkl : k = l.length := by omega
        subst hkl
        have HE : Hid (valB 10 (l.take l.length) = valB 10 l) := by show _ = _; rw [List.take_length]
        rw [HE.out]
        go_wp2_with fail
        go_ret
        exact ⟨rfl, rfl⟩
  · show Calls Tryz.prog 114 #[.string L, .int .i64 16] w _
    go_enter Tryz.func114, Tryz.ntmps114
    go_wp2_with fail
    go_loop [5, 6] (fun n i => ∃ k : Nat, k ≤ l.length ∧ i = .int .i64 k ∧ n = .int .i64 (valB 16 (l.take k) : Nat)) (fun _ i => l.length - (intOf i).toNat)
    case atStart => exact ⟨0, Nat.zero_le _, rfl, rfl⟩
    case round =>
      obtain ⟨k, hk, rfl, rfl⟩ := hrel
      by_cases hlt : k < l.length
      · obtain ⟨d0, d1⟩ := HD.out k hlt
        have h1 := H1.out k hlt
        have hu := HU.out l[k] d0 w
        have hv := valB_small 16 (by omega) l k hl
        have HE : Hid ((valB 16 (l.take (k + 1)) : Int) = (valB 16 (l.take k) : Int) * 16 + hx l[k]) := by
          show _ = _
          rw [HV.out k hlt]
          push_cast
          rw [Int.toNat_of_nonneg d0]
        generalize hx l[k] = d at d0 d1 hu HE
        generalize l[k] = c at h1 hu
        generalize S [c] = C at h1 hu
        generalize valB 16 (l.take k) = v at hv HE
        have i0 : (0 : Int) ≤ (k : Int) := by omega
        have i1 : (k : Int) < (l.length : Int) := by omega
        have i2 : (k : Int) + 1 ≤ (l.length : Int) := by omega
        have i3 : (k : Int) ≤ (k : Int) + 1 := by omega
        have i4 : ((k : Int) + 1).toNat = k + 1 := by omega
        go_wp2_with (first | (go_at_call 129; refine hu.mono ?_; rintro e w' ⟨rfl, rfl⟩))
        go_round
        case rel => exact ⟨k + 1, by omega, by go_num, by rw [HE.out]⟩
        case measure => simp [intOf]; omega
      · have hkl : k = l.length := by omega
        subst hkl
        have HE : Hid (valB 16 (l.take l.length) = valB 16 l) := by show _ = _; rw [List.take_length]
        rw [HE.out]
        go_wp2_with fail
        go_ret
        exact ⟨rfl, rfl⟩
end Go.Proofs.YtklpbkjplecdpaaGreat.Crf
