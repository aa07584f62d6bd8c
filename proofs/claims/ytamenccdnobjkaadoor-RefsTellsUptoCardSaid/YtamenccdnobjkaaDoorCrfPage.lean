/-
  Contracts of the page's leaves that references are read by: Begins, Has, digit, Unhex at one octet, run, number.
-/
import Derived.Test.YtamenccdnobjkaaDoorCrfNumber
import Derived.Test.YtamenccdnobjkaaDoorPgOct
import Derived.LoopTactic
namespace Go.Proofs.YtamenccdnobjkaaDoor.Crf
open Go.RowKit Go.Proofs.YtamenccdnobjkaaDoor.Oct Go.Proofs.YtamenccdnobjkaaDoor.Num Go.Proofs.YtamenccdnobjkaaDoor.Utf
open Go.Lib (encodeRune)

theorem prefix_take (l p : List UInt8) : Lib.hasPrefix l p = decide (l.take p.length = p) := by
  rw [Bool.eq_iff_iff, pre_iff, decide_eq_true_eq]
  constructor
  · intro hp
    exact (List.prefix_iff_eq_take.1 hp).symm
  · intro e
    rw [← e]
    exact List.take_prefix _ _

/-- Contract of the page's Begins. -/
theorem rbegins_c (p l : List UInt8) (w : World) :
    Calls Tryd.prog 25 #[.string (S p), .string (S l)] w fun e w' => e = .returned (.bool (Lib.hasPrefix l p)) ∧ w = w' := by
  have z1 : ((S p).size : Int) = (p.length : Int) := by rw [size_S]
  have z2 : ((S l).size : Int) = (l.length : Int) := by rw [size_S]
  by_cases h : p.length ≤ l.length
  · have hcut : (S l).extract 0 p.length = S (l.take p.length) := by rw [cutTo, list_S]
    have HE : Hid (Lib.hasPrefix l p = ((S (l.take p.length)).toList == (S p).toList)) := by
      show _ = _
      rw [prefix_take l p, eqB]
    generalize S (l.take p.length) = T at hcut HE
    generalize S p = P at z1 HE
    generalize S l = L at z2 hcut
    have h1 : (p.length : Int) ≤ (l.length : Int) := by omega
    have h2 : (0 : Int) ≤ (p.length : Int) := by omega
    go_enter Tryd.func25, Tryd.ntmps25
    go_wp2
    go_ret
    exact ⟨by rw [HE.out]; rfl, rfl⟩
  · have HE : Hid (Lib.hasPrefix l p = false) := by
      show _ = _
      cases hb : Lib.hasPrefix l p with
      | false => rfl
      | true => exact absurd ((pre_iff l p).1 hb).length_le h
    generalize S p = P at z1
    generalize S l = L at z2
    have h1 : decide ((p.length : Int) ≤ (l.length : Int)) = false := decide_eq_false (by omega)
    have h2 : decide (p.length ≤ l.length) = false := decide_eq_false h
    go_enter Tryd.func25, Tryd.ntmps25
    go_wp2
    go_ret
    exact ⟨by rw [HE.out]; rfl, rfl⟩

/-- Is an octet among these? -/
def hasB (l : List UInt8) (c : UInt8) : Bool := l.contains c
/-- Contract of the page's Has. -/
theorem rhas_c (s : ByteArray) (c : UInt8) (hs : s.size ≤ 4611686018427387904) (w : World) :
    Calls Tryd.prog 36 #[.string s, .int .u8 (c.toNat : Int)] w fun e w' => e = .returned (.bool (hasB s.data.toList c)) ∧ w = w' := by
  have HL := Lib.hid (fun k (h : k < s.size) => (by
    rw [List.getElem?_eq_getElem (by rw [size_list]; exact h)]
    rfl : s.data.toList[k]? = some s[k]))
  go_enter Tryd.func36, Tryd.ntmps36
  go_wp2_with fail
  go_loop [5] (fun i => ∃ k : Nat, k ≤ s.size ∧ i = .int .i64 k ∧ Hid (∀ j (x : UInt8), j < k → s.data.toList[j]? = some x → x ≠ c)) (fun i => s.size - (intOf i).toNat)
  case atStart => exact ⟨0, Nat.zero_le _, rfl, fun j _ h => absurd h (by omega)⟩
  case round =>
    obtain ⟨k, hk, rfl, hno⟩ := hrel
    by_cases hlt : k < s.size
    · have hx := HL.out k hlt
      by_cases he : s[k] = c
      · have HR : Hid (hasB s.data.toList c = true) := by
          show s.data.toList.contains c = true
          rw [List.contains_iff_mem, ← he]
          exact List.mem_of_getElem? hx
        have hb : ((s[k].toNat : Int) == (c.toNat : Int)) = true := by rw [he]; simp
        clear hx he
        go_wp2_with fail
        go_ret
        exact ⟨by rw [HR.out]; rfl, rfl⟩
      · have hb : ((s[k].toNat : Int) == (c.toNat : Int)) = false := by
          rw [beq_eq_false_iff_ne]
          intro e
          exact he (UInt8.toNat_inj.1 (by omega))
        have HN : Hid (∀ j (x : UInt8), j < k + 1 → s.data.toList[j]? = some x → x ≠ c) := fun j x hj hxj => by
          rcases Nat.lt_or_ge j k with h | h
          · exact hno.out j x h hxj
          · obtain rfl : j = k := by omega
            rw [hx] at hxj
            injection hxj with e
            rw [← e]
            exact he
        clear hx he
        go_wp2_with fail
        go_round
        case rel => exact ⟨k + 1, by omega, by go_num, HN⟩
        case measure => simp [intOf]; omega
    · have HR : Hid (hasB s.data.toList c = false) := by
        show s.data.toList.contains c = false
        rw [Bool.eq_false_iff]
        intro hc
        rw [List.contains_iff_mem] at hc
        obtain ⟨j, hj⟩ := List.mem_iff_getElem?.1 hc
        have hjl := (List.getElem?_eq_some_iff.1 hj).1
        rw [size_list] at hjl
        exact hno.out j c (by omega) hj rfl
      go_wp2_with fail
      go_ret
      exact ⟨by rw [HR.out]; rfl, rfl⟩

/-- Contract of the page's digit. -/
theorem rdig_c (n : Int) (w : World) (h0 : 0 ≤ n) (h1 : n ≤ 255) :
    Calls Tryd.prog 55 #[.int .u8 n] w fun e w' => e = .returned (.int .i64 (hexI n)) ∧ w = w' := by
  have hd := rdigit_c n w h0 h1
  by_cases c1 : 48 ≤ n ∧ n ≤ 57
  · have e : Hid (hexI n = n - 48) := by show _ = _; unfold hexI; rw [if_pos c1]
    rw [show digitI n = true from decide_eq_true c1] at hd
    obtain ⟨c2, c3⟩ := c1
    go_enter Tryd.func55, Tryd.ntmps55
    go_wp2_with (go_at_call 41; refine hd.mono ?_; rintro e' w' ⟨rfl, rfl⟩)
    go_ret
    exact ⟨by rw [e.out]; rfl, rfl⟩
  · rw [show digitI n = false from decide_eq_false c1] at hd
    by_cases c2 : 97 ≤ n ∧ n ≤ 102
    · have e : Hid (hexI n = n - 97 + 10) := by show _ = _; unfold hexI; rw [if_neg c1, if_pos c2]; omega
      obtain ⟨c3, c4⟩ := c2
      clear c1
      go_enter Tryd.func55, Tryd.ntmps55
      go_wp2_with (go_at_call 41; refine hd.mono ?_; rintro e' w' ⟨rfl, rfl⟩)
      go_ret
      exact ⟨by rw [e.out]; rfl, rfl⟩
    · by_cases c3 : 65 ≤ n ∧ n ≤ 70
      · have e : Hid (hexI n = n - 65 + 10) := by show _ = _; unfold hexI; rw [if_neg c1, if_neg c2, if_pos c3]; omega
        obtain ⟨c4, c5⟩ := c3
        have d1 : decide (97 ≤ n) = false := decide_eq_false (by omega)
        clear c1 c2
        go_enter Tryd.func55, Tryd.ntmps55
        go_wp2_with (go_at_call 41; refine hd.mono ?_; rintro e' w' ⟨rfl, rfl⟩)
        go_ret
        exact ⟨by rw [e.out]; rfl, rfl⟩
      · have HE : Hid (hexI n = -1) := by show _ = _; unfold hexI; rw [if_neg c1, if_neg c2, if_neg c3]
        rcases (by omega : n < 65 ∨ (70 < n ∧ n < 97) ∨ 102 < n) with c | ⟨c, c'⟩ | c
        · have d1 : decide (97 ≤ n) = false := decide_eq_false (by omega)
          have d2 : decide (65 ≤ n) = false := decide_eq_false (by omega)
          clear c1 c2 c3
          go_enter Tryd.func55, Tryd.ntmps55
          go_wp2_with (go_at_call 41; refine hd.mono ?_; rintro e w' ⟨rfl, rfl⟩)
          go_ret
          exact ⟨by rw [HE.out]; rfl, rfl⟩
        · have d1 : decide (97 ≤ n) = false := decide_eq_false (by omega)
          have d2 : (65 : Int) ≤ n := by omega
          have d3 : decide (n ≤ 70) = false := decide_eq_false (by omega)
          clear c1 c2 c3
          go_enter Tryd.func55, Tryd.ntmps55
          go_wp2_with (go_at_call 41; refine hd.mono ?_; rintro e w' ⟨rfl, rfl⟩)
          go_ret
          exact ⟨by rw [HE.out]; rfl, rfl⟩
        · have d1 : (97 : Int) ≤ n := by omega
          have d2 : (65 : Int) ≤ n := by omega
          have d3 : decide (n ≤ 70) = false := decide_eq_false (by omega)
          have d4 : decide (n ≤ 102) = false := decide_eq_false (by omega)
          clear c1 c2 c3
          go_enter Tryd.func55, Tryd.ntmps55
          go_wp2_with (go_at_call 41; refine hd.mono ?_; rintro e w' ⟨rfl, rfl⟩)
          go_ret
          exact ⟨by rw [HE.out]; rfl, rfl⟩

/-- Contract of the page's Unhex at one digit. -/
theorem rone_c (c : UInt8) (hc : 0 ≤ hx c) (w : World) :
    Calls Tryd.prog 42 #[.string (S [c])] w fun e w' => e = .returned (.tuple #[.int .i64 (hx c), .int .i64 0]) ∧ w = w' := by
  have hd := fun w => rdig_c (c.toNat : Int) w (by omega) (by have := c.toNat_lt; omega)
  have e : hexI (c.toNat : Int) = hx c := rfl
  rw [e] at hd
  have hr := hx_le c
  have h0 : (S [c]).toList.isEmpty = false := by rw [ByteArray.toList_eq, list_S]; rfl
  have h1 : (S [c]).size = 1 := rfl
  have h2 : (S [c])[0]'(by show (0 : Nat) < 1; omega) = c := rfl
  have hcn : (c.toNat : Int) ≤ 255 := by have := c.toNat_lt; omega
  generalize hx c = d at hd hc hr
  go_enter Tryd.func42, Tryd.ntmps42
  go_wp2_with fail
  go_loop [4, 5] (fun n i => (n = .int .i64 0 ∧ i = .int .i64 0) ∨ (n = .int .i64 d ∧ i = .int .i64 1)) (fun _ i => 1 - (intOf i).toNat)
  case atStart => exact .inl ⟨rfl, rfl⟩
  case round =>
    rcases hrel with ⟨rfl, rfl⟩ | ⟨rfl, rfl⟩
    · go_wp2_with (go_at_call 55; refine (hd _).mono ?_; rintro e w' ⟨rfl, rfl⟩)
      go_round
      case rel => exact .inr ⟨by simp, by go_num⟩
      case measure => simp [intOf]
    · go_wp2_with fail
      go_ret2
      exact ⟨rfl, rfl⟩
end Go.Proofs.YtamenccdnobjkaaDoor.Crf
