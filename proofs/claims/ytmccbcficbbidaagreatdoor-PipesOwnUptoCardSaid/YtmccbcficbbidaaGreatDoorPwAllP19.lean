/-
  Part 19: PwRef1.
-/
import Derived.Test.YtmccbcficbbidaaGreatDoorPwAllP10
import Derived.Test.YtmccbcficbbidaaGreatDoorPwAllP6
import Derived.Test.YtmccbcficbbidaaGreatDoorPwAllP18
/-
  Contracts of the page's leaves that words are read by: skip, begin, name, dots, Begins, Has.
-/
namespace Go.Proofs.YtmccbcficbbidaaGreatDoor.Pwr
open Go.RowKit Go.Proofs.YtmccbcficbbidaaGreatDoor.Oct Go.Proofs.YtmccbcficbbidaaGreatDoor.Lex Go.Proofs.YtmccbcficbbidaaGreatDoor.Lxw
open Go.Proofs.YtmccbcficbbidaaGreatDoor.Num (parseL)

theorem nextO_at {l : List UInt8} {k : Nat} (h : k < l.length) : nextO l k = l[k] := by unfold nextO; simp [h]
theorem nextO_end {l : List UInt8} {k : Nat} (h : ¬ k < l.length) : nextO l k = 0 := by unfold nextO; simp [h]
/-- Contract of the page's Begins. -/
theorem rbegins_c (p l : List UInt8) (w : World) :
    Calls Tryz.prog 96 #[.string (S p), .string (S l)] w fun e w' => e = .returned (.bool (p.isPrefixOf l)) ∧ w = w' := by
  have z1 : ((S p).size : Int) = (p.length : Int) := by rw [size_S]
  have z2 : ((S l).size : Int) = (l.length : Int) := by rw [size_S]
  have hpt : p.isPrefixOf l = decide (l.take p.length = p) := by
    rw [Bool.eq_iff_iff, List.isPrefixOf_iff_prefix, decide_eq_true_eq]
    exact ⟨fun hp => (List.prefix_iff_eq_take.1 hp).symm, fun e => by rw [← e]; exact List.take_prefix _ _⟩
  by_cases h : p.length ≤ l.length
  · have hcut : (S l).extract 0 p.length = S (l.take p.length) := cutTo l _
    have HE : Hid (p.isPrefixOf l = ((S (l.take p.length)).toList == (S p).toList)) := by
      show _ = _
      rw [hpt, ByteArray.toList_eq, ByteArray.toList_eq, list_S, list_S]
      by_cases h : l.take p.length = p
      · rw [h]; simp
      · rw [decide_eq_false h, eq_comm, beq_eq_false_iff_ne]; exact h
    clear hpt
    generalize S (l.take p.length) = T at hcut HE
    generalize S p = P at z1 HE
    generalize S l = L at z2 hcut
    have h1 : (p.length : Int) ≤ (l.length : Int) := by omega
    have h2 : (0 : Int) ≤ (p.length : Int) := by omega
    go_enter Tryz.func96, Tryz.ntmps96
    go_wp2
    go_ret
    exact ⟨by rw [HE.out]; rfl, rfl⟩
  · have HE : Hid (p.isPrefixOf l = false) := by
      show _ = _
      cases hb : p.isPrefixOf l with
      | false => rfl
      | true => exact absurd (List.isPrefixOf_iff_prefix.1 hb).length_le h
    clear hpt
    generalize S p = P at z1
    generalize S l = L at z2
    have h1 : decide ((p.length : Int) ≤ (l.length : Int)) = false := decide_eq_false (by omega)
    have h2 : decide (p.length ≤ l.length) = false := decide_eq_false h
    go_enter Tryz.func96, Tryz.ntmps96
    go_wp2
    go_ret
    exact ⟨by rw [HE.out]; rfl, rfl⟩
/-- Is an octet among these? -/
def hasB (l : List UInt8) (c : UInt8) : Bool := l.contains c
/-- Contract of the page's Has. -/
theorem rhas_c (s : ByteArray) (c : UInt8) (hs : s.size ≤ 4611686018427387904) (w : World) :
    Calls Tryz.prog 117 #[.string s, .int .u8 (c.toNat : Int)] w fun e w' => e = .returned (.bool (hasB s.data.toList c)) ∧ w = w' := by
  have HL := Lib.hid (fun k (h : k < s.size) => (by
    rw [List.getElem?_eq_getElem (by rw [size_list]; exact h)]
    rfl : s.data.toList[k]? = some s[k]))
  go_enter Tryz.func117, Tryz.ntmps117
  go_wp2_with fail
  go_loop [5] (fun i => ∃ k : Nat, k ≤ s.size ∧ i = .int .i64 k ∧ Hid (∀ j (x : UInt8), j < k → s.data.toList[j]? = some x → x ≠ c)) (fun i => s.size - (intOf i).toNat)
  case atStart => exact ⟨0, Nat.zero_le _, rfl, fun j _ h => absurd h (by omega)⟩
  case round =>
    obtain ⟨k, hk, rfl, hno⟩ := hrel
    by_cases hlt : k < s.size
    · have hx := HL.out k hlt
      by_cases he : s[k] = c
      · have HR : Hid (hasB s.data.toList c = true) := by
          show s.data.toList.contains c = true
          rw [List.contains_iff_mem, ← he]
          exact List.mem_of_getElem? hx
        have hb : ((s[k].toNat : Int) == (c.toNat : Int)) = true := by rw [he]; simp
        clear hx he
        go_wp2_with fail
        go_ret
        exact ⟨by rw [HR.out]; rfl, rfl⟩
      · have hb : ((s[k].toNat : Int) == (c.toNat : Int)) = false := by
          rw [beq_eq_false_iff_ne]
          intro e
          exact he (UInt8.toNat_inj.1 (by omega))
        have HN : Hid (∀ j (x : UInt8), j < k + 1 → s.data.toList[j]? = some x → x ≠ c) := fun j x hj hxj => by
          rcases Nat.lt_or_ge j k with h | h
          · exact hno.out j x h hxj
          · obtain rfl : j = k := by omega
            rw [hx] at hxj
            injection hxj with e
            rw [← e]
            exact he
        clear hx he
        go_wp2_with fail
        go_round
        case rel => exact ⟨k + 1, by omega, by go_num, HN⟩
        case measure => simp [intOf]; omega
    · have HR : Hid (hasB s.data.toList c = false) := by
        show s.data.toList.contains c = false
        rw [Bool.eq_false_iff]
        intro hc
        rw [List.contains_iff_mem] at hc
        obtain ⟨j, hj⟩ := List.mem_iff_getElem?.1 hc
        have hjl := (List.getElem?_eq_some_iff.1 hj).1
        rw [size_list] at hjl
        exact hno.out j c (by omega) hj rfl
      go_wp2_with fail
      go_ret
      exact ⟨by rw [HR.out]; rfl, rfl⟩

set_option maxHeartbeats 1000000 in
set_option maxRecDepth 100000 in
theorem rskip_c (l : List UInt8) (hl : l.length ≤ 4194304) (k0 : Nat) (hk0 : k0 ≤ l.length) {q : Nat} (hq : q = k0 + skipN (l.drop k0)) (w : World) :
    Calls Tryz.prog 60 #[.string (S l), .int .i64 (k0 : Int)] w fun e w' => e = .returned (.int .i64 (q : Int)) ∧ w = w' := by
  have hsz : ((S l).size : Int) = (l.length : Int) := by rw [size_S]
  have hsn : (S l).size = l.length := size_S l
  have HAt := Lib.hid (fun k (h : k < l.length) => at_S l k h)
  have HBl := Lib.hid (fun (c : UInt8) w => rblank_c (c.toNat : Int) w (by omega) (by have := c.toNat_lt; omega))
  have HQ := Lib.hid hq
  clear hq
  go_enter Tryz.func60, Tryz.ntmps60
  go_wp2_with fail
  go_loop [1] (fun i => ∃ k : Nat, k ≤ l.length ∧ i = .int .i64 k ∧ Hid (q = k + skipN (l.drop k))) (fun i => l.length - (intOf i).toNat)
  case atStart => exact ⟨k0, hk0, rfl, HQ.out⟩
  case round =>
    obtain ⟨k, hk, rfl, hE⟩ := hrel
    have i0 : (0 : Int) ≤ (k : Int) := by omega
    have i1 : (k : Int) ≤ 4194304 := by omega
    by_cases hlt : k < l.length
    · have h1 := HAt.out k hlt
      have hs := skip_drop hlt
      have hbc := HBl.out l[k]
      have hcb : ((l[k]).toNat : Int) ≤ 255 := by have := (l[k]).toNat_lt; omega
      have i2 : (k : Int) < (l.length : Int) := by omega
      have hd : decide ((k : Int) < (l.length : Int)) = true := decide_eq_true i2
      cases hb : Lex.bl l[k] with
      | true =>
        have hb' : blankI ((l[k]).toNat : Int) = true := hb
        rw [hb'] at hbc
        rw [hb, if_pos rfl] at hs
        have HN : Hid (q = (k + 1) + skipN (l.drop (k + 1))) := by have := hE.out; show _ = _; omega
        clear hb hb' hs hE HQ
        generalize l[k] = c at *
        go_wp2_with (go_at_call 90; refine (hbc _).mono ?_; rintro e w' ⟨rfl, rfl⟩)
        go_round
        case rel => exact ⟨k + 1, by omega, by go_num, HN⟩
        case measure => simp [intOf]; omega
      | false =>
        have hb' : blankI ((l[k]).toNat : Int) = false := hb
        rw [hb'] at hbc
        rw [hb, if_neg (by simp)] at hs
        obtain rfl : q = k := by have := hE.out; omega
        clear hb hb' hs hE HQ
        generalize l[q] = c at *
        go_wp2_with (go_at_call 90; refine (hbc _).mono ?_; rintro e w' ⟨rfl, rfl⟩)
        go_ret
        exact ⟨rfl, rfl⟩
    · have hs := skip_end (l := l) (k := k) (by omega)
      obtain rfl : q = k := by have := hE.out; omega
      have hd : decide ((q : Int) < (l.length : Int)) = false := decide_eq_false (by omega)
      have hd2 : decide (q < l.length) = false := decide_eq_false (by omega)
      clear hs hE HQ
      go_wp2_with fail
      go_ret
      exact ⟨rfl, rfl⟩
set_option maxHeartbeats 1000000 in
set_option maxRecDepth 100000 in
theorem rbegin_c (l : List UInt8) (k : Nat) (hk : k ≤ 4194305) (w : World) :
    Calls Tryz.prog 91 #[.string (S l), .int .i64 (k : Int)] w fun e w' => e = .returned (.bool (begB (nextO l k))) ∧ w = w' := by
  have hsz : ((S l).size : Int) = (l.length : Int) := by rw [size_S]
  have hsn : (S l).size = l.length := size_S l
  have i0 : (0 : Int) ≤ (k : Int) := by omega
  have i1 : (k : Int) ≤ 4194305 := by omega
  by_cases hlt : k < l.length
  · have h1 := at_S l k hlt
    have i2 : (k : Int) < (l.length : Int) := by omega
    have hd : decide ((k : Int) < (l.length : Int)) = true := decide_eq_true i2
    rw [nextO_at hlt]
    have hcb : ((l[k]).toNat : Int) ≤ 255 := by have := (l[k]).toNat_lt; omega
    by_cases hq : l[k] = 95
    · have e95 : ((l[k]).toNat : Int) = 95 := by rw [hq]; rfl
      have HB : Hid (begB l[k] = true) := by rw [hq]; rfl
      have hrl : ∀ W, Calls Tryz.prog 67 #[.int .u8 95] W fun e w' => e = .returned (.bool false) ∧ W = w' := fun W => rletter_c 95 W (by decide) (by decide)
      clear hq
      generalize l[k] = c at *
      go_enter Tryz.func91, Tryz.ntmps91
      go_wp2_with (go_at_call 67; refine (hrl _).mono ?_; rintro e w' ⟨rfl, rfl⟩)
      go_ret
      exact ⟨by rw [HB.out]; rfl, rfl⟩
    · have hrl := fun w => rletter_c ((l[k]).toNat : Int) w (by omega) hcb
      have b95 : (((l[k]).toNat : Int) == 95) = false := oct_ne (n := 95) hq (by decide)
      have n95 : ¬ ((l[k]).toNat : Int) = 95 := by rw [beq_eq_false_iff_ne] at b95; exact b95
      have HB : Hid (begB l[k] = letterI ((l[k]).toNat : Int)) := by
        show _ = _
        unfold begB
        simp [hq]
      clear hq
      generalize l[k] = c at *
      generalize letterI (c.toNat : Int) = z at *
      go_enter Tryz.func91, Tryz.ntmps91
      cases z with
      | true =>
        go_wp2_with (go_at_call 67; refine (hrl _).mono ?_; rintro e w' ⟨rfl, rfl⟩)
        go_ret
        exact ⟨by rw [HB.out]; rfl, rfl⟩
      | false =>
        go_wp2_with (go_at_call 67; refine (hrl _).mono ?_; rintro e w' ⟨rfl, rfl⟩)
        go_ret
        exact ⟨by rw [HB.out]; rfl, rfl⟩
  · have hd : decide ((k : Int) < (l.length : Int)) = false := decide_eq_false (by omega)
    have hd2 : decide (k < l.length) = false := decide_eq_false (by omega)
    rw [nextO_end hlt]
    go_enter Tryz.func91, Tryz.ntmps91
    go_wp2_with fail
    go_ret
    exact ⟨rfl, rfl⟩
/-- Where a name ends; 0 where none stands. -/
def nameEnds (l : List UInt8) (k : Nat) : Nat := if nameN (l.drop k) = 0 then 0 else k + nameN (l.drop k)
set_option maxHeartbeats 1000000 in
set_option maxRecDepth 100000 in
theorem rname_c (l : List UInt8) (hl : l.length ≤ 4194304) (k0 : Nat) (hk0 : k0 ≤ l.length) (w : World) :
    Calls Tryz.prog 92 #[.string (S l), .int .i64 (k0 : Int)] w fun e w' => e = .returned (.int .i64 (nameEnds l k0 : Int)) ∧ w = w' := by
  have hsz : ((S l).size : Int) = (l.length : Int) := by rw [size_S]
  have hsn : (S l).size = l.length := size_S l
  have HBg := Lib.hid (fun k (hk : k ≤ l.length) W => rbegin_c l k (by omega) W)
  have hN := nameN_at l k0
  have hbe := fun W => HBg.out k0 hk0 W
  cases hb : begB (nextO l k0) with
  | false =>
    rw [hb] at hbe hN
    rw [if_neg (by simp)] at hN
    have e : nameEnds l k0 = 0 := by unfold nameEnds; rw [if_pos hN]
    rw [e]
    go_enter Tryz.func92, Tryz.ntmps92
    go_wp2_with (go_at_call 91; refine (hbe _).mono ?_; rintro e w' ⟨rfl, rfl⟩)
    go_ret
    exact ⟨rfl, rfl⟩
  | true =>
    rw [hb] at hbe hN
    rw [if_pos rfl] at hN
    have hpos : 0 < twN nameC l k0 := by
      rcases twN_step (p := nameC) (by decide) l k0 with ⟨_, _, h3⟩ | ⟨h1, _⟩
      · omega
      · unfold nameC at h1
        rw [hb] at h1
        exact absurd h1 (by simp)
    obtain ⟨q, hq⟩ : ∃ q, q = nameEnds l k0 := ⟨_, rfl⟩
    have HQ : Hid (q = k0 + twN nameC l k0) := by show _ = _; rw [hq]; unfold nameEnds; rw [hN, if_neg (by omega)]
    rw [← hq]
    have HAt := Lib.hid (fun k (h : k < l.length) => at_S l k h)
    have HDi := Lib.hid (fun (c : UInt8) w => Go.Proofs.YtmccbcficbbidaaGreatDoor.Oct.rdigit_c (c.toNat : Int) w (by omega) (by have := c.toNat_lt; omega))
    clear hq hN hb hpos
    go_enter Tryz.func92, Tryz.ntmps92
    go_wp2_with (go_at_call 91; refine (hbe _).mono ?_; rintro e w' ⟨rfl, rfl⟩)
    go_loop [1] (fun i => ∃ k : Nat, k ≤ l.length ∧ i = .int .i64 k ∧ Hid (q = k + twN nameC l k)) (fun i => l.length - (intOf i).toNat)
    case atStart => exact ⟨k0, hk0, rfl, HQ.out⟩
    case round =>
      clear HQ
      obtain ⟨k, hk, rfl, hE⟩ := hrel
      have i0 : (0 : Int) ≤ (k : Int) := by omega
      have i1 : (k : Int) ≤ 4194304 := by omega
      have hbk := fun W => HBg.out k hk W
      by_cases hlt : k < l.length
      · have h1 := HAt.out k hlt
        have hdi := HDi.out l[k]
        have hcb : ((l[k]).toNat : Int) ≤ 255 := by have := (l[k]).toNat_lt; omega
        have i2 : (k : Int) < (l.length : Int) := by omega
        have hd : decide ((k : Int) < (l.length : Int)) = true := decide_eq_true i2
        have hst := twN_step (p := nameC) (by decide) l k
        rw [nextO_at hlt] at hst hbk
        unfold nameC at hst
        replace hdi : ∀ w, Calls Tryz.prog 68 #[.int .u8 ((l[k]).toNat : Int)] w fun e w' => e = .returned (.bool (digC l[k])) ∧ w = w' := hdi
        rcases hst with ⟨g1, g2, g3⟩ | ⟨g1, g2⟩
        · have HN : Hid (q = (k + 1) + twN nameC l (k + 1)) := by
            have := hE.out
            show _ = _
            have e : twN nameC l k = twN (fun c => begB c || digC c) l k := rfl
            have e2 : twN nameC l (k + 1) = twN (fun c => begB c || digC c) l (k + 1) := rfl
            omega
          clear g2 g3 hE
          generalize l[k] = c at *
          cases hbb : begB c with
          | true =>
            rw [hbb] at hbk
            go_wp2_with (go_at_call 91; refine (hbk _).mono ?_; rintro e w' ⟨rfl, rfl⟩)
            go_round
            case rel => exact ⟨k + 1, by omega, by go_num, HN⟩
            case measure => simp [intOf]; omega
          | false =>
            rw [hbb] at hbk g1
            have g1 : digC c = true := g1
            rw [g1] at hdi
            go_wp2_with (first
              | (go_at_call 91; refine (hbk _).mono ?_; rintro e w' ⟨rfl, rfl⟩)
              | (go_at_call 68; refine (hdi _).mono ?_; rintro e w' ⟨rfl, rfl⟩))
            go_round
            case rel => exact ⟨k + 1, by omega, by go_num, HN⟩
            case measure => simp [intOf]; omega
        · obtain rfl : q = k := by
            have := hE.out
            have e : twN nameC l k = twN (fun c => begB c || digC c) l k := rfl
            omega
          clear g2 hE
          generalize l[q] = c at *
          rw [Bool.or_eq_false_iff] at g1
          obtain ⟨g0, g1⟩ := g1
          rw [g0] at hbk
          rw [g1] at hdi
          go_wp2_with (first
            | (go_at_call 91; refine (hbk _).mono ?_; rintro e w' ⟨rfl, rfl⟩)
            | (go_at_call 68; refine (hdi _).mono ?_; rintro e w' ⟨rfl, rfl⟩))
          go_ret
          exact ⟨rfl, rfl⟩
      · obtain rfl : q = k := by
          have := hE.out
          have e : twN nameC l k = 0 := by unfold twN; rw [List.drop_of_length_le (by omega)]; rfl
          omega
        have hd : decide ((q : Int) < (l.length : Int)) = false := decide_eq_false (by omega)
        have hd2 : decide (q < l.length) = false := decide_eq_false (by omega)
        clear hE
        go_wp2_with fail
        go_ret
        exact ⟨rfl, rfl⟩
/-- Where points and names end, or an error. -/
def DotsTo (r : Except Nat Nat) (e : Ending) : Prop := match r with
  | .ok q => e = .returned (.tuple #[.int .i64 (q : Int), .int .i64 0])
  | .error _ => ∃ (a : Nat) (n : Int), n ≠ 0 ∧ e = .returned (.tuple #[.int .i64 (a : Int), .int .i64 n])
theorem DotsTo.good {r : Except Nat Nat} {q : Nat} (h : r = .ok q) : DotsTo r (.returned (.tuple #[.int .i64 (q : Int), .int .i64 0])) := by subst h; rfl
theorem DotsTo.bad {r : Except Nat Nat} {x a : Nat} {n : Int} (h : r = .error x) (hn : n ≠ 0 := by decide) : DotsTo r (.returned (.tuple #[.int .i64 (a : Int), .int .i64 n])) := by subst h; exact ⟨a, n, hn, rfl⟩
set_option maxHeartbeats 1000000 in
set_option maxRecDepth 100000 in
theorem rdots_c (l : List UInt8) (hl : l.length ≤ 4194304) (k0 : Nat) (hk0 : k0 ≤ l.length) (w : World) :
    Calls Tryz.prog 93 #[.string (S l), .int .i64 (k0 : Int)] w fun e w' => DotsTo (addE k0 (dotsL (l.drop k0))) e ∧ w = w' := by
  have hsz : ((S l).size : Int) = (l.length : Int) := by rw [size_S]
  have hsn : (S l).size = l.length := size_S l
  have HAt := Lib.hid (fun k (h : k < l.length) => at_S l k h)
  have HNm := Lib.hid (fun k (hk : k ≤ l.length) W => rname_c l hl k hk W)
  obtain ⟨r, hr⟩ : ∃ r, r = addE k0 (dotsL (l.drop k0)) := ⟨_, rfl⟩
  rw [← hr]
  have HR := Lib.hid hr
  clear hr
  go_enter Tryz.func93, Tryz.ntmps93
  go_wp2_with fail
  go_loop [1] (fun i => ∃ k : Nat, k ≤ l.length ∧ i = .int .i64 k ∧ Hid (r = addE k (dotsL (l.drop k)))) (fun i => l.length - (intOf i).toNat)
  case atStart => exact ⟨k0, hk0, rfl, HR.out⟩
  case round =>
    obtain ⟨j, hj, rfl, hE⟩ := hrel
    have i0 : (0 : Int) ≤ (j : Int) := by omega
    have i1 : (j : Int) ≤ 4194304 := by omega
    obtain ⟨m, hm⟩ : ∃ m, m = j + 1 := ⟨_, rfl⟩
    have hmi : (j : Int) + 1 = (m : Int) := by omega
    rcases dots_at l j with ⟨g1, g2, g3⟩ | ⟨g1, g2⟩
    · have hjl : j < l.length := by omega
      have h1 := HAt.out j hjl
      rw [nextO_at hjl] at g1
      have e46 : ((l[j]).toNat : Int) = 46 := by rw [g1]; rfl
      rw [← hm] at g2 g3
      have hml : m ≤ l.length := by omega
      have i2 : (m : Int) < (l.length : Int) := by omega
      have i3 : (j : Int) < (l.length : Int) := by omega
      have hd : decide ((m : Int) < (l.length : Int)) = true := decide_eq_true i2
      have hn := fun W => HNm.out m hml W
      have hnl := nameN_le l m hml
      obtain ⟨q, hq⟩ : ∃ q, q = nameEnds l m := ⟨_, rfl⟩
      rw [← hq] at hn
      have HM := Lib.hid hm
      rcases g3 with ⟨n1, n2⟩ | ⟨n0, n1, n2⟩ | ⟨n0, n1, n2⟩
      · obtain rfl : q = 0 := by rw [hq]; unfold nameEnds; rw [if_pos n1]
        have HX := Lib.hid (hE.out.trans n2)
        clear n1 n2 hq g1 hE hm
        go_wp2_with (go_at_call 92; refine (hn _).mono ?_; rintro e w' ⟨rfl, rfl⟩)
        go_ret2
        exact ⟨DotsTo.bad HX.out, rfl⟩
      · have hqe : q = m + nameN (l.drop m) := by rw [hq]; unfold nameEnds; rw [if_neg (by omega)]
        have HX := Lib.hid (hE.out.trans n2)
        have q0 : ¬ (q : Int) = 0 := by omega
        have b0 : ((q : Int) == 0) = false := by rw [beq_eq_false_iff_ne]; exact q0
        obtain ⟨d, hd5⟩ : ∃ d, d = nameN (l.drop m) := ⟨_, rfl⟩
        have hs1 : (q : Int) - (j : Int) = ((d + 1 : Nat) : Int) := by omega
        have hs2 : ((d + 1 : Nat) : Int) - 1 = (d : Int) := by omega
        have hs3 : ¬ (d : Int) ≤ 32 := by omega
        have hs4 : (32 : Int) < (d : Int) := by omega
        have hs5 : decide ((32 : Int) < (d : Int)) = true := decide_eq_true hs4
        have hs6 : (d : Int) ≤ 4194304 := by omega
        have hs7 : (q : Int) - (j : Int) - 1 = (d : Int) := by omega
        have hql : (q : Int) ≤ 4194304 := by omega
        clear n1 n2 hq g1 hE hm hqe hd5 n0 hnl
        go_wp2_with (go_at_call 92; refine (hn _).mono ?_; rintro e w' ⟨rfl, rfl⟩)
        go_ret2
        exact ⟨DotsTo.bad HX.out, rfl⟩
      · have hqe : q = m + nameN (l.drop m) := by rw [hq]; unfold nameEnds; rw [if_neg (by omega)]
        have HX : Hid (r = addE q (dotsL (l.drop q))) := by
          show _ = _
          rw [hqe]
          exact hE.out.trans n2
        have q0 : ¬ (q : Int) = 0 := by omega
        have b0 : ((q : Int) == 0) = false := by rw [beq_eq_false_iff_ne]; exact q0
        obtain ⟨d, hd5⟩ : ∃ d, d = nameN (l.drop m) := ⟨_, rfl⟩
        have hs1 : (q : Int) - (j : Int) = ((d + 1 : Nat) : Int) := by omega
        have hs2 : ((d + 1 : Nat) : Int) - 1 = (d : Int) := by omega
        have hs4 : ¬ (32 : Int) < (d : Int) := by omega
        have hs5 : decide ((32 : Int) < (d : Int)) = false := decide_eq_false hs4
        have hs6 : (d : Int) ≤ 4194304 := by omega
        have hs7 : (q : Int) - (j : Int) - 1 = (d : Int) := by omega
        have hql : q ≤ l.length := by omega
        have hqj : j < q := by omega
        clear n1 n2 hq g1 hE hm hqe hd5 n0 hnl
        go_wp2_with (go_at_call 92; refine (hn _).mono ?_; rintro e w' ⟨rfl, rfl⟩)
        go_round
        case rel => exact ⟨q, hql, rfl, HX⟩
        case measure => simp [intOf]; omega
    · have HX := Lib.hid (hE.out.trans g2)
      clear g2 hE
      by_cases hlt : m < l.length
      · have hjl : j < l.length := by omega
        have h1 := HAt.out j hjl
        have i2 : (m : Int) < (l.length : Int) := by omega
        have i3 : (j : Int) < (l.length : Int) := by omega
        have hd : decide ((m : Int) < (l.length : Int)) = true := decide_eq_true i2
        have hne : l[j] ≠ 46 := fun e => g1 ⟨by rw [nextO_at hjl, e], by omega⟩
        have b46 : (((l[j]).toNat : Int) == 46) = false := oct_ne (n := 46) hne (by decide)
        have n46 : ¬ ((l[j]).toNat : Int) = 46 := by rw [beq_eq_false_iff_ne] at b46; exact b46
        clear g1 hne hm
        generalize l[j] = c at *
        go_wp2_with fail
        go_ret2
        exact ⟨DotsTo.good HX.out, rfl⟩
      · have hd : decide ((m : Int) < (l.length : Int)) = false := decide_eq_false (by omega)
        have hd2 : decide (m < l.length) = false := decide_eq_false hlt
        clear g1 hm
        go_wp2_with fail
        go_ret2
        exact ⟨DotsTo.good HX.out, rfl⟩
end Go.Proofs.YtmccbcficbbidaaGreatDoor.Pwr
