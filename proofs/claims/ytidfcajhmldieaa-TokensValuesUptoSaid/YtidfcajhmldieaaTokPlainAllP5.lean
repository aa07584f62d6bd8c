/-
  Part 5: CrfOne, UtfRefDec, PgChars, UtfParts, UtfEach, UtfCalls, UtfRepair, UtfRefLists, UtfSame, CrfPgRow.
-/
import Derived.Test.YtidfcajhmldieaaTokPlainAllP4
import Derived.Maps.AppendAt
import Derived.Test.YtidfcajhmldieaaTokPlainAllP3
import Derived.RangeFuncNested
import Derived.RangeFuncBound
import Derived.RangeFuncCalls
import Derived.RangeFuncLeaves
import Derived.Shelf.Abstract
import Derived.Shelf.RegionOpen
import Derived.OwnWalkIn
import Derived.TacticsInMore
import Derived.LoopNIn
import Derived.LoopIn
import Derived.Lib.AppendStr
import Derived.Test.YtidfcajhmldieaaTokPlainAllP2
/-
  Contract of the page's One.
-/
namespace Go.Proofs.Ytidfcajhmldieaa.Crf
open Go.RowKit Go.Proofs.Ytidfcajhmldieaa.Oct Go.Proofs.Ytidfcajhmldieaa.Num Go.Proofs.Ytidfcajhmldieaa.Utf
open Go.Lib (encodeRune)

theorem two_eq {a a' : ByteArray} {m m' : Int} (h1 : a = a') (h2 : m = m') : Ending.returned (.tuple #[.string a, .int .i64 m]) = .returned (.tuple #[.string a', .int .i64 m']) := by rw [h1, h2]

/-- The k-th name between its ends. -/
def wordP (k : Nat) : List UInt8 := 38 :: (wordL k ++ [59])
theorem wordP_len (k : Nat) : (wordP k).length = (wordL k).length + 2 := by simp [wordP]
theorem word_small (k : Nat) : (wordL k).length ≤ 4 := by
  unfold wordL
  split <;> decide
theorem pOne_name {l : List UInt8} {k : Nat} (hk : k < 5) (h : Lib.hasPrefix l (wordP k) = true) : oneL l = (wordS k, (wordP k).length) := by
  obtain ⟨t, ht⟩ := pre_cut h
  have hr : refR (wordL k) = wordS k := by
    have := name_word hk rfl
    unfold refR
    rw [if_pos (by rw [this]; exact wordS_ne k), this]
  have e : l = 38 :: (wordL k ++ 59 :: t) := by rw [ht]; simp [wordP]
  rw [e, one_of _ _ (by rw [hr]; exact wordS_ne k), hr, wordP_len]
theorem pOne_none {l : List UInt8} (h : ∀ k, k < 5 → Lib.hasPrefix l (wordP k) = false) (hn : Lib.hasPrefix l [38, 35] = false) : oneL l = ([], 0) := by
  have h0 : Lib.hasPrefix l [38, 97, 109, 112, 59] = false := h 0 (by omega)
  have h1 : Lib.hasPrefix l [38, 108, 116, 59] = false := h 1 (by omega)
  have h2 : Lib.hasPrefix l [38, 103, 116, 59] = false := h 2 (by omega)
  have h3 : Lib.hasPrefix l [38, 113, 117, 111, 116, 59] = false := h 3 (by omega)
  have h4 : Lib.hasPrefix l [38, 97, 112, 111, 115, 59] = false := h 4 (by omega)
  rw [← pOne_eq]
  unfold pOne
  rw [h0, h1, h2, h3, h4, hn]
  rfl
theorem pOne_num (u : List UInt8) : oneL (38 :: 35 :: u) = pNum u := by
  rw [← pOne_eq]
  simp [pOne, Lib.hasPrefix, List.isPrefixOf]
theorem num_names (u : List UInt8) (k : Nat) : Lib.hasPrefix (38 :: 35 :: u) (wordP k) = false := by
  unfold wordP wordL
  split <;> simp [Lib.hasPrefix, List.isPrefixOf]
theorem pNum_bad {u : List UInt8} (h : ¬ (1 ≤ runN (baseOf u) (digsOf u) ∧ runN (baseOf u) (digsOf u) ≤ 7 ∧ (digsOf u)[runN (baseOf u) (digsOf u)]? = some 59)) : pNum u = ([], 0) := by
  unfold pNum
  rw [if_neg h]
theorem pNum_good {u : List UInt8} (h : 1 ≤ runN (baseOf u) (digsOf u) ∧ runN (baseOf u) (digsOf u) ≤ 7 ∧ (digsOf u)[runN (baseOf u) (digsOf u)]? = some 59) :
    pNum u = (standL (valB (baseOf u) ((digsOf u).take (runN (baseOf u) (digsOf u)))), 2 + (if isHex u then 1 else 0) + runN (baseOf u) (digsOf u) + 1) := by
  unfold pNum
  rw [if_pos h]

/-- The block of the five names. -/
abbrev fiveW (w : World) : World := w.alloc (.cells #[.string ⟨#[38, 97, 109, 112, 59]⟩, .string ⟨#[38, 108, 116, 59]⟩, .string ⟨#[38, 103, 116, 59]⟩, .string ⟨#[38, 113, 117, 111, 116, 59]⟩, .string ⟨#[38, 97, 112, 111, 115, 59]⟩] 9)
theorem five_cell (w : World) (k : Nat) (h : k < 5) : (fiveW w).cell? ⟨w.heap.size, k, none⟩ = some (.string (S (wordP k))) := by
  have e := heap_alloc_new w (.cells #[.string ⟨#[38, 97, 109, 112, 59]⟩, .string ⟨#[38, 108, 116, 59]⟩, .string ⟨#[38, 103, 116, 59]⟩, .string ⟨#[38, 113, 117, 111, 116, 59]⟩, .string ⟨#[38, 97, 112, 111, 115, 59]⟩] 9)
  match k, h with
  | 0, _ => exact cell_of_row _ w.heap.size 0 _ _ _ e
  | 1, _ => exact cell_of_row _ w.heap.size 1 _ _ _ e
  | 2, _ => exact cell_of_row _ w.heap.size 2 _ _ _ e
  | 3, _ => exact cell_of_row _ w.heap.size 3 _ _ _ e
  | 4, _ => exact cell_of_row _ w.heap.size 4 _ _ _ e
theorem five_cut (k : Nat) (h : k < 5) : (⟨#[38, 60, 62, 34, 39]⟩ : ByteArray).extract k (k + 1) = S (wordS k) := by
  have : ∀ k : Fin 5, (⟨#[38, 60, 62, 34, 39]⟩ : ByteArray).extract k.val (k.val + 1) = S (wordS k.val) := by decide +kernel
  exact this ⟨k, h⟩

set_option maxHeartbeats 4000000 in
set_option maxRecDepth 100000 in
/-- Where no sign follows. -/
theorem rone_names (l : List UInt8) (hn : Lib.hasPrefix l [38, 35] = false) (w : World) :
    Calls Try.prog 20 #[.string (S l)] w fun e w' => e = .returned (.tuple #[.string (S (oneL l).1), .int .i64 ((oneL l).2 : Int)]) ∧ Below w.heap.size w w' := by
  have HB := Lib.hid (fun k w => rbegins_c (wordP k) l w)
  have hbn : ∀ w : World, Calls Try.prog 13 #[.string ⟨#[38, 35]⟩, .string (S l)] w fun e w' => e = .returned (.bool false) ∧ w = w' := fun w => by
    have := rbegins_c [38, 35] l w
    rw [hn] at this
    exact this
  have HC := Lib.hid (fun k h => five_cell w k h)
  have HCut := Lib.hid (fun k h => five_cut k h)
  have H0 : Hid (Below w.heap.size w (fiveW w)) := (Below.refl _ w).alloc (Nat.le_refl _) _
  obtain ⟨w1, hw0⟩ : ∃ w1, w1 = fiveW w := ⟨_, rfl⟩
  rw [← hw0] at HC H0
  have hw1 : w1 = w.alloc (.cells #[.string ⟨#[38, 97, 109, 112, 59]⟩, .string ⟨#[38, 108, 116, 59]⟩, .string ⟨#[38, 103, 116, 59]⟩, .string ⟨#[38, 113, 117, 111, 116, 59]⟩, .string ⟨#[38, 97, 112, 111, 115, 59]⟩] 9) := hw0
  have HW1 := Lib.hid hw1
  clear hw1 hw0
  have HN := Lib.hid hn
  clear hn
  generalize S l = L at HB hbn
  go_enter Try.func20, Try.ntmps20
  go_wp2_with fail
  rw [← HW1.out]
  clear HW1
  go_loop [5] (fun i => ∃ k : Nat, k ≤ 5 ∧ i = .int .i64 k ∧ Hid (∀ j, j < k → Lib.hasPrefix l (wordP j) = false)) (fun i => 5 - (intOf i).toNat)
  case atStart => exact ⟨0, Nat.zero_le _, rfl, fun j h => absurd h (by omega)⟩
  case round =>
    obtain ⟨k, hk, rfl, hno⟩ := hrel
    by_cases hlt : k < 5
    · have hc := HC.out k hlt
      have hb := HB.out k w1
      have i0 : (0 : Int) ≤ (k : Int) := by omega
      have i1 : (k : Int) < 5 := by omega
      cases hq : Lib.hasPrefix l (wordP k) with
      | true =>
        have HR : Hid (oneL l = (wordS k, (wordP k).length)) := pOne_name hlt hq
        have hcut := HCut.out k hlt
        have hz : ((S (wordP k)).size : Int) = ((wordP k).length : Int) := by rw [size_S]
        rw [hq] at hb
        generalize S (wordP k) = P at hc hb hz
        generalize hSt : S (wordS k) = St at hcut
        have HSt := Lib.hid hSt
        generalize hn2 : (wordP k).length = m at hz
        have HM := Lib.hid hn2
        have i2 : (k : Int) + 1 ≤ 5 := by omega
        have i3 : (k : Int) ≤ (k : Int) + 1 := by omega
        have i4 : ((k : Int) + 1).toNat = k + 1 := by omega
        have i5 : (0 : Int) ≤ (k : Int) + 1 := by omega
        have i6 : IntKind.i64.wrap ((k : Int) + 1) = (k : Int) + 1 := by rw [IntKind.wrap_i64]; omega
        have H6 := Lib.hid i6
        clear hq hSt hn2 i6
        go_wp2_with (first | (go_at_call 13; refine hb.mono ?_; rintro e w2 ⟨rfl, rfl⟩))
        have i6 := H6.out
        have z5 : (⟨#[38, 60, 62, 34, 39]⟩ : ByteArray).size = 5 := rfl
        go_quiet (fail)
        rename_i nq _
        go_wp2
        go_ret2
        exact ⟨two_eq (by rw [HR.out]; exact HSt.out.symm) (by rw [HR.out]; show (m : Int) = (((wordP k).length : Nat) : Int); rw [HM.out]), drewB H0.out nq⟩
      | false =>
        have HNW := Lib.hid hq
        rw [hq] at hb
        generalize hP : S (wordP k) = P at hc hb
        clear hq hP
        go_wp2_with (first | (go_at_call 13; refine hb.mono ?_; rintro e w2 ⟨rfl, rfl⟩))
        go_round
        case rel => exact ⟨k + 1, by omega, by go_num, fun j hj => by
          rcases Nat.lt_or_ge j k with h | h
          · exact hno.out j h
          · obtain rfl : j = k := by omega
            exact HNW.out⟩
        case measure => simp [intOf]; omega
    · obtain rfl : k = 5 := by omega
      have HR : Hid (oneL l = ([], 0)) := pOne_none hno.out HN.out
      go_wp2_with (first | (go_at_call 13; refine (hbn _).mono ?_; rintro e w2 ⟨rfl, rfl⟩))
      go_ret2
      exact ⟨by rw [HR.out]; rfl, H0.out⟩

set_option maxHeartbeats 8000000 in
set_option maxRecDepth 100000 in
theorem rone_x (u : List UInt8) (hu : u.length ≤ 2305843009213693000) (v : List UInt8) (hv : u = 120 :: v) (w : World) :
    Calls Try.prog 20 #[.string (S (38 :: 35 :: u))] w fun e w' => e = .returned (.tuple #[.string (S (oneL (38 :: 35 :: u)).1), .int .i64 ((oneL (38 :: 35 :: u)).2 : Int)]) ∧ Below w.heap.size w w' := by
  have HB := Lib.hid (fun k w => (by have := rbegins_c (wordP k) (38 :: 35 :: u) w; rw [num_names] at this; exact this : Calls Try.prog 13 #[.string (S (wordP k)), .string (S (38 :: 35 :: u))] w fun e w' => e = .returned (.bool false) ∧ w = w'))
  have hbn : ∀ w : World, Calls Try.prog 13 #[.string ⟨#[38, 35]⟩, .string (S (38 :: 35 :: u))] w fun e w' => e = .returned (.bool true) ∧ w = w' := fun w => rbegins_c [38, 35] (38 :: 35 :: u) w
  have HC := Lib.hid (fun k h => five_cell w k h)
  have H0 : Hid (Below w.heap.size w (fiveW w)) := (Below.refl _ w).alloc (Nat.le_refl _) _
  obtain ⟨w1, hw0⟩ : ∃ w1, w1 = fiveW w := ⟨_, rfl⟩
  rw [← hw0] at HC H0
  have hw1 : w1 = w.alloc (.cells #[.string ⟨#[38, 97, 109, 112, 59]⟩, .string ⟨#[38, 108, 116, 59]⟩, .string ⟨#[38, 103, 116, 59]⟩, .string ⟨#[38, 113, 117, 111, 116, 59]⟩, .string ⟨#[38, 97, 112, 111, 115, 59]⟩] 9) := hw0
  have HW1 := Lib.hid hw1
  clear hw1 hw0
  obtain ⟨t, ht⟩ : ∃ t, t = digsOf u := ⟨_, rfl⟩
  obtain ⟨n, hn⟩ : ∃ n, n = runN 16 t := ⟨_, rfl⟩
  have hhex : isHex u = true := by rw [hv]; rfl
  have hbase : baseOf u = 16 := by unfold baseOf; rw [hhex]; rfl
  have hdr : (38 :: 35 :: u).drop 3 = digsOf u := by rw [hv]; rfl
  have hsz : (S (38 :: 35 :: u)).size = u.length + 2 := by rw [size_S]; rfl
  have hszt : u.length + 2 = 3 + t.length := by
    have h9 := digs_len u
    rw [hhex, ← ht] at h9
    rw [if_pos rfl] at h9
    omega
  have hkey : runN (baseOf u) (digsOf u) = n := by rw [hbase, ← ht]; exact hn.symm
  have hdrop : (S (38 :: 35 :: u)).data.toList.drop 3 = t := by rw [list_S, ht]; exact hdr
  have hrun := fun w => rrun_c (S (38 :: 35 :: u)) 3 true (by omega) (by omega) w
  rw [hdrop] at hrun
  have hrun : ∀ w : World, Calls Try.prog 27 #[.string (S (38 :: 35 :: u)), .int .i64 3, .bool true] w fun e w' => e = .returned (.int .i64 (n : Int)) ∧ w = w' := fun w => by rw [hn]; exact hrun w
  have hnt : n ≤ t.length := by rw [hn]; exact runN_le _ _
  have hone := pOne_num u
  have hbad : (¬ (1 ≤ n ∧ n ≤ 7 ∧ t[n]? = some 59)) → Hid (oneL (38 :: 35 :: u) = ([], 0)) := fun h => by
    show _ = _
    rw [hone]
    refine pNum_bad ?_
    rw [hkey, ← ht]
    exact h
  have hgood : (1 ≤ n ∧ n ≤ 7 ∧ t[n]? = some 59) → Hid (oneL (38 :: 35 :: u) = (standL (valB 16 (t.take n)), 3 + n + 1)) := fun h => by
    show _ = _
    have this := pNum_good (u := u) (by rw [hkey, ← ht]; exact h)
    rw [hkey, hbase, ← ht, hhex] at this
    rw [hone, this]
    simp
  have hget : ∀ (h : 3 + n < (S (38 :: 35 :: u)).size), t[n]? = some ((S (38 :: 35 :: u))[3 + n]'h) := fun h => by
    rw [← hdrop, List.getElem?_drop, List.getElem?_eq_getElem (by rw [size_list]; exact h)]
    rfl
  have hcut : (S (38 :: 35 :: u)).extract 3 (3 + n) = S (t.take n) := by
    rw [Lib.extract_eq, hdrop, show 3 + n - 3 = n by omega]
  have hall : (t.take n).all (digB 16) = true := by rw [hn]; exact runN_all _ _
  have hnum := fun (h : n ≤ 7) w => rnumber_c (t.take n) 16 (by omega) (by rw [List.length_take]; omega) hall w
  have henc : ∀ c w, Calls Try.prog 19 #[.int .i64 c] w fun e w' => e = .returned (.tuple #[.string (encS c), .int .i64 (encE c)]) ∧ Below w.heap.size w w' := fun c w => rencode_c c w
  have hfff : ∀ w : World, Calls Try.prog 19 #[.int .i64 65533] w fun e w' => e = .returned (.tuple #[.string (S [239, 191, 189]), .int .i64 0]) ∧ Below w.heap.size w w' := fun w => by
    have h := rencode_yes 65533 w (by decide)
    have e : encodeRune 65533 = [239, 191, 189] := by decide +kernel
    rw [e] at h
    exact h
  have hszi : ((S (38 :: 35 :: u)).size : Int) = (t.length : Int) + 3 := by omega
  have h2 : 2 < (S (38 :: 35 :: u)).size := by rw [hsz, hv, List.length_cons]; omega
  have hs2' : ∀ h : 2 < (S (38 :: 35 :: u)).size, (S (38 :: 35 :: u))[2]'h = 120 := by rw [hv]; intro h; rfl
  have hs2 := hs2' h2
  have hx1 : (((S (38 :: 35 :: u))[2].toNat : Int) == 120) = true := by rw [hs2]; rfl

  have h2i : (2 : Int) < (t.length : Int) + 3 := by omega
  generalize S (38 :: 35 :: u) = s at *
  have HRun := Lib.hid hrun
  have HNum := Lib.hid hnum
  have HBad := Lib.hid hbad
  have HGood := Lib.hid hgood
  have HGet := Lib.hid hget
  have HCut := Lib.hid hcut
  have HSz := Lib.hid hsz
  have HSzi := Lib.hid hszi
  have HSzt := Lib.hid hszt
  have HEnc := Lib.hid henc
  clear hrun hnum hbad hgood hget hcut hsz hszi hszt henc hone hdrop hall ht hn hbase hhex hdr hv hs2 hs2'
  have i0 : (0 : Int) ≤ (n : Int) := by omega
  go_enter Try.func20, Try.ntmps20
  go_wp2_with fail
  rw [← HW1.out]
  clear HW1
  go_loop [5] (fun i => ∃ k : Nat, k ≤ 5 ∧ i = .int .i64 k) (fun i => 5 - (intOf i).toNat)
  case atStart => exact ⟨0, Nat.zero_le _, rfl⟩
  case round =>
    obtain ⟨k, hk, rfl⟩ := hrel
    by_cases hlt : k < 5
    · have hc := HC.out k hlt
      have hb := HB.out k w1
      have j0 : (0 : Int) ≤ (k : Int) := by omega
      have j1 : (k : Int) < 5 := by omega
      generalize hP : S (wordP k) = P at hc hb
      clear hP
      go_wp2_with (first | (go_at_call 13; refine hb.mono ?_; rintro e w2 ⟨rfl, rfl⟩))
      go_round
      case rel => exact ⟨k + 1, by omega, by go_num⟩
      case measure => simp [intOf]; omega
    · obtain rfl : k = 5 := by omega
      clear HB HC
      have hrun := HRun.out
      have hszi := HSzi.out
      rcases (by omega : n = 0 ∨ 7 < n ∨ (1 ≤ n ∧ n ≤ 7 ∧ t.length ≤ n) ∨ (1 ≤ n ∧ n ≤ 7 ∧ n < t.length)) with hn0 | hn7 | ⟨hn1, hn7, hnt2⟩ | ⟨hn1, hn7, hnt2⟩
      · have HR := HBad.out (fun h => by have := h.1; omega)
        subst hn0
        go_wp2_with fail
        refine (hbn _).mono ?_
        rintro e w2 ⟨rfl, rfl⟩
        go_wp2_with fail
        refine (hrun _).mono ?_
        rintro e w3 ⟨rfl, rfl⟩
        go_wp2_with fail
        go_ret2
        exact ⟨by rw [HR.out]; rfl, H0.out⟩
      · have HR := HBad.out (fun h => by have := h.2.1; omega)
        have d1 : decide ((n : Int) < 1) = false := decide_eq_false (by omega)
        have d2 : (7 : Int) < (n : Int) := by omega
        go_wp2_with fail
        refine (hbn _).mono ?_
        rintro e w2 ⟨rfl, rfl⟩
        go_wp2_with fail
        refine (hrun _).mono ?_
        rintro e w3 ⟨rfl, rfl⟩
        go_wp2_with fail
        go_ret2
        exact ⟨by rw [HR.out]; rfl, H0.out⟩
      · have HR := HBad.out (fun h => by have := h.2.2; rw [List.getElem?_eq_none (by omega)] at this; cases this)
        have d1 : decide ((n : Int) < 1) = false := decide_eq_false (by omega)
        have d2 : decide ((7 : Int) < (n : Int)) = false := decide_eq_false (by omega)
        have d3 : (t.length : Int) + 3 ≤ 3 + (n : Int) := by omega
        go_wp2_with fail
        refine (hbn _).mono ?_
        rintro e w2 ⟨rfl, rfl⟩
        go_wp2_with fail
        refine (hrun _).mono ?_
        rintro e w3 ⟨rfl, rfl⟩
        go_wp2_with fail
        go_ret2
        exact ⟨by rw [HR.out]; rfl, H0.out⟩
      · have hlt2 : 3 + n < s.size := by have := HSz.out; have := HSzt.out; omega
        have d1 : decide ((n : Int) < 1) = false := decide_eq_false (by omega)
        have d2 : decide ((7 : Int) < (n : Int)) = false := decide_eq_false (by omega)
        have d3 : decide ((t.length : Int) + 3 ≤ 3 + (n : Int)) = false := decide_eq_false (by omega)
        have d4 : 3 + (n : Int) < (t.length : Int) + 3 := by omega
        have d5 : ((3 : Int) + (n : Int)).toNat = 3 + n := by omega
        have d6 : (0 : Int) ≤ 3 + (n : Int) := by omega
        have hcn : (s[3 + n].toNat : Int) ≤ 255 := by have := s[3 + n].toNat_lt; omega
        by_cases hsc : s[3 + n] = 59
        · have hbq : ((s[3 + n].toNat : Int) != 59) = false := by rw [hsc]; rfl
          have HR := HGood.out ⟨hn1, hn7, by rw [HGet.out hlt2, hsc]⟩
          have hnum := HNum.out hn7
          have hcut := HCut.out
          have d7 : (3 : Int) ≤ 3 + (n : Int) := by omega
          have d8 : 3 + (n : Int) ≤ (t.length : Int) + 3 := by omega
          generalize valB 16 (t.take n) = c at hnum HR
          generalize S (t.take n) = T at hnum hcut
          have henc := HEnc.out (c : Int)
          by_cases hch : isChar (c : Int)
          · by_cases hz : c = 0
            · subst hz
              have HS : Hid (standL 0 = [239, 191, 189]) := by show _ = _; decide
              have henc : ∀ w : World, Calls Try.prog 19 #[.int .i64 0] w fun e w' => e = .returned (.tuple #[.string (encS 0), .int .i64 0]) ∧ Below w.heap.size w w' := henc
              have hnum : ∀ w : World, Calls Try.prog 28 #[.string T, .int .i64 16] w fun e w' => e = .returned (.int .i64 0) ∧ w = w' := hnum
              generalize encS 0 = E at henc
              clear hch
              go_wp2_with fail
              refine (hbn _).mono ?_
              rintro e w2 ⟨rfl, rfl⟩
              go_wp2_with fail
              refine (hrun _).mono ?_
              rintro e w3 ⟨rfl, rfl⟩
              go_wp2_with fail
              refine (hnum _).mono ?_
              rintro e w4 ⟨rfl, rfl⟩
              go_wp2_with fail
              refine (henc _).mono ?_
              rintro e w5 ⟨rfl, hb5⟩
              go_wp2_with fail
              refine (hfff _).mono ?_
              rintro e w6 ⟨rfl, hb6⟩
              go_wp2_with fail
              go_ret2
              exact ⟨two_eq (by rw [HR.out]; show S [239, 191, 189] = S _; rw [HS.out]) (by rw [HR.out]; push_cast; omega), H0.out.trans ((hb5.mono H0.out.size).trans (hb6.mono (Nat.le_trans H0.out.size hb5.size)))⟩
            · have e1 : standL c = encodeRune (c : Int) := by unfold standL; rw [if_pos ⟨hch, hz⟩]
              have e2 : charB (c : Int) = true := decide_eq_true hch
              have e3 : encS (c : Int) = S (standL c) := by rw [e1]; unfold encS; rw [if_pos e2]
              have e4 : encE (c : Int) = 0 := by unfold encE; rw [if_pos e2]
              rw [e3, e4] at henc
              have hz0 : ((c : Int) == 0) = false := by simp; exact hz
              clear e1 e2 e3 e4 hch hz
              generalize hSt : S (standL c) = St at henc
              have HSt := Lib.hid hSt
              clear hSt
              have hnum : ∀ w : World, Calls Try.prog 28 #[.string T, .int .i64 16] w fun e w' => e = .returned (.int .i64 (c : Int)) ∧ w = w' := hnum
              generalize (c : Int) = ci at hnum henc hz0
              go_wp2_with fail
              refine (hbn _).mono ?_
              rintro e w2 ⟨rfl, rfl⟩
              go_wp2_with fail
              refine (hrun _).mono ?_
              rintro e w3 ⟨rfl, rfl⟩
              go_wp2_with fail
              refine (hnum _).mono ?_
              rintro e w4 ⟨rfl, rfl⟩
              go_wp2_with fail
              refine (henc _).mono ?_
              rintro e w5 ⟨rfl, hb5⟩
              go_wp2_with fail
              go_ret2
              exact ⟨two_eq (by rw [HR.out]; simp only [HSt.out]) (by rw [HR.out]; push_cast; omega), H0.out.trans (hb5.mono H0.out.size)⟩
          · have e1 : standL c = [239, 191, 189] := by unfold standL; rw [if_neg (fun h => hch h.1)]
            have e4 : encE (c : Int) = 4 := by unfold encE charB; rw [decide_eq_false hch]; rfl
            rw [e4] at henc
            have HS := Lib.hid e1
            clear e1 e4 hch
            generalize encS (c : Int) = E at henc
            have hnum : ∀ w : World, Calls Try.prog 28 #[.string T, .int .i64 16] w fun e w' => e = .returned (.int .i64 (c : Int)) ∧ w = w' := hnum
            generalize (c : Int) = ci at hnum henc
            go_wp2_with fail
            refine (hbn _).mono ?_
            rintro e w2 ⟨rfl, rfl⟩
            go_wp2_with fail
            refine (hrun _).mono ?_
            rintro e w3 ⟨rfl, rfl⟩
            go_wp2_with fail
            refine (hnum _).mono ?_
            rintro e w4 ⟨rfl, rfl⟩
            go_wp2_with fail
            refine (henc _).mono ?_
            rintro e w5 ⟨rfl, hb5⟩
            go_wp2_with fail
            refine (hfff _).mono ?_
            rintro e w6 ⟨rfl, hb6⟩
            go_wp2_with fail
            go_ret2
            exact ⟨two_eq (by rw [HR.out]; show S [239, 191, 189] = S _; rw [HS.out]) (by rw [HR.out]; push_cast; omega), H0.out.trans ((hb5.mono H0.out.size).trans (hb6.mono (Nat.le_trans H0.out.size hb5.size)))⟩
        · have HR := HBad.out (fun h => hsc (by have := h.2.2; rw [HGet.out hlt2] at this; exact Option.some.inj this))
          have hbq : ((s[3 + n].toNat : Int) != 59) = true := by
            rw [bne_iff_ne]
            intro e
            exact hsc (UInt8.toNat_inj.1 (by have : (59 : UInt8).toNat = 59 := rfl; omega))
          clear hsc
          go_wp2_with fail
          refine (hbn _).mono ?_
          rintro e w2 ⟨rfl, rfl⟩
          go_wp2_with fail
          refine (hrun _).mono ?_
          rintro e w3 ⟨rfl, rfl⟩
          go_wp2_with fail
          go_ret2
          exact ⟨by rw [HR.out]; rfl, H0.out⟩

set_option maxHeartbeats 8000000 in
set_option maxRecDepth 100000 in
theorem rone_X (u : List UInt8) (hu : u.length ≤ 2305843009213693000) (v : List UInt8) (hv : u = 88 :: v) (w : World) :
    Calls Try.prog 20 #[.string (S (38 :: 35 :: u))] w fun e w' => e = .returned (.tuple #[.string (S (oneL (38 :: 35 :: u)).1), .int .i64 ((oneL (38 :: 35 :: u)).2 : Int)]) ∧ Below w.heap.size w w' := by
  have HB := Lib.hid (fun k w => (by have := rbegins_c (wordP k) (38 :: 35 :: u) w; rw [num_names] at this; exact this : Calls Try.prog 13 #[.string (S (wordP k)), .string (S (38 :: 35 :: u))] w fun e w' => e = .returned (.bool false) ∧ w = w'))
  have hbn : ∀ w : World, Calls Try.prog 13 #[.string ⟨#[38, 35]⟩, .string (S (38 :: 35 :: u))] w fun e w' => e = .returned (.bool true) ∧ w = w' := fun w => rbegins_c [38, 35] (38 :: 35 :: u) w
  have HC := Lib.hid (fun k h => five_cell w k h)
  have H0 : Hid (Below w.heap.size w (fiveW w)) := (Below.refl _ w).alloc (Nat.le_refl _) _
  obtain ⟨w1, hw0⟩ : ∃ w1, w1 = fiveW w := ⟨_, rfl⟩
  rw [← hw0] at HC H0
  have hw1 : w1 = w.alloc (.cells #[.string ⟨#[38, 97, 109, 112, 59]⟩, .string ⟨#[38, 108, 116, 59]⟩, .string ⟨#[38, 103, 116, 59]⟩, .string ⟨#[38, 113, 117, 111, 116, 59]⟩, .string ⟨#[38, 97, 112, 111, 115, 59]⟩] 9) := hw0
  have HW1 := Lib.hid hw1
  clear hw1 hw0
  obtain ⟨t, ht⟩ : ∃ t, t = digsOf u := ⟨_, rfl⟩
  obtain ⟨n, hn⟩ : ∃ n, n = runN 16 t := ⟨_, rfl⟩
  have hhex : isHex u = true := by rw [hv]; rfl
  have hbase : baseOf u = 16 := by unfold baseOf; rw [hhex]; rfl
  have hdr : (38 :: 35 :: u).drop 3 = digsOf u := by rw [hv]; rfl
  have hsz : (S (38 :: 35 :: u)).size = u.length + 2 := by rw [size_S]; rfl
  have hszt : u.length + 2 = 3 + t.length := by
    have h9 := digs_len u
    rw [hhex, ← ht] at h9
    rw [if_pos rfl] at h9
    omega
  have hkey : runN (baseOf u) (digsOf u) = n := by rw [hbase, ← ht]; exact hn.symm
  have hdrop : (S (38 :: 35 :: u)).data.toList.drop 3 = t := by rw [list_S, ht]; exact hdr
  have hrun := fun w => rrun_c (S (38 :: 35 :: u)) 3 true (by omega) (by omega) w
  rw [hdrop] at hrun
  have hrun : ∀ w : World, Calls Try.prog 27 #[.string (S (38 :: 35 :: u)), .int .i64 3, .bool true] w fun e w' => e = .returned (.int .i64 (n : Int)) ∧ w = w' := fun w => by rw [hn]; exact hrun w
  have hnt : n ≤ t.length := by rw [hn]; exact runN_le _ _
  have hone := pOne_num u
  have hbad : (¬ (1 ≤ n ∧ n ≤ 7 ∧ t[n]? = some 59)) → Hid (oneL (38 :: 35 :: u) = ([], 0)) := fun h => by
    show _ = _
    rw [hone]
    refine pNum_bad ?_
    rw [hkey, ← ht]
    exact h
  have hgood : (1 ≤ n ∧ n ≤ 7 ∧ t[n]? = some 59) → Hid (oneL (38 :: 35 :: u) = (standL (valB 16 (t.take n)), 3 + n + 1)) := fun h => by
    show _ = _
    have this := pNum_good (u := u) (by rw [hkey, ← ht]; exact h)
    rw [hkey, hbase, ← ht, hhex] at this
    rw [hone, this]
    simp
  have hget : ∀ (h : 3 + n < (S (38 :: 35 :: u)).size), t[n]? = some ((S (38 :: 35 :: u))[3 + n]'h) := fun h => by
    rw [← hdrop, List.getElem?_drop, List.getElem?_eq_getElem (by rw [size_list]; exact h)]
    rfl
  have hcut : (S (38 :: 35 :: u)).extract 3 (3 + n) = S (t.take n) := by
    rw [Lib.extract_eq, hdrop, show 3 + n - 3 = n by omega]
  have hall : (t.take n).all (digB 16) = true := by rw [hn]; exact runN_all _ _
  have hnum := fun (h : n ≤ 7) w => rnumber_c (t.take n) 16 (by omega) (by rw [List.length_take]; omega) hall w
  have henc : ∀ c w, Calls Try.prog 19 #[.int .i64 c] w fun e w' => e = .returned (.tuple #[.string (encS c), .int .i64 (encE c)]) ∧ Below w.heap.size w w' := fun c w => rencode_c c w
  have hfff : ∀ w : World, Calls Try.prog 19 #[.int .i64 65533] w fun e w' => e = .returned (.tuple #[.string (S [239, 191, 189]), .int .i64 0]) ∧ Below w.heap.size w w' := fun w => by
    have h := rencode_yes 65533 w (by decide)
    have e : encodeRune 65533 = [239, 191, 189] := by decide +kernel
    rw [e] at h
    exact h
  have hszi : ((S (38 :: 35 :: u)).size : Int) = (t.length : Int) + 3 := by omega
  have h2 : 2 < (S (38 :: 35 :: u)).size := by rw [hsz, hv, List.length_cons]; omega
  have hs2' : ∀ h : 2 < (S (38 :: 35 :: u)).size, (S (38 :: 35 :: u))[2]'h = 88 := by rw [hv]; intro h; rfl
  have hs2 := hs2' h2
  have hx1 : (((S (38 :: 35 :: u))[2].toNat : Int) == 120) = false := by rw [hs2]; rfl
  have hx2 : (((S (38 :: 35 :: u))[2].toNat : Int) == 88) = true := by rw [hs2]; rfl
  have h2i : (2 : Int) < (t.length : Int) + 3 := by omega
  generalize S (38 :: 35 :: u) = s at *
  have HRun := Lib.hid hrun
  have HNum := Lib.hid hnum
  have HBad := Lib.hid hbad
  have HGood := Lib.hid hgood
  have HGet := Lib.hid hget
  have HCut := Lib.hid hcut
  have HSz := Lib.hid hsz
  have HSzi := Lib.hid hszi
  have HSzt := Lib.hid hszt
  have HEnc := Lib.hid henc
  clear hrun hnum hbad hgood hget hcut hsz hszi hszt henc hone hdrop hall ht hn hbase hhex hdr hv hs2 hs2'
  have i0 : (0 : Int) ≤ (n : Int) := by omega
  go_enter Try.func20, Try.ntmps20
  go_wp2_with fail
  rw [← HW1.out]
  clear HW1
  go_loop [5] (fun i => ∃ k : Nat, k ≤ 5 ∧ i = .int .i64 k) (fun i => 5 - (intOf i).toNat)
  case atStart => exact ⟨0, Nat.zero_le _, rfl⟩
  case round =>
    obtain ⟨k, hk, rfl⟩ := hrel
    by_cases hlt : k < 5
    · have hc := HC.out k hlt
      have hb := HB.out k w1
      have j0 : (0 : Int) ≤ (k : Int) := by omega
      have j1 : (k : Int) < 5 := by omega
      generalize hP : S (wordP k) = P at hc hb
      clear hP
      go_wp2_with (first | (go_at_call 13; refine hb.mono ?_; rintro e w2 ⟨rfl, rfl⟩))
      go_round
      case rel => exact ⟨k + 1, by omega, by go_num⟩
      case measure => simp [intOf]; omega
    · obtain rfl : k = 5 := by omega
      clear HB HC
      have hrun := HRun.out
      have hszi := HSzi.out
      rcases (by omega : n = 0 ∨ 7 < n ∨ (1 ≤ n ∧ n ≤ 7 ∧ t.length ≤ n) ∨ (1 ≤ n ∧ n ≤ 7 ∧ n < t.length)) with hn0 | hn7 | ⟨hn1, hn7, hnt2⟩ | ⟨hn1, hn7, hnt2⟩
      · have HR := HBad.out (fun h => by have := h.1; omega)
        subst hn0
        go_wp2_with fail
        refine (hbn _).mono ?_
        rintro e w2 ⟨rfl, rfl⟩
        go_wp2_with fail
        refine (hrun _).mono ?_
        rintro e w3 ⟨rfl, rfl⟩
        go_wp2_with fail
        go_ret2
        exact ⟨by rw [HR.out]; rfl, H0.out⟩
      · have HR := HBad.out (fun h => by have := h.2.1; omega)
        have d1 : decide ((n : Int) < 1) = false := decide_eq_false (by omega)
        have d2 : (7 : Int) < (n : Int) := by omega
        go_wp2_with fail
        refine (hbn _).mono ?_
        rintro e w2 ⟨rfl, rfl⟩
        go_wp2_with fail
        refine (hrun _).mono ?_
        rintro e w3 ⟨rfl, rfl⟩
        go_wp2_with fail
        go_ret2
        exact ⟨by rw [HR.out]; rfl, H0.out⟩
      · have HR := HBad.out (fun h => by have := h.2.2; rw [List.getElem?_eq_none (by omega)] at this; cases this)
        have d1 : decide ((n : Int) < 1) = false := decide_eq_false (by omega)
        have d2 : decide ((7 : Int) < (n : Int)) = false := decide_eq_false (by omega)
        have d3 : (t.length : Int) + 3 ≤ 3 + (n : Int) := by omega
        go_wp2_with fail
        refine (hbn _).mono ?_
        rintro e w2 ⟨rfl, rfl⟩
        go_wp2_with fail
        refine (hrun _).mono ?_
        rintro e w3 ⟨rfl, rfl⟩
        go_wp2_with fail
        go_ret2
        exact ⟨by rw [HR.out]; rfl, H0.out⟩
      · have hlt2 : 3 + n < s.size := by have := HSz.out; have := HSzt.out; omega
        have d1 : decide ((n : Int) < 1) = false := decide_eq_false (by omega)
        have d2 : decide ((7 : Int) < (n : Int)) = false := decide_eq_false (by omega)
        have d3 : decide ((t.length : Int) + 3 ≤ 3 + (n : Int)) = false := decide_eq_false (by omega)
        have d4 : 3 + (n : Int) < (t.length : Int) + 3 := by omega
        have d5 : ((3 : Int) + (n : Int)).toNat = 3 + n := by omega
        have d6 : (0 : Int) ≤ 3 + (n : Int) := by omega
        have hcn : (s[3 + n].toNat : Int) ≤ 255 := by have := s[3 + n].toNat_lt; omega
        by_cases hsc : s[3 + n] = 59
        · have hbq : ((s[3 + n].toNat : Int) != 59) = false := by rw [hsc]; rfl
          have HR := HGood.out ⟨hn1, hn7, by rw [HGet.out hlt2, hsc]⟩
          have hnum := HNum.out hn7
          have hcut := HCut.out
          have d7 : (3 : Int) ≤ 3 + (n : Int) := by omega
          have d8 : 3 + (n : Int) ≤ (t.length : Int) + 3 := by omega
          generalize valB 16 (t.take n) = c at hnum HR
          generalize S (t.take n) = T at hnum hcut
          have henc := HEnc.out (c : Int)
          by_cases hch : isChar (c : Int)
          · by_cases hz : c = 0
            · subst hz
              have HS : Hid (standL 0 = [239, 191, 189]) := by show _ = _; decide
              have henc : ∀ w : World, Calls Try.prog 19 #[.int .i64 0] w fun e w' => e = .returned (.tuple #[.string (encS 0), .int .i64 0]) ∧ Below w.heap.size w w' := henc
              have hnum : ∀ w : World, Calls Try.prog 28 #[.string T, .int .i64 16] w fun e w' => e = .returned (.int .i64 0) ∧ w = w' := hnum
              generalize encS 0 = E at henc
              clear hch
              go_wp2_with fail
              refine (hbn _).mono ?_
              rintro e w2 ⟨rfl, rfl⟩
              go_wp2_with fail
              refine (hrun _).mono ?_
              rintro e w3 ⟨rfl, rfl⟩
              go_wp2_with fail
              refine (hnum _).mono ?_
              rintro e w4 ⟨rfl, rfl⟩
              go_wp2_with fail
              refine (henc _).mono ?_
              rintro e w5 ⟨rfl, hb5⟩
              go_wp2_with fail
              refine (hfff _).mono ?_
              rintro e w6 ⟨rfl, hb6⟩
              go_wp2_with fail
              go_ret2
              exact ⟨two_eq (by rw [HR.out]; show S [239, 191, 189] = S _; rw [HS.out]) (by rw [HR.out]; push_cast; omega), H0.out.trans ((hb5.mono H0.out.size).trans (hb6.mono (Nat.le_trans H0.out.size hb5.size)))⟩
            · have e1 : standL c = encodeRune (c : Int) := by unfold standL; rw [if_pos ⟨hch, hz⟩]
              have e2 : charB (c : Int) = true := decide_eq_true hch
              have e3 : encS (c : Int) = S (standL c) := by rw [e1]; unfold encS; rw [if_pos e2]
              have e4 : encE (c : Int) = 0 := by unfold encE; rw [if_pos e2]
              rw [e3, e4] at henc
              have hz0 : ((c : Int) == 0) = false := by simp; exact hz
              clear e1 e2 e3 e4 hch hz
              generalize hSt : S (standL c) = St at henc
              have HSt := Lib.hid hSt
              clear hSt
              have hnum : ∀ w : World, Calls Try.prog 28 #[.string T, .int .i64 16] w fun e w' => e = .returned (.int .i64 (c : Int)) ∧ w = w' := hnum
              generalize (c : Int) = ci at hnum henc hz0
              go_wp2_with fail
              refine (hbn _).mono ?_
              rintro e w2 ⟨rfl, rfl⟩
              go_wp2_with fail
              refine (hrun _).mono ?_
              rintro e w3 ⟨rfl, rfl⟩
              go_wp2_with fail
              refine (hnum _).mono ?_
              rintro e w4 ⟨rfl, rfl⟩
              go_wp2_with fail
              refine (henc _).mono ?_
              rintro e w5 ⟨rfl, hb5⟩
              go_wp2_with fail
              go_ret2
              exact ⟨two_eq (by rw [HR.out]; simp only [HSt.out]) (by rw [HR.out]; push_cast; omega), H0.out.trans (hb5.mono H0.out.size)⟩
          · have e1 : standL c = [239, 191, 189] := by unfold standL; rw [if_neg (fun h => hch h.1)]
            have e4 : encE (c : Int) = 4 := by unfold encE charB; rw [decide_eq_false hch]; rfl
            rw [e4] at henc
            have HS := Lib.hid e1
            clear e1 e4 hch
            generalize encS (c : Int) = E at henc
            have hnum : ∀ w : World, Calls Try.prog 28 #[.string T, .int .i64 16] w fun e w' => e = .returned (.int .i64 (c : Int)) ∧ w = w' := hnum
            generalize (c : Int) = ci at hnum henc
            go_wp2_with fail
            refine (hbn _).mono ?_
            rintro e w2 ⟨rfl, rfl⟩
            go_wp2_with fail
            refine (hrun _).mono ?_
            rintro e w3 ⟨rfl, rfl⟩
            go_wp2_with fail
            refine (hnum _).mono ?_
            rintro e w4 ⟨rfl, rfl⟩
            go_wp2_with fail
            refine (henc _).mono ?_
            rintro e w5 ⟨rfl, hb5⟩
            go_wp2_with fail
            refine (hfff _).mono ?_
            rintro e w6 ⟨rfl, hb6⟩
            go_wp2_with fail
            go_ret2
            exact ⟨two_eq (by rw [HR.out]; show S [239, 191, 189] = S _; rw [HS.out]) (by rw [HR.out]; push_cast; omega), H0.out.trans ((hb5.mono H0.out.size).trans (hb6.mono (Nat.le_trans H0.out.size hb5.size)))⟩
        · have HR := HBad.out (fun h => hsc (by have := h.2.2; rw [HGet.out hlt2] at this; exact Option.some.inj this))
          have hbq : ((s[3 + n].toNat : Int) != 59) = true := by
            rw [bne_iff_ne]
            intro e
            exact hsc (UInt8.toNat_inj.1 (by have : (59 : UInt8).toNat = 59 := rfl; omega))
          clear hsc
          go_wp2_with fail
          refine (hbn _).mono ?_
          rintro e w2 ⟨rfl, rfl⟩
          go_wp2_with fail
          refine (hrun _).mono ?_
          rintro e w3 ⟨rfl, rfl⟩
          go_wp2_with fail
          go_ret2
          exact ⟨by rw [HR.out]; rfl, H0.out⟩

set_option maxHeartbeats 8000000 in
set_option maxRecDepth 100000 in
theorem rone_ten (u : List UInt8) (hu : u.length ≤ 2305843009213693000) (c : UInt8) (v : List UInt8) (hv : u = c :: v) (h1 : c ≠ 120) (h2' : c ≠ 88) (w : World) :
    Calls Try.prog 20 #[.string (S (38 :: 35 :: u))] w fun e w' => e = .returned (.tuple #[.string (S (oneL (38 :: 35 :: u)).1), .int .i64 ((oneL (38 :: 35 :: u)).2 : Int)]) ∧ Below w.heap.size w w' := by
  have HB := Lib.hid (fun k w => (by have := rbegins_c (wordP k) (38 :: 35 :: u) w; rw [num_names] at this; exact this : Calls Try.prog 13 #[.string (S (wordP k)), .string (S (38 :: 35 :: u))] w fun e w' => e = .returned (.bool false) ∧ w = w'))
  have hbn : ∀ w : World, Calls Try.prog 13 #[.string ⟨#[38, 35]⟩, .string (S (38 :: 35 :: u))] w fun e w' => e = .returned (.bool true) ∧ w = w' := fun w => rbegins_c [38, 35] (38 :: 35 :: u) w
  have HC := Lib.hid (fun k h => five_cell w k h)
  have H0 : Hid (Below w.heap.size w (fiveW w)) := (Below.refl _ w).alloc (Nat.le_refl _) _
  obtain ⟨w1, hw0⟩ : ∃ w1, w1 = fiveW w := ⟨_, rfl⟩
  rw [← hw0] at HC H0
  have hw1 : w1 = w.alloc (.cells #[.string ⟨#[38, 97, 109, 112, 59]⟩, .string ⟨#[38, 108, 116, 59]⟩, .string ⟨#[38, 103, 116, 59]⟩, .string ⟨#[38, 113, 117, 111, 116, 59]⟩, .string ⟨#[38, 97, 112, 111, 115, 59]⟩] 9) := hw0
  have HW1 := Lib.hid hw1
  clear hw1 hw0
  obtain ⟨t, ht⟩ : ∃ t, t = digsOf u := ⟨_, rfl⟩
  obtain ⟨n, hn⟩ : ∃ n, n = runN 10 t := ⟨_, rfl⟩
  have hhex : isHex u = false := by rw [hv]; exact decide_eq_false (by simp [h1, h2'])
  have hbase : baseOf u = 10 := by unfold baseOf; rw [hhex]; rfl
  have hdr : (38 :: 35 :: u).drop 2 = digsOf u := by unfold digsOf; rw [hhex]; rfl
  have hsz : (S (38 :: 35 :: u)).size = u.length + 2 := by rw [size_S]; rfl
  have hszt : u.length + 2 = 2 + t.length := by
    have h9 := digs_len u
    rw [hhex, ← ht] at h9
    rw [if_neg (by simp)] at h9
    omega
  have hkey : runN (baseOf u) (digsOf u) = n := by rw [hbase, ← ht]; exact hn.symm
  have hdrop : (S (38 :: 35 :: u)).data.toList.drop 2 = t := by rw [list_S, ht]; exact hdr
  have hrun := fun w => rrun_c (S (38 :: 35 :: u)) 2 false (by omega) (by omega) w
  rw [hdrop] at hrun
  have hrun : ∀ w : World, Calls Try.prog 27 #[.string (S (38 :: 35 :: u)), .int .i64 2, .bool false] w fun e w' => e = .returned (.int .i64 (n : Int)) ∧ w = w' := fun w => by rw [hn]; exact hrun w
  have hnt : n ≤ t.length := by rw [hn]; exact runN_le _ _
  have hone := pOne_num u
  have hbad : (¬ (1 ≤ n ∧ n ≤ 7 ∧ t[n]? = some 59)) → Hid (oneL (38 :: 35 :: u) = ([], 0)) := fun h => by
    show _ = _
    rw [hone]
    refine pNum_bad ?_
    rw [hkey, ← ht]
    exact h
  have hgood : (1 ≤ n ∧ n ≤ 7 ∧ t[n]? = some 59) → Hid (oneL (38 :: 35 :: u) = (standL (valB 10 (t.take n)), 2 + n + 1)) := fun h => by
    show _ = _
    have this := pNum_good (u := u) (by rw [hkey, ← ht]; exact h)
    rw [hkey, hbase, ← ht, hhex] at this
    rw [hone, this]
    simp
  have hget : ∀ (h : 2 + n < (S (38 :: 35 :: u)).size), t[n]? = some ((S (38 :: 35 :: u))[2 + n]'h) := fun h => by
    rw [← hdrop, List.getElem?_drop, List.getElem?_eq_getElem (by rw [size_list]; exact h)]
    rfl
  have hcut : (S (38 :: 35 :: u)).extract 2 (2 + n) = S (t.take n) := by
    rw [Lib.extract_eq, hdrop, show 2 + n - 2 = n by omega]
  have hall : (t.take n).all (digB 10) = true := by rw [hn]; exact runN_all _ _
  have hnum := fun (h : n ≤ 7) w => rnumber_c (t.take n) 10 (by omega) (by rw [List.length_take]; omega) hall w
  have henc : ∀ c w, Calls Try.prog 19 #[.int .i64 c] w fun e w' => e = .returned (.tuple #[.string (encS c), .int .i64 (encE c)]) ∧ Below w.heap.size w w' := fun c w => rencode_c c w
  have hfff : ∀ w : World, Calls Try.prog 19 #[.int .i64 65533] w fun e w' => e = .returned (.tuple #[.string (S [239, 191, 189]), .int .i64 0]) ∧ Below w.heap.size w w' := fun w => by
    have h := rencode_yes 65533 w (by decide)
    have e : encodeRune 65533 = [239, 191, 189] := by decide +kernel
    rw [e] at h
    exact h
  have hszi : ((S (38 :: 35 :: u)).size : Int) = (t.length : Int) + 2 := by omega
  have h2 : 2 < (S (38 :: 35 :: u)).size := by rw [hsz, hv, List.length_cons]; omega
  have hs2' : ∀ h : 2 < (S (38 :: 35 :: u)).size, (S (38 :: 35 :: u))[2]'h = c := by rw [hv]; intro h; rfl
  have hs2 := hs2' h2
  have hx1 : (((S (38 :: 35 :: u))[2].toNat : Int) == 120) = false := by rw [hs2, beq_eq_false_iff_ne]; exact fun e => h1 (UInt8.toNat_inj.1 (by have : (120 : UInt8).toNat = 120 := rfl; omega))
  have hx2 : (((S (38 :: 35 :: u))[2].toNat : Int) == 88) = false := by rw [hs2, beq_eq_false_iff_ne]; exact fun e => h2' (UInt8.toNat_inj.1 (by have : (88 : UInt8).toNat = 88 := rfl; omega))
  have h2i : (2 : Int) < (t.length : Int) + 2 := by have h9 := hsz; rw [hv, List.length_cons] at h9; rw [hv, List.length_cons] at hszt; omega
  generalize S (38 :: 35 :: u) = s at *
  have HRun := Lib.hid hrun
  have HNum := Lib.hid hnum
  have HBad := Lib.hid hbad
  have HGood := Lib.hid hgood
  have HGet := Lib.hid hget
  have HCut := Lib.hid hcut
  have HSz := Lib.hid hsz
  have HSzi := Lib.hid hszi
  have HSzt := Lib.hid hszt
  have HEnc := Lib.hid henc
  clear hrun hnum hbad hgood hget hcut hsz hszi hszt henc hone hdrop hall ht hn hbase hhex hdr hv hs2 hs2' h1 h2'
  have i0 : (0 : Int) ≤ (n : Int) := by omega
  go_enter Try.func20, Try.ntmps20
  go_wp2_with fail
  rw [← HW1.out]
  clear HW1
  go_loop [5] (fun i => ∃ k : Nat, k ≤ 5 ∧ i = .int .i64 k) (fun i => 5 - (intOf i).toNat)
  case atStart => exact ⟨0, Nat.zero_le _, rfl⟩
  case round =>
    obtain ⟨k, hk, rfl⟩ := hrel
    by_cases hlt : k < 5
    · have hc := HC.out k hlt
      have hb := HB.out k w1
      have j0 : (0 : Int) ≤ (k : Int) := by omega
      have j1 : (k : Int) < 5 := by omega
      generalize hP : S (wordP k) = P at hc hb
      clear hP
      go_wp2_with (first | (go_at_call 13; refine hb.mono ?_; rintro e w2 ⟨rfl, rfl⟩))
      go_round
      case rel => exact ⟨k + 1, by omega, by go_num⟩
      case measure => simp [intOf]; omega
    · obtain rfl : k = 5 := by omega
      clear HB HC
      have hrun := HRun.out
      have hszi := HSzi.out
      rcases (by omega : n = 0 ∨ 7 < n ∨ (1 ≤ n ∧ n ≤ 7 ∧ t.length ≤ n) ∨ (1 ≤ n ∧ n ≤ 7 ∧ n < t.length)) with hn0 | hn7 | ⟨hn1, hn7, hnt2⟩ | ⟨hn1, hn7, hnt2⟩
      · have HR := HBad.out (fun h => by have := h.1; omega)
        subst hn0
        go_wp2_with fail
        refine (hbn _).mono ?_
        rintro e w2 ⟨rfl, rfl⟩
        go_wp2_with fail
        refine (hrun _).mono ?_
        rintro e w3 ⟨rfl, rfl⟩
        go_wp2_with fail
        go_ret2
        exact ⟨by rw [HR.out]; rfl, H0.out⟩
      · have HR := HBad.out (fun h => by have := h.2.1; omega)
        have d1 : decide ((n : Int) < 1) = false := decide_eq_false (by omega)
        have d2 : (7 : Int) < (n : Int) := by omega
        go_wp2_with fail
        refine (hbn _).mono ?_
        rintro e w2 ⟨rfl, rfl⟩
        go_wp2_with fail
        refine (hrun _).mono ?_
        rintro e w3 ⟨rfl, rfl⟩
        go_wp2_with fail
        go_ret2
        exact ⟨by rw [HR.out]; rfl, H0.out⟩
      · have HR := HBad.out (fun h => by have := h.2.2; rw [List.getElem?_eq_none (by omega)] at this; cases this)
        have d1 : decide ((n : Int) < 1) = false := decide_eq_false (by omega)
        have d2 : decide ((7 : Int) < (n : Int)) = false := decide_eq_false (by omega)
        have d3 : (t.length : Int) + 2 ≤ 2 + (n : Int) := by omega
        go_wp2_with fail
        refine (hbn _).mono ?_
        rintro e w2 ⟨rfl, rfl⟩
        go_wp2_with fail
        refine (hrun _).mono ?_
        rintro e w3 ⟨rfl, rfl⟩
        go_wp2_with fail
        go_ret2
        exact ⟨by rw [HR.out]; rfl, H0.out⟩
      · have hlt2 : 2 + n < s.size := by have := HSz.out; have := HSzt.out; omega
        have d1 : decide ((n : Int) < 1) = false := decide_eq_false (by omega)
        have d2 : decide ((7 : Int) < (n : Int)) = false := decide_eq_false (by omega)
        have d3 : decide ((t.length : Int) + 2 ≤ 2 + (n : Int)) = false := decide_eq_false (by omega)
        have d4 : 2 + (n : Int) < (t.length : Int) + 2 := by omega
        have d5 : ((2 : Int) + (n : Int)).toNat = 2 + n := by omega
        have d6 : (0 : Int) ≤ 2 + (n : Int) := by omega
        have hcn : (s[2 + n].toNat : Int) ≤ 255 := by have := s[2 + n].toNat_lt; omega
        by_cases hsc : s[2 + n] = 59
        · have hbq : ((s[2 + n].toNat : Int) != 59) = false := by rw [hsc]; rfl
          have HR := HGood.out ⟨hn1, hn7, by rw [HGet.out hlt2, hsc]⟩
          have hnum := HNum.out hn7
          have hcut := HCut.out
          have d7 : (2 : Int) ≤ 2 + (n : Int) := by omega
          have d8 : 2 + (n : Int) ≤ (t.length : Int) + 2 := by omega
          generalize valB 10 (t.take n) = c at hnum HR
          generalize S (t.take n) = T at hnum hcut
          have henc := HEnc.out (c : Int)
          by_cases hch : isChar (c : Int)
          · by_cases hz : c = 0
            · subst hz
              have HS : Hid (standL 0 = [239, 191, 189]) := by show _ = _; decide
              have henc : ∀ w : World, Calls Try.prog 19 #[.int .i64 0] w fun e w' => e = .returned (.tuple #[.string (encS 0), .int .i64 0]) ∧ Below w.heap.size w w' := henc
              have hnum : ∀ w : World, Calls Try.prog 28 #[.string T, .int .i64 10] w fun e w' => e = .returned (.int .i64 0) ∧ w = w' := hnum
              generalize encS 0 = E at henc
              clear hch
              go_wp2_with fail
              refine (hbn _).mono ?_
              rintro e w2 ⟨rfl, rfl⟩
              go_wp2_with fail
              refine (hrun _).mono ?_
              rintro e w3 ⟨rfl, rfl⟩
              go_wp2_with fail
              refine (hnum _).mono ?_
              rintro e w4 ⟨rfl, rfl⟩
              go_wp2_with fail
              refine (henc _).mono ?_
              rintro e w5 ⟨rfl, hb5⟩
              go_wp2_with fail
              refine (hfff _).mono ?_
              rintro e w6 ⟨rfl, hb6⟩
              go_wp2_with fail
              go_ret2
              exact ⟨two_eq (by rw [HR.out]; show S [239, 191, 189] = S _; rw [HS.out]) (by rw [HR.out]; push_cast; omega), H0.out.trans ((hb5.mono H0.out.size).trans (hb6.mono (Nat.le_trans H0.out.size hb5.size)))⟩
            · have e1 : standL c = encodeRune (c : Int) := by unfold standL; rw [if_pos ⟨hch, hz⟩]
              have e2 : charB (c : Int) = true := decide_eq_true hch
              have e3 : encS (c : Int) = S (standL c) := by rw [e1]; unfold encS; rw [if_pos e2]
              have e4 : encE (c : Int) = 0 := by unfold encE; rw [if_pos e2]
              rw [e3, e4] at henc
              have hz0 : ((c : Int) == 0) = false := by simp; exact hz
              clear e1 e2 e3 e4 hch hz
              generalize hSt : S (standL c) = St at henc
              have HSt := Lib.hid hSt
              clear hSt
              have hnum : ∀ w : World, Calls Try.prog 28 #[.string T, .int .i64 10] w fun e w' => e = .returned (.int .i64 (c : Int)) ∧ w = w' := hnum
              generalize (c : Int) = ci at hnum henc hz0
              go_wp2_with fail
              refine (hbn _).mono ?_
              rintro e w2 ⟨rfl, rfl⟩
              go_wp2_with fail
              refine (hrun _).mono ?_
              rintro e w3 ⟨rfl, rfl⟩
              go_wp2_with fail
              refine (hnum _).mono ?_
              rintro e w4 ⟨rfl, rfl⟩
              go_wp2_with fail
              refine (henc _).mono ?_
              rintro e w5 ⟨rfl, hb5⟩
              go_wp2_with fail
              go_ret2
              exact ⟨two_eq (by rw [HR.out]; simp only [HSt.out]) (by rw [HR.out]; push_cast; omega), H0.out.trans (hb5.mono H0.out.size)⟩
          · have e1 : standL c = [239, 191, 189] := by unfold standL; rw [if_neg (fun h => hch h.1)]
            have e4 : encE (c : Int) = 4 := by unfold encE charB; rw [decide_eq_false hch]; rfl
            rw [e4] at henc
            have HS := Lib.hid e1
            clear e1 e4 hch
            generalize encS (c : Int) = E at henc
            have hnum : ∀ w : World, Calls Try.prog 28 #[.string T, .int .i64 10] w fun e w' => e = .returned (.int .i64 (c : Int)) ∧ w = w' := hnum
            generalize (c : Int) = ci at hnum henc
            go_wp2_with fail
            refine (hbn _).mono ?_
            rintro e w2 ⟨rfl, rfl⟩
            go_wp2_with fail
            refine (hrun _).mono ?_
            rintro e w3 ⟨rfl, rfl⟩
            go_wp2_with fail
            refine (hnum _).mono ?_
            rintro e w4 ⟨rfl, rfl⟩
            go_wp2_with fail
            refine (henc _).mono ?_
            rintro e w5 ⟨rfl, hb5⟩
            go_wp2_with fail
            refine (hfff _).mono ?_
            rintro e w6 ⟨rfl, hb6⟩
            go_wp2_with fail
            go_ret2
            exact ⟨two_eq (by rw [HR.out]; show S [239, 191, 189] = S _; rw [HS.out]) (by rw [HR.out]; push_cast; omega), H0.out.trans ((hb5.mono H0.out.size).trans (hb6.mono (Nat.le_trans H0.out.size hb5.size)))⟩
        · have HR := HBad.out (fun h => hsc (by have := h.2.2; rw [HGet.out hlt2] at this; exact Option.some.inj this))
          have hbq : ((s[2 + n].toNat : Int) != 59) = true := by
            rw [bne_iff_ne]
            intro e
            exact hsc (UInt8.toNat_inj.1 (by have : (59 : UInt8).toNat = 59 := rfl; omega))
          clear hsc
          go_wp2_with fail
          refine (hbn _).mono ?_
          rintro e w2 ⟨rfl, rfl⟩
          go_wp2_with fail
          refine (hrun _).mono ?_
          rintro e w3 ⟨rfl, rfl⟩
          go_wp2_with fail
          go_ret2
          exact ⟨by rw [HR.out]; rfl, H0.out⟩

set_option maxHeartbeats 8000000 in
set_option maxRecDepth 100000 in
theorem rone_nil (u : List UInt8) (hu : u.length ≤ 2305843009213693000) (hv : u = []) (w : World) :
    Calls Try.prog 20 #[.string (S (38 :: 35 :: u))] w fun e w' => e = .returned (.tuple #[.string (S (oneL (38 :: 35 :: u)).1), .int .i64 ((oneL (38 :: 35 :: u)).2 : Int)]) ∧ Below w.heap.size w w' := by
  have HB := Lib.hid (fun k w => (by have := rbegins_c (wordP k) (38 :: 35 :: u) w; rw [num_names] at this; exact this : Calls Try.prog 13 #[.string (S (wordP k)), .string (S (38 :: 35 :: u))] w fun e w' => e = .returned (.bool false) ∧ w = w'))
  have hbn : ∀ w : World, Calls Try.prog 13 #[.string ⟨#[38, 35]⟩, .string (S (38 :: 35 :: u))] w fun e w' => e = .returned (.bool true) ∧ w = w' := fun w => rbegins_c [38, 35] (38 :: 35 :: u) w
  have HC := Lib.hid (fun k h => five_cell w k h)
  have H0 : Hid (Below w.heap.size w (fiveW w)) := (Below.refl _ w).alloc (Nat.le_refl _) _
  obtain ⟨w1, hw0⟩ : ∃ w1, w1 = fiveW w := ⟨_, rfl⟩
  rw [← hw0] at HC H0
  have hw1 : w1 = w.alloc (.cells #[.string ⟨#[38, 97, 109, 112, 59]⟩, .string ⟨#[38, 108, 116, 59]⟩, .string ⟨#[38, 103, 116, 59]⟩, .string ⟨#[38, 113, 117, 111, 116, 59]⟩, .string ⟨#[38, 97, 112, 111, 115, 59]⟩] 9) := hw0
  have HW1 := Lib.hid hw1
  clear hw1 hw0
  obtain ⟨t, ht⟩ : ∃ t, t = digsOf u := ⟨_, rfl⟩
  obtain ⟨n, hn⟩ : ∃ n, n = runN 10 t := ⟨_, rfl⟩
  have hhex : isHex u = false := by rw [hv]; rfl
  have hbase : baseOf u = 10 := by unfold baseOf; rw [hhex]; rfl
  have hdr : (38 :: 35 :: u).drop 2 = digsOf u := by unfold digsOf; rw [hhex]; rfl
  have hsz : (S (38 :: 35 :: u)).size = u.length + 2 := by rw [size_S]; rfl
  have hszt : u.length + 2 = 2 + t.length := by
    have h9 := digs_len u
    rw [hhex, ← ht] at h9
    rw [if_neg (by simp)] at h9
    omega
  have hkey : runN (baseOf u) (digsOf u) = n := by rw [hbase, ← ht]; exact hn.symm
  have hdrop : (S (38 :: 35 :: u)).data.toList.drop 2 = t := by rw [list_S, ht]; exact hdr
  have hrun := fun w => rrun_c (S (38 :: 35 :: u)) 2 false (by omega) (by omega) w
  rw [hdrop] at hrun
  have hrun : ∀ w : World, Calls Try.prog 27 #[.string (S (38 :: 35 :: u)), .int .i64 2, .bool false] w fun e w' => e = .returned (.int .i64 (n : Int)) ∧ w = w' := fun w => by rw [hn]; exact hrun w
  have hnt : n ≤ t.length := by rw [hn]; exact runN_le _ _
  have hone := pOne_num u
  have hbad : (¬ (1 ≤ n ∧ n ≤ 7 ∧ t[n]? = some 59)) → Hid (oneL (38 :: 35 :: u) = ([], 0)) := fun h => by
    show _ = _
    rw [hone]
    refine pNum_bad ?_
    rw [hkey, ← ht]
    exact h
  have hgood : (1 ≤ n ∧ n ≤ 7 ∧ t[n]? = some 59) → Hid (oneL (38 :: 35 :: u) = (standL (valB 10 (t.take n)), 2 + n + 1)) := fun h => by
    show _ = _
    have this := pNum_good (u := u) (by rw [hkey, ← ht]; exact h)
    rw [hkey, hbase, ← ht, hhex] at this
    rw [hone, this]
    simp
  have hget : ∀ (h : 2 + n < (S (38 :: 35 :: u)).size), t[n]? = some ((S (38 :: 35 :: u))[2 + n]'h) := fun h => by
    rw [← hdrop, List.getElem?_drop, List.getElem?_eq_getElem (by rw [size_list]; exact h)]
    rfl
  have hcut : (S (38 :: 35 :: u)).extract 2 (2 + n) = S (t.take n) := by
    rw [Lib.extract_eq, hdrop, show 2 + n - 2 = n by omega]
  have hall : (t.take n).all (digB 10) = true := by rw [hn]; exact runN_all _ _
  have hnum := fun (h : n ≤ 7) w => rnumber_c (t.take n) 10 (by omega) (by rw [List.length_take]; omega) hall w
  have henc : ∀ c w, Calls Try.prog 19 #[.int .i64 c] w fun e w' => e = .returned (.tuple #[.string (encS c), .int .i64 (encE c)]) ∧ Below w.heap.size w w' := fun c w => rencode_c c w
  have hfff : ∀ w : World, Calls Try.prog 19 #[.int .i64 65533] w fun e w' => e = .returned (.tuple #[.string (S [239, 191, 189]), .int .i64 0]) ∧ Below w.heap.size w w' := fun w => by
    have h := rencode_yes 65533 w (by decide)
    have e : encodeRune 65533 = [239, 191, 189] := by decide +kernel
    rw [e] at h
    exact h
  have hszi : ((S (38 :: 35 :: u)).size : Int) = (t.length : Int) + 2 := by omega
  have ht0 : t.length = 0 := by
    have h8 : u.length = 0 := by rw [hv]; rfl
    omega
  have h2i : decide ((2 : Int) < (t.length : Int) + 2) = false := decide_eq_false (by omega)
  generalize S (38 :: 35 :: u) = s at *
  have HRun := Lib.hid hrun
  have HNum := Lib.hid hnum
  have HBad := Lib.hid hbad
  have HGood := Lib.hid hgood
  have HGet := Lib.hid hget
  have HCut := Lib.hid hcut
  have HSz := Lib.hid hsz
  have HSzi := Lib.hid hszi
  have HSzt := Lib.hid hszt
  have HEnc := Lib.hid henc
  clear hrun hnum hbad hgood hget hcut hsz hszi hszt henc hone hdrop hall ht hn hbase hhex hdr hv
  have i0 : (0 : Int) ≤ (n : Int) := by omega
  go_enter Try.func20, Try.ntmps20
  go_wp2_with fail
  rw [← HW1.out]
  clear HW1
  go_loop [5] (fun i => ∃ k : Nat, k ≤ 5 ∧ i = .int .i64 k) (fun i => 5 - (intOf i).toNat)
  case atStart => exact ⟨0, Nat.zero_le _, rfl⟩
  case round =>
    obtain ⟨k, hk, rfl⟩ := hrel
    by_cases hlt : k < 5
    · have hc := HC.out k hlt
      have hb := HB.out k w1
      have j0 : (0 : Int) ≤ (k : Int) := by omega
      have j1 : (k : Int) < 5 := by omega
      generalize hP : S (wordP k) = P at hc hb
      clear hP
      go_wp2_with (first | (go_at_call 13; refine hb.mono ?_; rintro e w2 ⟨rfl, rfl⟩))
      go_round
      case rel => exact ⟨k + 1, by omega, by go_num⟩
      case measure => simp [intOf]; omega
    · obtain rfl : k = 5 := by omega
      clear HB HC
      have hrun := HRun.out
      have hszi := HSzi.out
      have HR := HBad.out (fun h => by have := h.1; omega)
      have hn0 : n = 0 := by omega
      subst hn0
      go_wp2_with fail
      refine (hbn _).mono ?_
      rintro e w2 ⟨rfl, rfl⟩
      go_wp2_with fail
      refine (hrun _).mono ?_
      rintro e w3 ⟨rfl, rfl⟩
      go_wp2_with fail
      go_ret2
      exact ⟨by rw [HR.out]; rfl, H0.out⟩

/-- Contract of the page's One. -/
theorem rOne_c (l : List UInt8) (hl : l.length ≤ 2305843009213693000) (w : World) :
    Calls Try.prog 20 #[.string (S l)] w fun e w' => e = .returned (.tuple #[.string (S (oneL l).1), .int .i64 ((oneL l).2 : Int)]) ∧ Below w.heap.size w w' := by
  cases hn : Lib.hasPrefix l [38, 35] with
  | false => exact rone_names l hn w
  | true =>
    obtain ⟨u, rfl⟩ := pre_cut hn
    have hu : u.length ≤ 2305843009213693000 := by simp at hl; omega
    show Calls Try.prog 20 #[.string (S (38 :: 35 :: u))] w _
    cases u with
    | nil => exact rone_nil [] hu rfl w
    | cons c v =>
      by_cases h1 : c = 120
      · subst h1; exact rone_x _ hu v rfl w
      · by_cases h2 : c = 88
        · subst h2; exact rone_X _ hu v rfl w
        · exact rone_ten _ hu c v rfl h1 h2 w
end Go.Proofs.Ytidfcajhmldieaa.Crf

/-
  Contract of the page's Decode.
-/
namespace Go.Proofs.Ytidfcajhmldieaa.Utf
open Go.RowKit Go.Proofs.Ytidfcajhmldieaa.Oct Go.Proofs.Ytidfcajhmldieaa.Mem
open Go.Lib (encodeRune encodeRuneZ)

theorem oct_at (s : ByteArray) (k : Nat) (h : k < s.size) : oct s.data.toList k = s[k].toNat := by
  unfold oct
  rw [at_eq s k h]; rfl

def maskI (n : Nat) : Int := if n = 1 then 127 else if n = 2 then 31 else if n = 3 then 15 else 7
theorem mask_all : ∀ (n : Fin 4) (b : Fin 256), bits .and .i64 ((b.val : Nat) : Int) (maskI (n.val + 1)) = ((b.val % partN (n.val + 1) : Nat) : Int) := by decide +kernel
theorem mask_eq (n b : Nat) (h1 : 1 ≤ n) (h4 : n ≤ 4) (hb : b < 256) : bits .and .i64 (b : Int) (maskI n) = ((b % partN n : Nat) : Int) := by
  have := mask_all ⟨n - 1, by omega⟩ ⟨b, hb⟩
  simp only at this
  rwa [show n - 1 + 1 = n by omega] at this

theorem cut_take (s : ByteArray) (n : Nat) : (s.extract 0 n).data.toList = s.data.toList.take n := by
  rw [Lib.extract_data, List.drop_zero, Nat.sub_zero]

theorem rdecode_nil (s : ByteArray) (hs : s.size = 0) (w : World) :
    Calls Try.prog 26 #[.string s] w fun e w' => e = .returned (.tuple #[.int .i64 (-1), .int .i64 0]) ∧ Kept w w' := by
  have hne : s.toList.isEmpty = true := by
    rw [Lib.toList_data, List.isEmpty_iff]
    exact List.eq_nil_of_length_eq_zero (by rw [size_list]; exact hs)
  have hne2 : s.toList = [] := List.isEmpty_iff.1 hne
  go_enter Try.func26, Try.ntmps26
  go_wp2
  go_ret2
  exact ⟨rfl, Below.refl _ _⟩

theorem rsize_at (s : ByteArray) (hs : 0 < s.size) (w : World) :
    Calls Try.prog 40 #[.int .u8 (s[0].toNat : Int)] w fun e w' => e = .returned (.int .i64 (sizeN (oct s.data.toList 0) : Nat)) ∧ w = w' := by
  rw [oct_at s 0 hs, ← sizeI_eq]
  exact rsize_c _ w (by omega) (by have := s[0].toNat_lt; omega)

theorem text_ne (s : ByteArray) (hs : 0 < s.size) : s.toList.isEmpty = false ∧ s.toList ≠ [] := by
  have hne : s.toList.isEmpty = false := by
    rw [Lib.toList_data]
    cases h : s.data.toList with
    | nil => have := size_list s; rw [h] at this; simp at this; omega
    | cons _ _ => rfl
  exact ⟨hne, by intro e; rw [e] at hne; simp at hne⟩

set_option maxHeartbeats 2000000 in
theorem rdecode_short (s : ByteArray) (hs : 0 < s.size) (_ : s.size ≤ 4611686018427387904) (w : World) (h : sizeN (oct s.data.toList 0) = 0 ∨ s.size < sizeN (oct s.data.toList 0)) :
    Calls Try.prog 26 #[.string s] w fun e w' => e = .returned (.tuple #[.int .i64 (-1), .int .i64 1]) ∧ Kept w w' := by
  obtain ⟨hne, hne2⟩ := text_ne s hs
  have hz := fun w => rsize_at s hs w
  have hle := sizeN_le (oct s.data.toList 0)
  generalize sizeN (oct s.data.toList 0) = n at h hle hz
  by_cases hn0 : n = 0
  · subst hn0
    clear h
    go_enter Try.func26, Try.ntmps26
    go_wp2_with (go_at_call 40; refine (hz _).mono ?_; rintro e w' ⟨rfl, rfl⟩)
    go_ret2
    exact ⟨rfl, Below.refl _ _⟩
  · have hlt : s.size < n := by omega
    have b0 : ((n : Int) == 0) = false := by simp; omega
    clear h
    go_enter Try.func26, Try.ntmps26
    go_wp2_with (go_at_call 40; refine (hz _).mono ?_; rintro e w' ⟨rfl, rfl⟩)
    go_ret2
    exact ⟨rfl, Below.refl _ _⟩

theorem mask_cell (w : World) (n : Nat) (h1 : 1 ≤ n) (h4 : n ≤ 4) : (w.alloc (.cells #[.int .i64 0, .int .i64 127, .int .i64 31, .int .i64 15, .int .i64 7] 3)).cell? ⟨w.heap.size, n, none⟩ = some (.int .i64 (maskI n)) := by
  unfold World.cell?
  rw [World.alloc_heap_new]
  match n, h1, h4 with
  | 1, _, _ => rfl
  | 2, _, _ => rfl
  | 3, _, _ => rfl
  | 4, _, _ => rfl

theorem partN_b (n : Nat) : 0 < partN n ∧ partN n ≤ 128 := by
  unfold partN
  repeat' split
  all_goals omega
theorem below_drewN {B : Nat} {a w : World} (h : Below B a w) : ∀ q, Below B a (w.drewN q)
  | 0 => h
  | q + 1 => (below_drewN h q).drew

set_option maxHeartbeats 4000000 in
set_option maxRecDepth 100000 in
theorem rdecode_main (s : ByteArray) (hm : s.size ≤ 4611686018427387904) (w : World) (n : Nat) (hn : n = sizeN (oct s.data.toList 0)) (h1 : 1 ≤ n) (hns : n ≤ s.size) :
    Calls Try.prog 26 #[.string s] w fun e w' => e = .returned (.tuple #[.int .i64 (dec s.data.toList).1, .int .i64 ((dec s.data.toList).2 : Nat)]) ∧ Kept w w' := by
  have hs : 0 < s.size := by omega
  obtain ⟨hne, hne2⟩ := text_ne s hs
  have hz := fun w => rsize_at s hs w
  have h4 : n ≤ 4 := by rw [hn]; exact sizeN_le _
  rw [← hn] at hz
  have hlne : s.data.toList ≠ [] := by intro e; have := size_list s; rw [e] at this; simp at this; omega
  have b0 : ((n : Int) == 0) = false := by simp; omega
  have b1 : decide (s.size < n) = false := by simp; omega
  have hcell := mask_cell w n h1 h4
  have hand := mask_eq n s[0].toNat h1 h4 s[0].toNat_lt
  have HN := Lib.hid hn
  clear hn
  obtain ⟨mk, hmk⟩ : ∃ mk, mk = maskI n := ⟨_, rfl⟩
  rw [← hmk] at hcell hand
  clear hmk
  go_enter Try.func26, Try.ntmps26
  go_wp2_with (go_at_call 40; refine (hz _).mono ?_; rintro e w' ⟨rfl, rfl⟩)
  go_quiet (fail)
  rename_i nq _
  have hk0 : Kept w ((w.alloc (.cells #[.int .i64 0, .int .i64 127, .int .i64 31, .int .i64 15, .int .i64 7] 3)).drewN nq) := below_drewN ((Below.refl _ w).alloc (Nat.le_refl _) _) nq
  have HK0 := Lib.hid hk0
  have HA : Hid (bits .and .i64 (wrap64 (s[0].toNat : Int)) mk = runV s.data.toList (partN n) 0) := by
    show _ = _
    rw [IntWalk.wrap64_in _ (by have := s[0].toNat_lt; omega), hand]
    unfold runV
    rw [oct_at s 0 hs]
  clear hcell hand hk0 hz hne hne2 b1
  go_wp2
  go_loop [6, 7] (fun c i => ∃ k : Nat, 1 ≤ k ∧ k ≤ n ∧ i = .int .i64 (k : Int) ∧ c = .int .i64 (runV s.data.toList (partN n) (k - 1)) ∧ Hid (∀ j, 1 ≤ j → j < k → 128 ≤ oct s.data.toList j ∧ oct s.data.toList j ≤ 191)) (fun _ i => n - (intOf i).toNat)
  case atStart => exact ⟨1, Nat.le_refl _, h1, rfl, by rw [HA.out], fun j hj1 hj2 => absurd hj1 (by omega)⟩
  case round =>
    obtain ⟨k, hk1, hk2, rfl, rfl, hcont⟩ := hrel
    have hbd := runV_bound s.data.toList (partN n) (partN_b n).1 (partN_b n).2 (k - 1) (by omega) (fun j hj1 hj2 => hcont.out j hj1 (by omega))
    by_cases hlt : k < n
    · have hks : k < s.size := by omega
      have ho := oct_at s k hks
      have hb : (s[k].toNat : Int) ≤ 255 := by have := s[k].toNat_lt; omega
      rcases (show (s[k].toNat : Int) < 128 ∨ 191 < (s[k].toNat : Int) ∨ (128 ≤ (s[k].toNat : Int) ∧ (s[k].toNat : Int) ≤ 191) by omega) with hx | hx | ⟨hx1, hx2⟩
      · have E := Lib.hid (dec_broken s.data.toList hlne k hk1 (by rw [← HN.out]; exact hlt) (by rw [ho]; omega))
        clear ho
        go_wp2
        go_ret2
        rw [E.out]
        exact ⟨rfl, HK0.out⟩
      · have E := Lib.hid (dec_broken s.data.toList hlne k hk1 (by rw [← HN.out]; exact hlt) (by rw [ho]; omega))
        have d1 : decide ((s[k].toNat : Int) < 128) = false := by simp; omega
        clear ho
        go_wp2
        go_ret2
        rw [E.out]
        exact ⟨rfl, HK0.out⟩
      · have d1 : decide ((s[k].toNat : Int) < 128) = false := by simp; omega
        have d2 : decide (191 < (s[k].toNat : Int)) = false := by simp; omega
        have E : Hid (runV s.data.toList (partN n) (k - 1) * 64 + (s[k].toNat : Int) - 128 = runV s.data.toList (partN n) k) := by
          show _ = _
          obtain ⟨k', rfl⟩ : ∃ k', k = k' + 1 := ⟨k - 1, by omega⟩
          rw [Nat.add_sub_cancel]
          show _ = runV s.data.toList (partN n) k' * 64 + (oct s.data.toList (k' + 1) : Int) - 128
          rw [ho]
        have HC : Hid (∀ j, 1 ≤ j → j < k + 1 → 128 ≤ oct s.data.toList j ∧ oct s.data.toList j ≤ 191) := fun j hj1 hj2 => by
          by_cases e : j = k
          · subst e; rw [ho]; omega
          · exact hcont.out j hj1 (by omega)
        clear ho
        go_wp2
        go_round
        case rel => exact ⟨k + 1, by omega, by omega, by go_num, by rw [Nat.add_sub_cancel, ← E.out], HC⟩
        case measure => simp [intOf]; omega
    · obtain rfl : k = n := by omega
      clear hcont hlt
      have hno := dec_no s.data.toList hlne
      rw [← HN.out] at hno
      have hyes := fun hc h => dec_yes s.data.toList (runV s.data.toList (partN k) (k - 1)) hc (by rw [← HN.out]; exact h)
      rw [← HN.out] at hyes
      have HNO := Lib.hid hno
      have HYES := Lib.hid hyes
      clear hno hyes
      generalize runV s.data.toList (partN k) (k - 1) = v at hbd HNO HYES
      cases hc : charB v with
      | false =>
        have henc := fun w => rencode_no v w hc
        have E := Lib.hid (HNO.out (fun h => of_decide_eq_false hc h.1))
        clear HNO HYES hc
        go_wp2_with fail
        refine (henc _).mono ?_
        rintro e w1 ⟨rfl, hb1⟩
        have HB := Lib.hid (kept_trans HK0.out hb1)
        clear hb1 henc
        go_wp2
        go_ret2
        rw [E.out]
        exact ⟨rfl, HB.out⟩
      | true =>
        have henc := fun w => rencode_yes v w hc
        obtain ⟨t, ht⟩ : ∃ t, t = S (encodeRune v) := ⟨_, rfl⟩
        rw [← ht] at henc
        by_cases heq : s.data.toList.take k = encodeRune v
        · have E := Lib.hid (HYES.out (of_decide_eq_true hc) heq)
          have q1 : (t.toList == (s.extract 0 k).toList) = true := by
            rw [str_beq, decide_eq_true_eq, ht, ← S_list (s.extract 0 k), cut_take, heq]
          have q2 : (t.toList != (s.extract 0 k).toList) = false := by rw [bne, q1]; rfl
          clear HNO HYES hc heq ht
          go_wp2_with fail
          refine (henc _).mono ?_
          rintro e w1 ⟨rfl, hb1⟩
          have HB := Lib.hid (kept_trans HK0.out hb1)
          clear hb1 henc
          go_wp2
          go_ret2
          rw [E.out]
          exact ⟨rfl, HB.out⟩
        · have E := Lib.hid (HNO.out (fun h => heq h.2))
          have q1 : (t.toList == (s.extract 0 k).toList) = false := by
            rw [str_beq, decide_eq_false_iff_not, ht]
            intro e; apply heq; rw [← cut_take, ← e, list_S]
          have q2 : (t.toList != (s.extract 0 k).toList) = true := by rw [bne, q1]; rfl
          clear HNO HYES hc heq ht
          go_wp2_with fail
          refine (henc _).mono ?_
          rintro e w1 ⟨rfl, hb1⟩
          have HB := Lib.hid (kept_trans HK0.out hb1)
          clear hb1 henc
          go_wp2
          go_ret2
          rw [E.out]
          exact ⟨rfl, HB.out⟩

theorem rdecode_c (s : ByteArray) (hm : s.size ≤ 4611686018427387904) (w : World) :
    Calls Try.prog 26 #[.string s] w fun e w' => e = .returned (.tuple #[.int .i64 (dec s.data.toList).1, .int .i64 ((dec s.data.toList).2 : Nat)]) ∧ Kept w w' := by
  by_cases h0 : s.size = 0
  · have hl : s.data.toList = [] := List.eq_nil_of_length_eq_zero (by rw [size_list]; exact h0)
    rw [hl, dec_nil]
    exact rdecode_nil s h0 w
  · have hl : s.data.toList ≠ [] := by intro e; apply h0; rw [← size_list, e]; rfl
    by_cases h : sizeN (oct s.data.toList 0) = 0 ∨ s.size < sizeN (oct s.data.toList 0)
    · rw [dec_short s.data.toList hl (by rw [size_list]; exact h)]
      exact rdecode_short s (by omega) hm w h
    · exact rdecode_main s hm w _ rfl (by omega) (by omega)
end Go.Proofs.Ytidfcajhmldieaa.Utf

/-
  Contract of the page's Chars: the characters of a text, as they are repaired, in a list of its own.
-/
namespace Go.Proofs.Ytidfcajhmldieaa.Utf
open Go.RowKit Go.Proofs.Ytidfcajhmldieaa.Oct Go.Proofs.Ytidfcajhmldieaa.Mem
open Go.Lib (encodeRune encodeRuneZ)

theorem chars_step (l : List UInt8) (hl : l ≠ []) : chars l = fix (dec l).1 :: chars (l.drop (dec l).2) := by
  unfold chars
  rw [parts_step l hl, List.map_cons]
theorem chars_nil : chars [] = [] := rfl
theorem drop_ne (s : ByteArray) (a : Nat) (h : a < s.size) : s.data.toList.drop a ≠ [] := by
  intro e; have := congrArg List.length e; rw [List.length_drop, size_list] at this; simp at this; omega
theorem drop_nil (s : ByteArray) (a : Nat) (h : s.size ≤ a) : s.data.toList.drop a = [] := List.drop_eq_nil_of_le (by rw [size_list]; exact h)

theorem fix_low {c : Int} (h : c = -1 ∨ isChar c) (hc : c ≤ 0) : fix c = 65533 := by
  unfold fix; rw [if_pos]; unfold isChar at h; omega
theorem fix_high {c : Int} (hc : 0 < c) : fix c = c := by
  unfold fix; rw [if_neg]; omega

set_option maxHeartbeats 4000000 in
theorem rchars_c (s : ByteArray) (hs : s.size ≤ 17592186044416) (w : World) :
    Calls Try.prog 18 #[.string s] w fun e w' => ∃ v, e = .returned v ∧ w'.ownsRow w.heap.size 3 1 v (chars s.data.toList).length ((chars s.data.toList).map iv) ∧ Kept w w' := by
  obtain ⟨i0, hi, hz0, hz1, hz2⟩ := info_parts info_int
  go_enter Try.func18, Try.ntmps18
  go_wp2
  go_loopw [3, 4, 5, 6] (fun v i _ _ wr => ∃ (a n : Nat) (pre : List Int), a ≤ s.size ∧ n ≤ a ∧ i = .int .i64 a ∧ Hid (pre ++ chars (s.data.toList.drop a) = chars s.data.toList) ∧ Hid (wr.ownsRow w.heap.size 3 1 v n (pre.map iv)) ∧ Hid (Kept w wr)) (fun _ i _ _ _ => s.size - (intOf i).toNat)
  case atStart => exact ⟨0, 0, [], Nat.zero_le _, Nat.le_refl _, rfl, rfl, World.ownsRow_nil _ _ _ _, Below.refl _ _⟩
  case round =>
    obtain ⟨a, n, pre, ha, hna, rfl, hv, hrow, hb⟩ := hrel
    by_cases hlt : a < s.size
    · have hsz : (s.extract a s.size).size ≤ 4611686018427387904 := by rw [← size_list, cut_list, List.length_drop, size_list]; omega
      have hd := rdecode_c (s.extract a s.size) hsz wr
      rw [cut_list] at hd
      have hne := drop_ne s a hlt
      have hw := dec_width _ hne
      rw [List.length_drop, size_list] at hw
      have hc := dec_char _ hne
      have hst := Lib.hid (chars_step _ hne)
      rw [List.drop_drop] at hst
      clear hne hsz
      generalize dec (s.data.toList.drop a) = d at hd hw hc hst
      obtain ⟨c, k⟩ := d
      simp only at hd hw hc
      have hst' : Hid (chars (s.data.toList.drop a) = fix c :: chars (s.data.toList.drop (a + k))) := hst
      clear hst
      have HC := Lib.hid hc
      clear hc
      go_wp2_with fail
      refine hd.mono ?_
      rintro e w1 ⟨rfl, hb1⟩
      have HB1 := Lib.hid (kept_trans hb.out hb1)
      have HR1 : Hid (w1.ownsRow w.heap.size 3 1 _ n (pre.map iv)) := own_kept hrow.out hb1
      have hB : w.heap.size ≤ w1.heap.size := HB1.out.size
      clear hb1 hd hb hrow
      by_cases hc0 : c ≤ 0
      · have hfx := Lib.hid (fix_low HC.out hc0)
        go_wp2_with (at_builtin; refine wpList_append_own _ rfl _ _ 44 rfl w.heap.size 3 i0 (.int .i64 0) 1 8 Try.underlying44 hi hz0 hz1 hz2 rfl (by decide) _ _ _ rfl (HR1.out.alloc _) ⟨w1.heap.size, 0, none⟩ 1 1 [iv 65533] rfl rfl (cell_one_new _ _ _) (by simp [Value.oneCell']) (by unfold maxLen; omega) (by omega) (by simp; omega) ?_)
        intro v' w2 hown hg _
        have HO := Lib.hid hown
        have HB2 : Hid (Kept w w2) := (HB1.out.alloc hB _).grown hg (by simp; omega) (own_base HR1.out)
        clear hown hg HR1 HB1
        go_wp2
        go_roundw
        case rel =>
          refine ⟨a + k, n + 1, pre ++ [65533], by omega, by omega, by go_num, ?_, ?_, HB2⟩
          · show _ = _
            rw [← hv.out, hst'.out, hfx.out]; simp
          · show World.ownsRow _ _ _ _ _ _ _
            rw [List.map_append]; exact HO.out
        case measure => simp [intOf]; omega
      · have hc1 : 0 < c := by omega
        have hfx := Lib.hid (fix_high hc1)
        have d0 : decide (c ≤ 0) = false := by simp; omega
        go_wp2_with (at_builtin; refine wpList_append_own _ rfl _ _ 44 rfl w.heap.size 3 i0 (.int .i64 0) 1 8 Try.underlying44 hi hz0 hz1 hz2 rfl (by decide) _ _ _ rfl (HR1.out.alloc _) ⟨w1.heap.size, 0, none⟩ 1 1 [iv c] rfl rfl (cell_one_new _ _ _) (by simp [Value.oneCell']) (by unfold maxLen; omega) (by omega) (by simp; omega) ?_)
        intro v' w2 hown hg _
        have HO := Lib.hid hown
        have HB2 : Hid (Kept w w2) := (HB1.out.alloc hB _).grown hg (by simp; omega) (own_base HR1.out)
        clear hown hg HR1 HB1
        go_wp2
        go_roundw
        case rel =>
          refine ⟨a + k, n + 1, pre ++ [c], by omega, by omega, by go_num, ?_, ?_, HB2⟩
          · show _ = _
            rw [← hv.out, hst'.out, hfx.out]; simp
          · show World.ownsRow _ _ _ _ _ _ _
            rw [List.map_append]; exact HO.out
        case measure => simp [intOf]; omega
    · have hfin : Hid (pre = chars s.data.toList) := by
        show _ = _
        rw [← hv.out, drop_nil s a (by omega), chars_nil, List.append_nil]
      go_wp2
      go_ret
      refine ⟨_, rfl, ?_, hb.out⟩
      have hr := hrow.out
      have hn : pre.length = n := by simpa using hr.1
      rw [← hfin.out, hn]
      exact hr
end Go.Proofs.Ytidfcajhmldieaa.Utf

/-
  Contracts of utf.parts and of the iterator that it hands out: the parts of the text, from the left.
-/
namespace Go.Proofs.Ytidfcajhmldieaa.Utf
open Go.RowKit Go.Proofs.Ytidfcajhmldieaa.Oct Go.Proofs.Ytidfcajhmldieaa.Mem
open Go.Lib (encodeRune)

attribute [local go_sem] Oper.semAt_some

/-- A part of a text: a character, or -1. -/
abbrev Part := { c : Int // c = -1 ∨ isChar c }
abbrev vals (l : List Part) : List Int := l.map (·.1)

theorem kept_grown {W W' : World} (h : Kept W W') : W.grownBy W' none := ⟨h.os, h.tape, h.output, h.size, fun k hk _ => h.block k hk⟩

end Go.Proofs.Ytidfcajhmldieaa.Utf

/-
  Contracts of utf.eachRepaired, at whatever function value that is handed in and whatever it makes of memory of its own, and of utf.anyPart, at a function value that changes nothing.
-/
namespace Go.Proofs.Ytidfcajhmldieaa.Utf
open Go.RowKit Go.Proofs.Ytidfcajhmldieaa.Oct Go.Proofs.Ytidfcajhmldieaa.Mem
open Go.Lib (encodeRune)

attribute [local go_sem] Oper.semAt_some

/-- What is asked of a function value that tells of a part whether it is wanted: it changes nothing. -/
def Asks (g : Nat) (lb : Array Value) (p : Int → Bool) : Prop :=
  ∀ (c : Int) (W : World), Calls Try.prog g (#[.int .i64 c] ++ lb) W fun e w' => e = .returned (.bool (p c)) ∧ W = w'

end Go.Proofs.Ytidfcajhmldieaa.Utf

/-
  Contracts of utf.Valid, Count, Repair, Chars.
-/
namespace Go.Proofs.Ytidfcajhmldieaa.Utf
open Go.RowKit Go.Proofs.Ytidfcajhmldieaa.Oct Go.Proofs.Ytidfcajhmldieaa.Mem
open Go.Lib (encodeRune)

/-! ### Valid -/
theorem valid_any (l : List UInt8) : (!(parts l).any (fun c => c == -1)) = valid l := by
  unfold valid
  rw [Bool.eq_iff_iff]
  simp

/-! ### Count -/
end Go.Proofs.Ytidfcajhmldieaa.Utf

/-
  Contracts of utf.Repair and utf.Chars.
-/
namespace Go.Proofs.Ytidfcajhmldieaa.Utf
open Go.RowKit Go.Proofs.Ytidfcajhmldieaa.Oct Go.Proofs.Ytidfcajhmldieaa.Mem
open Go.Lib (encodeRune)

/-! ### Repair -/
/-- Another box than the slice's, of another type than its cells, lies as it lay. -/
theorem other_box {W w1 : World} {n₀ B k : Nat} {t e : TypeId} {v v' u : Value} {n size : Nat} {xs : List Value} {tmp : Obj} (h : Boxed W k t u) (hte : t ≠ e) (hkB : k ≠ B) (hrow : W.ownsRow n₀ e size v n xs) (hgrow : (W.alloc tmp).grownBy w1 v.ownBlock) :
    Boxed (w1.setCell ⟨B, 0, none⟩ v') k t u := ((h.alloc tmp).kept hgrow (h.not_row hte hrow)).other hkB _

/-! ### Chars -/
end Go.Proofs.Ytidfcajhmldieaa.Utf

/-
  Contracts of the page's Valid and Chars, and of SameInts: lists of numbers in memory.
-/
namespace Go.Proofs.Ytidfcajhmldieaa.Utf
open Go.RowKit Go.Proofs.Ytidfcajhmldieaa.Oct Go.Proofs.Ytidfcajhmldieaa.Mem
open Go.Lib (encodeRune encodeRuneZ)

theorem valid_step (l : List UInt8) (hl : l ≠ []) : valid l = (decide ((dec l).1 ≠ -1) && valid (l.drop (dec l).2)) := by
  unfold valid
  rw [parts_step l hl, List.all_cons]
theorem valid_nil : valid [] = true := rfl
end Go.Proofs.Ytidfcajhmldieaa.Utf

/-
  Contracts of the page's Repair and of SameInts: lists of numbers in memory.
-/
namespace Go.Proofs.Ytidfcajhmldieaa.Utf
open Go.RowKit Go.Proofs.Ytidfcajhmldieaa.Oct Go.Proofs.Ytidfcajhmldieaa.Mem
open Go.Lib (encodeRune encodeRuneZ)

/-- A slice that holds these numbers. -/
def Ints (W : World) (v : Value) (l : List Int) : Prop :=
  (v = .slice none 0 0 ∧ l = []) ∨ ∃ g cap, v = .slice (some ⟨g, 0, none⟩) l.length cap ∧ ∀ j c, l[j]? = some c → W.cell? ⟨g, j, none⟩ = some (.int .i64 c)

theorem ints_of_row {W : World} {base n : Nat} {v : Value} {l : List Int} (h : W.ownsRow base 3 1 v n (l.map iv)) : Ints W v l := by
  have hn : l.length = n := by simpa using h.1
  rcases h.2 with ⟨rfl, hz⟩ | ⟨g, cap, cur, rfl, hg, hh, hnc, hcm, hcs, htk⟩
  · exact .inl ⟨rfl, List.eq_nil_of_length_eq_zero (by omega)⟩
  · subst hn
    refine .inr ⟨g, cap, rfl, fun j c hj => ?_⟩
    have h1 := h.cellAt j (by have := (List.getElem?_eq_some_iff.1 hj).1; omega)
    rw [h1, List.getElem?_map, hj]; rfl
theorem Ints.kept {W W' : World} {v : Value} {l : List Int} (h : Ints W v l) (hb : Kept W W') : Ints W' v l := by
  rcases h with h | ⟨g, cap, rfl, hc⟩
  · exact .inl h
  · exact .inr ⟨g, cap, rfl, fun j c hj => kept_cell hb (hc j c hj)⟩

theorem strCells_S (l : List UInt8) : Lib.strCells (S l) = l.map bv := by
  simp [Lib.strCells]

/-- The loop of the page's Repair: octets that are laid one behind the other. -/
theorem encs_take (cs : List Int) (k : Nat) (c : Int) (h : cs[k]? = some c) : encs (cs.take (k + 1)) = encs (cs.take k) ++ encodeRune c := by
  rw [List.take_add_one, h]
  show encs (cs.take k ++ [c]) = _
  rw [encs_snoc]

set_option maxHeartbeats 4000000 in
theorem rrepair_c (s : ByteArray) (hs : s.size ≤ 17592186044416) (w : World) :
    Calls Try.prog 10 #[.string s] w fun e w' => e = .returned (.string (S (rep s.data.toList))) ∧ Kept w w' := by
  obtain ⟨i0, hi, hz0, hz1, hz2⟩ := info_parts Go.Proofs.Ytidfcajhmldieaa.Mem.info_u8
  have hcl := chars_len s.data.toList
  rw [size_list] at hcl
  have hch := Lib.hid (chars_char s.data.toList)
  have hrep : Hid (rep s.data.toList = encs (chars s.data.toList)) := rfl
  have hcall := rchars_c s hs w
  generalize chars s.data.toList = cs at hcl hch hrep hcall
  obtain ⟨n, hn⟩ : ∃ n, n = cs.length := ⟨_, rfl⟩
  rw [← hn] at hcl hcall
  have HN := Lib.hid hn
  clear hn
  go_enter Try.func10, Try.ntmps10
  go_wp2_with fail
  refine hcall.mono ?_
  rintro e w1 ⟨v, rfl, hrow, hb1⟩
  clear hcall
  have HB1 := Lib.hid hb1
  rcases ints_of_row hrow with ⟨rfl, hnil⟩ | ⟨g, cap, rfl, hcells⟩
  · have hn0 : n = 0 := by rw [HN.out, hnil]; rfl
    have E : Hid (rep s.data.toList = []) := by show _ = _; rw [hrep.out, hnil]; rfl
    clear hrow hb1 hnil hn0 hrep hch HN hi hz0 hz1 hz2 hcl
    go_wp2
    go_loop [3, 5] (fun b i => b = .slice none 0 0 ∧ i = .int .i64 0) (fun _ _ => 0)
    case atStart => exact ⟨rfl, rfl⟩
    case round =>
      obtain ⟨rfl, rfl⟩ := hrel
      have hcv := conv_own (w := w1) (l := []) (World.ownsRow_nil w1 0 5 1)
      go_wp2
      go_ret
      rw [E.out]
      exact ⟨rfl, HB1.out⟩
  · rw [← HN.out]
    have HC := Lib.hid hcells
    clear hrow hb1 hcells
    go_wp2
    go_loopw [3, 5, 6, 7] (fun b i _ _ wr => ∃ k : Nat, k ≤ n ∧ i = .int .i64 k ∧ Hid (wr.ownsRow w1.heap.size 5 1 b (encs (cs.take k)).length ((encs (cs.take k)).map bv)) ∧ Hid (Kept w1 wr)) (fun _ i _ _ _ => n - (intOf i).toNat)
    case atStart => exact ⟨0, Nat.zero_le _, rfl, World.ownsRow_nil _ _ _ _, Below.refl _ _⟩
    case round =>
      obtain ⟨k, hk, rfl, hrow, hb⟩ := hrel
      by_cases hlt : k < n
      · obtain ⟨c, hc⟩ : ∃ c, cs[k]? = some c := ⟨cs[k]'(by rw [← HN.out]; exact hlt), List.getElem?_eq_getElem _⟩
        have c1 : wr.cell? ⟨g, k, none⟩ = some (.int .i64 c) := kept_cell hb.out (HC.out k c hc)
        have hchar := hch.out c (List.mem_of_getElem? hc)
        have henc := fun w => rencode_yes c w (decide_eq_true hchar.1)
        have E := Lib.hid (encs_take cs k c hc)
        have hel := encs_len (cs.take k)
        have htl : (cs.take k).length ≤ k := List.length_take_le _ _
        obtain ⟨t, ht⟩ : ∃ t, t = S (encodeRune c) := ⟨_, rfl⟩
        have htz : t.size ≤ 4 := by rw [ht, size_S]; exact (enc_len c).2
        have HS : Hid (Lib.strCells t = (encodeRune c).map bv ∧ t.size = (encodeRune c).length) := by
          refine ⟨?_, ?_⟩
          · rw [ht, strCells_S]
          · rw [ht, size_S]
        rw [← ht] at henc
        clear ht hc hchar
        obtain ⟨m, hm⟩ : ∃ m, m = (encs (cs.take k)).length := ⟨_, rfl⟩
        rw [← hm] at hel hrow
        have HM := Lib.hid hm
        clear hm
        go_wp2_with fail
        refine (henc _).mono ?_
        rintro e w2 ⟨rfl, hb2⟩
        have HB2 := Lib.hid (kept_trans hb.out hb2)
        have HR2 := Lib.hid (own_kept hrow.out hb2)
        have hB : w1.heap.size ≤ w2.heap.size := HB2.out.size
        clear hb2 henc hb hrow c1
        go_wp2_with (at_builtin; refine Lib.wpList_append_own_string _ rfl _ _ 39 9 rfl w1.heap.size 5 i0 Try.underlying39 Try.underlying9 hi hz0 hz1 hz2 _ m _ rfl HR2.out t rfl (by unfold maxLen; omega) (by omega) hB ?_)
        intro v' w3 hown hg _
        have HO : Hid (w3.ownsRow w1.heap.size 5 1 v' (encs (cs.take (k + 1))).length ((encs (cs.take (k + 1))).map bv)) := by
          show World.ownsRow _ _ _ _ _ _ _
          rw [E.out, List.length_append, List.map_append, ← HM.out, ← HS.out.1, ← HS.out.2]
          exact hown
        have HB3 : Hid (Kept w1 w3) := HB2.out.grown hg hB (own_base HR2.out)
        clear hown hg HR2 HB2
        go_wp2
        go_roundw
        case rel => exact ⟨k + 1, by omega, by go_num, HO, HB3⟩
        case measure => simp [intOf]; omega
      · obtain rfl : k = n := by omega
        have hcv := conv_own hrow.out
        rw [List.take_of_length_le (by rw [← HN.out]; exact Nat.le_refl _), ← hrep.out] at hcv
        go_wp2
        go_ret
        exact ⟨rfl, kept_trans HB1.out hb.out⟩
end Go.Proofs.Ytidfcajhmldieaa.Utf

/-
  What the contracts of the page's Escape and Decode share.
-/
namespace Go.Proofs.Ytidfcajhmldieaa.Crf
open Go.RowKit Go.Proofs.Ytidfcajhmldieaa.Oct Go.Proofs.Ytidfcajhmldieaa.Num Go.Proofs.Ytidfcajhmldieaa.Utf Go.Proofs.Ytidfcajhmldieaa.Mem
open Go.Lib (encodeRune)

/-- The new octet's cell, as an append of one octet asks for it. -/
theorem push_cell {w : World} {x : Int} {c : UInt8} (h : x = (c.toNat : Int)) (j : Nat) (u : Value) (hj : [Mem.bv c][j]? = some u) :
    (w.alloc (.cells #[.int .u8 x] 5)).cell? ((⟨w.heap.size, 0, none⟩ : Addr).add j) = some u := by
  subst h
  match j, hj with
  | 0, hj => simp at hj; subst hj; simp [Addr.add]
theorem push_one {c : UInt8} (u : Value) (hu : u ∈ [Mem.bv c]) : u.oneCell' = true := by simp at hu; subst hu; rfl

/-- A row of octets of the call's own that holds these. -/
def Row (base : Nat) (v : Value) (o : List UInt8) (w : World) : Prop := w.ownsRow base 5 1 v o.length (o.map Mem.bv)
theorem Row.more {base : Nat} {v' : Value} {o t : List UInt8} {w' : World} (h : w'.ownsRow base 5 1 v' (o.length + t.length) (o.map Mem.bv ++ t.map Mem.bv)) : Row base v' (o ++ t) w' := by
  unfold Row
  rw [List.length_append, List.map_append]
  exact h
theorem cells_S (t : List UInt8) : Lib.strCells (S t) = t.map Mem.bv ∧ (S t).size = t.length := ⟨strCells_S t, size_S t⟩

end Go.Proofs.Ytidfcajhmldieaa.Crf
