/-
  Part 27: CrfOne.
-/
import Derived.Test.YtklpbkjplecdpaaGreatSxBaseP26
import Derived.Test.YtklpbkjplecdpaaGreatSxBaseP10
import Derived.Test.YtklpbkjplecdpaaGreatSxBaseP25
/-
  Contract of the page's One.
-/
namespace Go.Proofs.YtklpbkjplecdpaaGreat.Crf
open Go.RowKit Oct Num Utf
open Go.Lib (encodeRune)

theorem two_eq {a a' : ByteArray} {m m' : Int} (h1 : a = a') (h2 : m = m') : Ending.returned (.tuple #[.string a, .int .i64 m]) = .returned (.tuple #[.string a', .int .i64 m']) := by rw [h1, h2]

def wordP (k : Nat) : List UInt8 := 38 :: (wordL k ++ [59])
theorem wordP_len (k : Nat) : (wordP k).length = (wordL k).length + 2 := by simp [wordP]
theorem pOne_name {l : List UInt8} {k : Nat} (hk : k < 5) (h : Lib.hasPrefix l (wordP k) = true) : oneL l = (wordS k, (wordP k).length) := by
  obtain ⟨t, ht⟩ := pre_cut h
  have hr : refR (wordL k) = wordS k := by
    have := name_word hk rfl
    unfold refR
    rw [if_pos (by rw [this]; exact wordS_ne k), this]
  have e : l = 38 :: (wordL k ++ 59 :: t) := by rw [ht]; simp [wordP]
  rw [e, one_of _ _ (by rw [hr]; exact wordS_ne k), hr, wordP_len]
theorem pOne_none {l : List UInt8} (h : ∀ k, k < 5 → Lib.hasPrefix l (wordP k) = false) (hn : Lib.hasPrefix l [38, 35] = false) : oneL l = ([], 0) := by
  have h0 : Lib.hasPrefix l [38, 97, 109, 112, 59] = false := h 0 (by omega)
  have h1 : Lib.hasPrefix l [38, 108, 116, 59] = false := h 1 (by omega)
  have h2 : Lib.hasPrefix l [38, 103, 116, 59] = false := h 2 (by omega)
  have h3 : Lib.hasPrefix l [38, 113, 117, 111, 116, 59] = false := h 3 (by omega)
  have h4 : Lib.hasPrefix l [38, 97, 112, 111, 115, 59] = false := h 4 (by omega)
  rw [← pOne_eq]
  unfold pOne
  rw [h0, h1, h2, h3, h4, hn]
  rfl
theorem pOne_num (u : List UInt8) : oneL (38 :: 35 :: u) = pNum u := by
  rw [← pOne_eq]
  simp [pOne, Lib.hasPrefix, List.isPrefixOf]
theorem num_names (u : List UInt8) (k : Nat) : Lib.hasPrefix (38 :: 35 :: u) (wordP k) = false := by
  unfold wordP wordL
  split <;> simp [Lib.hasPrefix, List.isPrefixOf]
theorem pNum_bad {u : List UInt8} (h : ¬ (1 ≤ runN (baseOf u) (digsOf u) ∧ runN (baseOf u) (digsOf u) ≤ 7 ∧ (digsOf u)[runN (baseOf u) (digsOf u)]? = some 59)) : pNum u = ([], 0) := by
  unfold pNum
  rw [if_neg h]
theorem pNum_good {u : List UInt8} (h : 1 ≤ runN (baseOf u) (digsOf u) ∧ runN (baseOf u) (digsOf u) ≤ 7 ∧ (digsOf u)[runN (baseOf u) (digsOf u)]? = some 59) :
    pNum u = (standL (valB (baseOf u) ((digsOf u).take (runN (baseOf u) (digsOf u)))), 2 + (if isHex u then 1 else 0) + runN (baseOf u) (digsOf u) + 1) := by
  unfold pNum
  rw [if_pos h]

abbrev fiveW (w : World) : World := w.alloc (.cells #[.string ⟨#[38, 97, 109, 112, 59]⟩, .string ⟨#[38, 108, 116, 59]⟩, .string ⟨#[38, 103, 116, 59]⟩, .string ⟨#[38, 113, 117, 111, 116, 59]⟩, .string ⟨#[38, 97, 112, 111, 115, 59]⟩] 9)
theorem five_cell (w : World) (k : Nat) (h : k < 5) : (fiveW w).cell? ⟨w.heap.size, k, none⟩ = some (.string (S (wordP k))) := by
  have e := heap_alloc_new w (.cells #[.string ⟨#[38, 97, 109, 112, 59]⟩, .string ⟨#[38, 108, 116, 59]⟩, .string ⟨#[38, 103, 116, 59]⟩, .string ⟨#[38, 113, 117, 111, 116, 59]⟩, .string ⟨#[38, 97, 112, 111, 115, 59]⟩] 9)
  match k, h with
  | 0, _ => exact cell_of_row _ w.heap.size 0 _ _ _ e
  | 1, _ => exact cell_of_row _ w.heap.size 1 _ _ _ e
  | 2, _ => exact cell_of_row _ w.heap.size 2 _ _ _ e
  | 3, _ => exact cell_of_row _ w.heap.size 3 _ _ _ e
  | 4, _ => exact cell_of_row _ w.heap.size 4 _ _ _ e
theorem five_cut (k : Nat) (h : k < 5) : (⟨#[38, 60, 62, 34, 39]⟩ : ByteArray).extract k (k + 1) = S (wordS k) := by
  have : ∀ k : Fin 5, (⟨#[38, 60, 62, 34, 39]⟩ : ByteArray).extract k.val (k.val + 1) = S (wordS k.val) := by decide +kernel
  exact this ⟨k, h⟩

set_option maxHeartbeats 4000000 in
set_option maxRecDepth 100000 in
theorem rone_names (l : List UInt8) (hn : Lib.hasPrefix l [38, 35] = false) (w : World) :
    Calls Tryz.prog 93 #[.string (S l)] w fun e w' => e = .returned (.tuple #[.string (S (oneL l).1), .int .i64 ((oneL l).2 : Int)]) ∧ Below w.heap.size w w' := by
  have HB := Lib.hid (fun k w => rbegins_c (wordP k) l w)
  have hbn : ∀ w : World, Calls Tryz.prog 58 #[.string ⟨#[38, 35]⟩, .string (S l)] w fun e w' => e = .returned (.bool false) ∧ w = w' := fun w => by
    have := rbegins_c [38, 35] l w
    rw [hn] at this
    exact this
  have HC := Lib.hid (fun k h => five_cell w k h)
  have HCut := Lib.hid (fun k h => five_cut k h)
  have H0 : Hid (Below w.heap.size w (fiveW w)) := (Below.refl _ w).alloc (Nat.le_refl _) _
  obtain ⟨w1, hw0⟩ : ∃ w1, w1 = fiveW w := ⟨_, rfl⟩
  rw [← hw0] at HC H0
  have hw1 : w1 = w.alloc (.cells #[.string ⟨#[38, 97, 109, 112, 59]⟩, .string ⟨#[38, 108, 116, 59]⟩, .string ⟨#[38, 103, 116, 59]⟩, .string ⟨#[38, 113, 117, 111, 116, 59]⟩, .string ⟨#[38, 97, 112, 111, 115, 59]⟩] 9) := hw0
  have HW1 := Lib.hid hw1
  clear hw1 hw0
  have HN := Lib.hid hn
  clear hn
  generalize S l = L at HB hbn
  go_enter Tryz.func93, Tryz.ntmps93
  go_wp2_with fail
  rw [← HW1.out]
  clear HW1
  go_loop [5] (fun i => ∃ k : Nat, k ≤ 5 ∧ i = .int .i64 k ∧ Hid (∀ j, j < k → Lib.hasPrefix l (wordP j) = false)) (fun i => 5 - (intOf i).toNat)
  case atStart => exact ⟨0, Nat.zero_le _, rfl, fun j h => absurd h (by omega)⟩
  case round =>
    obtain ⟨k, hk, rfl, hno⟩ := hrel
    by_cases hlt : k < 5
    · have hc := HC.out k hlt
      have hb := HB.out k w1
      have i0 : (0 : Int) ≤ (k : Int) := by omega
      have i1 : (k : Int) < 5 := by omega
      cases hq : Lib.hasPrefix l (wordP k) with
      | true =>
        have HR : Hid (oneL l = (wordS k, (wordP k).length)) := pOne_name hlt hq
        have hcut := HCut.out k hlt
        have hz : ((S (wordP k)).size : Int) = ((wordP k).length : Int) := by rw [size_S]
        rw [hq] at hb
        generalize S (wordP k) = P at hc hb hz
        generalize hSt : S (wordS k) = St at hcut
        have HSt := Lib.hid hSt
        generalize hn2 : (wordP k).length = m at hz
        have HM := Lib.hid hn2
        have i2 : (k : Int) + 1 ≤ 5 := by omega
        have i3 : (k : Int) ≤ (k : Int) + 1 := by omega
        have i4 : ((k : Int) + 1).toNat = k + 1 := by omega
        have i5 : (0 : Int) ≤ (k : Int) + 1 := by omega
        have i6 : IntKind.i64.wrap ((k : Int) + 1) = (k : Int) + 1 := by rw [IntKind.wrap_i64]; omega
        have H6 := Lib.hid i6
        clear hq hSt hn2 i6
        go_wp2_with (first | (go_at_call 58; refine hb.mono ?_; rintro e w2 ⟨rfl, rfl⟩))
        have i6 := H6.out
        have z5 : (⟨#[38, 60, 62, 34, 39]⟩ : ByteArray).size = 5 := rfl
        go_quiet (fail)
        rename_i nq _
        go_wp2
        go_ret2
        exact ⟨two_eq (by rw [HR.out]; exact HSt.out.symm) (by rw [HR.out]; show (m : Int) = (((wordP k).length : Nat) : Int); rw [HM.out]), drewB H0.out nq⟩
      | false =>
        have HNW := Lib.hid hq
        rw [hq] at hb
        generalize hP : S (wordP k) = P at hc hb
        clear hq hP
        go_wp2_with (first | (go_at_call 58; refine hb.mono ?_; rintro e w2 ⟨rfl, rfl⟩))
        go_round
        case rel => exact ⟨k + 1, by omega, by go_num, fun j hj => by
          rcases Nat.lt_or_ge j k with h | h
          · exact hno.out j h
          · obtain rfl : j = k := by omega
            exact HNW.out⟩
        case measure => simp [intOf]; omega
    · obtain rfl : k = 5 := by omega
      have HR : Hid (oneL l = ([], 0)) := pOne_none hno.out HN.out
      go_wp2_with (first | (go_at_call 58; refine (hbn _).mono ?_; rintro e w2 ⟨rfl, rfl⟩))
      go_ret2
      exact ⟨by rw [HR.out]; rfl, H0.out⟩

set_option maxHeartbeats 8000000 in
set_option maxRecDepth 100000 in
theorem rone_x (u : List UInt8) (hu : u.length ≤ 2305843009213693000) (v : List UInt8) (hv : u = 120 :: v) (w : World) :
    Calls Tryz.prog 93 #[.string (S (38 :: 35 :: u))] w fun e w' => e = .returned (.tuple #[.string (S (oneL (38 :: 35 :: u)).1), .int .i64 ((oneL (38 :: 35 :: u)).2 : Int)]) ∧ Below w.heap.size w w' := by
  have HB := Lib.hid (fun k w => (by have := rbegins_c (wordP k) (38 :: 35 :: u) w; rw [num_names] at this; exact this : Calls Tryz.prog 58 #[.string (S (wordP k)), .string (S (38 :: 35 :: u))] w fun e w' => e = .returned (.bool false) ∧ w = w'))
  have hbn : ∀ w : World, Calls Tryz.prog 58 #[.string ⟨#[38, 35]⟩, .string (S (38 :: 35 :: u))] w fun e w' => e = .returned (.bool true) ∧ w = w' := fun w => rbegins_c [38, 35] (38 :: 35 :: u) w
  have HC := Lib.hid (fun k h => five_cell w k h)
  have H0 : Hid (Below w.heap.size w (fiveW w)) := (Below.refl _ w).alloc (Nat.le_refl _) _
  obtain ⟨w1, hw0⟩ : ∃ w1, w1 = fiveW w := ⟨_, rfl⟩
  rw [← hw0] at HC H0
  have hw1 : w1 = w.alloc (.cells #[.string ⟨#[38, 97, 109, 112, 59]⟩, .string ⟨#[38, 108, 116, 59]⟩, .string ⟨#[38, 103, 116, 59]⟩, .string ⟨#[38, 113, 117, 111, 116, 59]⟩, .string ⟨#[38, 97, 112, 111, 115, 59]⟩] 9) := hw0
  have HW1 := Lib.hid hw1
  clear hw1 hw0
  obtain ⟨t, ht⟩ : ∃ t, t = digsOf u := ⟨_, rfl⟩
  obtain ⟨n, hn⟩ : ∃ n, n = runN 16 t := ⟨_, rfl⟩
  have hhex : isHex u = true := by rw [hv]; rfl
  have hbase : baseOf u = 16 := by unfold baseOf; rw [hhex]; rfl
  have hdr : (38 :: 35 :: u).drop 3 = digsOf u := by rw [hv]; rfl
  have hsz : (S (38 :: 35 :: u)).size = u.length + 2 := by rw [size_S]; rfl
  have hszt : u.length + 2 = 3 + t.length := by
    have h9 := digs_len u
    rw [hhex, ← ht] at h9
    rw [if_pos rfl] at h9
    omega
  have hkey : runN (baseOf u) (digsOf u) = n := by rw [hbase, ← ht]; exact hn.symm
  have hdrop : (S (38 :: 35 :: u)).data.toList.drop 3 = t := by rw [list_S, ht]; exact hdr
  have hrun := fun w => rrun_c (S (38 :: 35 :: u)) 3 true (by omega) (by omega) w
  rw [hdrop] at hrun
  have hrun : ∀ w : World, Calls Tryz.prog 113 #[.string (S (38 :: 35 :: u)), .int .i64 3, .bool true] w fun e w' => e = .returned (.int .i64 (n : Int)) ∧ w = w' := fun w => by rw [hn]; exact hrun w
  have hnt : n ≤ t.length := by rw [hn]; exact runN_le _ _
  have hone := pOne_num u
  have hbad : (¬ (1 ≤ n ∧ n ≤ 7 ∧ t[n]? = some 59)) → Hid (oneL (38 :: 35 :: u) = ([], 0)) := fun h => by
    show _ = _
    rw [hone]
    refine pNum_bad ?_
    rw [hkey, ← ht]
    exact h
  have hgood : (1 ≤ n ∧ n ≤ 7 ∧ t[n]? = some 59) → Hid (oneL (38 :: 35 :: u) = (standL (valB 16 (t.take n)), 3 + n + 1)) := fun h => by
    show _ = _
    have this := pNum_good (u := u) (by rw [hkey, ← ht]; exact h)
    rw [hkey, hbase, ← ht, hhex] at this
    rw [hone, this]
    simp
  have hget : ∀ (h : 3 + n < (S (38 :: 35 :: u)).size), t[n]? = some ((S (38 :: 35 :: u))[3 + n]'h) := fun h => by
    rw [← hdrop, List.getElem?_drop, List.getElem?_eq_getElem (by rw [size_list]; exact h)]
    rfl
  have hcut : (S (38 :: 35 :: u)).extract 3 (3 + n) = S (t.take n) := by
    rw [Lib.extract_eq, hdrop, show 3 + n - 3 = n by omega]
  have hall : (t.take n).all (digB 16) = true := by rw [hn]; exact runN_all _ _
  have hnum := fun (h : n ≤ 7) w => rnumber_c (t.take n) 16 (by omega) (by rw [List.length_take]; omega) hall w
  have henc : ∀ c w, Calls Tryz.prog 65 #[.int .i64 c] w fun e w' => e = .returned (.tuple #[.string (encS c), .int .i64 (encE c)]) ∧ Below w.heap.size w w' := fun c w => rencode_c c w
  have hfff : ∀ w : World, Calls Tryz.prog 65 #[.int .i64 65533] w fun e w' => e = .returned (.tuple #[.string (S [239, 191, 189]), .int .i64 0]) ∧ Below w.heap.size w w' := fun w => by
    have h := rencode_yes 65533 w (by decide)
    have e : encodeRune 65533 = [239, 191, 189] := by decide +kernel
    rw [e] at h
    exact h
  have hszi : ((S (38 :: 35 :: u)).size : Int) = (t.length : Int) + 3 := by omega
  have h2 : 2 < (S (38 :: 35 :: u)).size := by rw [hsz, hv, List.length_cons]; omega
  have hs2' : ∀ h : 2 < (S (38 :: 35 :: u)).size, (S (38 :: 35 :: u))[2]'h = 120 := by rw [hv]; intro h; rfl
  have hs2 := hs2' h2
  have hx1 : (((S (38 :: 35 :: u))[2].toNat : Int) == 120) = true := by rw [hs2]; rfl

  have h2i : (2 : Int) < (t.length : Int) + 3 := by omega
  generalize S (38 :: 35 :: u) = s at *
  have HRun := Lib.hid hrun
  have HNum := Lib.hid hnum
  have HBad := Lib.hid hbad
  have HGood := Lib.hid hgood
  have HGet := Lib.hid hget
  have HCut := Lib.hid hcut
  have HSz := Lib.hid hsz
  have HSzi := Lib.hid hszi
  have HSzt := Lib.hid hszt
  have HEnc := Lib.hid henc
  clear hrun hnum hbad hgood hget hcut hsz hszi hszt henc hone hdrop hall ht hn hbase hhex hdr hv hs2 hs2'
  have i0 : (0 : Int) ≤ (n : Int) := by omega
  go_enter Tryz.func93, Tryz.ntmps93
  go_wp2_with fail
  rw [← HW1.out]
  clear HW1
  go_loop [5] (fun i => ∃ k : Nat, k ≤ 5 ∧ i = .int .i64 k) (fun i => 5 - (intOf i).toNat)
  case atStart => exact ⟨0, Nat.zero_le _, rfl⟩
  case round =>
    obtain ⟨k, hk, rfl⟩ := hrel
    by_cases hlt : k < 5
    · have hc := HC.out k hlt
      have hb := HB.out k w1
      have j0 : (0 : Int) ≤ (k : Int) := by omega
      have j1 : (k : Int) < 5 := by omega
      generalize hP : S (wordP k) = P at hc hb
      clear hP
      go_wp2_with (first | (go_at_call 58; refine hb.mono ?_; rintro e w2 ⟨rfl, rfl⟩))
      go_round
      case rel => exact ⟨k + 1, by omega, by go_num⟩
      case measure => simp [intOf]; omega
    · obtain rfl : k = 5 := by omega
      clear HB HC
      have hrun := HRun.out
      have hszi := HSzi.out
      rcases (by omega : n = 0 ∨ 7 < n ∨ (1 ≤ n ∧ n ≤ 7 ∧ t.length ≤ n) ∨ (1 ≤ n ∧ n ≤ 7 ∧ n < t.length)) with hn0 | hn7 | ⟨hn1, hn7, hnt2⟩ | ⟨hn1, hn7, hnt2⟩
      · have HR := HBad.out (fun h => by have := h.1; omega)
        subst hn0
        go_wp2_with fail
        refine (hbn _).mono ?_
        rintro e w2 ⟨rfl, rfl⟩
        go_wp2_with fail
        refine (hrun _).mono ?_
        rintro e w3 ⟨rfl, rfl⟩
        go_wp2_with fail
        go_ret2
        exact ⟨by rw [HR.out]; rfl, H0.out⟩
      · have HR := HBad.out (fun h => by have := h.2.1; omega)
        have d1 : decide ((n : Int) < 1) = false := decide_eq_false (by omega)
        have d2 : (7 : Int) < (n : Int) := by omega
        go_wp2_with fail
        refine (hbn _).mono ?_
        rintro e w2 ⟨rfl, rfl⟩
        go_wp2_with fail
        refine (hrun _).mono ?_
        rintro e w3 ⟨rfl, rfl⟩
        go_wp2_with fail
        go_ret2
        exact ⟨by rw [HR.out]; rfl, H0.out⟩
      · have HR := HBad.out (fun h => by have := h.2.2; rw [List.getElem?_eq_none (by omega)] at this; cases this)
        have d1 : decide ((n : Int) < 1) = false := decide_eq_false (by omega)
        have d2 : decide ((7 : Int) < (n : Int)) = false := decide_eq_false (by omega)
        have d3 : (t.length : Int) + 3 ≤ 3 + (n : Int) := by omega
        go_wp2_with fail
        refine (hbn _).mono ?_
        rintro e w2 ⟨rfl, rfl⟩
        go_wp2_with fail
        refine (hrun _).mono ?_
        rintro e w3 ⟨rfl, rfl⟩
        go_wp2_with fail
        go_ret2
        exact ⟨by rw [HR.out]; rfl, H0.out⟩
      · have hlt2 : 3 + n < s.size := by have := HSz.out; have := HSzt.out; omega
        have d1 : decide ((n : Int) < 1) = false := decide_eq_false (by omega)
        have d2 : decide ((7 : Int) < (n : Int)) = false := decide_eq_false (by omega)
        have d3 : decide ((t.length : Int) + 3 ≤ 3 + (n : Int)) = false := decide_eq_false (by omega)
        have d4 : 3 + (n : Int) < (t.length : Int) + 3 := by omega
        have d5 : ((3 : Int) + (n : Int)).toNat = 3 + n := by omega
        have d6 : (0 : Int) ≤ 3 + (n : Int) := by omega
        have hcn : (s[3 + n].toNat : Int) ≤ 255 := by have := s[3 + n].toNat_lt; omega
        by_cases hsc : s[3 + n] = 59
        · have hbq : ((s[3 + n].toNat : Int) != 59) = false := by rw [hsc]; rfl
          have HR := HGood.out ⟨hn1, hn7, by rw [HGet.out hlt2, hsc]⟩
          have hnum := HNum.out hn7
          have hcut := HCut.out
          have d7 : (3 : Int) ≤ 3 + (n : Int) := by omega
          have d8 : 3 + (n : Int) ≤ (t.length : Int) + 3 := by omega
          generalize valB 16 (t.take n) = c at hnum HR
          generalize S (t.take n) = T at hnum hcut
          have henc := HEnc.out (c : Int)
          by_cases hch : isChar (c : Int)
          · by_cases hz : c = 0
            · subst hz
              have HS : Hid (standL 0 = [239, 191, 189]) := by show _ = _; decide
              have henc : ∀ w : World, Calls Tryz.prog 65 #[.int .i64 0] w fun e w' => e = .returned (.tuple #[.string (encS 0), .int .i64 0]) ∧ Below w.heap.size w w' := henc
              have hnum : ∀ w : World, Calls Tryz.prog 114 #[.string T, .int .i64 16] w fun e w' => e = .returned (.int .i64 0) ∧ w = w' := hnum
              generalize encS 0 = E at henc
              clear hch
              go_wp2_with fail
              refine (hbn _).mono ?_
              rintro e w2 ⟨rfl, rfl⟩
              go_wp2_with fail
              refine (hrun _).mono ?_
              rintro e w3 ⟨rfl, rfl⟩
              go_wp2_with fail
              refine (hnum _).mono ?_
              rintro e w4 ⟨rfl, rfl⟩
              go_wp2_with fail
              refine (henc _).mono ?_
              rintro e w5 ⟨rfl, hb5⟩
              go_wp2_with fail
              refine (hfff _).mono ?_
              rintro e w6 ⟨rfl, hb6⟩
              go_wp2_with fail
              go_ret2
              exact ⟨two_eq (by rw [HR.out]; show S [239, 191, 189] = S _; rw [HS.out]) (by rw [HR.out]; push_cast; omega), H0.out.trans ((hb5.mono H0.out.size).trans (hb6.mono (Nat.le_trans H0.out.size hb5.size)))⟩
            · have e1 : standL c = encodeRune (c : Int) := by unfold standL; rw [if_pos ⟨hch, hz⟩]
              have e2 : charB (c : Int) = true := decide_eq_true hch
              have e3 : encS (c : Int) = S (standL c) := by rw [e1]; unfold encS; rw [if_pos e2]
              have e4 : encE (c : Int) = 0 := by unfold encE; rw [if_pos e2]
              rw [e3, e4] at henc
              have hz0 : ((c : Int) == 0) = false := by simp; exact hz
              clear e1 e2 e3 e4 hch hz
              generalize hSt : S (standL c) = St at henc
              have HSt := Lib.hid hSt
              clear hSt
              have hnum : ∀ w : World, Calls Tryz.prog 114 #[.string T, .int .i64 16] w fun e w' => e = .returned (.int .i64 (c : Int)) ∧ w = w' := hnum
              generalize (c : Int) = ci at hnum henc hz0
              go_wp2_with fail
              refine (hbn _).mono ?_
              rintro e w2 ⟨rfl, rfl⟩
              go_wp2_with fail
              refine (hrun _).mono ?_
              rintro e w3 ⟨rfl, rfl⟩
              go_wp2_with fail
              refine (hnum _).mono ?_
              rintro e w4 ⟨rfl, rfl⟩
              go_wp2_with fail
              refine (henc _).mono ?_
              rintro e w5 ⟨rfl, hb5⟩
              go_wp2_with fail
              go_ret2
              exact ⟨two_eq (by rw [HR.out]; simp only [HSt.out]) (by rw [HR.out]; push_cast; omega), H0.out.trans (hb5.mono H0.out.size)⟩
          · have e1 : standL c = [239, 191, 189] := by unfold standL; rw [if_neg (fun h => hch h.1)]
            have e4 : encE (c : Int) = 4 := by unfold encE charB; rw [decide_eq_false hch]; rfl
            rw [e4] at henc
            have HS := Lib.hid e1
            clear e1 e4 hch
            generalize encS (c : Int) = E at henc
            have hnum : ∀ w : World, Calls Tryz.prog 114 #[.string T, .int .i64 16] w fun e w' => e = .returned (.int .i64 (c : Int)) ∧ w = w' := hnum
            generalize (c : Int) = ci at hnum henc
            go_wp2_with fail
            refine (hbn _).mono ?_
            rintro e w2 ⟨rfl, rfl⟩
            go_wp2_with fail
            refine (hrun _).mono ?_
            rintro e w3 ⟨rfl, rfl⟩
            go_wp2_with fail
            refine (hnum _).mono ?_
            rintro e w4 ⟨rfl, rfl⟩
            go_wp2_with fail
            refine (henc _).mono ?_
            rintro e w5 ⟨rfl, hb5⟩
            go_wp2_with fail
            refine (hfff _).mono ?_
            rintro e w6 ⟨rfl, hb6⟩
            go_wp2_with fail
            go_ret2
            exact ⟨two_eq (by rw [HR.out]; show S [239, 191, 189] = S _; rw [HS.out]) (by rw [HR.out]; push_cast; omega), H0.out.trans ((hb5.mono H0.out.size).trans (hb6.mono (Nat.le_trans H0.out.size hb5.size)))⟩
        · have HR := HBad.out (fun h => hsc (by have := h.2.2; rw [HGet.out hlt2] at this; exact Option.some.inj this))
          have hbq : ((s[3 + n].toNat : Int) != 59) = true := by
            rw [bne_iff_ne]
            intro e
            exact hsc (UInt8.toNat_inj.1 (by have : (59 : UInt8).toNat = 59 := rfl; omega))
          clear hsc
          go_wp2_with fail
          refine (hbn _).mono ?_
          rintro e w2 ⟨rfl, rfl⟩
          go_wp2_with fail
          refine (hrun _).mono ?_
          rintro e w3 ⟨rfl, rfl⟩
          go_wp2_with fail
          go_ret2
          exact ⟨by rw [HR.out]; rfl, H0.out⟩

set_option maxHeartbeats 8000000 in
set_option maxRecDepth 100000 in
theorem rone_X (u : List UInt8) (hu : u.length ≤ 2305843009213693000) (v : List UInt8) (hv : u = 88 :: v) (w : World) :
    Calls Tryz.prog 93 #[.string (S (38 :: 35 :: u))] w fun e w' => e = .returned (.tuple #[.string (S (oneL (38 :: 35 :: u)).1), .int .i64 ((oneL (38 :: 35 :: u)).2 : Int)]) ∧ Below w.heap.size w w' := by
  have HB := Lib.hid (fun k w => (by have := rbegins_c (wordP k) (38 :: 35 :: u) w; rw [num_names] at this; exact this : Calls Tryz.prog 58 #[.string (S (wordP k)), .string (S (38 :: 35 :: u))] w fun e w' => e = .returned (.bool false) ∧ w = w'))
  have hbn : ∀ w : World, Calls Tryz.prog 58 #[.string ⟨#[38, 35]⟩, .string (S (38 :: 35 :: u))] w fun e w' => e = .returned (.bool true) ∧ w = w' := fun w => rbegins_c [38, 35] (38 :: 35 :: u) w
  have HC := Lib.hid (fun k h => five_cell w k h)
  have H0 : Hid (Below w.heap.size w (fiveW w)) := (Below.refl _ w).alloc (Nat.le_refl _) _
  obtain ⟨w1, hw0⟩ : ∃ w1, w1 = fiveW w := ⟨_, rfl⟩
  rw [← hw0] at HC H0
  have hw1 : w1 = w.alloc (.cells #[.string ⟨#[38, 97, 109, 112, 59]⟩, .string ⟨#[38, 108, 116, 59]⟩, .string ⟨#[38, 103, 116, 59]⟩, .string ⟨#[38, 113, 117, 111, 116, 59]⟩, .string ⟨#[38, 97, 112, 111, 115, 59]⟩] 9) := hw0
  have HW1 := Lib.hid hw1
  clear hw1 hw0
  obtain ⟨t, ht⟩ : ∃ t, t = digsOf u := ⟨_, rfl⟩
  obtain ⟨n, hn⟩ : ∃ n, n = runN 16 t := ⟨_, rfl⟩
  have hhex : isHex u = true := by rw [hv]; rfl
  have hbase : baseOf u = 16 := by unfold baseOf; rw [hhex]; rfl
  have hdr : (38 :: 35 :: u).drop 3 = digsOf u := by rw [hv]; rfl
  have hsz : (S (38 :: 35 :: u)).size = u.length + 2 := by rw [size_S]; rfl
  have hszt : u.length + 2 = 3 + t.length := by
    have h9 := digs_len u
    rw [hhex, ← ht] at h9
    rw [if_pos rfl] at h9
    omega
  have hkey : runN (baseOf u) (digsOf u) = n := by rw [hbase, ← ht]; exact hn.symm
  have hdrop : (S (38 :: 35 :: u)).data.toList.drop 3 = t := by rw [list_S, ht]; exact hdr
  have hrun := fun w => rrun_c (S (38 :: 35 :: u)) 3 true (by omega) (by omega) w
  rw [hdrop] at hrun
  have hrun : ∀ w : World, Calls Tryz.prog 113 #[.string (S (38 :: 35 :: u)), .int .i64 3, .bool true] w fun e w' => e = .returned (.int .i64 (n : Int)) ∧ w = w' := fun w => by rw [hn]; exact hrun w
  have hnt : n ≤ t.length := by rw [hn]; exact runN_le _ _
  have hone := pOne_num u
  have hbad : (¬ (1 ≤ n ∧ n ≤ 7 ∧ t[n]? = some 59)) → Hid (oneL (38 :: 35 :: u) = ([], 0)) := fun h => by
    show _ = _
    rw [hone]
    refine pNum_bad ?_
    rw [hkey, ← ht]
    exact h
  have hgood : (1 ≤ n ∧ n ≤ 7 ∧ t[n]? = some 59) → Hid (oneL (38 :: 35 :: u) = (standL (valB 16 (t.take n)), 3 + n + 1)) := fun h => by
    show _ = _
    have this := pNum_good (u := u) (by rw [hkey, ← ht]; exact h)
    rw [hkey, hbase, ← ht, hhex] at this
    rw [hone, this]
    simp
  have hget : ∀ (h : 3 + n < (S (38 :: 35 :: u)).size), t[n]? = some ((S (38 :: 35 :: u))[3 + n]'h) := fun h => by
    rw [← hdrop, List.getElem?_drop, List.getElem?_eq_getElem (by rw [size_list]; exact h)]
    rfl
  have hcut : (S (38 :: 35 :: u)).extract 3 (3 + n) = S (t.take n) := by
    rw [Lib.extract_eq, hdrop, show 3 + n - 3 = n by omega]
  have hall : (t.take n).all (digB 16) = true := by rw [hn]; exact runN_all _ _
  have hnum := fun (h : n ≤ 7) w => rnumber_c (t.take n) 16 (by omega) (by rw [List.length_take]; omega) hall w
  have henc : ∀ c w, Calls Tryz.prog 65 #[.int .i64 c] w fun e w' => e = .returned (.tuple #[.string (encS c), .int .i64 (encE c)]) ∧ Below w.heap.size w w' := fun c w => rencode_c c w
  have hfff : ∀ w : World, Calls Tryz.prog 65 #[.int .i64 65533] w fun e w' => e = .returned (.tuple #[.string (S [239, 191, 189]), .int .i64 0]) ∧ Below w.heap.size w w' := fun w => by
    have h := rencode_yes 65533 w (by decide)
    have e : encodeRune 65533 = [239, 191, 189] := by decide +kernel
    rw [e] at h
    exact h
  have hszi : ((S (38 :: 35 :: u)).size : Int) = (t.length : Int) + 3 := by omega
  have h2 : 2 < (S (38 :: 35 :: u)).size := by rw [hsz, hv, List.length_cons]; omega
  have hs2' : ∀ h : 2 < (S (38 :: 35 :: u)).size, (S (38 :: 35 :: u))[2]'h = 88 := by rw [hv]; intro h; rfl
  have hs2 := hs2' h2
  have hx1 : (((S (38 :: 35 :: u))[2].toNat : Int) == 120) = false := by rw [hs2]; rfl
  have hx2 : (((S (38 :: 35 :: u))[2].toNat : Int) == 88) = true := by rw [hs2]; rfl
  have h2i : (2 : Int) < (t.length : Int) + 3 := by omega
  generalize S (38 :: 35 :: u) = s at *
  have HRun := Lib.hid hrun
  have HNum := Lib.hid hnum
  have HBad := Lib.hid hbad
  have HGood := Lib.hid hgood
  have HGet := Lib.hid hget
  have HCut := Lib.hid hcut
  have HSz := Lib.hid hsz
  have HSzi := Lib.hid hszi
  have HSzt := Lib.hid hszt
  have HEnc := Lib.hid henc
  clear hrun hnum hbad hgood hget hcut hsz hszi hszt henc hone hdrop hall ht hn hbase hhex hdr hv hs2 hs2'
  have i0 : (0 : Int) ≤ (n : Int) := by omega
  go_enter Tryz.func93, Tryz.ntmps93
  go_wp2_with fail
  rw [← HW1.out]
  clear HW1
  go_loop [5] (fun i => ∃ k : Nat, k ≤ 5 ∧ i = .int .i64 k) (fun i => 5 - (intOf i).toNat)
  case atStart => exact ⟨0, Nat.zero_le _, rfl⟩
  case round =>
    obtain ⟨k, hk, rfl⟩ := hrel
    by_cases hlt : k < 5
    · have hc := HC.out k hlt
      have hb := HB.out k w1
      have j0 : (0 : Int) ≤ (k : Int) := by omega
      have j1 : (k : Int) < 5 := by omega
      generalize hP : S (wordP k) = P at hc hb
      clear hP
      go_wp2_with (first | (go_at_call 58; refine hb.mono ?_; rintro e w2 ⟨rfl, rfl⟩))
      go_round
      case rel => exact ⟨k + 1, by omega, by go_num⟩
      case measure => simp [intOf]; omega
    · obtain rfl : k = 5 := by omega
      clear HB HC
      have hrun := HRun.out
      have hszi := HSzi.out
      rcases (by omega : n = 0 ∨ 7 < n ∨ (1 ≤ n ∧ n ≤ 7 ∧ t.length ≤ n) ∨ (1 ≤ n ∧ n ≤ 7 ∧ n < t.length)) with hn0 | hn7 | ⟨hn1, hn7, hnt2⟩ | ⟨hn1, hn7, hnt2⟩
      · have HR := HBad.out (fun h => by have := h.1; omega)
        subst hn0
        go_wp2_with fail
        refine (hbn _).mono ?_
        rintro e w2 ⟨rfl, rfl⟩
        go_wp2_with fail
        refine (hrun _).mono ?_
        rintro e w3 ⟨rfl, rfl⟩
        go_wp2_with fail
        go_ret2
        exact ⟨by rw [HR.out]; rfl, H0.out⟩
      · have HR := HBad.out (fun h => by have := h.2.1; omega)
        have d1 : decide ((n : Int) < 1) = false := decide_eq_false (by omega)
        have d2 : (7 : Int) < (n : Int) := by omega
        go_wp2_with fail
        refine (hbn _).mono ?_
        rintro e w2 ⟨rfl, rfl⟩
        go_wp2_with fail
        refine (hrun _).mono ?_
        rintro e w3 ⟨rfl, rfl⟩
        go_wp2_with fail
        go_ret2
        exact ⟨by rw [HR.out]; rfl, H0.out⟩
      · have HR := HBad.out (fun h => by have := h.2.2; rw [List.getElem?_eq_none (by omega)] at this; cases this)
        have d1 : decide ((n : Int) < 1) = false := decide_eq_false (by omega)
        have d2 : decide ((7 : Int) < (n : Int)) = false := decide_eq_false (by omega)
        have d3 : (t.length : Int) + 3 ≤ 3 + (n : Int) := by omega
        go_wp2_with fail
        refine (hbn _).mono ?_
        rintro e w2 ⟨rfl, rfl⟩
        go_wp2_with fail
        refine (hrun _).mono ?_
        rintro e w3 ⟨rfl, rfl⟩
        go_wp2_with fail
        go_ret2
        exact ⟨by rw [HR.out]; rfl, H0.out⟩
      · have hlt2 : 3 + n < s.size := by have := HSz.out; have := HSzt.out; omega
        have d1 : decide ((n : Int) < 1) = false := decide_eq_false (by omega)
        have d2 : decide ((7 : Int) < (n : Int)) = false := decide_eq_false (by omega)
        have d3 : decide ((t.length : Int) + 3 ≤ 3 + (n : Int)) = false := decide_eq_false (by omega)
        have d4 : 3 + (n : Int) < (t.length : Int) + 3 := by omega
        have d5 : ((3 : Int) + (n : Int)).toNat = 3 + n := by omega
        have d6 : (0 : Int) ≤ 3 + (n : Int) := by omega
        have hcn : (s[3 + n].toNat : Int) ≤ 255 := by have := s[3 + n].toNat_lt; omega
        by_cases hsc : s[3 + n] = 59
        · have hbq : ((s[3 + n].toNat : Int) != 59) = false := by rw [hsc]; rfl
          have HR := HGood.out ⟨hn1, hn7, by rw [HGet.out hlt2, hsc]⟩
          have hnum := HNum.out hn7
          have hcut := HCut.out
          have d7 : (3 : Int) ≤ 3 + (n : Int) := by omega
          have d8 : 3 + (n : Int) ≤ (t.length : Int) + 3 := by omega
          generalize valB 16 (t.take n) = c at hnum HR
          generalize S (t.take n) = T at hnum hcut
          have henc := HEnc.out (c : Int)
          by_cases hch : isChar (c : Int)
          · by_cases hz : c = 0
            · subst hz
              have HS : Hid (standL 0 = [239, 191, 189]) := by show _ = _; decide
              have henc : ∀ w : World, Calls Tryz.prog 65 #[.int .i64 0] w fun e w' => e = .returned (.tuple #[.string (encS 0), .int .i64 0]) ∧ Below w.heap.size w w' := henc
              have hnum : ∀ w : World, Calls Tryz.prog 114 #[.string T, .int .i64 16] w fun e w' => e = .returned (.int .i64 0) ∧ w = w' := hnum
              generalize encS 0 = E at henc
              clear hch
              go_wp2_with fail
              refine (hbn _).mono ?_
              rintro e w2 ⟨rfl, rfl⟩
              go_wp2_with fail
              refine (hrun _).mono ?_
              rintro e w3 ⟨rfl, rfl⟩
              go_wp2_with fail
              refine (hnum _).mono ?_
              rintro e w4 ⟨rfl, rfl⟩
              go_wp2_with fail
              refine (henc _).mono ?_
              rintro e w5 ⟨rfl, hb5⟩
              go_wp2_with fail
              refine (hfff _).mono ?_
              rintro e w6 ⟨rfl, hb6⟩
              go_wp2_with fail
              go_ret2
              exact ⟨two_eq (by rw [HR.out]; show S [239, 191, 189] = S _; rw [HS.out]) (by rw [HR.out]; push_cast; omega), H0.out.trans ((hb5.mono H0.out.size).trans (hb6.mono (Nat.le_trans H0.out.size hb5.size)))⟩
            · have e1 : standL c = encodeRune (c : Int) := by unfold standL; rw [if_pos ⟨hch, hz⟩]
              have e2 : charB (c : Int) = true := decide_eq_true hch
              have e3 : encS (c : Int) = S (standL c) := by rw [e1]; unfold encS; rw [if_pos e2]
              have e4 : encE (c : Int) = 0 := by unfold encE; rw [if_pos e2]
              rw [e3, e4] at henc
              have hz0 : ((c : Int) == 0) = false := by simp; exact hz
              clear e1 e2 e3 e4 hch hz
              generalize hSt : S (standL c) = St at henc
              have HSt := Lib.hid hSt
              clear hSt
              have hnum : ∀ w : World, Calls Tryz.prog 114 #[.string T, .int .i64 16] w fun e w' => e = .returned (.int .i64 (c : Int)) ∧ w = w' := hnum
              generalize (c : Int) = ci at hnum henc hz0
              go_wp2_with fail
              refine (hbn _).mono ?_
              rintro e w2 ⟨rfl, rfl⟩
              go_wp2_with fail
              refine (hrun _).mono ?_
              rintro e w3 ⟨rfl, rfl⟩
              go_wp2_with fail
              refine (hnum _).mono ?_
              rintro e w4 ⟨rfl, rfl⟩
              go_wp2_with fail
              refine (henc _).mono ?_
              rintro e w5 ⟨rfl, hb5⟩
              go_wp2_with fail
              go_ret2
              exact ⟨two_eq (by rw [HR.out]; simp only [HSt.out]) (by rw [HR.out]; push_cast; omega), H0.out.trans (hb5.mono H0.out.size)⟩
          · have e1 : standL c = [239, 191, 189] := by unfold standL; rw [if_neg (fun h => hch h.1)]
            have e4 : encE (c : Int) = 4 := by unfold encE charB; rw [decide_eq_false hch]; rfl
            rw [e4] at henc
            have HS := Lib.hid e1
            clear e1 e4 hch
            generalize encS (c : Int) = E at henc
            have hnum : ∀ w : World, Calls Tryz.prog 114 #[.string T, .int .i64 16] w fun e w' => e = .returned (.int .i64 (c : Int)) ∧ w = w' := hnum
            generalize (c : Int) = ci at hnum henc
            go_wp2_with fail
            refine (hbn _).mono ?_
            rintro e w2 ⟨rfl, rfl⟩
            go_wp2_with fail
            refine (hrun _).mono ?_
            rintro e w3 ⟨rfl, rfl⟩
            go_wp2_with fail
            refine (hnum _).mono ?_
            rintro e w4 ⟨rfl, rfl⟩
            go_wp2_with fail
            refine (henc _).mono ?_
            rintro e w5 ⟨rfl, hb5⟩
            go_wp2_with fail
            refine (hfff _).mono ?_
            rintro e w6 ⟨rfl, hb6⟩
            go_wp2_with fail
            go_ret2
            exact ⟨two_eq (by rw [HR.out]; show S [239, 191, 189] = S _; rw [HS.out]) (by rw [HR.out]; push_cast; omega), H0.out.trans ((hb5.mono H0.out.size).trans (hb6.mono (Nat.le_trans H0.out.size hb5.size)))⟩
        · have HR := HBad.out (fun h => hsc (by have := h.2.2; rw [HGet.out hlt2] at this; exact Option.some.inj this))
          have hbq : ((s[3 + n].toNat : Int) != 59) = true := by
            rw [bne_iff_ne]
            intro e
            exact hsc (UInt8.toNat_inj.1 (by have : (59 : UInt8).toNat = 59 := rfl; omega))
          clear hsc
          go_wp2_with fail
          refine (hbn _).mono ?_
          rintro e w2 ⟨rfl, rfl⟩
          go_wp2_with fail
          refine (hrun _).mono ?_
          rintro e w3 ⟨rfl, rfl⟩
          go_wp2_with fail
          go_ret2
          exact ⟨by rw [HR.out]; rfl, H0.out⟩

set_option maxHeartbeats 8000000 in
set_option maxRecDepth 100000 in
theorem rone_ten (u : List UInt8) (hu : u.length ≤ 2305843009213693000) (c : UInt8) (v : List UInt8) (hv : u = c :: v) (h1 : c ≠ 120) (h2' : c ≠ 88) (w : World) :
    Calls Tryz.prog 93 #[.string (S (38 :: 35 :: u))] w fun e w' => e = .returned (.tuple #[.string (S (oneL (38 :: 35 :: u)).1), .int .i64 ((oneL (38 :: 35 :: u)).2 : Int)]) ∧ Below w.heap.size w w' := by
  have HB := Lib.hid (fun k w => (by have := rbegins_c (wordP k) (38 :: 35 :: u) w; rw [num_names] at this; exact this : Calls Tryz.prog 58 #[.string (S (wordP k)), .string (S (38 :: 35 :: u))] w fun e w' => e = .returned (.bool false) ∧ w = w'))
  have hbn : ∀ w : World, Calls Tryz.prog 58 #[.string ⟨#[38, 35]⟩, .string (S (38 :: 35 :: u))] w fun e w' => e = .returned (.bool true) ∧ w = w' := fun w => rbegins_c [38, 35] (38 :: 35 :: u) w
  have HC := Lib.hid (fun k h => five_cell w k h)
  have H0 : Hid (Below w.heap.size w (fiveW w)) := (Below.refl _ w).alloc (Nat.le_refl _) _
  obtain ⟨w1, hw0⟩ : ∃ w1, w1 = fiveW w := ⟨_, rfl⟩
  rw [← hw0] at HC H0
  have hw1 : w1 = w.alloc (.cells #[.string ⟨#[38, 97, 109, 112, 59]⟩, .string ⟨#[38, 108, 116, 59]⟩, .string ⟨#[38, 103, 116, 59]⟩, .string ⟨#[38, 113, 117, 111, 116, 59]⟩, .string ⟨#[38, 97, 112, 111, 115, 59]⟩] 9) := hw0
  have HW1 := Lib.hid hw1
  clear hw1 hw0
  obtain ⟨t, ht⟩ : ∃ t, t = digsOf u := ⟨_, rfl⟩
  obtain ⟨n, hn⟩ : ∃ n, n = runN 10 t := ⟨_, rfl⟩
  have hhex : isHex u = false := by rw [hv]; exact decide_eq_false (by simp [h1, h2'])
  have hbase : baseOf u = 10 := by unfold baseOf; rw [hhex]; rfl
  have hdr : (38 :: 35 :: u).drop 2 = digsOf u := by unfold digsOf; rw [hhex]; rfl
  have hsz : (S (38 :: 35 :: u)).size = u.length + 2 := by rw [size_S]; rfl
  have hszt : u.length + 2 = 2 + t.length := by
    have h9 := digs_len u
    rw [hhex, ← ht] at h9
    rw [if_neg (by simp)] at h9
    omega
  have hkey : runN (baseOf u) (digsOf u) = n := by rw [hbase, ← ht]; exact hn.symm
  have hdrop : (S (38 :: 35 :: u)).data.toList.drop 2 = t := by rw [list_S, ht]; exact hdr
  have hrun := fun w => rrun_c (S (38 :: 35 :: u)) 2 false (by omega) (by omega) w
  rw [hdrop] at hrun
  have hrun : ∀ w : World, Calls Tryz.prog 113 #[.string (S (38 :: 35 :: u)), .int .i64 2, .bool false] w fun e w' => e = .returned (.int .i64 (n : Int)) ∧ w = w' := fun w => by rw [hn]; exact hrun w
  have hnt : n ≤ t.length := by rw [hn]; exact runN_le _ _
  have hone := pOne_num u
  have hbad : (¬ (1 ≤ n ∧ n ≤ 7 ∧ t[n]? = some 59)) → Hid (oneL (38 :: 35 :: u) = ([], 0)) := fun h => by
    show _ = _
    rw [hone]
    refine pNum_bad ?_
    rw [hkey, ← ht]
    exact h
  have hgood : (1 ≤ n ∧ n ≤ 7 ∧ t[n]? = some 59) → Hid (oneL (38 :: 35 :: u) = (standL (valB 10 (t.take n)), 2 + n + 1)) := fun h => by
    show _ = _
    have this := pNum_good (u := u) (by rw [hkey, ← ht]; exact h)
    rw [hkey, hbase, ← ht, hhex] at this
    rw [hone, this]
    simp
  have hget : ∀ (h : 2 + n < (S (38 :: 35 :: u)).size), t[n]? = some ((S (38 :: 35 :: u))[2 + n]'h) := fun h => by
    rw [← hdrop, List.getElem?_drop, List.getElem?_eq_getElem (by rw [size_list]; exact h)]
    rfl
  have hcut : (S (38 :: 35 :: u)).extract 2 (2 + n) = S (t.take n) := by
    rw [Lib.extract_eq, hdrop, show 2 + n - 2 = n by omega]
  have hall : (t.take n).all (digB 10) = true := by rw [hn]; exact runN_all _ _
  have hnum := fun (h : n ≤ 7) w => rnumber_c (t.take n) 10 (by omega) (by rw [List.length_take]; omega) hall w
  have henc : ∀ c w, Calls Tryz.prog 65 #[.int .i64 c] w fun e w' => e = .returned (.tuple #[.string (encS c), .int .i64 (encE c)]) ∧ Below w.heap.size w w' := fun c w => rencode_c c w
  have hfff : ∀ w : World, Calls Tryz.prog 65 #[.int .i64 65533] w fun e w' => e = .returned (.tuple #[.string (S [239, 191, 189]), .int .i64 0]) ∧ Below w.heap.size w w' := fun w => by
    have h := rencode_yes 65533 w (by decide)
    have e : encodeRune 65533 = [239, 191, 189] := by decide +kernel
    rw [e] at h
    exact h
  have hszi : ((S (38 :: 35 :: u)).size : Int) = (t.length : Int) + 2 := by omega
  have h2 : 2 < (S (38 :: 35 :: u)).size := by rw [hsz, hv, List.length_cons]; omega
  have hs2' : ∀ h : 2 < (S (38 :: 35 :: u)).size, (S (38 :: 35 :: u))[2]'h = c := by rw [hv]; intro h; rfl
  have hs2 := hs2' h2
  have hx1 : (((S (38 :: 35 :: u))[2].toNat : Int) == 120) = false := by rw [hs2, beq_eq_false_iff_ne]; exact fun e => h1 (UInt8.toNat_inj.1 (by have : (120 : UInt8).toNat = 120 := rfl; omega))
  have hx2 : (((S (38 :: 35 :: u))[2].toNat : Int) == 88) = false := by rw [hs2, beq_eq_false_iff_ne]; exact fun e => h2' (UInt8.toNat_inj.1 (by have : (88 : UInt8).toNat = 88 := rfl; omega))
  have h2i : (2 : Int) < (t.length : Int) + 2 := by have h9 := hsz; rw [hv, List.length_cons] at h9; rw [hv, List.length_cons] at hszt; omega
  generalize S (38 :: 35 :: u) = s at *
  have HRun := Lib.hid hrun
  have HNum := Lib.hid hnum
  have HBad := Lib.hid hbad
  have HGood := Lib.hid hgood
  have HGet := Lib.hid hget
  have HCut := Lib.hid hcut
  have HSz := Lib.hid hsz
  have HSzi := Lib.hid hszi
  have HSzt := Lib.hid hszt
  have HEnc := Lib.hid henc
  clear hrun hnum hbad hgood hget hcut hsz hszi hszt henc hone hdrop hall ht hn hbase hhex hdr hv hs2 hs2' h1 h2'
  have i0 : (0 : Int) ≤ (n : Int) := by omega
  go_enter Tryz.func93, Tryz.ntmps93
  go_wp2_with fail
  rw [← HW1.out]
  clear HW1
  go_loop [5] (fun i => ∃ k : Nat, k ≤ 5 ∧ i = .int .i64 k) (fun i => 5 - (intOf i).toNat)
  case atStart => exact ⟨0, Nat.zero_le _, rfl⟩
  case round =>
    obtain ⟨k, hk, rfl⟩ := hrel
    by_cases hlt : k < 5
    · have hc := HC.out k hlt
      have hb := HB.out k w1
      have j0 : (0 : Int) ≤ (k : Int) := by omega
      have j1 : (k : Int) < 5 := by omega
      generalize hP : S (wordP k) = P at hc hb
      clear hP
      go_wp2_with (first | (go_at_call 58; refine hb.mono ?_; rintro e w2 ⟨rfl, rfl⟩))
      go_round
      case rel => exact ⟨k + 1, by omega, by go_num⟩
      case measure => simp [intOf]; omega
    · obtain rfl : k = 5 := by omega
      clear HB HC
      have hrun := HRun.out
      have hszi := HSzi.out
      rcases (by omega : n = 0 ∨ 7 < n ∨ (1 ≤ n ∧ n ≤ 7 ∧ t.length ≤ n) ∨ (1 ≤ n ∧ n ≤ 7 ∧ n < t.length)) with hn0 | hn7 | ⟨hn1, hn7, hnt2⟩ | ⟨hn1, hn7, hnt2⟩
      · have HR := HBad.out (fun h => by have := h.1; omega)
        subst hn0
        go_wp2_with fail
        refine (hbn _).mono ?_
        rintro e w2 ⟨rfl, rfl⟩
        go_wp2_with fail
        refine (hrun _).mono ?_
        rintro e w3 ⟨rfl, rfl⟩
        go_wp2_with fail
        go_ret2
        exact ⟨by rw [HR.out]; rfl, H0.out⟩
      · have HR := HBad.out (fun h => by have := h.2.1; omega)
        have d1 : decide ((n : Int) < 1) = false := decide_eq_false (by omega)
        have d2 : (7 : Int) < (n : Int) := by omega
        go_wp2_with fail
        refine (hbn _).mono ?_
        rintro e w2 ⟨rfl, rfl⟩
        go_wp2_with fail
        refine (hrun _).mono ?_
        rintro e w3 ⟨rfl, rfl⟩
        go_wp2_with fail
        go_ret2
        exact ⟨by rw [HR.out]; rfl, H0.out⟩
      · have HR := HBad.out (fun h => by have := h.2.2; rw [List.getElem?_eq_none (by omega)] at this; cases this)
        have d1 : decide ((n : Int) < 1) = false := decide_eq_false (by omega)
        have d2 : decide ((7 : Int) < (n : Int)) = false := decide_eq_false (by omega)
        have d3 : (t.length : Int) + 2 ≤ 2 + (n : Int) := by omega
        go_wp2_with fail
        refine (hbn _).mono ?_
        rintro e w2 ⟨rfl, rfl⟩
        go_wp2_with fail
        refine (hrun _).mono ?_
        rintro e w3 ⟨rfl, rfl⟩
        go_wp2_with fail
        go_ret2
        exact ⟨by rw [HR.out]; rfl, H0.out⟩
      · have hlt2 : 2 + n < s.size := by have := HSz.out; have := HSzt.out; omega
        have d1 : decide ((n : Int) < 1) = false := decide_eq_false (by omega)
        have d2 : decide ((7 : Int) < (n : Int)) = false := decide_eq_false (by omega)
        have d3 : decide ((t.length : Int) + 2 ≤ 2 + (n : Int)) = false := decide_eq_false (by omega)
        have d4 : 2 + (n : Int) < (t.length : Int) + 2 := by omega
        have d5 : ((2 : Int) + (n : Int)).toNat = 2 + n := by omega
        have d6 : (0 : Int) ≤ 2 + (n : Int) := by omega
        have hcn : (s[2 + n].toNat : Int) ≤ 255 := by have := s[2 + n].toNat_lt; omega
        by_cases hsc : s[2 + n] = 59
        · have hbq : ((s[2 + n].toNat : Int) != 59) = false := by rw [hsc]; rfl
          have HR := HGood.out ⟨hn1, hn7, by rw [HGet.out hlt2, hsc]⟩
          have hnum := HNum.out hn7
          have hcut := HCut.out
          have d7 : (2 : Int) ≤ 2 + (n : Int) := by omega
          have d8 : 2 + (n : Int) ≤ (t.length : Int) + 2 := by omega
          generalize valB 10 (t.take n) = c at hnum HR
          generalize S (t.take n) = T at hnum hcut
          have henc := HEnc.out (c : Int)
          by_cases hch : isChar (c : Int)
          · by_cases hz : c = 0
            · subst hz
              have HS : Hid (standL 0 = [239, 191, 189]) := by show _ = _; decide
              have henc : ∀ w : World, Calls Tryz.prog 65 #[.int .i64 0] w fun e w' => e = .returned (.tuple #[.string (encS 0), .int .i64 0]) ∧ Below w.heap.size w w' := henc
              have hnum : ∀ w : World, Calls Tryz.prog 114 #[.string T, .int .i64 10] w fun e w' => e = .returned (.int .i64 0) ∧ w = w' := hnum
              generalize encS 0 = E at henc
              clear hch
              go_wp2_with fail
              refine (hbn _).mono ?_
              rintro e w2 ⟨rfl, rfl⟩
              go_wp2_with fail
              refine (hrun _).mono ?_
              rintro e w3 ⟨rfl, rfl⟩
              go_wp2_with fail
              refine (hnum _).mono ?_
              rintro e w4 ⟨rfl, rfl⟩
              go_wp2_with fail
              refine (henc _).mono ?_
              rintro e w5 ⟨rfl, hb5⟩
              go_wp2_with fail
              refine (hfff _).mono ?_
              rintro e w6 ⟨rfl, hb6⟩
              go_wp2_with fail
              go_ret2
              exact ⟨two_eq (by rw [HR.out]; show S [239, 191, 189] = S _; rw [HS.out]) (by rw [HR.out]; push_cast; omega), H0.out.trans ((hb5.mono H0.out.size).trans (hb6.mono (Nat.le_trans H0.out.size hb5.size)))⟩
            · have e1 : standL c = encodeRune (c : Int) := by unfold standL; rw [if_pos ⟨hch, hz⟩]
              have e2 : charB (c : Int) = true := decide_eq_true hch
              have e3 : encS (c : Int) = S (standL c) := by rw [e1]; unfold encS; rw [if_pos e2]
              have e4 : encE (c : Int) = 0 := by unfold encE; rw [if_pos e2]
              rw [e3, e4] at henc
              have hz0 : ((c : Int) == 0) = false := by simp; exact hz
              clear e1 e2 e3 e4 hch hz
              generalize hSt : S (standL c) = St at henc
              have HSt := Lib.hid hSt
              clear hSt
              have hnum : ∀ w : World, Calls Tryz.prog 114 #[.string T, .int .i64 10] w fun e w' => e = .returned (.int .i64 (c : Int)) ∧ w = w' := hnum
              generalize (c : Int) = ci at hnum henc hz0
              go_wp2_with fail
              refine (hbn _).mono ?_
              rintro e w2 ⟨rfl, rfl⟩
              go_wp2_with fail
              refine (hrun _).mono ?_
              rintro e w3 ⟨rfl, rfl⟩
              go_wp2_with fail
              refine (hnum _).mono ?_
              rintro e w4 ⟨rfl, rfl⟩
              go_wp2_with fail
              refine (henc _).mono ?_
              rintro e w5 ⟨rfl, hb5⟩
              go_wp2_with fail
              go_ret2
              exact ⟨two_eq (by rw [HR.out]; simp only [HSt.out]) (by rw [HR.out]; push_cast; omega), H0.out.trans (hb5.mono H0.out.size)⟩
          · have e1 : standL c = [239, 191, 189] := by unfold standL; rw [if_neg (fun h => hch h.1)]
            have e4 : encE (c : Int) = 4 := by unfold encE charB; rw [decide_eq_false hch]; rfl
            rw [e4] at henc
            have HS := Lib.hid e1
            clear e1 e4 hch
            generalize encS (c : Int) = E at henc
            have hnum : ∀ w : World, Calls Tryz.prog 114 #[.string T, .int .i64 10] w fun e w' => e = .returned (.int .i64 (c : Int)) ∧ w = w' := hnum
            generalize (c : Int) = ci at hnum henc
            go_wp2_with fail
            refine (hbn _).mono ?_
            rintro e w2 ⟨rfl, rfl⟩
            go_wp2_with fail
            refine (hrun _).mono ?_
            rintro e w3 ⟨rfl, rfl⟩
            go_wp2_with fail
            refine (hnum _).mono ?_
            rintro e w4 ⟨rfl, rfl⟩
            go_wp2_with fail
            refine (henc _).mono ?_
            rintro e w5 ⟨rfl, hb5⟩
            go_wp2_with fail
            refine (hfff _).mono ?_
            rintro e w6 ⟨rfl, hb6⟩
            go_wp2_with fail
            go_ret2
            exact ⟨two_eq (by rw [HR.out]; show S [239, 191, 189] = S _; rw [HS.out]) (by rw [HR.out]; push_cast; omega), H0.out.trans ((hb5.mono H0.out.size).trans (hb6.mono (Nat.le_trans H0.out.size hb5.size)))⟩
        · have HR := HBad.out (fun h => hsc (by have := h.2.2; rw [HGet.out hlt2] at this; exact Option.some.inj this))
          have hbq : ((s[2 + n].toNat : Int) != 59) = true := by
            rw [bne_iff_ne]
            intro e
            exact hsc (UInt8.toNat_inj.1 (by have : (59 : UInt8).toNat = 59 := rfl; omega))
          clear hsc
          go_wp2_with fail
          refine (hbn _).mono ?_
          rintro e w2 ⟨rfl, rfl⟩
          go_wp2_with fail
          refine (hrun _).mono ?_
          rintro e w3 ⟨rfl, rfl⟩
          go_wp2_with fail
          go_ret2
          exact ⟨by rw [HR.out]; rfl, H0.out⟩

set_option maxHeartbeats 8000000 in
set_option maxRecDepth 100000 in
theorem rone_nil (u : List UInt8) (hu : u.length ≤ 2305843009213693000) (hv : u = []) (w : World) :
    Calls Tryz.prog 93 #[.string (S (38 :: 35 :: u))] w fun e w' => e = .returned (.tuple #[.string (S (oneL (38 :: 35 :: u)).1), .int .i64 ((oneL (38 :: 35 :: u)).2 : Int)]) ∧ Below w.heap.size w w' := by
  have HB := Lib.hid (fun k w => (by have := rbegins_c (wordP k) (38 :: 35 :: u) w; rw [num_names] at this; exact this : Calls Tryz.prog 58 #[.string (S (wordP k)), .string (S (38 :: 35 :: u))] w fun e w' => e = .returned (.bool false) ∧ w = w'))
  have hbn : ∀ w : World, Calls Tryz.prog 58 #[.string ⟨#[38, 35]⟩, .string (S (38 :: 35 :: u))] w fun e w' => e = .returned (.bool true) ∧ w = w' := fun w => rbegins_c [38, 35] (38 :: 35 :: u) w
  have HC := Lib.hid (fun k h => five_cell w k h)
  have H0 : Hid (Below w.heap.size w (fiveW w)) := (Below.refl _ w).alloc (Nat.le_refl _) _
  obtain ⟨w1, hw0⟩ : ∃ w1, w1 = fiveW w := ⟨_, rfl⟩
  rw [← hw0] at HC H0
  have hw1 : w1 = w.alloc (.cells #[.string ⟨#[38, 97, 109, 112, 59]⟩, .string ⟨#[38, 108, 116, 59]⟩, .string ⟨#[38, 103, 116, 59]⟩, .string ⟨#[38, 113, 117, 111, 116, 59]⟩, .string ⟨#[38, 97, 112, 111, 115, 59]⟩] 9) := hw0
  have HW1 := Lib.hid hw1
  clear hw1 hw0
  obtain ⟨t, ht⟩ : ∃ t, t = digsOf u := ⟨_, rfl⟩
  obtain ⟨n, hn⟩ : ∃ n, n = runN 10 t := ⟨_, rfl⟩
  have hhex : isHex u = false := by rw [hv]; rfl
  have hbase : baseOf u = 10 := by unfold baseOf; rw [hhex]; rfl
  have hdr : (38 :: 35 :: u).drop 2 = digsOf u := by unfold digsOf; rw [hhex]; rfl
  have hsz : (S (38 :: 35 :: u)).size = u.length + 2 := by rw [size_S]; rfl
  have hszt : u.length + 2 = 2 + t.length := by
    have h9 := digs_len u
    rw [hhex, ← ht] at h9
    rw [if_neg (by simp)] at h9
    omega
  have hkey : runN (baseOf u) (digsOf u) = n := by rw [hbase, ← ht]; exact hn.symm
  have hdrop : (S (38 :: 35 :: u)).data.toList.drop 2 = t := by rw [list_S, ht]; exact hdr
  have hrun := fun w => rrun_c (S (38 :: 35 :: u)) 2 false (by omega) (by omega) w
  rw [hdrop] at hrun
  have hrun : ∀ w : World, Calls Tryz.prog 113 #[.string (S (38 :: 35 :: u)), .int .i64 2, .bool false] w fun e w' => e = .returned (.int .i64 (n : Int)) ∧ w = w' := fun w => by rw [hn]; exact hrun w
  have hnt : n ≤ t.length := by rw [hn]; exact runN_le _ _
  have hone := pOne_num u
  have hbad : (¬ (1 ≤ n ∧ n ≤ 7 ∧ t[n]? = some 59)) → Hid (oneL (38 :: 35 :: u) = ([], 0)) := fun h => by
    show _ = _
    rw [hone]
    refine pNum_bad ?_
    rw [hkey, ← ht]
    exact h
  have hgood : (1 ≤ n ∧ n ≤ 7 ∧ t[n]? = some 59) → Hid (oneL (38 :: 35 :: u) = (standL (valB 10 (t.take n)), 2 + n + 1)) := fun h => by
    show _ = _
    have this := pNum_good (u := u) (by rw [hkey, ← ht]; exact h)
    rw [hkey, hbase, ← ht, hhex] at this
    rw [hone, this]
    simp
  have hget : ∀ (h : 2 + n < (S (38 :: 35 :: u)).size), t[n]? = some ((S (38 :: 35 :: u))[2 + n]'h) := fun h => by
    rw [← hdrop, List.getElem?_drop, List.getElem?_eq_getElem (by rw [size_list]; exact h)]
    rfl
  have hcut : (S (38 :: 35 :: u)).extract 2 (2 + n) = S (t.take n) := by
    rw [Lib.extract_eq, hdrop, show 2 + n - 2 = n by omega]
  have hall : (t.take n).all (digB 10) = true := by rw [hn]; exact runN_all _ _
  have hnum := fun (h : n ≤ 7) w => rnumber_c (t.take n) 10 (by omega) (by rw [List.length_take]; omega) hall w
  have henc : ∀ c w, Calls Tryz.prog 65 #[.int .i64 c] w fun e w' => e = .returned (.tuple #[.string (encS c), .int .i64 (encE c)]) ∧ Below w.heap.size w w' := fun c w => rencode_c c w
  have hfff : ∀ w : World, Calls Tryz.prog 65 #[.int .i64 65533] w fun e w' => e = .returned (.tuple #[.string (S [239, 191, 189]), .int .i64 0]) ∧ Below w.heap.size w w' := fun w => by
    have h := rencode_yes 65533 w (by decide)
    have e : encodeRune 65533 = [239, 191, 189] := by decide +kernel
    rw [e] at h
    exact h
  have hszi : ((S (38 :: 35 :: u)).size : Int) = (t.length : Int) + 2 := by omega
  have ht0 : t.length = 0 := by
    have h8 : u.length = 0 := by rw [hv]; rfl
    omega
  have h2i : decide ((2 : Int) < (t.length : Int) + 2) = false := decide_eq_false (by omega)
  generalize S (38 :: 35 :: u) = s at *
  have HRun := Lib.hid hrun
  have HNum := Lib.hid hnum
  have HBad := Lib.hid hbad
  have HGood := Lib.hid hgood
  have HGet := Lib.hid hget
  have HCut := Lib.hid hcut
  have HSz := Lib.hid hsz
  have HSzi := Lib.hid hszi
  have HSzt := Lib.hid hszt
  have HEnc := Lib.hid henc
  clear hrun hnum hbad hgood hget hcut hsz hszi hszt henc hone hdrop hall ht hn hbase hhex hdr hv
  have i0 : (0 : Int) ≤ (n : Int) := by omega
  go_enter Tryz.func93, Tryz.ntmps93
  go_wp2_with fail
  rw [← HW1.out]
  clear HW1
  go_loop [5] (fun i => ∃ k : Nat, k ≤ 5 ∧ i = .int .i64 k) (fun i => 5 - (intOf i).toNat)
  case atStart => exact ⟨0, Nat.zero_le _, rfl⟩
  case round =>
    obtain ⟨k, hk, rfl⟩ := hrel
    by_cases hlt : k < 5
    · have hc := HC.out k hlt
      have hb := HB.out k w1
      have j0 : (0 : Int) ≤ (k : Int) := by omega
      have j1 : (k : Int) < 5 := by omega
      generalize hP : S (wordP k) = P at hc hb
      clear hP
      go_wp2_with (first | (go_at_call 58; refine hb.mono ?_; rintro e w2 ⟨rfl, rfl⟩))
      go_round
      case rel => exact ⟨k + 1, by omega, by go_num⟩
      case measure => simp [intOf]; omega
    · obtain rfl : k = 5 := by omega
      clear HB HC
      have hrun := HRun.out
      have hszi := HSzi.out
      have HR := HBad.out (fun h => by have := h.1; omega)
      have hn0 : n = 0 := by omega
      subst hn0
      go_wp2_with fail
      refine (hbn _).mono ?_
      rintro e w2 ⟨rfl, rfl⟩
      go_wp2_with fail
      refine (hrun _).mono ?_
      rintro e w3 ⟨rfl, rfl⟩
      go_wp2_with fail
      go_ret2
      exact ⟨by rw [HR.out]; rfl, H0.out⟩

theorem rOne_c (l : List UInt8) (hl : l.length ≤ 2305843009213693000) (w : World) :
    Calls Tryz.prog 93 #[.string (S l)] w fun e w' => e = .returned (.tuple #[.string (S (oneL l).1), .int .i64 ((oneL l).2 : Int)]) ∧ Below w.heap.size w w' := by
  cases hn : Lib.hasPrefix l [38, 35] with
  | false => exact rone_names l hn w
  | true =>
    obtain ⟨u, rfl⟩ := pre_cut hn
    have hu : u.length ≤ 2305843009213693000 := by simp at hl; omega
    show Calls Tryz.prog 93 #[.string (S (38 :: 35 :: u))] w _
    cases u with
    | nil => exact rone_nil [] hu rfl w
    | cons c v =>
      by_cases h1 : c = 120
      · subst h1; exact rone_x _ hu v rfl w
      · by_cases h2 : c = 88
        · subst h2; exact rone_X _ hu v rfl w
        · exact rone_ten _ hu c v rfl h1 h2 w
end Go.Proofs.YtklpbkjplecdpaaGreat.Crf
