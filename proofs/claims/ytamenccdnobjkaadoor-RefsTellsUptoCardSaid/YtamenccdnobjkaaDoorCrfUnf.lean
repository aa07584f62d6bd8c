/-
  Contract of the page's Unfinished.
-/
import Derived.Test.YtamenccdnobjkaaDoorCrfOne
namespace Go.Proofs.YtamenccdnobjkaaDoor.Crf
open Go.RowKit Go.Proofs.YtamenccdnobjkaaDoor.Oct Go.Proofs.YtamenccdnobjkaaDoor.Num Go.Proofs.YtamenccdnobjkaaDoor.Utf
open Go.Lib (encodeRune)

/-- The k-th name from its beginning on. -/
def wordQ (k : Nat) : List UInt8 := 38 :: wordL k
theorem unf_name {b : List UInt8} {k : Nat} (hk : k < 5) (h : Lib.hasPrefix (wordQ k) (38 :: b) = true) : unfL (38 :: b) = true := by
  have hp := (pre_iff _ _).1 h
  unfold wordQ at hp
  rw [List.cons_prefix_cons] at hp
  have := beg_yes hk ((prefix_word k b).2 hp.2)
  show (begName b || (numR b).isSome) = true
  rw [this]; rfl
theorem unf_none {b : List UInt8} (h : ∀ k, k < 5 → Lib.hasPrefix (wordQ k) (38 :: b) = false) : unfL (38 :: b) = (Lib.hasPrefix (38 :: b) [38, 35] && decide (runN (baseOf ((38 :: b).drop 2)) (digsOf ((38 :: b).drop 2)) ≤ 7 ∧ runN (baseOf ((38 :: b).drop 2)) (digsOf ((38 :: b).drop 2)) = (digsOf ((38 :: b).drop 2)).length)) := by
  have h0 : Lib.hasPrefix [38, 97, 109, 112] (38 :: b) = false := h 0 (by omega)
  have h1 : Lib.hasPrefix [38, 108, 116] (38 :: b) = false := h 1 (by omega)
  have h2 : Lib.hasPrefix [38, 103, 116] (38 :: b) = false := h 2 (by omega)
  have h3 : Lib.hasPrefix [38, 113, 117, 111, 116] (38 :: b) = false := h 3 (by omega)
  have h4 : Lib.hasPrefix [38, 97, 112, 111, 115] (38 :: b) = false := h 4 (by omega)
  rw [← pUnf_eq]
  unfold pUnf
  rw [h0, h1, h2, h3, h4]
  rfl
theorem num_begs (u : List UInt8) (k : Nat) : Lib.hasPrefix (wordQ k) (38 :: 35 :: u) = false := by
  unfold wordQ wordL
  split <;> simp [Lib.hasPrefix, List.isPrefixOf]

abbrev fourW (w : World) : World := w.alloc (.cells #[.string ⟨#[38, 97, 109, 112]⟩, .string ⟨#[38, 108, 116]⟩, .string ⟨#[38, 103, 116]⟩, .string ⟨#[38, 113, 117, 111, 116]⟩, .string ⟨#[38, 97, 112, 111, 115]⟩] 9)
theorem four_cell (w : World) (k : Nat) (h : k < 5) : (fourW w).cell? ⟨w.heap.size, k, none⟩ = some (.string (S (wordQ k))) := by
  have e := heap_alloc_new w (.cells #[.string ⟨#[38, 97, 109, 112]⟩, .string ⟨#[38, 108, 116]⟩, .string ⟨#[38, 103, 116]⟩, .string ⟨#[38, 113, 117, 111, 116]⟩, .string ⟨#[38, 97, 112, 111, 115]⟩] 9)
  match k, h with
  | 0, _ => exact cell_of_row _ w.heap.size 0 _ _ _ e
  | 1, _ => exact cell_of_row _ w.heap.size 1 _ _ _ e
  | 2, _ => exact cell_of_row _ w.heap.size 2 _ _ _ e
  | 3, _ => exact cell_of_row _ w.heap.size 3 _ _ _ e
  | 4, _ => exact cell_of_row _ w.heap.size 4 _ _ _ e

theorem runf_no (l : List UInt8) (h : l.head? ≠ some 38) (w : World) :
    Calls Tryd.prog 15 #[.string (S l)] w fun e w' => e = .returned (.bool false) ∧ Below w.heap.size w w' := by
  cases l with
  | nil =>
    show Calls Tryd.prog 15 #[.string ⟨#[]⟩] w _
    go_enter Tryd.func15, Tryd.ntmps15
    go_wp2_with fail
    go_ret
    exact ⟨rfl, Below.refl _ _⟩
  | cons c b =>
    have hc : c ≠ 38 := fun e => h (by rw [e]; rfl)
    have he : (S (c :: b)).toList.isEmpty = false := by rw [ByteArray.toList_eq, list_S]; rfl
    have hz : 0 < (S (c :: b)).size := by rw [size_S]; simp
    have hx0 : ∀ h : 0 < (S (c :: b)).size, (S (c :: b))[0]'h = c := fun _ => rfl
    have hb : (((S (c :: b))[0].toNat : Int) != 38) = true := by
      rw [hx0 hz, bne_iff_ne]
      exact fun e => hc (UInt8.toNat_inj.1 (by have : (38 : UInt8).toNat = 38 := rfl; omega))
    generalize S (c :: b) = L at he hz hb
    clear h hx0
    go_enter Tryd.func15, Tryd.ntmps15
    go_wp2_with fail
    go_ret
    exact ⟨rfl, Below.refl _ _⟩

set_option maxHeartbeats 4000000 in
set_option maxRecDepth 100000 in
theorem runf_names (b : List UInt8) (hn : Lib.hasPrefix (38 :: b) [38, 35] = false) (w : World) :
    Calls Tryd.prog 15 #[.string (S (38 :: b))] w fun e w' => e = .returned (.bool (unfL (38 :: b))) ∧ Below w.heap.size w w' := by
  have HB := Lib.hid (fun k w => rbegins_c (38 :: b) (wordQ k) w)
  have hbn : ∀ w : World, Calls Tryd.prog 25 #[.string ⟨#[38, 35]⟩, .string (S (38 :: b))] w fun e w' => e = .returned (.bool false) ∧ w = w' := fun w => by
    have := rbegins_c [38, 35] (38 :: b) w
    rw [hn] at this
    exact this
  have he : (S (38 :: b)).toList.isEmpty = false := by rw [ByteArray.toList_eq, list_S]; rfl
  have hz : 0 < (S (38 :: b)).size := by rw [size_S]; simp
  have hx0 : ∀ h : 0 < (S (38 :: b)).size, (S (38 :: b))[0]'h = 38 := fun _ => rfl
  have hb : (((S (38 :: b))[0].toNat : Int) != 38) = false := by rw [hx0 hz]; rfl
  have HC := Lib.hid (fun k h => four_cell w k h)
  have H0 : Hid (Below w.heap.size w (fourW w)) := (Below.refl _ w).alloc (Nat.le_refl _) _
  obtain ⟨w1, hw0⟩ : ∃ w1, w1 = fourW w := ⟨_, rfl⟩
  rw [← hw0] at HC H0
  have hw1 : w1 = w.alloc (.cells #[.string ⟨#[38, 97, 109, 112]⟩, .string ⟨#[38, 108, 116]⟩, .string ⟨#[38, 103, 116]⟩, .string ⟨#[38, 113, 117, 111, 116]⟩, .string ⟨#[38, 97, 112, 111, 115]⟩] 9) := hw0
  have HW1 := Lib.hid hw1
  clear hw1 hw0
  have HN := Lib.hid hn
  clear hn
  generalize S (38 :: b) = L at HB hbn he hz hb
  clear hx0
  go_enter Tryd.func15, Tryd.ntmps15
  go_wp2_with fail
  rw [← HW1.out]
  clear HW1
  go_loop [4] (fun i => ∃ k : Nat, k ≤ 5 ∧ i = .int .i64 k ∧ Hid (∀ j, j < k → Lib.hasPrefix (wordQ j) (38 :: b) = false)) (fun i => 5 - (intOf i).toNat)
  case atStart => exact ⟨0, Nat.zero_le _, rfl, fun j h => absurd h (by omega)⟩
  case round =>
    obtain ⟨k, hk, rfl, hno⟩ := hrel
    by_cases hlt : k < 5
    · have hc := HC.out k hlt
      have hb2 := HB.out k w1
      have i0 : (0 : Int) ≤ (k : Int) := by omega
      have i1 : (k : Int) < 5 := by omega
      cases hq : Lib.hasPrefix (wordQ k) (38 :: b) with
      | true =>
        have HR : Hid (unfL (38 :: b) = true) := unf_name hlt hq
        rw [hq] at hb2
        generalize S (wordQ k) = P at hc hb2
        clear hq
        go_wp2_with (first | (go_at_call 25; refine hb2.mono ?_; rintro e w2 ⟨rfl, rfl⟩))
        go_ret
        exact ⟨by rw [HR.out]; rfl, H0.out⟩
      | false =>
        have HNW := Lib.hid hq
        rw [hq] at hb2
        generalize hP : S (wordQ k) = P at hc hb2
        clear hq hP
        go_wp2_with (first | (go_at_call 25; refine hb2.mono ?_; rintro e w2 ⟨rfl, rfl⟩))
        go_round
        case rel => exact ⟨k + 1, by omega, by go_num, fun j hj => by
          rcases Nat.lt_or_ge j k with h | h
          · exact hno.out j h
          · obtain rfl : j = k := by omega
            exact HNW.out⟩
        case measure => simp [intOf]; omega
    · obtain rfl : k = 5 := by omega
      have HR : Hid (unfL (38 :: b) = false) := by
        show _ = _
        rw [unf_none hno.out, HN.out]
        rfl
      go_wp2_with (first | (go_at_call 25; refine (hbn _).mono ?_; rintro e w2 ⟨rfl, rfl⟩))
      go_ret
      exact ⟨by rw [HR.out]; rfl, H0.out⟩

set_option maxHeartbeats 8000000 in
set_option maxRecDepth 100000 in
theorem runf_x (u : List UInt8) (hu : u.length ≤ 2305843009213693000) (v : List UInt8) (hv : u = 120 :: v) (w : World) :
    Calls Tryd.prog 15 #[.string (S (38 :: 35 :: u))] w fun e w' => e = .returned (.bool (unfL (38 :: 35 :: u))) ∧ Below w.heap.size w w' := by
  have HB := Lib.hid (fun k w => (by have := rbegins_c (38 :: 35 :: u) (wordQ k) w; rw [num_begs] at this; exact this : Calls Tryd.prog 25 #[.string (S (38 :: 35 :: u)), .string (S (wordQ k))] w fun e w' => e = .returned (.bool false) ∧ w = w'))
  have hbn : ∀ w : World, Calls Tryd.prog 25 #[.string ⟨#[38, 35]⟩, .string (S (38 :: 35 :: u))] w fun e w' => e = .returned (.bool true) ∧ w = w' := fun w => rbegins_c [38, 35] (38 :: 35 :: u) w
  have he : (S (38 :: 35 :: u)).toList.isEmpty = false := by rw [ByteArray.toList_eq, list_S]; rfl
  have hz0 : 0 < (S (38 :: 35 :: u)).size := by rw [size_S]; simp
  have hx0 : ∀ h : 0 < (S (38 :: 35 :: u)).size, (S (38 :: 35 :: u))[0]'h = 38 := fun _ => rfl
  have hb0 : (((S (38 :: 35 :: u))[0].toNat : Int) != 38) = false := by rw [hx0 hz0]; rfl
  have HC := Lib.hid (fun k h => four_cell w k h)
  have H0 : Hid (Below w.heap.size w (fourW w)) := (Below.refl _ w).alloc (Nat.le_refl _) _
  obtain ⟨w1, hw0⟩ : ∃ w1, w1 = fourW w := ⟨_, rfl⟩
  rw [← hw0] at HC H0
  have hw1 : w1 = w.alloc (.cells #[.string ⟨#[38, 97, 109, 112]⟩, .string ⟨#[38, 108, 116]⟩, .string ⟨#[38, 103, 116]⟩, .string ⟨#[38, 113, 117, 111, 116]⟩, .string ⟨#[38, 97, 112, 111, 115]⟩] 9) := hw0
  have HW1 := Lib.hid hw1
  clear hw1 hw0
  obtain ⟨t, ht⟩ : ∃ t, t = digsOf u := ⟨_, rfl⟩
  obtain ⟨n, hn⟩ : ∃ n, n = runN 16 t := ⟨_, rfl⟩
  have hhex : isHex u = true := by rw [hv]; rfl
  have hbase : baseOf u = 16 := by unfold baseOf; rw [hhex]; rfl
  have hdr : (38 :: 35 :: u).drop 3 = digsOf u := by rw [hv]; rfl
  have hsz : (S (38 :: 35 :: u)).size = u.length + 2 := by rw [size_S]; rfl
  have hszt : u.length + 2 = 3 + t.length := by
    have h9 := digs_len u
    rw [hhex, ← ht] at h9
    rw [if_pos rfl] at h9
    omega
  have hkey : runN (baseOf u) (digsOf u) = n := by rw [hbase, ← ht]; exact hn.symm
  have hdrop : (S (38 :: 35 :: u)).data.toList.drop 3 = t := by rw [list_S, ht]; exact hdr
  have hrun := fun w => rrun_c (S (38 :: 35 :: u)) 3 true (by omega) (by omega) w
  rw [hdrop] at hrun
  have hrun : ∀ w : World, Calls Tryd.prog 26 #[.string (S (38 :: 35 :: u)), .int .i64 3, .bool true] w fun e w' => e = .returned (.int .i64 (n : Int)) ∧ w = w' := fun w => by rw [hn]; exact hrun w
  have hnt : n ≤ t.length := by rw [hn]; exact runN_le _ _
  have HU : Hid (unfL (38 :: 35 :: u) = decide (n ≤ 7 ∧ n = t.length)) := by
    show _ = _
    rw [unf_none (fun k _ => num_begs u k)]
    have e : (38 :: 35 :: u).drop 2 = u := rfl
    rw [e, hkey, ← ht]
    rfl
  have hszi : ((S (38 :: 35 :: u)).size : Int) = (t.length : Int) + 3 := by omega
  have h2 : 2 < (S (38 :: 35 :: u)).size := by rw [hsz, hv, List.length_cons]; omega
  have hs2' : ∀ h : 2 < (S (38 :: 35 :: u)).size, (S (38 :: 35 :: u))[2]'h = 120 := by rw [hv]; intro h; rfl
  have hs2 := hs2' h2
  have hx1 : (((S (38 :: 35 :: u))[2].toNat : Int) == 120) = true := by rw [hs2]; rfl

  have h2i : (2 : Int) < (t.length : Int) + 3 := by omega
  generalize S (38 :: 35 :: u) = s at *
  have HRun := Lib.hid hrun
  have HSz := Lib.hid hsz
  have HSzi := Lib.hid hszi
  have HSzt := Lib.hid hszt
  clear hrun hsz hszi hszt hdrop ht hn hbase hhex hdr hkey hx0 hv hs2 hs2'
  have i0 : (0 : Int) ≤ (n : Int) := by omega
  go_enter Tryd.func15, Tryd.ntmps15
  go_wp2_with fail
  rw [← HW1.out]
  clear HW1
  go_loop [4] (fun i => ∃ k : Nat, k ≤ 5 ∧ i = .int .i64 k) (fun i => 5 - (intOf i).toNat)
  case atStart => exact ⟨0, Nat.zero_le _, rfl⟩
  case round =>
    obtain ⟨k, hk, rfl⟩ := hrel
    by_cases hlt : k < 5
    · have hc := HC.out k hlt
      have hb := HB.out k w1
      have j0 : (0 : Int) ≤ (k : Int) := by omega
      have j1 : (k : Int) < 5 := by omega
      generalize hP : S (wordQ k) = P at hc hb
      clear hP
      go_wp2_with (first | (go_at_call 25; refine hb.mono ?_; rintro e w2 ⟨rfl, rfl⟩))
      go_round
      case rel => exact ⟨k + 1, by omega, by go_num⟩
      case measure => simp [intOf]; omega
    · obtain rfl : k = 5 := by omega
      clear HB HC
      have hrun := HRun.out
      have hszi := HSzi.out
      rcases (by omega : 7 < n ∨ (n ≤ 7 ∧ n = t.length) ∨ (n ≤ 7 ∧ n < t.length)) with h7 | ⟨h7, hq⟩ | ⟨h7, hq⟩
      · have HR : Hid (unfL (38 :: 35 :: u) = false) := HU.out.trans (decide_eq_false (by omega))
        have d2 : decide ((n : Int) ≤ 7) = false := decide_eq_false (by omega)
        go_wp2_with fail
        refine (hbn _).mono ?_
        rintro e w2 ⟨rfl, rfl⟩
        go_wp2_with fail
        refine (hrun _).mono ?_
        rintro e w3 ⟨rfl, rfl⟩
        go_wp2_with fail
        go_ret
        exact ⟨by rw [HR.out]; rfl, H0.out⟩
      · have HR : Hid (unfL (38 :: 35 :: u) = true) := HU.out.trans (decide_eq_true ⟨h7, hq⟩)
        have d2 : (n : Int) ≤ 7 := by omega
        have d3 : (3 + (n : Int) == (t.length : Int) + 3) = true := by rw [beq_iff_eq]; omega
        clear hq
        go_wp2_with fail
        refine (hbn _).mono ?_
        rintro e w2 ⟨rfl, rfl⟩
        go_wp2_with fail
        refine (hrun _).mono ?_
        rintro e w3 ⟨rfl, rfl⟩
        go_wp2_with fail
        go_ret
        exact ⟨by rw [HR.out]; rfl, H0.out⟩
      · have HR : Hid (unfL (38 :: 35 :: u) = false) := HU.out.trans (decide_eq_false (by omega))
        have d2 : (n : Int) ≤ 7 := by omega
        have d3 : (3 + (n : Int) == (t.length : Int) + 3) = false := by rw [beq_eq_false_iff_ne]; omega
        go_wp2_with fail
        refine (hbn _).mono ?_
        rintro e w2 ⟨rfl, rfl⟩
        go_wp2_with fail
        refine (hrun _).mono ?_
        rintro e w3 ⟨rfl, rfl⟩
        go_wp2_with fail
        go_ret
        exact ⟨by rw [HR.out]; rfl, H0.out⟩

set_option maxHeartbeats 8000000 in
set_option maxRecDepth 100000 in
theorem runf_X (u : List UInt8) (hu : u.length ≤ 2305843009213693000) (v : List UInt8) (hv : u = 88 :: v) (w : World) :
    Calls Tryd.prog 15 #[.string (S (38 :: 35 :: u))] w fun e w' => e = .returned (.bool (unfL (38 :: 35 :: u))) ∧ Below w.heap.size w w' := by
  have HB := Lib.hid (fun k w => (by have := rbegins_c (38 :: 35 :: u) (wordQ k) w; rw [num_begs] at this; exact this : Calls Tryd.prog 25 #[.string (S (38 :: 35 :: u)), .string (S (wordQ k))] w fun e w' => e = .returned (.bool false) ∧ w = w'))
  have hbn : ∀ w : World, Calls Tryd.prog 25 #[.string ⟨#[38, 35]⟩, .string (S (38 :: 35 :: u))] w fun e w' => e = .returned (.bool true) ∧ w = w' := fun w => rbegins_c [38, 35] (38 :: 35 :: u) w
  have he : (S (38 :: 35 :: u)).toList.isEmpty = false := by rw [ByteArray.toList_eq, list_S]; rfl
  have hz0 : 0 < (S (38 :: 35 :: u)).size := by rw [size_S]; simp
  have hx0 : ∀ h : 0 < (S (38 :: 35 :: u)).size, (S (38 :: 35 :: u))[0]'h = 38 := fun _ => rfl
  have hb0 : (((S (38 :: 35 :: u))[0].toNat : Int) != 38) = false := by rw [hx0 hz0]; rfl
  have HC := Lib.hid (fun k h => four_cell w k h)
  have H0 : Hid (Below w.heap.size w (fourW w)) := (Below.refl _ w).alloc (Nat.le_refl _) _
  obtain ⟨w1, hw0⟩ : ∃ w1, w1 = fourW w := ⟨_, rfl⟩
  rw [← hw0] at HC H0
  have hw1 : w1 = w.alloc (.cells #[.string ⟨#[38, 97, 109, 112]⟩, .string ⟨#[38, 108, 116]⟩, .string ⟨#[38, 103, 116]⟩, .string ⟨#[38, 113, 117, 111, 116]⟩, .string ⟨#[38, 97, 112, 111, 115]⟩] 9) := hw0
  have HW1 := Lib.hid hw1
  clear hw1 hw0
  obtain ⟨t, ht⟩ : ∃ t, t = digsOf u := ⟨_, rfl⟩
  obtain ⟨n, hn⟩ : ∃ n, n = runN 16 t := ⟨_, rfl⟩
  have hhex : isHex u = true := by rw [hv]; rfl
  have hbase : baseOf u = 16 := by unfold baseOf; rw [hhex]; rfl
  have hdr : (38 :: 35 :: u).drop 3 = digsOf u := by rw [hv]; rfl
  have hsz : (S (38 :: 35 :: u)).size = u.length + 2 := by rw [size_S]; rfl
  have hszt : u.length + 2 = 3 + t.length := by
    have h9 := digs_len u
    rw [hhex, ← ht] at h9
    rw [if_pos rfl] at h9
    omega
  have hkey : runN (baseOf u) (digsOf u) = n := by rw [hbase, ← ht]; exact hn.symm
  have hdrop : (S (38 :: 35 :: u)).data.toList.drop 3 = t := by rw [list_S, ht]; exact hdr
  have hrun := fun w => rrun_c (S (38 :: 35 :: u)) 3 true (by omega) (by omega) w
  rw [hdrop] at hrun
  have hrun : ∀ w : World, Calls Tryd.prog 26 #[.string (S (38 :: 35 :: u)), .int .i64 3, .bool true] w fun e w' => e = .returned (.int .i64 (n : Int)) ∧ w = w' := fun w => by rw [hn]; exact hrun w
  have hnt : n ≤ t.length := by rw [hn]; exact runN_le _ _
  have HU : Hid (unfL (38 :: 35 :: u) = decide (n ≤ 7 ∧ n = t.length)) := by
    show _ = _
    rw [unf_none (fun k _ => num_begs u k)]
    have e : (38 :: 35 :: u).drop 2 = u := rfl
    rw [e, hkey, ← ht]
    rfl
  have hszi : ((S (38 :: 35 :: u)).size : Int) = (t.length : Int) + 3 := by omega
  have h2 : 2 < (S (38 :: 35 :: u)).size := by rw [hsz, hv, List.length_cons]; omega
  have hs2' : ∀ h : 2 < (S (38 :: 35 :: u)).size, (S (38 :: 35 :: u))[2]'h = 88 := by rw [hv]; intro h; rfl
  have hs2 := hs2' h2
  have hx1 : (((S (38 :: 35 :: u))[2].toNat : Int) == 120) = false := by rw [hs2]; rfl
  have hx2 : (((S (38 :: 35 :: u))[2].toNat : Int) == 88) = true := by rw [hs2]; rfl
  have h2i : (2 : Int) < (t.length : Int) + 3 := by omega
  generalize S (38 :: 35 :: u) = s at *
  have HRun := Lib.hid hrun
  have HSz := Lib.hid hsz
  have HSzi := Lib.hid hszi
  have HSzt := Lib.hid hszt
  clear hrun hsz hszi hszt hdrop ht hn hbase hhex hdr hkey hx0 hv hs2 hs2'
  have i0 : (0 : Int) ≤ (n : Int) := by omega
  go_enter Tryd.func15, Tryd.ntmps15
  go_wp2_with fail
  rw [← HW1.out]
  clear HW1
  go_loop [4] (fun i => ∃ k : Nat, k ≤ 5 ∧ i = .int .i64 k) (fun i => 5 - (intOf i).toNat)
  case atStart => exact ⟨0, Nat.zero_le _, rfl⟩
  case round =>
    obtain ⟨k, hk, rfl⟩ := hrel
    by_cases hlt : k < 5
    · have hc := HC.out k hlt
      have hb := HB.out k w1
      have j0 : (0 : Int) ≤ (k : Int) := by omega
      have j1 : (k : Int) < 5 := by omega
      generalize hP : S (wordQ k) = P at hc hb
      clear hP
      go_wp2_with (first | (go_at_call 25; refine hb.mono ?_; rintro e w2 ⟨rfl, rfl⟩))
      go_round
      case rel => exact ⟨k + 1, by omega, by go_num⟩
      case measure => simp [intOf]; omega
    · obtain rfl : k = 5 := by omega
      clear HB HC
      have hrun := HRun.out
      have hszi := HSzi.out
      rcases (by omega : 7 < n ∨ (n ≤ 7 ∧ n = t.length) ∨ (n ≤ 7 ∧ n < t.length)) with h7 | ⟨h7, hq⟩ | ⟨h7, hq⟩
      · have HR : Hid (unfL (38 :: 35 :: u) = false) := HU.out.trans (decide_eq_false (by omega))
        have d2 : decide ((n : Int) ≤ 7) = false := decide_eq_false (by omega)
        go_wp2_with fail
        refine (hbn _).mono ?_
        rintro e w2 ⟨rfl, rfl⟩
        go_wp2_with fail
        refine (hrun _).mono ?_
        rintro e w3 ⟨rfl, rfl⟩
        go_wp2_with fail
        go_ret
        exact ⟨by rw [HR.out]; rfl, H0.out⟩
      · have HR : Hid (unfL (38 :: 35 :: u) = true) := HU.out.trans (decide_eq_true ⟨h7, hq⟩)
        have d2 : (n : Int) ≤ 7 := by omega
        have d3 : (3 + (n : Int) == (t.length : Int) + 3) = true := by rw [beq_iff_eq]; omega
        clear hq
        go_wp2_with fail
        refine (hbn _).mono ?_
        rintro e w2 ⟨rfl, rfl⟩
        go_wp2_with fail
        refine (hrun _).mono ?_
        rintro e w3 ⟨rfl, rfl⟩
        go_wp2_with fail
        go_ret
        exact ⟨by rw [HR.out]; rfl, H0.out⟩
      · have HR : Hid (unfL (38 :: 35 :: u) = false) := HU.out.trans (decide_eq_false (by omega))
        have d2 : (n : Int) ≤ 7 := by omega
        have d3 : (3 + (n : Int) == (t.length : Int) + 3) = false := by rw [beq_eq_false_iff_ne]; omega
        go_wp2_with fail
        refine (hbn _).mono ?_
        rintro e w2 ⟨rfl, rfl⟩
        go_wp2_with fail
        refine (hrun _).mono ?_
        rintro e w3 ⟨rfl, rfl⟩
        go_wp2_with fail
        go_ret
        exact ⟨by rw [HR.out]; rfl, H0.out⟩

set_option maxHeartbeats 8000000 in
set_option maxRecDepth 100000 in
theorem runf_ten (u : List UInt8) (hu : u.length ≤ 2305843009213693000) (c : UInt8) (v : List UInt8) (hv : u = c :: v) (h1 : c ≠ 120) (h2' : c ≠ 88) (w : World) :
    Calls Tryd.prog 15 #[.string (S (38 :: 35 :: u))] w fun e w' => e = .returned (.bool (unfL (38 :: 35 :: u))) ∧ Below w.heap.size w w' := by
  have HB := Lib.hid (fun k w => (by have := rbegins_c (38 :: 35 :: u) (wordQ k) w; rw [num_begs] at this; exact this : Calls Tryd.prog 25 #[.string (S (38 :: 35 :: u)), .string (S (wordQ k))] w fun e w' => e = .returned (.bool false) ∧ w = w'))
  have hbn : ∀ w : World, Calls Tryd.prog 25 #[.string ⟨#[38, 35]⟩, .string (S (38 :: 35 :: u))] w fun e w' => e = .returned (.bool true) ∧ w = w' := fun w => rbegins_c [38, 35] (38 :: 35 :: u) w
  have he : (S (38 :: 35 :: u)).toList.isEmpty = false := by rw [ByteArray.toList_eq, list_S]; rfl
  have hz0 : 0 < (S (38 :: 35 :: u)).size := by rw [size_S]; simp
  have hx0 : ∀ h : 0 < (S (38 :: 35 :: u)).size, (S (38 :: 35 :: u))[0]'h = 38 := fun _ => rfl
  have hb0 : (((S (38 :: 35 :: u))[0].toNat : Int) != 38) = false := by rw [hx0 hz0]; rfl
  have HC := Lib.hid (fun k h => four_cell w k h)
  have H0 : Hid (Below w.heap.size w (fourW w)) := (Below.refl _ w).alloc (Nat.le_refl _) _
  obtain ⟨w1, hw0⟩ : ∃ w1, w1 = fourW w := ⟨_, rfl⟩
  rw [← hw0] at HC H0
  have hw1 : w1 = w.alloc (.cells #[.string ⟨#[38, 97, 109, 112]⟩, .string ⟨#[38, 108, 116]⟩, .string ⟨#[38, 103, 116]⟩, .string ⟨#[38, 113, 117, 111, 116]⟩, .string ⟨#[38, 97, 112, 111, 115]⟩] 9) := hw0
  have HW1 := Lib.hid hw1
  clear hw1 hw0
  obtain ⟨t, ht⟩ : ∃ t, t = digsOf u := ⟨_, rfl⟩
  obtain ⟨n, hn⟩ : ∃ n, n = runN 10 t := ⟨_, rfl⟩
  have hhex : isHex u = false := by rw [hv]; exact decide_eq_false (by simp [h1, h2'])
  have hbase : baseOf u = 10 := by unfold baseOf; rw [hhex]; rfl
  have hdr : (38 :: 35 :: u).drop 2 = digsOf u := by unfold digsOf; rw [hhex]; rfl
  have hsz : (S (38 :: 35 :: u)).size = u.length + 2 := by rw [size_S]; rfl
  have hszt : u.length + 2 = 2 + t.length := by
    have h9 := digs_len u
    rw [hhex, ← ht] at h9
    rw [if_neg (by simp)] at h9
    omega
  have hkey : runN (baseOf u) (digsOf u) = n := by rw [hbase, ← ht]; exact hn.symm
  have hdrop : (S (38 :: 35 :: u)).data.toList.drop 2 = t := by rw [list_S, ht]; exact hdr
  have hrun := fun w => rrun_c (S (38 :: 35 :: u)) 2 false (by omega) (by omega) w
  rw [hdrop] at hrun
  have hrun : ∀ w : World, Calls Tryd.prog 26 #[.string (S (38 :: 35 :: u)), .int .i64 2, .bool false] w fun e w' => e = .returned (.int .i64 (n : Int)) ∧ w = w' := fun w => by rw [hn]; exact hrun w
  have hnt : n ≤ t.length := by rw [hn]; exact runN_le _ _
  have HU : Hid (unfL (38 :: 35 :: u) = decide (n ≤ 7 ∧ n = t.length)) := by
    show _ = _
    rw [unf_none (fun k _ => num_begs u k)]
    have e : (38 :: 35 :: u).drop 2 = u := rfl
    rw [e, hkey, ← ht]
    rfl
  have hszi : ((S (38 :: 35 :: u)).size : Int) = (t.length : Int) + 2 := by omega
  have h2 : 2 < (S (38 :: 35 :: u)).size := by rw [hsz, hv, List.length_cons]; omega
  have hs2' : ∀ h : 2 < (S (38 :: 35 :: u)).size, (S (38 :: 35 :: u))[2]'h = c := by rw [hv]; intro h; rfl
  have hs2 := hs2' h2
  have hx1 : (((S (38 :: 35 :: u))[2].toNat : Int) == 120) = false := by rw [hs2, beq_eq_false_iff_ne]; exact fun e => h1 (UInt8.toNat_inj.1 (by have : (120 : UInt8).toNat = 120 := rfl; omega))
  have hx2 : (((S (38 :: 35 :: u))[2].toNat : Int) == 88) = false := by rw [hs2, beq_eq_false_iff_ne]; exact fun e => h2' (UInt8.toNat_inj.1 (by have : (88 : UInt8).toNat = 88 := rfl; omega))
  have h2i : (2 : Int) < (t.length : Int) + 2 := by have h9 := hsz; rw [hv, List.length_cons] at h9; rw [hv, List.length_cons] at hszt; omega
  generalize S (38 :: 35 :: u) = s at *
  have HRun := Lib.hid hrun
  have HSz := Lib.hid hsz
  have HSzi := Lib.hid hszi
  have HSzt := Lib.hid hszt
  clear hrun hsz hszi hszt hdrop ht hn hbase hhex hdr hkey hx0 hv hs2 hs2' h1 h2'
  have i0 : (0 : Int) ≤ (n : Int) := by omega
  go_enter Tryd.func15, Tryd.ntmps15
  go_wp2_with fail
  rw [← HW1.out]
  clear HW1
  go_loop [4] (fun i => ∃ k : Nat, k ≤ 5 ∧ i = .int .i64 k) (fun i => 5 - (intOf i).toNat)
  case atStart => exact ⟨0, Nat.zero_le _, rfl⟩
  case round =>
    obtain ⟨k, hk, rfl⟩ := hrel
    by_cases hlt : k < 5
    · have hc := HC.out k hlt
      have hb := HB.out k w1
      have j0 : (0 : Int) ≤ (k : Int) := by omega
      have j1 : (k : Int) < 5 := by omega
      generalize hP : S (wordQ k) = P at hc hb
      clear hP
      go_wp2_with (first | (go_at_call 25; refine hb.mono ?_; rintro e w2 ⟨rfl, rfl⟩))
      go_round
      case rel => exact ⟨k + 1, by omega, by go_num⟩
      case measure => simp [intOf]; omega
    · obtain rfl : k = 5 := by omega
      clear HB HC
      have hrun := HRun.out
      have hszi := HSzi.out
      rcases (by omega : 7 < n ∨ (n ≤ 7 ∧ n = t.length) ∨ (n ≤ 7 ∧ n < t.length)) with h7 | ⟨h7, hq⟩ | ⟨h7, hq⟩
      · have HR : Hid (unfL (38 :: 35 :: u) = false) := HU.out.trans (decide_eq_false (by omega))
        have d2 : decide ((n : Int) ≤ 7) = false := decide_eq_false (by omega)
        go_wp2_with fail
        refine (hbn _).mono ?_
        rintro e w2 ⟨rfl, rfl⟩
        go_wp2_with fail
        refine (hrun _).mono ?_
        rintro e w3 ⟨rfl, rfl⟩
        go_wp2_with fail
        go_ret
        exact ⟨by rw [HR.out]; rfl, H0.out⟩
      · have HR : Hid (unfL (38 :: 35 :: u) = true) := HU.out.trans (decide_eq_true ⟨h7, hq⟩)
        have d2 : (n : Int) ≤ 7 := by omega
        have d3 : (2 + (n : Int) == (t.length : Int) + 2) = true := by rw [beq_iff_eq]; omega
        clear hq
        go_wp2_with fail
        refine (hbn _).mono ?_
        rintro e w2 ⟨rfl, rfl⟩
        go_wp2_with fail
        refine (hrun _).mono ?_
        rintro e w3 ⟨rfl, rfl⟩
        go_wp2_with fail
        go_ret
        exact ⟨by rw [HR.out]; rfl, H0.out⟩
      · have HR : Hid (unfL (38 :: 35 :: u) = false) := HU.out.trans (decide_eq_false (by omega))
        have d2 : (n : Int) ≤ 7 := by omega
        have d3 : (2 + (n : Int) == (t.length : Int) + 2) = false := by rw [beq_eq_false_iff_ne]; omega
        go_wp2_with fail
        refine (hbn _).mono ?_
        rintro e w2 ⟨rfl, rfl⟩
        go_wp2_with fail
        refine (hrun _).mono ?_
        rintro e w3 ⟨rfl, rfl⟩
        go_wp2_with fail
        go_ret
        exact ⟨by rw [HR.out]; rfl, H0.out⟩

set_option maxHeartbeats 8000000 in
set_option maxRecDepth 100000 in
theorem runf_nil (u : List UInt8) (hu : u.length ≤ 2305843009213693000) (hv : u = []) (w : World) :
    Calls Tryd.prog 15 #[.string (S (38 :: 35 :: u))] w fun e w' => e = .returned (.bool (unfL (38 :: 35 :: u))) ∧ Below w.heap.size w w' := by
  have HB := Lib.hid (fun k w => (by have := rbegins_c (38 :: 35 :: u) (wordQ k) w; rw [num_begs] at this; exact this : Calls Tryd.prog 25 #[.string (S (38 :: 35 :: u)), .string (S (wordQ k))] w fun e w' => e = .returned (.bool false) ∧ w = w'))
  have hbn : ∀ w : World, Calls Tryd.prog 25 #[.string ⟨#[38, 35]⟩, .string (S (38 :: 35 :: u))] w fun e w' => e = .returned (.bool true) ∧ w = w' := fun w => rbegins_c [38, 35] (38 :: 35 :: u) w
  have he : (S (38 :: 35 :: u)).toList.isEmpty = false := by rw [ByteArray.toList_eq, list_S]; rfl
  have hz0 : 0 < (S (38 :: 35 :: u)).size := by rw [size_S]; simp
  have hx0 : ∀ h : 0 < (S (38 :: 35 :: u)).size, (S (38 :: 35 :: u))[0]'h = 38 := fun _ => rfl
  have hb0 : (((S (38 :: 35 :: u))[0].toNat : Int) != 38) = false := by rw [hx0 hz0]; rfl
  have HC := Lib.hid (fun k h => four_cell w k h)
  have H0 : Hid (Below w.heap.size w (fourW w)) := (Below.refl _ w).alloc (Nat.le_refl _) _
  obtain ⟨w1, hw0⟩ : ∃ w1, w1 = fourW w := ⟨_, rfl⟩
  rw [← hw0] at HC H0
  have hw1 : w1 = w.alloc (.cells #[.string ⟨#[38, 97, 109, 112]⟩, .string ⟨#[38, 108, 116]⟩, .string ⟨#[38, 103, 116]⟩, .string ⟨#[38, 113, 117, 111, 116]⟩, .string ⟨#[38, 97, 112, 111, 115]⟩] 9) := hw0
  have HW1 := Lib.hid hw1
  clear hw1 hw0
  obtain ⟨t, ht⟩ : ∃ t, t = digsOf u := ⟨_, rfl⟩
  obtain ⟨n, hn⟩ : ∃ n, n = runN 10 t := ⟨_, rfl⟩
  have hhex : isHex u = false := by rw [hv]; rfl
  have hbase : baseOf u = 10 := by unfold baseOf; rw [hhex]; rfl
  have hdr : (38 :: 35 :: u).drop 2 = digsOf u := by unfold digsOf; rw [hhex]; rfl
  have hsz : (S (38 :: 35 :: u)).size = u.length + 2 := by rw [size_S]; rfl
  have hszt : u.length + 2 = 2 + t.length := by
    have h9 := digs_len u
    rw [hhex, ← ht] at h9
    rw [if_neg (by simp)] at h9
    omega
  have hkey : runN (baseOf u) (digsOf u) = n := by rw [hbase, ← ht]; exact hn.symm
  have hdrop : (S (38 :: 35 :: u)).data.toList.drop 2 = t := by rw [list_S, ht]; exact hdr
  have hrun := fun w => rrun_c (S (38 :: 35 :: u)) 2 false (by omega) (by omega) w
  rw [hdrop] at hrun
  have hrun : ∀ w : World, Calls Tryd.prog 26 #[.string (S (38 :: 35 :: u)), .int .i64 2, .bool false] w fun e w' => e = .returned (.int .i64 (n : Int)) ∧ w = w' := fun w => by rw [hn]; exact hrun w
  have hnt : n ≤ t.length := by rw [hn]; exact runN_le _ _
  have HU : Hid (unfL (38 :: 35 :: u) = decide (n ≤ 7 ∧ n = t.length)) := by
    show _ = _
    rw [unf_none (fun k _ => num_begs u k)]
    have e : (38 :: 35 :: u).drop 2 = u := rfl
    rw [e, hkey, ← ht]
    rfl
  have hszi : ((S (38 :: 35 :: u)).size : Int) = (t.length : Int) + 2 := by omega
  have ht0 : t.length = 0 := by
    have h8 : u.length = 0 := by rw [hv]; rfl
    omega
  have h2i : decide ((2 : Int) < (t.length : Int) + 2) = false := decide_eq_false (by omega)
  generalize S (38 :: 35 :: u) = s at *
  have HRun := Lib.hid hrun
  have HSz := Lib.hid hsz
  have HSzi := Lib.hid hszi
  have HSzt := Lib.hid hszt
  clear hrun hsz hszi hszt hdrop ht hn hbase hhex hdr hkey hx0 hv
  have i0 : (0 : Int) ≤ (n : Int) := by omega
  go_enter Tryd.func15, Tryd.ntmps15
  go_wp2_with fail
  rw [← HW1.out]
  clear HW1
  go_loop [4] (fun i => ∃ k : Nat, k ≤ 5 ∧ i = .int .i64 k) (fun i => 5 - (intOf i).toNat)
  case atStart => exact ⟨0, Nat.zero_le _, rfl⟩
  case round =>
    obtain ⟨k, hk, rfl⟩ := hrel
    by_cases hlt : k < 5
    · have hc := HC.out k hlt
      have hb := HB.out k w1
      have j0 : (0 : Int) ≤ (k : Int) := by omega
      have j1 : (k : Int) < 5 := by omega
      generalize hP : S (wordQ k) = P at hc hb
      clear hP
      go_wp2_with (first | (go_at_call 25; refine hb.mono ?_; rintro e w2 ⟨rfl, rfl⟩))
      go_round
      case rel => exact ⟨k + 1, by omega, by go_num⟩
      case measure => simp [intOf]; omega
    · obtain rfl : k = 5 := by omega
      clear HB HC
      have hrun := HRun.out
      have hszi := HSzi.out
      have HR : Hid (unfL (38 :: 35 :: u) = true) := HU.out.trans (decide_eq_true ⟨by omega, by omega⟩)
      have hn0 : n = 0 := by omega
      subst hn0
      go_wp2_with fail
      refine (hbn _).mono ?_
      rintro e w2 ⟨rfl, rfl⟩
      go_wp2_with fail
      refine (hrun _).mono ?_
      rintro e w3 ⟨rfl, rfl⟩
      go_wp2_with fail
      go_ret
      exact ⟨by rw [HR.out]; rfl, H0.out⟩

/-- Contract of the page's Unfinished. -/
theorem rUnf_c (l : List UInt8) (hl : l.length ≤ 2305843009213693000) (w : World) :
    Calls Tryd.prog 15 #[.string (S l)] w fun e w' => e = .returned (.bool (unfL l)) ∧ Below w.heap.size w w' := by
  by_cases hh : l.head? = some 38
  · obtain ⟨b, rfl⟩ : ∃ b, l = 38 :: b := by
      cases l with
      | nil => cases hh
      | cons a t => rw [List.head?_cons] at hh; injection hh with hh; subst hh; exact ⟨t, rfl⟩
    cases hn : Lib.hasPrefix (38 :: b) [38, 35] with
    | false => exact runf_names b hn w
    | true =>
      obtain ⟨u, hu0⟩ := pre_cut hn
      rw [hu0] at hl ⊢
      have hu : u.length ≤ 2305843009213693000 := by simp at hl; omega
      show Calls Tryd.prog 15 #[.string (S (38 :: 35 :: u))] w _
      cases u with
      | nil => exact runf_nil [] hu rfl w
      | cons c v =>
        by_cases h1 : c = 120
        · subst h1; exact runf_x _ hu v rfl w
        · by_cases h2 : c = 88
          · subst h2; exact runf_X _ hu v rfl w
          · exact runf_ten _ hu c v rfl h1 h2 w
  · have e : unfL l = false := by
      unfold unfL
      split
      · simp at hh
      · rfl
    rw [e]
    exact runf_no l hh w
end Go.Proofs.YtamenccdnobjkaaDoor.Crf
