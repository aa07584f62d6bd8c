/-
  The laws CsstextFilters and CsstextParts, out of the contracts of the calls that they make.
-/
import Derived.Test.YtnmjgokcodbgeaaCssCode
namespace Go.Proofs.Ytnmjgokcodbgeaa.Css
open Go.RowKit Go.Proofs.Ytnmjgokcodbgeaa.Oct

theorem alive_c (w : World) (hM : MaxAt w) : Calls Try.prog 7 #[] w fun e w' => e = .returned (.bool true) ∧ Below w.heap.size w w' := by
  have h1 := filter_c [49, 50, 112, 120] (by decide) w hM
  have e1 : filtC [49, 50, 112, 120] = [49, 50, 112, 120] := by decide +kernel
  rw [e1] at h1
  have H2 := Lib.hid (fun W (h : Below w.heap.size w W) => filter_c [97, 59, 98] (by decide) W (hM.kept h))
  have e2 : filtC [97, 59, 98] = markC := by decide +kernel
  rw [e2] at H2
  clear e1 e2 hM
  go_enter Try.func7, Try.ntmps7
  go_wp2_with fail
  refine h1.mono ?_
  rintro e w1 ⟨rfl, hb1⟩
  have h2 := H2.out _ hb1
  clear h1 H2
  go_wp2_with fail
  refine h2.mono ?_
  rintro e w2 ⟨rfl, hb2⟩
  go_wp2_with fail
  go_ret
  exact ⟨rfl, hb1.trans (hb2.mono hb1.size)⟩

set_option maxHeartbeats 4000000 in
set_option maxRecDepth 100000 in
theorem law_filters (W : World) (s : ByteArray) (hs : s.size ≤ 140737488351232) (hM : MaxAt W) :
    Calls Try.prog 3 #[.string s] W fun e W' => e = .returned (.bool true) ∧ Below W.heap.size W W' := by
  have hl : s.data.toList.length ≤ 140737488351232 := by rw [size_list]; exact hs
  have c1 := filter_c s.data.toList (by omega) W hM
  rw [S_list] at c1
  have hfl : (filtC s.data.toList).length ≤ 4096 := plain_len (filt_plain _)
  have C2 := Lib.hid (fun w (h : Below W.heap.size W w) => plain_c (filtC s.data.toList) (by omega) w (hM.kept h))
  have C3 := Lib.hid (fun w (h : Below W.heap.size W w) => filter_c (filtC s.data.toList) (by omega) w (hM.kept h))
  have C4 := Lib.hid (fun w (h : Below W.heap.size W w) => plain_c s.data.toList (by omega) w (hM.kept h))
  have HA := Lib.hid (fun w (h : Below W.heap.size W w) => alive_c w (hM.kept h))
  rw [filt_plain] at C2
  rw [filt_own] at C3
  rw [S_list] at C4
  have q1 : ((S (filtC s.data.toList)).toList == (S (filtC s.data.toList)).toList) = true := by simp
  have q2 : ((S (filtC s.data.toList)).toList == s.toList) = decide (filtC s.data.toList = s.data.toList) := by
    have e : s.toList = s.data.toList := ByteArray.toList_eq s
    rw [e]
    exact eqL (filtC s.data.toList) s.data.toList
  have hor := filt_is s.data.toList
  by_cases heq : filtC s.data.toList = s.data.toList
  · rw [decide_eq_true heq] at q2
    clear hor heq hfl hl hM hs C4
    generalize S (filtC s.data.toList) = F at *
    go_enter Try.func3, Try.ntmps3
    go_wp2_with fail
    refine c1.mono ?_
    rintro e w1 ⟨rfl, hb1⟩
    have B1 := Lib.hid hb1
    have c2 := C2.out _ hb1
    clear hb1 c1 C2
    go_wp2_with fail
    refine c2.mono ?_
    rintro e w2 ⟨rfl, hb2⟩
    have B2 := Lib.hid (B1.out.trans (hb2.mono B1.out.size))
    have c3 := C3.out _ B2.out
    clear hb2 c2 C3 B1
    go_wp2_with fail
    refine c3.mono ?_
    rintro e w3 ⟨rfl, hb3⟩
    have B3 := Lib.hid (B2.out.trans (hb3.mono B2.out.size))
    have ca := HA.out _ B3.out
    clear hb3 c3 HA B2
    go_wp2_with fail
    refine ca.mono ?_
    rintro e w4 ⟨rfl, hb4⟩
    have B4 := Lib.hid (B3.out.trans (hb4.mono B3.out.size))
    clear hb4 ca B3
    go_wp2_with fail
    go_ret
    exact ⟨rfl, B4.out⟩
  · have hfm : filtC s.data.toList = markC ∧ plainB s.data.toList = false := by
      rcases hor with h | h
      · exact absurd h heq
      · exact h
    rw [decide_eq_false heq] at q2
    rw [hfm.2] at C4
    have q3 : ((S (filtC s.data.toList)).toList == [90, 103, 111, 116, 109, 112, 108, 90]) = true := by rw [hfm.1]; exact (eqL markC markC).trans (decide_eq_true rfl)
    clear hor heq hfl hl hM hs hfm
    generalize S (filtC s.data.toList) = F at *
    go_enter Try.func3, Try.ntmps3
    go_wp2_with fail
    refine c1.mono ?_
    rintro e w1 ⟨rfl, hb1⟩
    have B1 := Lib.hid hb1
    have c2 := C2.out _ hb1
    clear hb1 c1 C2
    go_wp2_with fail
    refine c2.mono ?_
    rintro e w2 ⟨rfl, hb2⟩
    have B2 := Lib.hid (B1.out.trans (hb2.mono B1.out.size))
    have c3 := C3.out _ B2.out
    clear hb2 c2 C3 B1
    go_wp2_with fail
    refine c3.mono ?_
    rintro e w3 ⟨rfl, hb3⟩
    have B3 := Lib.hid (B2.out.trans (hb3.mono B2.out.size))
    have c4 := C4.out _ B3.out
    clear hb3 c3 C4 B2
    go_wp2_with fail
    refine c4.mono ?_
    rintro e w4 ⟨rfl, hb4⟩
    have B4 := Lib.hid (B3.out.trans (hb4.mono B3.out.size))
    have ca := HA.out _ B4.out
    clear hb4 c4 HA B3
    go_wp2_with fail
    refine ca.mono ?_
    rintro e w5 ⟨rfl, hb5⟩
    have B5 := Lib.hid (B4.out.trans (hb5.mono B4.out.size))
    clear hb5 ca B4
    go_wp2_with fail
    go_ret
    exact ⟨rfl, B5.out⟩

/-! ### Parts -/
/-- Where a number leads, gone through the places of a text and its end. -/
theorem at_place (a : Int) (L : Nat) (h : 0 < L) (hl : L ≤ 140737488351233) : ∃ m : Nat, (wrap64 (a.tmod L + L)).tmod L = (m : Int) ∧ m < L := by
  have hL : (0 : Int) < (L : Int) := by omega
  have h1 := Int.tmod_lt_of_pos a hL
  have h2 := Int.lt_tmod_of_pos a hL
  generalize a.tmod L = b at *
  have e : wrap64 (b + L) = b + L := by unfold wrap64; omega
  rw [e]
  have h3 := Int.tmod_lt_of_pos (b + L) hL
  have h4 : 0 ≤ (b + L).tmod L := Int.tmod_nonneg _ (by omega)
  exact ⟨((b + L).tmod L).toNat, by omega, by omega⟩

set_option maxHeartbeats 4000000 in
set_option maxRecDepth 100000 in
theorem law_parts (W : World) (s : ByteArray) (a b : Int) (hs : s.size ≤ 140737488351232) (hM : MaxAt W) :
    Calls Try.prog 4 #[.string s, .int .i64 a, .int .i64 b] W fun e W' => e = .returned (.bool true) ∧ Below W.heap.size W W' := by
  have ca := alive_c W hM
  have C1 := Lib.hid (fun w (h : Below W.heap.size W w) => plain_c s.data.toList (by rw [size_list]; omega) w (hM.kept h))
  rw [S_list] at C1
  obtain ⟨x, hx, hxl⟩ := at_place a (s.size + 1) (by omega) (by omega)
  obtain ⟨y, hy, hyl⟩ := at_place b (s.size + 1) (by omega) (by omega)
  have hn : wrap64 ((s.size : Int) + 1) = ((s.size + 1 : Nat) : Int) := by unfold wrap64; omega
  have C2 : Hid (∀ (i j : Nat), i ≤ j → j ≤ s.size → plainB s.data.toList = true → ∀ w, Below W.heap.size W w → Calls Try.prog 6 #[.string (s.extract i j)] w fun e w' => e = .returned (.bool true) ∧ Below w.heap.size w w') := by
    show ∀ _, _
    intro i j hij hj hp w h
    have h1 := plain_c ((s.data.toList.drop i).take (j - i)) (by rw [List.length_take, List.length_drop, size_list]; omega) w (hM.kept h)
    rw [plain_cut _ _ _ hp] at h1
    rw [Lib.extract_eq]
    exact h1
  have hxi : (x : Int) < (s.size : Int) + 1 := by omega
  have hyi : (y : Int) < (s.size : Int) + 1 := by omega
  have hx0 : (0 : Int) ≤ (x : Int) := by omega
  have hy0 : (0 : Int) ≤ (y : Int) := by omega
  have hNpos : (0 : Int) < ((s.size + 1 : Nat) : Int) := by omega
  have hNne : (((s.size + 1 : Nat) : Int) == 0) = false := by rw [beq_eq_false_iff_ne]; omega
  generalize plainB s.data.toList = pl at C1 C2
  generalize ((s.size + 1 : Nat) : Int) = N at hx hy hn hNpos hNne
  clear hM hs
  go_enter Try.func4, Try.ntmps4
  go_wp2_with fail
  refine ca.mono ?_
  rintro e w1 ⟨rfl, hb1⟩
  have B1 := Lib.hid hb1.drew
  have c1 := C1.out _ B1.out
  clear hb1 ca C1
  by_cases hxy : y < x
  · have hxyi : (y : Int) < (x : Int) := by omega
    have hle : (y : Int) ≤ (x : Int) := by omega
    have hls : (x : Int) ≤ (s.size : Int) := by omega
    cases pl with
    | false =>
      clear C2
      go_wp2_with fail
      go_region
      go_wp2_with fail
      refine c1.mono ?_
      rintro e w2 ⟨rfl, hb2⟩
      have B2 := Lib.hid (B1.out.trans (hb2.mono B1.out.size))
      go_wp2_with fail
      go_ret
      exact ⟨rfl, B2.out⟩
    | true =>
      go_wp2_with fail
      go_region
      go_wp2_with fail
      refine c1.mono ?_
      rintro e w2 ⟨rfl, hb2⟩
      have B2 := Lib.hid (B1.out.trans (hb2.mono B1.out.size))
      have c2 := C2.out y x (by omega) (by omega) trivial _ B2.out
      clear hb2 C2 c1
      go_wp2_with fail
      refine c2.mono ?_
      rintro e w3 ⟨rfl, hb3⟩
      have B3 := Lib.hid (B2.out.trans (hb3.mono B2.out.size))
      go_wp2_with fail
      go_ret
      exact ⟨rfl, B3.out⟩
  · have hxyi : (x : Int) ≤ (y : Int) := by omega
    have hls : (y : Int) ≤ (s.size : Int) := by omega
    cases pl with
    | false =>
      clear C2
      go_wp2_with fail
      go_region
      go_wp2_with fail
      refine c1.mono ?_
      rintro e w2 ⟨rfl, hb2⟩
      have B2 := Lib.hid (B1.out.trans (hb2.mono B1.out.size))
      go_wp2_with fail
      go_ret
      exact ⟨rfl, B2.out⟩
    | true =>
      go_wp2_with fail
      go_region
      go_wp2_with fail
      refine c1.mono ?_
      rintro e w2 ⟨rfl, hb2⟩
      have B2 := Lib.hid (B1.out.trans (hb2.mono B1.out.size))
      have c2 := C2.out x y (by omega) (by omega) trivial _ B2.out
      clear hb2 C2 c1
      go_wp2_with fail
      refine c2.mono ?_
      rintro e w3 ⟨rfl, hb3⟩
      have B3 := Lib.hid (B2.out.trans (hb3.mono B2.out.size))
      go_wp2_with fail
      go_ret
      exact ⟨rfl, B3.out⟩
end Go.Proofs.Ytnmjgokcodbgeaa.Css
