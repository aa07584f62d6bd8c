/-
  The laws JstextBack, JstextParts and JstextEnds, out of the contracts of the calls that they make.
-/
import Derived.Test.YtppclkecfggkiaaDoorJstDec
import Derived.Test.YtppclkecfggkiaaDoorJstEsc
import Derived.Test.YtppclkecfggkiaaDoorJstRune
import Derived.Test.YtppclkecfggkiaaDoorUtfSame
namespace Go.Proofs.YtppclkecfggkiaaDoor.Jst
open Go.RowKit Go.Proofs.YtppclkecfggkiaaDoor.Oct Go.Proofs.YtppclkecfggkiaaDoor.Utf

theorem num_c (n : Int) (w : World) :
    Calls Tryd.prog 8 #[.int .i64 n] w fun e w' => e = .returned (.int .i64 n) ∧ w = w' := by
  go_enter Tryd.func8, Tryd.ntmps8
  go_wp2
  go_ret
  exact ⟨rfl, rfl⟩

theorem alive_c (w : World) (hT : Tabs w) : Calls Tryd.prog 11 #[] w fun e w' => e = .returned (.bool true) ∧ Below w.heap.size w w' := by
  have h1 := decode_yes [97, 92, 117, 48, 48, 50, 55] (by decide) (by decide +kernel) w
  have e1 : (tellJ [97, 92, 117, 48, 48, 50, 55]).1 = [97, 39] := by decide +kernel
  rw [e1] at h1
  have h2 := fun W (hW : Tabs W) => escape_c (S [39]) (by decide) W hW
  have e2 : escJ (chars (S [39]).data.toList) = [92, 117, 48, 48, 50, 55] := by decide +kernel
  rw [e2] at h2
  have HT := Lib.hid (fun W (h : Below w.heap.size w W) => h2 W (hT.kept h))
  have hn := num_c
  clear e1 e2 h2 hT
  go_enter Tryd.func11, Tryd.ntmps11
  go_wp2_with fail
  refine h1.mono ?_
  rintro e w1 ⟨rfl, hb1⟩
  have h3 := HT.out w1 hb1
  clear h1
  go_wp2_with (go_at_call 8; refine (hn _ _).mono ?_; rintro e w' ⟨rfl, rfl⟩)
  refine h3.mono ?_
  rintro e w2 ⟨rfl, hb2⟩
  go_wp2_with fail
  go_ret
  exact ⟨rfl, hb1.trans (hb2.mono hb1.size)⟩

theorem charsLen (s : ByteArray) : (escJ (chars s.data.toList)).length ≤ 12 * s.size := by
  have h1 := escJ_len (chars s.data.toList)
  have h2 := chars_len s.data.toList
  rw [size_list] at h2
  omega
theorem uni_low (n : Nat) : ∀ c ∈ uni n, c.toNat < 128 := by
  intro c hc
  unfold uni at hc
  rw [hexL4] at hc
  have hd : ∀ d, d < 16 → (hexDig d).toNat < 128 := fun d h => by
    have h1 : ∀ d : Fin 16, (hexDig d.val).toNat < 128 := by decide +kernel
    exact h1 ⟨d, h⟩
  simp only [List.mem_cons, List.not_mem_nil, or_false] at hc
  rcases hc with rfl | rfl | rfl | rfl | rfl | rfl
  · decide
  · decide
  all_goals exact hd _ (Nat.mod_lt _ (by decide))
theorem escC_low (c : Int) : ∀ x ∈ escC c, x.toNat < 128 := by
  intro x hx
  unfold escC at hx
  split at hx
  · rename_i hk
    have hs := keep_small c hk
    simp only [List.mem_cons, List.not_mem_nil, or_false] at hx
    subst hx
    rw [Nat.toUInt8_eq, UInt8.toNat_ofNat_of_lt' (by show c.toNat < 256; omega)]
    omega
  · split at hx
    · exact uni_low _ x hx
    · rcases List.mem_append.1 hx with h | h
      · exact uni_low _ x h
      · exact uni_low _ x h
theorem escJ_low (cs : List Int) : ∀ x ∈ escJ cs, x.toNat < 128 := by
  intro x hx
  unfold escJ at hx
  obtain ⟨c, _, hc⟩ := List.mem_flatMap.1 hx
  exact escC_low c x hc
theorem escJ_safe (cs : List Int) : ∀ i (h : i < (escJ cs).length), (escJ cs)[i].toNat < 128 ∧ safeO (escJ cs)[i] = true := fun i h => by
  refine ⟨escJ_low cs _ (List.getElem_mem h), ?_⟩
  have hs := safe_esc cs
  unfold safeJ at hs
  exact List.all_eq_true.1 hs _ (List.getElem_mem h)

set_option maxHeartbeats 4000000 in
set_option maxRecDepth 100000 in
theorem law_back (W : World) (s : ByteArray) (hs : s.size ≤ 134217728) (hT : Tabs W) :
    Calls Tryd.prog 3 #[.string s] W fun e W' => e = .returned (.bool true) ∧ Below W.heap.size W W' := by
  have h1 := escape_c s (by omega) W hT
  have hel := charsLen s
  have h2 := fun w => decode_yes (escJ (chars s.data.toList)) (by omega) (by rw [tellJ_esc]) w
  rw [tellJ_esc] at h2
  have h4 := fun w => rrepair_c s (by omega) w
  have h6 := fun w => safe_c (escJ (chars s.data.toList)) (escJ_safe _) w
  have HT := Lib.hid (fun w (h : Below W.heap.size W w) => alive_c w (hT.kept h))
  have hq : ((S (rep s.data.toList)).toList == (S (rep s.data.toList)).toList) = true := by simp
  have hz : ((S (escJ (chars s.data.toList))).size : Int) = ((escJ (chars s.data.toList)).length : Int) := by rw [size_S]
  generalize ((escJ (chars s.data.toList)).length : Int) = z at h2 hz
  have hn := num_c
  generalize S (escJ (chars s.data.toList)) = E at h1 h2 h6 hz
  generalize S (rep s.data.toList) = R at h2 h4 hq
  clear hel hT hs
  go_enter Tryd.func3, Tryd.ntmps3
  go_wp2_with fail
  refine h1.mono ?_
  rintro e w1 ⟨rfl, hb1⟩
  go_wp2_with fail
  refine (h2 _).mono ?_
  rintro e w2 ⟨rfl, hb2⟩
  go_wp2_with (go_at_call 8; refine (hn _ _).mono ?_; rintro e w' ⟨rfl, rfl⟩)
  refine (h4 _).mono ?_
  rintro e w3 ⟨rfl, hb3⟩
  have b2 := hb1.trans (hb2.mono hb1.size)
  have b3 := b2.trans (Below.mono hb3 b2.size)
  have B3 := Lib.hid b3
  clear hb1 hb2 hb3 b2 b3 h1 h2 h4
  go_wp2_with fail
  refine (h6 _).mono ?_
  rintro e w4 ⟨rfl, hb4⟩
  have B4 := Lib.hid (B3.out.trans (hb4.mono B3.out.size))
  have h5 := HT.out w4 B4.out
  clear hb4 h6
  go_wp2_with fail
  refine h5.mono ?_
  rintro e w5 ⟨rfl, hb5⟩
  go_wp2_with fail
  go_ret
  exact ⟨rfl, B4.out.trans (hb5.mono B4.out.size)⟩

set_option maxHeartbeats 4000000 in
set_option maxRecDepth 100000 in
theorem law_parts (W : World) (a b : ByteArray) (ha : a.size ≤ 134217728) (hb : b.size ≤ 134217728) (hT : Tabs W) :
    Calls Tryd.prog 4 #[.string a, .string b] W fun e W' => e = .returned (.bool true) ∧ Below W.heap.size W W' := by
  have hal := alive_c W hT
  have hea := charsLen a
  have heb := charsLen b
  have hv := fun w => rvalid_c a w
  have HE1 := Lib.hid (fun w (h : Below W.heap.size W w) => escape_c a (by omega) w (hT.kept h))
  have HE2 := Lib.hid (fun w (h : Below W.heap.size W w) => escape_c b (by omega) w (hT.kept h))
  have HE3 := Lib.hid (fun w (h : Below W.heap.size W w) => escape_c (a ++ b) (by rw [ByteArray.size_append]; omega) w (hT.kept h))
  have hsa : a.size ≤ 134217728 := ha
  have hsb : b.size ≤ 134217728 := hb
  have hab : (a ++ b).data.toList = a.data.toList ++ b.data.toList := by rw [ByteArray.data_append, Array.toList_append]
  have hea2 : (S (escJ (chars a.data.toList))).size ≤ 1610612736 := by rw [size_S]; omega
  have heb2 : (S (escJ (chars b.data.toList))).size ≤ 1610612736 := by rw [size_S]; omega
  have hq := S_append (escJ (chars a.data.toList)) (escJ (chars b.data.toList))
  have hE : valid a.data.toList = true → escJ (chars (a ++ b).data.toList) = escJ (chars a.data.toList) ++ escJ (chars b.data.toList) := fun h => by
    rw [hab, chars_append _ _ h, escJ_append]
  have hv' := hv (by omega)
  clear hea heb hT ha hb hab hv
  cases hval : valid a.data.toList with
  | false =>
    rw [hval] at hv'
    clear hE HE1 HE2 HE3 hq hval hea2 heb2
    go_enter Tryd.func4, Tryd.ntmps4
    go_wp2_with fail
    refine hal.mono ?_
    rintro e w1 ⟨rfl, hb1⟩
    have B1 := Lib.hid hb1
    clear hb1 hal
    go_wp2_with fail
    refine (hv' _).mono ?_
    rintro e w2 ⟨rfl, hb2⟩
    have B2 := Lib.hid (B1.out.trans (Below.mono hb2 B1.out.size))
    clear hb2 hv'
    go_wp2_with fail
    go_ret
    exact ⟨rfl, B2.out⟩
  | true =>
    rw [hval] at hv'
    have hE2 := hE hval
    rw [hE2] at HE3
    clear hE hval hE2
    have hq2 : ((S (escJ (chars a.data.toList) ++ escJ (chars b.data.toList))).toList == (S (escJ (chars a.data.toList) ++ escJ (chars b.data.toList))).toList) = true := by simp
    generalize S (escJ (chars a.data.toList) ++ escJ (chars b.data.toList)) = EAB at HE3 hq hq2
    generalize S (escJ (chars a.data.toList)) = EA at HE1 hq hea2
    generalize S (escJ (chars b.data.toList)) = EB at HE2 hq heb2
    go_enter Tryd.func4, Tryd.ntmps4
    go_wp2_with fail
    refine hal.mono ?_
    rintro e w1 ⟨rfl, hb1⟩
    have B1 := Lib.hid hb1
    clear hb1 hal
    go_wp2_with fail
    refine (hv' _).mono ?_
    rintro e w2 ⟨rfl, hb2⟩
    have B2 := Lib.hid (B1.out.trans (Below.mono hb2 B1.out.size))
    clear hb2 hv'
    have hx3 := HE3.out w2 B2.out
    go_wp2_with fail
    refine hx3.mono ?_
    rintro e w3 ⟨rfl, hb3⟩
    have B3 := Lib.hid (B2.out.trans (hb3.mono B2.out.size))
    clear hb3 hx3
    have hx1 := HE1.out w3 B3.out
    go_wp2_with fail
    refine hx1.mono ?_
    rintro e w4 ⟨rfl, hb4⟩
    have B4 := Lib.hid (B3.out.trans (hb4.mono B3.out.size))
    clear hb4 hx1
    have hx2 := HE2.out w4 B4.out
    go_wp2_with fail
    refine hx2.mono ?_
    rintro e w5 ⟨rfl, hb5⟩
    have B5 := Lib.hid (B4.out.trans (hb5.mono B4.out.size))
    clear hb5 hx2
    go_wp2_with fail
    go_ret
    exact ⟨rfl, B5.out⟩

/-- What stands behind an escaped text is wrong where it begins: a call of Decode there. -/
theorem decode_end (s : ByteArray) (hs : s.size ≤ 134217728) (t : List UInt8) (ht : (headJ t).2 = 0) (h0 : t ≠ []) (h8 : t.length ≤ 8) (w : World) :
    Calls Tryd.prog 7 #[.string (S (escJ (chars s.data.toList)) ++ S t)] w fun e w' => e = .returned (.tuple #[.string ⟨#[]⟩, .int .i64 ((escJ (chars s.data.toList)).length : Int), .int .i64 33]) ∧ Below w.heap.size w w' := by
  have hel := charsLen s
  have hp := List.length_pos_iff.2 h0
  have h := decode_no (escJ (chars s.data.toList) ++ t) (by rw [List.length_append]; omega) (by rw [tellJ_end _ _ ht, List.length_append]; omega) w
  rw [tellJ_end _ _ ht, ← S_append] at h
  exact h

set_option maxHeartbeats 4000000 in
set_option maxRecDepth 100000 in
theorem law_ends (W : World) (s : ByteArray) (hs : s.size ≤ 134217728) (hT : Tabs W) :
    Calls Tryd.prog 5 #[.string s] W fun e W' => e = .returned (.bool true) ∧ Below W.heap.size W W' := by
  have hal := alive_c W hT
  have hel := charsLen s
  have HE := Lib.hid (fun w (h : Below W.heap.size W w) => escape_c s (by omega) w (hT.kept h))
  have hd1 := fun w => decode_end s hs [34, 120] (by decide) (by decide) (by decide) w
  have hd2 := fun w => decode_end s hs [92] (by decide) (by decide) (by decide) w
  have hd3 := fun w => decode_end s hs [10, 120] (by decide) (by decide) (by decide) w
  have hz : ((S (escJ (chars s.data.toList))).size : Int) = ((escJ (chars s.data.toList)).length : Int) := by rw [size_S]
  have hz2 : (S (escJ (chars s.data.toList))).size ≤ 1610612736 := by rw [size_S]; omega
  generalize ((escJ (chars s.data.toList)).length : Int) = z at hd1 hd2 hd3 hz
  generalize S (escJ (chars s.data.toList)) = E at HE hd1 hd2 hd3 hz hz2
  have e1 : (S [34, 120] : ByteArray) = ⟨#[34, 120]⟩ := rfl
  have e2 : (S [92] : ByteArray) = ⟨#[92]⟩ := rfl
  have e3 : (S [10, 120] : ByteArray) = ⟨#[10, 120]⟩ := rfl
  rw [e1] at hd1
  rw [e2] at hd2
  rw [e3] at hd3
  have hn := num_c
  clear hel hT hs e1 e2 e3
  go_enter Tryd.func5, Tryd.ntmps5
  go_wp2_with fail
  refine hal.mono ?_
  rintro e w1 ⟨rfl, hb1⟩
  have B1 := Lib.hid hb1
  clear hb1 hal
  have hx := HE.out w1 B1.out
  go_wp2_with fail
  refine hx.mono ?_
  rintro e w2 ⟨rfl, hb2⟩
  have B2 := Lib.hid (B1.out.trans (hb2.mono B1.out.size))
  clear hb2 hx HE
  go_wp2_with fail
  refine (hd1 _).mono ?_
  rintro e w3 ⟨rfl, hb3⟩
  have B3 := Lib.hid (B2.out.trans (hb3.mono B2.out.size))
  clear hb3 hd1
  go_wp2_with fail
  refine (hd2 _).mono ?_
  rintro e w4 ⟨rfl, hb4⟩
  have B4 := Lib.hid (B3.out.trans (hb4.mono B3.out.size))
  clear hb4 hd2
  go_wp2_with fail
  refine (hd3 _).mono ?_
  rintro e w5 ⟨rfl, hb5⟩
  have B5 := Lib.hid (B4.out.trans (hb5.mono B4.out.size))
  clear hb5 hd3
  go_wp2_with (go_at_call 8; refine (hn _ _).mono ?_; rintro e w' ⟨rfl, rfl⟩)
  go_ret
  exact ⟨rfl, B5.out⟩
end Go.Proofs.YtppclkecfggkiaaDoor.Jst
