/-
  The laws PercentBack, PercentNormal and PercentParts, out of the contracts of the calls that they make.
-/
import Derived.Test.YthmdflmogeielaaDoorPctCalls
import Derived.Test.YthmdflmogeielaaDoorUtfSame
namespace Go.Proofs.YthmdflmogeielaaDoor.Pct
open Go.RowKit Go.Proofs.YthmdflmogeielaaDoor.Oct Go.Proofs.YthmdflmogeielaaDoor.Build Go.Proofs.YthmdflmogeielaaDoor.Utf

theorem num_c (n : Int) (w : World) :
    Calls Tryd.prog 8 #[.int .i64 n] w fun e w' => e = .returned (.int .i64 n) ∧ w = w' := by
  go_enter Tryd.func8, Tryd.ntmps8
  go_wp2
  go_ret
  exact ⟨rfl, rfl⟩

theorem alive_c (w : World) (hT : Tabs w) : Calls Tryd.prog 10 #[] w fun e w' => e = .returned (.bool true) ∧ Below w.heap.size w w' := by
  have h1 := decode_yes [97, 37, 50, 48, 98] (by decide) (by decide +kernel) w
  have e1 : (tellL [97, 37, 50, 48, 98]).1 = [97, 32, 98] := by decide +kernel
  rw [e1] at h1
  have h2 := fun W (hW : Tabs W) => encode_c (S [97, 32, 98]) (by decide) W hW
  have e2 : encL (rep (S [97, 32, 98]).data.toList) = [97, 37, 50, 48, 98] := by decide +kernel
  rw [e2] at h2
  have HT := Lib.hid (fun W (h : Below w.heap.size w W) => h2 W (hT.kept h))
  have hn := num_c
  clear e1 e2 h2 hT
  go_enter Tryd.func10, Tryd.ntmps10
  go_wp2_with fail
  refine h1.mono ?_
  rintro e w1 ⟨rfl, hb1⟩
  have h3 := HT.out w1 hb1
  clear h1
  go_wp2_with (go_at_call 8; refine (hn _ _).mono ?_; rintro e w' ⟨rfl, rfl⟩)
  refine h3.mono ?_
  rintro e w2 ⟨rfl, hb2⟩
  go_wp2_with fail
  go_ret
  exact ⟨rfl, hb1.trans (hb2.mono hb1.size)⟩

set_option maxHeartbeats 4000000 in
set_option maxRecDepth 100000 in
theorem law_back (W : World) (s : ByteArray) (hs : s.size ≤ 134217728) (hT : Tabs W) :
    Calls Tryd.prog 3 #[.string s] W fun e W' => e = .returned (.bool true) ∧ Below W.heap.size W W' := by
  have h1 := encode_c s (by omega) W hT
  have hrl := rep_len s
  have hel := enc_len' (rep s.data.toList)
  have h2 := fun w => decode_yes (encL (rep s.data.toList)) (by omega) (by rw [tell_enc]) w
  rw [tell_enc] at h2
  have h4 := fun w => rrepair_c s (by omega) w
  have HT := Lib.hid (fun w (h : Below W.heap.size W w) => alive_c w (hT.kept h))
  have hq : ((S (rep s.data.toList)).toList == (S (rep s.data.toList)).toList) = true := by simp
  have hz : ((S (encL (rep s.data.toList))).size : Int) = ((encL (rep s.data.toList)).length : Int) := by rw [size_S]
  generalize ((encL (rep s.data.toList)).length : Int) = z at h2 hz
  have hn := num_c
  generalize S (encL (rep s.data.toList)) = E at h1 h2 hz
  generalize S (rep s.data.toList) = R at h2 h4 hq
  clear hrl hel hT hs
  go_enter Tryd.func3, Tryd.ntmps3
  go_wp2_with fail
  refine h1.mono ?_
  rintro e w1 ⟨rfl, hb1⟩
  go_wp2_with fail
  refine (h2 _).mono ?_
  rintro e w2 ⟨rfl, hb2⟩
  go_wp2_with (go_at_call 8; refine (hn _ _).mono ?_; rintro e w' ⟨rfl, rfl⟩)
  refine (h4 _).mono ?_
  rintro e w3 ⟨rfl, hb3⟩
  have b2 := hb1.trans (hb2.mono hb1.size)
  have b3 := b2.trans (Below.mono hb3 b2.size)
  have h5 := HT.out w3 b3
  have HB := Lib.hid b3
  clear hb1 hb2 hb3 b2 b3 h1 h2 h4
  go_wp2_with fail
  refine h5.mono ?_
  rintro e w5 ⟨rfl, hb5⟩
  go_wp2_with fail
  go_ret
  exact ⟨rfl, HB.out.trans (hb5.mono HB.out.size)⟩

/-- A normal text, octet by octet. -/
theorem normal_at (m : List UInt8) (h : Norm m) (k : Nat) (hk : k < m.length) : m[k] = 37 ∨ unr m[k] = true ∨ res m[k] = true := norm_all h _ (List.getElem_mem hk)

set_option maxHeartbeats 4000000 in
set_option maxRecDepth 100000 in
theorem law_normal (W : World) (s : ByteArray) (hs : s.size ≤ 134217728) (hT : Tabs W) :
    Calls Tryd.prog 4 #[.string s] W fun e W' => e = .returned (.bool true) ∧ Below W.heap.size W W' := by
  have hal := alive_c W hT
  have hrl := rep_len s
  have hcl := cod_len norP (rep s.data.toList)
  have HN1 := Lib.hid (fun w (h : Below W.heap.size W w) => normal_c s (by omega) w (hT.kept h))
  have hm : Norm (norL (rep s.data.toList)) := norm_nor _ _ (Nat.le_refl _)
  have hml : (norL (rep s.data.toList)).length ≤ 1610612736 := by unfold norL; omega
  generalize norL (rep s.data.toList) = m at HN1 hm hml
  clear hrl hcl hs
  have hr : rep m = m := rep_small m (fun c hc => stay_small c (norm_all hm c hc))
  have h2 := fun w => decode_yes m (by omega) (norm_tell hm) w
  have HN2 : Hid (∀ w, Below W.heap.size W w → Calls Tryd.prog 11 #[.string (S m)] w fun e w' => e = .returned (.string (S m)) ∧ Below w.heap.size w w') := fun w h => by
    have h1 := normal_c (S m) (by rw [size_S]; omega) w (hT.kept h)
    rw [list_S, hr, norm_own hm] at h1
    exact h1
  have hsz : ((S m).size : Int) = (m.length : Int) := by rw [size_S]
  have hone := Lib.hid (fun k (h : k < m.length) => at_S m k h)
  have HA := Lib.hid (normal_at m hm)
  have hq : ((S m).toList == (S m).toList) = true := by simp
  generalize S (tellL m).1 = D at h2
  have hn := num_c
  clear hr hT hm
  go_enter Tryd.func4, Tryd.ntmps4
  go_wp2_with fail
  refine hal.mono ?_
  rintro e w1 ⟨rfl, hb1⟩
  have hno := HN1.out w1 hb1
  have B1 := Lib.hid hb1
  clear hb1 hal HN1
  go_wp2_with fail
  refine hno.mono ?_
  rintro e w2 ⟨rfl, hb2⟩
  have B2 := Lib.hid (B1.out.trans (hb2.mono B1.out.size))
  clear hb2 hno
  go_wp2_with fail
  go_loopw [4] (fun i wr => ∃ k : Nat, k ≤ m.length ∧ i = .int .i64 k ∧ Hid (Below W.heap.size W wr)) (fun i _ => m.length - (intOf i).toNat)
  case atStart => exact ⟨0, Nat.zero_le _, rfl, B2.out⟩
  case round =>
    obtain ⟨k, hk, rfl, hb⟩ := hrel
    by_cases hlt : k < m.length
    · have h1 := hone.out k hlt
      have hst := HA.out k hlt
      generalize m[k] = c at h1 hst
      have i0 : (0 : Int) ≤ (k : Int) := by omega
      have i1 : (k : Int) < (m.length : Int) := by omega
      have cb : (c.toNat : Int) ≤ 255 := by have := c.toNat_lt; omega
      have hu := fun w => unreserved_c (c.toNat : Int) w (by omega) cb
      have hrs := fun w => reserved_c (c.toNat : Int) w (by omega) cb
      have hli : (m.length : Int) ≤ 1610612736 := by omega
      clear h2 HN2
      by_cases h37 : c = 37
      · subst h37
        clear hu hrs hst
        go_wp2_with fail
        go_roundw
        case rel => exact ⟨k + 1, by omega, by go_num, hb⟩
        case measure => simp [intOf]; omega
      · have hne : ((c.toNat : Int) != 37) = true := by
          rw [bne_iff_ne]
          intro e
          exact h37 (UInt8.toNat_inj.1 (by show c.toNat = 37; omega))
        have hst2 : unrI (c.toNat : Int) = true ∨ resI (c.toNat : Int) = true := by
          rcases hst with h | h | h
          · exact absurd h h37
          · exact .inl h
          · exact .inr h
        clear hst h37
        cases hres : resI (c.toNat : Int) with
        | true =>
          rw [hres] at hrs
          clear hst2 hres hu
          go_wp2_with (go_at_call 12; refine (hrs _).mono ?_; rintro e w' ⟨rfl, rfl⟩)
          go_roundw
          case rel => exact ⟨k + 1, by omega, by go_num, hb⟩
          case measure => simp [intOf]; omega
        | false =>
          have hun : unrI (c.toNat : Int) = true := by
            rcases hst2 with h | h
            · exact h
            · rw [hres] at h; cases h
          rw [hres] at hrs
          rw [hun] at hu
          clear hst2 hres hun
          go_wp2_with (first
            | (go_at_call 12; refine (hrs _).mono ?_; rintro e w' ⟨rfl, rfl⟩)
            | (go_at_call 13; refine (hu _).mono ?_; rintro e w' ⟨rfl, rfl⟩))
          go_roundw
          case rel => exact ⟨k + 1, by omega, by go_num, hb⟩
          case measure => simp [intOf]; omega
    · have hkl : k = m.length := by omega
      subst hkl
      go_wp2_with fail
      refine (h2 _).mono ?_
      rintro e w3 ⟨rfl, hb3⟩
      have B3 := Lib.hid (hb.out.trans (hb3.mono hb.out.size))
      have hn2 := HN2.out w3 B3.out
      clear hb3 h2
      go_wp2_with fail
      refine hn2.mono ?_
      rintro e w4 ⟨rfl, hb4⟩
      have B4 := Lib.hid (B3.out.trans (hb4.mono B3.out.size))
      clear hb4 hn2
      go_wp2_with (go_at_call 8; refine (hn _ _).mono ?_; rintro e w' ⟨rfl, rfl⟩)
      go_ret
      exact ⟨rfl, B4.out⟩

set_option maxHeartbeats 4000000 in
set_option maxRecDepth 100000 in
theorem law_parts (W : World) (a b : ByteArray) (ha : a.size ≤ 134217728) (hb : b.size ≤ 134217728) (hT : Tabs W) :
    Calls Tryd.prog 5 #[.string a, .string b] W fun e W' => e = .returned (.bool true) ∧ Below W.heap.size W W' := by
  have hal := alive_c W hT
  have hra := rep_len a
  have hrb := rep_len b
  have hea := enc_len' (rep a.data.toList)
  have heb := enc_len' (rep b.data.toList)
  have hv := fun w => rvalid_c a w
  have HE1 := Lib.hid (fun w (h : Below W.heap.size W w) => encode_c a (by omega) w (hT.kept h))
  have HE2 := Lib.hid (fun w (h : Below W.heap.size W w) => encode_c b (by omega) w (hT.kept h))
  have HE3 := Lib.hid (fun w (h : Below W.heap.size W w) => encode_c (a ++ b) (by rw [ByteArray.size_append]; omega) w (hT.kept h))
  have hsa : a.size ≤ 134217728 := ha
  have hsb : b.size ≤ 134217728 := hb
  have hab : (a ++ b).data.toList = a.data.toList ++ b.data.toList := by rw [ByteArray.data_append, Array.toList_append]
  have hea2 : (S (encL (rep a.data.toList))).size ≤ 1610612736 := by rw [size_S]; omega
  have heb2 : (S (encL (rep b.data.toList))).size ≤ 1610612736 := by rw [size_S]; omega
  have hq := S_append (encL (rep a.data.toList)) (encL (rep b.data.toList))
  have hE : valid a.data.toList = true → encL (rep (a ++ b).data.toList) = encL (rep a.data.toList) ++ encL (rep b.data.toList) := fun h => by
    rw [hab, rep_append _ _ h, enc_append]
  have hv' := hv (by omega)
  clear hra hrb hea heb hT ha hb hab hv
  cases hval : valid a.data.toList with
  | false =>
    rw [hval] at hv'
    clear hE HE1 HE2 HE3 hq hval hea2 heb2
    go_enter Tryd.func5, Tryd.ntmps5
    go_wp2_with fail
    refine hal.mono ?_
    rintro e w1 ⟨rfl, hb1⟩
    have B1 := Lib.hid hb1
    clear hb1 hal
    go_wp2_with fail
    refine (hv' _).mono ?_
    rintro e w2 ⟨rfl, hb2⟩
    have B2 := Lib.hid (B1.out.trans (Below.mono hb2 B1.out.size))
    clear hb2 hv'
    go_wp2_with fail
    go_ret
    exact ⟨rfl, B2.out⟩
  | true =>
    rw [hval] at hv'
    have hE2 := hE hval
    rw [hE2] at HE3
    clear hE hval hE2
    have hq2 : ((S (encL (rep a.data.toList) ++ encL (rep b.data.toList))).toList == (S (encL (rep a.data.toList) ++ encL (rep b.data.toList))).toList) = true := by simp
    generalize S (encL (rep a.data.toList) ++ encL (rep b.data.toList)) = EAB at HE3 hq hq2
    generalize S (encL (rep a.data.toList)) = EA at HE1 hq hea2
    generalize S (encL (rep b.data.toList)) = EB at HE2 hq heb2
    go_enter Tryd.func5, Tryd.ntmps5
    go_wp2_with fail
    refine hal.mono ?_
    rintro e w1 ⟨rfl, hb1⟩
    have B1 := Lib.hid hb1
    clear hb1 hal
    go_wp2_with fail
    refine (hv' _).mono ?_
    rintro e w2 ⟨rfl, hb2⟩
    have B2 := Lib.hid (B1.out.trans (Below.mono hb2 B1.out.size))
    clear hb2 hv'
    have hx3 := HE3.out w2 B2.out
    go_wp2_with fail
    refine hx3.mono ?_
    rintro e w3 ⟨rfl, hb3⟩
    have B3 := Lib.hid (B2.out.trans (hb3.mono B2.out.size))
    clear hb3 hx3
    have hx1 := HE1.out w3 B3.out
    go_wp2_with fail
    refine hx1.mono ?_
    rintro e w4 ⟨rfl, hb4⟩
    have B4 := Lib.hid (B3.out.trans (hb4.mono B3.out.size))
    clear hb4 hx1
    have hx2 := HE2.out w4 B4.out
    go_wp2_with fail
    refine hx2.mono ?_
    rintro e w5 ⟨rfl, hb5⟩
    have B5 := Lib.hid (B4.out.trans (hb5.mono B4.out.size))
    clear hb5 hx2
    go_wp2_with fail
    go_ret
    exact ⟨rfl, B5.out⟩
end Go.Proofs.YthmdflmogeielaaDoor.Pct
