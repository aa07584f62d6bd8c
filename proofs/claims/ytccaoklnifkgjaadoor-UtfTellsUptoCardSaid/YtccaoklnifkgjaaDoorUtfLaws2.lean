/-
  The laws UtfOwn and UtfTells.
-/
import Derived.Test.YtccaoklnifkgjaaDoorUtfSame
import Derived.Test.YtccaoklnifkgjaaDoorUtfLaws
namespace Go.Proofs.YtccaoklnifkgjaaDoor.Utf
open Go.RowKit Go.Proofs.YtccaoklnifkgjaaDoor.Oct Go.Proofs.YtccaoklnifkgjaaDoor.Mem
open Go.Lib (encodeRune encodeRuneZ)

/-! ### UtfTells -/
set_option maxHeartbeats 4000000 in
theorem law_tells (c : Int) (s : ByteArray) (w : World) (hT : Tabs w) (hs : s.size ≤ 1048576) :
    Calls Tryd.prog 3 #[.int .i64 c, .string s] w fun e w' => e = .returned (.bool true) ∧ Kept w w' := by
  obtain ⟨t, ht⟩ : ∃ t, t = encS c := ⟨_, rfl⟩
  obtain ⟨er, her⟩ : ∃ er, er = encE c := ⟨_, rfl⟩
  have h1 : ∀ w, Calls Tryd.prog 7 #[.int .i64 c] w fun e w' => e = .returned (.tuple #[.string t, .int .i64 er]) ∧ Kept w w' := fun w => by
    rw [ht, her]
    cases h : charB c with
    | true => unfold encS encE; rw [h]; exact encode_yes c w h
    | false => unfold encS encE; rw [h]; exact encode_no c w h
  have h2 := fun w => rencode_c c w
  rw [← ht, ← her] at h2
  have h3 := fun w hT => decode_c s w hT
  have h4 := fun w => rdecode_c s (by omega) w
  generalize dec s.data.toList = d at h3 h4
  obtain ⟨x, n⟩ := d
  simp only at h3 h4
  have h5 := fun w => rchars_c s (by omega) w
  have h6 := fun w hT => valid_c s (by omega) w hT
  have h7 := fun w => rvalid_c s (by omega) w
  generalize valid s.data.toList = vl at h6 h7
  have h8 := fun w hT => repair_c s (by omega) w hT
  have h9 := fun w => rrepair_c s (by omega) w
  generalize S (rep s.data.toList) = rp at h8 h9
  have h10 := fun w hT => count_c s (by omega) w hT
  have h11 := fun w hT => chars_c s (by omega) w hT
  have hcl := chars_len s.data.toList
  rw [size_list] at hcl
  generalize chars s.data.toList = cs at h5 h10 h11 hcl
  obtain ⟨m, hm⟩ : ∃ m, m = cs.length := ⟨_, rfl⟩
  rw [← hm] at h5 h10 h11
  have HM := Lib.hid hm
  clear hm ht her
  go_enter Tryd.func3, Tryd.ntmps3
  go_wp2_with fail
  refine (h1 w).mono ?_
  rintro e w1 ⟨rfl, hb⟩
  have HB1 := Lib.hid hb
  clear hb h1
  go_wp2_with fail
  refine (h2 _).mono ?_
  rintro e w2 ⟨rfl, hb⟩
  have HB2 := Lib.hid (kept_trans HB1.out hb)
  clear hb h2 HB1
  go_wp2_with fail
  refine (h3 _ (hT.kept HB2.out)).mono ?_
  rintro e w3 ⟨rfl, hb⟩
  have HB3 := Lib.hid (kept_trans HB2.out hb)
  clear hb h3 HB2
  go_wp2_with fail
  refine (h4 _).mono ?_
  rintro e w4 ⟨rfl, hb⟩
  have HB4 := Lib.hid (kept_trans HB3.out hb)
  clear hb h4 HB3
  go_wp2_with fail
  refine (h5 _).mono ?_
  rintro e w5 ⟨lv, rfl, hrow, hb⟩
  have HB5 := Lib.hid (kept_trans HB4.out hb)
  have HL := Lib.hid (ints_of_row hrow)
  obtain ⟨p, cap, hlv⟩ : ∃ p cap, lv = .slice p m cap := by
    rcases HL.out with ⟨h, h'⟩ | ⟨g, cap, h, _⟩
    · exact ⟨none, 0, by rw [h, HM.out, h']; rfl⟩
    · exact ⟨some ⟨g, 0, none⟩, cap, by rw [h, HM.out]⟩
  subst hlv
  clear hb h5 HB4 hrow
  go_wp2_with (go_at_call 12; refine (num_c _ _).mono ?_; rintro e w' ⟨rfl, rfl⟩)
  refine (h6 _ (hT.kept HB5.out)).mono ?_
  rintro e w6 ⟨rfl, hb⟩
  have HB6 := Lib.hid (kept_trans HB5.out hb)
  have HL6 := Lib.hid (HL.out.kept hb)
  clear hb h6 HB5 HL
  go_wp2_with fail
  refine (h7 _).mono ?_
  rintro e w7 ⟨rfl, hb⟩
  have HB7 := Lib.hid (kept_trans HB6.out hb)
  have HL7 := Lib.hid (HL6.out.kept hb)
  clear hb h7 HB6 HL6
  go_wp2_with fail
  refine (h8 _ (hT.kept HB7.out)).mono ?_
  rintro e w8 ⟨rfl, hb⟩
  have HB8 := Lib.hid (kept_trans HB7.out hb)
  have HL8 := Lib.hid (HL7.out.kept hb)
  clear hb h8 HB7 HL7
  go_wp2_with fail
  refine (h9 _).mono ?_
  rintro e w9 ⟨rfl, hb⟩
  have HB9 := Lib.hid (kept_trans HB8.out hb)
  have HL9 := Lib.hid (HL8.out.kept hb)
  clear hb h9 HB8 HL8
  go_wp2_with fail
  refine (h10 _ (hT.kept HB9.out)).mono ?_
  rintro e w10 ⟨rfl, hb⟩
  have HB10 := Lib.hid (kept_trans HB9.out hb)
  have HL10 := Lib.hid (HL9.out.kept hb)
  clear hb h10 HB9 HL9
  go_wp2_with fail
  refine (h11 _ (hT.kept HB10.out)).mono ?_
  rintro e w11 ⟨cv, rfl, hrow, hb⟩
  have HB11 := Lib.hid (kept_trans HB10.out hb)
  have HL11 := Lib.hid (HL10.out.kept hb)
  have HC := Lib.hid (ints_of_row hrow)
  have hsame := fun a b w => same_c cs (by omega) a b w
  have HSAME := Lib.hid hsame
  clear hb h11 HB10 HL10 hrow hsame
  go_wp2_with fail
  refine (HSAME.out _ _ _ HC.out HL11.out).mono ?_
  rintro e w12 ⟨rfl, hb⟩
  have HB12 := Lib.hid (kept_trans HB11.out hb)
  clear hb HB11 HL11 HC HSAME
  go_wp2_with fail
  refine (alive_c _ (hT.kept HB12.out)).mono ?_
  rintro e w13 ⟨rfl, hb⟩
  have HB13 := Lib.hid (kept_trans HB12.out hb)
  clear hb HB12
  go_wp2
  go_ret
  exact ⟨rfl, HB13.out⟩

/-! ### UtfOwn -/
theorem grown_set {w wr : World} {g : Nat} (h : w.grownBy wr (some g)) (k : Nat) (u : Value) : w.grownBy (wr.setCell ⟨g, k, none⟩ u) (some g) :=
  ⟨h.os, h.tape, h.output, by have := h.size; simpa [World.setCell] using this, fun b hb hne => (Below.heap_setCell wr ⟨g, k, none⟩ u b (fun e => hne (by rw [e]))).trans (h.block b hb hne)⟩
theorem grown_refl (w : World) (row : Option Nat) : w.grownBy w row := ⟨rfl, rfl, rfl, Nat.le_refl _, fun _ _ _ => rfl⟩

theorem own_ne {w : World} {base n : Nat} {e : TypeId} {v : Value} {xs : List Value} (h : w.ownsRow base e 1 v n xs) {g : Nat} (hg : g < base) : v.ownBlock = none ∨ v.ownBlock ≠ some g := by
  rcases h.2 with ⟨rfl, _⟩ | ⟨g', cap, cur, rfl, hg', _⟩
  · exact .inl rfl
  · refine .inr (fun e => ?_)
    simp [Value.ownBlock] at e
    omega

set_option maxHeartbeats 4000000 in
theorem law_own (s : ByteArray) (w : World) (hT : Tabs w) (hs : s.size ≤ 1048576) :
    Calls Tryd.prog 6 #[.string s] w fun e w' => e = .returned (.bool true) ∧ Kept w w' := by
  have h1 := fun w => rchars_c s (by omega) w
  have h2 := fun w hT => chars_c s (by omega) w hT
  have hcl := chars_len s.data.toList
  rw [size_list] at hcl
  generalize chars s.data.toList = cs at h1 h2 hcl
  obtain ⟨m, hm⟩ : ∃ m, m = cs.length := ⟨_, rfl⟩
  have hsame := fun a b w => same_c cs (by omega) a b w
  rw [← hm] at h1 h2 hcl
  have HM := Lib.hid hm
  have HSAME := Lib.hid hsame
  clear hm hsame
  go_enter Tryd.func6, Tryd.ntmps6
  go_wp2_with fail
  refine (alive_c w hT).mono ?_
  rintro e w1 ⟨rfl, hb⟩
  have HB1 := Lib.hid hb
  clear hb
  go_wp2_with fail
  refine (h2 _ (hT.kept HB1.out)).mono ?_
  rintro e w2 ⟨av, rfl, hrowA, hb⟩
  have HB2 := Lib.hid (kept_trans HB1.out hb)
  have h12 := HB1.out.size
  have HA := Lib.hid hrowA
  clear hb hrowA HB1
  go_wp2_with fail
  refine (h2 _ (hT.kept HB2.out)).mono ?_
  rintro e w3 ⟨bv', rfl, hrowB, hb⟩
  have HB3 := Lib.hid (kept_trans HB2.out hb)
  have HA3 := Lib.hid (own_kept HA.out hb)
  have HBR := Lib.hid hrowB
  clear hb hrowB HB2 h2
  have fin : ∀ wr, Kept w wr → Ints wr bv' cs → Calls Tryd.prog 11 #[.string s] wr fun e w' => ∃ v, e = .returned v ∧ Kept w w' ∧ Ints w' bv' cs ∧ Ints w' v cs := fun wr hk hi =>
    (h1 wr).mono (by rintro e w' ⟨v, rfl, hr, hb⟩; exact ⟨v, rfl, kept_trans hk hb, hi.kept hb, ints_of_row hr⟩)
  have FIN := Lib.hid fin
  clear fin h1
  rcases HA.out.2 with ⟨rfl, hz⟩ | ⟨g, cap, cur, rfl, hg, hh, _⟩
  · have HI := Lib.hid (ints_of_row HBR.out)
    clear HBR HA HA3 hz
    go_wp2
    go_loop [5] (fun i => i = .int .i64 0) (fun _ => 0)
    case atStart => rfl
    case round =>
      subst hrel
      go_wp2_with fail
      refine (FIN.out _ HB3.out HI.out).mono ?_
      rintro e w4 ⟨v, rfl, hk, hi1, hi2⟩
      have HK := Lib.hid hk
      have HS := Lib.hid (HSAME.out _ _ _ hi1 hi2)
      clear hk hi1 hi2
      go_wp2_with fail
      refine HS.out.mono ?_
      rintro e w5 ⟨rfl, hb⟩
      have HK5 := Lib.hid (kept_trans HK.out hb)
      clear hb HK
      go_wp2
      go_ret
      exact ⟨rfl, HK5.out⟩
  · have hlt : g < w2.heap.size := (Array.getElem?_eq_some_iff.1 hh).1
    have hgw : w.heap.size ≤ g := by omega
    clear hh
    have HAI : Hid (∃ xs : List Int, xs.length = m ∧ w3.ownsRow w1.heap.size 3 1 (.slice (some ⟨g, 0, none⟩) m cap) m (xs.map iv)) := ⟨cs, HM.out.symm, HA3.out⟩
    clear HA HA3
    go_wp2
    go_loopw [5] (fun i wr => ∃ k : Nat, k ≤ m ∧ i = .int .i64 k ∧ Hid (∃ xs : List Int, xs.length = m ∧ wr.ownsRow w1.heap.size 3 1 (.slice (some ⟨g, 0, none⟩) m cap) m (xs.map iv)) ∧ Hid (w3.grownBy wr (some g))) (fun i _ => m - (intOf i).toNat)
    case atStart => exact ⟨0, Nat.zero_le _, rfl, HAI, grown_refl _ _⟩
    case round =>
      obtain ⟨k, hk, rfl, hrow, hgr⟩ := hrel
      clear HAI
      by_cases hkm : k < m
      · obtain ⟨xs, hxl, hr⟩ := hrow.out
        obtain ⟨c, hc⟩ : ∃ c, xs[k]? = some c := ⟨xs[k]'(by omega), List.getElem?_eq_getElem _⟩
        have hcell : wr.cell? ⟨g, k, none⟩ = some (.int .i64 c) := by rw [hr.cellAt k (by omega), List.getElem?_map, hc]; rfl
        have hfz : wr.frozen? ⟨g, k, none⟩ = false := hr.frozenAt k
        have HX := Lib.hid (And.intro hxl hr)
        clear hxl hr hc hrow
        go_wp2
        go_roundw
        case rel =>
          refine ⟨k + 1, by omega, by go_num, ⟨xs.set k (-1), by rw [List.length_set]; exact HX.out.1, ?_⟩, grown_set hgr.out k _⟩
          have st := (HX.out.2.stored k (iv (-1))).1
          rw [List.map_set]; exact st
        case measure => simp [intOf]; omega
      · have hkw : Kept w wr := HB3.out.grown hgr.out HB3.out.size (fun j e => by cases e; exact hgw)
        have hI := ints_of_row (HBR.out.kept hgr.out (own_ne HBR.out hlt))
        have HC := Lib.hid (FIN.out _ hkw hI)
        clear hkw hI hrow hgr HBR FIN
        go_wp2_with fail
        refine HC.out.mono ?_
        rintro e w4 ⟨v, rfl, hk', hi1, hi2⟩
        have HK := Lib.hid hk'
        have HS := Lib.hid (HSAME.out _ _ _ hi1 hi2)
        clear hk' hi1 hi2 HC
        go_wp2_with fail
        refine HS.out.mono ?_
        rintro e w5 ⟨rfl, hb⟩
        have HK5 := Lib.hid (kept_trans HK.out hb)
        clear hb HK HS
        go_wp2
        go_ret
        exact ⟨rfl, HK5.out⟩
end Go.Proofs.YtccaoklnifkgjaaDoor.Utf
