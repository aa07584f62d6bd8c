/-
  Contracts of encoded and each of package percent, at whatever function value that is handed in.
-/
import Derived.Test.YthmdflmogeielaaDoorPctBuild
import Derived.Test.YthmdflmogeielaaDoorPctLeaf
namespace Go.Proofs.YthmdflmogeielaaDoor.Pct
open Go.RowKit Go.Proofs.YthmdflmogeielaaDoor.Oct Go.Proofs.YthmdflmogeielaaDoor.Build

theorem cutFrom (s : ByteArray) (n : Nat) : s.extract n s.size = S (s.data.toList.drop n) := by
  rw [Lib.extract_eq, List.take_of_length_le (by rw [List.length_drop, size_list]; omega)]
theorem at_S (l : List UInt8) (k : Nat) (h : k < l.length) : (S l)[k]'(by rw [size_S]; exact h) = l[k] := by
  rw [ByteArray.getElem_eq_getElem_data]; simp

/-- What is asked of a function value that tells of a place whether its octet stays: it leaves all memory as it lies. -/
def Tells (g : Nat) (lb : Array Value) (q : Nat → Bool) (n : Nat) (w : World) : Prop :=
  ∀ (k : Nat) (W : World), k < n → Below w.heap.size w W → Calls Tryd.prog g (#[.int .i64 (k : Int)] ++ lb) W fun e w' => e = .returned (.bool (q k)) ∧ Below W.heap.size W w'

set_option maxHeartbeats 4000000 in
set_option maxRecDepth 100000 in
theorem encoded_c (l : List UInt8) (hl : l.length ≤ 4398046511104) (p : List UInt8 → Bool) (g : Nat) (lb : Array Value) (w : World)
    (eg : ∀ args w, (callFunc g args).run Tryd.prog w = .ok (.enter g args) w) (hp : Tells g lb (fun k => p (l.drop k)) l.length w) :
    Calls Tryd.prog 16 #[.string (S l), .func (.func g) #[] lb] w fun e w' => e = .returned (.string (S (codL p l))) ∧ Below w.heap.size w w' := by
  have hsz : ((S l).size : Int) = (l.length : Int) := by rw [size_S]
  have hone := Lib.hid (fun k (h : k < l.length) => at_S l k h)
  have e1 := enter_byte
  have e2 := enter_write
  have e3 := enter_string
  have H0 : Hid (Has w.heap.size w.heap.size [] (w.alloc (.cells #[.pointer none, .slice none 0 0] 36)) ∧ Below w.heap.size w (w.alloc (.cells #[.pointer none, .slice none 0 0] 36))) :=
    ⟨has_fresh w, (Below.refl _ w).alloc (Nat.le_refl _) _⟩
  have HP := Lib.hid hp
  clear hp
  go_enter Tryd.func16, Tryd.ntmps16
  go_wp2_with fail
  go_loopw [9] (fun i wr => ∃ k : Nat, k ≤ l.length ∧ i = .int .i64 k ∧ ∃ o, o.length ≤ 3 * k ∧ Hid (o ++ codL p (l.drop k) = codL p l) ∧ Hid (Has w.heap.size w.heap.size o wr ∧ Below w.heap.size w wr)) (fun i _ => l.length - (intOf i).toNat)
  case atStart => exact ⟨0, Nat.zero_le _, rfl, [], Nat.zero_le _, rfl, H0⟩
  case round =>
    clear H0
    obtain ⟨k, hk, rfl, o, hol, ho, hr⟩ := hrel
    by_cases hlt : k < l.length
    · have h1 := hone.out k hlt
      have hst : Calls Tryd.prog g (#[.int .i64 (k : Int)] ++ lb) wr fun e w' => e = .returned (.bool (p (l.drop k))) ∧ Below wr.heap.size wr w' := HP.out k wr hlt hr.out.2
      have HN : Hid (codL p (l.drop k) = (if p (l.drop k) = true then [l[k]] else 37 :: hexL l[k].toNat 2) ++ codL p (l.drop (k + 1))) := by
        have e : l.drop k = l[k] :: l.drop (k + 1) := List.drop_eq_getElem_cons hlt
        show _ = _
        rw [e]
        rfl
      generalize l[k] = c at h1 HN
      have i0 : (0 : Int) ≤ (k : Int) := by omega
      have i1 : (k : Int) < (l.length : Int) := by omega
      have i2 : (k : Int) + 1 ≤ (l.length : Int) := by omega
      have i3 : (k : Int) ≤ (k : Int) + 1 := by omega
      have i4 : ((k : Int) + 1).toNat = k + 1 := by omega
      have HH := Lib.hid (fun w2 (hb2 : Below wr.heap.size wr w2) => And.intro (has_below hr.out.1 hb2) (hr.out.2.trans (hb2.mono hr.out.2.size)))
      cases hq : p (l.drop k) with
      | true =>
        rw [hq] at hst HN
        have HPut := Lib.hid (fun W h => byte_c w.heap.size w.heap.size o c W h (by omega))
        have HN2 : Hid ((o ++ [c]) ++ codL p (l.drop (k + 1)) = codL p l) := by
          show _ = _
          rw [← ho.out, HN.out, List.append_assoc]
          rfl
        clear hq HN
        go_wp2_with (first
          | (go_at_fn g; refine hst.mono ?_; rintro e w2 ⟨rfl, hb2⟩; have HB2 := Lib.hid (HH.out w2 hb2); clear hb2)
          | (go_at_fn 20; refine (HPut.out _ HB2.out.1).mono ?_; rintro e w3 ⟨rfl, h3, h4⟩; have HN3 := Lib.hid (And.intro h3 (HB2.out.2.trans h4)); clear h3 h4))
        go_roundw
        case rel => exact ⟨k + 1, by omega, by go_num, o ++ [c], by rw [List.length_append, List.length_singleton]; omega, HN2, HN3⟩
        case measure => simp [intOf]; omega
      | false =>
        rw [hq] at hst HN
        have HPut := Lib.hid (fun W h => byte_c w.heap.size w.heap.size o 37 W h (by omega))
        have HPut2 := Lib.hid (fun W h => put_c w.heap.size w.heap.size (o ++ [37]) (hexL c.toNat 2) W h (by rw [List.length_append, List.length_singleton, hexL_length]; omega))
        have hhex := fun W => hex2_c c W
        have HN2 : Hid (((o ++ [37]) ++ hexL c.toNat 2) ++ codL p (l.drop (k + 1)) = codL p l) := by
          show _ = _
          rw [← ho.out, HN.out]
          simp
        have HL : Hid (((o ++ [37]) ++ hexL c.toNat 2).length ≤ 3 * (k + 1)) := by
          show _ ≤ _
          rw [List.length_append, List.length_append, List.length_singleton, hexL_length]; omega
        have cb : (c.toNat : Int) ≤ 255 := by have := c.toNat_lt; omega
        generalize hexL c.toNat 2 = hx at HPut2 hhex HN2 HL
        generalize S hx = HX at HPut2 hhex
        clear hq HN
        go_wp2_with (first
          | (go_at_fn g; refine hst.mono ?_; rintro e w2 ⟨rfl, hb2⟩; have HB2 := Lib.hid (HH.out w2 hb2); clear hb2)
          | (go_at_fn 20; refine (HPut.out _ HB2.out.1).mono ?_; rintro e w3 ⟨rfl, h3, h4⟩; have HN3 := Lib.hid (And.intro h3 (HB2.out.2.trans h4)); clear h3 h4)
          | (go_at_call 33; refine (hhex _).mono ?_; rintro e w4 ⟨rfl, hb4⟩; have HB4 := Lib.hid (And.intro (has_below HN3.out.1 hb4) (HN3.out.2.trans (hb4.mono HN3.out.2.size))); clear hb4)
          | (go_at_fn 32; refine (HPut2.out _ HB4.out.1).mono ?_; rintro e w5 ⟨rfl, h5, h6⟩; have HN5 := Lib.hid (And.intro h5 (HB4.out.2.trans h6)); clear h5 h6))
        go_roundw
        case rel => exact ⟨k + 1, by omega, by go_num, (o ++ [37]) ++ hx, HL.out, HN2, HN5⟩
        case measure => simp [intOf]; omega
    · have hkl : k = l.length := by omega
      subst hkl
      have HR : Hid (Has w.heap.size w.heap.size (codL p l) wr) := by
        have h1 := ho.out
        rw [List.drop_length] at h1
        have h2 : codL p [] = [] := rfl
        rw [h2, List.append_nil] at h1
        rw [← h1]
        exact hr.out.1
      have HS := Lib.hid (fun W (h : Has w.heap.size w.heap.size (codL p l) W) => Tryd.Builder_String_any w.heap.size w.heap.size (codL p l) W h (Nat.le_of_lt (has_lt h).2))
      go_wp2_with (go_at_fn 21; refine (HS.out _ HR.out).mono ?_; rintro e w3 ⟨rfl, h3⟩)
      go_ret
      exact ⟨rfl, hr.out.2.trans h3⟩

set_option maxHeartbeats 4000000 in
set_option maxRecDepth 100000 in
theorem each_c (l : List UInt8) (hl : l.length ≤ 4398046511104) (g : Nat) (lb : Array Value) (w : World) (J : List UInt8 → World → Prop)
    (eg : ∀ args w, (callFunc g args).run Tryd.prog w = .ok (.enter g args) w) (h0 : J [] w)
    (hkeep : ∀ o W W', J o W → Below W.heap.size W W' → J o W')
    (hdo : ∀ o (c : UInt8) W, J o W → o.length < l.length → Calls Tryd.prog g (#[.int .u8 (c.toNat : Int)] ++ lb) W fun e W' => (∃ v, e = .returned v) ∧ J (o ++ [c]) W') :
    Calls Tryd.prog 18 #[.string (S l), .func (.func g) #[] lb] w fun e W' => e = .returned (.int .i64 ((tellL l).2 : Int)) ∧ J (tellL l).1 W' := by
  have hsz : ((S l).size : Int) = (l.length : Int) := by rw [size_S]
  have hfrom := Lib.hid (fun k => (cutFrom (S l) k).trans (by rw [list_S] : S ((S l).data.toList.drop k) = S (l.drop k)))
  have HD := Lib.hid hdo
  have HK := Lib.hid hkeep
  have H0 := Lib.hid h0
  clear hdo hkeep h0
  go_enter Tryd.func18, Tryd.ntmps18
  go_wp2_with fail
  go_loopw [5, 11] (fun m i wr => ∃ k t : Nat, k ≤ t ∧ t ≤ l.length ∧ i = .int .i64 k ∧ m = .int .i64 t ∧ ∃ o, o.length ≤ t ∧ Hid (o ++ (tellL (l.drop t)).1 = (tellL l).1 ∧ t + (tellL (l.drop t)).2 = (tellL l).2) ∧ Hid (J o wr)) (fun _ i _ => l.length - (intOf i).toNat)
  case atStart => exact ⟨0, 0, Nat.zero_le _, Nat.zero_le _, rfl, rfl, [], Nat.zero_le _, ⟨rfl, Nat.zero_add _⟩, H0⟩
  case round =>
    clear H0
    obtain ⟨k, t, hkt, htl, rfl, rfl, o, hol, ho, hr⟩ := hrel
    by_cases hlt : k < l.length
    · by_cases hk2 : k < t
      · have i0 : (k : Int) < (l.length : Int) := by omega
        have i1 : (k : Int) < (t : Int) := by omega
        go_wp2_with fail
        go_roundw
        case rel => exact ⟨k + 1, t, by omega, htl, by go_num, rfl, o, hol, ho, hr⟩
        case measure => simp [intOf]; omega
      · have hkt2 : t = k := by omega
        subst hkt2
        have hne : l.drop t ≠ [] := by
          intro h
          have := congrArg List.length h
          rw [List.length_drop] at this
          simp at this
          omega
        have hoc := octet_c (l.drop t) hne (by rw [List.length_drop]; omega) wr
        have hf := hfrom.out t
        have hlen := (head_len (l.drop t)).1
        rw [List.length_drop] at hlen
        rw [← hf] at hoc
        have i0 : (0 : Int) ≤ (t : Int) := by omega
        have i1 : (t : Int) < (l.length : Int) := by omega
        have i2 : (t : Int) + 1 ≤ (l.length : Int) := by omega
        have i3 : (t : Int) ≤ (t : Int) + 1 := by omega
        have i4 : ((t : Int) + 1).toNat = t + 1 := by omega
        have i5 : (t : Int) ≤ (l.length : Int) := by omega
        have i6 : ¬ ((t : Int) < (t : Int)) := by omega
        have HH := Lib.hid (fun w2 (hb2 : Below wr.heap.size wr w2) => HK.out o wr w2 hr.out hb2)
        clear hf hne
        by_cases hz : (headL (l.drop t)).2 = 0
        · rw [hz] at hoc
          have E : Hid ((tellL l).2 = t ∧ o = (tellL l).1) := by
            have h1 := ho.out
            rw [tell_stop hz] at h1
            rw [List.append_nil, Nat.add_zero] at h1
            exact ⟨h1.2.symm, h1.1⟩
          clear hz hlen
          generalize (headL (l.drop t)).1 = c at hoc
          go_wp2_with (go_at_call 25; refine hoc.mono ?_; rintro e w2 ⟨rfl, hb2⟩; have HB2 := Lib.hid (HH.out w2 hb2); clear hb2)
          go_ret
          exact ⟨ret_int (by rw [E.out.1]), by rw [← E.out.2]; exact HB2.out⟩
        · have HN : Hid ((o ++ [(headL (l.drop t)).1]) ++ (tellL (l.drop (t + (headL (l.drop t)).2))).1 = (tellL l).1 ∧ (t + (headL (l.drop t)).2) + (tellL (l.drop (t + (headL (l.drop t)).2))).2 = (tellL l).2) := by
            have h1 := ho.out
            rw [tell_step hz, List.drop_drop] at h1
            refine ⟨?_, ?_⟩
            · rw [← h1.1, List.append_assoc]; rfl
            · rw [← h1.2, Nat.add_assoc]
          have hz1 : 0 < (headL (l.drop t)).2 := by omega
          have hzb : (((headL (l.drop t)).2 : Int) == 0) = false := by simp; exact hz
          have hdc := fun W h => HD.out o (headL (l.drop t)).1 W h (by omega)
          clear hz
          generalize (headL (l.drop t)).1 = c at hoc HN hdc
          generalize (headL (l.drop t)).2 = n at hoc HN hlen hz1 hzb
          have HDC := Lib.hid hdc
          clear hdc
          go_wp2_with (first
            | (go_at_call 25; refine hoc.mono ?_; rintro e w2 ⟨rfl, hb2⟩; have HB2 := Lib.hid (HH.out w2 hb2); clear hb2)
            | (go_at_fn g; refine (HDC.out _ HB2.out).mono ?_; rintro e w3 ⟨⟨v, rfl⟩, h3⟩; have HN3 := Lib.hid h3; clear h3))
          go_roundw
          case rel => exact ⟨t + 1, t + n, by omega, by omega, by go_num, by go_num, o ++ [c], by rw [List.length_append, List.length_singleton]; omega, HN, HN3⟩
          case measure => simp [intOf]; omega
    · have hkl : t = l.length := by omega
      have hkl2 : k = l.length := by omega
      subst hkl2
      have E : Hid ((tellL l).2 = l.length ∧ o = (tellL l).1) := by
        have h1 := ho.out
        rw [hkl, List.drop_length, tell_nil] at h1
        rw [List.append_nil, Nat.add_zero] at h1
        exact ⟨h1.2.symm, h1.1⟩
      clear hkl
      go_wp2_with fail
      go_ret
      exact ⟨ret_int (by rw [E.out.1]), by rw [← E.out.2]; exact hr.out⟩
end Go.Proofs.YthmdflmogeielaaDoor.Pct
