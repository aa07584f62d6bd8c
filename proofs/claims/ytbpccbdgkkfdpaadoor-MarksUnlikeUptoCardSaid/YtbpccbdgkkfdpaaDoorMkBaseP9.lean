/-
  Part 9: PctLeaf, PctCode, Mem, UtfLeaves.
-/
import Derived.Test.YtbpccbdgkkfdpaaDoorMkBaseP8
import Derived.Test.YtbpccbdgkkfdpaaDoorMkBaseP1
import Derived.Test.YtbpccbdgkkfdpaaDoorProg
import Derived.Lib.BufferRead
import Derived.Laws.IdiomStrings
import Derived.Lib.Hide
import Derived.Deep.RegionHeld
import Derived.Test.YtbpccbdgkkfdpaaDoorMkBaseP7
import Derived.Lib.Small
import Derived.Test.YtbpccbdgkkfdpaaDoorMkBaseP4
/-
  Contracts of Unreserved, Reserved and octet of package percent.
-/
namespace Go.Proofs.YtbpccbdgkkfdpaaDoor.Pct
open Go.RowKit Go.Proofs.YtbpccbdgkkfdpaaDoor.Oct

theorem unr_table : ∀ k : Fin 256, decide (0 ≤ Lib.indexByte [45, 46, 95, 126] (k.val : Int).toNat.toUInt8) = decide ((k.val : Int) = 45 ∨ (k.val : Int) = 46 ∨ (k.val : Int) = 95 ∨ (k.val : Int) = 126) := by decide +kernel
theorem res_table : ∀ k : Fin 256, decide (0 ≤ Lib.indexByte [33, 35, 36, 38, 42, 43, 44, 47, 58, 59, 61, 63, 64, 91, 93] (k.val : Int).toNat.toUInt8) = resI (k.val : Int) := by decide +kernel

theorem unreserved_c (n : Int) (w : World) (h0 : 0 ≤ n) (h1 : n ≤ 255) :
    Calls Tryd.prog 31 #[.int .u8 n] w fun e w' => e = .returned (.bool (unrI n)) ∧ w = w' := by
  have T := unr_table ⟨n.toNat, by omega⟩
  rw [show ((⟨n.toNat, by omega⟩ : Fin 256).val : Int) = n from Int.toNat_of_nonneg h0] at T
  have HT := Lib.hid T
  clear T
  go_enter Tryd.func31, Tryd.ntmps31
  go_wp2_with (first
    | (go_at_call 53; refine (letter_c n _ h0 h1).mono ?_; rintro e w' ⟨rfl, rfl⟩)
    | (go_at_call 54; refine (Tryd.strings_IndexByte _ _ _).mono ?_; rintro e w' ⟨rfl, rfl⟩))
  all_goals go_ret
  all_goals refine ⟨ret_bool ?_, rfl⟩
  all_goals have E : decide (0 ≤ Lib.indexByte [45, 46, 95, 126] (UInt8.ofNat n.toNat)) = decide (n = 45 ∨ n = 46 ∨ n = 95 ∨ n = 126) := HT.out
  all_goals (rw [Bool.eq_iff_iff]; simp [E, letterI, digitI, unrI] at *; try omega)

theorem unhex_two (a b : UInt8) : unhexL [a, b] = if two a b = true then ((hc a).toNat * 16 + (hc b).toNat, 0) else (0, 33) := by
  have e1 : unhexL [a, b] = if [a, b].all (fun c => decide (0 ≤ hexC c)) then (valL [a, b], 0) else (0, 33) := by
    unfold unhexL
    rw [if_neg (by simp), if_neg (by simp)]
  have e2 : [a, b].all (fun c => decide (0 ≤ hexC c)) = two a b := by
    unfold two
    rw [Bool.eq_iff_iff]
    simp only [hexC, hc, List.all_cons, List.all_nil, Bool.and_true, Bool.and_eq_true]
    exact ⟨fun h => decide_eq_true ⟨of_decide_eq_true h.1, of_decide_eq_true h.2⟩, fun h => ⟨decide_eq_true (of_decide_eq_true h).1, decide_eq_true (of_decide_eq_true h).2⟩⟩
  have e3 : valL [a, b] = (hc a).toNat * 16 + (hc b).toNat := by simp [valL, hexC, hc]
  rw [e1, e2, e3]

theorem octet_other (c : UInt8) (t : List UInt8) (hc : c ≠ 37) (w : World) :
    Calls Tryd.prog 63 #[.string (S (c :: t))] w fun e w' => e = .returned (.tuple #[.int .u8 (c.toNat : Int), .int .i64 1]) ∧ Below w.heap.size w w' := by
  have hz : ((S (c :: t)).size : Int) = (t.length : Int) + 1 := by rw [size_S]; rfl
  have h0 : (S (c :: t))[0]'(by rw [size_S]; simp) = c := rfl
  have hb : ((c.toNat : Int) != 37) = true := by
    rw [bne_iff_ne]
    intro e
    exact hc (UInt8.toNat_inj.1 (by show c.toNat = 37; omega))
  clear hc
  go_enter Tryd.func63, Tryd.ntmps63
  go_wp2_with fail
  go_ret2
  exact ⟨rfl, Below.refl _ _⟩

theorem octet_short (t : List UInt8) (ht : t.length < 2) (w : World) :
    Calls Tryd.prog 63 #[.string (S (37 :: t))] w fun e w' => e = .returned (.tuple #[.int .u8 0, .int .i64 0]) ∧ Below w.heap.size w w' := by
  have hz : ((S (37 :: t)).size : Int) = (t.length : Int) + 1 := by rw [size_S]; rfl
  have h0 : (S (37 :: t))[0]'(by rw [size_S]; simp) = 37 := rfl
  have hi : (t.length : Int) + 1 < 3 := by omega
  clear ht
  go_enter Tryd.func63, Tryd.ntmps63
  go_wp2_with fail
  go_ret2
  exact ⟨rfl, Below.refl _ _⟩

theorem hc_le (c : UInt8) : hc c ≤ 15 := (hexI_range _).2

theorem octet_two (a b : UInt8) (t : List UInt8) (hn : t.length ≤ 140737488355328) (w : World) :
    Calls Tryd.prog 63 #[.string (S (37 :: a :: b :: t))] w fun e w' => e = .returned (.tuple #[.int .u8 (if two a b = true then ((oct2 a b).toNat : Int) else 0), .int .i64 (if two a b = true then 3 else 0)]) ∧ Below w.heap.size w w' := by
  have hz : ((S (37 :: a :: b :: t)).size : Int) = (t.length : Int) + 3 := by rw [size_S]; simp only [List.length_cons]; omega
  have hz0 : (t.length : Int) ≤ 140737488355328 := by omega
  have hz1 : ¬ ((t.length : Int) + 3 < 3) := by omega
  have h0 : (S (37 :: a :: b :: t))[0]'(by rw [size_S]; simp) = 37 := rfl
  have hx : (S (37 :: a :: b :: t)).extract 1 3 = S [a, b] := by rw [Lib.extract_eq]; rfl
  have hu := fun w => unhex_c (S [a, b]) w
  rw [list_S, unhex_two] at hu
  cases h2 : two a b with
  | true =>
    rw [h2] at hu
    have e1 : ((oct2 a b).toNat : Int) = (((hc a).toNat * 16 + (hc b).toNat : Nat) : Int) := by
      have ha := hc_le a
      have hb := hc_le b
      unfold oct2
      rw [Nat.toUInt8_eq, UInt8.toNat_ofNat_of_lt' (by show _ < 256; omega)]
    have e2 : (((hc a).toNat * 16 + (hc b).toNat : Nat) : Int) ≤ 255 := by
      have ha := hc_le a
      have hb := hc_le b
      omega
    simp only [if_true] at hu ⊢
    rw [e1]
    clear e1
    generalize (hc a).toNat * 16 + (hc b).toNat = v at hu e2
    clear h2 hn
    go_enter Tryd.func63, Tryd.ntmps63
    go_wp2_with (go_at_call 80; refine (hu _).mono ?_; rintro e w1 ⟨rfl, hb1⟩)
    go_ret2
    exact ⟨rfl, hb1⟩
  | false =>
    rw [h2] at hu
    clear h2 hn
    go_enter Tryd.func63, Tryd.ntmps63
    go_wp2_with (go_at_call 80; refine (hu _).mono ?_; rintro e w1 ⟨rfl, hb1⟩)
    go_ret2
    exact ⟨rfl, hb1⟩

theorem octet_c (l : List UInt8) (hl : l ≠ []) (hn : l.length ≤ 140737488355328) (w : World) :
    Calls Tryd.prog 63 #[.string (S l)] w fun e w' => e = .returned (.tuple #[.int .u8 ((headL l).1.toNat : Int), .int .i64 ((headL l).2 : Int)]) ∧ Below w.heap.size w w' := by
  match l, hl, hn with
  | c :: t, _, hn =>
    rw [List.length_cons] at hn
    by_cases h : c = 37
    · subst h
      match t, hn with
      | [], _ => exact octet_short [] (by decide) w
      | [a], _ => rw [head_short [a] (by simp)]; exact octet_short [a] (by simp) w
      | a :: b :: t, hn =>
        have hn' : t.length ≤ 140737488355328 := by simp only [List.length_cons] at hn; omega
        have h := octet_two a b t hn' w
        cases h2 : two a b with
        | true => rw [h2] at h; rw [head_two a b t h2]; exact h
        | false => rw [h2] at h; rw [head_bad a b t h2]; exact h
    · rw [head_other c t h]; exact octet_other c t h w
end Go.Proofs.YtbpccbdgkkfdpaaDoor.Pct

/-
  Contracts of encoded and each of package percent, at whatever function value that is handed in.
-/
namespace Go.Proofs.YtbpccbdgkkfdpaaDoor.Pct
open Go.RowKit Go.Proofs.YtbpccbdgkkfdpaaDoor.Oct Go.Proofs.YtbpccbdgkkfdpaaDoor.Build

theorem cutFrom (s : ByteArray) (n : Nat) : s.extract n s.size = S (s.data.toList.drop n) := by
  rw [Lib.extract_eq, List.take_of_length_le (by rw [List.length_drop, size_list]; omega)]
theorem at_S (l : List UInt8) (k : Nat) (h : k < l.length) : (S l)[k]'(by rw [size_S]; exact h) = l[k] := by
  rw [ByteArray.getElem_eq_getElem_data]; simp

/-- What is asked of a function value that tells of a place whether its octet stays: it leaves all memory as it lies. -/
def Tells (g : Nat) (lb : Array Value) (q : Nat → Bool) (n : Nat) (w : World) : Prop :=
  ∀ (k : Nat) (W : World), k < n → Below w.heap.size w W → Calls Tryd.prog g (#[.int .i64 (k : Int)] ++ lb) W fun e w' => e = .returned (.bool (q k)) ∧ Below W.heap.size W w'

set_option maxHeartbeats 4000000 in
set_option maxRecDepth 100000 in
theorem encoded_c (l : List UInt8) (hl : l.length ≤ 4398046511104) (p : List UInt8 → Bool) (g : Nat) (lb : Array Value) (w : World)
    (eg : ∀ args w, (callFunc g args).run Tryd.prog w = .ok (.enter g args) w) (hp : Tells g lb (fun k => p (l.drop k)) l.length w) :
    Calls Tryd.prog 29 #[.string (S l), .func (.func g) #[] lb] w fun e w' => e = .returned (.string (S (codL p l))) ∧ Below w.heap.size w w' := by
  have hsz : ((S l).size : Int) = (l.length : Int) := by rw [size_S]
  have hone := Lib.hid (fun k (h : k < l.length) => at_S l k h)
  have e1 := enter_byte
  have e2 := enter_write
  have e3 := enter_string
  have H0 : Hid (Has w.heap.size w.heap.size [] (w.alloc (.cells #[.pointer none, .slice none 0 0] 60)) ∧ Below w.heap.size w (w.alloc (.cells #[.pointer none, .slice none 0 0] 60))) :=
    ⟨has_fresh w, (Below.refl _ w).alloc (Nat.le_refl _) _⟩
  have HP := Lib.hid hp
  clear hp
  go_enter Tryd.func29, Tryd.ntmps29
  go_wp2_with fail
  go_loopw [9] (fun i wr => ∃ k : Nat, k ≤ l.length ∧ i = .int .i64 k ∧ ∃ o, o.length ≤ 3 * k ∧ Hid (o ++ codL p (l.drop k) = codL p l) ∧ Hid (Has w.heap.size w.heap.size o wr ∧ Below w.heap.size w wr)) (fun i _ => l.length - (intOf i).toNat)
  case atStart => exact ⟨0, Nat.zero_le _, rfl, [], Nat.zero_le _, rfl, H0⟩
  case round =>
    clear H0
    obtain ⟨k, hk, rfl, o, hol, ho, hr⟩ := hrel
    by_cases hlt : k < l.length
    · have h1 := hone.out k hlt
      have hst : Calls Tryd.prog g (#[.int .i64 (k : Int)] ++ lb) wr fun e w' => e = .returned (.bool (p (l.drop k))) ∧ Below wr.heap.size wr w' := HP.out k wr hlt hr.out.2
      have HN : Hid (codL p (l.drop k) = (if p (l.drop k) = true then [l[k]] else 37 :: hexL l[k].toNat 2) ++ codL p (l.drop (k + 1))) := by
        have e : l.drop k = l[k] :: l.drop (k + 1) := List.drop_eq_getElem_cons hlt
        show _ = _
        rw [e]
        rfl
      generalize l[k] = c at h1 HN
      have i0 : (0 : Int) ≤ (k : Int) := by omega
      have i1 : (k : Int) < (l.length : Int) := by omega
      have i2 : (k : Int) + 1 ≤ (l.length : Int) := by omega
      have i3 : (k : Int) ≤ (k : Int) + 1 := by omega
      have i4 : ((k : Int) + 1).toNat = k + 1 := by omega
      have HH := Lib.hid (fun w2 (hb2 : Below wr.heap.size wr w2) => And.intro (has_below hr.out.1 hb2) (hr.out.2.trans (hb2.mono hr.out.2.size)))
      cases hq : p (l.drop k) with
      | true =>
        rw [hq] at hst HN
        have HPut := Lib.hid (fun W h => byte_c w.heap.size w.heap.size o c W h (by omega))
        have HN2 : Hid ((o ++ [c]) ++ codL p (l.drop (k + 1)) = codL p l) := by
          show _ = _
          rw [← ho.out, HN.out, List.append_assoc]
          rfl
        clear hq HN
        go_wp2_with (first
          | (go_at_fn g; refine hst.mono ?_; rintro e w2 ⟨rfl, hb2⟩; have HB2 := Lib.hid (HH.out w2 hb2); clear hb2)
          | (go_at_fn 46; refine (HPut.out _ HB2.out.1).mono ?_; rintro e w3 ⟨rfl, h3, h4⟩; have HN3 := Lib.hid (And.intro h3 (HB2.out.2.trans h4)); clear h3 h4))
        go_roundw
        case rel => exact ⟨k + 1, by omega, by go_num, o ++ [c], by rw [List.length_append, List.length_singleton]; omega, HN2, HN3⟩
        case measure => simp [intOf]; omega
      | false =>
        rw [hq] at hst HN
        have HPut := Lib.hid (fun W h => byte_c w.heap.size w.heap.size o 37 W h (by omega))
        have HPut2 := Lib.hid (fun W h => put_c w.heap.size w.heap.size (o ++ [37]) (hexL c.toNat 2) W h (by rw [List.length_append, List.length_singleton, hexL_length]; omega))
        have hhex := fun W => hex2_c c W
        have HN2 : Hid (((o ++ [37]) ++ hexL c.toNat 2) ++ codL p (l.drop (k + 1)) = codL p l) := by
          show _ = _
          rw [← ho.out, HN.out]
          simp
        have HL : Hid (((o ++ [37]) ++ hexL c.toNat 2).length ≤ 3 * (k + 1)) := by
          show _ ≤ _
          rw [List.length_append, List.length_append, List.length_singleton, hexL_length]; omega
        have cb : (c.toNat : Int) ≤ 255 := by have := c.toNat_lt; omega
        generalize hexL c.toNat 2 = hx at HPut2 hhex HN2 HL
        generalize S hx = HX at HPut2 hhex
        clear hq HN
        go_wp2_with (first
          | (go_at_fn g; refine hst.mono ?_; rintro e w2 ⟨rfl, hb2⟩; have HB2 := Lib.hid (HH.out w2 hb2); clear hb2)
          | (go_at_fn 46; refine (HPut.out _ HB2.out.1).mono ?_; rintro e w3 ⟨rfl, h3, h4⟩; have HN3 := Lib.hid (And.intro h3 (HB2.out.2.trans h4)); clear h3 h4)
          | (go_at_call 52; refine (hhex _).mono ?_; rintro e w4 ⟨rfl, hb4⟩; have HB4 := Lib.hid (And.intro (has_below HN3.out.1 hb4) (HN3.out.2.trans (hb4.mono HN3.out.2.size))); clear hb4)
          | (go_at_fn 33; refine (HPut2.out _ HB4.out.1).mono ?_; rintro e w5 ⟨rfl, h5, h6⟩; have HN5 := Lib.hid (And.intro h5 (HB4.out.2.trans h6)); clear h5 h6))
        go_roundw
        case rel => exact ⟨k + 1, by omega, by go_num, (o ++ [37]) ++ hx, HL.out, HN2, HN5⟩
        case measure => simp [intOf]; omega
    · have hkl : k = l.length := by omega
      subst hkl
      have HR : Hid (Has w.heap.size w.heap.size (codL p l) wr) := by
        have h1 := ho.out
        rw [List.drop_length] at h1
        have h2 : codL p [] = [] := rfl
        rw [h2, List.append_nil] at h1
        rw [← h1]
        exact hr.out.1
      have HS := Lib.hid (fun W (h : Has w.heap.size w.heap.size (codL p l) W) => Tryd.Builder_String_any w.heap.size w.heap.size (codL p l) W h (Nat.le_of_lt (has_lt h).2))
      go_wp2_with (go_at_fn 34; refine (HS.out _ HR.out).mono ?_; rintro e w3 ⟨rfl, h3⟩)
      go_ret
      exact ⟨rfl, hr.out.2.trans h3⟩

set_option maxHeartbeats 4000000 in
set_option maxRecDepth 100000 in
theorem each_c (l : List UInt8) (hl : l.length ≤ 4398046511104) (g : Nat) (lb : Array Value) (w : World) (J : List UInt8 → World → Prop)
    (eg : ∀ args w, (callFunc g args).run Tryd.prog w = .ok (.enter g args) w) (h0 : J [] w)
    (hkeep : ∀ o W W', J o W → Below W.heap.size W W' → J o W')
    (hdo : ∀ o (c : UInt8) W, J o W → o.length < l.length → Calls Tryd.prog g (#[.int .u8 (c.toNat : Int)] ++ lb) W fun e W' => (∃ v, e = .returned v) ∧ J (o ++ [c]) W') :
    Calls Tryd.prog 44 #[.string (S l), .func (.func g) #[] lb] w fun e W' => e = .returned (.int .i64 ((tellL l).2 : Int)) ∧ J (tellL l).1 W' := by
  have hsz : ((S l).size : Int) = (l.length : Int) := by rw [size_S]
  have hfrom := Lib.hid (fun k => (cutFrom (S l) k).trans (by rw [list_S] : S ((S l).data.toList.drop k) = S (l.drop k)))
  have HD := Lib.hid hdo
  have HK := Lib.hid hkeep
  have H0 := Lib.hid h0
  clear hdo hkeep h0
  go_enter Tryd.func44, Tryd.ntmps44
  go_wp2_with fail
  go_loopw [5, 11] (fun m i wr => ∃ k t : Nat, k ≤ t ∧ t ≤ l.length ∧ i = .int .i64 k ∧ m = .int .i64 t ∧ ∃ o, o.length ≤ t ∧ Hid (o ++ (tellL (l.drop t)).1 = (tellL l).1 ∧ t + (tellL (l.drop t)).2 = (tellL l).2) ∧ Hid (J o wr)) (fun _ i _ => l.length - (intOf i).toNat)
  case atStart => exact ⟨0, 0, Nat.zero_le _, Nat.zero_le _, rfl, rfl, [], Nat.zero_le _, ⟨rfl, Nat.zero_add _⟩, H0⟩
  case round =>
    clear H0
    obtain ⟨k, t, hkt, htl, rfl, rfl, o, hol, ho, hr⟩ := hrel
    by_cases hlt : k < l.length
    · by_cases hk2 : k < t
      · have i0 : (k : Int) < (l.length : Int) := by omega
        have i1 : (k : Int) < (t : Int) := by omega
        go_wp2_with fail
        go_roundw
        case rel => exact ⟨k + 1, t, by omega, htl, by go_num, rfl, o, hol, ho, hr⟩
        case measure => simp [intOf]; omega
      · have hkt2 : t = k := by omega
        subst hkt2
        have hne : l.drop t ≠ [] := by
          intro h
          have := congrArg List.length h
          rw [List.length_drop] at this
          simp at this
          omega
        have hoc := octet_c (l.drop t) hne (by rw [List.length_drop]; omega) wr
        have hf := hfrom.out t
        have hlen := (head_len (l.drop t)).1
        rw [List.length_drop] at hlen
        rw [← hf] at hoc
        have i0 : (0 : Int) ≤ (t : Int) := by omega
        have i1 : (t : Int) < (l.length : Int) := by omega
        have i2 : (t : Int) + 1 ≤ (l.length : Int) := by omega
        have i3 : (t : Int) ≤ (t : Int) + 1 := by omega
        have i4 : ((t : Int) + 1).toNat = t + 1 := by omega
        have i5 : (t : Int) ≤ (l.length : Int) := by omega
        have i6 : ¬ ((t : Int) < (t : Int)) := by omega
        have HH := Lib.hid (fun w2 (hb2 : Below wr.heap.size wr w2) => HK.out o wr w2 hr.out hb2)
        clear hf hne
        by_cases hz : (headL (l.drop t)).2 = 0
        · rw [hz] at hoc
          have E : Hid ((tellL l).2 = t ∧ o = (tellL l).1) := by
            have h1 := ho.out
            rw [tell_stop hz] at h1
            rw [List.append_nil, Nat.add_zero] at h1
            exact ⟨h1.2.symm, h1.1⟩
          clear hz hlen
          generalize (headL (l.drop t)).1 = c at hoc
          go_wp2_with (go_at_call 63; refine hoc.mono ?_; rintro e w2 ⟨rfl, hb2⟩; have HB2 := Lib.hid (HH.out w2 hb2); clear hb2)
          go_ret
          exact ⟨ret_int (by rw [E.out.1]), by rw [← E.out.2]; exact HB2.out⟩
        · have HN : Hid ((o ++ [(headL (l.drop t)).1]) ++ (tellL (l.drop (t + (headL (l.drop t)).2))).1 = (tellL l).1 ∧ (t + (headL (l.drop t)).2) + (tellL (l.drop (t + (headL (l.drop t)).2))).2 = (tellL l).2) := by
            have h1 := ho.out
            rw [tell_step hz, List.drop_drop] at h1
            refine ⟨?_, ?_⟩
            · rw [← h1.1, List.append_assoc]; rfl
            · rw [← h1.2, Nat.add_assoc]
          have hz1 : 0 < (headL (l.drop t)).2 := by omega
          have hzb : (((headL (l.drop t)).2 : Int) == 0) = false := by simp; exact hz
          have hdc := fun W h => HD.out o (headL (l.drop t)).1 W h (by omega)
          clear hz
          generalize (headL (l.drop t)).1 = c at hoc HN hdc
          generalize (headL (l.drop t)).2 = n at hoc HN hlen hz1 hzb
          have HDC := Lib.hid hdc
          clear hdc
          go_wp2_with (first
            | (go_at_call 63; refine hoc.mono ?_; rintro e w2 ⟨rfl, hb2⟩; have HB2 := Lib.hid (HH.out w2 hb2); clear hb2)
            | (go_at_fn g; refine (HDC.out _ HB2.out).mono ?_; rintro e w3 ⟨⟨v, rfl⟩, h3⟩; have HN3 := Lib.hid h3; clear h3))
          go_roundw
          case rel => exact ⟨t + 1, t + n, by omega, by omega, by go_num, by go_num, o ++ [c], by rw [List.length_append, List.length_singleton]; omega, HN, HN3⟩
          case measure => simp [intOf]; omega
    · have hkl : t = l.length := by omega
      have hkl2 : k = l.length := by omega
      subst hkl2
      have E : Hid ((tellL l).2 = l.length ∧ o = (tellL l).1) := by
        have h1 := ho.out
        rw [hkl, List.drop_length, tell_nil] at h1
        rw [List.append_nil, Nat.add_zero] at h1
        exact ⟨h1.2.symm, h1.1⟩
      clear hkl
      go_wp2_with fail
      go_ret
      exact ⟨ret_int (by rw [E.out.1]), by rw [← E.out.2]; exact hr.out⟩
end Go.Proofs.YtbpccbdgkkfdpaaDoor.Pct

/-
  Memory that the call itself made: a slice of octets and what it is as a text; worlds in which all older memory is unturned.
-/
namespace Go.Proofs.YtbpccbdgkkfdpaaDoor.Mem
open Go.RowKit Go.Proofs.YtbpccbdgkkfdpaaDoor.Oct

theorem info_u8 : (Tryd.prog.info? 5).map (fun i => (i.zero, i.size, i.bytes)) = some (some (.int .u8 0), 1, 1) := by kernel_rfl

/-- An octet's value. -/
abbrev bv (c : UInt8) : Value := .int .u8 (c.toNat : Int)

/-- 'string(b)' of a slice of the call's own that holds the octets l, nil or not. -/
theorem conv_own {w : World} {base n : Nat} {v : Value} {l : List UInt8} (h : w.ownsRow base 5 1 v n (l.map bv)) :
    (convert 54 9 v).run Tryd.prog w = .ok (.string (S l)) w := by
  have hn : l.length = n := by simpa using h.1
  rcases h.2 with ⟨rfl, hz⟩ | ⟨g, cap, cur, rfl, hg, hh, hnc, hcm, hcs, htk⟩
  · have hl : l = [] := List.eq_nil_of_length_eq_zero (by omega)
    subst hl
    exact Lib.run_convert_nil_bytes w _ _ 5 0 Tryd.underlying54 Tryd.underlying5 Tryd.underlying9
  · subst hn
    exact run_convert_bytes_back w _ _ 5 ⟨g, 0, none⟩ cap l Tryd.underlying54 Tryd.underlying5 Tryd.underlying9
      (fun j hj => by
        have h1 := h.cellAt j (by omega)
        rw [Addr.add_lit, Nat.zero_add, h1]
        simp [hj])

theorem own_base {w : World} {base n : Nat} {e : TypeId} {v : Value} {xs : List Value} (h : w.ownsRow base e 1 v n xs) : ∀ k, v.ownBlock = some k → base ≤ k := by
  intro k hk
  rcases h.2 with ⟨rfl, _⟩ | ⟨g, cap, cur, rfl, hg, _⟩
  · simp [Value.ownBlock] at hk
  · simp [Value.ownBlock] at hk; omega

/-- What lay in w lies as it lay. -/
abbrev Kept (w w' : World) : Prop := Below w.heap.size w w'
theorem kept_trans {a b c : World} (h : Kept a b) (k : Kept b c) : Kept a c := Below.trans h (k.mono h.size)
theorem kept_cell {w w' : World} (h : Kept w w') {p : Addr} {v : Value} (hc : w.cell? p = some v) : w'.cell? p = some v := by
  rw [h.cell (World.block_lt_of_cell? w p hc)]; exact hc

/-- A row of the call's own lies as it lay in a world in which nothing older has turned. -/
theorem own_kept {w w' : World} {base n size : Nat} {e : TypeId} {v : Value} {xs : List Value} (h : w.ownsRow base e size v n xs) (hb : Kept w w') : w'.ownsRow base e size v n xs := by
  refine h.kept (row := none) ⟨hb.os, hb.tape, hb.output, hb.size, fun k hk _ => hb.block k hk⟩ ?_
  rcases h.2 with ⟨rfl, _⟩ | ⟨g, cap, cur, rfl, _⟩
  · exact .inl rfl
  · exact .inr (by simp [Value.ownBlock])

theorem str_beq (a b : ByteArray) : (a.toList == b.toList) = decide (a = b) := by
  rw [Bool.eq_iff_iff]
  simp only [beq_iff_eq, decide_eq_true_eq]
  constructor
  · intro h; rw [ByteArray.toList_eq, ByteArray.toList_eq] at h; rw [← S_list a, ← S_list b, h]
  · intro h; rw [h]

theorem info_int : (Tryd.prog.info? 3).map (fun i => (i.zero, i.size, i.bytes)) = some (some (.int .i64 0), 1, 8) := by kernel_rfl
abbrev iv (c : Int) : Value := .int .i64 c
end Go.Proofs.YtbpccbdgkkfdpaaDoor.Mem

/-
  Contracts of utf.character, Encode, Decode, and of the law's own num.
-/
namespace Go.Proofs.YtbpccbdgkkfdpaaDoor.Utf
open Go.RowKit Go.Proofs.YtbpccbdgkkfdpaaDoor.Oct Go.Proofs.YtbpccbdgkkfdpaaDoor.Mem
open Go.Lib (encodeRune)

/-- Go's own two tables of characters' first octets, as they are laid. -/
def Tabs (w : World) : Prop := Lib.Utf8Tabs 1 2 w
theorem Tabs.kept {w w' : World} (h : Tabs w) (hb : Kept w w') : Tabs w' :=
  ⟨fun c hc => kept_cell hb (h.1 c hc), fun i hi => ⟨kept_cell hb (h.2 i hi).1, kept_cell hb (h.2 i hi).2⟩⟩

theorem valid_eq (c : Int) : Lib.validRune c = charB c := by unfold Lib.validRune charB isChar; rfl

theorem runeCells_eq (c : Int) : Lib.runeCells c = (encodeRune c).map bv := (Lib.byteCells_encodeRune c).symm

theorem decode_c (s : ByteArray) (w : World) (hT : Tabs w) :
    Calls Tryd.prog 82 #[.string s] w fun e w' => e = .returned (.tuple #[.int .i64 (dec s.data.toList).1, .int .i64 ((dec s.data.toList).2 : Nat)]) ∧ Kept w w' := by
  have hd := Tryd.utf8_DecodeRuneInString s w hT
  have E := go_dec s
  have hr := dec_range s.data.toList
  have hr2 : (dec s.data.toList).2 ≤ 4 := by
    by_cases hl : s.data.toList = []
    · rw [hl, dec_nil]; simp
    · exact (dec_width _ hl).2.1
  generalize dec s.data.toList = d at E hr hr2
  generalize Lib.decodeGo s = g at hd E
  obtain ⟨r, k⟩ := g
  simp only at hd E
  by_cases hr0 : r = 65533
  · subst hr0
    by_cases hk : k ≤ 1
    · rw [if_pos ⟨rfl, hk⟩] at E
      subst E
      have hk' : (k : Int) ≤ 1 := by omega
      go_enter Tryd.func82, Tryd.ntmps82
      go_wp2_with (go_at_call 76; refine hd.mono ?_; rintro e w' ⟨rfl, hb⟩)
      go_ret2
      exact ⟨rfl, hb⟩
    · rw [if_neg (by omega)] at E
      subst E
      have hk' : decide ((k : Int) ≤ 1) = false := by simp; omega
      have hk2 : decide (k ≤ 1) = false := by simp; omega
      go_enter Tryd.func82, Tryd.ntmps82
      go_wp2_with (go_at_call 76; refine hd.mono ?_; rintro e w' ⟨rfl, hb⟩)
      go_ret2
      exact ⟨rfl, hb⟩
  · rw [if_neg (by omega)] at E
    subst E
    have hb' : ((r : Int) == 65533) = false := by simp; omega
    have h0 : (0 : Int) ≤ (r : Int) := by omega
    have h1 : (r : Int) ≤ 1114111 := hr.2
    clear hr hr2
    go_enter Tryd.func82, Tryd.ntmps82
    go_wp2_with (go_at_call 76; refine hd.mono ?_; rintro e w' ⟨rfl, hb⟩)
    go_ret2
    exact ⟨rfl, hb⟩
end Go.Proofs.YtbpccbdgkkfdpaaDoor.Utf
