/-
  Contracts of package lex's leaves: blanks at either end of a text, trims, remarks, where an action ends.
-/
import Derived.Test.YtbchjmldjdhjiaaLxwPure
import Derived.Test.YtbchjmldjdhjiaaOctTrim
import Derived.Deep.QuietTactic
import Derived.BigQuiet
namespace Go.Proofs.Ytbchjmldjdhjiaa.Lxw
open Go.RowKit Go.Proofs.Ytbchjmldjdhjiaa.Oct Go.Proofs.Ytbchjmldjdhjiaa.Lex


theorem at_S (l : List UInt8) (k : Nat) (h : k < l.length) : (S l)[k]'(by rw [size_S]; exact h) = l[k] := rfl
theorem skip_drop {l : List UInt8} {k : Nat} (h : k < l.length) : skipN (l.drop k) = if Lex.bl l[k] then skipN (l.drop (k + 1)) + 1 else 0 := by
  rw [List.drop_eq_getElem_cons h]
  unfold skipN
  cases hb : Lex.bl l[k] with
  | true => rw [List.takeWhile_cons_of_pos hb, if_pos rfl]; rfl
  | false => rw [List.takeWhile_cons_of_neg (by rw [hb]; simp), if_neg (by simp)]; rfl

theorem skip_end {l : List UInt8} {k : Nat} (h : l.length ≤ k) : skipN (l.drop k) = 0 := by rw [List.drop_of_length_le h]; rfl

set_option maxHeartbeats 1000000 in
theorem ahead_c (l : List UInt8) (hl : l.length ≤ 4611686018427387904) (w : World) :
    Calls Try.prog 38 #[.string (S l)] w fun e w' => e = .returned (.int .i64 (skipN l : Nat)) ∧ w = w' := by
  have hsz : ((S l).size : Int) = (l.length : Int) := by rw [size_S]
  have HAt := Lib.hid (fun k (h : k < l.length) => at_S l k h)
  have HBl := Lib.hid (fun (c : UInt8) w => blank_c (c.toNat : Int) w)
  go_enter Try.func38, Try.ntmps38
  go_wp2_with fail
  go_loop [3] (fun i => ∃ k : Nat, k ≤ l.length ∧ i = .int .i64 k ∧ Hid (skipN l = k + skipN (l.drop k))) (fun i => l.length - (intOf i).toNat)
  case atStart => exact ⟨0, Nat.zero_le _, rfl, (by show _ = _; simp)⟩
  case round =>
    obtain ⟨k, hk, rfl, hE⟩ := hrel
    have i0 : (0 : Int) ≤ (k : Int) := by omega
    have i1 : (k : Int) ≤ 4611686018427387904 := by omega
    by_cases hlt : k < l.length
    · have h1 := HAt.out k hlt
      have hs := skip_drop hlt
      have hbc := HBl.out l[k]
      have hcb : ((l[k]).toNat : Int) ≤ 255 := by have := (l[k]).toNat_lt; omega
      have i2 : (k : Int) < (l.length : Int) := by omega
      have hd : decide ((k : Int) < (l.length : Int)) = true := decide_eq_true i2
      cases hb : Lex.bl l[k] with
      | true =>
        have hb' : blankI ((l[k]).toNat : Int) = true := hb
        rw [hb'] at hbc
        rw [hb, if_pos rfl] at hs
        have HN : Hid (skipN l = (k + 1) + skipN (l.drop (k + 1))) := by have := hE.out; show _ = _; omega
        clear hb hb' hs hE
        generalize l[k] = c at *
        go_wp2_with (go_at_call 53; refine (hbc _).mono ?_; rintro e w' ⟨rfl, rfl⟩)
        go_round
        case rel => exact ⟨k + 1, by omega, by go_num, HN⟩
        case measure => simp [intOf]; omega
      | false =>
        have hb' : blankI ((l[k]).toNat : Int) = false := hb
        rw [hb'] at hbc
        rw [hb, if_neg (by simp)] at hs
        have HN : Hid (skipN l = k) := by have := hE.out; show _ = _; omega
        clear hb hb' hs hE
        generalize l[k] = c at *
        go_wp2_with (go_at_call 53; refine (hbc _).mono ?_; rintro e w' ⟨rfl, rfl⟩)
        go_ret
        exact ⟨by rw [HN.out]; rfl, rfl⟩
    · have hs := skip_end (l := l) (k := k) (by omega)
      have HN : Hid (skipN l = k) := by have := hE.out; show _ = _; omega
      have hd : decide ((k : Int) < (l.length : Int)) = false := decide_eq_false (by omega)
      clear hs hE
      go_wp2_with fail
      go_ret
      exact ⟨by rw [HN.out]; rfl, rfl⟩
theorem rev_at {l : List UInt8} {k : Nat} (h : k < l.length) : (l.reverse)[k]'(by simpa using h) = l[l.length - 1 - k] := by simp
set_option maxHeartbeats 1000000 in
theorem behind_c (l : List UInt8) (hl : l.length ≤ 4611686018427387904) (w : World) :
    Calls Try.prog 31 #[.string (S l)] w fun e w' => e = .returned (.int .i64 (skipN l.reverse : Nat)) ∧ w = w' := by
  have hsz : ((S l).size : Int) = (l.length : Int) := by rw [size_S]
  have HAt := Lib.hid (fun k (h : k < l.length) => at_S l k h)
  have HRv := Lib.hid (fun k (h : k < l.length) => rev_at h)
  have HBl := Lib.hid (fun (c : UInt8) w => blank_c (c.toNat : Int) w)
  obtain ⟨r, hr⟩ : ∃ r, r = l.reverse := ⟨_, rfl⟩
  have hrl : r.length = l.length := by rw [hr, List.length_reverse]
  have HR := Lib.hid (And.intro hr hrl)
  rw [← hr]
  clear hr hrl
  go_enter Try.func31, Try.ntmps31
  go_wp2_with fail
  go_loop [3] (fun i => ∃ k : Nat, k ≤ l.length ∧ i = .int .i64 k ∧ Hid (skipN r = k + skipN (r.drop k))) (fun i => l.length - (intOf i).toNat)
  case atStart => exact ⟨0, Nat.zero_le _, rfl, (by show _ = _; simp)⟩
  case round =>
    obtain ⟨k, hk, rfl, hE⟩ := hrel
    have i0 : (0 : Int) ≤ (k : Int) := by omega
    have i1 : (k : Int) ≤ 4611686018427387904 := by omega
    have i3 : (l.length : Int) ≤ 4611686018427387904 := by omega
    by_cases hlt : k < l.length
    · obtain ⟨c, hcd⟩ : ∃ c, c = l[l.length - 1 - k] := ⟨_, rfl⟩
      have hlt' : l.length - 1 - k < l.length := by omega
      have h1 := (HAt.out (l.length - 1 - k) hlt').trans hcd.symm
      have hrc : r[k]'(by rw [HR.out.2]; exact hlt) = c := by
        have := HRv.out k hlt
        rw [hcd]
        simp only [HR.out.1]
        exact this
      have hs := skip_drop (l := r) (k := k) (by rw [HR.out.2]; exact hlt)
      rw [hrc] at hs
      have hbc := HBl.out c
      have hcb : (c.toNat : Int) ≤ 255 := by have := c.toNat_lt; omega
      have i2 : (k : Int) < (l.length : Int) := by omega
      have hd : decide ((k : Int) < (l.length : Int)) = true := decide_eq_true i2
      have j0 : (l.length : Int) - 1 - (k : Int) = ((l.length - 1 - k : Nat) : Int) := by omega
      have j1 : ((l.length - 1 - k : Nat) : Int) < (l.length : Int) := by omega
      have j2 : (0 : Int) ≤ ((l.length - 1 - k : Nat) : Int) := by omega
      clear hcd hrc
      cases hb : Lex.bl c with
      | true =>
        have hb' : blankI (c.toNat : Int) = true := hb
        rw [hb'] at hbc
        rw [hb, if_pos rfl] at hs
        have HN : Hid (skipN r = (k + 1) + skipN (r.drop (k + 1))) := by have := hE.out; show _ = _; omega
        clear hb hb' hs hE
        go_wp2_with (go_at_call 53; refine (hbc _).mono ?_; rintro e w' ⟨rfl, rfl⟩)
        go_round
        case rel => exact ⟨k + 1, by omega, by go_num, HN⟩
        case measure => simp [intOf]; omega
      | false =>
        have hb' : blankI (c.toNat : Int) = false := hb
        rw [hb'] at hbc
        rw [hb, if_neg (by simp)] at hs
        have HN : Hid (skipN r = k) := by have := hE.out; show _ = _; omega
        clear hb hb' hs hE
        go_wp2_with (go_at_call 53; refine (hbc _).mono ?_; rintro e w' ⟨rfl, rfl⟩)
        go_ret
        exact ⟨by rw [HN.out]; rfl, rfl⟩
    · have hs := skip_end (l := r) (k := k) (by rw [HR.out.2]; omega)
      have HN : Hid (skipN r = k) := by have := hE.out; show _ = _; omega
      have hd : decide ((k : Int) < (l.length : Int)) = false := decide_eq_false (by omega)
      clear hs hE
      go_wp2_with fail
      go_ret
      exact ⟨by rw [HN.out]; rfl, rfl⟩

/-! ### Trims -/
theorem two_of {l : List UInt8} (h : ¬ l.length ≤ 1) : ∃ c d r, l = c :: d :: r := by
  match l, h with
  | c :: d :: r, _ => exact ⟨c, d, r, rfl⟩
  | [c], h => simp at h
  | [], h => simp at h
theorem lead_short {l : List UInt8} (h : l.length ≤ 1) : leadB l = false := by
  cases h' : leadB l with
  | false => rfl
  | true => have := lead_long h'; omega
theorem oct_ne {c : UInt8} {n : Nat} (h : c ≠ n.toUInt8) (hn : n < 256) : ((c.toNat : Int) == (n : Int)) = false := by
  rw [beq_eq_false_iff_ne]
  intro e
  apply h
  apply UInt8.toNat_inj.1
  rw [Nat.toUInt8_eq, UInt8.toNat_ofNat']
  omega
set_option maxRecDepth 100000 in
theorem lead_c (l : List UInt8) (hl : l.length ≤ 4611686018427387904) (w : World) :
    Calls Try.prog 30 #[.string (S l)] w fun e w' => e = .returned (.bool (leadB l)) ∧ w = w' := by
  have hsz : ((S l).size : Int) = (l.length : Int) := by rw [size_S]
  have hsn : (S l).size = l.length := size_S l
  by_cases h2 : l.length ≤ 1
  · have HE := Lib.hid (lead_short h2)
    have hd : decide (1 < (l.length : Int)) = false := decide_eq_false (by omega)
    clear hsn
    generalize S l = L at *
    generalize leadB l = o at *
    generalize l.length = n at *
    clear hl h2
    go_enter Try.func30, Try.ntmps30
    go_wp2_with fail
    go_ret
    exact ⟨ret_bool HE.out.symm, rfl⟩
  · obtain ⟨c, d, r, hlr⟩ := two_of h2
    obtain ⟨L, hL⟩ : ∃ L, L = S l := ⟨_, rfl⟩
    have a0 : ∀ h : 0 < L.size, L[0]'h = c := by subst hL; subst hlr; intro _; rfl
    have a1 : ∀ h : 1 < L.size, L[1]'h = d := by subst hL; subst hlr; intro _; rfl
    rw [← hL] at hsz hsn ⊢
    have hd : decide (1 < (l.length : Int)) = true := decide_eq_true (by omega)
    have j0 : (0 : Int) < (l.length : Int) := by omega
    have j1 : (1 : Int) < (l.length : Int) := by omega
    have hb := blank_c (d.toNat : Int) w
    have hb1 : (c.toNat : Int) ≤ 255 := by have := c.toNat_lt; omega
    have hb2 : (d.toNat : Int) ≤ 255 := by have := d.toNat_lt; omega
    have k0 : 0 < l.length := by omega
    have k1 : 1 < l.length := by omega
    by_cases hc : c = 45
    · have HE : Hid (leadB l = blankI (d.toNat : Int)) := by subst hc; subst hlr; rfl
      have hq : ((c.toNat : Int) == 45) = true := by subst hc; rfl
      generalize leadB l = o at *
      clear hc h2 hL hlr hl
      go_enter Try.func30, Try.ntmps30
      go_wp2_with (go_at_call 53; refine hb.mono ?_; rintro e w' ⟨rfl, rfl⟩)
      go_ret
      exact ⟨ret_bool HE.out.symm, rfl⟩
    · have HE : Hid (leadB l = false) := by subst hlr; exact lead_no hc
      have hq : ((c.toNat : Int) == 45) = false := oct_ne (n := 45) hc (by decide)
      generalize leadB l = o at *
      clear hc h2 hL hlr hl
      go_enter Try.func30, Try.ntmps30
      go_wp2_with fail
      go_ret
      exact ⟨ret_bool HE.out.symm, rfl⟩
set_option maxRecDepth 100000 in
theorem tail_c (l : List UInt8) (hl : l.length ≤ 4611686018427387904) (w : World) :
    Calls Try.prog 35 #[.string (S l)] w fun e w' => e = .returned (.bool (tailB l)) ∧ w = w' := by
  have hsz : ((S l).size : Int) = (l.length : Int) := by rw [size_S]
  have hsn : (S l).size = l.length := size_S l
  have hll : (l.length : Int) ≤ 4611686018427387904 := by omega
  unfold tailB
  by_cases h2 : l.length ≤ 1
  · have HE := Lib.hid (lead_short (l := l.reverse) (by simpa using h2))
    have hd : ¬ (1 < (l.length : Int)) := by omega
    clear hsn
    generalize S l = L at *
    generalize leadB l.reverse = o at *
    clear hl h2
    go_enter Try.func35, Try.ntmps35
    go_wp2_with fail
    go_ret
    exact ⟨ret_bool HE.out.symm, rfl⟩
  · obtain ⟨c, d, r, hlr⟩ := two_of (l := l.reverse) (by simpa using h2)
    obtain ⟨L, hL⟩ : ∃ L, L = S l := ⟨_, rfl⟩
    have hle : l = r.reverse ++ [d, c] := by
      have := congrArg List.reverse hlr
      rw [List.reverse_reverse] at this
      rw [this]
      simp
    have e0 : l.length = r.length + 2 := by rw [hle]; simp
    have a0 : ∀ h : l.length - 1 < L.size, L[l.length - 1]'h = c := by
      subst hL
      intro h
      show l[l.length - 1]'(by omega) = c
      simp only [hle]
      simp
    have a1 : ∀ h : l.length - 2 < L.size, L[l.length - 2]'h = d := by
      subst hL
      intro h
      show l[l.length - 2]'(by omega) = d
      simp only [hle]
      simp
    rw [← hL] at hsz hsn ⊢
    have hd : decide (0 < (l.length : Int) - 1) = true := decide_eq_true (by omega)
    have j0 : ((l.length : Int) - 1).toNat = l.length - 1 := by omega
    have j1 : ((l.length : Int) - 1 - 1).toNat = l.length - 2 := by omega
    have j2 : (0 : Int) ≤ (l.length : Int) - 1 := by omega
    have j3 : (0 : Int) ≤ (l.length : Int) - 1 - 1 := by omega
    have hb := blank_c (d.toNat : Int) w
    have hb1 : (c.toNat : Int) ≤ 255 := by have := c.toNat_lt; omega
    have hb2 : (d.toNat : Int) ≤ 255 := by have := d.toNat_lt; omega
    by_cases hc : c = 45
    · have HE : Hid (leadB l.reverse = blankI (d.toNat : Int)) := by subst hc; show _ = _; rw [hlr]; rfl
      have hq : ((c.toNat : Int) == 45) = true := by subst hc; rfl
      generalize leadB l.reverse = o at *
      clear hc h2 hL hlr hl hle e0
      go_enter Try.func35, Try.ntmps35
      go_wp2_with (go_at_call 53; refine hb.mono ?_; rintro e w' ⟨rfl, rfl⟩)
      go_ret
      exact ⟨ret_bool HE.out.symm, rfl⟩
    · have HE : Hid (leadB l.reverse = false) := by show _ = _; rw [hlr]; exact lead_no hc
      have hq : ((c.toNat : Int) == 45) = false := oct_ne (n := 45) hc (by decide)
      generalize leadB l.reverse = o at *
      clear hc h2 hL hlr hl hle e0
      go_enter Try.func35, Try.ntmps35
      go_wp2_with fail
      go_ret
      exact ⟨ret_bool HE.out.symm, rfl⟩

/-! ### Remarks -/
theorem cutFrom (l : List UInt8) (n : Nat) : (S l).extract n l.length = S (l.drop n) := by
  rw [Lib.extract_eq, list_S, List.take_of_length_le (by rw [List.length_drop]; omega)]
theorem trim_len (l : List UInt8) : (Lib.trimPrefix l [45]).length ≤ l.length := by
  unfold Lib.trimPrefix
  split
  · rw [List.length_drop]; omega
  · exact Nat.le_refl _
set_option maxRecDepth 100000 in
theorem remark_c (l : List UInt8) (hl : l.length ≤ 1048576) (w : World) :
    Calls Try.prog 32 #[.string (S l)] w fun e w' => e = .returned (.bool (remB l)) ∧ w = w' := by
  have hte := Try.strings_TrimPrefix (S l) (S [45]) w
  rw [list_S, list_S] at hte
  have hbl : (Lib.trimPrefix l [45]).length ≤ 1048576 := Nat.le_trans (trim_len l) hl
  have hah := fun W => ahead_c (Lib.trimPrefix l [45]) (by omega) W
  have HE := Lib.hid (rem_trim l)
  have hsk := skip_le (Lib.trimPrefix l [45])
  replace hte : Calls Try.prog 54 #[.string (S l), .string (S [45])] w fun e w' => e = .returned (.string (S (Lib.trimPrefix l [45]))) ∧ w' = w := hte
  generalize Lib.trimPrefix l [45] = T at *
  have hpf := fun W => Try.strings_HasPrefix (S (T.drop (skipN T))) (S [47, 42]) W
  rw [list_S, list_S, HE.out, ← cutFrom] at hpf
  generalize remB l = o at *
  generalize S l = L at *
  have hsz : ((S T).size : Int) = (T.length : Int) := by rw [size_S]
  have hsn : (S T).size = T.length := size_S T
  generalize S T = TS at *
  generalize skipN T = k at *
  have i0 : (0 : Int) ≤ (k : Int) := by omega
  have i1 : (k : Int) ≤ (T.length : Int) := by omega
  clear HE
  go_enter Try.func32, Try.ntmps32
  go_wp2_with (first
    | (go_at_call 54; refine hte.mono ?_; rintro e w' ⟨rfl, rfl⟩)
    | (go_at_call 38; refine (hah _).mono ?_; rintro e w' ⟨rfl, rfl⟩)
    | (go_at_call 55; refine (hpf _).mono ?_; rintro e w' ⟨rfl, rfl⟩))
  go_ret
  exact ⟨rfl, rfl⟩

/-! ### What is within an action -/
theorem cutMid (l : List UInt8) (f t : Nat) : (S l).extract f t = S ((l.take t).drop f) := by
  rw [Lib.extract_eq, list_S, List.drop_take]
theorem trim_eq (l : List UInt8) : trimL l = backL (frontL l) := rfl
set_option maxHeartbeats 1000000 in
set_option maxRecDepth 100000 in
theorem text_c (l : List UInt8) (hl : l.length ≤ 1048576) (w : World) :
    Calls Try.prog 34 #[.string (S l)] w fun e w' => e = .returned (.string (S (backL (frontL (withinL l))))) ∧ Below w.heap.size w w' := by
  have hsz : ((S l).size : Int) = (l.length : Int) := by rw [size_S]
  have hle := lead_c l (by omega)
  have hta := tail_c l (by omega)
  obtain ⟨f, hf⟩ : ∃ f : Nat, f = if leadB l then 1 else 0 := ⟨_, rfl⟩
  obtain ⟨t, ht⟩ : ∃ t : Nat, t = l.length - (if tailB l then 1 else 0) := ⟨_, rfl⟩
  have hw : withinL l = (l.take t).drop f := by rw [hf, ht]; rfl
  have hl1 := fun h : leadB l = true => lead_long h
  have hl2 := fun h : tailB l = true => tail_long h
  have hft : f ≤ t ∧ t ≤ l.length := by
    rw [hf, ht]
    by_cases h1 : leadB l = true <;> by_cases h2 : tailB l = true <;> simp [h1, h2]
    all_goals first | (have := hl1 h1; omega) | (have := hl2 h2; omega) | skip
  have hte : t + (if tailB l then 1 else 0) = l.length := by
    rw [ht]
    by_cases h2 : tailB l = true
    · have := hl2 h2
      simp [h2]
      omega
    · simp [h2]
  have htr := fun W => trim_c ((S l).extract f t) W (by rw [cutMid, size_S, List.length_drop, List.length_take]; omega)
  rw [show ((S l).extract f t).data.toList = withinL l by rw [cutMid, list_S, hw], trim_eq] at htr
  generalize S (backL (frontL (withinL l))) = A at htr ⊢
  have k1 : (l.length : Int) ≤ 1048576 := by omega
  have hsn : (S l).size = l.length := size_S l
  clear hw hl1 hl2 ht
  generalize S l = L at *
  cases h1 : leadB l <;> cases h2 : tailB l
  all_goals rw [h1] at hle hf
  all_goals rw [h2] at hta hte
  all_goals simp only [Bool.false_eq_true, if_false, if_true, Nat.add_zero] at hf hte
  all_goals have j0 : f ≤ t := hft.1
  all_goals have j1 : t ≤ l.length := hft.2
  all_goals clear hft h1 h2 hl
  all_goals have j3 : (t : Int) ≤ (l.length : Int) := by omega
  all_goals have j4 : (0 : Int) ≤ (t : Int) := by omega
  all_goals subst hf
  all_goals try (have j5 : (1 : Int) ≤ (t : Int) := by omega)
  all_goals first | (have j6 : (l.length : Int) - 1 = (t : Int) := by omega) | (have j6 : (l.length : Int) = (t : Int) := by omega)
  all_goals clear hte
  all_goals go_enter Try.func34, Try.ntmps34
  all_goals go_wp2_with (first
    | (go_at_call 30; refine (hle _).mono ?_; rintro e w' ⟨rfl, rfl⟩)
    | (go_at_call 35; refine (hta _).mono ?_; rintro e w' ⟨rfl, rfl⟩)
    | (go_at_call 57; refine (htr _).mono ?_; rintro e w' ⟨rfl, hb⟩))
  all_goals go_ret
  all_goals exact ⟨rfl, hb⟩
end Go.Proofs.Ytbchjmldjdhjiaa.Lxw
