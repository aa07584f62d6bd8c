/-
  The laws SchemesTells, SchemesFilters and SchemesHidden, out of the contracts of the calls that they make.
-/
import Derived.Test.YtjchebnjbfhooaaDoorSchCode
import Derived.Test.YtjchebnjbfhooaaDoorUtfSame
namespace Go.Proofs.YtjchebnjbfhooaaDoor.Sch
open Go.RowKit Go.Proofs.YtjchebnjbfhooaaDoor.Oct Go.Proofs.YtjchebnjbfhooaaDoor.Utf Go.Proofs.YtjchebnjbfhooaaDoor.Pct

abbrev jsL : List UInt8 := [106, 97, 118, 97, 115, 99, 114, 105, 112, 116, 58, 120]

theorem alive_c (w : World) (hT : Tabs w) : Calls Tryd.prog 13 #[] w fun e w' => e = .returned (.bool true) ∧ Below w.heap.size w w' := by
  have h1 := filter_c (S jsL) (by decide) w hT
  have e1 : filtL (S jsL).data.toList = markL := by decide +kernel
  rw [e1] at h1
  have h2 := fun w => allowed_c httpsL w
  have e2 : allowL httpsL = true := by decide
  rw [e2] at h2
  clear e1 e2 hT
  go_enter Tryd.func13, Tryd.ntmps13
  go_wp2_with fail
  refine h1.mono ?_
  rintro e w1 ⟨rfl, hb1⟩
  go_wp2_with (first | (go_at_call 8; refine (h2 _).mono ?_; rintro e w2 ⟨rfl, rfl⟩))
  go_ret
  exact ⟨rfl, hb1⟩

set_option maxHeartbeats 4000000 in
set_option maxRecDepth 100000 in
theorem law_tells (W : World) (s t : ByteArray) (hs : s.size ≤ 134217728) (hT : Tabs W) :
    Calls Tryd.prog 3 #[.string s, .string t] W fun e W' => e = .returned (.bool true) ∧ Below W.heap.size W W' := by
  have c1 := fun w => scheme_c s.data.toList (by rw [size_list]; omega) w
  have c2 := fun w => rScheme_c s.data.toList (by rw [size_list]; omega) w
  rw [S_list] at c1 c2
  have c3 := fun w => allowed_c t.data.toList w
  have c4 := fun w => rAllowed_c t.data.toList w
  rw [S_list] at c3 c4
  have C5 := Lib.hid (fun w (h : Below W.heap.size W w) => filter_c s (by omega) w (hT.kept h))
  have c6 := fun w => rFilter_c s hs w
  have c7 := marker_c
  have HT := Lib.hid (fun w (h : Below W.heap.size W w) => alive_c w (hT.kept h))
  have q1 : ((S (schemeL s.data.toList).1).toList == (S (schemeL s.data.toList).1).toList) = true := by simp
  have q2 : ((S (filtL s.data.toList)).toList == (S (filtL s.data.toList)).toList) = true := by simp
  generalize S (schemeL s.data.toList).1 = A1 at c1 c2 q1
  generalize (schemeL s.data.toList).2 = A2 at c1 c2
  generalize S (filtL s.data.toList) = F at C5 c6 q2
  generalize allowL t.data.toList = al at c3 c4
  clear hT hs
  go_enter Tryd.func3, Tryd.ntmps3
  go_wp2_with fail
  refine (c1 _).mono ?_
  rintro e w1 ⟨rfl, hb1⟩
  have B1 := Lib.hid hb1
  clear hb1 c1
  go_wp2_with fail
  refine (c2 _).mono ?_
  rintro e w2 ⟨rfl, hb2⟩
  have B2 := Lib.hid (B1.out.trans (hb2.mono B1.out.size))
  clear hb2 c2
  have c5 := C5.out _ B2.out
  go_wp2_with (first
    | (go_at_call 8; refine (c3 _).mono ?_; rintro e w3 ⟨rfl, rfl⟩)
    | (go_at_call 9; refine (c4 _).mono ?_; rintro e w4 ⟨rfl, rfl⟩))
  refine c5.mono ?_
  rintro e w5 ⟨rfl, hb5⟩
  have B5 := Lib.hid (B2.out.trans (hb5.mono B2.out.size))
  clear hb5 c5
  go_wp2_with fail
  refine (c6 _).mono ?_
  rintro e w6 ⟨rfl, hb6⟩
  have B6 := Lib.hid (B5.out.trans (hb6.mono B5.out.size))
  clear hb6 c6
  go_wp2_with fail
  refine (c7 _).mono ?_
  rintro e w7 ⟨rfl, hb7⟩
  have B7 := Lib.hid (B6.out.trans (hb7.mono B6.out.size))
  clear hb7 c7
  have c8 := HT.out _ B7.out
  go_wp2_with fail
  refine c8.mono ?_
  rintro e w8 ⟨rfl, hb8⟩
  go_wp2_with fail
  go_ret
  exact ⟨rfl, B7.out.trans (hb8.mono B7.out.size)⟩

set_option maxHeartbeats 4000000 in
set_option maxRecDepth 100000 in
theorem law_filters (W : World) (s : ByteArray) (hs : s.size ≤ 134217728) (hT : Tabs W) :
    Calls Tryd.prog 4 #[.string s] W fun e W' => e = .returned (.bool true) ∧ Below W.heap.size W W' := by
  have c1 := filter_c s (by omega) W hT
  have hrl := rep_len s
  have hfl := filt_len s.data.toList 536870912 (by omega) (by omega)
  have c2 := fun w => scheme_c (filtL s.data.toList) (by omega) w
  have c3 := fun w => allowed_c (schemeL (filtL s.data.toList)).1 w
  have C4 := Lib.hid (fun w (h : Below W.heap.size W w) => filter_c (S (filtL s.data.toList)) (by rw [size_S]; omega) w (hT.kept h))
  rw [list_S, filt_again] at C4
  have HT := Lib.hid (fun w (h : Below W.heap.size W w) => alive_c w (hT.kept h))
  have hsc := filt_scheme s.data.toList
  have q1 : ((S (filtL s.data.toList)).toList == (S (filtL s.data.toList)).toList) = true := by simp
  generalize (schemeL (filtL s.data.toList)).2 = is at c2 hsc
  generalize allowL (schemeL (filtL s.data.toList)).1 = al at c3 hsc
  generalize S (schemeL (filtL s.data.toList)).1 = A1 at c2 c3
  generalize S (filtL s.data.toList) = F at c1 c2 C4 q1
  clear hT hs hrl hfl
  cases is with
  | false =>
    clear hsc c3
    go_enter Tryd.func4, Tryd.ntmps4
    go_wp2_with fail
    refine c1.mono ?_
    rintro e w1 ⟨rfl, hb1⟩
    have B1 := Lib.hid hb1
    clear hb1 c1
    go_wp2_with fail
    refine (c2 _).mono ?_
    rintro e w2 ⟨rfl, hb2⟩
    have B2 := Lib.hid (B1.out.trans (hb2.mono B1.out.size))
    clear hb2 c2
    have c4 := C4.out _ B2.out
    go_wp2_with fail
    refine c4.mono ?_
    rintro e w3 ⟨rfl, hb3⟩
    have B3 := Lib.hid (B2.out.trans (hb3.mono B2.out.size))
    clear hb3 c4
    have c8 := HT.out _ B3.out
    go_wp2_with fail
    refine c8.mono ?_
    rintro e w8 ⟨rfl, hb8⟩
    go_wp2_with fail
    go_ret
    exact ⟨rfl, B3.out.trans (hb8.mono B3.out.size)⟩
  | true =>
    have hal : al = true := by
      rcases hsc with h | h
      · cases h
      · exact h
    subst hal
    clear hsc
    go_enter Tryd.func4, Tryd.ntmps4
    go_wp2_with fail
    refine c1.mono ?_
    rintro e w1 ⟨rfl, hb1⟩
    have B1 := Lib.hid hb1
    clear hb1 c1
    go_wp2_with fail
    refine (c2 _).mono ?_
    rintro e w2 ⟨rfl, hb2⟩
    have B2 := Lib.hid (B1.out.trans (hb2.mono B1.out.size))
    clear hb2 c2
    have c4 := C4.out _ B2.out
    go_wp2_with (first
      | (go_at_call 8; refine (c3 _).mono ?_; rintro e w3 ⟨rfl, rfl⟩))
    refine c4.mono ?_
    rintro e w3 ⟨rfl, hb3⟩
    have B3 := Lib.hid (B2.out.trans (hb3.mono B2.out.size))
    clear hb3 c4
    have c8 := HT.out _ B3.out
    go_wp2_with fail
    refine c8.mono ?_
    rintro e w8 ⟨rfl, hb8⟩
    go_wp2_with fail
    go_ret
    exact ⟨rfl, B3.out.trans (hb8.mono B3.out.size)⟩

set_option maxHeartbeats 4000000 in
set_option maxRecDepth 100000 in
theorem law_hidden (W : World) (a b : ByteArray) (ha : a.size ≤ 140737488351232) (hb : b.size ≤ 140737488351232) (hT : Tabs W) :
    Calls Tryd.prog 5 #[.string a, .string b] W fun e W' => e = .returned (.bool true) ∧ Below W.heap.size W W' := by
  obtain ⟨l, rfl⟩ : ∃ l, a = S l := ⟨a.data.toList, (S_list a).symm⟩
  obtain ⟨m, rfl⟩ : ∃ m, b = S m := ⟨b.data.toList, (S_list b).symm⟩
  have hl : l.length ≤ 140737488351232 := by rw [← size_S]; exact ha
  have hm : m.length ≤ 140737488351232 := by rw [← size_S]; exact hb
  have hal := alive_c W hT
  have hsz : ((S l).size : Int) = (l.length : Int) := by rw [size_S]
  have hsn : (S l).size ≤ 140737488351232 := ha
  have hmn : (S m).size ≤ 140737488351232 := hb
  have hli : (l.length : Int) ≤ 140737488351232 := by omega
  have HOne := Lib.hid (fun k (h : k < l.length) => at_S' l k h)
  have a1 : ∀ c : UInt8, S l ++ S [c] = S (l ++ [c]) := fun c => S_append l [c]
  have a2 : ∀ c : UInt8, S (l ++ [c]) ++ S m = S (l ++ c :: m) := fun c => by rw [S_append, List.append_assoc]; rfl
  have hxn : ∀ c : UInt8, (S (l ++ [c])).size ≤ 140737488351233 := fun c => by rw [size_S, List.length_append, List.length_singleton]; omega
  have HC1 : Hid ((∀ c ∈ l, isM c = false) → ∀ w, Calls Tryd.prog 6 #[.string (S (l ++ 58 :: m))] w fun e w' => e = .returned (.tuple #[.string (S (l.map low)), .bool true]) ∧ Below w.heap.size w w') := fun h w => by
    have h1 := scheme_g (l ++ 58 :: m) (by rw [List.length_append, List.length_cons]; omega) (fun k hk => by
      rw [sch_at l m h] at hk
      injection hk with hk
      omega) w
    rw [scheme_at l m h] at h1
    exact h1
  have HC2 : Hid (∀ c, (c = 47 ∨ c = 63 ∨ c = 35) → (∀ c ∈ l, isM c = false) → ∀ w, Calls Tryd.prog 6 #[.string (S (l ++ c :: m))] w fun e w' => e = .returned (.tuple #[.string (S []), .bool false]) ∧ Below w.heap.size w w') := fun c hc h w => by
    have e := hidden l m c h hc
    have hs : schL (l ++ c :: m) = none := by
      unfold schemeL at e
      cases hq : schL (l ++ c :: m) with
      | none => rfl
      | some k => rw [hq] at e; exact absurd (congrArg Prod.snd e) (by simp)
    have h1 := scheme_g (l ++ c :: m) (by rw [List.length_append, List.length_cons]; omega) (fun k hk => by
      rw [hs] at hk
      cases hk) w
    rw [e] at h1
    exact h1
  have hzl : ((S (l.map low)).size : Int) = (l.length : Int) := by rw [size_S, List.length_map]
  clear ha hb hT hm
  go_enter Tryd.func5, Tryd.ntmps5
  go_wp2_with fail
  refine hal.mono ?_
  rintro e w1 ⟨rfl, hb1⟩
  have B1 := Lib.hid hb1
  clear hb1 hal
  go_wp2_with fail
  go_loopw [5] (fun i wr => ∃ k : Nat, k ≤ l.length ∧ i = .int .i64 k ∧ Hid (∀ c ∈ l.take k, isM c = false) ∧ wr = w1) (fun i _ => l.length - (intOf i).toNat)
  case atStart => exact ⟨0, Nat.zero_le _, rfl, (fun c hc => by cases hc), rfl⟩
  case round =>
    obtain ⟨k, hk, rfl, hno, rfl⟩ := hrel
    by_cases hlt : k < l.length
    · have h1 := HOne.out k hlt
      have HT : Hid (l.take (k + 1) = l.take k ++ [l[k]]) := List.take_succ_eq_append_getElem hlt
      have j0 : (0 : Int) ≤ (k : Int) := by omega
      have j1 : (k : Int) < (l.length : Int) := by omega
      generalize l[k] = c at h1 HT
      have hcb : (c.toNat : Int) ≤ 255 := by have := c.toNat_lt; omega
      clear a1 a2 hxn HC1 HC2
      by_cases h58 : c = 58
      · have hb : ((c.toNat : Int) == 58) = true := by rw [h58]; rfl
        clear h58 HT
        go_wp2_with fail
        go_ret
        exact ⟨rfl, B1.out⟩
      have hb58 : ((c.toNat : Int) == 58) = false := oct_ne (n := 58) h58 (by decide)
      by_cases h47 : c = 47
      · have hb : ((c.toNat : Int) == 47) = true := by rw [h47]; rfl
        clear h47 h58 HT
        go_wp2_with fail
        go_ret
        exact ⟨rfl, B1.out⟩
      have hb47 : ((c.toNat : Int) == 47) = false := oct_ne (n := 47) h47 (by decide)
      by_cases h63 : c = 63
      · have hb : ((c.toNat : Int) == 63) = true := by rw [h63]; rfl
        clear h63 h47 h58 HT
        go_wp2_with fail
        go_ret
        exact ⟨rfl, B1.out⟩
      have hb63 : ((c.toNat : Int) == 63) = false := oct_ne (n := 63) h63 (by decide)
      by_cases h35 : c = 35
      · have hb : ((c.toNat : Int) == 35) = true := by rw [h35]; rfl
        clear h35 h63 h47 h58 HT
        go_wp2_with fail
        go_ret
        exact ⟨rfl, B1.out⟩
      have hb35 : ((c.toNat : Int) == 35) = false := oct_ne (n := 35) h35 (by decide)
      have HN : Hid (∀ d ∈ l.take (k + 1), isM d = false) := by
        show ∀ d ∈ l.take (k + 1), isM d = false
        rw [HT.out]
        intro d hd
        rcases List.mem_append.1 hd with hd | hd
        · exact hno.out d hd
        · rw [List.mem_singleton] at hd
          subst hd
          refine decide_eq_false ?_
          rintro (h | h | h | h)
          · exact h58 h
          · exact h47 h
          · exact h63 h
          · exact h35 h
      clear h58 h47 h63 h35 HT
      go_wp2_with fail
      go_roundw
      case rel => exact ⟨k + 1, by omega, by go_num, HN, trivial⟩
      case measure => simp [intOf]; omega
    · have hkl : k = l.length := by omega
      subst hkl
      have h := hno.out
      rw [List.take_length] at h
      have c1 := HC1.out h
      have c2 := HC2.out 47 (.inl rfl) h
      have c3 := HC2.out 63 (.inr (.inl rfl)) h
      have e1 : S l ++ ⟨#[58]⟩ = S (l ++ [58]) := a1 58
      have e2 : S l ++ ⟨#[47]⟩ = S (l ++ [47]) := a1 47
      have e3 : S l ++ ⟨#[63]⟩ = S (l ++ [63]) := a1 63
      have f1 := a2 58
      have f2 := a2 47
      have f3 := a2 63
      have n1 := hxn 58
      have n2 := hxn 47
      have n3 := hxn 63
      clear a1 a2 hxn HC1 HC2 h hno HOne hk hlt
      generalize S (l ++ 58 :: m) = Y1 at c1 f1
      generalize S (l ++ 47 :: m) = Y2 at c2 f2
      generalize S (l ++ 63 :: m) = Y3 at c3 f3
      generalize S (l ++ [58]) = X1 at e1 f1 n1
      generalize S (l ++ [47]) = X2 at e2 f2 n2
      generalize S (l ++ [63]) = X3 at e3 f3 n3
      generalize S (l.map low) = LO at c1 hzl
      generalize S l = L at *
      generalize S m = M at *
      go_wp2_with fail
      refine (c1 _).mono ?_
      rintro e w2 ⟨rfl, hb2⟩
      have B2 := Lib.hid (B1.out.trans (hb2.mono B1.out.size))
      clear hb2 c1
      go_wp2_with fail
      refine (c2 _).mono ?_
      rintro e w3 ⟨rfl, hb3⟩
      have B3 := Lib.hid (B2.out.trans (hb3.mono B2.out.size))
      clear hb3 c2
      go_wp2_with fail
      refine (c3 _).mono ?_
      rintro e w4 ⟨rfl, hb4⟩
      have B4 := Lib.hid (B3.out.trans (hb4.mono B3.out.size))
      clear hb4 c3
      go_wp2_with fail
      go_ret
      exact ⟨rfl, B4.out⟩
end Go.Proofs.YtjchebnjbfhooaaDoor.Sch
