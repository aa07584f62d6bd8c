/-
  Contract of Feed of package urlscan; alive.
-/
import Derived.Test.YtomclpaedbgdfaaUscLeaf
namespace Go.Proofs.Ytomclpaedbgdfaa.Usc
open Go.RowKit Go.Proofs.Ytomclpaedbgdfaa.Oct Go.Proofs.Ytomclpaedbgdfaa.Utf Go.Proofs.Ytomclpaedbgdfaa.Pct Go.Proofs.Ytomclpaedbgdfaa.Sch

theorem feed_len (l : List UInt8) : ∀ s : St, s.2.length ≤ 16 → (feedU s l).2.length ≤ 16 := by
  induction l with
  | nil => exact fun _ h => h
  | cons c t ih => exact fun s h => ih _ (step_len s c h)
theorem feed_take (s : St) (l : List UInt8) (k : Nat) (h : k < l.length) : feedU s (l.take (k + 1)) = stepU (feedU s (l.take k)) l[k] := by
  rw [List.take_succ_eq_append_getElem h, feed_append]
  rfl

set_option maxHeartbeats 1000000 in
theorem feed_c (p : Int) (m : List UInt8) (hm : m.length ≤ 16) (l : List UInt8) (hl : l.length ≤ 4611686018427387904) (w : World) :
    Calls Try.prog 7 #[.int .i64 p, .string (S m), .string (S l)] w fun e w' => e = .returned (.tuple #[.int .i64 (feedU (p, m) l).1, .string (S (feedU (p, m) l).2)]) ∧ Below w.heap.size w w' := by
  have hsz : ((S l).size : Int) = (l.length : Int) := by rw [size_S]
  have hli : (l.length : Int) ≤ 4611686018427387904 := by omega
  have HOne := Lib.hid (fun k (h : k < l.length) => at_S' l k h)
  have HStep := Lib.hid (fun (x : St) (hx : x.2.length ≤ 16) c w => step_c x.1 x.2 c (by omega) w)
  have hlen := Lib.hid (fun k => feed_len (l.take k) (p, m) hm)
  have hcl := fun w => sclone_c (S (feedU (p, m) l).2) (by rw [size_S]; have := feed_len l (p, m) hm; omega) w
  go_enter Try.func7, Try.ntmps7
  go_wp2_with fail
  go_loopw [0, 1, 11] (fun q x i wr => ∃ k : Nat, k ≤ l.length ∧ q = .int .i64 (feedU (p, m) (l.take k)).1 ∧ x = .string (S (feedU (p, m) (l.take k)).2) ∧ i = .int .i64 k ∧ Hid (Below w.heap.size w wr)) (fun _ _ i _ => l.length - (intOf i).toNat)
  case atStart => exact ⟨0, Nat.zero_le _, rfl, rfl, rfl, Below.refl _ _⟩
  case round =>
    obtain ⟨k, hk, rfl, rfl, rfl, HB⟩ := hrel
    by_cases hlt : k < l.length
    · have h1 := HOne.out k hlt
      have hs := HStep.out (feedU (p, m) (l.take k)) (hlen.out k) l[k] wr
      have ef := Lib.hid (feed_take (p, m) l k hlt)
      generalize l[k] = c at h1 hs ef
      generalize feedU (p, m) (l.take k) = x at hs ef ⊢
      have j0 : (0 : Int) ≤ (k : Int) := by omega
      have j1 : (k : Int) < (l.length : Int) := by omega
      have hcb : (c.toNat : Int) ≤ 255 := by have := c.toNat_lt; omega
      have ex : (x.1, x.2) = x := rfl
      rw [ex] at hs
      generalize stepU x c = y at hs ef
      generalize S x.2 = X at hs ⊢
      generalize x.1 = xp at hs ⊢
      go_wp2_with (go_at_call 10; refine hs.mono ?_; rintro e w2 ⟨rfl, hb2⟩)
      go_roundw
      case rel => exact ⟨k + 1, by omega, by rw [ef.out], by rw [ef.out], by go_num, HB.out.trans (hb2.mono HB.out.size)⟩
      case measure => simp [intOf]; omega
    · have hkl : k = l.length := by omega
      subst hkl
      have e := Lib.hid (List.take_length (l := l))
      clear HOne HStep hlen
      simp only [e.out]
      go_wp2_with (go_at_call 11; refine (hcl _).mono ?_; rintro e w2 ⟨rfl, hb2⟩)
      go_ret2
      exact ⟨rfl, HB.out.trans (hb2.mono HB.out.size)⟩

theorem alive_c (w : World) : Calls Try.prog 6 #[] w fun e w' => e = .returned (.bool true) ∧ Below w.heap.size w w' := by
  have h1 := feed_c 0 [] (by simp) [47, 97, 63, 98] (by decide) w
  have e1 : feedU (0, []) [47, 97, 63, 98] = (3, []) := by decide +kernel
  rw [e1] at h1
  go_enter Try.func6, Try.ntmps6
  go_wp2_with fail
  refine h1.mono ?_
  rintro e w1 ⟨rfl, hb1⟩
  go_wp2_with fail
  go_ret
  exact ⟨rfl, hb1⟩

set_option maxHeartbeats 1000000 in
theorem law_query (W : World) (a s : ByteArray) (ha : a.size ≤ 140737488351232) (hs : s.size ≤ 140737488351232) :
    Calls Try.prog 5 #[.string a, .string s] W fun e W' => e = .returned (.bool true) ∧ Below W.heap.size W W' := by
  obtain ⟨l, rfl⟩ : ∃ l, a = S l := ⟨a.data.toList, (S_list a).symm⟩
  obtain ⟨m, rfl⟩ : ∃ m, s = S m := ⟨s.data.toList, (S_list s).symm⟩
  have hl : l.length ≤ 140737488351232 := by rw [← size_S]; exact ha
  have hm : m.length ≤ 140737488351232 := by rw [← size_S]; exact hs
  have hal := alive_c W
  have hf := fun w => feed_c 0 [] (by simp) (47 :: (l ++ 63 :: m)) (by rw [List.length_cons, List.length_append, List.length_cons]; omega) w
  rw [usc_query] at hf
  have a1 : S [47] ++ S l = S (47 :: l) := S_append [47] l
  have a2 : S (47 :: l) ++ S [63] = S (47 :: l ++ [63]) := S_append (47 :: l) [63]
  have a3 : S (47 :: l ++ [63]) ++ S m = S (47 :: (l ++ 63 :: m)) := by rw [S_append, List.append_assoc]; rfl
  have z1 : (S (47 :: l)).size ≤ 140737488351233 := by rw [size_S, List.length_cons]; omega
  have z2 : (S (47 :: l ++ [63])).size ≤ 140737488351234 := by rw [size_S, List.length_append, List.length_singleton, List.length_cons]; omega
  have z3 : (S [47]).size ≤ 1 := by decide
  have z4 : (S [63]).size ≤ 1 := by decide
  generalize S (feedU (0, []) (47 :: (l ++ 63 :: m))).2 = Z at hf
  generalize S (47 :: (l ++ 63 :: m)) = X at hf a3
  generalize S (47 :: l ++ [63]) = Y at a2 a3 z2
  generalize S (47 :: l) = V at a1 a2 z1
  have q1 : S [47] = ⟨#[47]⟩ := rfl
  have q2 : S [63] = ⟨#[63]⟩ := rfl
  have q3 : S [] = ⟨#[]⟩ := rfl
  rw [q1] at a1 z3
  rw [q2] at a2 z4
  rw [q3] at hf
  generalize S l = L at *
  generalize S m = M at *
  clear q1 q2 q3
  go_enter Try.func5, Try.ntmps5
  go_wp2_with fail
  refine hal.mono ?_
  rintro e w1 ⟨rfl, hb1⟩
  have B1 := Lib.hid hb1
  clear hb1 hal
  go_wp2_with fail
  refine (hf _).mono ?_
  rintro e w2 ⟨rfl, hb2⟩
  go_wp2_with fail
  go_ret
  exact ⟨rfl, B1.out.trans (hb2.mono B1.out.size)⟩

set_option maxHeartbeats 1000000 in
theorem law_parts (W : World) (a s : ByteArray) (ha : a.size ≤ 140737488351232) (hs : s.size ≤ 140737488351232) :
    Calls Try.prog 4 #[.string a, .string s] W fun e W' => e = .returned (.bool true) ∧ Below W.heap.size W W' := by
  obtain ⟨l, rfl⟩ : ∃ l, a = S l := ⟨a.data.toList, (S_list a).symm⟩
  obtain ⟨m, rfl⟩ : ∃ m, s = S m := ⟨s.data.toList, (S_list s).symm⟩
  have hl : l.length ≤ 140737488351232 := by rw [← size_S]; exact ha
  have hm : m.length ≤ 140737488351232 := by rw [← size_S]; exact hs
  have hal := alive_c W
  have h1 := fun w => feed_c 0 [] (by simp) l (by omega) w
  have h2 := fun w => feed_c (feedU (0, []) l).1 (feedU (0, []) l).2 (feed_len l (0, []) (by simp)) m (by omega) w
  have h3 := fun w => feed_c 0 [] (by simp) (l ++ m) (by rw [List.length_append]; omega) w
  rw [feed_append] at h3
  have ex : ∀ x : St, (x.1, x.2) = x := fun _ => rfl
  rw [ex] at h2
  have a1 : S l ++ S m = S (l ++ m) := S_append l m
  have q3 : S [] = ⟨#[]⟩ := rfl
  rw [q3] at h1 h3
  generalize feedU (feedU (0, []) l) m = y at h2 h3
  generalize S (feedU (0, []) l).2 = X1 at h1 h2
  generalize (feedU (0, []) l).1 = p1 at h1 h2
  have qe : ((S y.2).toList == (S y.2).toList) = true := by simp
  have qp : (y.1 == y.1) = true := by simp
  generalize S y.2 = X2 at h2 h3 qe
  generalize y.1 = p2 at h2 h3 qp
  generalize S (l ++ m) = LM at a1 h3
  clear q3 ex
  generalize S l = L at *
  generalize S m = M at *
  go_enter Try.func4, Try.ntmps4
  go_wp2_with fail
  refine hal.mono ?_
  rintro e w1 ⟨rfl, hb1⟩
  have B1 := Lib.hid hb1
  clear hb1 hal
  go_wp2_with fail
  refine (h1 _).mono ?_
  rintro e w2 ⟨rfl, hb2⟩
  have B2 := Lib.hid (B1.out.trans (hb2.mono B1.out.size))
  clear hb2 h1
  go_wp2_with fail
  refine (h2 _).mono ?_
  rintro e w3 ⟨rfl, hb3⟩
  have B3 := Lib.hid (B2.out.trans (hb3.mono B2.out.size))
  clear hb3 h2
  go_wp2_with fail
  refine (h3 _).mono ?_
  rintro e w4 ⟨rfl, hb4⟩
  have B4 := Lib.hid (B3.out.trans (hb4.mono B3.out.size))
  clear hb4 h3
  go_wp2_with fail
  go_ret
  exact ⟨rfl, B4.out⟩

set_option maxHeartbeats 1000000 in
theorem law_schemes (W : World) (a : ByteArray) (ha : a.size ≤ 140737488351232) :
    Calls Try.prog 3 #[.string a] W fun e W' => e = .returned (.bool true) ∧ Below W.heap.size W W' := by
  obtain ⟨l, rfl⟩ : ∃ l, a = S l := ⟨a.data.toList, (S_list a).symm⟩
  have hl : l.length ≤ 140737488351232 := by rw [← size_S]; exact ha
  have hal := alive_c W
  have h1 := fun w => feed_c 0 [] (by simp) l (by omega) w
  have h2 := fun w => rScheme_c l hl w
  have h3 := fun w => rAllowed_c (schemeL l).1 w
  have E := Lib.hid (usc_schemes l)
  have q3 : S [] = ⟨#[]⟩ := rfl
  rw [q3] at h1
  have hz : ((S (schemeL l).1).size : Int) = ((schemeL l).1.length : Int) := by rw [size_S]
  generalize S (feedU (0, []) l).2 = X1 at h1
  generalize (feedU (0, []) l).1 = p at h1 E
  generalize (schemeL l).2 = is at h2 E
  generalize (schemeL l).1 = t at h2 h3 E hz
  generalize allowL t = al at h3 E
  generalize S t = T at h2 h3 hz
  generalize S l = L at *
  clear q3
  by_cases hlt : t.length ≤ 16
  · have E2 := E.out hlt
    have hi : ¬ ((16 : Int) < (t.length : Int)) := by omega
    have hp : (p == 5) = (is && !al) := by rw [← E2]; rfl
    clear E E2 hlt
    cases is with
    | false =>
      have hp : (p == 5) = false := by rw [hp]; rfl
      clear h3
      go_enter Try.func3, Try.ntmps3
      go_wp2_with fail
      refine hal.mono ?_
      rintro e w1 ⟨rfl, hb1⟩
      have B1 := Lib.hid (hb1)
      clear hb1 hal
      go_wp2_with fail
      refine (h1 _).mono ?_
      rintro e w2 ⟨rfl, hb2⟩
      have B2 := Lib.hid (B1.out.trans (hb2.mono B1.out.size))
      clear hb2 h1
      go_wp2_with fail
      refine (h2 _).mono ?_
      rintro e w3 ⟨rfl, hb3⟩
      have B3 := Lib.hid (B2.out.trans (hb3.mono B2.out.size))
      clear hb3 h2
      go_wp2_with fail
      go_ret
      exact ⟨rfl, B3.out⟩
    | true =>
      have HP := Lib.hid hp
      clear hp
      go_enter Try.func3, Try.ntmps3
      go_wp2_with fail
      refine hal.mono ?_
      rintro e w1 ⟨rfl, hb1⟩
      have B1 := Lib.hid (hb1)
      clear hb1 hal
      go_wp2_with fail
      refine (h1 _).mono ?_
      rintro e w2 ⟨rfl, hb2⟩
      have B2 := Lib.hid (B1.out.trans (hb2.mono B1.out.size))
      clear hb2 h1
      go_wp2_with fail
      refine (h2 _).mono ?_
      rintro e w3 ⟨rfl, hb3⟩
      have B3 := Lib.hid (B2.out.trans (hb3.mono B2.out.size))
      clear hb3 h2
      go_wp2_with fail
      refine (h3 _).mono ?_
      rintro e w4 ⟨rfl, rfl⟩
      go_wp2_with fail
      go_ret
      refine ⟨ret_bool ?_, B3.out⟩
      rw [HP.out]
      cases al <;> rfl
  · have hi : ((16 : Int) < (t.length : Int)) := by omega
    clear E hlt
    go_enter Try.func3, Try.ntmps3
    go_wp2_with fail
    refine hal.mono ?_
    rintro e w1 ⟨rfl, hb1⟩
    have B1 := Lib.hid hb1
    clear hb1 hal
    go_wp2_with fail
    refine (h1 _).mono ?_
    rintro e w2 ⟨rfl, hb2⟩
    have B2 := Lib.hid (B1.out.trans (hb2.mono B1.out.size))
    clear hb2 h1
    go_wp2_with fail
    refine (h2 _).mono ?_
    rintro e w3 ⟨rfl, hb3⟩
    have B3 := Lib.hid (B2.out.trans (hb3.mono B2.out.size))
    clear hb3 h2
    go_wp2_with fail
    go_ret
    exact ⟨rfl, B3.out⟩
end Go.Proofs.Ytomclpaedbgdfaa.Usc
