/-
  The three statements of layer 16 (cssscan), as contracts of their functions.
-/
import Derived.Test.YtlekaibiofkleaaCscFeed
import Derived.Test.YtlekaibiofkleaaCstPage
namespace Go.Proofs.Ytlekaibiofkleaa.Csc
open Go.RowKit Go.Proofs.Ytlekaibiofkleaa.Oct Go.Proofs.Ytlekaibiofkleaa.Css

set_option maxHeartbeats 1000000 in
theorem law_parts (W : World) (a s : ByteArray) (ha : a.size ≤ 140737488351232) (hs : s.size ≤ 140737488351232) :
    Calls Try.prog 4 #[.string a, .string s] W fun e W' => e = .returned (.bool true) ∧ Below W.heap.size W W' := by
  obtain ⟨l, rfl⟩ : ∃ l, a = S l := ⟨a.data.toList, (S_list a).symm⟩
  obtain ⟨m, rfl⟩ : ∃ m, s = S m := ⟨s.data.toList, (S_list s).symm⟩
  have hl : l.length ≤ 140737488351232 := by rw [← size_S]; exact ha
  have hm : m.length ≤ 140737488351232 := by rw [← size_S]; exact hs
  have hal := alive_c W
  have h1 := fun w => feed_c 0 [] (by simp) l (by omega) w
  have h2 := fun w => feed_c (feedC (0, []) l).1 (feedC (0, []) l).2 (by have := feed_len l 16 (by decide) (0, []) (by simp); omega) m (by omega) w
  have h3 := fun w => feed_c 0 [] (by simp) (l ++ m) (by rw [List.length_append]; omega) w
  rw [feed_append] at h3
  have E : Hid ((feedC (0, []) l).1 = 9 → (feedC (feedC (0, []) l) m).1 = 9) := by
    intro h
    generalize feedC (0, []) l = x at h ⊢
    obtain ⟨p, u⟩ := x
    have h : p = 9 := h
    subst h
    exact stay_lost u m
  have ex : ∀ x : St, (x.1, x.2) = x := fun _ => rfl
  rw [ex] at h2
  have a1 : S l ++ S m = S (l ++ m) := S_append l m
  have q3 : S [] = ⟨#[]⟩ := rfl
  rw [q3] at h1 h3
  generalize feedC (feedC (0, []) l) m = y at h2 h3 E
  generalize S (feedC (0, []) l).2 = X1 at h1 h2
  generalize (feedC (0, []) l).1 = p1 at h1 h2 E
  have qe : ((S y.2).toList == (S y.2).toList) = true := by simp
  have qp : (y.1 == y.1) = true := by simp
  generalize S y.2 = X2 at h2 h3 qe
  generalize y.1 = p2 at h2 h3 qp E
  generalize S (l ++ m) = LM at a1 h3
  clear q3 ex
  generalize S l = L at *
  generalize S m = M at *
  by_cases h9 : p1 = 9
  · have e2 := E.out h9
    subst h9 e2
    clear E qp
    go_enter Try.func4, Try.ntmps4
    go_wp2_with fail
    refine hal.mono ?_
    rintro e w1 ⟨rfl, hb1⟩
    have B1 := Lib.hid hb1
    clear hb1 hal
    go_wp2_with fail
    refine (h1 _).mono ?_
    rintro e w2 ⟨rfl, hb2⟩
    have B2 := Lib.hid (B1.out.trans (hb2.mono B1.out.size))
    clear hb2 h1
    go_wp2_with fail
    refine (h2 _).mono ?_
    rintro e w3 ⟨rfl, hb3⟩
    have B3 := Lib.hid (B2.out.trans (hb3.mono B2.out.size))
    clear hb3 h2
    go_wp2_with fail
    refine (h3 _).mono ?_
    rintro e w4 ⟨rfl, hb4⟩
    have B4 := Lib.hid (B3.out.trans (hb4.mono B3.out.size))
    clear hb4 h3
    go_wp2_with fail
    go_ret
    exact ⟨rfl, B4.out⟩
  · have hb9 : (p1 != 9) = true := by simp [h9]
    clear E h9
    go_enter Try.func4, Try.ntmps4
    go_wp2_with fail
    refine hal.mono ?_
    rintro e w1 ⟨rfl, hb1⟩
    have B1 := Lib.hid hb1
    clear hb1 hal
    go_wp2_with fail
    refine (h1 _).mono ?_
    rintro e w2 ⟨rfl, hb2⟩
    have B2 := Lib.hid (B1.out.trans (hb2.mono B1.out.size))
    clear hb2 h1
    go_wp2_with fail
    refine (h2 _).mono ?_
    rintro e w3 ⟨rfl, hb3⟩
    have B3 := Lib.hid (B2.out.trans (hb3.mono B2.out.size))
    clear hb3 h2
    go_wp2_with fail
    refine (h3 _).mono ?_
    rintro e w4 ⟨rfl, hb4⟩
    have B4 := Lib.hid (B3.out.trans (hb4.mono B3.out.size))
    clear hb4 h3
    go_wp2_with fail
    go_ret
    exact ⟨rfl, B4.out⟩

set_option maxHeartbeats 1000000 in
theorem law_filters (W : World) (s a : ByteArray) (hs : s.size ≤ 140737488351232) (ha : a.size ≤ 140737488351232) :
    Calls Try.prog 3 #[.string s, .string a] W fun e W' => e = .returned (.bool true) ∧ Below W.heap.size W W' := by
  obtain ⟨l, rfl⟩ : ∃ l, s = S l := ⟨s.data.toList, (S_list s).symm⟩
  obtain ⟨m, rfl⟩ : ∃ m, a = S m := ⟨a.data.toList, (S_list a).symm⟩
  have hl : l.length ≤ 140737488351232 := by rw [← size_S]; exact hs
  have hm : m.length ≤ 140737488351232 := by rw [← size_S]; exact ha
  have hfl : (filtC l).length ≤ 140737488351232 := by
    unfold filtC
    split
    · exact hl
    · decide
  have hal := fun w => alive_c w
  have hst := fun w => rstyle_c l hl w
  have h1 := fun w => feed_c 0 m hm (filtC l) (by omega) w
  have h2 := fun w => feed_c 0 [63] (by decide) (filtC l) (by omega) w
  rw [csc_filters] at h1 h2
  have q3 : S [63] = ⟨#[63]⟩ := rfl
  rw [q3] at h2
  generalize S (feedC (0, m) (filtC l)).2 = X1 at h1
  generalize S (feedC (0, [63]) (filtC l)).2 = X2 at h2
  generalize S (filtC l) = F at *
  clear q3 hfl hl hm hs ha
  generalize S l = L at *
  generalize S m = M at *
  go_enter Try.func3, Try.ntmps3
  go_wp2_with fail
  refine (hst _).mono ?_
  rintro e w1 ⟨rfl, hb1⟩
  have B1 := Lib.hid hb1
  clear hb1
  go_wp2_with fail
  refine (h1 _).mono ?_
  rintro e w2 ⟨rfl, hb2⟩
  have B2 := Lib.hid (B1.out.trans (hb2.mono B1.out.size))
  clear hb2 h1
  go_wp2_with fail
  refine (hst _).mono ?_
  rintro e w3 ⟨rfl, hb3⟩
  have B3 := Lib.hid (B2.out.trans (hb3.mono B2.out.size))
  clear hb3 hst
  go_wp2_with fail
  refine (h2 _).mono ?_
  rintro e w4 ⟨rfl, hb4⟩
  have B4 := Lib.hid (B3.out.trans (hb4.mono B3.out.size))
  clear hb4 h2
  go_wp2_with fail
  refine (hal _).mono ?_
  rintro e w5 ⟨rfl, hb5⟩
  have B5 := Lib.hid (B4.out.trans (hb5.mono B4.out.size))
  clear hb5 hal
  go_wp2_with fail
  go_ret
  exact ⟨rfl, B5.out⟩

set_option maxHeartbeats 1000000 in
theorem law_urls (W : World) (s : ByteArray) (hs : s.size ≤ 140737488351232) :
    Calls Try.prog 5 #[.string s] W fun e W' => e = .returned (.bool true) ∧ Below W.heap.size W W' := by
  obtain ⟨l, rfl⟩ : ∃ l, s = S l := ⟨s.data.toList, (S_list s).symm⟩
  have hl : l.length ≤ 140737488351232 := by rw [← size_S]; exact hs
  have hal := alive_c W
  have hsz : ((S l).size : Int) = (l.length : Int) := by rw [size_S]
  have hli : (l.length : Int) ≤ 140737488351232 := by omega
  have HOne := Lib.hid (fun k (h : k < l.length) => at_S' l k h)
  have h1 := fun w => feed_c 0 [] (by simp) ([97, 58, 32, 117, 82, 108, 40] ++ l) (by simp; omega) w
  have h2 := fun w => feed_c 0 [] (by simp) ([97, 58, 32, 85, 82, 76, 40] ++ l ++ [41]) (by simp; omega) w
  have E1 := Lib.hid (csc_open l)
  have E2 := Lib.hid (csc_shut l)
  generalize (feedC (0, []) ([97, 58, 32, 117, 82, 108, 40] ++ l)).1 = p1 at h1 E1
  generalize S (feedC (0, []) ([97, 58, 32, 117, 82, 108, 40] ++ l)).2 = X1 at h1
  generalize (feedC (0, []) ([97, 58, 32, 85, 82, 76, 40] ++ l ++ [41])).1 = p2 at h2 E2
  generalize S (feedC (0, []) ([97, 58, 32, 85, 82, 76, 40] ++ l ++ [41])).2 = X2 at h2
  have a1 : (⟨#[97, 58, 32, 117, 82, 108, 40]⟩ : ByteArray) ++ S l = S ([97, 58, 32, 117, 82, 108, 40] ++ l) := S_append [97, 58, 32, 117, 82, 108, 40] l
  have a2 : (⟨#[97, 58, 32, 85, 82, 76, 40]⟩ : ByteArray) ++ S l = S ([97, 58, 32, 85, 82, 76, 40] ++ l) := S_append [97, 58, 32, 85, 82, 76, 40] l
  have a3 : S ([97, 58, 32, 85, 82, 76, 40] ++ l) ++ (⟨#[41]⟩ : ByteArray) = S ([97, 58, 32, 85, 82, 76, 40] ++ l ++ [41]) := S_append ([97, 58, 32, 85, 82, 76, 40] ++ l) [41]
  have z2 : (S ([97, 58, 32, 85, 82, 76, 40] ++ l)).size ≤ 140737488351239 := by rw [size_S, List.length_append]; show 7 + l.length ≤ _; omega
  have q3 : S [] = ⟨#[]⟩ := rfl
  rw [q3] at h1 h2
  generalize S ([97, 58, 32, 85, 82, 76, 40] ++ l ++ [41]) = Y2 at h2 a3
  generalize S ([97, 58, 32, 117, 82, 108, 40] ++ l) = Y1 at h1 a1
  generalize S ([97, 58, 32, 85, 82, 76, 40] ++ l) = V2 at a2 a3 z2
  clear q3 hl
  go_enter Try.func5, Try.ntmps5
  go_wp2_with fail
  refine hal.mono ?_
  rintro e w1 ⟨rfl, hb1⟩
  have B1 := Lib.hid hb1
  clear hb1 hal
  go_wp2_with fail
  go_loopw [3] (fun i wr => ∃ k : Nat, k ≤ l.length ∧ i = .int .i64 k ∧ Hid (∀ j (h : j < l.length), j < k → l[j] ≠ 41) ∧ Hid (Below W.heap.size W wr)) (fun i _ => l.length - (intOf i).toNat)
  case atStart => exact ⟨0, Nat.zero_le _, rfl, fun j h hj => absurd hj (Nat.not_lt_zero j), B1.out⟩
  case round =>
    obtain ⟨k, hk, rfl, hno, HB⟩ := hrel
    by_cases hlt : k < l.length
    · have o1 := HOne.out k hlt
      have HN : Hid (l[k] ≠ 41 → ∀ j (h : j < l.length), j < k + 1 → l[j] ≠ 41) := by
        intro g1 j h hj
        rcases Nat.lt_or_ge j k with hjk | hjk
        · exact hno.out j h hjk
        · have e : j = k := by omega
          subst e
          exact g1
      generalize l[k] = c at o1 HN
      have j0 : (0 : Int) ≤ (k : Int) := by omega
      have j1 : (k : Int) < (l.length : Int) := by omega
      by_cases c1 : c = 41
      · have hb : ((c.toNat : Int) == 41) = true := oct_is (n := 41) c1 (by decide)
        clear HN c1
        go_wp2_with fail
        go_ret
        exact ⟨rfl, HB.out⟩
      have n1 : ((c.toNat : Int) == 41) = false := oct_ne (n := 41) c1 (by decide)
      have HN2 := Lib.hid (HN.out c1)
      clear HN c1
      go_wp2_with fail
      go_roundw
      case rel => exact ⟨k + 1, by omega, by go_num, HN2.out, HB.out⟩
      case measure => simp [intOf]; omega
    · have hkl : k = l.length := by omega
      subst hkl
      have hall : ∀ c ∈ l, c ≠ 41 := by
        intro c hc
        obtain ⟨j, hj, rfl⟩ := List.mem_iff_getElem.1 hc
        exact hno.out j hj hj
      have e1 := E1.out hall
      have e2 := E2.out hall
      subst e1 e2
      clear E1 E2 hall hno HOne
      generalize S l = L at *
      go_wp2_with fail
      refine (h1 _).mono ?_
      rintro e w2 ⟨rfl, hb2⟩
      have B2 := Lib.hid (HB.out.trans (hb2.mono HB.out.size))
      clear hb2 h1
      go_wp2_with fail
      refine (h2 _).mono ?_
      rintro e w3 ⟨rfl, hb3⟩
      have B3 := Lib.hid (B2.out.trans (hb3.mono B2.out.size))
      clear hb3 h2
      go_wp2_with fail
      go_ret
      exact ⟨rfl, B3.out⟩
end Go.Proofs.Ytlekaibiofkleaa.Csc
