/-
  Contracts of Literal of package jsscan and of alive; the laws JsscanParts and JsscanRemarks.
-/
import Derived.Test.YtganmmkdcaphfaaGreatDoorJscFeed
import Derived.Test.YtganmmkdcaphfaaGreatDoorRdGoes
namespace Go.Proofs.YtganmmkdcaphfaaGreatDoor.Jsc
open Go.RowKit Go.Proofs.YtganmmkdcaphfaaGreatDoor.Oct Go.Proofs.YtganmmkdcaphfaaGreatDoor.Utf Go.Proofs.YtganmmkdcaphfaaGreatDoor.Val Go.Proofs.YtganmmkdcaphfaaGreatDoor.Lit Go.Proofs.YtganmmkdcaphfaaGreatDoor.Rd

/-- What is read of a literal that may be read: no fault. -/
theorem read_yes (x : Val.V) (hx : Fit 0 x) (hl : (litL x).length ≤ 274877906944) (w : World) (hT : TabN w.heap.size w) :
    Calls Tryz.prog 21 #[.string (S (litL x))] w fun e w' => ∃ (l0 l1 : Int) (l2 : ByteArray) (lp : Option Addr) (la lb : Nat) (lq : Option Addr) (lr ld : Nat) (n : Int),
      e = .returned (.tuple #[.agg #[.int .i64 l0, .int .i64 l1, .string l2, .slice lp la lb, .slice lq lr ld], .int .i64 n, .int .i64 0]) ∧ Below w.heap.size w w' := by
  obtain ⟨y, d, h1, h2⟩ := read_goes hx
  refine (read_c w (litL x) hl hT).mono ?_
  rintro e w' ⟨hb, ⟨rfl, h | ⟨x2, t, d2, h, hne⟩⟩ | ⟨rfl, x2, d2, h, hd⟩ | ⟨⟨v0, v1, v2, v3, v4⟩, x2, d2, rfl, h, hd, h3⟩⟩
  · have := h1.det h
    cases this
  · have := h1.det h
    injection this with _ h4 _
    exact absurd h4.symm hne
  · have := h1.det h
    injection this with _ _ h5
    omega
  · obtain ⟨l0, l1, l2, lp, la, lb, lq, lr, ld, rfl, rfl, rfl, rfl, rfl⟩ := holds_parts h3
    exact ⟨l0, l1, l2, lp, la, lb, lq, lr, ld, _, rfl, hb⟩

theorem trim_le (l : List UInt8) : (trimL l).length ≤ l.length := by
  unfold trimL
  rw [List.length_reverse]
  have h1 := (List.dropWhile_suffix bl (l := (l.dropWhile bl).reverse)).length_le
  have h2 := (List.dropWhile_suffix bl (l := l)).length_le
  rw [List.length_reverse] at h1
  omega

set_option maxHeartbeats 1000000 in
theorem literal_c (l : List UInt8) (x : Val.V) (hx : Fit 0 x) (hs : scanT l = litL x) (hl : l.length ≤ 17179869184) (w : World) (hT : TabN w.heap.size w) :
    Calls Tryz.prog 11 #[.string (S l)] w fun e w' => e = .returned (.bool true) ∧ Below w.heap.size w w' := by
  have htl := trim_le l
  have hll : (litL x).length ≤ 274877906944 := by
    rw [← hs]
    unfold scanT
    split
    · rw [List.length_cons]; omega
    · omega
  have ht := trim_c (S l) w (by rw [size_S]; omega)
  rw [list_S] at ht
  have hr := Lib.hid (fun w hT => read_yes x hx hll w hT)
  have HT := Lib.hid hT
  have hp := fun w => hasPrefix_S (trimL l) [45] w
  have q1 : S [45] = ⟨#[45]⟩ := rfl
  rw [q1] at hp
  have hz : (S (trimL l)).size ≤ 17179869184 := by rw [size_S]; omega
  have ha : (⟨#[32]⟩ : ByteArray) ++ S (trimL l) = S (32 :: trimL l) := S_append [32] (trimL l)
  clear hx hll htl hT q1
  unfold scanT at hs
  cases hh : Lib.hasPrefix (trimL l) [45] with
  | true =>
    rw [hh] at hp
    rw [hh, if_pos rfl] at hs
    rw [hs] at ha
    clear hh hs hl
    generalize S (litL x) = X at hr ha
    generalize S (trimL l) = T at ht hp hz ha
    generalize S l = L at ht ⊢
    go_enter Tryz.func11, Tryz.ntmps11
    go_wp2_with fail
    refine ht.mono ?_
    clear ht
    rintro e w1 ⟨rfl, hb1⟩
    have hr1 := hr.out w1 (fun Y hY => HT.out Y (hb1.trans (hY.mono hb1.size)))
    have B1 := Lib.hid hb1
    clear hb1
    go_wp2_with (go_at_call 20; refine (hp _).mono ?_; rintro e w2 ⟨rfl, rfl⟩)
    refine hr1.mono ?_
    clear hr1
    rintro e w3 ⟨l0, l1, l2, lp, la, lb, lq, lr, ld, n, rfl, hb3⟩
    have B3 := Lib.hid (B1.out.trans (hb3.mono B1.out.size))
    clear hb3
    go_wp2_with fail
    go_ret
    exact ⟨rfl, B3.out.alloc B3.out.size _⟩
  | false =>
    rw [hh] at hp
    rw [hh, if_neg (by simp)] at hs
    rw [hs] at ht hp hz
    clear hh hs hl ha
    generalize S (litL x) = X at hr ht hp hz
    generalize S l = L at ht ⊢
    go_enter Tryz.func11, Tryz.ntmps11
    go_wp2_with fail
    refine ht.mono ?_
    clear ht
    rintro e w1 ⟨rfl, hb1⟩
    have hr1 := hr.out w1 (fun Y hY => HT.out Y (hb1.trans (hY.mono hb1.size)))
    have B1 := Lib.hid hb1
    clear hb1
    go_wp2_with (go_at_call 20; refine (hp _).mono ?_; rintro e w2 ⟨rfl, rfl⟩)
    refine hr1.mono ?_
    clear hr1
    rintro e w3 ⟨l0, l1, l2, lp, la, lb, lq, lr, ld, n, rfl, hb3⟩
    have B3 := Lib.hid (B1.out.trans (hb3.mono B1.out.size))
    clear hb3
    go_wp2_with fail
    go_ret
    exact ⟨rfl, B3.out.alloc B3.out.size _⟩

/-- The value 5. -/
def five : Val.V := .mk 3 5 ⟨#[]⟩ [] []
theorem five_fit : Fit 0 five := .mk 0 3 5 ⟨#[]⟩ [] [] ⟨by decide, by decide⟩ (fun h => absurd h (by decide)) (fun i h => absurd h (by simp))
theorem five_lit : litL five = [53] := by
  have e : litL five = Num.printL 5 := by
    unfold five
    rw [litL]
    simp
  have e2 : Num.printL 5 = Num.decL 5 := rfl
  rw [e, e2, Num.decL_lt (by decide)]
  rfl
theorem alive_c (w : World) (hT : TabN w.heap.size w) : Calls Tryz.prog 7 #[] w fun e w' => e = .returned (.bool true) ∧ Below w.heap.size w w' := by
  have h1 := feed_c 0 [] (by simp) [120, 32, 61, 32, 34] (by decide) w
  have e1 : feedJ (0, []) [120, 32, 61, 32, 34] = (2, []) := by decide +kernel
  rw [e1] at h1
  have h2 := Lib.hid (fun w hT => literal_c [32, 53, 32] five five_fit (by have h := scan_lit five; rw [five_lit] at h ⊢; exact h) (by decide) w hT)
  have HT := Lib.hid hT
  clear hT
  go_enter Tryz.func7, Tryz.ntmps7
  go_wp2_with fail
  refine h1.mono ?_
  rintro e w1 ⟨rfl, hb1⟩
  have h21 := h2.out w1 (fun Y hY => HT.out Y (hb1.trans (hY.mono hb1.size)))
  have B1 := Lib.hid hb1
  clear hb1 h1
  go_wp2_with fail
  refine h21.mono ?_
  clear h21
  rintro e w2 ⟨rfl, hb2⟩
  have B2 := Lib.hid (B1.out.trans (hb2.mono B1.out.size))
  clear hb2
  go_wp2_with fail
  go_ret
  exact ⟨rfl, B2.out⟩

set_option maxHeartbeats 1000000 in
theorem law_parts (W : World) (hT : TabN W.heap.size W) (a s : ByteArray) (ha : a.size ≤ 140737488351232) (hs : s.size ≤ 140737488351232) :
    Calls Tryz.prog 5 #[.string a, .string s] W fun e W' => e = .returned (.bool true) ∧ Below W.heap.size W W' := by
  obtain ⟨l, rfl⟩ : ∃ l, a = S l := ⟨a.data.toList, (S_list a).symm⟩
  obtain ⟨m, rfl⟩ : ∃ m, s = S m := ⟨s.data.toList, (S_list s).symm⟩
  have hl : l.length ≤ 140737488351232 := by rw [← size_S]; exact ha
  have hm : m.length ≤ 140737488351232 := by rw [← size_S]; exact hs
  have hal := alive_c W hT
  have h1 := fun w => feed_c 0 [] (by simp) l (by omega) w
  have h2 := fun w => feed_c (feedJ (0, []) l).1 (feedJ (0, []) l).2 (by have := feed_len l 16 (by decide) (0, []) (by simp); omega) m (by omega) w
  have h3 := fun w => feed_c 0 [] (by simp) (l ++ m) (by rw [List.length_append]; omega) w
  rw [feed_append] at h3
  have E : Hid ((feedJ (0, []) l).1 = 15 → (feedJ (feedJ (0, []) l) m).1 = 15) := by
    intro h
    generalize feedJ (0, []) l = x at h ⊢
    obtain ⟨p, u⟩ := x
    have h : p = 15 := h
    subst h
    exact stay_lost u m
  have ex : ∀ x : St, (x.1, x.2) = x := fun _ => rfl
  rw [ex] at h2
  have a1 : S l ++ S m = S (l ++ m) := S_append l m
  have q3 : S [] = ⟨#[]⟩ := rfl
  rw [q3] at h1 h3
  generalize feedJ (feedJ (0, []) l) m = y at h2 h3 E
  generalize S (feedJ (0, []) l).2 = X1 at h1 h2
  generalize (feedJ (0, []) l).1 = p1 at h1 h2 E
  have qe : ((S y.2).toList == (S y.2).toList) = true := by simp
  have qp : (y.1 == y.1) = true := by simp
  generalize S y.2 = X2 at h2 h3 qe
  generalize y.1 = p2 at h2 h3 qp E
  generalize S (l ++ m) = LM at a1 h3
  clear q3 ex hT
  generalize S l = L at *
  generalize S m = M at *
  by_cases h15 : p1 = 15
  · have e2 := E.out h15
    subst h15 e2
    clear E qp
    go_enter Tryz.func5, Tryz.ntmps5
    go_wp2_with fail
    refine hal.mono ?_
    rintro e w1 ⟨rfl, hb1⟩
    have B1 := Lib.hid hb1
    clear hb1 hal
    go_wp2_with fail
    refine (h1 _).mono ?_
    rintro e w2 ⟨rfl, hb2⟩
    have B2 := Lib.hid (B1.out.trans (hb2.mono B1.out.size))
    clear hb2 h1
    go_wp2_with fail
    refine (h2 _).mono ?_
    rintro e w3 ⟨rfl, hb3⟩
    have B3 := Lib.hid (B2.out.trans (hb3.mono B2.out.size))
    clear hb3 h2
    go_wp2_with fail
    refine (h3 _).mono ?_
    rintro e w4 ⟨rfl, hb4⟩
    have B4 := Lib.hid (B3.out.trans (hb4.mono B3.out.size))
    clear hb4 h3
    go_wp2_with fail
    go_ret
    exact ⟨rfl, B4.out⟩
  · have hb15 : (p1 != 15) = true := by simp [h15]
    clear E h15
    go_enter Tryz.func5, Tryz.ntmps5
    go_wp2_with fail
    refine hal.mono ?_
    rintro e w1 ⟨rfl, hb1⟩
    have B1 := Lib.hid hb1
    clear hb1 hal
    go_wp2_with fail
    refine (h1 _).mono ?_
    rintro e w2 ⟨rfl, hb2⟩
    have B2 := Lib.hid (B1.out.trans (hb2.mono B1.out.size))
    clear hb2 h1
    go_wp2_with fail
    refine (h2 _).mono ?_
    rintro e w3 ⟨rfl, hb3⟩
    have B3 := Lib.hid (B2.out.trans (hb3.mono B2.out.size))
    clear hb3 h2
    go_wp2_with fail
    refine (h3 _).mono ?_
    rintro e w4 ⟨rfl, hb4⟩
    have B4 := Lib.hid (B3.out.trans (hb4.mono B3.out.size))
    clear hb4 h3
    go_wp2_with fail
    go_ret
    exact ⟨rfl, B4.out⟩

theorem oct_is {c : UInt8} {n : Nat} (h : c = n.toUInt8) (hn : n < 256) : ((c.toNat : Int) == (n : Int)) = true := by
  rw [beq_iff_eq, h, Nat.toUInt8_eq, UInt8.toNat_ofNat']
  omega

set_option maxHeartbeats 1000000 in
theorem law_remarks (W : World) (hT : TabN W.heap.size W) (s : ByteArray) (hs : s.size ≤ 140737488351232) :
    Calls Tryz.prog 6 #[.string s] W fun e W' => e = .returned (.bool true) ∧ Below W.heap.size W W' := by
  obtain ⟨l, rfl⟩ : ∃ l, s = S l := ⟨s.data.toList, (S_list s).symm⟩
  have hl : l.length ≤ 140737488351232 := by rw [← size_S]; exact hs
  have hal := alive_c W hT
  have hsz : ((S l).size : Int) = (l.length : Int) := by rw [size_S]
  have hli : (l.length : Int) ≤ 140737488351232 := by omega
  have HOne := Lib.hid (fun k (h : k < l.length) => at_S' l k h)
  have h1 := fun w => feed_c 0 [] (by simp) (47 :: 47 :: (l ++ [10])) (by simp; omega) w
  have h2 := fun w => feed_c 1 [] (by simp) (47 :: 42 :: (l ++ [42, 47])) (by simp; omega) w
  have E1 := Lib.hid (jsc_line l)
  have E2 := Lib.hid (jsc_mark l)
  generalize (feedJ (0, []) (47 :: 47 :: (l ++ [10]))).1 = p1 at h1 E1
  generalize S (feedJ (0, []) (47 :: 47 :: (l ++ [10]))).2 = X1 at h1
  generalize (feedJ (1, []) (47 :: 42 :: (l ++ [42, 47]))).1 = p2 at h2 E2
  generalize S (feedJ (1, []) (47 :: 42 :: (l ++ [42, 47]))).2 = X2 at h2
  have a1 : (⟨#[47, 47]⟩ : ByteArray) ++ S l = S (47 :: 47 :: l) := S_append [47, 47] l
  have a2 : S (47 :: 47 :: l) ++ (⟨#[10]⟩ : ByteArray) = S (47 :: 47 :: (l ++ [10])) := S_append (47 :: 47 :: l) [10]
  have a3 : (⟨#[47, 42]⟩ : ByteArray) ++ S l = S (47 :: 42 :: l) := S_append [47, 42] l
  have a4 : S (47 :: 42 :: l) ++ (⟨#[42, 47]⟩ : ByteArray) = S (47 :: 42 :: (l ++ [42, 47])) := S_append (47 :: 42 :: l) [42, 47]
  have z1 : (S (47 :: 47 :: l)).size ≤ 140737488351234 := by rw [size_S, List.length_cons, List.length_cons]; omega
  have z2 : (S (47 :: 42 :: l)).size ≤ 140737488351234 := by rw [size_S, List.length_cons, List.length_cons]; omega
  have q3 : S [] = ⟨#[]⟩ := rfl
  rw [q3] at h1 h2
  generalize S (47 :: 47 :: (l ++ [10])) = Y1 at h1 a2
  generalize S (47 :: 42 :: (l ++ [42, 47])) = Y2 at h2 a4
  generalize S (47 :: 47 :: l) = V1 at a1 a2 z1
  generalize S (47 :: 42 :: l) = V2 at a3 a4 z2
  clear q3 hT hl
  go_enter Tryz.func6, Tryz.ntmps6
  go_wp2_with fail
  refine hal.mono ?_
  rintro e w1 ⟨rfl, hb1⟩
  have B1 := Lib.hid hb1
  clear hb1 hal
  go_wp2_with fail
  go_loopw [3] (fun i wr => ∃ k : Nat, k ≤ l.length ∧ i = .int .i64 k ∧ Hid (∀ j (h : j < l.length), j < k → l[j] ≠ 10 ∧ l[j] ≠ 13 ∧ l[j] ≠ 42) ∧ Hid (Below W.heap.size W wr)) (fun i _ => l.length - (intOf i).toNat)
  case atStart => exact ⟨0, Nat.zero_le _, rfl, fun j h hj => absurd hj (Nat.not_lt_zero j), B1.out⟩
  case round =>
    obtain ⟨k, hk, rfl, hno, HB⟩ := hrel
    by_cases hlt : k < l.length
    · have o1 := HOne.out k hlt
      have HN : Hid (l[k] ≠ 10 → l[k] ≠ 13 → l[k] ≠ 42 → ∀ j (h : j < l.length), j < k + 1 → l[j] ≠ 10 ∧ l[j] ≠ 13 ∧ l[j] ≠ 42) := by
        intro g1 g2 g3 j h hj
        rcases Nat.lt_or_ge j k with hjk | hjk
        · exact hno.out j h hjk
        · have e : j = k := by omega
          subst e
          exact ⟨g1, g2, g3⟩
      generalize l[k] = c at o1 HN
      have j0 : (0 : Int) ≤ (k : Int) := by omega
      have j1 : (k : Int) < (l.length : Int) := by omega
      by_cases c1 : c = 10
      · have hb : ((c.toNat : Int) == 10) = true := oct_is (n := 10) c1 (by decide)
        clear HN c1
        go_wp2_with fail
        go_ret
        exact ⟨rfl, HB.out⟩
      have n1 : ((c.toNat : Int) == 10) = false := oct_ne (n := 10) c1 (by decide)
      by_cases c2 : c = 13
      · have hb : ((c.toNat : Int) == 13) = true := oct_is (n := 13) c2 (by decide)
        clear HN c1 c2
        go_wp2_with fail
        go_ret
        exact ⟨rfl, HB.out⟩
      have n2 : ((c.toNat : Int) == 13) = false := oct_ne (n := 13) c2 (by decide)
      by_cases c3 : c = 42
      · have hb : ((c.toNat : Int) == 42) = true := oct_is (n := 42) c3 (by decide)
        clear HN c1 c2 c3
        go_wp2_with fail
        go_ret
        exact ⟨rfl, HB.out⟩
      have n3 : ((c.toNat : Int) == 42) = false := oct_ne (n := 42) c3 (by decide)
      have HN2 := Lib.hid (HN.out c1 c2 c3)
      clear HN c1 c2 c3
      go_wp2_with fail
      go_roundw
      case rel => exact ⟨k + 1, by omega, by go_num, HN2.out, HB.out⟩
      case measure => simp [intOf]; omega
    · have hkl : k = l.length := by omega
      subst hkl
      have hall : ∀ c ∈ l, c ≠ 10 ∧ c ≠ 13 ∧ c ≠ 42 := by
        intro c hc
        obtain ⟨j, hj, rfl⟩ := List.mem_iff_getElem.1 hc
        exact hno.out j hj hj
      have e1 := E1.out (fun c hc => ⟨(hall c hc).1, (hall c hc).2.1⟩)
      have e2 := E2.out (fun c hc => (hall c hc).2.2)
      subst e1 e2
      clear E1 E2 hall hno HOne
      generalize S l = L at *
      go_wp2_with fail
      refine (h1 _).mono ?_
      rintro e w2 ⟨rfl, hb2⟩
      have B2 := Lib.hid (HB.out.trans (hb2.mono HB.out.size))
      clear hb2 h1
      go_wp2_with fail
      refine (h2 _).mono ?_
      rintro e w3 ⟨rfl, hb3⟩
      have B3 := Lib.hid (B2.out.trans (hb3.mono B2.out.size))
      clear hb3 h2
      go_wp2_with fail
      go_ret
      exact ⟨rfl, B3.out⟩
end Go.Proofs.YtganmmkdcaphfaaGreatDoor.Jsc
