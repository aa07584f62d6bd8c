/-
  Part 28: PwMade.
-/
import Derived.Test.YtmccbcficbbidaaGreatDoorPwAllP27
import Derived.Test.YtmccbcficbbidaaGreatDoorPwAllP14
import Derived.Test.YtmccbcficbbidaaGreatDoorPwAllP4
/-
  Contracts of package pipes: isMade, and whether all of a list are such.
-/
namespace Go.Proofs.YtmccbcficbbidaaGreatDoor.Pw
open Go.RowKit Go.Proofs.YtmccbcficbbidaaGreatDoor.Oct Go.Proofs.YtmccbcficbbidaaGreatDoor.Lex Go.Proofs.YtmccbcficbbidaaGreatDoor.Lxw Go.Proofs.YtmccbcficbbidaaGreatDoor.Pip

/-! ### A path -/
set_option maxHeartbeats 1000000 in
theorem lead1_c (s : List UInt8) (w : World) : Calls Tryz.prog 66 #[.string (S s)] w fun e w' => e = .returned (.bool (!nameB s)) ∧ Below w.heap.size w w' := by
  have hnm := name_c (S s) w
  rw [list_S] at hnm
  generalize nameB s = b at *
  generalize S s = L at *
  go_enter Tryz.func66, Tryz.ntmps66
  go_wp2_with fail
  refine hnm.mono ?_
  rintro e w1 ⟨rfl, hb1⟩
  have HB := Lib.hid hb1
  clear hb1 hnm
  go_wp2_with fail
  go_ret
  exact ⟨rfl, HB.out⟩
set_option maxHeartbeats 1000000 in
set_option maxRecDepth 100000 in
theorem idxNames_c {v : Value} {ns : List (List UInt8)} (hs : ns.length ≤ 9223372036854775807) (w : World) (hv : PathIn w v ns) :
    Calls Tryz.prog 102 #[v, .func (.func 66) #[] #[]] w fun e w' => (∃ r : Int, e = .returned (.int .i64 r) ∧ decide (0 ≤ r) = !ns.all nameB) ∧ Below w.heap.size w w' := by
  obtain ⟨pa, ca, rfl, ha⟩ := hv
  obtain ⟨n, hn⟩ : ∃ n, n = ns.length := ⟨_, rfl⟩
  have HA := Lib.hid ha
  have HN := Lib.hid hn
  have hn60 : n ≤ 9223372036854775807 := by rw [hn]; exact hs
  have n60 : (n : Int) ≤ 9223372036854775807 := by omega
  have HZ := Lib.hid hs
  rw [← hn]
  have HSm := Lib.hid (fun (s : List UInt8) W => lead1_c s W)
  clear ha hn hs
  go_enter Tryz.func102, Tryz.ntmps102
  go_wp2_with fail
  go_loopw [8] (fun iv wr => ∃ i : Nat, i ≤ n ∧ iv = .int .i64 i ∧ Hid ((ns.take i).all nameB = true) ∧ Hid (Below w.heap.size w wr)) (fun iv _ => n - (intOf iv).toNat)
  case atStart => exact ⟨0, Nat.zero_le _, rfl, rfl, Below.refl _ _⟩
  case round =>
    obtain ⟨i, hi, rfl, hT, hW⟩ := hrel
    have i0 : (0 : Int) ≤ (i : Int) := by omega
    by_cases hlt : i < n
    · have hd : decide ((i : Int) < (n : Int)) = true := decide_eq_true (by omega)
      have hd2 : decide (i < n) = true := decide_eq_true hlt
      have i2 : (i : Int) < (n : Int) := by omega
      have h1 : i < ns.length := by rw [← HN.out]; exact hlt
      obtain ⟨b1, o1, rfl, hat1⟩ := HA.out (by omega)
      have HAl := Lib.hid (fun (h : nameB ns[i] = false) => all_at h1 h)
      have HTk := Lib.hid (fun (h : nameB ns[i] = true) => all_take h1 hT.out h)
      have s0 := some_up (hat1 i h1) hW.out
      generalize ns[i] = s at *
      have hcall := HSm.out s wr
      clear hat1
      cases hb : nameB s with
      | true =>
        rw [hb] at hcall
        simp only [Bool.not_true] at hcall
        have HN2 := Lib.hid (HTk.out hb)
        clear hb
        go_wp2_with fail
        refine hcall.mono ?_
        clear hcall
        rintro e w4 ⟨rfl, hb4⟩
        have HB4 := Lib.hid (hW.out.trans (hb4.mono hW.out.size))
        clear hb4
        go_wp2_with fail
        go_roundw
        case rel => exact ⟨i + 1, by omega, by go_num, HN2.out, HB4.out⟩
        case measure => simp [intOf]; omega
      | false =>
        rw [hb] at hcall
        simp only [Bool.not_false] at hcall
        have HE := Lib.hid (HAl.out hb)
        clear hb
        go_wp2_with fail
        refine hcall.mono ?_
        clear hcall
        rintro e w4 ⟨rfl, hb4⟩
        have HB4 := Lib.hid (hW.out.trans (hb4.mono hW.out.size))
        clear hb4
        go_wp2_with fail
        go_ret
        exact ⟨⟨_, rfl, by rw [HE.out]; exact decide_eq_true i0⟩, HB4.out⟩
    · obtain rfl : i = n := by omega
      have hd : decide ((i : Int) < (i : Int)) = false := decide_eq_false (by omega)
      have HE : Hid (ns.all nameB = true) := by
        have := hT.out
        rwa [HN.out, List.take_length] at this
      go_wp2_with fail
      go_ret
      exact ⟨⟨_, rfl, by rw [HE.out]; rfl⟩, hW.out⟩
set_option maxHeartbeats 1000000 in
set_option maxRecDepth 100000 in
theorem allNames_c {v : Value} {ns : List (List UInt8)} (hs : ns.length ≤ 9223372036854775807) (w : World) (hv : PathIn w v ns) :
    Calls Tryz.prog 65 #[v, .func (.func 66) #[] #[]] w fun e w' => e = .returned (.bool (!ns.all nameB)) ∧ Below w.heap.size w w' := by
  have hi := idxNames_c hs w hv
  generalize (!ns.all nameB) = q at *
  obtain ⟨pa, ca, rfl, _⟩ := hv
  go_enter Tryz.func65, Tryz.ntmps65
  go_wp2_with fail
  refine hi.mono ?_
  clear hi
  rintro e w1 ⟨⟨r, rfl, hr⟩, hb1⟩
  have HB := Lib.hid hb1
  have HR := Lib.hid hr
  clear hb1
  by_cases h0 : 0 ≤ r
  · have d : decide (0 ≤ r) = true := decide_eq_true h0
    rw [d] at hr
    subst hr
    go_wp2_with fail
    go_ret
    exact ⟨rfl, HB.out⟩
  · have d : decide (0 ≤ r) = false := decide_eq_false h0
    rw [d] at hr
    subst hr
    go_wp2_with fail
    go_ret
    exact ⟨rfl, HB.out⟩
set_option maxHeartbeats 1000000 in
set_option maxRecDepth 100000 in
theorem mayLead_c {v : Value} {ns : List (List UInt8)} (hs : ns.length ≤ 9223372036854775807) (w : World) (hv : PathIn w v ns) :
    Calls Tryz.prog 44 #[v] w fun e w' => e = .returned (.bool (decide (ns.length ≤ 16) && ns.all nameB)) ∧ Below w.heap.size w w' := by
  have hc := allNames_c hs w hv
  obtain ⟨pa, ca, rfl, _⟩ := hv
  generalize ns.all nameB = q at *
  obtain ⟨n, hn⟩ : ∃ n, n = ns.length := ⟨_, rfl⟩
  rw [← hn] at hc hs ⊢
  have n60 : (n : Int) ≤ 9223372036854775807 := by omega
  clear hn
  by_cases h : n ≤ 16
  · have d1 : decide ((n : Int) ≤ 16) = true := decide_eq_true (by omega)
    have d2 : decide (n ≤ 16) = true := decide_eq_true h
    rw [d2, Bool.true_and]
    go_enter Tryz.func44, Tryz.ntmps44
    go_wp2_with fail
    refine hc.mono ?_
    clear hc
    rintro e w1 ⟨rfl, hb1⟩
    have HB := Lib.hid hb1
    clear hb1
    cases q
    all_goals go_wp2_with fail
    all_goals go_ret
    all_goals exact ⟨rfl, HB.out⟩
  · have d1 : decide ((n : Int) ≤ 16) = false := decide_eq_false (by omega)
    have d2 : decide (n ≤ 16) = false := decide_eq_false h
    rw [d2, Bool.false_and]
    clear hc
    go_enter Tryz.func44, Tryz.ntmps44
    go_wp2_with fail
    go_ret
    exact ⟨rfl, Below.refl _ _⟩

/-! ### An argument -/
/-- Both boxes of isMade, behind whatever was put into the later one. -/
structure Mk (w : World) (k i : Int) (n x : List UInt8) (va : Value) (u0 u1 u2 u3 u4 : Value) (W : World) : Prop where
  below : Below w.heap.size w W
  a : W.heap[w.heap.size]? = some (.cells #[.int .i64 k, .string (S n), va, .int .i64 i, .string (S x)] 44 (0, 0))
  u : W.heap[w.heap.size + 1]? = some (.cells #[u0, u1, u2, u3, u4] 44 (0, 0))
theorem mk_start (w : World) (k i : Int) (n x : List UInt8) (pa : Option Addr) (np ca : Nat) (u0 u1 u2 u3 u4 : Value) : Mk w k i n x (.slice pa np ca) u0 u1 u2 u3 u4 ((w.alloc (.cells #[.int .i64 k, .string (S n), .slice pa np ca, .int .i64 i, .string (S x)] 44)).alloc (.cells #[u0, u1, u2, u3, u4] 44)) := by
  have hs1 : (w.alloc (.cells #[.int .i64 k, .string (S n), .slice pa np ca, .int .i64 i, .string (S x)] 44)).heap.size = w.heap.size + 1 := Array.size_push _
  refine ⟨((Below.refl _ w).alloc (Nat.le_refl _) _).alloc (by omega) _, (((Below.refl _ (w.alloc (.cells #[.int .i64 k, .string (S n), .slice pa np ca, .int .i64 i, .string (S x)] 44))).alloc (Nat.le_refl _) _).block w.heap.size (by omega)).trans (heap_alloc_new w _), ?_⟩
  have h := heap_alloc_new (w.alloc (.cells #[.int .i64 k, .string (S n), .slice pa np ca, .int .i64 i, .string (S x)] 44)) (.cells #[u0, u1, u2, u3, u4] 44)
  rw [hs1] at h
  exact h
theorem Mk.drew {w : World} {k i : Int} {n x : List UInt8} {va u0 u1 u2 u3 u4 : Value} {W : World} (h : Mk w k i n x va u0 u1 u2 u3 u4 W) : Mk w k i n x va u0 u1 u2 u3 u4 W.drew := ⟨h.below.drew, h.a, h.u⟩
theorem Mk.up {w : World} {k i : Int} {n x : List UInt8} {va u0 u1 u2 u3 u4 : Value} {W W' : World} (h : Mk w k i n x va u0 u1 u2 u3 u4 W) (hb : Below W.heap.size W W') : Mk w k i n x va u0 u1 u2 u3 u4 W' := by
  have h1 := (Array.getElem?_eq_some_iff.1 h.u).1
  exact ⟨h.below.trans (hb.mono h.below.size), by rw [hb.block _ (by omega)]; exact h.a, by rw [hb.block _ (by omega)]; exact h.u⟩
theorem path_nil (w : World) : PathIn w (.slice none 0 0) [] := ⟨none, 0, rfl, fun h => absurd h (by simp)⟩
set_option maxHeartbeats 4000000 in
set_option maxRecDepth 100000 in
theorem isMade_c {va : Value} {a : Ar} (hs1 : a.p.length ≤ 9223372036854775807) (hs2 : a.x.length ≤ 9223372036854775807) (w : World) (ha : PathIn w va a.p) :
    Calls Tryz.prog 22 #[arV a va] w fun e w' => e = .returned (.bool (mayA a)) ∧ Below w.heap.size w w' := by
  have HKind : Hid (¬ (1 ≤ a.k ∧ a.k ≤ 7) → mayA a = false) := fun h => not_made h
  have HMade : Hid ((1 ≤ a.k ∧ a.k ≤ 7) → mayA a = madeB a) := fun h => may_made h
  obtain ⟨k, n, p, i, x⟩ := a
  simp only at hs1 hs2 ha
  generalize mayA ⟨k, n, p, i, x⟩ = ans at HKind HMade ⊢
  have HSame : Hid (∀ (b : Ar) (vb : Value) W, Below w.heap.size w W → PathIn W vb b.p → Calls Tryz.prog 28 #[arV ⟨k, n, p, i, x⟩ va, arV b vb] W fun e w' => e = .returned (.bool (decide ((⟨k, n, p, i, x⟩ : Ar) = b))) ∧ Below W.heap.size W w') := fun b vb W hW hb => sameArg_c hs1 W (ha.up hW) hb
  have HLead : Hid (∀ W, Below w.heap.size w W → Calls Tryz.prog 44 #[va] W fun e w' => e = .returned (.bool (decide (p.length ≤ 16) && p.all nameB)) ∧ Below W.heap.size W w') := fun W hW => mayLead_c hs1 W (ha.up hW)
  have HName : Hid (∀ W, Calls Tryz.prog 43 #[.string (S n)] W fun e w' => e = .returned (.bool (decide (n = []) || nameB n)) ∧ Below W.heap.size W w') := fun W => mayName_c n W
  have HPa := Lib.hid ha
  obtain ⟨pa, ca, rfl, _⟩ := ha
  have HS0 := Lib.hid (mk_start w k i n x pa p.length ca)
  have HB0 := Lib.hid ((HS0.out (.int .i64 k) (.string ⟨#[]⟩) (.slice none 0 0) (.int .i64 0) (.string ⟨#[]⟩)).below)
  have x60 : (x.length : Int) ≤ 9223372036854775807 := by omega
  have xsz : (S x).size = x.length := size_S x
  have xsi : ((S x).size : Int) = (x.length : Int) := by rw [xsz]
  obtain ⟨np, hnp⟩ : ∃ np, np = p.length := ⟨_, rfl⟩
  simp only [← hnp] at hs1 HS0 HB0 ⊢
  have HNp := Lib.hid hnp
  clear hnp
  by_cases hk : 1 ≤ k ∧ k ≤ 7
  · rcases (by omega : k = 1 ∨ k = 2 ∨ k = 3 ∨ k = 4 ∨ k = 5 ∨ k = 6 ∨ k = 7) with rfl | rfl | rfl | rfl | rfl | rfl | rfl
    · go_enter Tryz.func22, Tryz.ntmps22
      go_wp2_with fail
      have HM : Hid (Mk w 1 i n x (.slice pa np ca) (.int .i64 1) (.string ⟨#[]⟩) (.slice pa np ca) (.int .i64 0) (.string ⟨#[]⟩) ((w.alloc (.cells #[.int .i64 1, .string (S n), .slice pa np ca, .int .i64 i, .string (S x)] 44)).alloc (.cells #[.int .i64 1, .string ⟨#[]⟩, .slice pa np ca, .int .i64 0, .string ⟨#[]⟩] 44))) := (HS0.out (.int .i64 1) (.string ⟨#[]⟩) (.slice pa np ca) (.int .i64 0) (.string ⟨#[]⟩))
      generalize ((w.alloc (.cells #[.int .i64 1, .string (S n), .slice pa np ca, .int .i64 i, .string (S x)] 44)).alloc (.cells #[.int .i64 1, .string ⟨#[]⟩, .slice pa np ca, .int .i64 0, .string ⟨#[]⟩] 44)) = W at HM ⊢
      clear HS0
      have HAns : Hid (ans = (decide ((⟨1, n, p, i, x⟩ : Ar) = ⟨1, [], p, 0, []⟩) && (decide (n = []) || nameB n) && (decide (p.length ≤ 16) && p.all nameB) && decide (x.length ≤ 4096))) := HMade.out (by decide)
      have hsame := HSame.out ⟨1, [], p, 0, []⟩ (.slice pa p.length ca) W HM.out.below (HPa.out.up HM.out.below)
      replace hsame : Calls Tryz.prog 28 #[.agg #[.int .i64 1, .string (S n), .slice pa np ca, .int .i64 i, .string (S x)], .agg #[.int .i64 1, .string ⟨#[]⟩, .slice pa np ca, .int .i64 0, .string ⟨#[]⟩]] W fun e w' => e = .returned (.bool (decide ((⟨1, n, p, i, x⟩ : Ar) = ⟨1, [], p, 0, []⟩))) ∧ Below W.heap.size W w' := by
        rw [HNp.out]
        exact hsame
      generalize decide ((⟨1, n, p, i, x⟩ : Ar) = ⟨1, [], p, 0, []⟩) = q1 at *
      refine hsame.mono ?_
      clear hsame
      rintro e w1 ⟨rfl, hb1⟩
      replace HM := Lib.hid (HM.out.up hb1)
      clear hb1
      cases q1 with
      | false =>
        have HE : Hid (ans = false) := by show _ = _; rw [HAns.out]; simp
        go_wp2_with fail
        go_ret
        exact ⟨by rw [HE.out]; rfl, HM.out.below⟩
      | true =>
        have hname := HName.out w1
        have f1 : w1.cell? ⟨w.heap.size, 1, none⟩ = some (.string (S n)) := (cell_of_row w1 (w.heap.size) 1 _ _ _ HM.out.a).trans rfl
        generalize (decide (n = []) || nameB n) = q2 at *
        go_wp2_with fail
        refine hname.mono ?_
        clear hname f1
        rintro e w2 ⟨rfl, hb2⟩
        replace HM := Lib.hid (HM.out.up hb2)
        clear hb2
        cases q2 with
        | false =>
          have HE : Hid (ans = false) := by show _ = _; rw [HAns.out]; simp
          go_wp2_with fail
          go_ret
          exact ⟨by rw [HE.out]; rfl, HM.out.below⟩
        | true =>
          have hlead := HLead.out w2 HM.out.below
          rw [← HNp.out] at hlead HAns
          have f2 : w2.cell? ⟨w.heap.size, 2, none⟩ = some (.slice pa np ca) := (cell_of_row w2 (w.heap.size) 2 _ _ _ HM.out.a).trans rfl
          generalize (decide (np ≤ 16) && p.all nameB) = q3 at *
          go_wp2_with fail
          refine hlead.mono ?_
          clear hlead f2
          rintro e w3 ⟨rfl, hb3⟩
          replace HM := Lib.hid (HM.out.up hb3)
          clear hb3
          cases q3 with
          | false =>
            have HE : Hid (ans = false) := by show _ = _; rw [HAns.out]; simp
            go_wp2_with fail
            go_ret
            exact ⟨by rw [HE.out]; rfl, HM.out.below⟩
          | true =>
            have f4 : w3.cell? ⟨w.heap.size, 4, none⟩ = some (.string (S x)) := (cell_of_row w3 (w.heap.size) 4 _ _ _ HM.out.a).trans rfl
            by_cases hx : x.length ≤ 4096
            · have HE : Hid (ans = true) := by show _ = _; rw [HAns.out, decide_eq_true hx]; rfl
              have d1 : decide ((x.length : Int) ≤ 4096) = true := decide_eq_true (by omega)
              have d2 : decide (x.length ≤ 4096) = true := decide_eq_true hx
              go_wp2_with fail
              go_ret
              exact ⟨by rw [HE.out]; rfl, HM.out.below⟩
            · have HE : Hid (ans = false) := by show _ = _; rw [HAns.out, decide_eq_false hx]; rfl
              have d1 : decide ((x.length : Int) ≤ 4096) = false := decide_eq_false (by omega)
              have d2 : decide (x.length ≤ 4096) = false := decide_eq_false hx
              go_wp2_with fail
              go_ret
              exact ⟨by rw [HE.out]; rfl, HM.out.below⟩
    · go_enter Tryz.func22, Tryz.ntmps22
      go_wp2_with fail
      go_region
      all_goals (
        have HM : Hid (Mk w 2 i n x (.slice pa np ca) (.int .i64 2) (.string (S n)) (.slice pa np ca) (.int .i64 0) (.string ⟨#[]⟩) ((w.alloc (.cells #[.int .i64 2, .string (S n), .slice pa np ca, .int .i64 i, .string (S x)] 44)).alloc (.cells #[.int .i64 2, .string (S n), .slice pa np ca, .int .i64 0, .string ⟨#[]⟩] 44)).drew) := (HS0.out (.int .i64 2) (.string (S n)) (.slice pa np ca) (.int .i64 0) (.string ⟨#[]⟩)).drew
        go_wp2_with fail
        generalize ((w.alloc (.cells #[.int .i64 2, .string (S n), .slice pa np ca, .int .i64 i, .string (S x)] 44)).alloc (.cells #[.int .i64 2, .string (S n), .slice pa np ca, .int .i64 0, .string ⟨#[]⟩] 44)).drew = W at HM ⊢
        clear HS0
        have HAns : Hid (ans = (decide ((⟨2, n, p, i, x⟩ : Ar) = ⟨2, n, p, 0, []⟩) && (decide (n = []) || nameB n) && (decide (p.length ≤ 16) && p.all nameB) && decide (x.length ≤ 4096))) := HMade.out (by decide)
        have hsame := HSame.out ⟨2, n, p, 0, []⟩ (.slice pa p.length ca) W HM.out.below (HPa.out.up HM.out.below)
        replace hsame : Calls Tryz.prog 28 #[.agg #[.int .i64 2, .string (S n), .slice pa np ca, .int .i64 i, .string (S x)], .agg #[.int .i64 2, .string (S n), .slice pa np ca, .int .i64 0, .string ⟨#[]⟩]] W fun e w' => e = .returned (.bool (decide ((⟨2, n, p, i, x⟩ : Ar) = ⟨2, n, p, 0, []⟩))) ∧ Below W.heap.size W w' := by
          rw [HNp.out]
          exact hsame
        generalize decide ((⟨2, n, p, i, x⟩ : Ar) = ⟨2, n, p, 0, []⟩) = q1 at *
        refine hsame.mono ?_
        clear hsame
        rintro e w1 ⟨rfl, hb1⟩
        replace HM := Lib.hid (HM.out.up hb1)
        clear hb1
        cases q1 with
        | false =>
          have HE : Hid (ans = false) := by show _ = _; rw [HAns.out]; simp
          go_wp2_with fail
          go_ret
          exact ⟨by rw [HE.out]; rfl, HM.out.below⟩
        | true =>
          have hname := HName.out w1
          have f1 : w1.cell? ⟨w.heap.size, 1, none⟩ = some (.string (S n)) := (cell_of_row w1 (w.heap.size) 1 _ _ _ HM.out.a).trans rfl
          generalize (decide (n = []) || nameB n) = q2 at *
          go_wp2_with fail
          refine hname.mono ?_
          clear hname f1
          rintro e w2 ⟨rfl, hb2⟩
          replace HM := Lib.hid (HM.out.up hb2)
          clear hb2
          cases q2 with
          | false =>
            have HE : Hid (ans = false) := by show _ = _; rw [HAns.out]; simp
            go_wp2_with fail
            go_ret
            exact ⟨by rw [HE.out]; rfl, HM.out.below⟩
          | true =>
            have hlead := HLead.out w2 HM.out.below
            rw [← HNp.out] at hlead HAns
            have f2 : w2.cell? ⟨w.heap.size, 2, none⟩ = some (.slice pa np ca) := (cell_of_row w2 (w.heap.size) 2 _ _ _ HM.out.a).trans rfl
            generalize (decide (np ≤ 16) && p.all nameB) = q3 at *
            go_wp2_with fail
            refine hlead.mono ?_
            clear hlead f2
            rintro e w3 ⟨rfl, hb3⟩
            replace HM := Lib.hid (HM.out.up hb3)
            clear hb3
            cases q3 with
            | false =>
              have HE : Hid (ans = false) := by show _ = _; rw [HAns.out]; simp
              go_wp2_with fail
              go_ret
              exact ⟨by rw [HE.out]; rfl, HM.out.below⟩
            | true =>
              have f4 : w3.cell? ⟨w.heap.size, 4, none⟩ = some (.string (S x)) := (cell_of_row w3 (w.heap.size) 4 _ _ _ HM.out.a).trans rfl
              by_cases hx : x.length ≤ 4096
              · have HE : Hid (ans = true) := by show _ = _; rw [HAns.out, decide_eq_true hx]; rfl
                have d1 : decide ((x.length : Int) ≤ 4096) = true := decide_eq_true (by omega)
                have d2 : decide (x.length ≤ 4096) = true := decide_eq_true hx
                go_wp2_with fail
                go_ret
                exact ⟨by rw [HE.out]; rfl, HM.out.below⟩
              · have HE : Hid (ans = false) := by show _ = _; rw [HAns.out, decide_eq_false hx]; rfl
                have d1 : decide ((x.length : Int) ≤ 4096) = false := decide_eq_false (by omega)
                have d2 : decide (x.length ≤ 4096) = false := decide_eq_false hx
                go_wp2_with fail
                go_ret
                exact ⟨by rw [HE.out]; rfl, HM.out.below⟩)
    · go_enter Tryz.func22, Tryz.ntmps22
      go_wp2_with fail
      have HM : Hid (Mk w 3 i n x (.slice pa np ca) (.int .i64 3) (.string ⟨#[]⟩) (.slice none 0 0) (.int .i64 i) (.string ⟨#[]⟩) ((w.alloc (.cells #[.int .i64 3, .string (S n), .slice pa np ca, .int .i64 i, .string (S x)] 44)).alloc (.cells #[.int .i64 3, .string ⟨#[]⟩, .slice none 0 0, .int .i64 i, .string ⟨#[]⟩] 44))) := (HS0.out (.int .i64 3) (.string ⟨#[]⟩) (.slice none 0 0) (.int .i64 i) (.string ⟨#[]⟩))
      generalize ((w.alloc (.cells #[.int .i64 3, .string (S n), .slice pa np ca, .int .i64 i, .string (S x)] 44)).alloc (.cells #[.int .i64 3, .string ⟨#[]⟩, .slice none 0 0, .int .i64 i, .string ⟨#[]⟩] 44)) = W at HM ⊢
      clear HS0
      have HAns : Hid (ans = (decide ((⟨3, n, p, i, x⟩ : Ar) = ⟨3, [], [], i, []⟩) && (decide (n = []) || nameB n) && (decide (p.length ≤ 16) && p.all nameB) && decide (x.length ≤ 4096))) := HMade.out (by decide)
      have hsame := HSame.out ⟨3, [], [], i, []⟩ (.slice none 0 0) W HM.out.below (path_nil W)
      replace hsame : Calls Tryz.prog 28 #[.agg #[.int .i64 3, .string (S n), .slice pa np ca, .int .i64 i, .string (S x)], .agg #[.int .i64 3, .string ⟨#[]⟩, .slice none 0 0, .int .i64 i, .string ⟨#[]⟩]] W fun e w' => e = .returned (.bool (decide ((⟨3, n, p, i, x⟩ : Ar) = ⟨3, [], [], i, []⟩))) ∧ Below W.heap.size W w' := by
        rw [HNp.out]
        exact hsame
      generalize decide ((⟨3, n, p, i, x⟩ : Ar) = ⟨3, [], [], i, []⟩) = q1 at *
      refine hsame.mono ?_
      clear hsame
      rintro e w1 ⟨rfl, hb1⟩
      replace HM := Lib.hid (HM.out.up hb1)
      clear hb1
      cases q1 with
      | false =>
        have HE : Hid (ans = false) := by show _ = _; rw [HAns.out]; simp
        go_wp2_with fail
        go_ret
        exact ⟨by rw [HE.out]; rfl, HM.out.below⟩
      | true =>
        have hname := HName.out w1
        have f1 : w1.cell? ⟨w.heap.size, 1, none⟩ = some (.string (S n)) := (cell_of_row w1 (w.heap.size) 1 _ _ _ HM.out.a).trans rfl
        generalize (decide (n = []) || nameB n) = q2 at *
        go_wp2_with fail
        refine hname.mono ?_
        clear hname f1
        rintro e w2 ⟨rfl, hb2⟩
        replace HM := Lib.hid (HM.out.up hb2)
        clear hb2
        cases q2 with
        | false =>
          have HE : Hid (ans = false) := by show _ = _; rw [HAns.out]; simp
          go_wp2_with fail
          go_ret
          exact ⟨by rw [HE.out]; rfl, HM.out.below⟩
        | true =>
          have hlead := HLead.out w2 HM.out.below
          rw [← HNp.out] at hlead HAns
          have f2 : w2.cell? ⟨w.heap.size, 2, none⟩ = some (.slice pa np ca) := (cell_of_row w2 (w.heap.size) 2 _ _ _ HM.out.a).trans rfl
          generalize (decide (np ≤ 16) && p.all nameB) = q3 at *
          go_wp2_with fail
          refine hlead.mono ?_
          clear hlead f2
          rintro e w3 ⟨rfl, hb3⟩
          replace HM := Lib.hid (HM.out.up hb3)
          clear hb3
          cases q3 with
          | false =>
            have HE : Hid (ans = false) := by show _ = _; rw [HAns.out]; simp
            go_wp2_with fail
            go_ret
            exact ⟨by rw [HE.out]; rfl, HM.out.below⟩
          | true =>
            have f4 : w3.cell? ⟨w.heap.size, 4, none⟩ = some (.string (S x)) := (cell_of_row w3 (w.heap.size) 4 _ _ _ HM.out.a).trans rfl
            by_cases hx : x.length ≤ 4096
            · have HE : Hid (ans = true) := by show _ = _; rw [HAns.out, decide_eq_true hx]; rfl
              have d1 : decide ((x.length : Int) ≤ 4096) = true := decide_eq_true (by omega)
              have d2 : decide (x.length ≤ 4096) = true := decide_eq_true hx
              go_wp2_with fail
              go_ret
              exact ⟨by rw [HE.out]; rfl, HM.out.below⟩
            · have HE : Hid (ans = false) := by show _ = _; rw [HAns.out, decide_eq_false hx]; rfl
              have d1 : decide ((x.length : Int) ≤ 4096) = false := decide_eq_false (by omega)
              have d2 : decide (x.length ≤ 4096) = false := decide_eq_false hx
              go_wp2_with fail
              go_ret
              exact ⟨by rw [HE.out]; rfl, HM.out.below⟩
    · go_enter Tryz.func22, Tryz.ntmps22
      go_wp2_with fail
      have HM : Hid (Mk w 4 i n x (.slice pa np ca) (.int .i64 4) (.string ⟨#[]⟩) (.slice none 0 0) (.int .i64 0) (.string (S x)) ((w.alloc (.cells #[.int .i64 4, .string (S n), .slice pa np ca, .int .i64 i, .string (S x)] 44)).alloc (.cells #[.int .i64 4, .string ⟨#[]⟩, .slice none 0 0, .int .i64 0, .string (S x)] 44))) := (HS0.out (.int .i64 4) (.string ⟨#[]⟩) (.slice none 0 0) (.int .i64 0) (.string (S x)))
      generalize ((w.alloc (.cells #[.int .i64 4, .string (S n), .slice pa np ca, .int .i64 i, .string (S x)] 44)).alloc (.cells #[.int .i64 4, .string ⟨#[]⟩, .slice none 0 0, .int .i64 0, .string (S x)] 44)) = W at HM ⊢
      clear HS0
      have HAns : Hid (ans = (decide ((⟨4, n, p, i, x⟩ : Ar) = ⟨4, [], [], 0, x⟩) && (decide (n = []) || nameB n) && (decide (p.length ≤ 16) && p.all nameB) && decide (x.length ≤ 4096))) := HMade.out (by decide)
      have hsame := HSame.out ⟨4, [], [], 0, x⟩ (.slice none 0 0) W HM.out.below (path_nil W)
      replace hsame : Calls Tryz.prog 28 #[.agg #[.int .i64 4, .string (S n), .slice pa np ca, .int .i64 i, .string (S x)], .agg #[.int .i64 4, .string ⟨#[]⟩, .slice none 0 0, .int .i64 0, .string (S x)]] W fun e w' => e = .returned (.bool (decide ((⟨4, n, p, i, x⟩ : Ar) = ⟨4, [], [], 0, x⟩))) ∧ Below W.heap.size W w' := by
        rw [HNp.out]
        exact hsame
      generalize decide ((⟨4, n, p, i, x⟩ : Ar) = ⟨4, [], [], 0, x⟩) = q1 at *
      refine hsame.mono ?_
      clear hsame
      rintro e w1 ⟨rfl, hb1⟩
      replace HM := Lib.hid (HM.out.up hb1)
      clear hb1
      cases q1 with
      | false =>
        have HE : Hid (ans = false) := by show _ = _; rw [HAns.out]; simp
        go_wp2_with fail
        go_ret
        exact ⟨by rw [HE.out]; rfl, HM.out.below⟩
      | true =>
        have hname := HName.out w1
        have f1 : w1.cell? ⟨w.heap.size, 1, none⟩ = some (.string (S n)) := (cell_of_row w1 (w.heap.size) 1 _ _ _ HM.out.a).trans rfl
        generalize (decide (n = []) || nameB n) = q2 at *
        go_wp2_with fail
        refine hname.mono ?_
        clear hname f1
        rintro e w2 ⟨rfl, hb2⟩
        replace HM := Lib.hid (HM.out.up hb2)
        clear hb2
        cases q2 with
        | false =>
          have HE : Hid (ans = false) := by show _ = _; rw [HAns.out]; simp
          go_wp2_with fail
          go_ret
          exact ⟨by rw [HE.out]; rfl, HM.out.below⟩
        | true =>
          have hlead := HLead.out w2 HM.out.below
          rw [← HNp.out] at hlead HAns
          have f2 : w2.cell? ⟨w.heap.size, 2, none⟩ = some (.slice pa np ca) := (cell_of_row w2 (w.heap.size) 2 _ _ _ HM.out.a).trans rfl
          generalize (decide (np ≤ 16) && p.all nameB) = q3 at *
          go_wp2_with fail
          refine hlead.mono ?_
          clear hlead f2
          rintro e w3 ⟨rfl, hb3⟩
          replace HM := Lib.hid (HM.out.up hb3)
          clear hb3
          cases q3 with
          | false =>
            have HE : Hid (ans = false) := by show _ = _; rw [HAns.out]; simp
            go_wp2_with fail
            go_ret
            exact ⟨by rw [HE.out]; rfl, HM.out.below⟩
          | true =>
            have f4 : w3.cell? ⟨w.heap.size, 4, none⟩ = some (.string (S x)) := (cell_of_row w3 (w.heap.size) 4 _ _ _ HM.out.a).trans rfl
            by_cases hx : x.length ≤ 4096
            · have HE : Hid (ans = true) := by show _ = _; rw [HAns.out, decide_eq_true hx]; rfl
              have d1 : decide ((x.length : Int) ≤ 4096) = true := decide_eq_true (by omega)
              have d2 : decide (x.length ≤ 4096) = true := decide_eq_true hx
              go_wp2_with fail
              go_ret
              exact ⟨by rw [HE.out]; rfl, HM.out.below⟩
            · have HE : Hid (ans = false) := by show _ = _; rw [HAns.out, decide_eq_false hx]; rfl
              have d1 : decide ((x.length : Int) ≤ 4096) = false := decide_eq_false (by omega)
              have d2 : decide (x.length ≤ 4096) = false := decide_eq_false hx
              go_wp2_with fail
              go_ret
              exact ⟨by rw [HE.out]; rfl, HM.out.below⟩
    · go_enter Tryz.func22, Tryz.ntmps22
      go_wp2_with fail
      have HM : Hid (Mk w 5 i n x (.slice pa np ca) (.int .i64 5) (.string ⟨#[]⟩) (.slice none 0 0) (.int .i64 0) (.string ⟨#[]⟩) ((w.alloc (.cells #[.int .i64 5, .string (S n), .slice pa np ca, .int .i64 i, .string (S x)] 44)).alloc (.cells #[.int .i64 5, .string ⟨#[]⟩, .slice none 0 0, .int .i64 0, .string ⟨#[]⟩] 44))) := (HS0.out (.int .i64 5) (.string ⟨#[]⟩) (.slice none 0 0) (.int .i64 0) (.string ⟨#[]⟩))
      generalize ((w.alloc (.cells #[.int .i64 5, .string (S n), .slice pa np ca, .int .i64 i, .string (S x)] 44)).alloc (.cells #[.int .i64 5, .string ⟨#[]⟩, .slice none 0 0, .int .i64 0, .string ⟨#[]⟩] 44)) = W at HM ⊢
      clear HS0
      have HAns : Hid (ans = (decide ((⟨5, n, p, i, x⟩ : Ar) = ⟨5, [], [], 0, []⟩) && (decide (n = []) || nameB n) && (decide (p.length ≤ 16) && p.all nameB) && decide (x.length ≤ 4096))) := HMade.out (by decide)
      have hsame := HSame.out ⟨5, [], [], 0, []⟩ (.slice none 0 0) W HM.out.below (path_nil W)
      replace hsame : Calls Tryz.prog 28 #[.agg #[.int .i64 5, .string (S n), .slice pa np ca, .int .i64 i, .string (S x)], .agg #[.int .i64 5, .string ⟨#[]⟩, .slice none 0 0, .int .i64 0, .string ⟨#[]⟩]] W fun e w' => e = .returned (.bool (decide ((⟨5, n, p, i, x⟩ : Ar) = ⟨5, [], [], 0, []⟩))) ∧ Below W.heap.size W w' := by
        rw [HNp.out]
        exact hsame
      generalize decide ((⟨5, n, p, i, x⟩ : Ar) = ⟨5, [], [], 0, []⟩) = q1 at *
      refine hsame.mono ?_
      clear hsame
      rintro e w1 ⟨rfl, hb1⟩
      replace HM := Lib.hid (HM.out.up hb1)
      clear hb1
      cases q1 with
      | false =>
        have HE : Hid (ans = false) := by show _ = _; rw [HAns.out]; simp
        go_wp2_with fail
        go_ret
        exact ⟨by rw [HE.out]; rfl, HM.out.below⟩
      | true =>
        have hname := HName.out w1
        have f1 : w1.cell? ⟨w.heap.size, 1, none⟩ = some (.string (S n)) := (cell_of_row w1 (w.heap.size) 1 _ _ _ HM.out.a).trans rfl
        generalize (decide (n = []) || nameB n) = q2 at *
        go_wp2_with fail
        refine hname.mono ?_
        clear hname f1
        rintro e w2 ⟨rfl, hb2⟩
        replace HM := Lib.hid (HM.out.up hb2)
        clear hb2
        cases q2 with
        | false =>
          have HE : Hid (ans = false) := by show _ = _; rw [HAns.out]; simp
          go_wp2_with fail
          go_ret
          exact ⟨by rw [HE.out]; rfl, HM.out.below⟩
        | true =>
          have hlead := HLead.out w2 HM.out.below
          rw [← HNp.out] at hlead HAns
          have f2 : w2.cell? ⟨w.heap.size, 2, none⟩ = some (.slice pa np ca) := (cell_of_row w2 (w.heap.size) 2 _ _ _ HM.out.a).trans rfl
          generalize (decide (np ≤ 16) && p.all nameB) = q3 at *
          go_wp2_with fail
          refine hlead.mono ?_
          clear hlead f2
          rintro e w3 ⟨rfl, hb3⟩
          replace HM := Lib.hid (HM.out.up hb3)
          clear hb3
          cases q3 with
          | false =>
            have HE : Hid (ans = false) := by show _ = _; rw [HAns.out]; simp
            go_wp2_with fail
            go_ret
            exact ⟨by rw [HE.out]; rfl, HM.out.below⟩
          | true =>
            have f4 : w3.cell? ⟨w.heap.size, 4, none⟩ = some (.string (S x)) := (cell_of_row w3 (w.heap.size) 4 _ _ _ HM.out.a).trans rfl
            by_cases hx : x.length ≤ 4096
            · have HE : Hid (ans = true) := by show _ = _; rw [HAns.out, decide_eq_true hx]; rfl
              have d1 : decide ((x.length : Int) ≤ 4096) = true := decide_eq_true (by omega)
              have d2 : decide (x.length ≤ 4096) = true := decide_eq_true hx
              go_wp2_with fail
              go_ret
              exact ⟨by rw [HE.out]; rfl, HM.out.below⟩
            · have HE : Hid (ans = false) := by show _ = _; rw [HAns.out, decide_eq_false hx]; rfl
              have d1 : decide ((x.length : Int) ≤ 4096) = false := decide_eq_false (by omega)
              have d2 : decide (x.length ≤ 4096) = false := decide_eq_false hx
              go_wp2_with fail
              go_ret
              exact ⟨by rw [HE.out]; rfl, HM.out.below⟩
    · go_enter Tryz.func22, Tryz.ntmps22
      go_wp2_with fail
      have HM : Hid (Mk w 6 i n x (.slice pa np ca) (.int .i64 6) (.string ⟨#[]⟩) (.slice none 0 0) (.int .i64 0) (.string ⟨#[]⟩) ((w.alloc (.cells #[.int .i64 6, .string (S n), .slice pa np ca, .int .i64 i, .string (S x)] 44)).alloc (.cells #[.int .i64 6, .string ⟨#[]⟩, .slice none 0 0, .int .i64 0, .string ⟨#[]⟩] 44))) := (HS0.out (.int .i64 6) (.string ⟨#[]⟩) (.slice none 0 0) (.int .i64 0) (.string ⟨#[]⟩))
      generalize ((w.alloc (.cells #[.int .i64 6, .string (S n), .slice pa np ca, .int .i64 i, .string (S x)] 44)).alloc (.cells #[.int .i64 6, .string ⟨#[]⟩, .slice none 0 0, .int .i64 0, .string ⟨#[]⟩] 44)) = W at HM ⊢
      clear HS0
      have HAns : Hid (ans = (decide ((⟨6, n, p, i, x⟩ : Ar) = ⟨6, [], [], 0, []⟩) && (decide (n = []) || nameB n) && (decide (p.length ≤ 16) && p.all nameB) && decide (x.length ≤ 4096))) := HMade.out (by decide)
      have hsame := HSame.out ⟨6, [], [], 0, []⟩ (.slice none 0 0) W HM.out.below (path_nil W)
      replace hsame : Calls Tryz.prog 28 #[.agg #[.int .i64 6, .string (S n), .slice pa np ca, .int .i64 i, .string (S x)], .agg #[.int .i64 6, .string ⟨#[]⟩, .slice none 0 0, .int .i64 0, .string ⟨#[]⟩]] W fun e w' => e = .returned (.bool (decide ((⟨6, n, p, i, x⟩ : Ar) = ⟨6, [], [], 0, []⟩))) ∧ Below W.heap.size W w' := by
        rw [HNp.out]
        exact hsame
      generalize decide ((⟨6, n, p, i, x⟩ : Ar) = ⟨6, [], [], 0, []⟩) = q1 at *
      refine hsame.mono ?_
      clear hsame
      rintro e w1 ⟨rfl, hb1⟩
      replace HM := Lib.hid (HM.out.up hb1)
      clear hb1
      cases q1 with
      | false =>
        have HE : Hid (ans = false) := by show _ = _; rw [HAns.out]; simp
        go_wp2_with fail
        go_ret
        exact ⟨by rw [HE.out]; rfl, HM.out.below⟩
      | true =>
        have hname := HName.out w1
        have f1 : w1.cell? ⟨w.heap.size, 1, none⟩ = some (.string (S n)) := (cell_of_row w1 (w.heap.size) 1 _ _ _ HM.out.a).trans rfl
        generalize (decide (n = []) || nameB n) = q2 at *
        go_wp2_with fail
        refine hname.mono ?_
        clear hname f1
        rintro e w2 ⟨rfl, hb2⟩
        replace HM := Lib.hid (HM.out.up hb2)
        clear hb2
        cases q2 with
        | false =>
          have HE : Hid (ans = false) := by show _ = _; rw [HAns.out]; simp
          go_wp2_with fail
          go_ret
          exact ⟨by rw [HE.out]; rfl, HM.out.below⟩
        | true =>
          have hlead := HLead.out w2 HM.out.below
          rw [← HNp.out] at hlead HAns
          have f2 : w2.cell? ⟨w.heap.size, 2, none⟩ = some (.slice pa np ca) := (cell_of_row w2 (w.heap.size) 2 _ _ _ HM.out.a).trans rfl
          generalize (decide (np ≤ 16) && p.all nameB) = q3 at *
          go_wp2_with fail
          refine hlead.mono ?_
          clear hlead f2
          rintro e w3 ⟨rfl, hb3⟩
          replace HM := Lib.hid (HM.out.up hb3)
          clear hb3
          cases q3 with
          | false =>
            have HE : Hid (ans = false) := by show _ = _; rw [HAns.out]; simp
            go_wp2_with fail
            go_ret
            exact ⟨by rw [HE.out]; rfl, HM.out.below⟩
          | true =>
            have f4 : w3.cell? ⟨w.heap.size, 4, none⟩ = some (.string (S x)) := (cell_of_row w3 (w.heap.size) 4 _ _ _ HM.out.a).trans rfl
            by_cases hx : x.length ≤ 4096
            · have HE : Hid (ans = true) := by show _ = _; rw [HAns.out, decide_eq_true hx]; rfl
              have d1 : decide ((x.length : Int) ≤ 4096) = true := decide_eq_true (by omega)
              have d2 : decide (x.length ≤ 4096) = true := decide_eq_true hx
              go_wp2_with fail
              go_ret
              exact ⟨by rw [HE.out]; rfl, HM.out.below⟩
            · have HE : Hid (ans = false) := by show _ = _; rw [HAns.out, decide_eq_false hx]; rfl
              have d1 : decide ((x.length : Int) ≤ 4096) = false := decide_eq_false (by omega)
              have d2 : decide (x.length ≤ 4096) = false := decide_eq_false hx
              go_wp2_with fail
              go_ret
              exact ⟨by rw [HE.out]; rfl, HM.out.below⟩
    · go_enter Tryz.func22, Tryz.ntmps22
      go_wp2_with fail
      have HM : Hid (Mk w 7 i n x (.slice pa np ca) (.int .i64 7) (.string ⟨#[]⟩) (.slice none 0 0) (.int .i64 0) (.string ⟨#[]⟩) ((w.alloc (.cells #[.int .i64 7, .string (S n), .slice pa np ca, .int .i64 i, .string (S x)] 44)).alloc (.cells #[.int .i64 7, .string ⟨#[]⟩, .slice none 0 0, .int .i64 0, .string ⟨#[]⟩] 44))) := (HS0.out (.int .i64 7) (.string ⟨#[]⟩) (.slice none 0 0) (.int .i64 0) (.string ⟨#[]⟩))
      generalize ((w.alloc (.cells #[.int .i64 7, .string (S n), .slice pa np ca, .int .i64 i, .string (S x)] 44)).alloc (.cells #[.int .i64 7, .string ⟨#[]⟩, .slice none 0 0, .int .i64 0, .string ⟨#[]⟩] 44)) = W at HM ⊢
      clear HS0
      have HAns : Hid (ans = (decide ((⟨7, n, p, i, x⟩ : Ar) = ⟨7, [], [], 0, []⟩) && (decide (n = []) || nameB n) && (decide (p.length ≤ 16) && p.all nameB) && decide (x.length ≤ 4096))) := HMade.out (by decide)
      have hsame := HSame.out ⟨7, [], [], 0, []⟩ (.slice none 0 0) W HM.out.below (path_nil W)
      replace hsame : Calls Tryz.prog 28 #[.agg #[.int .i64 7, .string (S n), .slice pa np ca, .int .i64 i, .string (S x)], .agg #[.int .i64 7, .string ⟨#[]⟩, .slice none 0 0, .int .i64 0, .string ⟨#[]⟩]] W fun e w' => e = .returned (.bool (decide ((⟨7, n, p, i, x⟩ : Ar) = ⟨7, [], [], 0, []⟩))) ∧ Below W.heap.size W w' := by
        rw [HNp.out]
        exact hsame
      generalize decide ((⟨7, n, p, i, x⟩ : Ar) = ⟨7, [], [], 0, []⟩) = q1 at *
      refine hsame.mono ?_
      clear hsame
      rintro e w1 ⟨rfl, hb1⟩
      replace HM := Lib.hid (HM.out.up hb1)
      clear hb1
      cases q1 with
      | false =>
        have HE : Hid (ans = false) := by show _ = _; rw [HAns.out]; simp
        go_wp2_with fail
        go_ret
        exact ⟨by rw [HE.out]; rfl, HM.out.below⟩
      | true =>
        have hname := HName.out w1
        have f1 : w1.cell? ⟨w.heap.size, 1, none⟩ = some (.string (S n)) := (cell_of_row w1 (w.heap.size) 1 _ _ _ HM.out.a).trans rfl
        generalize (decide (n = []) || nameB n) = q2 at *
        go_wp2_with fail
        refine hname.mono ?_
        clear hname f1
        rintro e w2 ⟨rfl, hb2⟩
        replace HM := Lib.hid (HM.out.up hb2)
        clear hb2
        cases q2 with
        | false =>
          have HE : Hid (ans = false) := by show _ = _; rw [HAns.out]; simp
          go_wp2_with fail
          go_ret
          exact ⟨by rw [HE.out]; rfl, HM.out.below⟩
        | true =>
          have hlead := HLead.out w2 HM.out.below
          rw [← HNp.out] at hlead HAns
          have f2 : w2.cell? ⟨w.heap.size, 2, none⟩ = some (.slice pa np ca) := (cell_of_row w2 (w.heap.size) 2 _ _ _ HM.out.a).trans rfl
          generalize (decide (np ≤ 16) && p.all nameB) = q3 at *
          go_wp2_with fail
          refine hlead.mono ?_
          clear hlead f2
          rintro e w3 ⟨rfl, hb3⟩
          replace HM := Lib.hid (HM.out.up hb3)
          clear hb3
          cases q3 with
          | false =>
            have HE : Hid (ans = false) := by show _ = _; rw [HAns.out]; simp
            go_wp2_with fail
            go_ret
            exact ⟨by rw [HE.out]; rfl, HM.out.below⟩
          | true =>
            have f4 : w3.cell? ⟨w.heap.size, 4, none⟩ = some (.string (S x)) := (cell_of_row w3 (w.heap.size) 4 _ _ _ HM.out.a).trans rfl
            by_cases hx : x.length ≤ 4096
            · have HE : Hid (ans = true) := by show _ = _; rw [HAns.out, decide_eq_true hx]; rfl
              have d1 : decide ((x.length : Int) ≤ 4096) = true := decide_eq_true (by omega)
              have d2 : decide (x.length ≤ 4096) = true := decide_eq_true hx
              go_wp2_with fail
              go_ret
              exact ⟨by rw [HE.out]; rfl, HM.out.below⟩
            · have HE : Hid (ans = false) := by show _ = _; rw [HAns.out, decide_eq_false hx]; rfl
              have d1 : decide ((x.length : Int) ≤ 4096) = false := decide_eq_false (by omega)
              have d2 : decide (x.length ≤ 4096) = false := decide_eq_false hx
              go_wp2_with fail
              go_ret
              exact ⟨by rw [HE.out]; rfl, HM.out.below⟩
  · have HE : Hid (ans = false) := HKind.out hk
    have e1 : (k == 1) = false := by rw [beq_eq_false_iff_ne]; omega
    have e2 : (k == 2) = false := by rw [beq_eq_false_iff_ne]; omega
    have e3 : (k == 3) = false := by rw [beq_eq_false_iff_ne]; omega
    have e4 : (k == 4) = false := by rw [beq_eq_false_iff_ne]; omega
    have e5 : (k == 5) = false := by rw [beq_eq_false_iff_ne]; omega
    have e6 : (k == 6) = false := by rw [beq_eq_false_iff_ne]; omega
    have e7 : (k == 7) = false := by rw [beq_eq_false_iff_ne]; omega
    go_enter Tryz.func22, Tryz.ntmps22
    go_wp2_with fail
    go_ret
    exact ⟨by rw [HE.out]; rfl, HB0.out⟩
end Go.Proofs.YtmccbcficbbidaaGreatDoor.Pw
