/-
  Part 27: PwSame.
-/
import Derived.Test.YtmccbcficbbidaaGreatDoorPwAllP26
/-
  Contracts of package pipes: Same.
-/
namespace Go.Proofs.YtmccbcficbbidaaGreatDoor.Pw
open Go.RowKit Go.Proofs.YtmccbcficbbidaaGreatDoor.Oct Go.Proofs.YtmccbcficbbidaaGreatDoor.Lex Go.Proofs.YtmccbcficbbidaaGreatDoor.Lxw Go.Proofs.YtmccbcficbbidaaGreatDoor.Pip

/-! ### Names -/
set_option maxHeartbeats 1000000 in
set_option maxRecDepth 100000 in
theorem eqNames_c {v u : Value} {ns ms : List (List UInt8)} (hs : ns.length ≤ 9223372036854775807) (w : World) (hv : PathIn w v ns) (hu : PathIn w u ms) :
    Calls Tryz.prog 46 #[v, u] w fun e w' => e = .returned (.bool (decide (ns = ms))) ∧ Below w.heap.size w w' := by
  obtain ⟨pa, ca, rfl, ha⟩ := hv
  obtain ⟨pb, cb, rfl, hb⟩ := hu
  obtain ⟨n, hn⟩ : ∃ n, n = ns.length := ⟨_, rfl⟩
  obtain ⟨m, hm⟩ : ∃ m, m = ms.length := ⟨_, rfl⟩
  have HA := Lib.hid ha
  have HB := Lib.hid hb
  clear ha hb
  rw [← hn, ← hm]
  by_cases hnm : n = m
  · subst hnm
    have HN := Lib.hid hn
    have HM := Lib.hid hm
    have hn60 : n ≤ 9223372036854775807 := by rw [hn]; exact hs
    have n60 : (n : Int) ≤ 9223372036854775807 := by omega
    clear hn hm hs
    go_enter Tryz.func46, Tryz.ntmps46
    go_wp2_with fail
    go_loopw [13] (fun iv wr => ∃ i : Nat, i ≤ n ∧ iv = .int .i64 i ∧ Hid (ns.take i = ms.take i) ∧ Hid (Below w.heap.size w wr)) (fun iv _ => n - (intOf iv).toNat)
    case atStart => exact ⟨0, Nat.zero_le _, rfl, rfl, Below.refl _ _⟩
    case round =>
      obtain ⟨i, hi, rfl, hT, hW⟩ := hrel
      have i0 : (0 : Int) ≤ (i : Int) := by omega
      by_cases hlt : i < n
      · have hd : decide ((i : Int) < (n : Int)) = true := decide_eq_true (by omega)
        have hd2 : decide (i < n) = true := decide_eq_true hlt
        have i2 : (i : Int) < (n : Int) := by omega
        have h1 : i < ns.length := by rw [← HN.out]; exact hlt
        have h2 : i < ms.length := by rw [← HM.out]; exact hlt
        obtain ⟨b1, o1, rfl, hat1⟩ := HA.out (by omega)
        obtain ⟨b2, o2, rfl, hat2⟩ := HB.out (by omega)
        have s0 := some_up (hat1 i h1) hW.out
        have s1 := some_up (hat2 i h2) hW.out
        have HNx := Lib.hid (fun (h : ns[i] = ms[i]) => take_next h1 h2 hT.out h)
        have HNe := Lib.hid (fun (h : ns[i] ≠ ms[i]) => decide_eq_false (getElem_ne h1 h2 h))
        generalize ns[i] = s at *
        generalize ms[i] = t at *
        clear hat1 hat2
        by_cases hst : s = t
        · have es : (s == t) = true := by rw [beq_iff_eq]; exact hst
          have HNn := Lib.hid (HNx.out hst)
          subst hst
          go_wp2_with fail
          go_quiet (fail)
          rename_i nq _
          have HB4 := Lib.hid (drewT hW.out nq)
          generalize wr.drewN nq = wd at HB4
          go_wp2_with fail
          go_roundw
          case rel => exact ⟨i + 1, by omega, by go_num, HNn.out, HB4.out⟩
          case measure => simp [intOf]; omega
        · have es : (s == t) = false := by rw [beq_eq_false_iff_ne]; exact hst
          have HE := Lib.hid (HNe.out hst)
          go_wp2_with fail
          go_quiet (fail)
          rename_i nq _
          have HB4 := Lib.hid (drewT hW.out nq)
          generalize wr.drewN nq = wd at HB4
          go_wp2_with fail
          go_ret
          exact ⟨ret_bool HE.out.symm, HB4.out⟩
      · obtain rfl : i = n := by omega
        have hd : decide ((i : Int) < (i : Int)) = false := decide_eq_false (by omega)
        have HE : Hid (decide (ns = ms) = true) := decide_eq_true (take_all HN.out HM.out hT.out)
        go_wp2_with fail
        go_ret
        exact ⟨ret_bool HE.out.symm, hW.out⟩
  · have e0 : ((n : Int) == (m : Int)) = false := by rw [beq_eq_false_iff_ne]; omega
    have HE : Hid (decide (ns = ms) = false) := decide_eq_false (fun e => hnm (by rw [hn, hm, e]))
    clear hn hm
    go_enter Tryz.func46, Tryz.ntmps46
    go_wp2_with fail
    go_ret
    exact ⟨ret_bool HE.out.symm, Below.refl _ _⟩

/-! ### Arguments -/
abbrev arBox (w : World) (a b : Ar) (va vb : Value) : World := (w.alloc (.cells (arC a va).toArray 44)).alloc (.cells (arC b vb).toArray 44)
theorem arBox_below (w : World) (a b : Ar) (va vb : Value) : Below w.heap.size w (arBox w a b va vb) := ((Below.refl _ w).alloc (Nat.le_refl _) _).alloc (by simp) _
set_option maxHeartbeats 1000000 in
set_option maxRecDepth 100000 in
theorem sameArg_c {va vb : Value} {a b : Ar} (hs : a.p.length ≤ 9223372036854775807) (w : World) (ha : PathIn w va a.p) (hb : PathIn w vb b.p) :
    Calls Tryz.prog 28 #[arV a va, arV b vb] w fun e w' => e = .returned (.bool (decide (a = b))) ∧ Below w.heap.size w w' := by
  obtain ⟨ak, an, ap, ai, ax⟩ := a
  obtain ⟨bk, bn, bp, bi, bx⟩ := b
  have hB0 := arBox_below w ⟨ak, an, ap, ai, ax⟩ ⟨bk, bn, bp, bi, bx⟩ va vb
  have heq := eqNames_c hs (arBox w ⟨ak, an, ap, ai, ax⟩ ⟨bk, bn, bp, bi, bx⟩ va vb) (ha.up hB0) (hb.up hB0)
  obtain ⟨pa, ca, rfl, _⟩ := ha
  obtain ⟨pb, cb, rfl, _⟩ := hb
  have HX : Hid (∀ W, Below (arBox w (⟨ak, an, ap, ai, ax⟩ : Ar) (⟨bk, bn, bp, bi, bx⟩ : Ar) (.slice pa ap.length ca) (.slice pb bp.length cb)).heap.size (arBox w (⟨ak, an, ap, ai, ax⟩ : Ar) (⟨bk, bn, bp, bi, bx⟩ : Ar) (.slice pa ap.length ca) (.slice pb bp.length cb)) W → W.cell? ⟨w.heap.size, 3, none⟩ = some (.int .i64 ai) ∧ W.cell? ⟨w.heap.size, 4, none⟩ = some (.string (S ax)) ∧ W.cell? ⟨w.heap.size + 1, 3, none⟩ = some (.int .i64 bi) ∧ W.cell? ⟨w.heap.size + 1, 4, none⟩ = some (.string (S bx))) := fun W hW => by
    have hs1 : (w.alloc (.cells #[.int .i64 ak, .string (S an), .slice pa ap.length ca, .int .i64 ai, .string (S ax)] 44)).heap.size = w.heap.size + 1 := Array.size_push _
    have hsz : (arBox w (⟨ak, an, ap, ai, ax⟩ : Ar) (⟨bk, bn, bp, bi, bx⟩ : Ar) (.slice pa ap.length ca) (.slice pb bp.length cb)).heap.size = w.heap.size + 2 := (Array.size_push _).trans (by rw [hs1])
    have hA : W.heap[w.heap.size]? = some (.cells #[.int .i64 ak, .string (S an), .slice pa ap.length ca, .int .i64 ai, .string (S ax)] 44 (0, 0)) := by
      rw [hW.block _ (by omega)]
      refine (((Below.refl _ (w.alloc (.cells #[.int .i64 ak, .string (S an), .slice pa ap.length ca, .int .i64 ai, .string (S ax)] 44))).alloc (Nat.le_refl _) (.cells #[.int .i64 bk, .string (S bn), .slice pb bp.length cb, .int .i64 bi, .string (S bx)] 44)).block w.heap.size (by omega)).trans ?_
      exact heap_alloc_new w _
    have hB : W.heap[w.heap.size + 1]? = some (.cells #[.int .i64 bk, .string (S bn), .slice pb bp.length cb, .int .i64 bi, .string (S bx)] 44 (0, 0)) := by
      rw [hW.block _ (by omega)]
      have h := heap_alloc_new (w.alloc (.cells #[.int .i64 ak, .string (S an), .slice pa ap.length ca, .int .i64 ai, .string (S ax)] 44)) (.cells #[.int .i64 bk, .string (S bn), .slice pb bp.length cb, .int .i64 bi, .string (S bx)] 44)
      rw [hs1] at h
      exact h
    exact ⟨(cell_of_row W _ 3 _ _ _ hA).trans rfl, (cell_of_row W _ 4 _ _ _ hA).trans rfl, (cell_of_row W _ 3 _ _ _ hB).trans rfl, (cell_of_row W _ 4 _ _ _ hB).trans rfl⟩
  have HB0 := Lib.hid hB0
  clear hB0
  show Calls Tryz.prog 28 #[.agg #[.int .i64 ak, .string (S an), .slice pa ap.length ca, .int .i64 ai, .string (S ax)], .agg #[.int .i64 bk, .string (S bn), .slice pb bp.length cb, .int .i64 bi, .string (S bx)]] w _
  replace heq : Calls Tryz.prog 46 #[.slice pa ap.length ca, .slice pb bp.length cb] ((w.alloc (.cells #[.int .i64 ak, .string (S an), .slice pa ap.length ca, .int .i64 ai, .string (S ax)] 44)).alloc (.cells #[.int .i64 bk, .string (S bn), .slice pb bp.length cb, .int .i64 bi, .string (S bx)] 44)) fun e w' => e = .returned (.bool (decide (ap = bp))) ∧ Below ((w.alloc (.cells #[.int .i64 ak, .string (S an), .slice pa ap.length ca, .int .i64 ai, .string (S ax)] 44)).alloc (.cells #[.int .i64 bk, .string (S bn), .slice pb bp.length cb, .int .i64 bi, .string (S bx)] 44)).heap.size ((w.alloc (.cells #[.int .i64 ak, .string (S an), .slice pa ap.length ca, .int .i64 ai, .string (S ax)] 44)).alloc (.cells #[.int .i64 bk, .string (S bn), .slice pb bp.length cb, .int .i64 bi, .string (S bx)] 44)) w' := heq
  by_cases hk : ak = bk
  · subst hk
    by_cases hn : an = bn
    · subst hn
      by_cases hp : ap = bp
      · subst hp
        by_cases hi : ai = bi
        · subst hi
          by_cases hx : ax = bx
          · subst hx
            have HE : Hid (decide ((⟨ak, an, ap, ai, ax⟩ : Ar) = ⟨ak, an, ap, ai, ax⟩) = true) := decide_eq_true rfl
            rw [decide_eq_true rfl] at heq
            go_enter Tryz.func28, Tryz.ntmps28
            go_wp2_with fail
            refine heq.mono ?_
            clear heq
            rintro e w1 ⟨rfl, hb1⟩
            have HB1 := Lib.hid (HB0.out.trans (hb1.mono HB0.out.size))
            obtain ⟨f3, f4, g3, g4⟩ := HX.out w1 hb1
            clear hb1 HX
            go_wp2_with fail
            go_ret
            exact ⟨ret_bool HE.out.symm, HB1.out⟩
          · have HE : Hid (decide ((⟨ak, an, ap, ai, ax⟩ : Ar) = ⟨ak, an, ap, ai, bx⟩) = false) := decide_eq_false fun e => hx (by injection e)
            have ex : (ax == bx) = false := by rw [beq_eq_false_iff_ne]; exact hx
            rw [decide_eq_true rfl] at heq
            go_enter Tryz.func28, Tryz.ntmps28
            go_wp2_with fail
            refine heq.mono ?_
            clear heq
            rintro e w1 ⟨rfl, hb1⟩
            have HB1 := Lib.hid (HB0.out.trans (hb1.mono HB0.out.size))
            obtain ⟨f3, f4, g3, g4⟩ := HX.out w1 hb1
            clear hb1 HX
            go_wp2_with fail
            go_ret
            exact ⟨ret_bool HE.out.symm, HB1.out⟩
        · have HE : Hid (decide ((⟨ak, an, ap, ai, ax⟩ : Ar) = ⟨ak, an, ap, bi, bx⟩) = false) := decide_eq_false fun e => hi (by injection e)
          have ei : (ai == bi) = false := by rw [beq_eq_false_iff_ne]; exact hi
          rw [decide_eq_true rfl] at heq
          go_enter Tryz.func28, Tryz.ntmps28
          go_wp2_with fail
          refine heq.mono ?_
          clear heq
          rintro e w1 ⟨rfl, hb1⟩
          have HB1 := Lib.hid (HB0.out.trans (hb1.mono HB0.out.size))
          obtain ⟨f3, f4, g3, g4⟩ := HX.out w1 hb1
          clear hb1 HX
          go_wp2_with fail
          go_ret
          exact ⟨ret_bool HE.out.symm, HB1.out⟩
      · have HE : Hid (decide ((⟨ak, an, ap, ai, ax⟩ : Ar) = ⟨ak, an, bp, bi, bx⟩) = false) := decide_eq_false fun e => hp (by injection e)
        rw [decide_eq_false hp] at heq
        go_enter Tryz.func28, Tryz.ntmps28
        go_wp2_with fail
        refine heq.mono ?_
        clear heq
        rintro e w1 ⟨rfl, hb1⟩
        have HB1 := Lib.hid (HB0.out.trans (hb1.mono HB0.out.size))
        obtain ⟨f3, f4, g3, g4⟩ := HX.out w1 hb1
        clear hb1 HX
        go_wp2_with fail
        go_ret
        exact ⟨ret_bool HE.out.symm, HB1.out⟩
    · have HE : Hid (decide ((⟨ak, an, ap, ai, ax⟩ : Ar) = ⟨ak, bn, bp, bi, bx⟩) = false) := decide_eq_false fun e => hn (by injection e)
      have en : (an == bn) = false := by rw [beq_eq_false_iff_ne]; exact hn
      clear heq HX
      go_enter Tryz.func28, Tryz.ntmps28
      go_wp2_with fail
      go_ret
      exact ⟨by first | exact ret_bool HE.out.symm | rfl, HB0.out⟩
  · have HE : Hid (decide ((⟨ak, an, ap, ai, ax⟩ : Ar) = ⟨bk, bn, bp, bi, bx⟩) = false) := decide_eq_false fun e => hk (by injection e)
    have ek : (ak == bk) = false := by rw [beq_eq_false_iff_ne]; exact hk
    clear heq HX
    go_enter Tryz.func28, Tryz.ntmps28
    go_wp2_with fail
    go_ret
    exact ⟨by first | exact ret_bool HE.out.symm | rfl, HB0.out⟩

set_option maxHeartbeats 1000000 in
set_option maxRecDepth 100000 in
theorem eqArgs_c {v u : Value} {al bl : List Ar} (hs : al.length ≤ 9223372036854775807 ∧ ∀ a ∈ al, a.p.length ≤ 9223372036854775807) (w : World) (hv : ArgIn w v al) (hu : ArgIn w u bl) :
    Calls Tryz.prog 27 #[v, u, .func (.func 28) #[] #[]] w fun e w' => e = .returned (.bool (decide (al = bl))) ∧ Below w.heap.size w w' := by
  obtain ⟨pa, ca, rfl, ha⟩ := hv
  obtain ⟨pb, cb, rfl, hb⟩ := hu
  obtain ⟨n, hn⟩ : ∃ n, n = al.length := ⟨_, rfl⟩
  obtain ⟨m, hm⟩ : ∃ m, m = bl.length := ⟨_, rfl⟩
  have HA := Lib.hid ha
  have HB := Lib.hid hb
  clear ha hb
  rw [← hn, ← hm]
  by_cases hnm : n = m
  · subst hnm
    have HN := Lib.hid hn
    have HM := Lib.hid hm
    have hn60 : n ≤ 9223372036854775807 := by rw [hn]; exact hs.1
    have n60 : (n : Int) ≤ 9223372036854775807 := by omega
    have HZ := Lib.hid hs.2
    have HSm := Lib.hid (fun (a b : Ar) (va vb : Value) (hz : a.p.length ≤ 9223372036854775807) W (h1 : PathIn W va a.p) (h2 : PathIn W vb b.p) => sameArg_c hz W h1 h2)
    clear hn hm hs
    go_enter Tryz.func27, Tryz.ntmps27
    go_wp2_with fail
    go_loopw [17] (fun iv wr => ∃ i : Nat, i ≤ n ∧ iv = .int .i64 i ∧ Hid (al.take i = bl.take i) ∧ Hid (Below w.heap.size w wr)) (fun iv _ => n - (intOf iv).toNat)
    case atStart => exact ⟨0, Nat.zero_le _, rfl, rfl, Below.refl _ _⟩
    case round =>
      obtain ⟨i, hi, rfl, hT, hW⟩ := hrel
      have i0 : (0 : Int) ≤ (i : Int) := by omega
      by_cases hlt : i < n
      · have hd : decide ((i : Int) < (n : Int)) = true := decide_eq_true (by omega)
        have hd2 : decide (i < n) = true := decide_eq_true hlt
        have i2 : (i : Int) < (n : Int) := by omega
        have h1 : i < al.length := by rw [← HN.out]; exact hlt
        have h2 : i < bl.length := by rw [← HM.out]; exact hlt
        obtain ⟨b1, o1, rfl, hat1⟩ := HA.out (by omega)
        obtain ⟨b2, o2, rfl, hat2⟩ := HB.out (by omega)
        obtain ⟨va, hA⟩ := hat1 i h1
        obtain ⟨vb, hB⟩ := hat2 i h2
        have hza := HZ.out al[i] (List.getElem_mem h1)
        have HNx := Lib.hid (fun (h : al[i] = bl[i]) => take_next h1 h2 hT.out h)
        have HNe := Lib.hid (fun (h : al[i] ≠ bl[i]) => decide_eq_false (getElem_ne h1 h2 h))
        generalize al[i] = a at *
        generalize bl[i] = b at *
        obtain ⟨px, cx, rfl, hpx⟩ := hA.path
        obtain ⟨py, cy, rfl, hpy⟩ := hB.path
        have hbx := arBox_below wr a b (.slice px a.p.length cx) (.slice py b.p.length cy)
        have hbw := hW.out.trans (hbx.mono hW.out.size)
        have hcall := HSm.out a b _ _ hza (arBox wr a b (.slice px a.p.length cx) (.slice py b.p.length cy)) (hA.path.up hbw) (hB.path.up hbw)
        have hz1 : Below wr.heap.size wr (wr.alloc (.cells #[.int .i64 a.k, .string (S a.n), .slice px a.p.length cx, .int .i64 a.i, .string (S a.x)] 44)) := (Below.refl _ wr).alloc (Nat.le_refl _) _
        obtain ⟨_, x0, x1, x2, x3, x4⟩ := hA.up hW.out
        obtain ⟨_, y0, y1, y2, y3, y4⟩ := (hB.up hW.out).up hz1
        have HBW := Lib.hid hbw
        clear hat1 hat2 hA hB hpx hpy hbx hbw hz1 hza
        replace hcall : Calls Tryz.prog 28 #[.agg #[.int .i64 a.k, .string (S a.n), .slice px a.p.length cx, .int .i64 a.i, .string (S a.x)], .agg #[.int .i64 b.k, .string (S b.n), .slice py b.p.length cy, .int .i64 b.i, .string (S b.x)]] ((wr.alloc (.cells #[.int .i64 a.k, .string (S a.n), .slice px a.p.length cx, .int .i64 a.i, .string (S a.x)] 44)).alloc (.cells #[.int .i64 b.k, .string (S b.n), .slice py b.p.length cy, .int .i64 b.i, .string (S b.x)] 44)) fun e w' => e = .returned (.bool (decide (a = b))) ∧ Below (arBox wr a b (.slice px a.p.length cx) (.slice py b.p.length cy)).heap.size (arBox wr a b (.slice px a.p.length cx) (.slice py b.p.length cy)) w' := hcall
        go_wp2_with fail
        refine hcall.mono ?_
        clear hcall
        rintro e w4 ⟨rfl, hb4⟩
        have HB4 := Lib.hid (HBW.out.trans (hb4.mono HBW.out.size))
        clear hb4
        by_cases hab : a = b
        · rw [decide_eq_true hab]
          have HNn := Lib.hid (HNx.out hab)
          clear hab
          go_wp2_with fail
          go_roundw
          case rel => exact ⟨i + 1, by omega, by go_num, HNn.out, HB4.out⟩
          case measure => simp [intOf]; omega
        · rw [decide_eq_false hab]
          have HE := Lib.hid (HNe.out hab)
          clear hab
          go_wp2_with fail
          go_ret
          exact ⟨ret_bool HE.out.symm, HB4.out⟩
      · obtain rfl : i = n := by omega
        have hd : decide ((i : Int) < (i : Int)) = false := decide_eq_false (by omega)
        have HE : Hid (decide (al = bl) = true) := decide_eq_true (take_all HN.out HM.out hT.out)
        go_wp2_with fail
        go_ret
        exact ⟨ret_bool HE.out.symm, hW.out⟩
  · have e0 : ((n : Int) == (m : Int)) = false := by rw [beq_eq_false_iff_ne]; omega
    have HE : Hid (decide (al = bl) = false) := decide_eq_false (fun e => hnm (by rw [hn, hm, e]))
    clear hn hm
    go_enter Tryz.func27, Tryz.ntmps27
    go_wp2_with fail
    go_ret
    exact ⟨ret_bool HE.out.symm, Below.refl _ _⟩

/-! ### Calls -/
abbrev caBox (w : World) (c d : Ca) (va vb : Value) : World := (w.alloc (.cells #[.string (S c.n), va] 41)).alloc (.cells #[.string (S d.n), vb] 41)
theorem caBox_below (w : World) (c d : Ca) (va vb : Value) : Below w.heap.size w (caBox w c d va vb) := ((Below.refl _ w).alloc (Nat.le_refl _) _).alloc (by simp) _
/-- Lengths that a loop may count through, of one call. -/
def SzA (c : Ca) : Prop := c.as.length ≤ 9223372036854775807 ∧ ∀ a ∈ c.as, a.p.length ≤ 9223372036854775807
set_option maxHeartbeats 1000000 in
set_option maxRecDepth 100000 in
theorem same1_c {va vb : Value} {c d : Ca} (hs : SzA c) (w : World) (ha : ArgIn w va c.as) (hb : ArgIn w vb d.as) :
    Calls Tryz.prog 26 #[caV c va, caV d vb] w fun e w' => e = .returned (.bool (decide (c = d))) ∧ Below w.heap.size w w' := by
  obtain ⟨cn, cs⟩ := c
  obtain ⟨dn, ds⟩ := d
  have hB0 := caBox_below w ⟨cn, cs⟩ ⟨dn, ds⟩ va vb
  have heq := eqArgs_c hs (caBox w ⟨cn, cs⟩ ⟨dn, ds⟩ va vb) (ha.up hB0) (hb.up hB0)
  obtain ⟨pa, ca, rfl, _⟩ := ha
  obtain ⟨pb, cb, rfl, _⟩ := hb
  have HB0 := Lib.hid hB0
  clear hB0
  show Calls Tryz.prog 26 #[.agg #[.string (S cn), .slice pa cs.length ca], .agg #[.string (S dn), .slice pb ds.length cb]] w _
  replace heq : Calls Tryz.prog 27 #[.slice pa cs.length ca, .slice pb ds.length cb, .func (.func 28) #[] #[]] ((w.alloc (.cells #[.string (S cn), .slice pa cs.length ca] 41)).alloc (.cells #[.string (S dn), .slice pb ds.length cb] 41)) fun e w' => e = .returned (.bool (decide (cs = ds))) ∧ Below (caBox w ⟨cn, cs⟩ ⟨dn, ds⟩ (.slice pa cs.length ca) (.slice pb ds.length cb)).heap.size (caBox w ⟨cn, cs⟩ ⟨dn, ds⟩ (.slice pa cs.length ca) (.slice pb ds.length cb)) w' := heq
  by_cases hn : cn = dn
  · subst hn
    have HE : Hid (decide ((⟨cn, cs⟩ : Ca) = ⟨cn, ds⟩) = decide (cs = ds)) := by
      show _ = _
      by_cases h : cs = ds
      · subst h; rw [decide_eq_true rfl, decide_eq_true rfl]
      · rw [decide_eq_false h, decide_eq_false (fun e => h (by injection e))]
    go_enter Tryz.func26, Tryz.ntmps26
    go_wp2_with fail
    refine heq.mono ?_
    clear heq
    rintro e w1 ⟨rfl, hb1⟩
    have HB1 := Lib.hid (HB0.out.trans (hb1.mono HB0.out.size))
    generalize decide (cs = ds) = ans at *
    clear hb1
    go_wp2_with fail
    go_ret
    exact ⟨by rw [HE.out]; rfl, HB1.out⟩
  · have HE : Hid (decide ((⟨cn, cs⟩ : Ca) = ⟨dn, ds⟩) = false) := decide_eq_false fun e => hn (by injection e)
    have en : (cn == dn) = false := by rw [beq_eq_false_iff_ne]; exact hn
    clear heq
    go_enter Tryz.func26, Tryz.ntmps26
    go_wp2_with fail
    go_ret
    exact ⟨by first | exact ret_bool HE.out.symm | rfl, HB0.out⟩
set_option maxHeartbeats 1000000 in
set_option maxRecDepth 100000 in
theorem eqCalls_c {v u : Value} {al bl : List Ca} (hs : SzC al) (w : World) (hv : CallIn w v al) (hu : CallIn w u bl) :
    Calls Tryz.prog 25 #[v, u, .func (.func 26) #[] #[]] w fun e w' => e = .returned (.bool (decide (al = bl))) ∧ Below w.heap.size w w' := by
  obtain ⟨pa, ca, rfl, ha⟩ := hv
  obtain ⟨pb, cb, rfl, hb⟩ := hu
  obtain ⟨n, hn⟩ : ∃ n, n = al.length := ⟨_, rfl⟩
  obtain ⟨m, hm⟩ : ∃ m, m = bl.length := ⟨_, rfl⟩
  have HA := Lib.hid ha
  have HB := Lib.hid hb
  clear ha hb
  rw [← hn, ← hm]
  by_cases hnm : n = m
  · subst hnm
    have HN := Lib.hid hn
    have HM := Lib.hid hm
    have hn60 : n ≤ 9223372036854775807 := by rw [hn]; exact hs.1
    have n60 : (n : Int) ≤ 9223372036854775807 := by omega
    have HZ := Lib.hid hs.2
    have HSm := Lib.hid (fun (a b : Ca) (va vb : Value) (hz : SzA a) W (h1 : ArgIn W va a.as) (h2 : ArgIn W vb b.as) => same1_c hz W h1 h2)
    clear hn hm hs
    go_enter Tryz.func25, Tryz.ntmps25
    go_wp2_with fail
    go_loopw [17] (fun iv wr => ∃ i : Nat, i ≤ n ∧ iv = .int .i64 i ∧ Hid (al.take i = bl.take i) ∧ Hid (Below w.heap.size w wr)) (fun iv _ => n - (intOf iv).toNat)
    case atStart => exact ⟨0, Nat.zero_le _, rfl, rfl, Below.refl _ _⟩
    case round =>
      obtain ⟨i, hi, rfl, hT, hW⟩ := hrel
      have i0 : (0 : Int) ≤ (i : Int) := by omega
      by_cases hlt : i < n
      · have hd : decide ((i : Int) < (n : Int)) = true := decide_eq_true (by omega)
        have hd2 : decide (i < n) = true := decide_eq_true hlt
        have i2 : (i : Int) < (n : Int) := by omega
        have h1 : i < al.length := by rw [← HN.out]; exact hlt
        have h2 : i < bl.length := by rw [← HM.out]; exact hlt
        obtain ⟨b1, o1, rfl, hat1⟩ := HA.out (by omega)
        obtain ⟨b2, o2, rfl, hat2⟩ := HB.out (by omega)
        obtain ⟨va, hA⟩ := hat1 i h1
        obtain ⟨vb, hB⟩ := hat2 i h2
        have hza := HZ.out al[i] (List.getElem_mem h1)
        have HNx := Lib.hid (fun (h : al[i] = bl[i]) => take_next h1 h2 hT.out h)
        have HNe := Lib.hid (fun (h : al[i] ≠ bl[i]) => decide_eq_false (getElem_ne h1 h2 h))
        generalize al[i] = a at *
        generalize bl[i] = b at *
        obtain ⟨px, cx, rfl, hpx⟩ := hA.args
        obtain ⟨py, cy, rfl, hpy⟩ := hB.args
        have hbx := caBox_below wr a b (.slice px a.as.length cx) (.slice py b.as.length cy)
        have hbw := hW.out.trans (hbx.mono hW.out.size)
        have hcall := HSm.out a b _ _ hza (caBox wr a b (.slice px a.as.length cx) (.slice py b.as.length cy)) (hA.args.up hbw) (hB.args.up hbw)
        have hz1 : Below wr.heap.size wr (wr.alloc (.cells #[.string (S a.n), .slice px a.as.length cx] 41)) := (Below.refl _ wr).alloc (Nat.le_refl _) _
        obtain ⟨_, x0, x1⟩ := hA.up hW.out
        obtain ⟨_, y0, y1⟩ := (hB.up hW.out).up hz1
        have HBW := Lib.hid hbw
        clear hat1 hat2 hA hB hpx hpy hbx hbw hz1 hza
        replace hcall : Calls Tryz.prog 26 #[.agg #[.string (S a.n), .slice px a.as.length cx], .agg #[.string (S b.n), .slice py b.as.length cy]] ((wr.alloc (.cells #[.string (S a.n), .slice px a.as.length cx] 41)).alloc (.cells #[.string (S b.n), .slice py b.as.length cy] 41)) fun e w' => e = .returned (.bool (decide (a = b))) ∧ Below (caBox wr a b (.slice px a.as.length cx) (.slice py b.as.length cy)).heap.size (caBox wr a b (.slice px a.as.length cx) (.slice py b.as.length cy)) w' := hcall
        go_wp2_with fail
        refine hcall.mono ?_
        clear hcall
        rintro e w4 ⟨rfl, hb4⟩
        have HB4 := Lib.hid (HBW.out.trans (hb4.mono HBW.out.size))
        clear hb4
        by_cases hab : a = b
        · rw [decide_eq_true hab]
          have HNn := Lib.hid (HNx.out hab)
          clear hab
          go_wp2_with fail
          go_roundw
          case rel => exact ⟨i + 1, by omega, by go_num, HNn.out, HB4.out⟩
          case measure => simp [intOf]; omega
        · rw [decide_eq_false hab]
          have HE := Lib.hid (HNe.out hab)
          clear hab
          go_wp2_with fail
          go_ret
          exact ⟨ret_bool HE.out.symm, HB4.out⟩
      · obtain rfl : i = n := by omega
        have hd : decide ((i : Int) < (i : Int)) = false := decide_eq_false (by omega)
        have HE : Hid (decide (al = bl) = true) := decide_eq_true (take_all HN.out HM.out hT.out)
        go_wp2_with fail
        go_ret
        exact ⟨ret_bool HE.out.symm, hW.out⟩
  · have e0 : ((n : Int) == (m : Int)) = false := by rw [beq_eq_false_iff_ne]; omega
    have HE : Hid (decide (al = bl) = false) := decide_eq_false (fun e => hnm (by rw [hn, hm, e]))
    clear hn hm
    go_enter Tryz.func25, Tryz.ntmps25
    go_wp2_with fail
    go_ret
    exact ⟨ret_bool HE.out.symm, Below.refl _ _⟩
set_option maxHeartbeats 1000000 in
set_option maxRecDepth 100000 in
theorem same_c {v u : Value} {cs ds : List Ca} (hs : SzC cs) (w : World) (hv : CallIn w v cs) (hu : CallIn w u ds) :
    Calls Tryz.prog 10 #[v, u] w fun e w' => e = .returned (.bool (decide (cs = ds))) ∧ Below w.heap.size w w' := by
  have heq := eqCalls_c hs w hv hu
  generalize decide (cs = ds) = ans at *
  obtain ⟨pa, ca, rfl, _⟩ := hv
  obtain ⟨pb, cb, rfl, _⟩ := hu
  go_enter Tryz.func10, Tryz.ntmps10
  go_wp2_with fail
  refine heq.mono ?_
  clear heq
  rintro e w1 ⟨rfl, hb1⟩
  have HB1 := Lib.hid hb1
  clear hb1
  go_wp2_with fail
  go_ret
  exact ⟨rfl, HB1.out⟩
end Go.Proofs.YtmccbcficbbidaaGreatDoor.Pw
