/-
  Part 26: PwSameP.
-/
import Derived.Test.YtmccbcficbbidaaGreatDoorPwAllP12
import Derived.BigRegion
import Derived.BigQuiet
import Derived.Deep.RegionHeld3
/-
  Contract of the page's pipelines: SamePipe.
-/
namespace Go.Proofs.YtmccbcficbbidaaGreatDoor.Pw
open Go.RowKit Go.Proofs.YtmccbcficbbidaaGreatDoor.Oct Go.Proofs.YtmccbcficbbidaaGreatDoor.Lex Go.Proofs.YtmccbcficbbidaaGreatDoor.Lxw Go.Proofs.YtmccbcficbbidaaGreatDoor.Pip

/-- Lengths that a loop may count through. -/
def SzC (cs : List Ca) : Prop := cs.length ≤ 9223372036854775807 ∧ ∀ c ∈ cs, c.as.length ≤ 9223372036854775807 ∧ ∀ a ∈ c.as, a.p.length ≤ 9223372036854775807
theorem drewT {B : Nat} {a w : World} (h : Below B a w) (q : Nat) : Below B a (w.drewN q) := ⟨h.os, h.tape, h.output, h.size, h.block⟩
theorem take_next {α : Type} {l m : List α} {i : Nat} (hl : i < l.length) (hm : i < m.length) (h : l.take i = m.take i) (he : l[i] = m[i]) : l.take (i + 1) = m.take (i + 1) := by
  rw [List.take_succ_eq_append_getElem hl, List.take_succ_eq_append_getElem hm, h, he]
theorem take_all {α : Type} {l m : List α} {i : Nat} (hl : i = l.length) (hm : i = m.length) (h : l.take i = m.take i) : l = m := by
  rwa [hl, List.take_length, ← hl, hm, List.take_length] at h
theorem getElem_ne {α : Type} {l m : List α} {i : Nat} (hl : i < l.length) (hm : i < m.length) (h : l[i] ≠ m[i]) : l ≠ m := fun e => by
  subst e
  exact h rfl
set_option maxHeartbeats 4000000 in
set_option maxRecDepth 100000 in
theorem rsame_c {v u : Value} {cs ds : List Ca} (hs : SzC cs) (w : World) (hv : CallIn w v cs) (hu : CallIn w u ds) :
    Calls Tryz.prog 11 #[v, u] w fun e w' => e = .returned (.bool (decide (cs = ds))) ∧ Below w.heap.size w w' := by
  obtain ⟨pa, ca, rfl, ha⟩ := hv
  obtain ⟨pb, cb, rfl, hb⟩ := hu
  obtain ⟨n, hn⟩ : ∃ n, n = cs.length := ⟨_, rfl⟩
  obtain ⟨m, hm⟩ : ∃ m, m = ds.length := ⟨_, rfl⟩
  have HA := Lib.hid ha
  have HB := Lib.hid hb
  clear ha hb
  rw [← hn, ← hm]
  by_cases hnm : n = m
  · subst hnm
    have HN := Lib.hid hn
    have HM := Lib.hid hm
    have HZ := Lib.hid hs
    have hn60 : n ≤ 9223372036854775807 := by rw [hn]; exact hs.1
    have n60 : (n : Int) ≤ 9223372036854775807 := by omega
    clear hn hm hs
    go_enter Tryz.func11, Tryz.ntmps11
    go_wp2_with fail
    go_loopw [5] (fun iv wr => ∃ i : Nat, i ≤ n ∧ iv = .int .i64 i ∧ Hid (cs.take i = ds.take i) ∧ Hid (Below w.heap.size w wr)) (fun iv _ => n - (intOf iv).toNat)
    case atStart => exact ⟨0, Nat.zero_le _, rfl, rfl, Below.refl _ _⟩
    case round =>
      obtain ⟨i, hi, rfl, hT, hW⟩ := hrel
      have i0 : (0 : Int) ≤ (i : Int) := by omega
      by_cases hlt : i < n
      · have hd : decide ((i : Int) < (n : Int)) = true := decide_eq_true (by omega)
        have hd2 : decide (i < n) = true := decide_eq_true hlt
        have i2 : (i : Int) < (n : Int) := by omega
        obtain ⟨b1, o1, rfl, hat1⟩ := HA.out (by rw [← HN.out]; omega)
        obtain ⟨b2, o2, rfl, hat2⟩ := HB.out (by rw [← HM.out]; omega)
        have hl1 : i < cs.length := by rw [← HN.out]; exact hlt
        have hl2 : i < ds.length := by rw [← HM.out]; exact hlt
        obtain ⟨va, hc⟩ := hat1 i hl1
        obtain ⟨vb, hd'⟩ := hat2 i hl2
        have hzc := HZ.out.2 cs[i] (List.getElem_mem hl1)
        have HNx := Lib.hid (fun (h : cs[i] = ds[i]) => take_next hl1 hl2 hT.out h)
        have HNe := Lib.hid (fun (h : cs[i] ≠ ds[i]) => decide_eq_false (getElem_ne hl1 hl2 h))
        generalize cs[i] = c at *
        generalize ds[i] = d at *
        obtain ⟨pc, cc, rfl, hca⟩ := hc.args
        obtain ⟨pd, cd, rfl, hda⟩ := hd'.args
        have HC := Lib.hid (fun W (h : Below w.heap.size w W) => And.intro (some_up hc.c0 h) (some_up hc.c1 h))
        have HD := Lib.hid (fun W (h : Below w.heap.size w W) => And.intro (some_up hd'.c0 h) (some_up hd'.c1 h))
        have HCa := Lib.hid hca
        have HDa := Lib.hid hda
        obtain ⟨q0, q1⟩ := HC.out wr hW.out
        obtain ⟨r0, r1⟩ := HD.out wr hW.out
        clear hat1 hat2 hc hd' hca hda
        by_cases hnm : c.n = d.n
        · have e1 : (c.n == d.n) = true := by rw [beq_iff_eq]; exact hnm
          by_cases hal : c.as.length = d.as.length
          · have e2 : ((c.as.length : Int) == (d.as.length : Int)) = true := by rw [beq_iff_eq]; omega
            have e3 : c.as.length = d.as.length := hal
            have HQ := Lib.hid hal
            obtain ⟨k, hk⟩ : ∃ k, k = c.as.length := ⟨_, rfl⟩
            have hk2 : k = d.as.length := by rw [hk]; exact hal
            have hk60 : k ≤ 9223372036854775807 := by rw [hk]; exact hzc.1
            rw [← hk] at q1 e2
            rw [← hk2] at r1 e2
            have HK1 := Lib.hid hk
            have HK2 := Lib.hid hk2
            have HZc := Lib.hid hzc.2
            have HNm := Lib.hid hnm
            clear hal hk hk2 hzc e3
            go_wp2_with fail
            go_quiet (fail)
            rename_i nq _
            have HB2 := Lib.hid (drewT hW.out nq)
            generalize wr.drewN nq = wd at HB2
            clear q0 q1 r0 r1 hW
            go_wp2_with fail
            go_loopw [6] (fun jv w2 => ∃ j : Nat, j ≤ k ∧ jv = .int .i64 j ∧ Hid (c.as.take j = d.as.take j) ∧ Hid (Below w.heap.size w w2)) (fun jv _ => k - (intOf jv).toNat)
            case atStart => exact ⟨0, Nat.zero_le _, rfl, rfl, HB2.out⟩
            case round =>
              clear HB2
              obtain ⟨j, hj, rfl, hT2, hW2⟩ := hrel
              have j0 : (0 : Int) ≤ (j : Int) := by omega
              obtain ⟨q0, q1⟩ := HC.out _ hW2.out
              obtain ⟨r0, r1⟩ := HD.out _ hW2.out
              rw [← HK1.out] at q1
              rw [← HK2.out] at r1
              by_cases hjt : j < k
              · have jd : decide ((j : Int) < (k : Int)) = true := decide_eq_true (by omega)
                have jd2 : decide (j < k) = true := decide_eq_true hjt
                have j2 : (j : Int) < (k : Int) := by omega
                have hjl1 : j < c.as.length := by rw [← HK1.out]; exact hjt
                have hjl2 : j < d.as.length := by rw [← HK2.out]; exact hjt
                obtain ⟨b3, o3, rfl, hat3⟩ := HCa.out (by omega)
                obtain ⟨b4, o4, rfl, hat4⟩ := HDa.out (by omega)
                obtain ⟨va, hA⟩ := hat3 j hjl1
                obtain ⟨vb, hB⟩ := hat4 j hjl2
                have hzp := HZc.out c.as[j] (List.getElem_mem hjl1)
                have HNj := Lib.hid (fun (h : c.as[j] = d.as[j]) => take_next hjl1 hjl2 hT2.out h)
                have HNf : Hid (c.as[j] ≠ d.as[j] → decide (cs = ds) = false) := fun h => HNe.out fun e => getElem_ne hjl1 hjl2 h (by rw [e])
                generalize c.as[j] = x at *
                generalize d.as[j] = y at *
                obtain ⟨px, cx, rfl, hpx⟩ := hA.path
                obtain ⟨py, cy, rfl, hpy⟩ := hB.path
                obtain ⟨_, x0, x1, x2, x3, x4⟩ := hA.up hW2.out
                obtain ⟨_, y0, y1, y2, y3, y4⟩ := hB.up hW2.out
                have HPx := Lib.hid hpx
                have HPy := Lib.hid hpy
                have n1 := World.new_ne wr _ q1
                have n2 := World.new_ne wr _ r1
                have n3 := World.new_ne wr _ x0
                have n4 := World.new_ne wr _ y0
                have n5 := Nat.ne_of_gt (Nat.lt_succ_of_lt (World.block_lt_of_cell? wr _ q1))
                have n6 := Nat.ne_of_gt (Nat.lt_succ_of_lt (World.block_lt_of_cell? wr _ r1))
                have n7 := Nat.ne_of_gt (Nat.lt_succ_of_lt (World.block_lt_of_cell? wr _ x0))
                have n8 := Nat.ne_of_gt (Nat.lt_succ_of_lt (World.block_lt_of_cell? wr _ y0))
                clear hat3 hat4 hA hB hpx hpy
                go_wp2_with fail
                go_region_held3 (fun w' => w'.cell? ⟨b1, o1 + i * 2 + 1, none⟩ = some (.slice (some ⟨b3, o3, none⟩) k cc) ∧ w'.cell? ⟨b2, o2 + i * 2 + 1, none⟩ = some (.slice (some ⟨b4, o4, none⟩) k cd) ∧ w'.cell? ⟨b3, o3 + j * 5, none⟩ = some (.int .i64 x.k) ∧ w'.cell? ⟨b3, o3 + j * 5 + 1, none⟩ = some (.string (S x.n)) ∧ w'.cell? ⟨b3, o3 + j * 5 + 2, none⟩ = some (.slice px x.p.length cx) ∧ w'.cell? ⟨b3, o3 + j * 5 + 3, none⟩ = some (.int .i64 x.i) ∧ w'.cell? ⟨b3, o3 + j * 5 + 4, none⟩ = some (.string (S x.x)) ∧ w'.cell? ⟨b4, o4 + j * 5, none⟩ = some (.int .i64 y.k) ∧ w'.cell? ⟨b4, o4 + j * 5 + 1, none⟩ = some (.string (S y.n)) ∧ w'.cell? ⟨b4, o4 + j * 5 + 2, none⟩ = some (.slice py y.p.length cy) ∧ w'.cell? ⟨b4, o4 + j * 5 + 3, none⟩ = some (.int .i64 y.i) ∧ w'.cell? ⟨b4, o4 + j * 5 + 4, none⟩ = some (.string (S y.x))) (go_keep) (first | fail)
                · have hw1 : Below wr.heap.size wr (wr.alloc (.cells #[.int .i64 x.k, .string (S x.n), .slice px x.p.length cx, .int .i64 x.i, .string (S x.x)] 44)) := (Below.refl _ wr).alloc (Nat.le_refl _) _
                  have hs1 : (wr.alloc (.cells #[.int .i64 x.k, .string (S x.n), .slice px x.p.length cx, .int .i64 x.i, .string (S x.x)] 44)).heap.size = wr.heap.size + 1 := Array.size_push _
                  have hw2 : Below wr.heap.size wr ((wr.alloc (.cells #[.int .i64 x.k, .string (S x.n), .slice px x.p.length cx, .int .i64 x.i, .string (S x.x)] 44)).alloc (.cells #[.int .i64 y.k, .string (S y.n), .slice py y.p.length cy, .int .i64 y.i, .string (S y.x)] 44)).drew := (hw1.alloc (by omega) _).drew
                  have hbA : (((wr.alloc (.cells #[.int .i64 x.k, .string (S x.n), .slice px x.p.length cx, .int .i64 x.i, .string (S x.x)] 44)).alloc (.cells #[.int .i64 y.k, .string (S y.n), .slice py y.p.length cy, .int .i64 y.i, .string (S y.x)] 44)).drew).heap[wr.heap.size]? = some (.cells #[.int .i64 x.k, .string (S x.n), .slice px x.p.length cx, .int .i64 x.i, .string (S x.x)] 44 (0, 0)) := (((Below.refl _ (wr.alloc (.cells #[.int .i64 x.k, .string (S x.n), .slice px x.p.length cx, .int .i64 x.i, .string (S x.x)] 44))).alloc (Nat.le_refl _) (.cells #[.int .i64 y.k, .string (S y.n), .slice py y.p.length cy, .int .i64 y.i, .string (S y.x)] 44)).block wr.heap.size (by omega)).trans (heap_alloc_new wr _)
                  have hbB : (((wr.alloc (.cells #[.int .i64 x.k, .string (S x.n), .slice px x.p.length cx, .int .i64 x.i, .string (S x.x)] 44)).alloc (.cells #[.int .i64 y.k, .string (S y.n), .slice py y.p.length cy, .int .i64 y.i, .string (S y.x)] 44)).drew).heap[wr.heap.size + 1]? = some (.cells #[.int .i64 y.k, .string (S y.n), .slice py y.p.length cy, .int .i64 y.i, .string (S y.x)] 44 (0, 0)) := by
                    have h := heap_alloc_new (wr.alloc (.cells #[.int .i64 x.k, .string (S x.n), .slice px x.p.length cx, .int .i64 x.i, .string (S x.x)] 44)) (.cells #[.int .i64 y.k, .string (S y.n), .slice py y.p.length cy, .int .i64 y.i, .string (S y.x)] 44)
                    rw [hs1] at h
                    exact h
                  have HWW := Lib.hid (hW2.out.trans (hw2.mono hW2.out.size))
                  have HBX : Hid ((((wr.alloc (.cells #[.int .i64 x.k, .string (S x.n), .slice px x.p.length cx, .int .i64 x.i, .string (S x.x)] 44)).alloc (.cells #[.int .i64 y.k, .string (S y.n), .slice py y.p.length cy, .int .i64 y.i, .string (S y.x)] 44)).drew).heap[wr.heap.size]? = some (.cells #[.int .i64 x.k, .string (S x.n), .slice px x.p.length cx, .int .i64 x.i, .string (S x.x)] 44 (0, 0))) := hbA
                  have HBY : Hid ((((wr.alloc (.cells #[.int .i64 x.k, .string (S x.n), .slice px x.p.length cx, .int .i64 x.i, .string (S x.x)] 44)).alloc (.cells #[.int .i64 y.k, .string (S y.n), .slice py y.p.length cy, .int .i64 y.i, .string (S y.x)] 44)).drew).heap[wr.heap.size + 1]? = some (.cells #[.int .i64 y.k, .string (S y.n), .slice py y.p.length cy, .int .i64 y.i, .string (S y.x)] 44 (0, 0))) := hbB
                  clear hw1 hw2 hs1 hbA hbB
                  clear q0 q1 r0 r1 x0 x1 x2 x3 x4 y0 y1 y2 y3 y4 n1 n2 n3 n4 n5 n6 n7 n8
                  generalize ((wr.alloc (.cells #[.int .i64 x.k, .string (S x.n), .slice px x.p.length cx, .int .i64 x.i, .string (S x.x)] 44)).alloc (.cells #[.int .i64 y.k, .string (S y.n), .slice py y.p.length cy, .int .i64 y.i, .string (S y.x)] 44)).drew = W at HWW HBX HBY ⊢
                  have f0 : W.cell? ⟨wr.heap.size, 0, none⟩ = some (.int .i64 x.k) := (cell_of_row W (wr.heap.size) 0 _ _ _ HBX.out).trans rfl
                  have f1 : W.cell? ⟨wr.heap.size, 1, none⟩ = some (.string (S x.n)) := (cell_of_row W (wr.heap.size) 1 _ _ _ HBX.out).trans rfl
                  have f2 : W.cell? ⟨wr.heap.size, 2, none⟩ = some (.slice px x.p.length cx) := (cell_of_row W (wr.heap.size) 2 _ _ _ HBX.out).trans rfl
                  have f3 : W.cell? ⟨wr.heap.size, 3, none⟩ = some (.int .i64 x.i) := (cell_of_row W (wr.heap.size) 3 _ _ _ HBX.out).trans rfl
                  have f4 : W.cell? ⟨wr.heap.size, 4, none⟩ = some (.string (S x.x)) := (cell_of_row W (wr.heap.size) 4 _ _ _ HBX.out).trans rfl
                  have g0 : W.cell? ⟨wr.heap.size + 1, 0, none⟩ = some (.int .i64 y.k) := (cell_of_row W (wr.heap.size + 1) 0 _ _ _ HBY.out).trans rfl
                  have g1 : W.cell? ⟨wr.heap.size + 1, 1, none⟩ = some (.string (S y.n)) := (cell_of_row W (wr.heap.size + 1) 1 _ _ _ HBY.out).trans rfl
                  have g2 : W.cell? ⟨wr.heap.size + 1, 2, none⟩ = some (.slice py y.p.length cy) := (cell_of_row W (wr.heap.size + 1) 2 _ _ _ HBY.out).trans rfl
                  have g3 : W.cell? ⟨wr.heap.size + 1, 3, none⟩ = some (.int .i64 y.i) := (cell_of_row W (wr.heap.size + 1) 3 _ _ _ HBY.out).trans rfl
                  have g4 : W.cell? ⟨wr.heap.size + 1, 4, none⟩ = some (.string (S y.x)) := (cell_of_row W (wr.heap.size + 1) 4 _ _ _ HBY.out).trans rfl
                  generalize hQe : wr.heap.size + 1 = Q_ at *
                  generalize hPe : wr.heap.size = P_ at *
                  clear hPe hQe
                  by_cases hk : x.k = y.k
                  · have ek : (x.k == y.k) = true := by rw [beq_iff_eq]; exact hk
                    by_cases hn_ : x.n = y.n
                    · have en : (x.n == y.n) = true := by rw [beq_iff_eq]; exact hn_
                      by_cases hi_ : x.i = y.i
                      · have ei : (x.i == y.i) = true := by rw [beq_iff_eq]; exact hi_
                        by_cases hx : x.x = y.x
                        · have ex : (x.x == y.x) = true := by rw [beq_iff_eq]; exact hx
                          by_cases hp : x.p.length = y.p.length
                          · have ep : ((x.p.length : Int) == (y.p.length : Int)) = true := by rw [beq_iff_eq]; omega
                            obtain ⟨q, hq⟩ : ∃ q, q = x.p.length := ⟨_, rfl⟩
                            have hq2 : q = y.p.length := by rw [hq]; exact hp
                            have HQ1 := Lib.hid hq
                            have HQ2 := Lib.hid hq2
                            have hq60 : q ≤ 9223372036854775807 := by rw [hq]; exact hzp
                            have HAll := Lib.hid (And.intro hk (And.intro hn_ (And.intro hi_ hx)))
                            rw [← hq] at HBX f2 ep
                            rw [← hq2] at HBY g2 ep
                            clear hp hq hq2
                            go_wp2_with fail
                            clear ek en ei ex hk hn_ hi_ hx
                            go_loopw [9] (fun mv w3 => ∃ m : Nat, m ≤ q ∧ mv = .int .i64 m ∧ Hid (x.p.take m = y.p.take m) ∧ Hid (Below w.heap.size w w3 ∧ w3.heap[P_]? = some (.cells #[.int .i64 x.k, .string (S x.n), .slice px q cx, .int .i64 x.i, .string (S x.x)] 44 (0, 0)) ∧ w3.heap[Q_]? = some (.cells #[.int .i64 y.k, .string (S y.n), .slice py q cy, .int .i64 y.i, .string (S y.x)] 44 (0, 0)))) (fun mv _ => q - (intOf mv).toNat)
                            case atStart => exact ⟨0, Nat.zero_le _, rfl, rfl, HWW.out, HBX.out, HBY.out⟩
                            case round =>
                              obtain ⟨m, hm, rfl, hT3, hB3⟩ := hrel
                              have m0 : (0 : Int) ≤ (m : Int) := by omega
                              have f2' := (cell_of_row wr (P_) 2 _ _ _ hB3.out.2.1).trans rfl
                              have g2' := (cell_of_row wr (Q_) 2 _ _ _ hB3.out.2.2).trans rfl
                              by_cases hmq : m < q
                              · have md : decide ((m : Int) < (q : Int)) = true := decide_eq_true (by omega)
                                have md2 : decide (m < q) = true := decide_eq_true hmq
                                have m2 : (m : Int) < (q : Int) := by omega
                                have hm1 : m < x.p.length := by rw [← HQ1.out]; exact hmq
                                have hm2 : m < y.p.length := by rw [← HQ2.out]; exact hmq
                                obtain ⟨b5, o5, rfl, hat5⟩ := HPx.out (by omega)
                                obtain ⟨b6, o6, rfl, hat6⟩ := HPy.out (by omega)
                                have s0 := some_up (hat5 m hm1) hB3.out.1
                                have s1 := some_up (hat6 m hm2) hB3.out.1
                                have HNm2 := Lib.hid (fun (h : x.p[m] = y.p[m]) => take_next hm1 hm2 hT3.out h)
                                have HNg : Hid (x.p[m] ≠ y.p[m] → decide (cs = ds) = false) := fun h => HNf.out fun e => getElem_ne hm1 hm2 h (by rw [e])
                                generalize x.p[m] = s at *
                                generalize y.p[m] = t at *
                                clear hat5 hat6
                                by_cases hst : s = t
                                · have es : (s == t) = true := by rw [beq_iff_eq]; exact hst
                                  have HNn := Lib.hid (HNm2.out hst)
                                  subst hst
                                  go_wp2_with fail
                                  go_quiet (fail)
                                  rename_i nq _
                                  have HB4 : Hid (Below w.heap.size w (wr.drewN nq) ∧ (wr.drewN nq).heap[P_]? = some (.cells #[.int .i64 x.k, .string (S x.n), .slice (some ⟨b5, o5, none⟩) q cx, .int .i64 x.i, .string (S x.x)] 44 (0, 0)) ∧ (wr.drewN nq).heap[Q_]? = some (.cells #[.int .i64 y.k, .string (S y.n), .slice (some ⟨b6, o6, none⟩) q cy, .int .i64 y.i, .string (S y.x)] 44 (0, 0))) := ⟨drewT hB3.out.1 nq, hB3.out.2.1, hB3.out.2.2⟩
                                  generalize wr.drewN nq = wd at HB4
                                  go_wp2_with fail
                                  go_roundw
                                  case rel => exact ⟨m + 1, by omega, by go_num, HNn.out, HB4.out⟩
                                  case measure => simp [intOf]; omega
                                · have es : (s == t) = false := by rw [beq_eq_false_iff_ne]; exact hst
                                  have HE := Lib.hid (HNg.out hst)
                                  go_wp2_with fail
                                  go_quiet (fail)
                                  rename_i nq _
                                  have HB4 := Lib.hid (drewT hB3.out.1 nq)
                                  generalize wr.drewN nq = wd at HB4
                                  go_wp2_with fail
                                  go_ret
                                  exact ⟨ret_bool HE.out.symm, HB4.out⟩
                              · obtain rfl : m = q := by omega
                                have md : decide ((m : Int) < (m : Int)) = false := decide_eq_false (by omega)
                                have HEq : Hid (x = y) := by
                                  have h1 := take_all HQ1.out HQ2.out hT3.out
                                  obtain ⟨a1, a2, a3, a4⟩ := HAll.out
                                  show x = y
                                  cases x
                                  cases y
                                  cases a1
                                  cases a2
                                  cases a3
                                  cases a4
                                  cases h1
                                  rfl
                                have HNk := Lib.hid (HNj.out HEq.out)
                                have HB4 := Lib.hid hB3.out.1
                                go_wp2_with fail
                                go_roundw
                                case rel => exact ⟨j + 1, by omega, by go_num, HNk.out, HB4.out⟩
                                case measure => simp [intOf]; omega
                          · have ep : ((x.p.length : Int) == (y.p.length : Int)) = false := by rw [beq_eq_false_iff_ne]; omega
                            have HE := Lib.hid (HNf.out fun e => hp (by rw [e]))
                            go_wp2_with fail
                            go_ret
                            exact ⟨ret_bool HE.out.symm, HWW.out⟩
                        · have ex : (x.x == y.x) = false := by rw [beq_eq_false_iff_ne]; exact hx
                          have HE := Lib.hid (HNf.out fun e => hx (by rw [e]))
                          go_wp2_with fail
                          go_ret
                          exact ⟨ret_bool HE.out.symm, HWW.out⟩
                      · have ei : (x.i == y.i) = false := by rw [beq_eq_false_iff_ne]; exact hi_
                        have HE := Lib.hid (HNf.out fun e => hi_ (by rw [e]))
                        go_wp2_with fail
                        go_ret
                        exact ⟨ret_bool HE.out.symm, HWW.out⟩
                    · have en : (x.n == y.n) = false := by rw [beq_eq_false_iff_ne]; exact hn_
                      have HE := Lib.hid (HNf.out fun e => hn_ (by rw [e]))
                      go_wp2_with fail
                      go_ret
                      exact ⟨ret_bool HE.out.symm, HWW.out⟩
                  · have ek : (x.k == y.k) = false := by rw [beq_eq_false_iff_ne]; exact hk
                    have HE := Lib.hid (HNf.out fun e => hk (by rw [e]))
                    go_wp2_with fail
                    go_ret
                    exact ⟨ret_bool HE.out.symm, HWW.out⟩
                · have hw1 : Below wr.heap.size wr (wr.alloc (.cells #[.int .i64 y.k, .string (S y.n), .slice py y.p.length cy, .int .i64 y.i, .string (S y.x)] 44)) := (Below.refl _ wr).alloc (Nat.le_refl _) _
                  have hs1 : (wr.alloc (.cells #[.int .i64 y.k, .string (S y.n), .slice py y.p.length cy, .int .i64 y.i, .string (S y.x)] 44)).heap.size = wr.heap.size + 1 := Array.size_push _
                  have hw2 : Below wr.heap.size wr ((wr.alloc (.cells #[.int .i64 y.k, .string (S y.n), .slice py y.p.length cy, .int .i64 y.i, .string (S y.x)] 44)).alloc (.cells #[.int .i64 x.k, .string (S x.n), .slice px x.p.length cx, .int .i64 x.i, .string (S x.x)] 44)).drew := (hw1.alloc (by omega) _).drew
                  have hbA : (((wr.alloc (.cells #[.int .i64 y.k, .string (S y.n), .slice py y.p.length cy, .int .i64 y.i, .string (S y.x)] 44)).alloc (.cells #[.int .i64 x.k, .string (S x.n), .slice px x.p.length cx, .int .i64 x.i, .string (S x.x)] 44)).drew).heap[wr.heap.size]? = some (.cells #[.int .i64 y.k, .string (S y.n), .slice py y.p.length cy, .int .i64 y.i, .string (S y.x)] 44 (0, 0)) := (((Below.refl _ (wr.alloc (.cells #[.int .i64 y.k, .string (S y.n), .slice py y.p.length cy, .int .i64 y.i, .string (S y.x)] 44))).alloc (Nat.le_refl _) (.cells #[.int .i64 x.k, .string (S x.n), .slice px x.p.length cx, .int .i64 x.i, .string (S x.x)] 44)).block wr.heap.size (by omega)).trans (heap_alloc_new wr _)
                  have hbB : (((wr.alloc (.cells #[.int .i64 y.k, .string (S y.n), .slice py y.p.length cy, .int .i64 y.i, .string (S y.x)] 44)).alloc (.cells #[.int .i64 x.k, .string (S x.n), .slice px x.p.length cx, .int .i64 x.i, .string (S x.x)] 44)).drew).heap[wr.heap.size + 1]? = some (.cells #[.int .i64 x.k, .string (S x.n), .slice px x.p.length cx, .int .i64 x.i, .string (S x.x)] 44 (0, 0)) := by
                    have h := heap_alloc_new (wr.alloc (.cells #[.int .i64 y.k, .string (S y.n), .slice py y.p.length cy, .int .i64 y.i, .string (S y.x)] 44)) (.cells #[.int .i64 x.k, .string (S x.n), .slice px x.p.length cx, .int .i64 x.i, .string (S x.x)] 44)
                    rw [hs1] at h
                    exact h
                  have HWW := Lib.hid (hW2.out.trans (hw2.mono hW2.out.size))
                  have HBX : Hid ((((wr.alloc (.cells #[.int .i64 y.k, .string (S y.n), .slice py y.p.length cy, .int .i64 y.i, .string (S y.x)] 44)).alloc (.cells #[.int .i64 x.k, .string (S x.n), .slice px x.p.length cx, .int .i64 x.i, .string (S x.x)] 44)).drew).heap[wr.heap.size + 1]? = some (.cells #[.int .i64 x.k, .string (S x.n), .slice px x.p.length cx, .int .i64 x.i, .string (S x.x)] 44 (0, 0))) := hbB
                  have HBY : Hid ((((wr.alloc (.cells #[.int .i64 y.k, .string (S y.n), .slice py y.p.length cy, .int .i64 y.i, .string (S y.x)] 44)).alloc (.cells #[.int .i64 x.k, .string (S x.n), .slice px x.p.length cx, .int .i64 x.i, .string (S x.x)] 44)).drew).heap[wr.heap.size]? = some (.cells #[.int .i64 y.k, .string (S y.n), .slice py y.p.length cy, .int .i64 y.i, .string (S y.x)] 44 (0, 0))) := hbA
                  clear hw1 hw2 hs1 hbA hbB
                  clear q0 q1 r0 r1 x0 x1 x2 x3 x4 y0 y1 y2 y3 y4 n1 n2 n3 n4 n5 n6 n7 n8
                  generalize ((wr.alloc (.cells #[.int .i64 y.k, .string (S y.n), .slice py y.p.length cy, .int .i64 y.i, .string (S y.x)] 44)).alloc (.cells #[.int .i64 x.k, .string (S x.n), .slice px x.p.length cx, .int .i64 x.i, .string (S x.x)] 44)).drew = W at HWW HBX HBY ⊢
                  have f0 : W.cell? ⟨wr.heap.size + 1, 0, none⟩ = some (.int .i64 x.k) := (cell_of_row W (wr.heap.size + 1) 0 _ _ _ HBX.out).trans rfl
                  have f1 : W.cell? ⟨wr.heap.size + 1, 1, none⟩ = some (.string (S x.n)) := (cell_of_row W (wr.heap.size + 1) 1 _ _ _ HBX.out).trans rfl
                  have f2 : W.cell? ⟨wr.heap.size + 1, 2, none⟩ = some (.slice px x.p.length cx) := (cell_of_row W (wr.heap.size + 1) 2 _ _ _ HBX.out).trans rfl
                  have f3 : W.cell? ⟨wr.heap.size + 1, 3, none⟩ = some (.int .i64 x.i) := (cell_of_row W (wr.heap.size + 1) 3 _ _ _ HBX.out).trans rfl
                  have f4 : W.cell? ⟨wr.heap.size + 1, 4, none⟩ = some (.string (S x.x)) := (cell_of_row W (wr.heap.size + 1) 4 _ _ _ HBX.out).trans rfl
                  have g0 : W.cell? ⟨wr.heap.size, 0, none⟩ = some (.int .i64 y.k) := (cell_of_row W (wr.heap.size) 0 _ _ _ HBY.out).trans rfl
                  have g1 : W.cell? ⟨wr.heap.size, 1, none⟩ = some (.string (S y.n)) := (cell_of_row W (wr.heap.size) 1 _ _ _ HBY.out).trans rfl
                  have g2 : W.cell? ⟨wr.heap.size, 2, none⟩ = some (.slice py y.p.length cy) := (cell_of_row W (wr.heap.size) 2 _ _ _ HBY.out).trans rfl
                  have g3 : W.cell? ⟨wr.heap.size, 3, none⟩ = some (.int .i64 y.i) := (cell_of_row W (wr.heap.size) 3 _ _ _ HBY.out).trans rfl
                  have g4 : W.cell? ⟨wr.heap.size, 4, none⟩ = some (.string (S y.x)) := (cell_of_row W (wr.heap.size) 4 _ _ _ HBY.out).trans rfl
                  generalize hPe : wr.heap.size + 1 = P_ at *
                  generalize hQe : wr.heap.size = Q_ at *
                  clear hPe hQe
                  by_cases hk : x.k = y.k
                  · have ek : (x.k == y.k) = true := by rw [beq_iff_eq]; exact hk
                    by_cases hn_ : x.n = y.n
                    · have en : (x.n == y.n) = true := by rw [beq_iff_eq]; exact hn_
                      by_cases hi_ : x.i = y.i
                      · have ei : (x.i == y.i) = true := by rw [beq_iff_eq]; exact hi_
                        by_cases hx : x.x = y.x
                        · have ex : (x.x == y.x) = true := by rw [beq_iff_eq]; exact hx
                          by_cases hp : x.p.length = y.p.length
                          · have ep : ((x.p.length : Int) == (y.p.length : Int)) = true := by rw [beq_iff_eq]; omega
                            obtain ⟨q, hq⟩ : ∃ q, q = x.p.length := ⟨_, rfl⟩
                            have hq2 : q = y.p.length := by rw [hq]; exact hp
                            have HQ1 := Lib.hid hq
                            have HQ2 := Lib.hid hq2
                            have hq60 : q ≤ 9223372036854775807 := by rw [hq]; exact hzp
                            have HAll := Lib.hid (And.intro hk (And.intro hn_ (And.intro hi_ hx)))
                            rw [← hq] at HBX f2 ep
                            rw [← hq2] at HBY g2 ep
                            clear hp hq hq2
                            go_wp2_with fail
                            clear ek en ei ex hk hn_ hi_ hx
                            go_loopw [9] (fun mv w3 => ∃ m : Nat, m ≤ q ∧ mv = .int .i64 m ∧ Hid (x.p.take m = y.p.take m) ∧ Hid (Below w.heap.size w w3 ∧ w3.heap[P_]? = some (.cells #[.int .i64 x.k, .string (S x.n), .slice px q cx, .int .i64 x.i, .string (S x.x)] 44 (0, 0)) ∧ w3.heap[Q_]? = some (.cells #[.int .i64 y.k, .string (S y.n), .slice py q cy, .int .i64 y.i, .string (S y.x)] 44 (0, 0)))) (fun mv _ => q - (intOf mv).toNat)
                            case atStart => exact ⟨0, Nat.zero_le _, rfl, rfl, HWW.out, HBX.out, HBY.out⟩
                            case round =>
                              obtain ⟨m, hm, rfl, hT3, hB3⟩ := hrel
                              have m0 : (0 : Int) ≤ (m : Int) := by omega
                              have f2' := (cell_of_row wr (P_) 2 _ _ _ hB3.out.2.1).trans rfl
                              have g2' := (cell_of_row wr (Q_) 2 _ _ _ hB3.out.2.2).trans rfl
                              by_cases hmq : m < q
                              · have md : decide ((m : Int) < (q : Int)) = true := decide_eq_true (by omega)
                                have md2 : decide (m < q) = true := decide_eq_true hmq
                                have m2 : (m : Int) < (q : Int) := by omega
                                have hm1 : m < x.p.length := by rw [← HQ1.out]; exact hmq
                                have hm2 : m < y.p.length := by rw [← HQ2.out]; exact hmq
                                obtain ⟨b5, o5, rfl, hat5⟩ := HPx.out (by omega)
                                obtain ⟨b6, o6, rfl, hat6⟩ := HPy.out (by omega)
                                have s0 := some_up (hat5 m hm1) hB3.out.1
                                have s1 := some_up (hat6 m hm2) hB3.out.1
                                have HNm2 := Lib.hid (fun (h : x.p[m] = y.p[m]) => take_next hm1 hm2 hT3.out h)
                                have HNg : Hid (x.p[m] ≠ y.p[m] → decide (cs = ds) = false) := fun h => HNf.out fun e => getElem_ne hm1 hm2 h (by rw [e])
                                generalize x.p[m] = s at *
                                generalize y.p[m] = t at *
                                clear hat5 hat6
                                by_cases hst : s = t
                                · have es : (s == t) = true := by rw [beq_iff_eq]; exact hst
                                  have HNn := Lib.hid (HNm2.out hst)
                                  subst hst
                                  go_wp2_with fail
                                  go_quiet (fail)
                                  rename_i nq _
                                  have HB4 : Hid (Below w.heap.size w (wr.drewN nq) ∧ (wr.drewN nq).heap[P_]? = some (.cells #[.int .i64 x.k, .string (S x.n), .slice (some ⟨b5, o5, none⟩) q cx, .int .i64 x.i, .string (S x.x)] 44 (0, 0)) ∧ (wr.drewN nq).heap[Q_]? = some (.cells #[.int .i64 y.k, .string (S y.n), .slice (some ⟨b6, o6, none⟩) q cy, .int .i64 y.i, .string (S y.x)] 44 (0, 0))) := ⟨drewT hB3.out.1 nq, hB3.out.2.1, hB3.out.2.2⟩
                                  generalize wr.drewN nq = wd at HB4
                                  go_wp2_with fail
                                  go_roundw
                                  case rel => exact ⟨m + 1, by omega, by go_num, HNn.out, HB4.out⟩
                                  case measure => simp [intOf]; omega
                                · have es : (s == t) = false := by rw [beq_eq_false_iff_ne]; exact hst
                                  have HE := Lib.hid (HNg.out hst)
                                  go_wp2_with fail
                                  go_quiet (fail)
                                  rename_i nq _
                                  have HB4 := Lib.hid (drewT hB3.out.1 nq)
                                  generalize wr.drewN nq = wd at HB4
                                  go_wp2_with fail
                                  go_ret
                                  exact ⟨ret_bool HE.out.symm, HB4.out⟩
                              · obtain rfl : m = q := by omega
                                have md : decide ((m : Int) < (m : Int)) = false := decide_eq_false (by omega)
                                have HEq : Hid (x = y) := by
                                  have h1 := take_all HQ1.out HQ2.out hT3.out
                                  obtain ⟨a1, a2, a3, a4⟩ := HAll.out
                                  show x = y
                                  cases x
                                  cases y
                                  cases a1
                                  cases a2
                                  cases a3
                                  cases a4
                                  cases h1
                                  rfl
                                have HNk := Lib.hid (HNj.out HEq.out)
                                have HB4 := Lib.hid hB3.out.1
                                go_wp2_with fail
                                go_roundw
                                case rel => exact ⟨j + 1, by omega, by go_num, HNk.out, HB4.out⟩
                                case measure => simp [intOf]; omega
                          · have ep : ((x.p.length : Int) == (y.p.length : Int)) = false := by rw [beq_eq_false_iff_ne]; omega
                            have HE := Lib.hid (HNf.out fun e => hp (by rw [e]))
                            go_wp2_with fail
                            go_ret
                            exact ⟨ret_bool HE.out.symm, HWW.out⟩
                        · have ex : (x.x == y.x) = false := by rw [beq_eq_false_iff_ne]; exact hx
                          have HE := Lib.hid (HNf.out fun e => hx (by rw [e]))
                          go_wp2_with fail
                          go_ret
                          exact ⟨ret_bool HE.out.symm, HWW.out⟩
                      · have ei : (x.i == y.i) = false := by rw [beq_eq_false_iff_ne]; exact hi_
                        have HE := Lib.hid (HNf.out fun e => hi_ (by rw [e]))
                        go_wp2_with fail
                        go_ret
                        exact ⟨ret_bool HE.out.symm, HWW.out⟩
                    · have en : (x.n == y.n) = false := by rw [beq_eq_false_iff_ne]; exact hn_
                      have HE := Lib.hid (HNf.out fun e => hn_ (by rw [e]))
                      go_wp2_with fail
                      go_ret
                      exact ⟨ret_bool HE.out.symm, HWW.out⟩
                  · have ek : (x.k == y.k) = false := by rw [beq_eq_false_iff_ne]; exact hk
                    have HE := Lib.hid (HNf.out fun e => hk (by rw [e]))
                    go_wp2_with fail
                    go_ret
                    exact ⟨ret_bool HE.out.symm, HWW.out⟩
              · obtain rfl : j = k := by omega
                have jd : decide ((j : Int) < (j : Int)) = false := decide_eq_false (by omega)
                have HEq : Hid (c = d) := by
                  have h1 := take_all HK1.out HK2.out hT2.out
                  have h2 := HNm.out
                  show c = d
                  cases c
                  cases d
                  cases h1
                  cases h2
                  rfl
                have HNk := Lib.hid (HNx.out HEq.out)
                have HB4 := Lib.hid hW2.out
                go_wp2_with fail
                go_roundw
                case rel => exact ⟨i + 1, by omega, by go_num, HNk.out, HB4.out⟩
                case measure => simp [intOf]; omega
          · have e2 : ((c.as.length : Int) == (d.as.length : Int)) = false := by rw [beq_eq_false_iff_ne]; omega
            have HE : Hid (decide (cs = ds) = false) := HNe.out fun e => hal (by rw [e])
            go_wp2_with fail
            go_quiet (fail)
            rename_i nq _
            have HB2 := Lib.hid (drewT hW.out nq)
            generalize wr.drewN nq = wd at HB2
            go_wp2_with fail
            go_ret
            exact ⟨ret_bool HE.out.symm, HB2.out⟩
        · have e1 : (c.n == d.n) = false := by rw [beq_eq_false_iff_ne]; exact hnm
          have HE : Hid (decide (cs = ds) = false) := HNe.out fun e => hnm (by rw [e])
          go_wp2_with fail
          go_quiet (fail)
          rename_i nq _
          have HB2 := Lib.hid (drewT hW.out nq)
          generalize wr.drewN nq = wd at HB2
          go_wp2_with fail
          go_ret
          exact ⟨ret_bool HE.out.symm, HB2.out⟩
      · obtain rfl : i = n := by omega
        have hd : decide ((i : Int) < (i : Int)) = false := decide_eq_false (by omega)
        have HE : Hid (decide (cs = ds) = true) := decide_eq_true (take_all HN.out HM.out hT.out)
        go_wp2_with fail
        go_ret
        exact ⟨ret_bool HE.out.symm, hW.out⟩
  · have e0 : ((n : Int) == (m : Int)) = false := by rw [beq_eq_false_iff_ne]; omega
    have HE : Hid (decide (cs = ds) = false) := decide_eq_false (fun e => hnm (by rw [hn, hm, e]))
    clear hn hm
    go_enter Tryz.func11, Tryz.ntmps11
    go_wp2_with fail
    go_ret
    exact ⟨ret_bool HE.out.symm, Below.refl _ _⟩
end Go.Proofs.YtmccbcficbbidaaGreatDoor.Pw
