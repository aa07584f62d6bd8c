/-
  Part 5: NumPrint, ValTell, LitPure, TlChar, UtfParts, UtfEach, UtfCalls, UtfRepair, TlText, TlMade, RdText1.
-/
import Derived.Test.YtgfbednfiejlfaaGreatDoorLitCutsCardP3
import Derived.RangeFuncBox
import Derived.Laws.CopyOwn
import Derived.Lib.BufferWrite
import Derived.Test.YtgfbednfiejlfaaGreatDoorLitCutsCardP1
import Derived.Test.YtgfbednfiejlfaaGreatDoorLitCutsCardP4
import Derived.Lib.BufferKept
import Derived.Deep.RegionHeld3
import Derived.RangeFuncNested
import Derived.RangeFuncBound
import Derived.RangeFuncCalls
import Derived.RangeFuncLeaves
import Derived.Shelf.Abstract
import Derived.Shelf.RegionOpen
import Derived.OwnWalkIn
import Derived.TacticsInMore
import Derived.LoopNIn
import Derived.LoopIn
import Derived.Maps.AppendAt
import Derived.Lib.RuneCountTail
import Derived.Lib.OthersKept
/-
  Contract of number.Print: the number's digits; all older memory lies as it lay.
-/
namespace Go.Proofs.YtgfbednfiejlfaaGreatDoor.Num
open Go.RowKit Go.Proofs.YtgfbednfiejlfaaGreatDoor.Oct

/-- A digit's cell. -/
abbrev dv (d : Nat) : Value := .int .u8 (((48 + d : Nat)) : Int)
/-- The array, once these digits, the lowest first, are laid from its end on. -/
def arr (done : List Nat) : List Value := List.replicate (19 - done.length) (.int .u8 0) ++ done.reverse.map dv
theorem arr_len {done : List Nat} (h : done.length ≤ 19) : (arr done).length = 19 := by simp [arr]; omega
theorem arr_at {done : List Nat} (h : done.length < 19) : (arr done)[18 - done.length]? = some (.int .u8 0) := by
  unfold arr
  rw [List.getElem?_append_left (by simp; omega), List.getElem?_replicate, if_pos (by omega)]
theorem arr_snoc {done : List Nat} (d : Nat) (h : done.length < 19) : (arr done).set (18 - done.length) (dv d) = arr (done ++ [d]) := by
  unfold arr
  rw [List.set_append_left _ _ (by simp; omega)]
  have e : 19 - done.length = (18 - done.length) + 1 := by omega
  rw [e, List.replicate_succ', List.set_append_right _ _ (by simp)]
  simp [show 19 - (done.length + 1) = 18 - done.length by omega]

/-- What holds once these digits are laid. -/
def PrintAt (w : World) (done : List Nat) (W : World) : Prop :=
  W.heap[w.heap.size]? = some (.cells (arr done).toArray 94 (0, 0)) ∧ Boxed W (w.heap.size + 1) 3 (.int .i64 ((19 - done.length : Nat) : Int)) ∧ Below w.heap.size w W

theorem enter_print1 : ∀ args w, (callFunc 72 args).run Tryz.prog w = .ok (.enter 72 args) w := enters_of Tryz.func72 (by kernel_rfl) rfl

theorem cell_of_row {W : World} {g k : Nat} {l : List Value} {t : TypeId} {v : Value} (h : W.heap[g]? = some (.cells l.toArray t (0, 0))) (hv : l[k]? = some v) : W.cell? ⟨g, k, none⟩ = some v := by
  simp [World.cell?, h, hv]
theorem free_of_row {W : World} {g k : Nat} {l : List Value} {t : TypeId} (h : W.heap[g]? = some (.cells l.toArray t (0, 0))) : W.frozen? ⟨g, k, none⟩ = false := by
  simp [World.frozen?, h]

theorem print1_c (w W : World) (done : List Nat) (d : Nat) (hd : d < 10) (hl : done.length < 19) (h : PrintAt w done W) :
    Calls Tryz.prog 72 #[.int .u8 (d : Int), .pointer (some ⟨w.heap.size + 1, 0, none⟩), .pointer (some ⟨w.heap.size, 0, none⟩)] W fun e W' => (∃ v, e = .returned v) ∧ PrintAt w (done ++ [d]) W' := by
  obtain ⟨k, hk⟩ : ∃ k, 18 - done.length = k := ⟨_, rfl⟩
  obtain ⟨h1, h2, h3⟩ := h
  have e19 : 19 - done.length = k + 1 := by omega
  rw [e19] at h2
  have c1 := h2.cell
  have f1 := h2.frozen
  have c2 := cell_of_row h1 (arr_at hl)
  have f2 := free_of_row (k := 18 - done.length) h1
  rw [hk] at c2 f2
  have hk18 : k ≤ 18 := by omega
  have H := Lib.hid (And.intro h1 (And.intro h2 h3))
  have HE := Lib.hid (And.intro hk e19)
  clear h1 h2 h3 hk e19
  go_enter Tryz.func72, Tryz.ntmps72
  go_wp2
  go_end0
  obtain ⟨h1, h2, h3⟩ := H.out
  obtain ⟨hk, e19⟩ := HE.out
  refine ⟨⟨_, rfl⟩, ?_, ?_, (h3.setCell (p := ⟨w.heap.size + 1, 0, none⟩) (by simp) _).setCell (p := ⟨w.heap.size, k, none⟩) (by simp) _⟩
  · have a1 : (W.setCell ⟨w.heap.size + 1, 0, none⟩ (Value.int .i64 (k : Int))).heap[w.heap.size]? = some (.cells (arr done).toArray 94 (0, 0)) := by
      rw [heap_setCell_other _ _ _ _ (by simp)]; exact h1
    have a2 := heap_setCell_same _ w.heap.size k _ 94 (Value.int .u8 (48 + (d : Int))) a1
    rw [a2, List.setIfInBounds_toArray, ← arr_snoc d hl, hk]
    rfl
  · have b1 := h2.set (Value.int .i64 (k : Int))
    rw [List.length_append, List.length_singleton, show 19 - (done.length + 1) = k by omega]
    unfold Boxed
    rw [heap_setCell_other _ _ _ _ (by simp)]
    exact b1

set_option maxHeartbeats 1000000 in
theorem eachDigit_c (u : Nat) (hu : u < 18446744073709551616) (g : Nat) (lb : Array Value) (w : World) (J : List Nat → World → Prop)
    (eg : ∀ args w, (callFunc g args).run Tryz.prog w = .ok (.enter g args) w) (h0 : J [] w)
    (hdo : ∀ (done : List Nat) (d : Nat) (W : World), J done W → d < 10 → done.length < (lowL u).length → Calls Tryz.prog g (#[.int .u8 (d : Int)] ++ lb) W fun e W' => (∃ v, e = .returned v) ∧ J (done ++ [d]) W') :
    Calls Tryz.prog 70 #[.int .u64 (u : Int), .func (.func g) #[] lb] w fun e W' => (∃ v, e = .returned v) ∧ J (lowL u) W' := by
  have hc := hdo [] (u % 10) w h0 (by omega) (by unfold lowL; simp)
  have hL : Hid (([] ++ [u % 10]) ++ rest (u / 10) = lowL u) := rfl
  have HD := Lib.hid hdo
  obtain ⟨d, hd⟩ : ∃ d, u % 10 = d := ⟨_, rfl⟩
  rw [hd] at hc hL
  have hI : (u : Int) % 10 = (d : Int) := by omega
  have hd10 : d < 10 := by omega
  clear hdo hd h0
  go_enter Tryz.func70, Tryz.ntmps70
  go_wp2_with (go_at_fn g; refine hc.mono ?_; rintro e w1 ⟨⟨v, rfl⟩, hJ1⟩)
  have HJ1 := Lib.hid hJ1
  clear hJ1 hc
  go_loopw [0] (fun x wr => ∃ (cur : Nat) (done : List Nat), x = .int .u64 (cur : Int) ∧ cur < 18446744073709551616 ∧ Hid (done ++ rest cur = lowL u) ∧ Hid (J done wr)) (fun x _ => (intOf x).toNat)
  case atStart => exact ⟨u / 10, [] ++ [d], by go_num, by omega, hL, HJ1⟩
  case round =>
    obtain ⟨cur, done, rfl, hcur, hE, hJ⟩ := hrel
    by_cases hlt : 0 < cur
    · have hlen : done.length < (lowL u).length := by
        have := congrArg List.length hE.out
        rw [rest_pos hlt, List.length_append, List.length_cons] at this
        omega
      have hc := HD.out done (cur % 10) wr hJ.out (by omega) hlen
      have hE2 : Hid ((done ++ [cur % 10]) ++ rest (cur / 10) = lowL u) := by
        show _ = _
        rw [← hE.out, rest_pos hlt]
        simp
      obtain ⟨d2, hd2⟩ : ∃ d2, cur % 10 = d2 := ⟨_, rfl⟩
      rw [hd2] at hc hE2
      have hI2 : (cur : Int) % 10 = (d2 : Int) := by omega
      have hd210 : d2 < 10 := by omega
      clear hd2 hlen
      go_wp2_with (go_at_fn g; refine hc.mono ?_; rintro e w2 ⟨⟨v2, rfl⟩, hJ2⟩)
      go_roundw
      case rel => exact ⟨cur / 10, done ++ [d2], by go_num, by omega, hE2, hJ2⟩
      case measure => simp [intOf]; omega
    · have hz : cur = 0 := by omega
      subst hz
      go_wp2
      go_end0
      have := hE.out
      rw [rest_zero, List.append_nil] at this
      exact ⟨⟨_, rfl⟩, by rw [← this]; exact hJ.out⟩

theorem info_u8 : (Tryz.prog.info? 5).map (fun i => (i.zero, i.size, i.bytes)) = some (some (.int .u8 0), 1, 1) := by kernel_rfl

/-- The array at its start. -/
theorem arr_nil : arr [] = [Value.int .u8 0, .int .u8 0, .int .u8 0, .int .u8 0, .int .u8 0, .int .u8 0, .int .u8 0, .int .u8 0, .int .u8 0, .int .u8 0, .int .u8 0, .int .u8 0, .int .u8 0, .int .u8 0, .int .u8 0, .int .u8 0, .int .u8 0, .int .u8 0, .int .u8 0] := rfl

theorem digits_c (m : Nat) (hm : m < 10000000000000000000) (w w1 : World) (h : PrintAt w [] w1) :
    Calls Tryz.prog 70 #[.int .u64 (m : Int), .func (.func 72) #[] #[.pointer (some ⟨w.heap.size + 1, 0, none⟩), .pointer (some ⟨w.heap.size, 0, none⟩)]] w1 fun e W' => (∃ v, e = .returned v) ∧ PrintAt w (lowL m) W' :=
  eachDigit_c m (by omega) _ _ w1 (PrintAt w) enter_print1 h (fun done d W hJ hd hl => print1_c w W done d hd (by have := lowL_len hm; omega) hJ)

theorem start_at (w : World) : PrintAt w [] ((w.alloc (.cells #[Value.int .u8 0, .int .u8 0, .int .u8 0, .int .u8 0, .int .u8 0, .int .u8 0, .int .u8 0, .int .u8 0, .int .u8 0, .int .u8 0, .int .u8 0, .int .u8 0, .int .u8 0, .int .u8 0, .int .u8 0, .int .u8 0, .int .u8 0, .int .u8 0, .int .u8 0] 94)).alloc (.cells #[.int .i64 19] 3)) := by
  refine ⟨?_, ?_, ((Below.refl _ w).alloc (Nat.le_refl _) _).alloc (by simp) _⟩
  · rw [Go.heap_alloc_old _ _ (by simp), World.alloc_heap_new]; rfl
  · have := Boxed.new (w.alloc (.cells #[Value.int .u8 0, .int .u8 0, .int .u8 0, .int .u8 0, .int .u8 0, .int .u8 0, .int .u8 0, .int .u8 0, .int .u8 0, .int .u8 0, .int .u8 0, .int .u8 0, .int .u8 0, .int .u8 0, .int .u8 0, .int .u8 0, .int .u8 0, .int .u8 0, .int .u8 0] 94)) 3 (.int .i64 19)
    rwa [World.size_alloc] at this

/-- An octet's value. -/
abbrev bv (c : UInt8) : Value := .int .u8 (c.toNat : Int)
theorem digs_cells (m : Nat) : (lowL m).reverse.map dv = (decL m).map bv := by
  unfold decL
  rw [List.map_map]
  apply List.map_congr_left
  intro d hd
  show dv d = Value.int .u8 ((dig d).toNat : Int)
  rw [dig_toNat (lowL_lt m d (List.mem_reverse.1 hd))]

theorem arr_src {done : List Nat} {j : Nat} {v : Value} (h : (done.reverse.map dv)[j]? = some v) : (arr done)[19 - done.length + j]? = some v := by
  unfold arr
  rw [List.getElem?_append_right (by simp)]
  simpa using h

theorem one_bv (l : List UInt8) : ∀ v ∈ l.map bv, v.oneCell' = true := by
  intro v hv
  obtain ⟨b, _, rfl⟩ := List.mem_map.1 hv
  rfl

/-- 'string(out)' of a row that is known whole. -/
theorem conv_row {W : World} {g q : Nat} {l : List UInt8} {cur : List Value} (h : W.heap[g]? = some (.cells cur.toArray 5 (0, 0))) (hl : l.length = q) (hc : cur = l.map bv) :
    (convert 59 9 (.slice (some ⟨g, 0, none⟩) q q)).run Tryz.prog W = .ok (.string (S l)) W := by
  subst hl
  exact run_convert_bytes_back (P := Tryz.prog) W 59 9 5 ⟨g, 0, none⟩ l.length l Tryz.underlying59 Tryz.underlying5 Tryz.underlying9 (fun j hj => by
    rw [Addr.add_lit, Nat.zero_add]
    refine cell_of_row h ?_
    rw [hc]
    simp [hj])

set_option maxHeartbeats 1000000 in
theorem print_neg (n : Int) (w : World) (h0 : -9223372036854775808 ≤ n) (h1 : n < 0) :
    Calls Tryz.prog 52 #[.int .i64 n] w fun e w' => e = .returned (.string (S (printL n))) ∧ Below w.heap.size w w' := by
  have hm : n.natAbs < 10000000000000000000 := by omega
  have hc := digits_c n.natAbs hm w _ (start_at w)
  have hz := fun w => sizeOf_c n w h0 (by omega)
  have hlen := lowL_len hm
  have hpos : 0 < (lowL n.natAbs).length := by unfold lowL; simp
  obtain ⟨p, hp⟩ : ∃ p, 19 - (lowL n.natAbs).length = p := ⟨_, rfl⟩
  have F : Hid (printL n = 45 :: decL n.natAbs) := by show _ = _; unfold printL; rw [if_pos h1]
  have HP := Lib.hid (And.intro hp hlen)
  have hp18 : p ≤ 18 := by omega
  clear hm
  generalize n.natAbs = m at hc hz hlen hpos F HP
  clear hp hlen hpos
  go_enter Tryz.func52, Tryz.ntmps52
  go_wp2_with fail
  refine (hz _).mono ?_
  rintro e w' ⟨rfl, rfl⟩
  go_wp2_with fail
  refine hc.mono ?_
  rintro e w1 ⟨⟨v, rfl⟩, ha, hb, hk⟩
  rw [HP.out.1] at hb
  have hcell := hb.cell
  have HA := Lib.hid (And.intro ha (And.intro hb hk))
  clear hc hz ha hb hk
  obtain ⟨q, hq⟩ : ∃ q, 20 - p = q := ⟨_, rfl⟩
  obtain ⟨i0, hi, hz0, hz1, hz2⟩ := info_parts info_u8
  have hinfo : (Tryz.prog.info? 5).map (·.size) = some 1 := by rw [hi]; simp [hz1]
  obtain ⟨M, hM⟩ : ∃ M, M = madeCells (Value.int .u8 0).cells (((q : Nat) : Int).toNat * i0.size) := ⟨_, rfl⟩
  have hMs : M.size = q := by rw [hM, size_madeCells, hz1]; simp
  have hmk : (Instr.makeSlice 59 (.int .i64 (20 - (p : Int))) (.int .i64 (20 - (p : Int)))).run Tryz.prog w1 = .ok (.slice (some ⟨w1.heap.size, 0, none⟩) q q) (w1.alloc (.cells M 5)) := by
    have h := run_make (P := Tryz.prog) w1 59 5 i0 (.int .u8 0) Tryz.underlying59 hi hz0 .i64 .i64 (q : Int) (q : Int) (by omega) (by omega) (by rw [hz2]; omega) (by omega)
    rw [← hM] at h
    rw [show (20 - (p : Int)) = (q : Int) by omega]
    simpa using h
  have hcp := Lib.run_copy_row_string (P := Tryz.prog) (w1.alloc (.cells M 5)) 59 9 3 5 w1.heap.size 0 q q ⟨#[45]⟩ M 5 Tryz.underlying59 hinfo (heap_alloc_new w1 _) (by show 1 ≤ q; omega) (by show 0 + 1 ≤ M.size; omega)
  obtain ⟨Y, hY⟩ : ∃ Y, Y = (M.toList.take 0 ++ Lib.byteCells (⟨#[45]⟩ : ByteArray).data.toList ++ M.toList.drop (0 + (⟨#[45]⟩ : ByteArray).size)) := ⟨_, rfl⟩
  rw [← hY] at hcp
  have HY : Hid (Y.length = q ∧ Y.take 1 = [bv 45]) := ⟨by rw [hY]; show (Value.int .u8 45 :: M.toList.drop 1).length = q; rw [List.length_cons, List.length_drop, Array.length_toList, hMs]; omega, by rw [hY]; rfl⟩
  have G : Hid (((w1.alloc (.cells M 5)).setRow w1.heap.size Y.toArray).heap[w1.heap.size]? = some (.cells Y.toArray 5 (0, 0))) := setRow_heap _ _ _ _ _ (0, 0) (heap_alloc_new w1 _)
  have G2 : Hid (∀ k, k < w1.heap.size → ((w1.alloc (.cells M 5)).setRow w1.heap.size Y.toArray).heap[k]? = w1.heap[k]?) := fun k hk => by
    rw [setRow_other _ _ _ _ (by omega), Go.heap_alloc_old _ _ hk]
  have G3 : Hid (Below w.heap.size w ((w1.alloc (.cells M 5)).setRow w1.heap.size Y.toArray)) := below_setRow (HA.out.2.2.alloc HA.out.2.2.size _) HA.out.2.2.size _
  clear hY
  generalize (w1.alloc (.cells M 5)).setRow w1.heap.size Y.toArray = w2 at hcp G G2 G3
  have HQ := Lib.hid hq
  clear hM hMs hq hi hz0 hz1 hz2
  go_wp2_with fail
  clear hcell hmk hcp
  obtain ⟨ha, hb, hk⟩ := HA.out
  have hsz := hb.lt
  have hcell : w2.cell? ⟨w.heap.size + 1, 0, none⟩ = some (.int .i64 (p : Int)) := Boxed.cell (t := 3) (by unfold Boxed; rw [G2.out _ hsz]; exact hb)
  have hq2 : (1 : Int) ≤ (q : Int) := by have := HQ.out; omega
  have hq3 : ¬ q = 1 := by have := HQ.out; omega
  have hp2 : (p : Int) ≤ 19 := by omega
  have hp3 : ¬ 19 = p := by omega
  obtain ⟨cs, hcs⟩ : ∃ cs, cs = (decL m).map bv := ⟨_, rfl⟩
  have hcl : cs.length = 19 - p := by rw [hcs, List.length_map, decL_len]; have := HP.out; omega
  have HB2 : Hid (Below w.heap.size w w2.drew) := G3.out.drew
  have HSRC : Hid (∀ j v, cs[j]? = some v → w2.drew.cell? ((⟨w.heap.size, p, none⟩ : Addr).add j) = some v) := by
    intro j v hv
    rw [hcs, ← digs_cells] at hv
    have h1 := arr_src hv
    rw [HP.out.1] at h1
    rw [Addr.add_lit]
    exact cell_of_row (W := w2) (t := 94) (by rw [G2.out _ (by omega)]; exact ha) h1
  have HFIT : Hid (1 + cs.length ≤ Y.length) := by show _ ≤ _; rw [HY.out.1, hcl]; have := HQ.out; omega
  have HONE : Hid (∀ v ∈ cs, v.oneCell' = true) := by rw [hcs]; exact one_bv _
  have HN : Hid (cs.length = Nat.min (19 - p) (q - 1)) := by
    show _ = _
    rw [hcl, show q - 1 = 19 - p by have := HQ.out; omega]
    exact (Nat.min_self _).symm
  have HBG : Hid (w.heap.size ≤ w1.heap.size) := by show _ ≤ _; omega
  have HCV : Hid (splice Y 1 cs = (45 :: decL m).map bv ∧ (45 :: decL m).length = q) := by
    refine ⟨?_, ?_⟩
    · unfold splice
      rw [HY.out.2, List.drop_of_length_le (by rw [HY.out.1, hcl]; have := HQ.out; omega), List.append_nil, hcs]
      rfl
    · have := HQ.out
      rw [hcs, List.length_map] at hcl
      rw [List.length_cons]; omega
  clear ha hb hk hcs hcl
  go_region_law (refine step_copy_splice rfl (.tmp 25) (.tmp 27) 59 59 rfl 5 Tryz.underlying59 hinfo (some ⟨w1.heap.size, 1, none⟩) (some ⟨w.heap.size, p, none⟩) (q - 1) (q - 1) (19 - p) (19 - p) (by simp [Act.eval, Act.put]) (by simp [Act.eval, Act.put]) w1.heap.size 1 Y 5 G.out cs HN.out (fun _ => ⟨rfl, _, rfl, HSRC.out⟩) HFIT.out HONE.out w.heap.size w HB2.out HBG.out ?_; intro w4 hg4 hb4)
  have hcv := conv_row hg4.out HCV.out.2 HCV.out.1
  have HB4 := Lib.hid hb4
  clear hb4 hcell
  go_wp2
  go_ret
  exact ⟨by rw [F.out]; rfl, HB4.out⟩

set_option maxRecDepth 100000 in
set_option maxHeartbeats 1000000 in
theorem print_pos (n : Int) (w : World) (h0 : 0 ≤ n) (h1 : n ≤ 9223372036854775807) :
    Calls Tryz.prog 52 #[.int .i64 n] w fun e w' => e = .returned (.string (S (printL n))) ∧ Below w.heap.size w w' := by
  have hm : n.natAbs < 10000000000000000000 := by omega
  have hc := digits_c n.natAbs hm w _ (start_at w)
  have hz := fun w => sizeOf_c n w (by omega) h1
  have hlen := lowL_len hm
  have hpos : 0 < (lowL n.natAbs).length := by unfold lowL; simp
  obtain ⟨p, hp⟩ : ∃ p, 19 - (lowL n.natAbs).length = p := ⟨_, rfl⟩
  have F : Hid (printL n = decL n.natAbs) := by show _ = _; unfold printL; rw [if_neg (by omega)]
  have HP := Lib.hid (And.intro hp hlen)
  have hp18 : p ≤ 18 := by omega
  clear hm
  generalize n.natAbs = m at hc hz hlen hpos F HP
  clear hp hlen hpos
  go_enter Tryz.func52, Tryz.ntmps52
  go_wp2_with fail
  refine (hz _).mono ?_
  rintro e w' ⟨rfl, rfl⟩
  go_wp2_with fail
  refine hc.mono ?_
  rintro e w1 ⟨⟨v, rfl⟩, ha, hb, hk⟩
  rw [HP.out.1] at hb
  have hcell := hb.cell
  have HA := Lib.hid (And.intro ha (And.intro hb hk))
  clear hc hz ha hb hk
  obtain ⟨q, hq⟩ : ∃ q, 19 - p = q := ⟨_, rfl⟩
  obtain ⟨i0, hi, hz0, hz1, hz2⟩ := info_parts info_u8
  have hinfo : (Tryz.prog.info? 5).map (·.size) = some 1 := by rw [hi]; simp [hz1]
  obtain ⟨M, hM⟩ : ∃ M, M = madeCells (Value.int .u8 0).cells (((q : Nat) : Int).toNat * i0.size) := ⟨_, rfl⟩
  have hMs : M.size = q := by rw [hM, size_madeCells, hz1]; simp
  have hmk : (Instr.makeSlice 59 (.int .i64 (19 - (p : Int))) (.int .i64 (19 - (p : Int)))).run Tryz.prog w1 = .ok (.slice (some ⟨w1.heap.size, 0, none⟩) q q) (w1.alloc (.cells M 5)) := by
    have h := run_make (P := Tryz.prog) w1 59 5 i0 (.int .u8 0) Tryz.underlying59 hi hz0 .i64 .i64 (q : Int) (q : Int) (by omega) (by omega) (by rw [hz2]; omega) (by omega)
    rw [← hM] at h
    rw [show (19 - (p : Int)) = (q : Int) by omega]
    simpa using h
  have hcp := Lib.run_copy_empty_string (P := Tryz.prog) (w1.alloc (.cells M 5)) 59 9 3 5 (some ⟨w1.heap.size, 0, none⟩) q q ⟨#[]⟩ Tryz.underlying59 (by rw [hinfo]; rfl) rfl
  obtain ⟨Y, hY⟩ : ∃ Y, Y = M.toList := ⟨_, rfl⟩
  have HY : Hid (Y.length = q ∧ Y.take 0 = []) := ⟨by rw [hY, Array.length_toList, hMs], by rfl⟩
  have G : Hid ((w1.alloc (.cells M 5)).heap[w1.heap.size]? = some (.cells Y.toArray 5 (0, 0))) := by
    show _ = _
    rw [heap_alloc_new, hY, Array.toArray_toList]
  have G2 : Hid (∀ k, k < w1.heap.size → (w1.alloc (.cells M 5)).heap[k]? = w1.heap[k]?) := fun k hk => Go.heap_alloc_old _ _ hk
  have G3 : Hid (Below w.heap.size w (w1.alloc (.cells M 5))) := HA.out.2.2.alloc HA.out.2.2.size _
  clear hY
  obtain ⟨w2, hw2⟩ : ∃ w2, w2 = w1.alloc (.cells M 5) := ⟨_, rfl⟩
  rw [← hw2] at hcp hmk G G2 G3
  clear hw2
  have HQ := Lib.hid hq
  clear hM hMs hq hi hz0 hz1 hz2
  go_wp2_with fail
  clear hcell hmk hcp
  obtain ⟨ha, hb, hk⟩ := HA.out
  have hsz := hb.lt
  have hcell : w2.cell? ⟨w.heap.size + 1, 0, none⟩ = some (.int .i64 (p : Int)) := Boxed.cell (t := 3) (by unfold Boxed; rw [G2.out _ hsz]; exact hb)
  have hq2 : (0 : Int) ≤ (q : Int) := by omega
  have hp2 : (p : Int) ≤ 19 := by omega
  have hp3 : ¬ 19 = p := by omega
  obtain ⟨cs, hcs⟩ : ∃ cs, cs = (decL m).map bv := ⟨_, rfl⟩
  have hcl : cs.length = 19 - p := by rw [hcs, List.length_map, decL_len]; have := HP.out; omega
  have HB2 : Hid (Below w.heap.size w w2.drew) := G3.out.drew
  have HSRC : Hid (∀ j v, cs[j]? = some v → w2.drew.cell? ((⟨w.heap.size, p, none⟩ : Addr).add j) = some v) := by
    intro j v hv
    rw [hcs, ← digs_cells] at hv
    have h1 := arr_src hv
    rw [HP.out.1] at h1
    rw [Addr.add_lit]
    exact cell_of_row (W := w2) (t := 94) (by rw [G2.out _ (by omega)]; exact ha) h1
  have HFIT : Hid (0 + cs.length ≤ Y.length) := by show _ ≤ _; rw [HY.out.1, hcl]; have := HQ.out; omega
  have HONE : Hid (∀ v ∈ cs, v.oneCell' = true) := by rw [hcs]; exact one_bv _
  have HN : Hid (cs.length = Nat.min (19 - p) (q)) := by
    show _ = _
    rw [hcl, show q = 19 - p by have := HQ.out; omega]
    exact (Nat.min_self _).symm
  have HBG : Hid (w.heap.size ≤ w1.heap.size) := by show _ ≤ _; omega
  have HCV : Hid (splice Y 0 cs = (decL m).map bv ∧ (decL m).length = q) := by
    refine ⟨?_, ?_⟩
    · unfold splice
      rw [HY.out.2, List.drop_of_length_le (by rw [HY.out.1, hcl]; have := HQ.out; omega), List.append_nil, hcs]
      rfl
    · have := HQ.out
      rw [hcs, List.length_map] at hcl
      omega
  clear ha hb hk hcs hcl
  go_region_law (refine step_copy_splice rfl (.tmp 25) (.tmp 27) 59 59 rfl 5 Tryz.underlying59 hinfo (some ⟨w1.heap.size, 0, none⟩) (some ⟨w.heap.size, p, none⟩) (q) (q) (19 - p) (19 - p) (by simp [Act.eval, Act.put]) (by simp [Act.eval, Act.put]) w1.heap.size 0 Y 5 G.out cs HN.out (fun _ => ⟨rfl, _, rfl, HSRC.out⟩) HFIT.out HONE.out w.heap.size w HB2.out HBG.out ?_; intro w4 hg4 hb4)
  have hcv := conv_row hg4.out HCV.out.2 HCV.out.1
  have HB4 := Lib.hid hb4
  clear hb4 hcell
  go_wp2
  go_ret
  exact ⟨by rw [F.out]; rfl, HB4.out⟩


theorem print_c (n : Int) (w : World) (h0 : -9223372036854775808 ≤ n) (h1 : n ≤ 9223372036854775807) :
    Calls Tryz.prog 52 #[.int .i64 n] w fun e w' => e = .returned (.string (S (printL n))) ∧ Below w.heap.size w w' := by
  by_cases hn : n < 0
  · exact print_neg n w h0 hn
  · exact print_pos n w (by omega) h1
end Go.Proofs.YtgfbednfiejlfaaGreatDoor.Num

/-
  Contracts of values.tell, at a text and at a number, into a builder: what Print puts together.
-/
namespace Go.Proofs.YtgfbednfiejlfaaGreatDoor.Val
open Go.RowKit Go.Proofs.YtgfbednfiejlfaaGreatDoor.Oct Go.Proofs.YtgfbednfiejlfaaGreatDoor.Num Go.Proofs.YtgfbednfiejlfaaGreatDoor.Build

theorem enter_write : ∀ args w, (callFunc 34 args).run Tryz.prog w = .ok (.enter 34 args) w := enters_of Tryz.func34 (by kernel_rfl) rfl

/-- The builder in block b holds these octets. -/
abbrev Has (B b : Nat) (l : List UInt8) (w : World) : Prop := Is B b (Lib.byteCells l) w

theorem has_below {B b : Nat} {l : List UInt8} {W W' : World} (h : Has B b l W) (hb : Below W.heap.size W W') : Has B b l W' := by
  have one : ∀ p, Lib.BuilderAt 61 5 B b p (Lib.byteCells l) W → Lib.BuilderAt 61 5 B b p (Lib.byteCells l) W' := fun p h => by
    have hlt := h.lt
    obtain ⟨h1, v, h2, h3, h4⟩ := h
    refine ⟨h1, v, by rw [hb.block b hlt]; exact h2, ?_, h4⟩
    refine h3.kept (row := none) ⟨hb.os, hb.tape, hb.output, hb.size, fun k hk _ => hb.block k hk⟩ ?_
    rcases h3.2 with ⟨rfl, _⟩ | ⟨g, cap, cur, rfl, _⟩
    · exact .inl rfl
    · exact .inr (by simp [Value.ownBlock])
  rcases h with h | h
  · exact .inl (one _ h)
  · exact .inr (one _ h)

theorem has_lt {B b : Nat} {l : List UInt8} {W : World} (h : Has B b l W) : B ≤ b ∧ b < W.heap.size := by
  rcases h with h | h
  · exact ⟨h.1, h.lt⟩
  · exact ⟨h.1, h.lt⟩

/-- What a call leaves that puts octets into the builder. -/
def Put (B b : Nat) (l : List UInt8) (w : World) (e : Ending) (w' : World) : Prop := e = .returned (.tuple #[]) ∧ Has B b l w' ∧ Below B w w' ∧ Others b w w'

end Go.Proofs.YtgfbednfiejlfaaGreatDoor.Val

/-
  Plain facts on literals, with no program: a character, a text, a value as a script's literal.
-/
namespace Go.Proofs.YtgfbednfiejlfaaGreatDoor.Lit
open Go.Proofs.YtgfbednfiejlfaaGreatDoor.Oct Go.Proofs.YtgfbednfiejlfaaGreatDoor.Num Go.Proofs.YtgfbednfiejlfaaGreatDoor.Utf Go.Proofs.YtgfbednfiejlfaaGreatDoor.Val

/-- Does a character stand as it is? -/
def bareB (c : Int) : Bool := decide ((97 ≤ c ∧ c ≤ 122) ∨ (65 ≤ c ∧ c ≤ 90) ∨ (48 ≤ c ∧ c ≤ 57) ∨ c = 32 ∨ c = 95 ∨ c = 46 ∨ c = 44)
/-- A backslash, u and four digits. -/
def escL (n : Nat) : List UInt8 := [92, 117] ++ hexL n 4
/-- A character within quotes. -/
def charL (c : Int) : List UInt8 :=
  if bareB c then [c.toNat.toUInt8] else if 65536 ≤ c then escL (55296 + (c - 65536).toNat / 1024) ++ escL (56320 + (c - 65536).toNat % 1024) else escL c.toNat
/-- Characters within quotes. -/
def insideL (cs : List Int) : List UInt8 := cs.flatMap charL
/-- A text as a literal. -/
def quoteL (s : ByteArray) : List UInt8 := [34] ++ insideL (chars s.data.toList) ++ [34]

theorem escL_len (n : Nat) : (escL n).length = 6 := by simp [escL, hexL_length]
theorem charL_pos (c : Int) : 1 ≤ (charL c).length := by
  unfold charL
  split
  · simp
  · split
    · simp [escL_len]
    · simp [escL_len]
theorem insideL_snoc (cs : List Int) (c : Int) : insideL (cs ++ [c]) = insideL cs ++ charL c := by simp [insideL]
theorem insideL_len (cs : List Int) : cs.length ≤ (insideL cs).length := by
  induction cs with
  | nil => simp
  | cons c cs ih =>
    have e : insideL (c :: cs) = charL c ++ insideL cs := rfl
    rw [e, List.length_append, List.length_cons]
    have := charL_pos c
    omega
theorem insideL_take (cs : List Int) (k : Nat) : (insideL (cs.take k)).length ≤ (insideL cs).length := by
  have e : insideL cs = insideL (cs.take k) ++ insideL (cs.drop k) := by
    unfold insideL
    rw [← List.flatMap_append, List.take_append_drop]
  rw [e, List.length_append]
  omega
theorem parts_wide (l : List UInt8) : l.length ≤ 4 * (parts l).length := by
  refine parts_ind (P := fun l => l.length ≤ 4 * (parts l).length) (by simp [parts_nil]) (fun x t h ih => ?_) (fun c t hc ih => ?_) l
  · rw [parts_bad x t h, List.length_cons, List.length_cons]; omega
  · rw [parts_enc1 c hc, List.length_append, List.length_cons]
    have := (enc_len c).2
    omega
theorem quoteL_wide (s : ByteArray) : s.size ≤ 4 * (quoteL s).length := by
  have h1 := parts_wide s.data.toList
  have h2 := insideL_len (chars s.data.toList)
  have h3 : (chars s.data.toList).length = (parts s.data.toList).length := by unfold chars; simp
  have h4 : (quoteL s).length = (insideL (chars s.data.toList)).length + 2 := by simp [quoteL]
  rw [size_list] at h1
  omega

/-- The key of a place, with its sign. -/
def keyAt (r : Bool) (ks : List ByteArray) (k : Nat) : List UInt8 := if r then (match ks[k]? with | some key => quoteL key ++ [58] | none => []) else []
/-- What stands between the brackets, of the first k values. -/
def joinK (r : Bool) (ks : List ByteArray) (ts : List (List UInt8)) : Nat → List UInt8
  | 0 => []
  | k + 1 => joinK r ks ts k ++ ((if k = 0 then [] else [44]) ++ (keyAt r ks k ++ ts.getD k []))

/-- Between brackets. -/
def brackL (a b : UInt8) (t : List UInt8) : List UInt8 := [a] ++ t ++ [b]
theorem brackL_len (a b : UInt8) (t : List UInt8) : (brackL a b t).length = t.length + 2 := by simp [brackL]

mutual
/-- A value as a literal. -/
def litL : V → List UInt8
  | .mk k n s l ks => if k = 0 then [110, 117, 108, 108] else if k = 1 then [102, 97, 108, 115, 101] else if k = 2 then [116, 114, 117, 101]
    else if k = 3 then (if n < 0 then 32 :: printL n else printL n)
    else if k = 5 then brackL 91 93 (joinK false ks (litAll l) (litAll l).length)
    else if k = 6 then brackL 123 125 (joinK true ks (litAll l) (litAll l).length) else quoteL s
def litAll : List V → List (List UInt8)
  | [] => []
  | x :: l => litL x :: litAll l
end

theorem litAll_eq (l : List V) : litAll l = l.map litL := by
  induction l with
  | nil => rfl
  | cons x l ih => rw [litAll, ih]; rfl
theorem litAll_len (l : List V) : (litAll l).length = l.length := by rw [litAll_eq]; simp
theorem litAll_at (l : List V) (k : Nat) (h : k < l.length) : (litAll l).getD k [] = litL l[k] := by rw [litAll_eq]; simp [h]

theorem joinK_le (r : Bool) (ks : List ByteArray) (ts : List (List UInt8)) {j k : Nat} (h : j ≤ k) : (joinK r ks ts j).length ≤ (joinK r ks ts k).length := by
  induction k with
  | zero =>
    have : j = 0 := by omega
    subst this; exact Nat.le_refl _
  | succ k ih =>
    rcases Nat.lt_or_ge k j with h1 | h1
    · have : j = k + 1 := by omega
      subst this; exact Nat.le_refl _
    · have := ih h1
      simp only [joinK, List.length_append]
      omega

mutual
/-- No Kind above 6 in it. -/
def plainV : V → Bool
  | .mk k _ _ l _ => plainAll l && decide (k < 7)
def plainAll : List V → Bool
  | [] => true
  | x :: l => plainV x && plainAll l
end
theorem plainAll_eq (l : List V) : plainAll l = l.all plainV := by
  induction l with
  | nil => rfl
  | cons x l ih => rw [plainAll, ih]; rfl
end Go.Proofs.YtgfbednfiejlfaaGreatDoor.Lit

/-
  Contracts of literal's put closure, bare, tellUnit and tellChar: a character, put into a builder.
-/
namespace Go.Proofs.YtgfbednfiejlfaaGreatDoor.Tl
open Go.RowKit Go.Proofs.YtgfbednfiejlfaaGreatDoor.Oct Go.Proofs.YtgfbednfiejlfaaGreatDoor.Utf Go.Proofs.YtgfbednfiejlfaaGreatDoor.Build Go.Proofs.YtgfbednfiejlfaaGreatDoor.Val Go.Proofs.YtgfbednfiejlfaaGreatDoor.Lit
open Go.Lib (encodeRune)

theorem enter_put : ∀ args w, (callFunc 33 args).run Tryz.prog w = .ok (.enter 33 args) w := enters_of Tryz.func33 (by kernel_rfl) rfl
/-- The function value that puts a text into the builder in block b. -/
abbrev putG (b : Nat) : Value := .func (.func 33) #[] #[.pointer (some ⟨b, 0, none⟩)]

set_option maxHeartbeats 1000000 in
theorem put_c (B b : Nat) (l t : List UInt8) (w : World) (h : Has B b l w) (hlen : l.length + t.length ≤ 140737488355328) (hBw : B ≤ w.heap.size) :
    Calls Tryz.prog 33 #[.string (S t), .pointer (some ⟨b, 0, none⟩)] w (Put B b (l ++ t) w) := by
  have e30 := enter_write
  have hc := write_c B b (Lib.byteCells l) (S t) w h (by rw [Lib.byteCells_length, size_S]; exact hlen) hBw
  rw [Lib.strCells_eq, ← Lib.byteCells_append] at hc
  clear h
  go_enter Tryz.func33, Tryz.ntmps33
  go_wp2_with (go_at_fn 34; refine hc.mono ?_; rintro e w1 ⟨rfl, h1, h2, h3⟩)
  go_end0
  exact ⟨rfl, h1, h2, h3⟩

theorem hexI_c (n : Nat) (hn : n < 65536) (w : World) : Calls Tryz.prog 78 #[.int .i64 (n : Int), .int .i64 4] w fun e w' => e = .returned (.string (S (hexL n 4))) ∧ Below w.heap.size w w' := by
  have h := hex_c (n : Int) 4 w
  have e1 : u64 (n : Int) = n := by unfold u64; omega
  have e2 : clamp 4 = 4 := by decide
  rw [e1, e2] at h
  exact h

set_option maxHeartbeats 1000000 in
theorem tellUnit_c (B b : Nat) (l : List UInt8) (n : Nat) (hn : n < 65536) (w : World) (h : Has B b l w) (hlen : l.length + 6 ≤ 140737488355328) (hBw : B ≤ w.heap.size) :
    Calls Tryz.prog 57 #[.int .i64 (n : Int), putG b] w (Put B b (l ++ escL n) w) := by
  have e9 := enter_put
  have hc := put_c B b l [92, 117] w h (by simp; omega) hBw
  have hh := hexI_c n hn
  have HC := Lib.hid (fun w1 (h1 : Has B b (l ++ [92, 117]) w1) (hB : B ≤ w1.heap.size) => put_c B b (l ++ [92, 117]) (hexL n 4) w1 h1 (by simp [hexL_length]; omega) hB)
  have e3 : Hid (l ++ escL n = (l ++ [92, 117]) ++ hexL n 4) := by show _ = _; simp [escL]
  have HB := Lib.hid hBw
  clear h hBw
  go_enter Tryz.func57, Tryz.ntmps57
  go_wp2_with (first
    | (go_at_call 78; refine (hh _).mono ?_; rintro e w2 ⟨rfl, h2⟩; have H2 := Lib.hid h2; clear h2; have hc2 := HC.out w2 (has_below H1.out.1 H2.out) (Nat.le_trans HB.out (Nat.le_trans H1.out.2.1.size H2.out.size)))
    | (go_at_fn 33; refine hc2.mono ?_; rintro e w3 h3; obtain rfl := h3.1)
    | (go_at_fn 33; refine hc.mono ?_; rintro e w1 ⟨rfl, h1⟩; have H1 := Lib.hid h1; clear h1))
  go_end0
  rw [e3.out]
  exact ⟨rfl, h3.2.1, (H1.out.2.1.trans (H2.out.mono (Nat.le_trans HB.out H1.out.2.1.size))).trans h3.2.2.1, (H1.out.2.2.below H2.out).trans h3.2.2.2⟩

theorem signs_at : ∀ k : Fin 128, decide (0 ≤ Lib.indexByte [32, 95, 46, 44] (k.val).toUInt8) = (k.val == 32 || k.val == 95 || k.val == 46 || k.val == 44) := by decide +kernel

set_option maxHeartbeats 2000000 in
theorem bare_c (c : Int) (w : World) (h0 : 0 ≤ c) (h1 : c ≤ 1114111) : Calls Tryz.prog 56 #[.int .i64 c] w fun e w' => e = .returned (.bool (bareB c)) ∧ w' = w := by
  by_cases h128 : c ≤ 127
  · have hu : IntKind.u8.wrap c = c := by rw [IntKind.wrap_u8]; omega
    have hl := letter_c c w h0 (by omega)
    have hd := Num.within_c c 48 57 w
    have hx := Tryz.strings_IndexByte (S [32, 95, 46, 44]) c w
    have hs := signs_at ⟨c.toNat, by omega⟩
    simp only at hs hx
    obtain ⟨q, hq⟩ : ∃ q, Lib.indexByte [32, 95, 46, 44] c.toNat.toUInt8 = q := ⟨_, rfl⟩
    rw [hq] at hs hx
    clear hq
    have hgt : ¬ 127 < c := by omega
    cases el : letterI c with
    | true =>
      rw [el] at hl
      have F : Hid (bareB c = true) := by show _ = _; simp [letterI] at el; simp [bareB]; omega
      clear el hs
      go_enter Tryz.func56, Tryz.ntmps56
      go_wp2_with (go_at_call 75; refine hl.mono ?_; rintro e w' ⟨rfl, rfl⟩)
      go_ret
      exact ⟨by rw [F.out]; rfl, rfl⟩
    | false =>
      rw [el] at hl
      cases ed : Num.betweenB c 48 57 with
      | true =>
        rw [ed] at hd
        have F : Hid (bareB c = true) := by show _ = _; simp [Num.betweenB] at ed; simp [bareB]; omega
        clear el ed hs
        go_enter Tryz.func56, Tryz.ntmps56
        go_wp2_with (first | (go_at_call 75; refine hl.mono ?_; rintro e w' ⟨rfl, rfl⟩) | (go_at_call 76; refine hd.mono ?_; rintro e w' ⟨rfl, rfl⟩))
        go_ret
        exact ⟨by rw [F.out]; rfl, rfl⟩
      | false =>
        rw [ed] at hd
        have F : Hid (bareB c = decide (0 ≤ q)) := by
          show _ = _
          rw [hs]
          simp [Num.betweenB] at ed; simp [letterI] at el
          rw [Bool.eq_iff_iff]; simp [bareB]; omega
        clear el ed hs
        go_enter Tryz.func56, Tryz.ntmps56
        go_wp2_with (first | (go_at_call 75; refine hl.mono ?_; rintro e w' ⟨rfl, rfl⟩) | (go_at_call 76; refine hd.mono ?_; rintro e w' ⟨rfl, rfl⟩) | (go_at_call 77; refine hx.mono ?_; rintro e w' ⟨rfl, rfl⟩))
        go_ret
        exact ⟨by rw [F.out]; rfl, rfl⟩
  · have F : Hid (bareB c = false) := by show _ = _; simp [bareB]; omega
    have hd : 127 < c := by omega
    go_enter Tryz.func56, Tryz.ntmps56
    go_wp2
    go_ret
    exact ⟨by rw [F.out]; rfl, rfl⟩

theorem encode_ascii : ∀ k : Fin 128, Utf8.encode (k.val : Int) = S [(k.val).toUInt8] := by decide +kernel
theorem bare_lt {c : Int} (h : bareB c = true) : 0 ≤ c ∧ c < 128 := by simp [bareB] at h; omega
theorem bare_text {c : Int} (h : bareB c = true) : Utf8.encode c = S [c.toNat.toUInt8] := by
  obtain ⟨h0, h1⟩ := bare_lt h
  obtain ⟨k, rfl⟩ : ∃ k : Fin 128, c = (k.val : Int) := ⟨⟨c.toNat, by omega⟩, by show c = ((c.toNat : Nat) : Int); omega⟩
  exact encode_ascii k
theorem tellUnit_i (B b : Nat) (l : List UInt8) (m : Int) (n : Nat) (hm : m = (n : Int)) (hn : n < 65536) (w : World) (h : Has B b l w) (hlen : l.length + 6 ≤ 140737488355328) (hBw : B ≤ w.heap.size) :
    Calls Tryz.prog 57 #[.int .i64 m, putG b] w (Put B b (l ++ escL n) w) := by
  rw [hm]; exact tellUnit_c B b l n hn w h hlen hBw

set_option maxHeartbeats 1000000 in
theorem tellChar_c (B b : Nat) (l : List UInt8) (c : Int) (h0 : 0 ≤ c) (h1 : c ≤ 1114111) (w : World) (h : Has B b l w) (hlen : l.length + 12 ≤ 140737488355328) (hBw : B ≤ w.heap.size) :
    Calls Tryz.prog 42 #[.int .i64 c, putG b] w (Put B b (l ++ charL c) w) := by
  have e9 := enter_put
  have hb := fun w => bare_c c w h0 h1
  unfold charL
  cases hq : bareB c with
  | true =>
    rw [hq] at hb
    simp only [if_true]
    have hc := put_c B b l [c.toNat.toUInt8] w h (by simp; omega) hBw
    rw [← bare_text hq] at hc
    clear h hBw
    go_enter Tryz.func42, Tryz.ntmps42
    go_wp2_with (first
      | (go_at_call 56; refine (hb _).mono ?_; rintro e w2 ⟨rfl, rfl⟩)
      | (go_at_fn 33; refine hc.mono ?_; rintro e w3 h3; obtain rfl := h3.1))
    go_end0
    exact h3
  | false =>
    rw [hq] at hb
    simp only [Bool.false_eq_true, if_false]
    by_cases h6 : 65536 ≤ c
    · rw [if_pos h6]
      obtain ⟨x, hx⟩ : ∃ x : Nat, c - 65536 = (x : Int) := ⟨(c - 65536).toNat, by omega⟩
      have hx2 : x < 1048576 := by omega
      have e1 : (c - 65536).toNat = x := by omega
      rw [e1]
      clear e1
      have hm := bits_mask .i64 62 (by decide) (fun n h0 h1 => by rw [IntKind.wrap_i64]; omega) 10 (by decide) (x : Int) (by omega) (by omega)
      have e2 : ((2 : Int) ^ 10 - 1) = 1023 := by decide
      rw [e2] at hm
      have HT := Lib.hid (fun w1 (h1 : Has B b (l ++ escL (55296 + x / 1024)) w1) (hB : B ≤ w1.heap.size) (m : Int) (hm : m = ((56320 + x % 1024 : Nat) : Int)) => tellUnit_i B b (l ++ escL (55296 + x / 1024)) m (56320 + x % 1024) hm (by omega) w1 h1 (by simp [escL_len]; omega) hB)
      have HT0 := Lib.hid (fun (m : Int) (hm : m = ((55296 + x / 1024 : Nat) : Int)) => tellUnit_i B b l m (55296 + x / 1024) hm (by omega) w h (by omega) hBw)
      have HB := Lib.hid hBw
      clear h hBw
      have e3 : (2 : Int) ^ 10 = 1024 := by decide
      rw [e3] at hm
      clear e2 e3
      go_enter Tryz.func42, Tryz.ntmps42
      go_wp2_with (first
        | (go_at_call 56; refine (hb _).mono ?_; rintro e w2 ⟨rfl, rfl⟩)
        | (go_at_call 57; refine (HT.out w3 H3.out.2.1 (Nat.le_trans HB.out H3.out.2.2.1.size) _ (by omega)).mono ?_; rintro e w4 h4; obtain rfl := h4.1)
        | (go_at_call 57; refine (HT0.out _ (by omega)).mono ?_; rintro e w3 h3; obtain rfl := h3.1; have H3 := Lib.hid h3; clear h3))
      go_end0
      rw [← List.append_assoc]
      exact ⟨rfl, h4.2.1, H3.out.2.2.1.trans h4.2.2.1, H3.out.2.2.2.trans h4.2.2.2⟩
    · rw [if_neg h6]
      have HT0 := Lib.hid (fun (m : Int) (hm : m = ((c.toNat : Nat) : Int)) => tellUnit_i B b l m c.toNat hm (by omega) w h (by omega) hBw)
      clear h hBw
      go_enter Tryz.func42, Tryz.ntmps42
      go_wp2_with (first
        | (go_at_call 56; refine (hb _).mono ?_; rintro e w2 ⟨rfl, rfl⟩)
        | (go_at_call 57; refine (HT0.out _ (by omega)).mono ?_; rintro e w3 h3; obtain rfl := h3.1))
      go_end0
      exact h3
end Go.Proofs.YtgfbednfiejlfaaGreatDoor.Tl

/-
  Contracts of utf.parts and of the iterator that it hands out: the parts of the text, from the left.
-/
namespace Go.Proofs.YtgfbednfiejlfaaGreatDoor.Utf
open Go.RowKit Go.Proofs.YtgfbednfiejlfaaGreatDoor.Oct Go.Proofs.YtgfbednfiejlfaaGreatDoor.Mem
open Go.Lib (encodeRune)

attribute [local go_sem] Oper.semAt_some

/-- A part of a text: a character, or -1. -/
abbrev Part := { c : Int // c = -1 ∨ isChar c }
abbrev vals (l : List Part) : List Int := l.map (·.1)

/-- What the iterator reads between two rounds: the text, in the box B, and Go's own tables. -/
def Reads (B : Nat) (s : ByteArray) (W : World) : Prop := W.cell? ⟨B, 0, none⟩ = some (.string s) ∧ Tabs W
def KeepsReads (B : Nat) (s : ByteArray) (W W' : World) : Prop := Reads B s W → Reads B s W'

theorem Reads.kept {B : Nat} {s : ByteArray} {W W' : World} (h : Reads B s W) (hb : Kept W W') : Reads B s W' := ⟨kept_cell hb h.1, h.2.kept hb⟩
theorem Reads.turned {B : Nat} {s : ByteArray} {W W' : World} {row : Option Nat} (h : Reads B s W) (hg : W.grownBy W' row) (hr : ∀ r, row = some r → ∃ o : Obj, W.heap[r]? = some o ∧ o.isCells = false) : Reads B s W' :=
  ⟨cell_kept h.1 hg hr, fun c hc => cell_kept (h.2.1 c hc) hg hr, fun i hi => ⟨cell_kept (h.2.2 i hi).1 hg hr, cell_kept (h.2.2 i hi).2 hg hr⟩⟩
theorem keepsReads_t {B : Nat} {s : ByteArray} {X Y Z : World} (h : KeepsReads B s X Y) (k : KeepsReads B s Y Z) : KeepsReads B s X Z := fun x => k (h x)
theorem keepsReads_b {B : Nat} {s : ByteArray} {w : World} (W : World) (l : Nat) (o o' : Obj) (_ : w.heap.size ≤ l) (h : W.heap[l]? = some o) (hc : o.isCells = false) (_ : o.isWalk = false) : KeepsReads B s W (W.putObj l o') :=
  fun x => x.turned (grownBy_putObj' W l o') (fun r e => by cases e; exact ⟨o, h, hc⟩)
theorem kept_grown {W W' : World} (h : Kept W W') : W.grownBy W' none := ⟨h.os, h.tape, h.output, h.size, fun k hk _ => h.block k hk⟩

set_option maxRecDepth 100000 in
set_option maxHeartbeats 2000000 in
theorem parts1_stops (n : Nat) (hn : 1 ≤ n) (B : Nat) (s : ByteArray) (hs : s.size ≤ 4611686018427387904) (w : World) (hR : Reads B s w) :
    SeqStopsK Fence.wide n Tryz.prog 89 #[.pointer (some ⟨B, 0, none⟩)] (fun x : Part => #[Value.int .i64 x.1]) (KeepsReads B s) (fun xs => vals xs = parts s.data.toList) (fun pre => vals pre <+: parts s.data.toList) s.size w :=
  fun l J Jx W hW hJ hJx hY h0 => by
  have hR0 := hR.kept hW
  clear hR hJx
  refine callsIn_of_wp Tryz.func89 rfl trivial ?_ rfl
  simp only [Tryz.ntmps89, List.size_toArray, List.length_cons, List.length_nil, Nat.reduceAdd, Nat.reduceSub, Array.replicate_succ, Array.replicate_zero, List.push_toArray, List.append_toArray, List.nil_append, List.cons_append]
  gi_wp2
  gi_loopw [3, 4, 5] (fun i _ _ wr => ∃ (a : Nat) (pre : List Part), a ≤ s.size ∧ i = .int .i64 a ∧ Hid (vals pre ++ parts (s.data.toList.drop a) = parts s.data.toList) ∧ Hid (pre.length ≤ a) ∧ Hid (J pre wr) ∧ Hid (Reads B s wr))
    (fun i _ _ _ => s.size - (intOf i).toNat)
  case atStart => exact ⟨0, [], Nat.zero_le _, rfl, by show _ = _; simp, Nat.le_refl _, h0, hR0⟩
  case round =>
    obtain ⟨a, pre, ha, rfl, hpre, hlen, hJs, hRs⟩ := hrel
    clear h0 hR0
    have hcell : wr.cell? ⟨B, 0, none⟩ = some (.string s) := hRs.out.1
    by_cases hlt : a < s.size
    · have hd := decode_c (s.extract a s.size) wr hRs.out.2
      rw [cut_list] at hd
      have hne : s.data.toList.drop a ≠ [] := by
        intro e; have := congrArg List.length e; rw [List.length_drop, size_list] at this; simp at this; omega
      have hw := dec_width _ hne
      rw [List.length_drop, size_list] at hw
      have hc := dec_char _ hne
      have hst : Hid (parts (s.data.toList.drop a) = (dec (s.data.toList.drop a)).1 :: parts (s.data.toList.drop (a + (dec (s.data.toList.drop a)).2))) := by
        show _ = _
        rw [parts_step _ hne, List.drop_drop]
      clear hne
      generalize dec (s.data.toList.drop a) = d at hd hw hc hst
      obtain ⟨c, k⟩ := d
      simp only at hd hw hc
      have hst' : Hid (parts (s.data.toList.drop a) = c :: parts (s.data.toList.drop (a + k))) := hst
      clear hst
      have HC := Lib.hid hc
      clear hc
      gi_wp2_with fail
      refine ⟨trivial, ?_⟩
      refine (callsIn_wide.2 hd).mono ?_
      rintro e w1 ⟨rfl, hb⟩
      obtain ⟨fn, tmps, assign, body, hy, hRd⟩ := hY pre ⟨c, HC.out⟩ w1 (hJ pre wr w1 none hJs.out (kept_grown hb) (fun r e => by cases e)) (by have := hlen.out; omega)
      have hR1 := Lib.hid (hRs.out.kept hb)
      have hcell1 : w1.cell? ⟨B, 0, none⟩ = some (.string s) := hR1.out.1
      clear hcell hb hd
      dsimp only at hy
      gi_wp2
      refine hRd.mono ?_
      rintro e W3 (⟨rfl, hJ3, hk3⟩ | ⟨rfl, hJx3⟩)
      · have hR3 := Lib.hid (hk3 hR1.out)
        have HJ3 := Lib.hid hJ3
        clear hJ3 hk3 hy hcell1
        gi_wp2
        go_roundw
        case rel =>
          refine ⟨a + k, pre ++ [⟨c, HC.out⟩], by omega, by go_num, ?_, ?_, HJ3, hR3⟩
          · show _ = _
            rw [← hpre.out, hst'.out]; simp
          · show _ ≤ _
            have := hlen.out; simp; omega
        case measure => simp [intOf]; omega
      · gi_wp2
        refine bodyPost_ret (results_none rfl _ _ _) rfl ?_
        refine ⟨⟨_, rfl⟩, .inr ⟨_, ⟨parts (s.data.toList.drop (a + k)), ?_⟩, hJx3⟩⟩
        rw [← hpre.out, hst'.out]; simp
    · gi_wp2
      go_end0
      refine ⟨⟨_, rfl⟩, .inl ⟨pre, ?_, hJs.out⟩⟩
      rw [← hpre.out, List.drop_eq_nil_of_le (by rw [size_list]; omega), parts_nil, List.append_nil]

set_option maxHeartbeats 1000000 in
/-- utf.parts: the text is boxed; the function value holds the box. -/
theorem parts_c (n : Nat) (s : ByteArray) (w : World) :
    CallsIn Fence.wide n Tryz.prog 73 #[.string s] w fun e w' => e = .returned (.func (.func 89) #[] #[.pointer (some ⟨w.heap.size, 0, none⟩)]) ∧ w' = w.alloc (.cells #[.string s] 9) := by
  refine callsIn_of_wp Tryz.func73 rfl trivial ?_ rfl
  simp only [Tryz.ntmps73, List.size_toArray, List.length_cons, List.length_nil, Nat.reduceAdd, Nat.reduceSub, Array.replicate_succ, Array.replicate_zero, List.push_toArray, List.append_toArray, List.nil_append, List.cons_append]
  gi_wp2
  go_ret
  exact ⟨rfl, rfl⟩
end Go.Proofs.YtgfbednfiejlfaaGreatDoor.Utf

/-
  Contracts of utf.eachRepaired, at whatever function value that is handed in and whatever it makes of memory of its own, and of utf.anyPart, at a function value that changes nothing.
-/
namespace Go.Proofs.YtgfbednfiejlfaaGreatDoor.Utf
open Go.RowKit Go.Proofs.YtgfbednfiejlfaaGreatDoor.Oct Go.Proofs.YtgfbednfiejlfaaGreatDoor.Mem
open Go.Lib (encodeRune)

attribute [local go_sem] Oper.semAt_some

theorem enter_parts1 : ∀ args w, (callFunc 89 args).run Tryz.prog w = .ok (.enter 89 args) w := enters_of Tryz.func89 (by kernel_rfl) rfl

/-- The world in which eachRepaired begins its loop: the function value and the text in boxes of their own. -/
abbrev eachWorld (w : World) (dov : Value) (s : ByteArray) : World := (w.alloc (.cells #[dov] 69)).alloc (.cells #[.string s] 9)

set_option maxRecDepth 100000 in
set_option maxHeartbeats 4000000 in
theorem each_c (s : ByteArray) (hs : s.size ≤ 4611686018427387904) (g : Nat) (lb : Array Value) (w : World) (J : List Int → World → Prop)
    (eg : ∀ args w, (callFunc g args).run Tryz.prog w = .ok (.enter g args) w)
    (hQ : ∀ pre W, J pre W → W.cell? ⟨w.heap.size, 0, none⟩ = some (.func (.func g) #[] lb) ∧ Reads (w.heap.size + 1) s W)
    (hown : OwnFrom (w.heap.size + 2) J)
    (h0 : J [] (eachWorld w (.func (.func g) #[] lb) s))
    (hdo : ∀ pre c W, J pre W → isChar c → c ≠ 0 → pre.length < s.size → Calls Tryz.prog g (#[.int .i64 c] ++ lb) W fun e W' => (∃ v, e = .returned v) ∧ J (pre ++ [c]) W' ∧ KeepsOthers W W') :
    Calls Tryz.prog 53 #[.string s, .func (.func g) #[] lb] w fun e W' => (∃ v, e = .returned v) ∧ J (chars s.data.toList) W' := by
  refine (callsIn_wide (n := 3)).1 ?_
  refine callsIn_of_wp_marks Tryz.func53 rfl trivial ?_ rfl
  simp only [Tryz.ntmps53, List.size_toArray, List.length_cons, List.length_nil, Nat.reduceAdd, Nat.reduceSub, Array.replicate_succ, Array.replicate_zero, List.push_toArray, List.append_toArray, List.nil_append, List.cons_append]
  gi_wp2_with fail
  refine ⟨trivial, ?_⟩
  refine (parts_c _ s _).mono ?_
  rintro e w' ⟨rfl, rfl⟩
  gi_wp2
  have hR0 : Reads (w.heap.size + 1) s (eachWorld w (.func (.func g) #[] lb) s) := (hQ _ _ h0).2
  refine wpIn_rangeFunc_ownF rfl (by omega) (gf := 89) (lb := #[.pointer (some ⟨w.heap.size + 1, 0, none⟩)]) rfl trivial enter_parts1
    (parts1_stops _ (by omega) (w.heap.size + 1) s hs _ hR0) keepsReads_t keepsReads_b (Below.refl _ _) (fun _ => rfl)
    (fun pre W => J ((vals pre).map fix) W)
    (fun _ _ _ => False)
    (fun p X Y row hp hg hr => hown _ X Y row hp hg (fun r e => by have := hr r e; simp at this; exact this))
    (fun _ _ _ _ _ hs _ _ => hs)
    h0
    (fun x => { tmps := #[.string s, .func (.func g) #[] lb, undef, .pointer (some ⟨w.heap.size, 0, none⟩), .int .i64 x.1, .string s, .func (.func 89) #[] #[.pointer (some ⟨w.heap.size + 1, 0, none⟩)], .int .i64 x.1, undef, undef, undef, undef, undef, undef, undef, undef, undef], defers := [] }) ?assign ?body ?done ?stop
  case assign =>
    intro l x W K hK
    gi_wp2
    exact hK
  case body =>
    rintro l pre ⟨c, hc⟩ W hJ hlen
    have hcell : W.cell? ⟨w.heap.size, 0, none⟩ = some (.func (.func g) #[] lb) := (hQ _ _ hJ).1
    have hf := fix_char hc
    have hcall := hdo _ (fix c) W hJ hf.1 hf.2 (by simpa using hlen)
    have hJ3 : ∀ W', J ((vals pre).map fix ++ [fix c]) W' → J ((vals (pre ++ [⟨c, hc⟩])).map fix) W' := fun W' h => by simpa using h
    have HJ3 := Lib.hid hJ3
    have HQ := Lib.hid hQ
    clear hJ3 hf hQ hown h0 hdo hR0
    by_cases h1 : c = -1
    · subst h1
      have e1 : fix (-1) = 65533 := by decide
      rw [e1] at hcall HJ3
      clear e1
      gi_wp2_with fail
      refine ⟨trivial, (CallsIn.inRound l (callsIn_wide.2 hcall)).mono ?_⟩
      rintro e W' ⟨⟨v, rfl⟩, hJ', hk'⟩
      clear hcall hcell
      gi_wp2
      exact ⟨hk', fun _ => (HQ.out _ _ hJ').2, HJ3.out _ hJ'⟩
    · by_cases h2 : c = 0
      · subst h2
        have e1 : fix 0 = 65533 := by decide
        rw [e1] at hcall HJ3
        clear e1 h1
        gi_wp2_with fail
        refine ⟨trivial, (CallsIn.inRound l (callsIn_wide.2 hcall)).mono ?_⟩
        rintro e W' ⟨⟨v, rfl⟩, hJ', hk'⟩
        clear hcall hcell
        gi_wp2
        exact ⟨hk', fun _ => (HQ.out _ _ hJ').2, HJ3.out _ hJ'⟩
      · have e1 : fix c = c := by unfold fix; rw [if_neg (by omega)]
        rw [e1] at hcall HJ3
        have b1 : (c == -1) = false := by simpa using h1
        have b2 : (c == 0) = false := by simpa using h2
        clear e1 h1 h2
        gi_wp2_with fail
        refine ⟨trivial, (CallsIn.inRound l (callsIn_wide.2 hcall)).mono ?_⟩
        rintro e W' ⟨⟨v, rfl⟩, hJ', hk'⟩
        clear hcall hcell
        gi_wp2
        exact ⟨hk', fun _ => (HQ.out _ _ hJ').2, HJ3.out _ hJ'⟩
  case done =>
    rintro D ys W hD hS hJ hK
    gi_wp2
    refine ⟨by simp, .inl ⟨_, _, rfl, run_takeDeferred hK, ?_⟩⟩
    refine ⟨_, results_none rfl _ _ _, ⟨_, rfl⟩, ?_⟩
    have hJ' : J (chars s.data.toList) W := by unfold chars; rw [← hS]; exact hJ
    exact hown.putObj _ hJ' (by simp at hD; omega) hK rfl
  case stop =>
    rintro D c pre W _ _ h _
    exact h.elim

/-- What is asked of a function value that tells of a part whether it is wanted: it changes nothing. -/
def Asks (g : Nat) (lb : Array Value) (p : Int → Bool) : Prop :=
  ∀ (c : Int) (W : World), Calls Tryz.prog g (#[.int .i64 c] ++ lb) W fun e w' => e = .returned (.bool (p c)) ∧ W = w'

end Go.Proofs.YtgfbednfiejlfaaGreatDoor.Utf

/-
  Contracts of utf.Valid, Count, Repair, Chars.
-/
namespace Go.Proofs.YtgfbednfiejlfaaGreatDoor.Utf
open Go.RowKit Go.Proofs.YtgfbednfiejlfaaGreatDoor.Oct Go.Proofs.YtgfbednfiejlfaaGreatDoor.Mem
open Go.Lib (encodeRune)

/-! ### Valid -/
theorem valid_any (l : List UInt8) : (!(parts l).any (fun c => c == -1)) = valid l := by
  unfold valid
  rw [Bool.eq_iff_iff]
  simp

/-! ### Count -/
theorem each_boxes (w : World) (dov : Value) (s : ByteArray) :
    Boxed (eachWorld w dov s) w.heap.size 69 dov ∧ Boxed (eachWorld w dov s) (w.heap.size + 1) 9 (.string s) ∧ Kept w (eachWorld w dov s) := by
  refine ⟨(Boxed.new w _ _).alloc _, ?_, ((Below.refl _ w).alloc (Nat.le_refl _) _).alloc (by simp) _⟩
  have := Boxed.new (w.alloc (.cells #[dov] 69)) 9 (.string s)
  rwa [World.size_alloc] at this

theorem tabs_own {β : Type} (B : Nat) : OwnFrom B (fun (_ : β) W => Tabs W) := fun _ _ _ _ hs hg hr =>
  ⟨fun c hc => cell_kept (hs.1 c hc) hg (fun r e => (hr r e).2), fun i hi => ⟨cell_kept (hs.2 i hi).1 hg (fun r e => (hr r e).2), cell_kept (hs.2 i hi).2 hg (fun r e => (hr r e).2)⟩⟩

theorem Tabs.below {B : Nat} {w W : World} (h : Tabs w) (hB : w.heap.size ≤ B) (hb : Below B w W) : Tabs W := h.kept (hb.mono hB)

/-- What holds between two rounds of Count. -/
def CountAt (w : World) (b : Nat) (dov : Value) (s : ByteArray) (pre : List Int) (W : World) : Prop :=
  Boxed W b 3 (.int .i64 (pre.length : Int)) ∧ Boxed W (b + 1) 69 dov ∧ Boxed W (b + 2) 9 (.string s) ∧ Tabs W ∧ Kept w W

end Go.Proofs.YtgfbednfiejlfaaGreatDoor.Utf

/-
  Contracts of utf.Repair and utf.Chars.
-/
namespace Go.Proofs.YtgfbednfiejlfaaGreatDoor.Utf
open Go.RowKit Go.Proofs.YtgfbednfiejlfaaGreatDoor.Oct Go.Proofs.YtgfbednfiejlfaaGreatDoor.Mem
open Go.Lib (encodeRune)

/-! ### Repair -/
theorem enter_repair1 : ∀ args w, (callFunc 54 args).run Tryz.prog w = .ok (.enter 54 args) w := enters_of Tryz.func54 (by kernel_rfl) rfl

/-- Another box than the slice's, of another type than its cells, lies as it lay. -/
theorem other_box {W w1 : World} {n₀ B k : Nat} {t e : TypeId} {v v' u : Value} {n size : Nat} {xs : List Value} {tmp : Obj} (h : Boxed W k t u) (hte : t ≠ e) (hkB : k ≠ B) (hrow : W.ownsRow n₀ e size v n xs) (hgrow : (W.alloc tmp).grownBy w1 v.ownBlock) :
    Boxed (w1.setCell ⟨B, 0, none⟩ v') k t u := ((h.alloc tmp).kept hgrow (h.not_row hte hrow)).other hkB _

set_option maxHeartbeats 1000000 in
theorem repair1_c (c : Int) (hc0 : 0 ≤ c) (hc1 : c ≤ 1114111) (base b n : Nat) (v : Value) (l : List UInt8) (W : World) (hb : Boxed W b 59 v) (hrow : W.ownsRow base 5 1 v n (l.map bv)) (hn : n + 4 ≤ 140737488355328) (hbase : base ≤ W.heap.size) (hbb : base ≤ b) :
    Calls Tryz.prog 54 #[.int .i64 c, .pointer (some ⟨b, 0, none⟩)] W fun e W' => (∃ u, e = .returned u) ∧ ∃ v', Boxed W' b 59 v' ∧ W'.ownsRow base 5 1 v' (n + (encodeRune c).length) ((l ++ encodeRune c).map bv) ∧ KeepsOthers W W' ∧ Below base W W' ∧
      ∀ k t u, t ≠ 5 → k ≠ b → Boxed W k t u → Boxed W' k t u := by
  have ha := Tryz.utf8_AppendRune_plain base v n (l.map bv) c (by omega) (by omega) W hrow hn hbase
  rw [runeCells_eq, List.length_map, ← List.map_append] at ha
  obtain ⟨m, hm⟩ : ∃ m, n + (encodeRune c).length = m + 1 := ⟨n + (encodeRune c).length - 1, by have := enc_len c; omega⟩
  rw [hm] at ha ⊢
  have hcell := hb.cell
  have HB := Lib.hid hb
  have HR := Lib.hid hrow
  clear hm hb hrow
  go_enter Tryz.func54, Tryz.ntmps54
  go_wp2_with fail
  refine ha.mono ?_
  rintro e w1 ⟨v', rfl, hown, o, hg⟩
  clear ha hcell
  obtain ⟨g', cap', rfl⟩ := ownsRow_succ hown
  obtain ⟨hv1, hv2, hr2, hk2, hb2⟩ := HB.out.appended (by decide) HR.out hbase hbb hown hg
  have hoth := Lib.hid (fun k t u (ht : t ≠ 5) (hk : k ≠ b) (hx : Boxed W k t u) => other_box (v' := .slice (some ⟨g', 0, none⟩) (m + 1) cap') hx ht hk HR.out hg)
  have hc1' := hv1.cell
  have hf1' := hv1.frozen
  have H := Lib.hid (And.intro hv2 (And.intro hr2 (And.intro hk2 hb2)))
  clear hv1 hv2 hr2 hk2 hb2 hown hg
  go_wp2
  go_end0
  exact ⟨⟨_, rfl⟩, _, H.out.1, H.out.2.1, H.out.2.2.1, H.out.2.2.2, hoth.out⟩

/-- What holds between two rounds of Repair. -/
def RepairAt (w : World) (b : Nat) (dov : Value) (s : ByteArray) (pre : List Int) (W : World) : Prop :=
  (∃ v, Boxed W b 59 v ∧ W.ownsRow w.heap.size 5 1 v (encs pre).length ((encs pre).map bv) ∧ True) ∧ Boxed W (b + 1) 69 dov ∧ Boxed W (b + 2) 9 (.string s) ∧ Tabs W ∧ Kept w W

set_option maxHeartbeats 1000000 in
theorem repair_each (s : ByteArray) (hs : s.size ≤ 17592186044416) (w w0 : World) (hT : Tabs w) (hk0 : Kept w w0) (v0 : Value) (hown : w0.ownsRow w.heap.size 5 1 v0 0 []) :
    Calls Tryz.prog 53 #[.string s, .func (.func 54) #[] #[.pointer (some ⟨w0.heap.size, 0, none⟩)]] (w0.alloc (.cells #[v0] 59)) fun e W' => (∃ v, e = .returned v) ∧
      RepairAt w w0.heap.size (.func (.func 54) #[] #[.pointer (some ⟨w0.heap.size, 0, none⟩)]) s (chars s.data.toList) W' := by
  obtain ⟨w1, hw1⟩ : ∃ w1, w1 = w0.alloc (.cells #[v0] 59) := ⟨_, rfl⟩
  have hsz : w1.heap.size = w0.heap.size + 1 := by rw [hw1]; simp
  have hk1 : Kept w w1 := kept_trans hk0 (by rw [hw1]; exact (Below.refl _ w0).alloc (Nat.le_refl _) _)
  have hx := each_boxes w1 (.func (.func 54) #[] #[.pointer (some ⟨w0.heap.size, 0, none⟩)]) s
  rw [hsz] at hx
  rw [← hw1]
  refine each_c s (by omega) 54 #[.pointer (some ⟨w0.heap.size, 0, none⟩)] w1 _ enter_repair1 ?_ ?_ ?_ ?_
  · intro pre W h
    rw [hsz]; exact ⟨h.2.1.cell, h.2.2.1.cell, h.2.2.2.1⟩
  · rw [hsz]
    exact OwnFrom.and (Own.from (holdsRow_own _ _ _ _ _ (fun pre : List Int => (encs pre).length) (fun pre => (encs pre).map bv) (fun _ _ => True)) _) (OwnFrom.and (Own.from (boxed_own _ _ (fun _ => _)) _) (OwnFrom.and (Own.from (boxed_own _ _ (fun _ => _)) _) (OwnFrom.and (tabs_own _) (ownFrom_below (Nat.le_refl _) (by have := hk0.size; omega)))))
  · refine ⟨⟨v0, ?_, ?_, trivial⟩, hx.1, hx.2.1, hT.kept (kept_trans hk1 hx.2.2), kept_trans hk1 hx.2.2⟩
    · rw [hw1]
      exact ((Boxed.new w0 _ _).alloc _).alloc _
    · rw [hw1]
      exact ((hown.alloc _).alloc _).alloc _
  · rintro pre c W ⟨⟨v, hv, hr, _⟩, h2, h3, h4, h5⟩ hc h0 hlen
    have hel := encs_len pre
    have hcr : 0 ≤ c ∧ c ≤ 1114111 := by unfold isChar at hc; omega
    refine (repair1_c c hcr.1 hcr.2 w.heap.size w0.heap.size (encs pre).length v (encs pre) W hv hr (by omega) h5.size (hk0.size)).mono ?_
    rintro e W' ⟨he, v', hv', hr', hko, hbl, hoth⟩
    refine ⟨he, ⟨⟨v', hv', ?_, trivial⟩, hoth _ _ _ (by decide) (by omega) h2, hoth _ _ _ (by decide) (by omega) h3, hT.kept (Below.trans h5 hbl), Below.trans h5 hbl⟩, hko⟩
    rw [encs_snoc, List.length_append]; exact hr'

set_option maxHeartbeats 1000000 in
theorem repair_c (s : ByteArray) (hs : s.size ≤ 17592186044416) (w : World) (hT : Tabs w) :
    Calls Tryz.prog 41 #[.string s] w fun e w' => e = .returned (.string (S (rep s.data.toList))) ∧ Kept w w' := by
  obtain ⟨i0, hi, hz0, hz1, hz2⟩ := info_parts Go.Proofs.YtgfbednfiejlfaaGreatDoor.Mem.info_u8
  go_enter Tryz.func41, Tryz.ntmps41
  go_wp2_with (at_make; refine wpList_make_own _ rfl _ _ 59 rfl w.heap.size 5 i0 (.int .u8 0) 1 Tryz.underlying59 hi hz0 hz1 _ _ _ s.size rfl rfl rfl (by rw [hz2]; omega) (by unfold maxLen; omega) (Nat.le_refl _) ?_; intro w0 hown hgrow)
  refine (repair_each s hs w w0 hT ((Below.refl _ w).grown hgrow (Nat.le_refl _) (fun k hk => by cases hk)) _ hown).mono ?_
  rintro e w2 ⟨⟨u, rfl⟩, ⟨v, hv, hr, _⟩, h2, h3, h4, h5⟩
  have hcell := hv.cell
  have hcv := conv_own hr
  have H5 := Lib.hid h5
  have e1 : encs (chars s.data.toList) = rep s.data.toList := rfl
  rw [e1] at hcv
  clear hv hr h2 h3 h4 h5 hown hgrow hi hz0 hz1 hz2 e1
  go_wp2
  go_ret
  exact ⟨rfl, H5.out⟩

/-! ### Chars -/
/-- What holds between two rounds of Chars. -/
def CharsAt (w : World) (b : Nat) (dov : Value) (s : ByteArray) (pre : List Int) (W : World) : Prop :=
  (∃ v, Boxed W b 75 v ∧ W.ownsRow w.heap.size 3 1 v pre.length (pre.map iv) ∧ True) ∧ Boxed W (b + 1) 69 dov ∧ Boxed W (b + 2) 9 (.string s) ∧ Tabs W ∧ Kept w W

end Go.Proofs.YtgfbednfiejlfaaGreatDoor.Utf

/-
  Contract of literal's tellText: a text as a literal, put into a builder.
-/
namespace Go.Proofs.YtgfbednfiejlfaaGreatDoor.Tl
open Go.RowKit Go.Proofs.YtgfbednfiejlfaaGreatDoor.Oct Go.Proofs.YtgfbednfiejlfaaGreatDoor.Utf Go.Proofs.YtgfbednfiejlfaaGreatDoor.Build Go.Proofs.YtgfbednfiejlfaaGreatDoor.Val Go.Proofs.YtgfbednfiejlfaaGreatDoor.Lit
open Go.Lib (encodeRune)

theorem encs_app (a b : List Int) : encs (a ++ b) = encs a ++ encs b := by simp [encs]
theorem encs_at (cs : List Int) (j : Nat) (hj : j < cs.length) : encs cs = encs (cs.take j) ++ (encodeRune cs[j] ++ encs (cs.drop (j + 1))) := by
  have h2 := encs_app (cs.take j) (cs.drop j)
  rw [List.take_append_drop, List.drop_eq_getElem_cons hj] at h2
  exact h2

theorem decode_head (c : Int) (hc : isChar c) (t : List UInt8) : Utf8.decode (S (encodeRune c ++ t)) 0 = (c.toNat, (encodeRune c).length) := by
  have hl := (enc_len c).1
  have hg := go_dec (S (encodeRune c ++ t))
  rw [list_S, dec_enc _ hc] at hg
  have hz : ¬ (S (encodeRune c ++ t)).size = 0 := by rw [size_S, List.length_append]; omega
  have hD : Lib.decodeGo (S (encodeRune c ++ t)) = Utf8.decode (S (encodeRune c ++ t)) 0 := by
    unfold Lib.decodeGo
    rw [if_neg hz]
  rw [hD] at hg
  clear hD hz
  generalize Utf8.decode (S (encodeRune c ++ t)) 0 = d at hg ⊢
  generalize (encodeRune c).length = m at hg ⊢
  obtain ⟨r, k⟩ := d
  by_cases hh : r = 65533 ∧ k ≤ 1
  · rw [if_pos hh] at hg
    have h1 : c = -1 := congrArg Prod.fst hg
    unfold isChar at hc
    omega
  · rw [if_neg hh] at hg
    have h1 : c = (r : Int) := congrArg Prod.fst hg
    have h2 : m = k := congrArg Prod.snd hg
    rw [h1, h2]
    rfl

theorem decode_char (cs : List Int) (h : ∀ c ∈ cs, isChar c) (j : Nat) (hj : j < cs.length) :
    (encs (cs.take j)).length < (encs cs).length ∧ Utf8.decode (S (encs cs)) (encs (cs.take j)).length = (cs[j].toNat, (encodeRune cs[j]).length) ∧ (encs (cs.take (j + 1))).length = (encs (cs.take j)).length + (encodeRune cs[j]).length := by
  have e1 := encs_at cs j hj
  have hl := (enc_len cs[j]).1
  have hc := h cs[j] (List.getElem_mem _)
  refine ⟨?_, ?_, ?_⟩
  · rw [e1]
    simp only [List.length_append]
    omega
  · have h1 := Lib.tail_decode (S (encs cs)) (encs (cs.take j)).length 0
    rw [Nat.add_zero] at h1
    have e2 : (S (encs cs)).data.toList.drop (encs (cs.take j)).length = encodeRune cs[j] ++ encs (cs.drop (j + 1)) := by
      rw [list_S]
      conv => lhs; rw [e1]
      rw [List.drop_left]
    rw [← h1, Rd.cut_back, e2]
    exact decode_head _ hc _
  · rw [List.take_succ_eq_append_getElem hj, encs_snoc, List.length_append]

/-- A builder stays one where all builders and all rows of octets stay. -/
theorem has_frame {B b : Nat} {l : List UInt8} {W W' : World} (h : Has B b l W) (hk : ∀ (j : Nat) c T fz, W.heap[j]? = some (.cells c T fz) → (T = 61 ∨ T = 5) → W'.heap[j]? = W.heap[j]?) : Has B b l W' := by
  have one : ∀ p, Lib.BuilderAt 61 5 B b p (Lib.byteCells l) W → Lib.BuilderAt 61 5 B b p (Lib.byteCells l) W' := fun p h => by
    obtain ⟨hB, v, hb, hown, hne⟩ := h
    refine ⟨hB, v, (hk _ _ _ _ hb (.inl rfl)).trans hb, ⟨hown.1, ?_⟩, hne⟩
    rcases hown.2 with hn | ⟨g, cap, cur, hv, hbg, hg, rest⟩
    · exact .inl hn
    · exact .inr ⟨g, cap, cur, hv, hbg, (hk _ _ _ _ hg (.inr rfl)).trans hg, rest⟩
  rcases h with h | h
  · exact .inl (one _ h)
  · exact .inr (one _ h)
theorem has_iter {B b : Nat} {l : List UInt8} {W : World} (h : Has B b l W) {k : Nat} {s : ByteArray} {pos : Nat} (hk : W.heap[k]? = some (.stringIter s pos)) (pos' : Nat) : Has B b l (W.iterAt k s pos') :=
  has_frame h fun j c T fz hj _ => Lib.iterAt_other W k j s pos' (fun e => by rw [e, hk] at hj; cases hj)
theorem others_iter {b : Nat} {w W : World} (h : Others b w W) {k : Nat} (hk : w.heap.size ≤ k) (s : ByteArray) (pos : Nat) : Others b w (W.iterAt k s pos) := fun j o hj hb ho => by
  rw [Lib.iterAt_other W k j s pos (by have := (Array.getElem?_eq_some_iff.1 hj).1; omega)]
  exact h j o hj hb ho

set_option maxHeartbeats 4000000 in
set_option maxRecDepth 100000 in
theorem tellText_c (B b : Nat) (l : List UInt8) (s : ByteArray) (hs : s.size ≤ 17592186044416) (w : World) (h : Has B b l w) (hlen : l.length + (quoteL s).length + 12 ≤ 140737488355328) (hBw : B ≤ w.heap.size) (hT : ∀ W, Below B w W → Tabs W) :
    Calls Tryz.prog 27 #[.string s, putG b] w (Put B b (l ++ quoteL s) w) := by
  have e9 := enter_put
  have hq : (quoteL s).length = (insideL (chars s.data.toList)).length + 2 := by simp [quoteL]
  have hcs := chars_char s.data.toList
  have hrep : rep s.data.toList = encs (chars s.data.toList) := rfl
  have HR := Lib.hid (fun w1 (h1 : Below B w w1) => repair_c s hs w1 (hT w1 h1))
  rw [hrep] at HR
  have e0 : quoteL s = [34] ++ insideL (chars s.data.toList) ++ [34] := rfl
  rw [e0]
  rw [hq] at hlen
  clear hq hrep e0
  generalize chars s.data.toList = cs at hcs hlen HR ⊢
  have hc := put_c B b l [34] w h (by simp; omega) hBw
  have HB := Lib.hid hBw
  have HT := Lib.hid (fun k => insideL_take cs k)
  have HL := Lib.hid hlen
  have HCS := Lib.hid hcs
  obtain ⟨S0, hS0⟩ : ∃ S0, S0 = S (encs cs) := ⟨_, rfl⟩
  rw [← hS0] at HR
  have HD := Lib.hid (fun j hj => decode_char cs (fun c hc => (hcs c hc).1) j hj)
  rw [← hS0] at HD
  clear h hBw hT hlen hcs
  have HSE : Hid (S0.size = (encs cs).length) := by show _ = _; rw [hS0, size_S]
  clear hS0
  go_enter Tryz.func27, Tryz.ntmps27
  go_wp2_with (first
    | (go_at_call 41; refine (HR.out w1 H1.out.2.1).mono ?_; rintro e w2 ⟨rfl, h2⟩; have H2 := Lib.hid h2; clear h2)
    | (go_at_fn 33; refine hc.mono ?_; rintro e w1 ⟨rfl, h1⟩; have H1 := Lib.hid h1; clear h1))
  have b2 : Below B w w2 := H1.out.2.1.trans (H2.out.mono (Nat.le_trans HB.out H1.out.2.1.size))
  have hK : w.heap.size ≤ w2.heap.size := b2.size
  have hbK : b < w2.heap.size := Nat.lt_of_lt_of_le (has_lt H1.out.1).2 H2.out.size
  have HS : Hid (Has B b (l ++ [34]) (w2.iter S0 0) ∧ (w2.iter S0 0).heap[w2.heap.size]? = some (.stringIter S0 0) ∧ Below B w (w2.iter S0 0) ∧ Others b w (w2.iter S0 0)) := by
    refine ⟨?_, World.iter_heap w2 S0 0, b2.alloc (Nat.le_trans HB.out hK) _, ((H1.out.2.2.below H2.out)).alloc _⟩
    exact has_below (has_below H1.out.1 H2.out) ((Below.refl _ w2).alloc (Nat.le_refl _) _)
  have HKb := Lib.hid (And.intro hK (And.intro hbK HB.out))
  clear b2 hK hbK hc
  go_loopw [] (fun wr => ∃ j : Nat, j ≤ cs.length ∧ Hid (Has B b (l ++ [34] ++ insideL (cs.take j)) wr) ∧ Hid (wr.heap[w2.heap.size]? = some (.stringIter S0 (encs (cs.take j)).length)) ∧ Hid (Below B w wr) ∧ Hid (Others b w wr)) (fun wr => S0.size - wr.iterPos w2.heap.size)
  case atStart =>
    refine ⟨0, Nat.zero_le _, ?_, ?_, HS.out.2.2.1, HS.out.2.2.2⟩
    · show Has B b _ _
      have := HS.out.1
      simpa [insideL] using this
    · exact HS.out.2.1
  case round =>
    obtain ⟨j, hj, hH, hI, hBl, hO⟩ := hrel
    clear HS H1 H2
    by_cases hlt : j < cs.length
    · obtain ⟨d1, d2, d3⟩ := HD.out j hlt
      have hcj := HCS.out cs[j] (List.getElem_mem _)
      have hins : insideL (cs.take (j + 1)) = insideL (cs.take j) ++ charL cs[j] := by rw [List.take_succ_eq_append_getElem hlt, insideL_snoc]
      have hml := HT.out (j + 1)
      generalize cs[j] = c at d2 d3 hcj hins
      obtain ⟨n, rfl⟩ : ∃ n : Nat, c = (n : Int) := ⟨c.toNat, by unfold isChar at hcj; omega⟩
      have hn1 : (n : Int) ≤ 1114111 := by have := hcj.1; unfold isChar at this; omega
      have e1 : ((n : Int)).toNat = n := by omega
      rw [e1] at d2
      obtain ⟨m, hm⟩ : ∃ m, (encodeRune (n : Int)).length = m := ⟨_, rfl⟩
      have hm1 := (enc_len (n : Int)).1
      rw [hm] at d2 d3 hm1
      have hnx : ∀ ty, (Instr.next (.pointer (some ⟨w2.heap.size, 0, none⟩)) true ty).run Tryz.prog wr = .ok (.tuple #[.bool true, .int .i64 (encs (cs.take j)).length, .int .i32 n]) (wr.iterAt w2.heap.size S0 ((encs (cs.take j)).length + m)) := fun ty => by
        have := Lib.run_next_any_at (P := Tryz.prog) wr w2.heap.size S0 _ ty hI.out (by rw [HSE.out]; exact d1)
        rw [d2] at this
        exact this
      obtain ⟨pos, hpos⟩ : ∃ pos, (encs (cs.take j)).length = pos := ⟨_, rfl⟩
      rw [hpos] at hnx d3
      have hI' := hI.out
      rw [hpos] at hI'
      have hH2 := has_iter hH.out hI' (pos + m)
      have hI2 := Lib.iterAt_heap wr w2.heap.size S0 pos (pos + m) hI'
      have hB2 := Lib.below_iterAt hBl.out (k := w2.heap.size) (Nat.le_trans HKb.out.2.2 HKb.out.1) S0 (pos + m)
      have hO2 := others_iter hO.out (k := w2.heap.size) HKb.out.1 S0 (pos + m)
      have htc := tellChar_c B b (l ++ [34] ++ insideL (cs.take j)) n (by omega) hn1 _ hH2 (by have h2 := HT.out j; have h3 := HL.out; simp only [List.length_append, List.length_cons, List.length_nil]; omega) (by rw [Lib.iterAt_size]; exact Nat.le_trans HKb.out.2.2 hBl.out.size)
      have HN : Hid (∀ e W1, Put B b (l ++ [34] ++ insideL (cs.take j) ++ charL n) (wr.iterAt w2.heap.size S0 (pos + m)) e W1 → Has B b (l ++ [34] ++ insideL (cs.take (j + 1))) W1 ∧ W1.heap[w2.heap.size]? = some (.stringIter S0 (encs (cs.take (j + 1))).length) ∧ Below B w W1 ∧ Others b w W1 ∧ wr.iterPos w2.heap.size = pos ∧ W1.iterPos w2.heap.size = pos + m ∧ pos < S0.size) := fun e W1 hP => by
        have hit := hP.2.2.2.iter hI2 (by have := HKb.out.2.1; omega)
        refine ⟨?_, ?_, hB2.trans hP.2.2.1, hO2.trans hP.2.2.2, ?_, ?_, ?_⟩
        · rw [hins, ← List.append_assoc]; exact hP.2.1
        · rw [d3]; exact hit
        · simp [World.iterPos, hI']
        · simp [World.iterPos, hit]
        · rw [HSE.out, ← hpos]; exact d1
      have hm2 := Lib.hid hm1
      clear d1 d2 d3 hcj hins hml hm hm1 hpos hI' hH2 hI2 hB2 hO2 e1 hH hI hBl hO
      go_wp2_with (first
        | (go_at_call 42; refine htc.mono ?_; rintro e W1 hP; obtain rfl := hP.1; have HP := Lib.hid (HN.out _ _ hP); clear hP))
      go_roundw
      case rel => exact ⟨j + 1, by omega, HP.out.1, HP.out.2.1, HP.out.2.2.1, HP.out.2.2.2.1⟩
      case measure =>
        have h1 := HP.out.2.2.2.2
        rw [h1.1, h1.2.1]
        have := hm2.out
        omega
    · have hjl : j = cs.length := by omega
      have e2 : cs.take j = cs := by rw [hjl]; exact List.take_length
      rw [e2] at hH hI
      have hnx : ∀ ty, (Instr.next (.pointer (some ⟨w2.heap.size, 0, none⟩)) true ty).run Tryz.prog wr = .ok (.tuple #[.bool false]) wr := fun ty =>
        Lib.run_next_end_at (P := Tryz.prog) wr w2.heap.size S0 _ ty hI.out (by rw [HSE.out]; omega)
      have hc := put_c B b (l ++ [34] ++ insideL cs) [34] wr hH.out (by have h3 := HL.out; simp only [List.length_append, List.length_cons, List.length_nil]; omega) (Nat.le_trans HKb.out.2.2 hBl.out.size)
      clear hH hI e2
      go_wp2_with (first
        | (go_at_fn 33; refine hc.mono ?_; rintro e w4 h4; obtain rfl := h4.1; have H4 := Lib.hid h4; clear h4))
      go_end0
      refine ⟨rfl, ?_, hBl.out.trans H4.out.2.2.1, hO.out.trans H4.out.2.2.2⟩
      have e5 : l ++ ([34] ++ insideL cs ++ [34]) = l ++ [34] ++ insideL cs ++ [34] := by simp
      have h9 := H4.out.2.1
      rw [← e5] at h9
      simpa using h9
end Go.Proofs.YtgfbednfiejlfaaGreatDoor.Tl

/-
  Contracts of literal.made, at whatever function value that is handed in, of Quote, and of Literal at a number.
-/
namespace Go.Proofs.YtgfbednfiejlfaaGreatDoor.Tl
open Go.RowKit Go.Proofs.YtgfbednfiejlfaaGreatDoor.Oct Go.Proofs.YtgfbednfiejlfaaGreatDoor.Utf Go.Proofs.YtgfbednfiejlfaaGreatDoor.Build Go.Proofs.YtgfbednfiejlfaaGreatDoor.Val Go.Proofs.YtgfbednfiejlfaaGreatDoor.Lit Go.Proofs.YtgfbednfiejlfaaGreatDoor.Rd

theorem enter_string : ∀ args w, (callFunc 35 args).run Tryz.prog w = .ok (.enter 35 args) w := enters_of Tryz.func35 (by kernel_rfl) rfl

/-- The world with a fresh builder in its last block. -/
abbrev fresh (w : World) : World := w.alloc (.cells #[.pointer none, .slice none 0 0] 61)
theorem fresh_has (w : World) : Has w.heap.size w.heap.size [] (fresh w) :=
  .inl ⟨Nat.le_refl _, .slice none 0 0, heap_alloc_new w _, ⟨rfl, .inl ⟨rfl, rfl⟩⟩, by simp [Value.ownBlock]⟩

/-- What is asked of what is put: the octets, or the fault; and whatever K says of the world. -/
def Tells (B : Nat) (o : Option (List UInt8)) (K : World → Prop) (e : Ending) (w' : World) : Prop :=
  match o with
  | some l => e = .returned (.tuple #[]) ∧ Has B B l w' ∧ K w'
  | none => e = Fault 33 ∧ K w'
/-- What made leaves. -/
def Made (o : Option (List UInt8)) (K : World → Prop) (e : Ending) (w' : World) : Prop :=
  match o with
  | some l => e = .returned (.string (S l)) ∧ K w'
  | none => e = Fault 33 ∧ K w'

set_option maxHeartbeats 2000000 in
set_option maxRecDepth 100000 in
theorem made_c (g : Nat) (lb : Array Value) (w : World) (o : Option (List UInt8)) (K : World → Prop) (eg : ∀ args w, (callFunc g args).run Tryz.prog w = .ok (.enter g args) w)
    (hT : Calls Tryz.prog g (#[putG w.heap.size] ++ lb) (fresh w) (Tells w.heap.size o K)) (hK : ∀ W w', K W → Below w.heap.size W w' → K w') :
    Calls Tryz.prog 23 #[.func (.func g) #[] lb] w (Made o K) := by
  have e31 := enter_string
  have hmf : ∀ (fn : Fn) (first cap : Array Value) (w : World), (Instr.makeFunc fn first cap).run Tryz.prog w = .ok (.func fn first cap) w := fun _ _ _ _ => rfl
  cases o with
  | none =>
    go_enter Tryz.func23, Tryz.ntmps23
    go_wp2_with (go_at_fn g; refine hT.mono ?_; rintro e1 Y1 ⟨rfl, h1⟩)
    exact ⟨rfl, rfl, h1⟩
  | some l =>
    go_enter Tryz.func23, Tryz.ntmps23
    go_wp2_with (first
      | (go_at_fn 35; refine (Tryz.Builder_String_any w.heap.size w.heap.size l Y1 H1.out.1 (Nat.le_of_lt (has_lt H1.out.1).2)).mono ?_; rintro e2 Y2 ⟨rfl, h2⟩)
      | (go_at_fn g; refine hT.mono ?_; rintro e1 Y1 ⟨rfl, h1⟩; have H1 := Lib.hid h1; clear h1))
    go_ret
    exact ⟨rfl, hK _ _ H1.out.2 h2⟩

theorem enter_quote1 : ∀ args w, (callFunc 26 args).run Tryz.prog w = .ok (.enter 26 args) w := enters_of Tryz.func26 (by kernel_rfl) rfl

theorem quote1_c (q : Nat) (s : ByteArray) (hs : s.size ≤ 17592186044416) (hq : (quoteL s).length ≤ 70368744177664) (w : World) (hT : ∀ W, Below w.heap.size w W → Tabs W) (hc : w.cell? ⟨q, 0, none⟩ = some (.string s)) :
    Calls Tryz.prog 26 #[putG w.heap.size, .pointer (some ⟨q, 0, none⟩)] (fresh w) (Tells w.heap.size (some (quoteL s)) (fun W => Below w.heap.size w W)) := by
  have hb0 : Below w.heap.size w (fresh w) := (Below.refl _ w).alloc (Nat.le_refl _) _
  have ht := tellText_c w.heap.size w.heap.size [] s hs (fresh w) (fresh_has w) (by simp; omega) (by simp) (fun W hW => hT W (hb0.trans hW))
  have hcc : (fresh w).cell? ⟨q, 0, none⟩ = some (.string s) := by rw [hb0.cell (p := ⟨q, 0, none⟩) (World.block_lt_of_cell? w _ hc)]; exact hc
  rw [List.nil_append] at ht
  clear hc hT
  have HB0 := Lib.hid hb0
  clear hb0
  go_enter Tryz.func26, Tryz.ntmps26
  go_wp2_with (go_at_call 27; refine ht.mono ?_; rintro e W1 h1; obtain rfl := h1.1)
  go_end0
  exact ⟨rfl, h1.2.1, HB0.out.trans h1.2.2.1⟩

theorem quote_c (s : ByteArray) (hs : s.size ≤ 17592186044416) (hq : (quoteL s).length ≤ 70368744177664) (w : World) (hT : Tabs w) :
    Calls Tryz.prog 15 #[.string s] w fun e w' => e = .returned (.string (S (quoteL s))) ∧ Below w.heap.size w w' := by
  have hmf : ∀ (fn : Fn) (first cap : Array Value) (w : World), (Instr.makeFunc fn first cap).run Tryz.prog w = .ok (.func fn first cap) w := fun _ _ _ _ => rfl
  obtain ⟨w1, hw1⟩ : ∃ w1, w1 = w.alloc (.cells #[.string s] 9) := ⟨_, rfl⟩
  have hb1 : Below w.heap.size w w1 := by rw [hw1]; exact (Below.refl _ w).alloc (Nat.le_refl _) _
  have hcell : w1.cell? ⟨w.heap.size, 0, none⟩ = some (.string s) := by rw [hw1]; simp
  have h1 := quote1_c w.heap.size s hs hq w1 (fun W hW => hT.kept (Below.trans hb1 (hW.mono hb1.size))) hcell
  have hm := made_c 26 #[.pointer (some ⟨w.heap.size, 0, none⟩)] w1 _ _ enter_quote1 h1 (fun W w' h1 h2 => h1.trans h2)
  rw [hw1] at hm
  have HB1 := Lib.hid hb1
  rw [hw1] at HB1
  clear h1 hcell hb1 hw1
  go_enter Tryz.func15, Tryz.ntmps15
  go_wp2_with (go_at_call 23; refine hm.mono ?_; rintro e W2 ⟨rfl, h2⟩)
  go_ret
  exact ⟨rfl, HB1.out.trans (h2.mono HB1.out.size)⟩
end Go.Proofs.YtgfbednfiejlfaaGreatDoor.Tl

/-
  Contract of the closure within the reader's text: characters up to the closing quote.
-/
namespace Go.Proofs.YtgfbednfiejlfaaGreatDoor.Rd
open Go.RowKit Go.Proofs.YtgfbednfiejlfaaGreatDoor.Oct Go.Proofs.YtgfbednfiejlfaaGreatDoor.Utf Go.Proofs.YtgfbednfiejlfaaGreatDoor.Build Go.Proofs.YtgfbednfiejlfaaGreatDoor.Val Go.Proofs.YtgfbednfiejlfaaGreatDoor.Lit Go.Proofs.YtgfbednfiejlfaaGreatDoor.Tl
open Go.Lib (encodeRune)

theorem hasPrefix_le {s p : List UInt8} (h : Lib.hasPrefix s p = true) : p.length ≤ s.length := by
  unfold Lib.hasPrefix at h
  exact (List.isPrefixOf_iff_prefix.1 h).length_le
/-- How many octets are not read yet. -/
def restLen (R : Nat) (w : World) : Nat := match w.cell? ⟨R, 0, none⟩ with | some (.string s) => s.size | _ => 0
theorem Rd.len {R : Nat} {l : List UInt8} {ov dv : Value} {w : World} (h : Rd R (S l) ov dv w) : restLen R w = l.length := by
  unfold restLen
  rw [h.cell0]
  exact size_S l

theorem take_len {n : Nat} {l a t : List UInt8} (h : takeP n l = some (a, t)) : a.length = n ∧ t.length + n = l.length := by
  unfold takeP at h
  by_cases h1 : n ≤ l.length
  · rw [if_pos h1] at h
    injection h with h
    injection h with h2 h3
    rw [← h2, ← h3, List.length_take, List.length_drop]
    omega
  · rw [if_neg h1] at h; cases h
theorem unit_len {l t : List UInt8} {n : Nat} (h : unitP l = some (n, t)) : t.length + 6 = l.length := by
  unfold unitP at h
  split at h
  · rename_i hp
    have h2 := hasPrefix_le hp
    cases hk : takeP 4 (l.drop 2) with
    | none => rw [hk] at h; cases h
    | some q =>
      obtain ⟨a, u⟩ := q
      rw [hk] at h
      simp only at h
      split at h
      · injection h with h
        injection h with h3 h4
        have := (take_len hk).2
        rw [List.length_drop] at this
        rw [← h4]
        simp only [List.length_cons, List.length_nil] at h2
        omega
      · cases h
  · cases h
theorem enc_len2 {c : Int} {t a u : List UInt8} (h : encP c t = some (a, u)) : u = t ∧ a.length ≤ 4 := by
  unfold encP at h
  split at h
  · injection h with h
    injection h with h1 h2
    rw [← h1]
    exact ⟨h2.symm, (enc_len c).2⟩
  · cases h
theorem char_len {l a t : List UInt8} (h : charP l = some (a, t)) : a.length + t.length ≤ l.length ∧ t.length < l.length := by
  unfold charP at h
  split at h
  · cases hk : unitP l with
    | none => rw [hk] at h; cases h
    | some q =>
      obtain ⟨c, u⟩ := q
      have h1 := unit_len hk
      rw [hk] at h
      simp only at h
      split at h
      · cases hk2 : unitP u with
        | none => rw [hk2] at h; cases h
        | some q2 =>
          obtain ⟨d, u2⟩ := q2
          have h2 := unit_len hk2
          rw [hk2] at h
          simp only at h
          obtain ⟨rfl, h3⟩ := enc_len2 h
          omega
      · obtain ⟨rfl, h3⟩ := enc_len2 h
        omega
  · have := take_len h
    omega

/-- What stands up to the closing quote, behind acc. -/
def insideF : Nat → List UInt8 → List UInt8 → Option (List UInt8 × List UInt8)
  | 0, _, _ => none
  | f + 1, l, acc =>
    if Lib.hasPrefix l [34] then some (acc, l.drop 1) else
      match charP l with
      | none => none
      | some (a, t) => insideF f t (acc ++ a)

/-- What text's closure reads. -/
def innerP (l : List UInt8) : Option (List UInt8 × List UInt8) := if Lib.hasPrefix l [34] then insideF l.length (l.drop 1) [] else none

/-- What the closure leaves of the reader. -/
def After (R : Nat) (ov dv : Value) (w : World) (o : Option (List UInt8 × List UInt8)) (W : World) : Prop :=
  Save R w W ∧ ∀ a t, o = some (a, t) → Rd R (S t) ov dv W

theorem After.below {R : Nat} {ov dv : Value} {w W W' : World} {o : Option (List UInt8 × List UInt8)} (hR : R < w.heap.size) (h : After R ov dv w o W) (hb : Below w.heap.size W W') : After R ov dv w o W' := by
  refine ⟨⟨hb.os.trans h.1.os, hb.tape.trans h.1.tape, hb.output.trans h.1.output, Nat.le_trans h.1.size hb.size, fun k hk hR => (hb.block k hk).trans (h.1.block k hk hR)⟩, fun a t e => ?_⟩
  unfold Rd
  rw [hb.block R hR]
  exact h.2 a t e

theorem has_save {B b R : Nat} {l : List UInt8} {W W' : World} {s : ByteArray} {ov dv : Value} (h : Has B b l W) (hr : Rd R s ov dv W) (hs : Save R W W') : Has B b l W' :=
  has_frame h fun j c T fz hj hT => hs.block j (Array.getElem?_eq_some_iff.1 hj).1 (fun e => by
    rw [e] at hj
    unfold Rd at hr
    rw [hr] at hj
    injection hj with hj
    injection hj with h1 h2 h3
    rcases hT with rfl | rfl
    · exact absurd h2 (by decide)
    · exact absurd h2 (by decide))

set_option maxHeartbeats 4000000 in
set_option maxRecDepth 100000 in
theorem text1_c (R q : Nat) (l : List UInt8) (ov dv : Value) (w : World) (hl : l.length ≤ 17592186044416) (h : Rd R (S l) ov dv w) (hq : w.cell? ⟨q, 0, none⟩ = some (.pointer (some ⟨R, 0, none⟩))) (hqR : q ≠ R) :
    Calls Tryz.prog 95 #[putG w.heap.size, .pointer (some ⟨q, 0, none⟩)] (fresh w) (Tells w.heap.size ((innerP l).map (·.1)) (After R ov dv w (innerP l))) := by
  have e9 := enter_put
  have hqlt := World.block_lt_of_cell? w _ hq
  have hRlt := h.lt
  have hf : Rd R (S l) ov dv (fresh w) := h.keep ((Below.refl _ w).alloc (Nat.le_refl _) _)
  have hm := must_c R (S l) (S [34]) ov dv (fresh w) hf
  have hqf : (fresh w).cell? ⟨q, 0, none⟩ = some (.pointer (some ⟨R, 0, none⟩)) := by
    rw [((Below.refl _ w).alloc (Nat.le_refl _) _).cell (p := ⟨q, 0, none⟩) hqlt]; exact hq
  have HQ : Hid (∀ W, Save R w W → W.cell? ⟨q, 0, none⟩ = some (.pointer (some ⟨R, 0, none⟩))) := fun W hs => by
    rw [← hq]
    simp [World.cell?, hs.block q hqlt hqR]
  simp only at hm
  have HRL := Lib.hid hRlt
  have HF : Hid (Save R w (fresh w)) := Save.of ((Below.refl _ w).alloc (Nat.le_refl _) _)
  have HH := Lib.hid (fresh_has w)
  have HRF := Lib.hid hf
  unfold mustP at hm
  clear h hf hq hqlt hRlt
  cases hp : Lib.hasPrefix l [34] with
  | false =>
    have e0 : innerP l = none := by unfold innerP; rw [hp]; rfl
    rw [e0]
    rw [hp] at hm
    go_enter Tryz.func95, Tryz.ntmps95
    go_wp2_with (first | (go_at_call 64; refine hm.mono ?_; rintro e1 Y1 ⟨rfl, h1⟩))
    exact ⟨rfl, rfl, HF.out.trans h1, fun a t e => by cases e⟩
  | true =>
    have e0 : innerP l = insideF l.length (l.drop 1) [] := by unfold innerP; rw [hp]; rfl
    rw [e0]
    rw [hp] at hm
    simp only [if_true] at hm
    have hd : ([34] : List UInt8).length = 1 := rfl
    rw [hd] at hm
    have hl1 : (l.drop 1).length < l.length := by
      have := hasPrefix_le hp
      rw [List.length_drop]
      simp only [List.length_cons, List.length_nil] at this
      omega
    generalize l.drop 1 = l1 at hm hl1 ⊢
    generalize l.length = f0 at hl hl1 ⊢
    obtain ⟨o, ho⟩ : ∃ o, insideF f0 l1 [] = o := ⟨_, rfl⟩
    have HO := Lib.hid ho
    rw [ho]
    clear ho hp e0
    go_enter Tryz.func95, Tryz.ntmps95
    go_wp2_with (first | (go_at_call 64; refine hm.mono ?_; rintro e1 Y1 ⟨rfl, h1, h2⟩; have H1 := Lib.hid (And.intro h1 h2); clear h1 h2))
    clear hm
    go_loopw [] (fun wr => ∃ (t acc : List UInt8) (f : Nat), Hid (t.length < f ∧ f ≤ f0 ∧ acc.length + t.length ≤ f0 ∧ insideF f t acc = o) ∧ Hid (Has w.heap.size w.heap.size acc wr) ∧ Hid (Rd R (S t) ov dv wr) ∧ Hid (Save R w wr)) (fun wr => restLen R wr)
    case atStart =>
      exact ⟨l1, [], f0, ⟨hl1, Nat.le_refl _, by simp; omega, HO.out⟩, has_save HH.out HRF.out H1.out.2, H1.out.1, HF.out.trans H1.out.2⟩
    case round =>
      obtain ⟨t, acc, f, hP, hH, hR, hS⟩ := hrel
      clear HO H1 HF HH HRF hqf
      obtain ⟨f, rfl⟩ : ∃ f', f = f' + 1 := ⟨f - 1, by have := hP.out.1; omega⟩
      obtain ⟨p1, p2, p3, p4⟩ := hP.out
      have hcq := HQ.out wr hS.out
      have htk := takes_c R (S t) (S [34]) ov dv wr hR.out
      simp only at htk
      unfold takesP at htk
      rw [insideF] at p4
      cases hp : Lib.hasPrefix t [34] with
      | true =>
        rw [hp] at htk p4
        simp only [if_true] at htk p4
        subst p4
        have hd : ([34] : List UInt8).length = 1 := rfl
        rw [hd] at htk
        clear p1 p2 p3
        go_wp2_with (first | (go_at_call 45; refine htk.mono ?_; rintro e2 Y2 ⟨rfl, h1, h2⟩; have H2 := Lib.hid (And.intro h1 h2); clear h1 h2))
        go_end0
        refine ⟨rfl, has_save hH.out hR.out H2.out.2, hS.out.trans H2.out.2, fun a u e => ?_⟩
        injection e with e
        injection e with e1 e2
        rw [← e2]
        exact H2.out.1
      | false =>
        rw [hp] at htk p4
        simp only [Bool.false_eq_true, if_false] at htk p4
        have HC := Lib.hid (fun W (h : Rd R (S t) ov dv W) => char_c R t ov dv W h)
        cases hk : charP t with
        | none =>
          rw [hk] at HC p4
          simp only at p4
          subst p4
          clear p1 p2 p3
          go_wp2_with (first
            | (go_at_call 45; refine htk.mono ?_; rintro e2 Y2 ⟨rfl, h1, h2⟩; have hcq2 := HQ.out Y2 (hS.out.trans h2); have H2 := Lib.hid (And.intro h1 h2); clear h1 h2)
            | (go_at_call 96; refine (HC.out _ H2.out.1).mono ?_; rintro e3 Y3 ⟨rfl, h3⟩))
          exact ⟨rfl, rfl, (hS.out.trans H2.out.2).trans h3, fun a u e => by cases e⟩
        | some q2 =>
          obtain ⟨a, u⟩ := q2
          obtain ⟨k1, k2⟩ := char_len hk
          rw [hk] at HC p4
          simp only at p4
          have HK := Lib.hid (And.intro k1 k2)
          clear p1 p2 p3 k1 k2
          go_wp2_with (first
            | (go_at_call 45; refine htk.mono ?_; rintro e2 Y2 ⟨rfl, h1, h2⟩; have hcq2 := HQ.out Y2 (hS.out.trans h2); have H2 := Lib.hid (And.intro h1 h2); clear h1 h2)
            | (go_at_call 96; refine (HC.out _ H2.out.1).mono ?_; rintro e3 Y3 ⟨rfl, h3, h4⟩; have H3 := Lib.hid (And.intro h3 h4); clear h3 h4)
            | (go_at_fn 33; refine (put_c w.heap.size w.heap.size acc a Y3 (has_save (has_save hH.out hR.out H2.out.2) H2.out.1 H3.out.2) (by have := hP.out; have := HK.out; omega) (Nat.le_trans hS.out.size (Nat.le_trans H2.out.2.size H3.out.2.size))).mono ?_; rintro e4 Y4 h4; obtain rfl := h4.1; have H4 := Lib.hid h4; clear h4))
          go_roundw
          case rel =>
            have h4 := H4.out.2.2.1
            have hS3 := (hS.out.trans H2.out.2).trans H3.out.2
            have hA := After.below (o := some (a, u)) HRL.out ⟨hS3, fun a' t' e => by injection e with e; injection e with e1 e2; rw [← e2]; exact H3.out.1⟩ h4
            refine ⟨u, acc ++ a, f, ⟨by have := hP.out.1; have := HK.out.2; omega, by have := hP.out.2.1; omega, ?_, p4⟩, H4.out.2.1, hA.2 a u rfl, hA.1⟩
            have := hP.out.2.2.1; have := HK.out.1
            rw [List.length_append]
            omega
          case measure =>
            have h4 := H4.out.2.2.1
            have hr : Rd R (S u) ov dv Y4 := by unfold Rd; rw [h4.block R HRL.out]; exact H3.out.1
            rw [hr.len, hR.out.len]
            exact HK.out.2
end Go.Proofs.YtgfbednfiejlfaaGreatDoor.Rd
