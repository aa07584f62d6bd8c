/-
  Part 31: LxwQuote, NumPrint.
-/
import Derived.Test.YtmccbcficbbidaaGreatDoorPwAllP7
import Derived.Test.YtmccbcficbbidaaGreatDoorPwAllP8
import Derived.RangeFuncBox
import Derived.Laws.CopyOwn
import Derived.Lib.BufferWrite
/-
  Contract of Quote of package lex.
-/
namespace Go.Proofs.YtmccbcficbbidaaGreatDoor.Lxw
open Go.RowKit Go.Proofs.YtmccbcficbbidaaGreatDoor.Oct Go.Proofs.YtmccbcficbbidaaGreatDoor.Lex Go.Proofs.YtmccbcficbbidaaGreatDoor.Build

/-- Which of the four an octet is, and what its name is. -/
theorem name_tab : ∀ c : UInt8, (Lib.indexByte [10, 9, 92, 34] c = -1 ∧ escQ c = [c]) ∨ ∃ k d, Lib.indexByte [10, 9, 92, 34] c = ((k : Nat) : Int) ∧ k < 4 ∧ (∀ h : k < (⟨#[110, 116, 92, 34]⟩ : ByteArray).size, (⟨#[110, 116, 92, 34]⟩ : ByteArray)[k]'h = d) ∧ escQ c = [92, d] := by
  intro c
  by_cases h1 : c = 10
  · subst h1; exact .inr ⟨0, 110, by decide, by decide, fun _ => rfl, rfl⟩
  · by_cases h2 : c = 9
    · subst h2; exact .inr ⟨1, 116, by decide, by decide, fun _ => rfl, rfl⟩
    · by_cases h3 : c = 92
      · subst h3; exact .inr ⟨2, 92, by decide, by decide, fun _ => rfl, rfl⟩
      · by_cases h4 : c = 34
        · subst h4; exact .inr ⟨3, 34, by decide, by decide, fun _ => rfl, rfl⟩
        · refine .inl ⟨?_, by unfold escQ; rw [if_neg h1, if_neg h2, if_neg h3, if_neg h4]⟩
          have e1 : ((10 : UInt8) == c) = false := by rw [beq_eq_false_iff_ne]; exact fun e => h1 e.symm
          have e2 : ((9 : UInt8) == c) = false := by rw [beq_eq_false_iff_ne]; exact fun e => h2 e.symm
          have e3 : ((92 : UInt8) == c) = false := by rw [beq_eq_false_iff_ne]; exact fun e => h3 e.symm
          have e4 : ((34 : UInt8) == c) = false := by rw [beq_eq_false_iff_ne]; exact fun e => h4 e.symm
          simp [Lib.indexByte, e1, e2, e3, e4]
theorem inQ_take {l : List UInt8} {k : Nat} (h : k < l.length) : inQ (l.take (k + 1)) = inQ (l.take k) ++ escQ l[k] := by
  unfold inQ
  rw [List.take_succ_eq_append_getElem h, List.flatMap_append]
  simp
theorem inQ_len (l : List UInt8) : (inQ l).length ≤ 2 * l.length := by
  induction l with
  | nil => simp [inQ]
  | cons c t ih =>
    rw [inQ_cons, List.length_append, List.length_cons]
    have : (escQ c).length ≤ 2 := by unfold escQ; repeat' split
                                     all_goals simp
    omega
set_option maxHeartbeats 2000000 in
set_option maxRecDepth 100000 in
theorem quote_c (l : List UInt8) (hl : l.length ≤ 1048576) (w : World) :
    Calls Tryz.prog 50 #[.string (S l)] w fun e w' => e = .returned (.string (S (quoteQ l))) ∧ Below w.heap.size w w' := by
  have hsz : ((S l).size : Int) = (l.length : Int) := by rw [size_S]
  have hsn : (S l).size = l.length := size_S l
  have HAt := Lib.hid (fun k (h : k < l.length) => at_S l k h)
  have hby := byte_c w.heap.size [] 34 (w.alloc (.cells #[.pointer none, .slice none 0 0] 60)) (has_fresh w) (by decide)
  replace hby : Calls Tryz.prog 31 #[.pointer (some ⟨w.heap.size, 0, none⟩), .int .u8 34] (w.alloc (.cells #[.pointer none, .slice none 0 0] 60)) fun e w' => e = .returned .nilIface ∧ Has w.heap.size [34] w' ∧ Below w.heap.size (w.alloc (.cells #[.pointer none, .slice none 0 0] 60)) w' := hby
  go_enter Tryz.func50, Tryz.ntmps50
  go_wp2_with fail
  refine hby.mono ?_
  clear hby
  rintro e w1 ⟨rfl, h1, hb1⟩
  have H1 := Lib.hid (And.intro h1 (((Below.refl _ w).alloc (Nat.le_refl _) _).trans hb1))
  clear h1 hb1
  go_wp2_with fail
  go_loopw [10] (fun i wr => ∃ k : Nat, k ≤ l.length ∧ i = .int .i64 k ∧ Hid (Has w.heap.size (34 :: inQ (l.take k)) wr) ∧ Hid (Below w.heap.size w wr)) (fun i _ => l.length - (intOf i).toNat)
  case atStart => exact ⟨0, Nat.zero_le _, rfl, H1.out.1, H1.out.2⟩
  case round =>
    clear H1
    obtain ⟨k, hk, rfl, hH, hB⟩ := hrel
    have i0 : (0 : Int) ≤ (k : Int) := by omega
    have i1 : (k : Int) ≤ 1048576 := by omega
    have hq := inQ_len (l.take k)
    rw [List.length_take] at hq
    by_cases hlt : k < l.length
    · have hx := HAt.out k hlt
      have i2 : (k : Int) < (l.length : Int) := by omega
      have hd : decide ((k : Int) < (l.length : Int)) = true := decide_eq_true i2
      have hcb : ((l[k]).toNat : Int) ≤ 255 := by have := (l[k]).toNat_lt; omega
      have ht := inQ_take hlt
      have hix := fun w => Tryz.strings_IndexByte (S [10, 9, 92, 34]) ((l[k]).toNat : Int) w
      rw [list_S, show ((l[k]).toNat : Int).toNat.toUInt8 = l[k] by simp] at hix
      have hnt := name_tab l[k]
      generalize l[k] = c at *
      rcases hnt with ⟨hn, he⟩ | ⟨j, d, hn, hj, hjt, he⟩
      · rw [hn] at hix
        replace hix : ∀ w, Calls Tryz.prog 73 #[.string ⟨#[10, 9, 92, 34]⟩, .int .u8 (c.toNat : Int)] w fun e w' => e = .returned (.int .i64 (-1)) ∧ w' = w := hix
        rw [he] at ht
        have HN := Lib.hid ht
        have hby := byte_c w.heap.size (34 :: inQ (l.take k)) c wr hH.out (by rw [List.length_cons]; omega)
        clear hn he ht hq
        go_wp2_with (go_at_call 73; refine (hix _).mono ?_; rintro e w2 ⟨rfl, rfl⟩)
        refine hby.mono ?_
        clear hby
        rintro e w3 ⟨rfl, h3, hb3⟩
        have H3 : Hid (Has w.heap.size (34 :: inQ (l.take (k + 1))) w3 ∧ Below w.heap.size w w3) := ⟨by rw [HN.out]; exact h3, hB.out.trans hb3⟩
        clear h3 hb3
        go_wp2_with fail
        go_roundw
        case rel => exact ⟨k + 1, by omega, by go_num, H3.out.1, H3.out.2⟩
        case measure => simp [intOf]; omega
      · rw [hn] at hix
        replace hix : ∀ w, Calls Tryz.prog 73 #[.string ⟨#[10, 9, 92, 34]⟩, .int .u8 (c.toNat : Int)] w fun e w' => e = .returned (.int .i64 (j : Int)) ∧ w' = w := hix
        rw [he] at ht
        have HN := Lib.hid ht
        have hby := byte_c w.heap.size (34 :: inQ (l.take k)) 92 wr hH.out (by rw [List.length_cons]; omega)
        replace hby : Calls Tryz.prog 31 #[.pointer (some ⟨w.heap.size, 0, none⟩), .int .u8 92] wr fun e w' => e = .returned .nilIface ∧ Has w.heap.size ((34 :: inQ (l.take k)) ++ [92]) w' ∧ Below w.heap.size wr w' := hby
        have hby2 := fun w2 (h : Has w.heap.size ((34 :: inQ (l.take k)) ++ [92]) w2) => byte_c w.heap.size ((34 :: inQ (l.take k)) ++ [92]) d w2 h (by simp only [List.length_append, List.length_cons, List.length_nil]; omega)
        have j0 : (0 : Int) ≤ (j : Int) := by omega
        have j1 : (j : Int) < 4 := by omega
        have hdb : (d.toNat : Int) ≤ 255 := by have := d.toNat_lt; omega
        clear hn he ht hq
        go_wp2_with (go_at_call 73; refine (hix _).mono ?_; rintro e w2 ⟨rfl, rfl⟩)
        refine hby.mono ?_
        clear hby
        rintro e w3 ⟨rfl, h3, hb3⟩
        have hby3 := hby2 w3 h3
        have H3 := Lib.hid hb3
        clear h3 hb3 hby2
        go_wp2_with fail
        refine hby3.mono ?_
        clear hby3
        rintro e w4 ⟨rfl, h4, hb4⟩
        have H4 : Hid (Has w.heap.size (34 :: inQ (l.take (k + 1))) w4 ∧ Below w.heap.size w w4) := ⟨by rw [HN.out]; simpa using h4, (hB.out.trans H3.out).trans hb4⟩
        clear h4 hb4 H3
        go_wp2_with fail
        go_roundw
        case rel => exact ⟨k + 1, by omega, by go_num, H4.out.1, H4.out.2⟩
        case measure => simp [intOf]; omega
    · have hke : k = l.length := by omega
      have hd : decide ((k : Int) < (l.length : Int)) = false := decide_eq_false (by omega)
      have n2 : ¬ (k : Int) < (l.length : Int) := by omega
      rw [hke, List.take_length] at hH
      have hq2 := inQ_len l
      have hby := byte_c w.heap.size (34 :: inQ l) 34 wr hH.out (by rw [List.length_cons]; omega)
      replace hby : Calls Tryz.prog 31 #[.pointer (some ⟨w.heap.size, 0, none⟩), .int .u8 34] wr fun e w' => e = .returned .nilIface ∧ Has w.heap.size (quoteQ l) w' ∧ Below w.heap.size wr w' := hby
      have hst := fun w2 (h : Has w.heap.size (quoteQ l) w2) => Tryz.Builder_String_any w.heap.size w.heap.size (quoteQ l) w2 h (Nat.le_of_lt (has_lt h))
      clear hke hq hq2
      go_wp2_with fail
      refine hby.mono ?_
      clear hby
      rintro e w3 ⟨rfl, h3, hb3⟩
      have hs3 := hst w3 h3
      have H3 := Lib.hid (hB.out.trans hb3)
      clear h3 hb3 hst
      go_wp2_with (go_at_call 34; refine hs3.mono ?_; rintro e w4 ⟨rfl, hb4⟩)
      go_ret
      exact ⟨rfl, H3.out.trans hb4⟩
end Go.Proofs.YtmccbcficbbidaaGreatDoor.Lxw

/-
  Contract of number.Print: the number's digits; all older memory lies as it lay.
-/
namespace Go.Proofs.YtmccbcficbbidaaGreatDoor.Num
open Go.RowKit Go.Proofs.YtmccbcficbbidaaGreatDoor.Oct

/-- A digit's cell. -/
abbrev dv (d : Nat) : Value := .int .u8 (((48 + d : Nat)) : Int)
/-- The array, once these digits, the lowest first, are laid from its end on. -/
def arr (done : List Nat) : List Value := List.replicate (19 - done.length) (.int .u8 0) ++ done.reverse.map dv
theorem arr_len {done : List Nat} (h : done.length ≤ 19) : (arr done).length = 19 := by simp [arr]; omega
theorem arr_at {done : List Nat} (h : done.length < 19) : (arr done)[18 - done.length]? = some (.int .u8 0) := by
  unfold arr
  rw [List.getElem?_append_left (by simp; omega), List.getElem?_replicate, if_pos (by omega)]
theorem arr_snoc {done : List Nat} (d : Nat) (h : done.length < 19) : (arr done).set (18 - done.length) (dv d) = arr (done ++ [d]) := by
  unfold arr
  rw [List.set_append_left _ _ (by simp; omega)]
  have e : 19 - done.length = (18 - done.length) + 1 := by omega
  rw [e, List.replicate_succ', List.set_append_right _ _ (by simp)]
  simp [show 19 - (done.length + 1) = 18 - done.length by omega]

/-- What holds once these digits are laid. -/
def PrintAt (w : World) (done : List Nat) (W : World) : Prop :=
  W.heap[w.heap.size]? = some (.cells (arr done).toArray 112 (0, 0)) ∧ Boxed W (w.heap.size + 1) 3 (.int .i64 ((19 - done.length : Nat) : Int)) ∧ Below w.heap.size w W

theorem enter_print1 : ∀ args w, (callFunc 72 args).run Tryz.prog w = .ok (.enter 72 args) w := enters_of Tryz.func72 (by kernel_rfl) rfl

theorem cell_of_row {W : World} {g k : Nat} {l : List Value} {t : TypeId} {v : Value} (h : W.heap[g]? = some (.cells l.toArray t (0, 0))) (hv : l[k]? = some v) : W.cell? ⟨g, k, none⟩ = some v := by
  simp [World.cell?, h, hv]
theorem free_of_row {W : World} {g k : Nat} {l : List Value} {t : TypeId} (h : W.heap[g]? = some (.cells l.toArray t (0, 0))) : W.frozen? ⟨g, k, none⟩ = false := by
  simp [World.frozen?, h]

theorem print1_c (w W : World) (done : List Nat) (d : Nat) (hd : d < 10) (hl : done.length < 19) (h : PrintAt w done W) :
    Calls Tryz.prog 72 #[.int .u8 (d : Int), .pointer (some ⟨w.heap.size + 1, 0, none⟩), .pointer (some ⟨w.heap.size, 0, none⟩)] W fun e W' => (∃ v, e = .returned v) ∧ PrintAt w (done ++ [d]) W' := by
  obtain ⟨k, hk⟩ : ∃ k, 18 - done.length = k := ⟨_, rfl⟩
  obtain ⟨h1, h2, h3⟩ := h
  have e19 : 19 - done.length = k + 1 := by omega
  rw [e19] at h2
  have c1 := h2.cell
  have f1 := h2.frozen
  have c2 := cell_of_row h1 (arr_at hl)
  have f2 := free_of_row (k := 18 - done.length) h1
  rw [hk] at c2 f2
  have hk18 : k ≤ 18 := by omega
  have H := Lib.hid (And.intro h1 (And.intro h2 h3))
  have HE := Lib.hid (And.intro hk e19)
  clear h1 h2 h3 hk e19
  go_enter Tryz.func72, Tryz.ntmps72
  go_wp2
  go_end0
  obtain ⟨h1, h2, h3⟩ := H.out
  obtain ⟨hk, e19⟩ := HE.out
  refine ⟨⟨_, rfl⟩, ?_, ?_, (h3.setCell (p := ⟨w.heap.size + 1, 0, none⟩) (by simp) _).setCell (p := ⟨w.heap.size, k, none⟩) (by simp) _⟩
  · have a1 : (W.setCell ⟨w.heap.size + 1, 0, none⟩ (Value.int .i64 (k : Int))).heap[w.heap.size]? = some (.cells (arr done).toArray 112 (0, 0)) := by
      rw [heap_setCell_other _ _ _ _ (by simp)]; exact h1
    have a2 := heap_setCell_same _ w.heap.size k _ 112 (Value.int .u8 (48 + (d : Int))) a1
    rw [a2, List.setIfInBounds_toArray, ← arr_snoc d hl, hk]
    rfl
  · have b1 := h2.set (Value.int .i64 (k : Int))
    rw [List.length_append, List.length_singleton, show 19 - (done.length + 1) = k by omega]
    unfold Boxed
    rw [heap_setCell_other _ _ _ _ (by simp)]
    exact b1

set_option maxHeartbeats 1000000 in
theorem eachDigit_c (u : Nat) (hu : u < 18446744073709551616) (g : Nat) (lb : Array Value) (w : World) (J : List Nat → World → Prop)
    (eg : ∀ args w, (callFunc g args).run Tryz.prog w = .ok (.enter g args) w) (h0 : J [] w)
    (hdo : ∀ (done : List Nat) (d : Nat) (W : World), J done W → d < 10 → done.length < (lowL u).length → Calls Tryz.prog g (#[.int .u8 (d : Int)] ++ lb) W fun e W' => (∃ v, e = .returned v) ∧ J (done ++ [d]) W') :
    Calls Tryz.prog 70 #[.int .u64 (u : Int), .func (.func g) #[] lb] w fun e W' => (∃ v, e = .returned v) ∧ J (lowL u) W' := by
  have hc := hdo [] (u % 10) w h0 (by omega) (by unfold lowL; simp)
  have hL : Hid (([] ++ [u % 10]) ++ rest (u / 10) = lowL u) := rfl
  have HD := Lib.hid hdo
  obtain ⟨d, hd⟩ : ∃ d, u % 10 = d := ⟨_, rfl⟩
  rw [hd] at hc hL
  have hI : (u : Int) % 10 = (d : Int) := by omega
  have hd10 : d < 10 := by omega
  clear hdo hd h0
  go_enter Tryz.func70, Tryz.ntmps70
  go_wp2_with (go_at_fn g; refine hc.mono ?_; rintro e w1 ⟨⟨v, rfl⟩, hJ1⟩)
  have HJ1 := Lib.hid hJ1
  clear hJ1 hc
  go_loopw [0] (fun x wr => ∃ (cur : Nat) (done : List Nat), x = .int .u64 (cur : Int) ∧ cur < 18446744073709551616 ∧ Hid (done ++ rest cur = lowL u) ∧ Hid (J done wr)) (fun x _ => (intOf x).toNat)
  case atStart => exact ⟨u / 10, [] ++ [d], by go_num, by omega, hL, HJ1⟩
  case round =>
    obtain ⟨cur, done, rfl, hcur, hE, hJ⟩ := hrel
    by_cases hlt : 0 < cur
    · have hlen : done.length < (lowL u).length := by
        have := congrArg List.length hE.out
        rw [rest_pos hlt, List.length_append, List.length_cons] at this
        omega
      have hc := HD.out done (cur % 10) wr hJ.out (by omega) hlen
      have hE2 : Hid ((done ++ [cur % 10]) ++ rest (cur / 10) = lowL u) := by
        show _ = _
        rw [← hE.out, rest_pos hlt]
        simp
      obtain ⟨d2, hd2⟩ : ∃ d2, cur % 10 = d2 := ⟨_, rfl⟩
      rw [hd2] at hc hE2
      have hI2 : (cur : Int) % 10 = (d2 : Int) := by omega
      have hd210 : d2 < 10 := by omega
      clear hd2 hlen
      go_wp2_with (go_at_fn g; refine hc.mono ?_; rintro e w2 ⟨⟨v2, rfl⟩, hJ2⟩)
      go_roundw
      case rel => exact ⟨cur / 10, done ++ [d2], by go_num, by omega, hE2, hJ2⟩
      case measure => simp [intOf]; omega
    · have hz : cur = 0 := by omega
      subst hz
      go_wp2
      go_end0
      have := hE.out
      rw [rest_zero, List.append_nil] at this
      exact ⟨⟨_, rfl⟩, by rw [← this]; exact hJ.out⟩

theorem info_u8 : (Tryz.prog.info? 5).map (fun i => (i.zero, i.size, i.bytes)) = some (some (.int .u8 0), 1, 1) := by kernel_rfl

/-- The array at its start. -/
theorem arr_nil : arr [] = [Value.int .u8 0, .int .u8 0, .int .u8 0, .int .u8 0, .int .u8 0, .int .u8 0, .int .u8 0, .int .u8 0, .int .u8 0, .int .u8 0, .int .u8 0, .int .u8 0, .int .u8 0, .int .u8 0, .int .u8 0, .int .u8 0, .int .u8 0, .int .u8 0, .int .u8 0] := rfl

theorem digits_c (m : Nat) (hm : m < 10000000000000000000) (w w1 : World) (h : PrintAt w [] w1) :
    Calls Tryz.prog 70 #[.int .u64 (m : Int), .func (.func 72) #[] #[.pointer (some ⟨w.heap.size + 1, 0, none⟩), .pointer (some ⟨w.heap.size, 0, none⟩)]] w1 fun e W' => (∃ v, e = .returned v) ∧ PrintAt w (lowL m) W' :=
  eachDigit_c m (by omega) _ _ w1 (PrintAt w) enter_print1 h (fun done d W hJ hd hl => print1_c w W done d hd (by have := lowL_len hm; omega) hJ)

theorem start_at (w : World) : PrintAt w [] ((w.alloc (.cells #[Value.int .u8 0, .int .u8 0, .int .u8 0, .int .u8 0, .int .u8 0, .int .u8 0, .int .u8 0, .int .u8 0, .int .u8 0, .int .u8 0, .int .u8 0, .int .u8 0, .int .u8 0, .int .u8 0, .int .u8 0, .int .u8 0, .int .u8 0, .int .u8 0, .int .u8 0] 112)).alloc (.cells #[.int .i64 19] 3)) := by
  refine ⟨?_, ?_, ((Below.refl _ w).alloc (Nat.le_refl _) _).alloc (by simp) _⟩
  · rw [Go.heap_alloc_old _ _ (by simp), World.alloc_heap_new]; rfl
  · have := Boxed.new (w.alloc (.cells #[Value.int .u8 0, .int .u8 0, .int .u8 0, .int .u8 0, .int .u8 0, .int .u8 0, .int .u8 0, .int .u8 0, .int .u8 0, .int .u8 0, .int .u8 0, .int .u8 0, .int .u8 0, .int .u8 0, .int .u8 0, .int .u8 0, .int .u8 0, .int .u8 0, .int .u8 0] 112)) 3 (.int .i64 19)
    rwa [World.size_alloc] at this

/-- An octet's value. -/
abbrev bv (c : UInt8) : Value := .int .u8 (c.toNat : Int)
theorem digs_cells (m : Nat) : (lowL m).reverse.map dv = (decL m).map bv := by
  unfold decL
  rw [List.map_map]
  apply List.map_congr_left
  intro d hd
  show dv d = Value.int .u8 ((dig d).toNat : Int)
  rw [dig_toNat (lowL_lt m d (List.mem_reverse.1 hd))]

theorem arr_src {done : List Nat} {j : Nat} {v : Value} (h : (done.reverse.map dv)[j]? = some v) : (arr done)[19 - done.length + j]? = some v := by
  unfold arr
  rw [List.getElem?_append_right (by simp)]
  simpa using h

theorem one_bv (l : List UInt8) : ∀ v ∈ l.map bv, v.oneCell' = true := by
  intro v hv
  obtain ⟨b, _, rfl⟩ := List.mem_map.1 hv
  rfl

/-- 'string(out)' of a row that is known whole. -/
theorem conv_row {W : World} {g q : Nat} {l : List UInt8} {cur : List Value} (h : W.heap[g]? = some (.cells cur.toArray 5 (0, 0))) (hl : l.length = q) (hc : cur = l.map bv) :
    (convert 58 9 (.slice (some ⟨g, 0, none⟩) q q)).run Tryz.prog W = .ok (.string (S l)) W := by
  subst hl
  exact run_convert_bytes_back (P := Tryz.prog) W 58 9 5 ⟨g, 0, none⟩ l.length l Tryz.underlying58 Tryz.underlying5 Tryz.underlying9 (fun j hj => by
    rw [Addr.add_lit, Nat.zero_add]
    refine cell_of_row h ?_
    rw [hc]
    simp [hj])

set_option maxHeartbeats 1000000 in
theorem print_neg (n : Int) (w : World) (h0 : -9223372036854775808 ≤ n) (h1 : n < 0) :
    Calls Tryz.prog 49 #[.int .i64 n] w fun e w' => e = .returned (.string (S (printL n))) ∧ Below w.heap.size w w' := by
  have hm : n.natAbs < 10000000000000000000 := by omega
  have hc := digits_c n.natAbs hm w _ (start_at w)
  have hz := fun w => sizeOf_c n w h0 (by omega)
  have hlen := lowL_len hm
  have hpos : 0 < (lowL n.natAbs).length := by unfold lowL; simp
  obtain ⟨p, hp⟩ : ∃ p, 19 - (lowL n.natAbs).length = p := ⟨_, rfl⟩
  have F : Hid (printL n = 45 :: decL n.natAbs) := by show _ = _; unfold printL; rw [if_pos h1]
  have HP := Lib.hid (And.intro hp hlen)
  have hp18 : p ≤ 18 := by omega
  clear hm
  generalize n.natAbs = m at hc hz hlen hpos F HP
  clear hp hlen hpos
  go_enter Tryz.func49, Tryz.ntmps49
  go_wp2_with fail
  refine (hz _).mono ?_
  rintro e w' ⟨rfl, rfl⟩
  go_wp2_with fail
  refine hc.mono ?_
  rintro e w1 ⟨⟨v, rfl⟩, ha, hb, hk⟩
  rw [HP.out.1] at hb
  have hcell := hb.cell
  have HA := Lib.hid (And.intro ha (And.intro hb hk))
  clear hc hz ha hb hk
  obtain ⟨q, hq⟩ : ∃ q, 20 - p = q := ⟨_, rfl⟩
  obtain ⟨i0, hi, hz0, hz1, hz2⟩ := info_parts info_u8
  have hinfo : (Tryz.prog.info? 5).map (·.size) = some 1 := by rw [hi]; simp [hz1]
  obtain ⟨M, hM⟩ : ∃ M, M = madeCells (Value.int .u8 0).cells (((q : Nat) : Int).toNat * i0.size) := ⟨_, rfl⟩
  have hMs : M.size = q := by rw [hM, size_madeCells, hz1]; simp
  have hmk : (Instr.makeSlice 58 (.int .i64 (20 - (p : Int))) (.int .i64 (20 - (p : Int)))).run Tryz.prog w1 = .ok (.slice (some ⟨w1.heap.size, 0, none⟩) q q) (w1.alloc (.cells M 5)) := by
    have h := run_make (P := Tryz.prog) w1 58 5 i0 (.int .u8 0) Tryz.underlying58 hi hz0 .i64 .i64 (q : Int) (q : Int) (by omega) (by omega) (by rw [hz2]; omega) (by omega)
    rw [← hM] at h
    rw [show (20 - (p : Int)) = (q : Int) by omega]
    simpa using h
  have hcp := Lib.run_copy_row_string (P := Tryz.prog) (w1.alloc (.cells M 5)) 58 9 3 5 w1.heap.size 0 q q ⟨#[45]⟩ M 5 Tryz.underlying58 hinfo (heap_alloc_new w1 _) (by show 1 ≤ q; omega) (by show 0 + 1 ≤ M.size; omega)
  obtain ⟨Y, hY⟩ : ∃ Y, Y = (M.toList.take 0 ++ Lib.byteCells (⟨#[45]⟩ : ByteArray).data.toList ++ M.toList.drop (0 + (⟨#[45]⟩ : ByteArray).size)) := ⟨_, rfl⟩
  rw [← hY] at hcp
  have HY : Hid (Y.length = q ∧ Y.take 1 = [bv 45]) := ⟨by rw [hY]; show (Value.int .u8 45 :: M.toList.drop 1).length = q; rw [List.length_cons, List.length_drop, Array.length_toList, hMs]; omega, by rw [hY]; rfl⟩
  have G : Hid (((w1.alloc (.cells M 5)).setRow w1.heap.size Y.toArray).heap[w1.heap.size]? = some (.cells Y.toArray 5 (0, 0))) := setRow_heap _ _ _ _ _ (0, 0) (heap_alloc_new w1 _)
  have G2 : Hid (∀ k, k < w1.heap.size → ((w1.alloc (.cells M 5)).setRow w1.heap.size Y.toArray).heap[k]? = w1.heap[k]?) := fun k hk => by
    rw [setRow_other _ _ _ _ (by omega), Go.heap_alloc_old _ _ hk]
  have G3 : Hid (Below w.heap.size w ((w1.alloc (.cells M 5)).setRow w1.heap.size Y.toArray)) := below_setRow (HA.out.2.2.alloc HA.out.2.2.size _) HA.out.2.2.size _
  clear hY
  generalize (w1.alloc (.cells M 5)).setRow w1.heap.size Y.toArray = w2 at hcp G G2 G3
  have HQ := Lib.hid hq
  clear hM hMs hq hi hz0 hz1 hz2
  go_wp2_with fail
  clear hcell hmk hcp
  obtain ⟨ha, hb, hk⟩ := HA.out
  have hsz := hb.lt
  have hcell : w2.cell? ⟨w.heap.size + 1, 0, none⟩ = some (.int .i64 (p : Int)) := Boxed.cell (t := 3) (by unfold Boxed; rw [G2.out _ hsz]; exact hb)
  have hq2 : (1 : Int) ≤ (q : Int) := by have := HQ.out; omega
  have hq3 : ¬ q = 1 := by have := HQ.out; omega
  have hp2 : (p : Int) ≤ 19 := by omega
  have hp3 : ¬ 19 = p := by omega
  obtain ⟨cs, hcs⟩ : ∃ cs, cs = (decL m).map bv := ⟨_, rfl⟩
  have hcl : cs.length = 19 - p := by rw [hcs, List.length_map, decL_len]; have := HP.out; omega
  have HB2 : Hid (Below w.heap.size w w2.drew) := G3.out.drew
  have HSRC : Hid (∀ j v, cs[j]? = some v → w2.drew.cell? ((⟨w.heap.size, p, none⟩ : Addr).add j) = some v) := by
    intro j v hv
    rw [hcs, ← digs_cells] at hv
    have h1 := arr_src hv
    rw [HP.out.1] at h1
    rw [Addr.add_lit]
    exact cell_of_row (W := w2) (t := 112) (by rw [G2.out _ (by omega)]; exact ha) h1
  have HFIT : Hid (1 + cs.length ≤ Y.length) := by show _ ≤ _; rw [HY.out.1, hcl]; have := HQ.out; omega
  have HONE : Hid (∀ v ∈ cs, v.oneCell' = true) := by rw [hcs]; exact one_bv _
  have HN : Hid (cs.length = Nat.min (19 - p) (q - 1)) := by
    show _ = _
    rw [hcl, show q - 1 = 19 - p by have := HQ.out; omega]
    exact (Nat.min_self _).symm
  have HBG : Hid (w.heap.size ≤ w1.heap.size) := by show _ ≤ _; omega
  have HCV : Hid (splice Y 1 cs = (45 :: decL m).map bv ∧ (45 :: decL m).length = q) := by
    refine ⟨?_, ?_⟩
    · unfold splice
      rw [HY.out.2, List.drop_of_length_le (by rw [HY.out.1, hcl]; have := HQ.out; omega), List.append_nil, hcs]
      rfl
    · have := HQ.out
      rw [hcs, List.length_map] at hcl
      rw [List.length_cons]; omega
  clear ha hb hk hcs hcl
  go_region_law (refine step_copy_splice rfl (.tmp 25) (.tmp 27) 58 58 rfl 5 Tryz.underlying58 hinfo (some ⟨w1.heap.size, 1, none⟩) (some ⟨w.heap.size, p, none⟩) (q - 1) (q - 1) (19 - p) (19 - p) (by simp [Act.eval, Act.put]) (by simp [Act.eval, Act.put]) w1.heap.size 1 Y 5 G.out cs HN.out (fun _ => ⟨rfl, _, rfl, HSRC.out⟩) HFIT.out HONE.out w.heap.size w HB2.out HBG.out ?_; intro w4 hg4 hb4)
  have hcv := conv_row hg4.out HCV.out.2 HCV.out.1
  have HB4 := Lib.hid hb4
  clear hb4 hcell
  go_wp2
  go_ret
  exact ⟨by rw [F.out]; rfl, HB4.out⟩

set_option maxRecDepth 100000 in
set_option maxHeartbeats 1000000 in
theorem print_pos (n : Int) (w : World) (h0 : 0 ≤ n) (h1 : n ≤ 9223372036854775807) :
    Calls Tryz.prog 49 #[.int .i64 n] w fun e w' => e = .returned (.string (S (printL n))) ∧ Below w.heap.size w w' := by
  have hm : n.natAbs < 10000000000000000000 := by omega
  have hc := digits_c n.natAbs hm w _ (start_at w)
  have hz := fun w => sizeOf_c n w (by omega) h1
  have hlen := lowL_len hm
  have hpos : 0 < (lowL n.natAbs).length := by unfold lowL; simp
  obtain ⟨p, hp⟩ : ∃ p, 19 - (lowL n.natAbs).length = p := ⟨_, rfl⟩
  have F : Hid (printL n = decL n.natAbs) := by show _ = _; unfold printL; rw [if_neg (by omega)]
  have HP := Lib.hid (And.intro hp hlen)
  have hp18 : p ≤ 18 := by omega
  clear hm
  generalize n.natAbs = m at hc hz hlen hpos F HP
  clear hp hlen hpos
  go_enter Tryz.func49, Tryz.ntmps49
  go_wp2_with fail
  refine (hz _).mono ?_
  rintro e w' ⟨rfl, rfl⟩
  go_wp2_with fail
  refine hc.mono ?_
  rintro e w1 ⟨⟨v, rfl⟩, ha, hb, hk⟩
  rw [HP.out.1] at hb
  have hcell := hb.cell
  have HA := Lib.hid (And.intro ha (And.intro hb hk))
  clear hc hz ha hb hk
  obtain ⟨q, hq⟩ : ∃ q, 19 - p = q := ⟨_, rfl⟩
  obtain ⟨i0, hi, hz0, hz1, hz2⟩ := info_parts info_u8
  have hinfo : (Tryz.prog.info? 5).map (·.size) = some 1 := by rw [hi]; simp [hz1]
  obtain ⟨M, hM⟩ : ∃ M, M = madeCells (Value.int .u8 0).cells (((q : Nat) : Int).toNat * i0.size) := ⟨_, rfl⟩
  have hMs : M.size = q := by rw [hM, size_madeCells, hz1]; simp
  have hmk : (Instr.makeSlice 58 (.int .i64 (19 - (p : Int))) (.int .i64 (19 - (p : Int)))).run Tryz.prog w1 = .ok (.slice (some ⟨w1.heap.size, 0, none⟩) q q) (w1.alloc (.cells M 5)) := by
    have h := run_make (P := Tryz.prog) w1 58 5 i0 (.int .u8 0) Tryz.underlying58 hi hz0 .i64 .i64 (q : Int) (q : Int) (by omega) (by omega) (by rw [hz2]; omega) (by omega)
    rw [← hM] at h
    rw [show (19 - (p : Int)) = (q : Int) by omega]
    simpa using h
  have hcp := Lib.run_copy_empty_string (P := Tryz.prog) (w1.alloc (.cells M 5)) 58 9 3 5 (some ⟨w1.heap.size, 0, none⟩) q q ⟨#[]⟩ Tryz.underlying58 (by rw [hinfo]; rfl) rfl
  obtain ⟨Y, hY⟩ : ∃ Y, Y = M.toList := ⟨_, rfl⟩
  have HY : Hid (Y.length = q ∧ Y.take 0 = []) := ⟨by rw [hY, Array.length_toList, hMs], by rfl⟩
  have G : Hid ((w1.alloc (.cells M 5)).heap[w1.heap.size]? = some (.cells Y.toArray 5 (0, 0))) := by
    show _ = _
    rw [heap_alloc_new, hY, Array.toArray_toList]
  have G2 : Hid (∀ k, k < w1.heap.size → (w1.alloc (.cells M 5)).heap[k]? = w1.heap[k]?) := fun k hk => Go.heap_alloc_old _ _ hk
  have G3 : Hid (Below w.heap.size w (w1.alloc (.cells M 5))) := HA.out.2.2.alloc HA.out.2.2.size _
  clear hY
  obtain ⟨w2, hw2⟩ : ∃ w2, w2 = w1.alloc (.cells M 5) := ⟨_, rfl⟩
  rw [← hw2] at hcp hmk G G2 G3
  clear hw2
  have HQ := Lib.hid hq
  clear hM hMs hq hi hz0 hz1 hz2
  go_wp2_with fail
  clear hcell hmk hcp
  obtain ⟨ha, hb, hk⟩ := HA.out
  have hsz := hb.lt
  have hcell : w2.cell? ⟨w.heap.size + 1, 0, none⟩ = some (.int .i64 (p : Int)) := Boxed.cell (t := 3) (by unfold Boxed; rw [G2.out _ hsz]; exact hb)
  have hq2 : (0 : Int) ≤ (q : Int) := by omega
  have hp2 : (p : Int) ≤ 19 := by omega
  have hp3 : ¬ 19 = p := by omega
  obtain ⟨cs, hcs⟩ : ∃ cs, cs = (decL m).map bv := ⟨_, rfl⟩
  have hcl : cs.length = 19 - p := by rw [hcs, List.length_map, decL_len]; have := HP.out; omega
  have HB2 : Hid (Below w.heap.size w w2.drew) := G3.out.drew
  have HSRC : Hid (∀ j v, cs[j]? = some v → w2.drew.cell? ((⟨w.heap.size, p, none⟩ : Addr).add j) = some v) := by
    intro j v hv
    rw [hcs, ← digs_cells] at hv
    have h1 := arr_src hv
    rw [HP.out.1] at h1
    rw [Addr.add_lit]
    exact cell_of_row (W := w2) (t := 112) (by rw [G2.out _ (by omega)]; exact ha) h1
  have HFIT : Hid (0 + cs.length ≤ Y.length) := by show _ ≤ _; rw [HY.out.1, hcl]; have := HQ.out; omega
  have HONE : Hid (∀ v ∈ cs, v.oneCell' = true) := by rw [hcs]; exact one_bv _
  have HN : Hid (cs.length = Nat.min (19 - p) (q)) := by
    show _ = _
    rw [hcl, show q = 19 - p by have := HQ.out; omega]
    exact (Nat.min_self _).symm
  have HBG : Hid (w.heap.size ≤ w1.heap.size) := by show _ ≤ _; omega
  have HCV : Hid (splice Y 0 cs = (decL m).map bv ∧ (decL m).length = q) := by
    refine ⟨?_, ?_⟩
    · unfold splice
      rw [HY.out.2, List.drop_of_length_le (by rw [HY.out.1, hcl]; have := HQ.out; omega), List.append_nil, hcs]
      rfl
    · have := HQ.out
      rw [hcs, List.length_map] at hcl
      omega
  clear ha hb hk hcs hcl
  go_region_law (refine step_copy_splice rfl (.tmp 25) (.tmp 27) 58 58 rfl 5 Tryz.underlying58 hinfo (some ⟨w1.heap.size, 0, none⟩) (some ⟨w.heap.size, p, none⟩) (q) (q) (19 - p) (19 - p) (by simp [Act.eval, Act.put]) (by simp [Act.eval, Act.put]) w1.heap.size 0 Y 5 G.out cs HN.out (fun _ => ⟨rfl, _, rfl, HSRC.out⟩) HFIT.out HONE.out w.heap.size w HB2.out HBG.out ?_; intro w4 hg4 hb4)
  have hcv := conv_row hg4.out HCV.out.2 HCV.out.1
  have HB4 := Lib.hid hb4
  clear hb4 hcell
  go_wp2
  go_ret
  exact ⟨by rw [F.out]; rfl, HB4.out⟩


theorem print_c (n : Int) (w : World) (h0 : -9223372036854775808 ≤ n) (h1 : n ≤ 9223372036854775807) :
    Calls Tryz.prog 49 #[.int .i64 n] w fun e w' => e = .returned (.string (S (printL n))) ∧ Below w.heap.size w w' := by
  by_cases hn : n < 0
  · exact print_neg n w h0 hn
  · exact print_pos n w (by omega) h1
end Go.Proofs.YtmccbcficbbidaaGreatDoor.Num
