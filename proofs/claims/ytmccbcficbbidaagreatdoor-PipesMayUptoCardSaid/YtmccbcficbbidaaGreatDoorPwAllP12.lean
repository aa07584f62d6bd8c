/-
  Part 12: PwWords, PwMem.
-/
import Derived.Test.YtmccbcficbbidaaGreatDoorPwAllP11
import Derived.Test.YtmccbcficbbidaaGreatDoorPwAllP3
/-
  Contracts of package lex's words and Words, at every text.
-/
namespace Go.Proofs.YtmccbcficbbidaaGreatDoor.Lxw
open Go.RowKit Go.Proofs.YtmccbcficbbidaaGreatDoor.Oct Go.Proofs.YtmccbcficbbidaaGreatDoor.Lex
open Go.Proofs.YtmccbcficbbidaaGreatDoor.LxwW (errBox But)

/-! ### Word by word -/
def prepW (done : List (Wd × Nat)) : Except (Nat × Nat) (List (Wd × Nat)) → Except (Nat × Nat) (List (Wd × Nat))
  | .ok r => .ok (done ++ r)
  | .error x => .error x
theorem prep_nil (x : Except (Nat × Nat) (List (Wd × Nat))) : prepW [] x = x := by cases x <;> rfl
theorem prep_step (done : List (Wd × Nat)) (a : Wd × Nat) (x : Except (Nat × Nat) (List (Wd × Nat))) : prepW done (prepW [a] x) = prepW (done ++ [a]) x := by
  cases x with
  | ok r => show Except.ok _ = Except.ok _; simp
  | error x => rfl
theorem skip_skip (l : List UInt8) : skipN (l.drop (skipN l)) = 0 := by
  induction l with
  | nil => rfl
  | cons c t ih =>
    cases hb : Lex.bl c with
    | true =>
      have e : skipN (c :: t) = skipN t + 1 := by unfold skipN; rw [List.takeWhile_cons_of_pos hb]; rfl
      rw [e]
      exact ih
    | false =>
      have e : skipN (c :: t) = 0 := by unfold skipN; rw [List.takeWhile_cons_of_neg (by rw [hb]; simp)]; rfl
      rw [e]
      exact e
theorem wordsF_end {l : List UInt8} {i f : Nat} (h : l.length ≤ i + skipN (l.drop i)) : wordsF f (l.drop i) i = .ok [] := by
  cases f with
  | zero => rfl
  | succ f =>
    unfold wordsF
    rw [List.drop_drop, List.drop_of_length_le (by omega)]
theorem wordsF_bad {l : List UInt8} {i f j : Nat} {y : Nat × Nat} (hj : j = i + skipN (l.drop i)) (h : j < l.length) (hw : wordL (l.drop j) = .error y) : ∃ y', wordsF (f + 1) (l.drop i) i = .error y' := by
  subst hj
  unfold wordsF
  rw [List.drop_drop]
  obtain ⟨c, t, e⟩ : ∃ c t, l.drop (i + skipN (l.drop i)) = c :: t := ⟨_, _, List.drop_eq_getElem_cons h⟩
  rw [e] at hw ⊢
  obtain ⟨a, b⟩ := y
  dsimp only
  rw [hw]
  exact ⟨_, rfl⟩
theorem wordsF_step {l : List UInt8} {i f j n : Nat} {x : Wd} (hj : j = i + skipN (l.drop i)) (h : j < l.length) (hw : wordL (l.drop j) = .ok (x, n)) : wordsF (f + 1) (l.drop i) i = prepW [(x, j)] (wordsF f (l.drop (j + n)) (j + n)) := by
  subst hj
  conv => lhs; unfold wordsF
  rw [List.drop_drop]
  obtain ⟨c, t, e⟩ : ∃ c t, l.drop (i + skipN (l.drop i)) = c :: t := ⟨_, _, List.drop_eq_getElem_cons h⟩
  have e2 : l.drop (i + skipN (l.drop i) + n) = (c :: t).drop n := by rw [← e, List.drop_drop]
  rw [e] at hw ⊢
  rw [e2]
  dsimp only
  rw [hw]
  dsimp only
  cases wordsF f ((c :: t).drop n) (i + skipN (l.drop i) + n) <;> rfl
theorem word_pos {l : List UInt8} {x : Wd} {n : Nat} (h : wordL l = .ok (x, n)) : 0 < n := by
  cases l with
  | nil => cases h
  | cons c t =>
    unfold wordL at h
    dsimp only at h
    by_cases h1 : begB c = true
    · rw [if_pos h1] at h
      split at h
      · cases h
      · injection h with h
        injection h with _ h
        have e : nameN (c :: t) = if begB c = true then (t.takeWhile nameC).length + 1 else 0 := rfl
        rw [if_pos h1] at e
        omega
    · rw [if_neg h1] at h
      by_cases h2 : c = 46
      · rw [if_pos h2] at h
        by_cases h3 : nameN t = 0
        · rw [if_pos h3] at h
          injection h with h
          injection h with _ h
          omega
        · rw [if_neg h3] at h
          cases hd : dotsL (c :: t) with
          | error e => rw [hd] at h; cases h
          | ok k =>
            rw [hd] at h
            dsimp only at h
            injection h with h
            injection h with _ h
            subst h2
            cases t with
            | nil => exact absurd rfl h3
            | cons d t =>
              unfold dotsL at hd
              rw [List.length_cons, dots_step, if_neg h3] at hd
              split at hd
              · cases hd
              · split at hd
                · cases hd
                · injection hd with hd
                  omega
      · rw [if_neg h2] at h
        by_cases h3 : c = 36
        · rw [if_pos h3] at h
          split at h
          · cases h
          · split at h
            · cases h
            · injection h with h
              injection h with _ h
              omega
        · rw [if_neg h3] at h
          by_cases h4 : c = 45 ∨ digC c = true
          · rw [if_pos h4] at h
            split at h
            · cases h
            · split at h
              · cases h
              · injection h with h
                injection h with _ h
                omega
          · rw [if_neg h4] at h
            by_cases h5 : c = 34
            · rw [if_pos h5] at h
              split at h
              · cases h
              · rename_i x hs
                split at h
                · cases h
                · injection h with h
                  injection h with _ h
                  obtain ⟨x1, x2⟩ := x
                  have := str_rest _ _ _ hs
                  dsimp only at h
                  omega
            · rw [if_neg h5] at h
              split at h
              · injection h with h
                injection h with _ h
                omega
              · split at h
                · injection h with h
                  injection h with _ h
                  omega
                · cases h

/-! ### The words in memory -/
abbrev wdC (x : Wd × Nat) : List Value := [.int .i64 (x.1.k : Int), .string (S x.1.x), .int .i64 (x.2 : Int)]
theorem info_wd : (Tryz.prog.info? 99).map (fun i => (i.zero, i.size, i.bytes)) = some (some (.agg #[.int .i64 0, .string ⟨#[]⟩, .int .i64 0]), 3, 32) := by kernel_rfl
theorem push_wd (x : Wd × Nat) : ∀ u ∈ wdC x, u.oneCell' = true := by
  intro u hu
  simp only [List.mem_cons, List.not_mem_nil, or_false] at hu
  rcases hu with rfl | rfl | rfl <;> rfl
/-- A list of words of one's own. -/
def WdR (base : Nat) (w : World) (v : Value) (r : List (Wd × Nat)) : Prop := w.ownsRow base 99 3 v r.length (r.flatMap wdC)
theorem WdR.nil (base : Nat) (w : World) : WdR base w (.slice none 0 0) [] := World.ownsRow_nil _ _ _ _
theorem WdR.same {base : Nat} {w w' : World} {v : Value} {r : List (Wd × Nat)} (h : WdR base w v r) (hs : ∀ k, base ≤ k → k < w.heap.size → w'.heap[k]? = w.heap[k]?) : WdR base w' v r :=
  own_same h fun k hk he => hs k hk (own_lt h k he)
theorem grown_dr {w w' : World} {b : Option Nat} (h : w.drew.grownBy w' b) : w.grownBy w' b := ⟨h.os, h.tape, h.output, h.size, h.block⟩
/-- A word is put to the words. -/
theorem WdR.push {R base : Nat} {l : List UInt8} {b k p : Int} {w0 w wB : World} {v v' : Value} {r : List (Wd × Nat)} {o : Obj} {x : Wd × Nat} (h : WdR base w v r) (hx : Rx R l b k p w) (hk : Kr R w0 w) (hR : R < base) (hb : base = w0.heap.size)
    (hown : wB.ownsRow base 99 3 v' (r.length + 1) (r.flatMap wdC ++ wdC x)) (hg : (w.alloc o).grownBy wB v.ownBlock) : WdR base wB v' (r ++ [x]) ∧ Rx R l b k p wB ∧ Kr R w0 wB := by
  have hal : Below w.heap.size w (w.alloc o) := (Below.refl _ _).alloc (Nat.le_refl _) _
  have hst : ∀ k, k < w.heap.size → k < base → wB.heap[k]? = w.heap[k]? := fun k hk hkb =>
    (hg.block k (Nat.lt_of_lt_of_le hk hal.size) (fun e => by have := own_ge h k e.symm; omega)).trans (hal.block k hk)
  refine ⟨?_, (hst R hx.lt hR).trans hx, ⟨hg.os.trans (hal.os.trans hk.os), hg.tape.trans (hal.tape.trans hk.tape), hg.output.trans (hal.output.trans hk.output), ?_, fun i hi hiR => ?_⟩⟩
  · show World.ownsRow _ _ _ _ _ _ _
    rw [List.length_append, List.length_singleton, List.flatMap_append]
    simpa using hown
  · exact Nat.le_trans hk.size (Nat.le_trans hal.size hg.size)
  · exact (hst i (Nat.lt_of_lt_of_le hi hk.size) (by omega)).trans (hk.block i hi hiR)

set_option maxHeartbeats 2000000 in
set_option maxRecDepth 100000 in
theorem words_c {R : Nat} {l : List UInt8} (hl : l.length ≤ 4194304) (w : World) (h : Rx R l 0 0 0 w) :
    Calls Tryz.prog 36 #[.pointer (some ⟨R, 0, none⟩)] w fun e w' => Kr R w w' ∧ ((∃ r v, wordsL l = .ok r ∧ e = .returned v ∧ WdR w.heap.size w' v r) ∨ ((∃ y, wordsL l = .error y) ∧ (∃ n, n ≠ 0 ∧ e = Fault n) ∧ ∃ k' p', Rx R l 0 k' p' w')) := by
  have hR := h.lt
  have hbl := blanks_c (b := 0) (p := 0) (Nat.zero_le l.length) hl w h
  obtain ⟨j0, hj0⟩ : ∃ j, j = 0 + skipN (l.drop 0) := ⟨_, rfl⟩
  rw [← hj0] at hbl
  have hj0l : j0 ≤ l.length := by have := skip_le (l.drop 0); rw [List.length_drop] at this; omega
  have HJ := Lib.hid hj0
  have HBl := Lib.hid (fun (k : Nat) (p : Int) (hk : k ≤ l.length) W (h : Rx R l 0 k p W) => blanks_c hk hl W h)
  have HWd := Lib.hid (fun (k : Nat) (hk : k < l.length) W (h : Rx R l 0 k k W) => word_all hk hl W h)
  have hsz : ((S l).size : Int) = (l.length : Int) := by rw [size_S]
  clear h hj0
  go_enter Tryz.func36, Tryz.ntmps36
  go_wp2_with fail
  refine hbl.mono ?_
  clear hbl
  rintro e w1 ⟨rfl, h1, k1⟩
  have H1 := Lib.hid (And.intro h1 k1)
  clear h1 k1
  go_wp2_with fail
  go_loopw [3] (fun out wr => ∃ (i j f : Nat) (p : Int) (done : List (Wd × Nat)), j ≤ l.length ∧ done.length ≤ j ∧ l.length < f + i ∧ Hid (j = i + skipN (l.drop i)) ∧ Hid (wordsL l = prepW done (wordsF f (l.drop i) i)) ∧ Hid (WdR w.heap.size wr out done) ∧ Hid (Rx R l 0 j p wr) ∧ Hid (Kr R w wr)) (fun _ wr => l.length - rAt R wr)
  case atStart => exact ⟨0, j0, l.length + 1, 0, [], hj0l, Nat.zero_le _, by omega, HJ.out, (prep_nil _).symm, WdR.nil _ _, H1.out.1, H1.out.2⟩
  case round =>
    clear H1 HJ
    obtain ⟨i, j, f, p, done, hj, hdl, hf, hji, hW, hD, hT, hK⟩ := hrel
    have hAt := Lib.hid hT.out.rAt
    obtain ⟨c0, c1, c2, c3, z2, z3⟩ := hT.out.cells
    obtain ⟨vp, vc, rfl⟩ := own_shape hD.out
    have i0 : (0 : Int) ≤ (j : Int) := by omega
    have i1 : (j : Int) ≤ 4194304 := by omega
    by_cases hlt : j < l.length
    · have hd : decide ((j : Int) < (l.length : Int)) = true := decide_eq_true (by omega)
      have i2 : (j : Int) < (l.length : Int) := by omega
      have HWd2 := Lib.hid (fun W h => HWd.out j hlt W h)
      have HLt := Lib.hid hlt
      clear hlt
      go_wp2_with fail
      go_quiet (fail)
      have hbq : Below wr.heap.size wr (wr.drewN nq) := Oct.below_drewN (Below.refl _ wr) nq
      have H3 := Lib.hid (And.intro (hT.out.keep hbq) (And.intro (hK.out.trans (Kr.of (R := R) hbq)) (hD.out.same fun k _ hk => hbq.block k hk)))
      clear hbq c0 c1 c2 c3 z2 z3 hT hK hD
      generalize wr.drewN nq = w3 at H3 ⊢
      obtain ⟨c0, c1, c2, c3, z2, z3⟩ := H3.out.1.cells
      go_wp2_with fail
      have H4 : Hid (Rx R l 0 j j (w3.setCell ⟨R, 3, none⟩ (.int .i64 (j : Int))) ∧ Kr R w (w3.setCell ⟨R, 3, none⟩ (.int .i64 (j : Int))) ∧ WdR w.heap.size (w3.setCell ⟨R, 3, none⟩ (.int .i64 (j : Int))) (.slice vp done.length vc) done) :=
        ⟨H3.out.1.place (j : Int), H3.out.2.1.trans (Kr.set (R := R) (i := 3) w3 (.int .i64 (j : Int))), H3.out.2.2.same fun k hk _ => heap_setCell_other _ _ _ _ (by simp; omega)⟩
      have hw := HWd2.out _ H4.out.1
      clear c0 c1 c2 c3 z2 z3 H3
      generalize w3.setCell ⟨R, 3, none⟩ (.int .i64 (j : Int)) = w4 at H4 hw ⊢
      refine hw.mono ?_
      clear hw
      rintro e w5 (⟨x, n, hx, hn, rfl, h5, k5⟩ | ⟨⟨y, hy⟩, hb⟩)
      · have hpos := word_pos hx
        obtain ⟨m, hm⟩ : ∃ m, m = j + n := ⟨_, rfl⟩
        obtain ⟨f', rfl⟩ : ∃ f', f = f' + 1 := ⟨f - 1, by have := hji.out; omega⟩
        have HX : Hid (wordsL l = prepW (done ++ [(x, j)]) (wordsF f' (l.drop m) m)) := by
          show _ = _
          rw [hW.out, wordsF_step hji.out HLt.out hx, prep_step, hm]
        have hf' : l.length < f' + m := by have := hji.out; omega
        rw [← hm] at h5 hn
        have hmj : j < m := by omega
        have H5 := Lib.hid (And.intro h5 (And.intro (H4.out.2.1.trans k5) (H4.out.2.2.same fun k hk _ => k5.block k (by assumption) (by omega))))
        clear hx h5 k5 H4 hm hpos
        obtain ⟨c0, c1, c2, c3, z2, z3⟩ := H5.out.1.cells
        obtain ⟨i9, hi, hz0, hz1, hz2⟩ := info_parts info_wd
        have HOne := Lib.hid (push_wd (x, j))
        have HB5 : Hid (w.heap.size ≤ w5.heap.size) := H5.out.2.1.size
        have HHg := Lib.hid (fun wB v' (hown : wB.ownsRow w.heap.size 99 3 v' (done.length + 1) (done.flatMap wdC ++ wdC (x, j))) (hg : (w5.alloc (.cells (wdC (x, j)).toArray 99)).grownBy wB (Value.slice vp done.length vc).ownBlock) => H5.out.2.2.push H5.out.1 H5.out.2.1 hR rfl hown hg)
        have hbw : IntKind.i64.wrap (j : Int) = (j : Int) := by rw [IntKind.wrap_i64]; omega
        have HBk := Lib.hid (fun W p (h : Rx R l 0 m p W) => HBl.out m p hn W h)
        have hlk : Hid (∀ W, Rx R l 0 m j W → ∃ q, q = m + skipN (l.drop m) ∧ q ≤ l.length) := fun _ _ => ⟨_, rfl, by have := skip_le (l.drop m); rw [List.length_drop] at this; omega⟩
        have hal5 : Below w5.heap.size w5 (w5.alloc (.cells (wdC (x, j)).toArray 99)) := (Below.refl _ _).alloc (Nat.le_refl _) _
        have HA := Lib.hid (H5.out.1.keep hal5).cells
        have x1 : (w5.alloc (.cells #[.int .i64 (x.k : Int), .string (S x.x), .int .i64 (j : Int)] 99)).cell? ⟨R, 1, none⟩ = some (.int .i64 0) := HA.out.c1
        have x3 : (w5.alloc (.cells #[.int .i64 (x.k : Int), .string (S x.x), .int .i64 (j : Int)] 99)).cell? ⟨R, 3, none⟩ = some (.int .i64 (j : Int)) := HA.out.c3
        clear hal5 HA
        go_wp2_with fail
        go_region_law (first
          | (refine step_append_lies _ rfl (.tmp 32) (.tmp 45) 30 rfl w.heap.size 99 i9 _ 3 32 Tryz.underlying30 hi hz0 hz1 hz2 rfl (by omega) (.slice vp done.length vc) done.length (done.flatMap wdC) (by simp [Act.eval]) (H5.out.2.2.alloc _) ⟨w5.heap.size, 0, none⟩ 1 1 (wdC (x, j)) (by simp [Act.eval]) rfl (push_cells (cs := wdC (x, j))) HOne.out (by omega) (by unfold maxLen; omega) (by omega) (by simp; have := HB5.out; omega) (w5.heap.size + 1) (by simp) ?_; intro g cp wB hownB hgB hatB hltB; have HP := Lib.hid (HHg.out wB _ hownB (grown_dr hgB)); clear hownB hgB hatB hltB))
        all_goals
          clear c0 c1 c2 c3 z2 z3 x1 x3
          have hen := HBk.out wB _ HP.out.2.1
          obtain ⟨q, hq, hql⟩ := hlk.out w5 H5.out.1
          rw [← hq] at hen
          have HQ := Lib.hid hq
          have hmq : m ≤ q := by omega
          clear hq
          go_wp2_with fail
          refine hen.mono ?_
          clear hen
          rintro e w7 ⟨rfl, hx7, hk7⟩
          have H7 : Hid (WdR w.heap.size w7 (.slice (some ⟨g, 0, none⟩) (done.length + 1) cp) (done ++ [(x, j)]) ∧ Rx R l 0 q j w7 ∧ Kr R w w7) := ⟨HP.out.1.same fun k hk hkl => hk7.block k hkl (by omega), hx7, HP.out.2.2.trans hk7⟩
          have HAt7 := Lib.hid (hx7.rAt)
          clear hx7 hk7
          go_wp2_with fail
          go_roundw
          case rel => exact ⟨m, q, f', j, done ++ [(x, j)], hql, by rw [List.length_append, List.length_singleton]; omega, hf', HQ.out, HX.out, H7.out.1, H7.out.2.1, H7.out.2.2⟩
          case measure =>
            have e1 := hAt.out
            have e2 := HAt7.out
            show l.length - rAt R _ < l.length - rAt R _
            rw [e1, e2]
            omega
      · obtain ⟨f', rfl⟩ : ∃ f', f = f' + 1 := ⟨f - 1, by have := hji.out; omega⟩
        obtain ⟨y', hy'⟩ := wordsF_bad (f := f') hji.out HLt.out hy
        have HX : Hid (wordsL l = .error y') := by show _ = _; rw [hW.out, hy']; rfl
        obtain ⟨n, hn0, rfl⟩ := hb.1
        exact ⟨rfl, H4.out.2.1.trans hb.2.2, .inr ⟨⟨y', HX.out⟩, ⟨n, hn0, rfl⟩, hb.2.1⟩⟩
    · have hd : decide ((j : Int) < (l.length : Int)) = false := decide_eq_false (by omega)
      have i2 : ¬ (j : Int) < (l.length : Int) := by omega
      have HX : Hid (wordsL l = .ok done) := by
        show _ = _
        rw [hW.out, wordsF_end (by have := hji.out; omega)]
        show Except.ok (done ++ []) = _
        rw [List.append_nil]
      clear hlt
      go_wp2_with fail
      go_quiet (fail)
      have hbq : Below wr.heap.size wr (wr.drewN nq) := Oct.below_drewN (Below.refl _ wr) nq
      have H3 := Lib.hid (And.intro (hK.out.trans (Kr.of (R := R) hbq)) (hD.out.same fun k _ hk => hbq.block k hk))
      clear hbq c0 c1 c2 c3 z2 z3 hT hK hD
      generalize wr.drewN nq = w3 at H3 ⊢
      go_wp2_with fail
      go_ret
      exact ⟨H3.out.1, .inl ⟨done, _, HX.out, rfl, H3.out.2⟩⟩

theorem enter_words : ∀ args w, (callFunc 36 args).run Tryz.prog w = .ok (.enter 36 args) w := enters_of Tryz.func36 (by kernel_rfl) rfl
abbrev readBox (l : List UInt8) (b : Int) (w : World) : World := w.alloc (.cells #[.string (S l), .int .i64 b, .int .i64 0, .int .i64 0] 71)
theorem butw_below {r : Nat} {a W w' : World} {n : Nat} (h : Below n a W) (hn : n ≤ r) (hW : n ≤ W.heap.size) (hb : But r W w') : Below n a w' :=
  ⟨hb.os.trans h.os, hb.tape.trans h.tape, hb.output.trans h.output, Nat.le_trans h.size hb.size, fun k hk => (hb.block k (by omega) (by omega)).trans (h.block k hk)⟩
/-- What Words answers. -/
def WordsOf (l : List UInt8) (w : World) (e : Ending) (w' : World) : Prop := Below w.heap.size w w' ∧
  ((∃ r v, wordsL l = .ok r ∧ e = .returned (.tuple #[v, .int .i64 0, .int .i64 0]) ∧ WdR w.heap.size w' v r) ∨ ((∃ y, wordsL l = .error y) ∧ ∃ a n, e = .returned (.tuple #[.slice none 0 0, .int .i64 a, .int .i64 n])))
set_option maxHeartbeats 1000000 in
set_option maxRecDepth 100000 in
theorem lexWords_c {l : List UInt8} (hl : l.length ≤ 4194304) (w : World) :
    Calls Tryz.prog 14 #[.string (S l), .int .i64 0] w (WordsOf l w) := by
  have hb1 : Below w.heap.size w (readBox l 0 w) := (Below.refl _ w).alloc (Nat.le_refl _) _
  have hs1 : (readBox l 0 w).heap.size = w.heap.size + 1 := Array.size_push _
  have hb2 : Below (readBox l 0 w).heap.size (readBox l 0 w) (errBox (readBox l 0 w)) := (Below.refl _ _).alloc (Nat.le_refl _) _
  have hs2 : (errBox (readBox l 0 w)).heap.size = w.heap.size + 2 := (Array.size_push _).trans (by rw [hs1])
  have hrx : Rx w.heap.size l 0 0 0 (errBox (readBox l 0 w)) := (hb2.block w.heap.size (by rw [hs1]; exact Nat.lt_succ_self _)).trans (heap_alloc_new w _)
  have hb12 : Below w.heap.size w (errBox (readBox l 0 w)) := hb1.trans (hb2.mono (by rw [hs1]; exact Nat.le_succ _))
  have hwo := words_c hl (errBox (readBox l 0 w)) hrx
  have herr : (errBox (readBox l 0 w)).heap[w.heap.size + 1]? = some (.cells #[.int .i64 0] 24 (0, 0)) := by
    have := heap_alloc_new (readBox l 0 w) (.cells #[.int .i64 0] 24)
    rw [hs1] at this
    exact this
  have hc := LxwW.caught_any 36 #[.pointer (some ⟨w.heap.size, 0, none⟩)] (readBox l 0 w)
    (fun n W => n ≠ 0 ∧ Below w.heap.size w W ∧ (∃ y, wordsL l = .error y) ∧ (∃ p, W.cell? ⟨w.heap.size, 3, none⟩ = some (.int .i64 p)) ∧ w.heap.size < W.heap.size)
    (fun v W => Below w.heap.size w W ∧ ∃ r, wordsL l = .ok r ∧ WdR (w.heap.size + 2) W v r) enter_words (hwo.mono (by
      rintro e W ⟨hk, hW⟩
      have hbW : Below w.heap.size w W := hb12.trans (hk.kp.below (by omega))
      refine ⟨?_, ?_⟩
      · rw [hs1]
        exact (hk.block _ (by omega) (by omega)).trans herr
      · rcases hW with ⟨r, v, hr, he, ho⟩ | ⟨hy, ⟨n, hn0, he⟩, k', p', hx⟩
        · rw [hs2] at ho
          exact .inr ⟨v, he, hbW, r, hr, ho⟩
        · exact .inl ⟨n, he, hn0, hbW, hy, ⟨_, hx.cells.c3⟩, by have := hk.size; omega⟩))
  rw [hs1] at hc
  clear hb1 hs1 hb2 hs2 hrx hb12 hwo herr
  go_enter Tryz.func14, Tryz.ntmps14
  go_wp2_with fail
  refine hc.mono ?_
  clear hc
  rintro e w2 ⟨W, hbut, (⟨n, rfl, hn, hbW, hy, ⟨p, hcell⟩, hsW⟩ | ⟨v, rfl, hbW, r, hr, ho⟩)⟩
  · have hcell2 : w2.cell? ⟨w.heap.size, 3, none⟩ = some (.int .i64 p) := by
      have e := hbut.block w.heap.size hsW (by omega)
      have e2 : w2.cell? ⟨w.heap.size, 3, none⟩ = W.cell? ⟨w.heap.size, 3, none⟩ := by simp only [World.cell?, e]
      exact e2.trans hcell
    have HB := Lib.hid (And.intro hy (butw_below hbW (Nat.le_succ _) (Nat.le_of_lt hsW) hbut))
    have b0 : (n == 0) = false := by rw [beq_eq_false_iff_ne]; exact hn
    have f0 : (n != 0) = true := by rw [bne, b0]; rfl
    have n0 : ¬ n = 0 := hn
    clear hbut hbW hcell hy hn
    go_wp2_with fail
    go_region
    all_goals go_wp2_with fail
    all_goals go_ret3
    all_goals exact ⟨HB.out.2.drew, .inr ⟨HB.out.1, _, n, rfl⟩⟩
  · have HB := Lib.hid (And.intro (And.intro hr hbW.size) (And.intro (butw_below hbW (Nat.le_succ _) hbW.size hbut) (own_less (own_same ho fun b hb he => hbut.block b (own_lt ho b he) (by omega)) (Nat.le_add_right w.heap.size 2))))
    clear hbut hbW ho hr
    go_wp2_with fail
    go_ret3
    exact ⟨HB.out.2.1, .inl ⟨r, v, HB.out.1.1, rfl, HB.out.2.2⟩⟩
end Go.Proofs.YtmccbcficbbidaaGreatDoor.Lxw

/-
  Pipelines and words in memory: to be read, and as one's own.
-/
namespace Go.Proofs.YtmccbcficbbidaaGreatDoor.Pw
open Go.RowKit Go.Proofs.YtmccbcficbbidaaGreatDoor.Oct Go.Proofs.YtmccbcficbbidaaGreatDoor.Lex Go.Proofs.YtmccbcficbbidaaGreatDoor.Lxw Go.Proofs.YtmccbcficbbidaaGreatDoor.Pip

theorem flat_cell {α : Type} (f : α → List Value) (m : Nat) (hf : ∀ x, (f x).length = m) (l : List α) : ∀ (i : Nat) (h : i < l.length) (j : Nat), j < m → (l.flatMap f)[i * m + j]? = (f l[i])[j]? := by
  induction l with
  | nil => intro i h; exact absurd h (by simp)
  | cons x t ih =>
    intro i h j hj
    rw [List.flatMap_cons]
    cases i with
    | zero =>
      rw [Nat.zero_mul, Nat.zero_add, List.getElem?_append_left (by rw [hf]; exact hj)]
      rfl
    | succ i =>
      have e : (i + 1) * m + j = (f x).length + (i * m + j) := by rw [hf, Nat.succ_mul]; omega
      rw [e, List.getElem?_append_right (by omega), Nat.add_sub_cancel_left]
      exact ih i (by simpa using h) j hj
theorem some_up {w W : World} {a : Addr} {v : Value} (h : w.cell? a = some v) (hb : Below w.heap.size w W) : W.cell? a = some v := by
  rw [hb.cell (World.block_lt_of_cell? w a h)]
  exact h
/-- Behind what one's own call made. -/
def Kept (base : Nat) (w w' : World) : Prop := ∀ k, base ≤ k → k < w.heap.size → w'.heap[k]? = w.heap[k]?
theorem kept_of {base : Nat} {w w' : World} (h : Below w.heap.size w w') : Kept base w w' := fun k _ hk => h.block k hk

/-! ### To be read -/
/-- A list of names that lies in memory. -/
def PathIn (w : World) (v : Value) (ns : List (List UInt8)) : Prop := ∃ p cap, v = .slice p ns.length cap ∧ (0 < ns.length → ∃ b o, p = some ⟨b, o, none⟩ ∧ ∀ i (h : i < ns.length), w.cell? ⟨b, o + i, none⟩ = some (.string (S ns[i])))
abbrev arC (a : Ar) (vp : Value) : List Value := [.int .i64 a.k, .string (S a.n), vp, .int .i64 a.i, .string (S a.x)]
abbrev arV (a : Ar) (vp : Value) : Value := .agg #[.int .i64 a.k, .string (S a.n), vp, .int .i64 a.i, .string (S a.x)]
/-- What an argument's cells hold. -/
structure ArAt (w : World) (b o : Nat) (a : Ar) (vp : Value) : Prop where
  path : PathIn w vp a.p
  c0 : w.cell? ⟨b, o, none⟩ = some (.int .i64 a.k)
  c1 : w.cell? ⟨b, o + 1, none⟩ = some (.string (S a.n))
  c2 : w.cell? ⟨b, o + 2, none⟩ = some vp
  c3 : w.cell? ⟨b, o + 3, none⟩ = some (.int .i64 a.i)
  c4 : w.cell? ⟨b, o + 4, none⟩ = some (.string (S a.x))
/-- A list of arguments that lies in memory. -/
def ArgIn (w : World) (v : Value) (al : List Ar) : Prop := ∃ p cap, v = .slice p al.length cap ∧ (0 < al.length → ∃ b o, p = some ⟨b, o, none⟩ ∧ ∀ i (h : i < al.length), ∃ vp, ArAt w b (o + i * 5) al[i] vp)
abbrev caV (c : Ca) (va : Value) : Value := .agg #[.string (S c.n), va]
structure CaAt (w : World) (b o : Nat) (c : Ca) (va : Value) : Prop where
  args : ArgIn w va c.as
  c0 : w.cell? ⟨b, o, none⟩ = some (.string (S c.n))
  c1 : w.cell? ⟨b, o + 1, none⟩ = some va
/-- A pipeline that lies in memory. -/
def CallIn (w : World) (v : Value) (cs : List Ca) : Prop := ∃ p cap, v = .slice p cs.length cap ∧ (0 < cs.length → ∃ b o, p = some ⟨b, o, none⟩ ∧ ∀ i (h : i < cs.length), ∃ va, CaAt w b (o + i * 2) cs[i] va)
theorem PathIn.up {w W : World} {v : Value} {ns : List (List UInt8)} (h : PathIn w v ns) (hb : Below w.heap.size w W) : PathIn W v ns := by
  obtain ⟨p, cap, h1, h2⟩ := h
  refine ⟨p, cap, h1, fun hl => ?_⟩
  obtain ⟨b, o, h3, h4⟩ := h2 hl
  exact ⟨b, o, h3, fun i hi => some_up (h4 i hi) hb⟩
theorem ArAt.up {w W : World} {b o : Nat} {a : Ar} {vp : Value} (h : ArAt w b o a vp) (hb : Below w.heap.size w W) : ArAt W b o a vp :=
  ⟨h.path.up hb, some_up h.c0 hb, some_up h.c1 hb, some_up h.c2 hb, some_up h.c3 hb, some_up h.c4 hb⟩
theorem ArgIn.up {w W : World} {v : Value} {al : List Ar} (h : ArgIn w v al) (hb : Below w.heap.size w W) : ArgIn W v al := by
  obtain ⟨p, cap, h1, h2⟩ := h
  refine ⟨p, cap, h1, fun hl => ?_⟩
  obtain ⟨b, o, h3, h4⟩ := h2 hl
  refine ⟨b, o, h3, fun i hi => ?_⟩
  obtain ⟨vp, h5⟩ := h4 i hi
  exact ⟨vp, h5.up hb⟩
theorem CaAt.up {w W : World} {b o : Nat} {c : Ca} {va : Value} (h : CaAt w b o c va) (hb : Below w.heap.size w W) : CaAt W b o c va := ⟨h.args.up hb, some_up h.c0 hb, some_up h.c1 hb⟩
theorem CallIn.up {w W : World} {v : Value} {cs : List Ca} (h : CallIn w v cs) (hb : Below w.heap.size w W) : CallIn W v cs := by
  obtain ⟨p, cap, h1, h2⟩ := h
  refine ⟨p, cap, h1, fun hl => ?_⟩
  obtain ⟨b, o, h3, h4⟩ := h2 hl
  refine ⟨b, o, h3, fun i hi => ?_⟩
  obtain ⟨va, h5⟩ := h4 i hi
  exact ⟨va, h5.up hb⟩

/-! ### One's own -/
abbrev nmC (n : List UInt8) : List Value := [.string (S n)]
def PathR (base : Nat) (w : World) (v : Value) (ns : List (List UInt8)) : Prop := w.ownsRow base 9 1 v ns.length (ns.flatMap nmC)
abbrev arC2 (x : Ar × Value) : List Value := arC x.1 x.2
def ArgR (base : Nat) (w : World) (v : Value) (al : List Ar) : Prop := ∃ l : List (Ar × Value), l.map Prod.fst = al ∧ w.ownsRow base 44 5 v l.length (l.flatMap arC2) ∧ ∀ x ∈ l, PathR base w x.2 x.1.p
abbrev caC2 (x : Ca × Value) : List Value := [.string (S x.1.n), x.2]
def CallR (base : Nat) (w : World) (v : Value) (cs : List Ca) : Prop := ∃ l : List (Ca × Value), l.map Prod.fst = cs ∧ w.ownsRow base 41 2 v l.length (l.flatMap caC2) ∧ ∀ x ∈ l, ArgR base w x.2 x.1.as
theorem PathR.nil (base : Nat) (w : World) : PathR base w (.slice none 0 0) [] := World.ownsRow_nil _ _ _ _
theorem PathR.same {base : Nat} {w w' : World} {v : Value} {ns : List (List UInt8)} (h : PathR base w v ns) (hs : Kept base w w') : PathR base w' v ns :=
  own_same h fun k hk he => hs k hk (own_lt h k he)
theorem ArgR.nil (base : Nat) (w : World) : ArgR base w (.slice none 0 0) [] := ⟨[], rfl, World.ownsRow_nil _ _ _ _, fun _ hx => nomatch hx⟩
theorem ArgR.same {base : Nat} {w w' : World} {v : Value} {al : List Ar} (h : ArgR base w v al) (hs : Kept base w w') : ArgR base w' v al := by
  obtain ⟨l, h1, h2, h3⟩ := h
  exact ⟨l, h1, own_same h2 fun k hk he => hs k hk (own_lt h2 k he), fun x hx => (h3 x hx).same hs⟩
theorem CallR.same {base : Nat} {w w' : World} {v : Value} {cs : List Ca} (h : CallR base w v cs) (hs : Kept base w w') : CallR base w' v cs := by
  obtain ⟨l, h1, h2, h3⟩ := h
  exact ⟨l, h1, own_same h2 fun k hk he => hs k hk (own_lt h2 k he), fun x hx => (h3 x hx).same hs⟩
theorem PathR.less {base b2 : Nat} {w : World} {v : Value} {ns : List (List UInt8)} (h : PathR base w v ns) (hb : b2 ≤ base) : PathR b2 w v ns := own_less h hb
theorem ArgR.less {base b2 : Nat} {w : World} {v : Value} {al : List Ar} (h : ArgR base w v al) (hb : b2 ≤ base) : ArgR b2 w v al := by
  obtain ⟨l, h1, h2, h3⟩ := h
  exact ⟨l, h1, own_less h2 hb, fun x hx => (h3 x hx).less hb⟩
theorem CallR.less {base b2 : Nat} {w : World} {v : Value} {cs : List Ca} (h : CallR base w v cs) (hb : b2 ≤ base) : CallR b2 w v cs := by
  obtain ⟨l, h1, h2, h3⟩ := h
  exact ⟨l, h1, own_less h2 hb, fun x hx => (h3 x hx).less hb⟩
/-- The cells of a row of one's own. -/
theorem row_at {α : Type} {f : α → List Value} {m : Nat} (hf : ∀ x, (f x).length = m) {base : Nat} {w : World} {e : TypeId} {v : Value} {l : List α} (h : w.ownsRow base e m v l.length (l.flatMap f)) :
    ∃ p cap, v = .slice p l.length cap ∧ (0 < l.length → ∃ b, p = some ⟨b, 0, none⟩ ∧ base ≤ b ∧ ∀ i (hi : i < l.length) (j : Nat), j < m → w.cell? ⟨b, i * m + j, none⟩ = (f l[i])[j]?) := by
  rcases Nat.eq_zero_or_pos l.length with h0 | hpos
  · obtain ⟨p, c, rfl⟩ := own_shape h
    exact ⟨p, c, rfl, fun h => absurd h (by omega)⟩
  · obtain ⟨g, cap, rfl, hg, _⟩ := World.ownsRow.form h hpos
    refine ⟨some ⟨g, 0, none⟩, cap, rfl, fun _ => ⟨g, rfl, hg, fun i hi j hj => ?_⟩⟩
    have hlt : i * m + j < l.length * m := by
      have : (i + 1) * m ≤ l.length * m := Nat.mul_le_mul_right m hi
      rw [Nat.succ_mul] at this
      omega
    rw [World.ownsRow.cellAt h _ hlt, flat_cell f m hf l i hi j hj]
theorem PathR.in_ {base : Nat} {w : World} {v : Value} {ns : List (List UInt8)} (h : PathR base w v ns) : PathIn w v ns := by
  obtain ⟨p, cap, h1, h2⟩ := row_at (f := nmC) (m := 1) (fun _ => rfl) h
  refine ⟨p, cap, h1, fun hl => ?_⟩
  obtain ⟨b, h3, _, h4⟩ := h2 hl
  refine ⟨b, 0, h3, fun i hi => ?_⟩
  have := h4 i hi 0 (by decide)
  rw [Nat.mul_one, Nat.add_zero] at this
  rw [Nat.zero_add]
  exact this
theorem ArgR.in_ {base : Nat} {w : World} {v : Value} {al : List Ar} (h : ArgR base w v al) : ArgIn w v al := by
  obtain ⟨l, rfl, h2, h3⟩ := h
  obtain ⟨p, cap, h4, h5⟩ := row_at (f := arC2) (m := 5) (fun _ => rfl) h2
  refine ⟨p, cap, by rw [List.length_map]; exact h4, fun hl => ?_⟩
  rw [List.length_map] at hl
  obtain ⟨b, h6, _, h7⟩ := h5 hl
  refine ⟨b, 0, h6, fun i hi => ?_⟩
  have hi' : i < l.length := by simpa using hi
  refine ⟨l[i].2, ?_⟩
  rw [List.getElem_map, Nat.zero_add]
  exact ⟨(h3 _ (List.getElem_mem hi')).in_, h7 i hi' 0 (by decide), h7 i hi' 1 (by decide), h7 i hi' 2 (by decide), h7 i hi' 3 (by decide), h7 i hi' 4 (by decide)⟩
theorem CallR.in_ {base : Nat} {w : World} {v : Value} {cs : List Ca} (h : CallR base w v cs) : CallIn w v cs := by
  obtain ⟨l, rfl, h2, h3⟩ := h
  obtain ⟨p, cap, h4, h5⟩ := row_at (f := caC2) (m := 2) (fun _ => rfl) h2
  refine ⟨p, cap, by rw [List.length_map]; exact h4, fun hl => ?_⟩
  rw [List.length_map] at hl
  obtain ⟨b, h6, _, h7⟩ := h5 hl
  refine ⟨b, 0, h6, fun i hi => ?_⟩
  have hi' : i < l.length := by simpa using hi
  refine ⟨l[i].2, ?_⟩
  rw [List.getElem_map, Nat.zero_add]
  exact ⟨(h3 _ (List.getElem_mem hi')).in_, h7 i hi' 0 (by decide), h7 i hi' 1 (by decide)⟩

/-! ### Words -/
/-- Words that lie in memory from a place on. -/
def WdAt (w : World) (b o : Nat) (ws : List (Wd × Nat)) : Prop := ∀ i (h : i < ws.length), w.cell? ⟨b, o + i * 3, none⟩ = some (.int .i64 (ws[i].1.k : Int)) ∧ w.cell? ⟨b, o + i * 3 + 1, none⟩ = some (.string (S ws[i].1.x)) ∧ w.cell? ⟨b, o + i * 3 + 2, none⟩ = some (.int .i64 (ws[i].2 : Int))
theorem WdAt.up {w W : World} {b o : Nat} {ws : List (Wd × Nat)} (h : WdAt w b o ws) (hb : Below w.heap.size w W) : WdAt W b o ws :=
  fun i hi => ⟨some_up (h i hi).1 hb, some_up (h i hi).2.1 hb, some_up (h i hi).2.2 hb⟩
theorem WdAt.take {w : World} {b o n : Nat} {ws : List (Wd × Nat)} (h : WdAt w b o ws) : WdAt w b o (ws.take n) := fun i hi => by
  have hi2 : i < ws.length := by rw [List.length_take] at hi; omega
  have := h i hi2
  rw [List.getElem_take]
  exact this
theorem WdAt.drop {w : World} {b o n : Nat} {ws : List (Wd × Nat)} (h : WdAt w b o ws) : WdAt w b (o + n * 3) (ws.drop n) := fun i hi => by
  have hi2 : n + i < ws.length := by rw [List.length_drop] at hi; omega
  have := h (n + i) hi2
  rw [List.getElem_drop, show o + n * 3 + i * 3 = o + (n + i) * 3 by omega]
  exact this
end Go.Proofs.YtmccbcficbbidaaGreatDoor.Pw
