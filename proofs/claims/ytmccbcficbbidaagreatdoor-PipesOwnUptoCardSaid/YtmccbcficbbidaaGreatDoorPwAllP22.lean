/-
  Part 22: PwRefWords, PwPage2.
-/
import Derived.Test.YtmccbcficbbidaaGreatDoorPwAllP21
import Derived.Test.YtmccbcficbbidaaGreatDoorPwAllP12
import Derived.Test.YtmccbcficbbidaaGreatDoorPwAllP18
/-
  Contract of the page's Words, at every text.
-/
namespace Go.Proofs.YtmccbcficbbidaaGreatDoor.Pwr
open Go.RowKit Go.Proofs.YtmccbcficbbidaaGreatDoor.Oct Go.Proofs.YtmccbcficbbidaaGreatDoor.Lex Go.Proofs.YtmccbcficbbidaaGreatDoor.Lxw

theorem info_rwd : (Tryz.prog.info? 83).map (fun i => (i.zero, i.size, i.bytes)) = some (some (.agg #[.int .i64 0, .string ⟨#[]⟩, .int .i64 0]), 3, 32) := by kernel_rfl
/-- A list of the page's words of one's own. -/
def RWdR (base : Nat) (w : World) (v : Value) (r : List (Wd × Nat)) : Prop := w.ownsRow base 83 3 v r.length (r.flatMap wdC)
theorem RWdR.nil (base : Nat) (w : World) : RWdR base w (.slice none 0 0) [] := World.ownsRow_nil _ _ _ _
theorem RWdR.same {base : Nat} {w w' : World} {v : Value} {r : List (Wd × Nat)} (h : RWdR base w v r) (hs : ∀ k, base ≤ k → k < w.heap.size → w'.heap[k]? = w.heap[k]?) : RWdR base w' v r :=
  own_same h fun k hk he => hs k hk (own_lt h k he)
theorem RWdR.push {base : Nat} {w0 w wB : World} {v v' : Value} {r : List (Wd × Nat)} {o : Obj} {x : Wd × Nat} (h : RWdR base w v r) (hk : Below base w0 w) (hb : base ≤ w.heap.size)
    (hown : wB.ownsRow base 83 3 v' (r.length + 1) (r.flatMap wdC ++ wdC x)) (hg : (w.alloc o).grownBy wB v.ownBlock) : RWdR base wB v' (r ++ [x]) ∧ Below base w0 wB := by
  refine ⟨?_, (hk.alloc hb _).grown hg (by simp; omega) fun k he => own_ge h k he⟩
  show World.ownsRow _ _ _ _ _ _ _
  rw [List.length_append, List.length_singleton, List.flatMap_append]
  simpa using hown
theorem push_cells_at {w : World} {T : TypeId} {cs : List Value} (H : Nat) (hH : w.heap.size = H) (j : Nat) (u : Value) (h : cs[j]? = some u) : (w.alloc (.cells cs.toArray T)).cell? ((⟨H, 0, none⟩ : Addr).add j) = some u := by
  subst hH
  exact push_cells j u h
/-- What the page's Words answers. -/
def RWordsOf (l : List UInt8) (w : World) (e : Ending) (w' : World) : Prop := Below w.heap.size w w' ∧
  ((∃ r v, wordsL l = .ok r ∧ e = .returned (.tuple #[v, .int .i64 0, .int .i64 0]) ∧ RWdR w.heap.size w' v r) ∨ ((∃ y, wordsL l = .error y) ∧ ∃ a n, e = .returned (.tuple #[.slice none 0 0, .int .i64 a, .int .i64 n])))
set_option maxHeartbeats 2000000 in
set_option maxRecDepth 100000 in
theorem rWords_c {l : List UInt8} (hl : l.length ≤ 4194304) (w : World) :
    Calls Tryz.prog 39 #[.string (S l), .int .i64 0] w (RWordsOf l w) := by
  obtain ⟨j0, hj0⟩ : ∃ j, j = 0 + skipN (l.drop 0) := ⟨_, rfl⟩
  have hsk : ∀ W, Calls Tryz.prog 60 #[.string (S l), .int .i64 0] W fun e w' => e = .returned (.int .i64 (j0 : Int)) ∧ W = w' := fun W => rskip_c l hl 0 (Nat.zero_le _) hj0 W
  have hj0l : j0 ≤ l.length := by have := skip_le (l.drop 0); rw [List.length_drop] at this; omega
  have HJ := Lib.hid hj0
  have HSk := Lib.hid (fun (k q : Nat) (hk : k ≤ l.length) (hq : q = k + skipN (l.drop k)) W => rskip_c l hl k hk hq W)
  have HWd := Lib.hid (fun (k : Nat) (hk : k < l.length) W => rword_c hk hl W)
  have hsz : ((S l).size : Int) = (l.length : Int) := by rw [size_S]
  have hsn : (S l).size = l.length := size_S l
  clear hj0
  go_enter Tryz.func39, Tryz.ntmps39
  go_wp2_with (go_at_call 60; refine (hsk _).mono ?_; rintro e w' ⟨rfl, rfl⟩)
  go_loopw [7, 8] (fun out at_ wr => ∃ (i j f : Nat) (done : List (Wd × Nat)), j ≤ l.length ∧ done.length ≤ j ∧ l.length < f + i ∧ at_ = .int .i64 (j : Int) ∧ Hid (j = i + skipN (l.drop i)) ∧ Hid (wordsL l = prepW done (wordsF f (l.drop i) i)) ∧ Hid (RWdR w.heap.size wr out done) ∧ Hid (Below w.heap.size w wr)) (fun _ i _ => l.length - (intOf i).toNat)
  case atStart => exact ⟨0, j0, l.length + 1, [], hj0l, Nat.zero_le _, by omega, rfl, HJ.out, (prep_nil _).symm, RWdR.nil _ _, Below.refl _ _⟩
  case round =>
    clear HJ
    obtain ⟨i, j, f, done, hj, hdl, hf, rfl, hji, hW, hD, hK⟩ := hrel
    obtain ⟨vp, vc, rfl⟩ := own_shape hD.out
    have i0 : (0 : Int) ≤ (j : Int) := by omega
    have i1 : (j : Int) ≤ 4194304 := by omega
    by_cases hlt : j < l.length
    · have hd : decide ((j : Int) < (l.length : Int)) = true := decide_eq_true (by omega)
      have i2 : (j : Int) < (l.length : Int) := by omega
      have hw := HWd.out j hlt wr
      have HLt := Lib.hid hlt
      clear hlt
      go_wp2_with fail
      refine hw.mono ?_
      clear hw
      rintro e w5 ⟨(⟨x, n, hx, hn, p, rfl⟩ | ⟨⟨y, hy⟩, a, s, c, n, p, hn, rfl⟩), hb5⟩
      · have hpos := word_pos hx
        obtain ⟨m, hm⟩ : ∃ m, m = j + n := ⟨_, rfl⟩
        obtain ⟨f', rfl⟩ : ∃ f', f = f' + 1 := ⟨f - 1, by have := hji.out; omega⟩
        have HX : Hid (wordsL l = prepW (done ++ [(x, j)]) (wordsF f' (l.drop m) m)) := by
          show _ = _
          rw [hW.out, wordsF_step hji.out HLt.out hx, prep_step, hm]
        have hf' : l.length < f' + m := by have := hji.out; omega
        rw [← hm] at hn ⊢
        have hmj : j < m := by omega
        obtain ⟨q, hq⟩ : ∃ q, q = m + skipN (l.drop m) := ⟨_, rfl⟩
        have hql : q ≤ l.length := by have := skip_le (l.drop m); rw [List.length_drop] at this; omega
        have hskm := fun W => HSk.out m q hn hq W
        have HQ := Lib.hid hq
        have hmq : m ≤ q := by omega
        have H5 := Lib.hid (And.intro (hD.out.same fun k _ hk => hb5.block k hk) (hK.out.trans (hb5.mono hK.out.size)))
        clear hx hm hpos hb5 hD hK hW hq
        obtain ⟨i9, hi, hz0, hz1, hz2⟩ := info_parts info_rwd
        have hB : w.heap.size ≤ w5.heap.size := H5.out.2.size
        have hal : Hid (∀ o, RWdR w.heap.size (w5.alloc o) (.slice vp done.length vc) done ∧ Below w.heap.size w (w5.alloc o)) := fun o =>
          ⟨H5.out.1.same fun k _ hk => ((Below.refl _ w5).alloc (Nat.le_refl _) o).block k hk, H5.out.2.alloc hB o⟩
        have HOne := Lib.hid (push_wd (x, j))
        have hHs : (w5.alloc (.cells (wdC (x, j)).toArray 83)).heap.size = w5.heap.size + 1 := Array.size_push _
        have HPC := Lib.hid (fun (jj : Nat) (u : Value) (h : (wdC (x, j))[jj]? = some u) => push_cells_at (w := w5.alloc (.cells (wdC (x, j)).toArray 83)) (T := 83) (cs := wdC (x, j)) _ hHs jj u h)
        have hB6 : Hid (w.heap.size ≤ (w5.alloc (.cells (wdC (x, j)).toArray 83)).heap.size) := by show _ ≤ _; rw [hHs]; omega
        clear hHs
        go_wp2_with (at_builtin; refine wpList_append_own _ rfl _ _ 35 rfl w.heap.size 83 i9 _ 3 32 Tryz.underlying35 hi hz0 hz1 hz2 rfl (by decide) _ _ _ rfl ((hal.out _).1.alloc _) ⟨w5.heap.size + 1, 0, none⟩ 1 1 (wdC (x, j)) rfl rfl HPC.out HOne.out (by unfold maxLen; omega) (by omega) (by simp; omega) ?_)
        intro v' w7 hown' hgrow _
        have HP := Lib.hid (RWdR.push (x := (x, j)) (hal.out _).1 (hal.out _).2 hB6.out hown' hgrow)
        clear hown' hgrow hal HPC HOne hB6 H5
        go_wp2_with (go_at_call 60; refine (hskm _).mono ?_; rintro e w' ⟨rfl, rfl⟩)
        go_roundw
        case rel => exact ⟨m, q, f', done ++ [(x, j)], hql, by rw [List.length_append, List.length_singleton]; omega, hf', rfl, HQ.out, HX.out, HP.out.1, HP.out.2⟩
        case measure => simp [intOf]; omega
      · obtain ⟨f', rfl⟩ : ∃ f', f = f' + 1 := ⟨f - 1, by have := hji.out; omega⟩
        obtain ⟨y', hy'⟩ := wordsF_bad (f := f') hji.out HLt.out hy
        have HX : Hid (wordsL l = .error y') := by show _ = _; rw [hW.out, hy']; rfl
        have hb6 := hb5.trans ((Below.refl _ w5).alloc hb5.size (.cells #[.int .i64 a, .string s, .int .i64 0] 83))
        have HK := Lib.hid (hK.out.trans (hb6.mono hK.out.size))
        have nb : (n == 0) = false := by rw [beq_eq_false_iff_ne]; exact hn
        have nc : (n != 0) = true := by rw [bne, nb]; rfl
        have nd : ¬ n = 0 := hn
        clear hb5 hb6 hy hy' hn
        go_wp2_with fail
        go_ret3
        exact ⟨HK.out, .inr ⟨⟨y', HX.out⟩, _, n, rfl⟩⟩
    · have hd : decide ((j : Int) < (l.length : Int)) = false := decide_eq_false (by omega)
      have hd2 : decide (j < l.length) = false := decide_eq_false hlt
      have HX : Hid (wordsL l = .ok done) := by
        show _ = _
        rw [hW.out, wordsF_end (by have := hji.out; omega)]
        show Except.ok (done ++ []) = _
        rw [List.append_nil]
      clear hlt
      go_wp2_with fail
      go_ret3
      exact ⟨hK.out, .inl ⟨done, _, HX.out, rfl, hD.out⟩⟩
end Go.Proofs.YtmccbcficbbidaaGreatDoor.Pwr

/-
  Contract of the page's pipelines: arguments.
-/
namespace Go.Proofs.YtmccbcficbbidaaGreatDoor.Pw
open Go.RowKit Go.Proofs.YtmccbcficbbidaaGreatDoor.Oct Go.Proofs.YtmccbcficbbidaaGreatDoor.Lex Go.Proofs.YtmccbcficbbidaaGreatDoor.Lxw Go.Proofs.YtmccbcficbbidaaGreatDoor.Pip
open Go.Proofs.YtmccbcficbbidaaGreatDoor.Num (parseL)

/-- What the page's arg answers. -/
def RArgTo (x : Wd) (w : World) (e : Ending) (w' : World) : Prop := Below w.heap.size w w' ∧
  ((∃ a p c, argE x = .ok a ∧ e = .returned (.tuple #[arV a (.slice p a.p.length c), .int .i64 0]) ∧ PathR w.heap.size w' (.slice p a.p.length c) a.p) ∨ (∃ (n : Nat) (a : Ar), argE x = .error n ∧ n ≠ 0 ∧ e = .returned (.tuple #[arV a (.slice none 0 0), .int .i64 (n : Int)])))
abbrev rargW (w : World) (k0 : Int) (t : ByteArray) (pl : Int) (k i : Int) (n x : ByteArray) : World :=
  (w.alloc (.cells #[.int .i64 k0, .string t, .int .i64 pl] 83)).alloc (.cells #[.int .i64 k, .string n, .slice none 0 0, .int .i64 i, .string x] 44)
theorem rargW_below (w : World) (k0 : Int) (t : ByteArray) (pl : Int) (k i : Int) (n x : ByteArray) : Below w.heap.size w (rargW w k0 t pl k i n x) := ((Below.refl _ w).alloc (Nat.le_refl _) _).alloc (by simp) _
set_option maxHeartbeats 1000000 in
set_option maxRecDepth 100000 in
theorem rarg_true (pl : Int) (w : World) :
    Calls Tryz.prog 63 #[.agg #[.int .i64 1, .string (S cTrue), .int .i64 pl]] w (RArgTo ⟨1, cTrue⟩ w) := by
  have hB1 := Lib.hid (rargW_below w 1 (S cTrue) pl 5 0 ⟨#[]⟩ ⟨#[]⟩)
  have hE : Hid (argE ⟨1, cTrue⟩ = .ok ⟨5, [], [], 0, []⟩) := rfl
  go_enter Tryz.func63, Tryz.ntmps63
  go_wp2_with fail
  refine bodyPost_ret (v := .tuple #[arV ⟨5, [], [], 0, []⟩ (.slice none 0 0), .int .i64 0]) (by simp [results, Tryz.results63, go_sem]) rfl ?_
  exact ⟨hB1.out, .inl ⟨_, none, 0, hE.out, rfl, PathR.nil _ _⟩⟩
set_option maxHeartbeats 1000000 in
set_option maxRecDepth 100000 in
theorem rarg_false (pl : Int) (w : World) :
    Calls Tryz.prog 63 #[.agg #[.int .i64 1, .string (S cFalse), .int .i64 pl]] w (RArgTo ⟨1, cFalse⟩ w) := by
  have hB1 := Lib.hid (rargW_below w 1 (S cFalse) pl 6 0 ⟨#[]⟩ ⟨#[]⟩)
  have hE : Hid (argE ⟨1, cFalse⟩ = .ok ⟨6, [], [], 0, []⟩) := rfl
  go_enter Tryz.func63, Tryz.ntmps63
  go_wp2_with fail
  refine bodyPost_ret (v := .tuple #[arV ⟨6, [], [], 0, []⟩ (.slice none 0 0), .int .i64 0]) (by simp [results, Tryz.results63, go_sem]) rfl ?_
  exact ⟨hB1.out, .inl ⟨_, none, 0, hE.out, rfl, PathR.nil _ _⟩⟩
set_option maxHeartbeats 1000000 in
set_option maxRecDepth 100000 in
theorem rarg_nil (pl : Int) (w : World) :
    Calls Tryz.prog 63 #[.agg #[.int .i64 1, .string (S cNil), .int .i64 pl]] w (RArgTo ⟨1, cNil⟩ w) := by
  have hB1 := Lib.hid (rargW_below w 1 (S cNil) pl 7 0 ⟨#[]⟩ ⟨#[]⟩)
  have hE : Hid (argE ⟨1, cNil⟩ = .ok ⟨7, [], [], 0, []⟩) := rfl
  go_enter Tryz.func63, Tryz.ntmps63
  go_wp2_with fail
  refine bodyPost_ret (v := .tuple #[arV ⟨7, [], [], 0, []⟩ (.slice none 0 0), .int .i64 0]) (by simp [results, Tryz.results63, go_sem]) rfl ?_
  exact ⟨hB1.out, .inl ⟨_, none, 0, hE.out, rfl, PathR.nil _ _⟩⟩
set_option maxHeartbeats 1000000 in
set_option maxRecDepth 100000 in
theorem rarg_noname (t : List UInt8) (pl : Int) (h : constB t = false) (w : World) :
    Calls Tryz.prog 63 #[.agg #[.int .i64 1, .string (S t), .int .i64 pl]] w (RArgTo ⟨1, t⟩ w) := by
  have hB1 := Lib.hid (rargW_below w 1 (S t) pl 0 0 ⟨#[]⟩ ⟨#[]⟩)
  unfold constB at h
  rw [decide_eq_false_iff_not] at h
  have hE : Hid (argE ⟨1, t⟩ = .error 33) := by
    show _ = _
    have hc : argL ⟨1, t⟩ = none := by
      unfold argL
      rw [if_pos rfl, if_neg (fun e => h (.inl e)), if_neg (fun e => h (.inr (.inl e))), if_neg (fun e => h (.inr (.inr e)))]
    unfold argE
    rw [hc]
    rfl
  have q1 := eqK t cTrue
  rw [decide_eq_false (fun e => h (.inl e))] at q1
  have q2 := eqK t cFalse
  rw [decide_eq_false (fun e => h (.inr (.inl e)))] at q2
  have q3 := eqK t cNil
  rw [decide_eq_false (fun e => h (.inr (.inr e)))] at q3
  clear h
  generalize S t = T at *
  go_enter Tryz.func63, Tryz.ntmps63
  go_wp2_with fail
  refine bodyPost_ret (v := .tuple #[arV ⟨0, [], [], 0, []⟩ (.slice none 0 0), .int .i64 33]) (by simp [results, Tryz.results63, go_sem]) rfl ?_
  exact ⟨hB1.out, .inr ⟨33, ⟨0, [], [], 0, []⟩, hE.out, by decide, rfl⟩⟩
set_option maxHeartbeats 1000000 in
set_option maxRecDepth 100000 in
theorem rarg_sign (t : List UInt8) (pl : Int) (w : World) :
    Calls Tryz.prog 63 #[.agg #[.int .i64 6, .string (S t), .int .i64 pl]] w (RArgTo ⟨6, t⟩ w) := by
  have hB1 := Lib.hid (rargW_below w 6 (S t) pl 0 0 ⟨#[]⟩ ⟨#[]⟩)
  have hE : Hid (argE ⟨6, t⟩ = .error 33) := rfl
  generalize S t = T at *
  go_enter Tryz.func63, Tryz.ntmps63
  go_wp2_with fail
  refine bodyPost_ret (v := .tuple #[arV ⟨0, [], [], 0, []⟩ (.slice none 0 0), .int .i64 33]) (by simp [results, Tryz.results63, go_sem]) rfl ?_
  exact ⟨hB1.out, .inr ⟨33, ⟨0, [], [], 0, []⟩, hE.out, by decide, rfl⟩⟩
set_option maxHeartbeats 1000000 in
set_option maxRecDepth 100000 in
theorem rarg_text (t : List UInt8) (pl : Int) (w : World) :
    Calls Tryz.prog 63 #[.agg #[.int .i64 5, .string (S t), .int .i64 pl]] w (RArgTo ⟨5, t⟩ w) := by
  have hB1 := Lib.hid (rargW_below w 5 (S t) pl 4 0 ⟨#[]⟩ (S t))
  have hE : Hid (argE ⟨5, t⟩ = .ok ⟨4, [], [], 0, t⟩) := rfl
  go_enter Tryz.func63, Tryz.ntmps63
  go_wp2_with fail
  refine bodyPost_ret (v := .tuple #[arV ⟨4, [], [], 0, t⟩ (.slice none 0 0), .int .i64 0]) (by simp [results, Tryz.results63, go_sem]) rfl ?_
  exact ⟨hB1.out, .inl ⟨_, none, 0, hE.out, rfl, PathR.nil _ _⟩⟩
set_option maxHeartbeats 1000000 in
set_option maxRecDepth 100000 in
theorem rarg_num (t : List UInt8) (pl : Int) (hl : t.length ≤ 4194304) (w : World) :
    Calls Tryz.prog 63 #[.agg #[.int .i64 4, .string (S t), .int .i64 pl]] w (RArgTo ⟨4, t⟩ w) := by
  have hB1 := Lib.hid (fun i => rargW_below w 4 (S t) pl 3 i ⟨#[]⟩ ⟨#[]⟩)
  have hE : Hid (argE ⟨4, t⟩ = .ok ⟨3, [], [], (parseL t).1, []⟩) := rfl
  have hpa := fun W => Num.rparse_c (S t) W (by rw [size_S]; omega)
  rw [list_S] at hpa
  generalize (parseL t).1 = i at *
  clear hl
  generalize S t = T at *
  go_enter Tryz.func63, Tryz.ntmps63
  go_wp2_with fail
  refine (hpa _).mono ?_
  clear hpa
  rintro e w1 ⟨rfl, rfl⟩
  go_wp2_with fail
  refine bodyPost_ret (v := .tuple #[arV ⟨3, [], [], i, []⟩ (.slice none 0 0), .int .i64 0]) (by simp [results, Tryz.results63, go_sem]) rfl ?_
  exact ⟨hB1.out _, .inl ⟨_, none, 0, hE.out, rfl, PathR.nil _ _⟩⟩
set_option maxHeartbeats 1000000 in
set_option maxRecDepth 100000 in
theorem rarg_path (t : List UInt8) (pl : Int) (hl : t.length ≤ 4194304) (w : World) :
    Calls Tryz.prog 63 #[.agg #[.int .i64 2, .string (S t), .int .i64 pl]] w (RArgTo ⟨2, t⟩ w) := by
  have hE : Hid (argE ⟨2, t⟩ = if 16 < (pathN t).length then .error 42 else .ok ⟨1, [], pathN t, 0, []⟩) := by
    show _ = _
    unfold argE argL
    rw [if_neg (by simp), if_pos rfl]
    by_cases h16 : 16 < (pathN t).length
    · rw [if_pos h16, if_pos h16]; rfl
    · rw [if_neg h16, if_neg h16]
  have hpa := fun W => rpath_c t hl W
  generalize pathN t = ns at *
  clear hl
  generalize S t = T at *
  go_enter Tryz.func63, Tryz.ntmps63
  go_wp2_with fail
  refine (hpa _).mono ?_
  clear hpa
  rintro e w2 ⟨hb2, (⟨h16, v, rfl, hP⟩ | ⟨h16, rfl⟩)⟩
  · obtain ⟨vp, vc, rfl⟩ := own_shape hP
    have hE2 := Lib.hid (hE.out.trans (if_neg (by omega)))
    clear hE h16
    obtain ⟨k1, k2, k3⟩ := two_boxes hb2
    have H2 := Lib.hid (And.intro k1 (And.intro k2 hP))
    obtain ⟨c0, c1, c2, c3, c4, y0, y1, y2, y3, y4⟩ := five_of k2
    clear hb2 k1 k2 k3 hP
    go_wp2_with fail
    obtain ⟨g0, g1, g2, g3, g4, _, _, _, _, _⟩ := five_set H2.out.2.1 (.int .i64 1) (.string ⟨#[]⟩) (.slice vp ns.length vc) (.int .i64 0) (.string ⟨#[]⟩)
    refine bodyPost_ret (v := .tuple #[arV ⟨1, [], ns, 0, []⟩ (.slice vp ns.length vc), .int .i64 0]) (by simp [results, Tryz.results63, go_sem, g0, g1, g2, g3, g4]) rfl ?_
    have hsz : (rargW w 2 T pl 0 0 ⟨#[]⟩ ⟨#[]⟩).heap.size = w.heap.size + 2 := by simp
    exact ⟨five_below H2.out.1 (Nat.le_succ _) _ _ _ _ _, .inl ⟨_, vp, vc, hE2.out, rfl, (H2.out.2.2.same (five_kept (by rw [hsz]; omega) _ _ _ _ _)).less (by rw [hsz]; omega)⟩⟩
  · have hE2 := Lib.hid (hE.out.trans (if_pos h16))
    have hP := True.intro
    clear hE h16
    obtain ⟨k1, k2, k3⟩ := two_boxes hb2
    have H2 := Lib.hid (And.intro k1 (And.intro k2 hP))
    obtain ⟨c0, c1, c2, c3, c4, y0, y1, y2, y3, y4⟩ := five_of k2
    clear hb2 k1 k2 k3 hP
    go_wp2_with fail
    obtain ⟨g0, g1, g2, g3, g4, _, _, _, _, _⟩ := five_set H2.out.2.1 (.int .i64 1) (.string ⟨#[]⟩) (.slice none 0 0) (.int .i64 0) (.string ⟨#[]⟩)
    refine bodyPost_ret (v := .tuple #[arV ⟨1, [], [], 0, []⟩ (.slice none 0 0), .int .i64 42]) (by simp [results, Tryz.results63, go_sem, g0, g1, g2, g3, g4]) rfl ?_
    exact ⟨five_below H2.out.1 (Nat.le_succ _) _ _ _ _ _, .inr ⟨42, ⟨1, [], [], 0, []⟩, hE2.out, by decide, rfl⟩⟩
set_option maxHeartbeats 1000000 in
set_option maxRecDepth 100000 in
theorem rarg_var (t : List UInt8) (pl : Int) (n : List UInt8) (ns : List (List UInt8)) (hn : n = [] ∨ nameB n = true) (hns : ∀ n ∈ ns, nameB n = true) (h : t = 36 :: (n ++ pathL ns)) (hl : t.length ≤ 4194304) (w : World) :
    Calls Tryz.prog 63 #[.agg #[.int .i64 3, .string (S t), .int .i64 pl]] w (RArgTo ⟨3, t⟩ w) := by
  have hns2 : ∀ n ∈ ns, n ≠ [] ∧ ∀ c ∈ n, c ≠ 46 := fun n hn => (name_of (hns n hn)).2.2
  have hnd : ∀ c ∈ n, c ≠ 46 := by
    rcases hn with rfl | h
    · exact fun c hc => nomatch hc
    · exact (name_of h).2.2.2
  have hE : Hid (argE ⟨3, t⟩ = if 16 < ns.length then .error 42 else .ok ⟨2, n, ns, 0, []⟩) := by
    show _ = _
    obtain ⟨q1, q2⟩ := take_var hnd ns
    unfold argE argL
    rw [if_neg (by simp), if_neg (by simp), if_pos rfl, h]
    show (match (if 16 < (pathN ((n ++ pathL ns).dropWhile notDot)).length then none else some (⟨2, (n ++ pathL ns).takeWhile notDot, pathN ((n ++ pathL ns).dropWhile notDot), 0, []⟩ : Ar)) with
      | some a => Except.ok a
      | none => Except.error 42) = _
    rw [q1, q2, path_names ns hns2]
    by_cases h16 : 16 < ns.length
    · rw [if_pos h16, if_pos h16]
    · rw [if_neg h16, if_neg h16]
  have hpa := fun W => rpath_c (pathL ns) (by rw [h, List.length_cons, List.length_append] at hl; omega) W
  rw [path_names ns hns2] at hpa
  obtain ⟨M, hM⟩ : ∃ M, M = t.length := ⟨_, rfl⟩
  obtain ⟨N, hN⟩ : ∃ N, N = n.length + 1 := ⟨_, rfl⟩
  have hNM : N ≤ M := by rw [hN, hM, h, List.length_cons, List.length_append]; omega
  have hz : (S t).size = M := by rw [size_S, hM]
  have hml : M ≤ 4194304 := by omega
  have hcut1 : (S t).extract N M = S (pathL ns) := by
    rw [cutMid, hM, List.take_length, h, hN, List.drop_succ_cons, List.drop_left]
  have hcut2 : (S t).extract 1 N = S n := by
    rw [cutMid, h, hN, List.take_succ_cons, List.drop_succ_cons, List.drop_zero, List.take_left]
  have HAt : Hid (∀ j (hj : j < (S t).size), 1 ≤ j → j < N → (((S t)[j]'hj).toNat : Int) ≠ 46) := fun j hj h1 h2 => by
    have hj2 : j < t.length := by rw [← size_S]; exact hj
    rw [at_S t j hj2]
    obtain ⟨m, rfl⟩ : ∃ m, j = m + 1 := ⟨j - 1, by omega⟩
    have hm : m < n.length := by omega
    have e : t[m + 1]'hj2 = n[m]'hm := by
      subst h
      rw [List.getElem_cons_succ, List.getElem_append_left hm]
    rw [e]
    intro h46
    exact hnd _ (List.getElem_mem hm) (UInt8.toNat_inj.1 (by show (n[m]).toNat = 46; omega))
  have HEnd : Hid (∀ (hj : N < (S t).size), (((S t)[N]'hj).toNat : Int) = 46) := fun hj => by
    have hj2 : N < t.length := by rw [← size_S]; exact hj
    rw [at_S t N hj2]
    subst h
    subst hN
    rw [List.getElem_cons_succ, List.getElem_append_right (Nat.le_refl _)]
    cases ns with
    | nil => rw [List.length_cons, List.length_append] at hj2; simp [pathL] at hj2
    | cons a ns => simp [path_cons]
  have hN1 : 1 ≤ N := by omega
  clear h hn hns hns2 hnd hl hM hN
  generalize S t = T at *
  go_enter Tryz.func63, Tryz.ntmps63
  go_wp2_with fail
  go_loop [6] (fun i => ∃ j : Nat, 1 ≤ j ∧ j ≤ N ∧ i = .int .i64 j) (fun i => N - (intOf i).toNat)
  case atStart => exact ⟨1, Nat.le_refl _, hN1, rfl⟩
  case round =>
    obtain ⟨j, hj1, hjN, rfl⟩ := hrel
    have j0 : (0 : Int) ≤ (j : Int) := by omega
    have j1 : (1 : Int) ≤ (j : Int) := by omega
    have zi : (T.size : Int) = (M : Int) := by rw [hz]
    have j2 : (j : Int) ≤ (M : Int) := by omega
    by_cases hlt : j < N
    · have hjM : j < T.size := by omega
      have hne := HAt.out j hjM hj1 hlt
      have j3 : (j : Int) < (M : Int) := by omega
      have hd : decide ((j : Int) < (M : Int)) = true := decide_eq_true j3
      have hd2 : decide (j < M) = true := decide_eq_true (by omega)
      have c1 : ((T[j].toNat : Int) == 46) = false := by rw [beq_eq_false_iff_ne]; exact hne
      have c2 : ((T[j].toNat : Int) != 46) = true := by rw [bne, c1]; rfl
      have c3 : ¬ T[j].toNat = 46 := by intro e; exact hne (by omega)
      go_wp2_with fail
      go_round
      case rel => exact ⟨j + 1, by omega, by omega, by go_num⟩
      case measure => simp [intOf]; omega
    · obtain rfl : j = N := by omega
      have n1 : (1 : Int) ≤ (j : Int) := by omega
      have hcutA : ∀ w, (Instr.slice 9 (.string T) (some (.int .i64 (j : Int))) none none).run Tryz.prog w = .ok (.string (S (pathL ns))) w := by
        intro w
        rw [run_slice_string_from_if w 9 T .i64 (j : Int) Tryz.underlying9, if_pos (by omega), Int.toNat_natCast, hz, hcut1]
      have hcutB : ∀ w, (Instr.slice 9 (.string T) (some (.int .i64 1)) (some (.int .i64 (j : Int))) none).run Tryz.prog w = .ok (.string (S n)) w := by
        intro w
        rw [run_slice_string w _ T .i64 .i64 1 (j : Int) Tryz.underlying9 (by omega) (by omega) (by omega), Int.toNat_natCast]
        exact congrArg (fun x => Result.ok (Value.string x) w) hcut2
      have hpa2 := hpa
      by_cases hend : j = M
      · have hd : decide ((j : Int) < (M : Int)) = false := decide_eq_false (by omega)
        have hd2 : decide (j < M) = false := decide_eq_false (by omega)
        have hd3 : ¬ (j : Int) < (M : Int) := by omega
        have HME := Lib.hid hend
        clear hend
        go_wp2_with fail
        refine (hpa _).mono ?_
        clear hpa
        rintro e w2 ⟨hb2, (⟨h16, v, rfl, hP⟩ | ⟨h16, rfl⟩)⟩
        · obtain ⟨vp, vc, rfl⟩ := own_shape hP
          have hE2 := Lib.hid (hE.out.trans (if_neg (by omega)))
          clear hE h16
          obtain ⟨k1, k2, k3⟩ := two_boxes hb2
          have t1 : w2.cell? ⟨w.heap.size, 1, none⟩ = some (.string T) := (cell_of_row w2 w.heap.size 1 _ _ _ (Pwr.two_box hb2).2).trans rfl
          have H2 := Lib.hid (And.intro k1 (And.intro k2 hP))
          obtain ⟨c0, c1, c2, c3, c4, y0, y1, y2, y3, y4⟩ := five_of k2
          clear hb2 k1 k2 k3 hP
          go_wp2_with fail
          obtain ⟨g0, g1, g2, g3, g4, _, _, _, _, _⟩ := five_set H2.out.2.1 (.int .i64 2) (.string (S n)) (.slice vp ns.length vc) (.int .i64 0) (.string ⟨#[]⟩)
          refine bodyPost_ret (v := .tuple #[arV ⟨2, n, ns, 0, []⟩ (.slice vp ns.length vc), .int .i64 0]) (by simp [results, Tryz.results63, go_sem, g0, g1, g2, g3, g4]) rfl ?_
          have hsz : (rargW w 3 T pl 0 0 ⟨#[]⟩ ⟨#[]⟩).heap.size = w.heap.size + 2 := by simp
          exact ⟨five_below H2.out.1 (Nat.le_succ _) _ _ _ _ _, .inl ⟨_, vp, vc, hE2.out, rfl, (H2.out.2.2.same (five_kept (by rw [hsz]; omega) _ _ _ _ _)).less (by rw [hsz]; omega)⟩⟩
        · have hE2 := Lib.hid (hE.out.trans (if_pos h16))
          have hP := True.intro
          clear hE h16
          obtain ⟨k1, k2, k3⟩ := two_boxes hb2
          have t1 : w2.cell? ⟨w.heap.size, 1, none⟩ = some (.string T) := (cell_of_row w2 w.heap.size 1 _ _ _ (Pwr.two_box hb2).2).trans rfl
          have H2 := Lib.hid (And.intro k1 (And.intro k2 hP))
          obtain ⟨c0, c1, c2, c3, c4, y0, y1, y2, y3, y4⟩ := five_of k2
          clear hb2 k1 k2 k3 hP
          go_wp2_with fail
          obtain ⟨g0, g1, g2, g3, g4, _, _, _, _, _⟩ := five_set H2.out.2.1 (.int .i64 2) (.string (S n)) (.slice none 0 0) (.int .i64 0) (.string ⟨#[]⟩)
          refine bodyPost_ret (v := .tuple #[arV ⟨2, n, [], 0, []⟩ (.slice none 0 0), .int .i64 42]) (by simp [results, Tryz.results63, go_sem, g0, g1, g2, g3, g4]) rfl ?_
          exact ⟨five_below H2.out.1 (Nat.le_succ _) _ _ _ _ _, .inr ⟨42, ⟨2, n, [], 0, []⟩, hE2.out, by decide, rfl⟩⟩
      · have hjM : j < T.size := by omega
        have heq := HEnd.out hjM
        have j3 : (j : Int) < (M : Int) := by omega
        have hd : decide ((j : Int) < (M : Int)) = true := decide_eq_true j3
        have hd2 : decide (j < M) = true := decide_eq_true (by omega)
        have c1 : ((T[j].toNat : Int) == 46) = true := by rw [beq_iff_eq]; exact heq
        have c2 : ((T[j].toNat : Int) != 46) = false := by rw [bne, c1]; rfl
        have c3 : T[j].toNat = 46 := by omega
        clear heq
        go_wp2_with fail
        refine (hpa _).mono ?_
        clear hpa
        rintro e w2 ⟨hb2, (⟨h16, v, rfl, hP⟩ | ⟨h16, rfl⟩)⟩
        · obtain ⟨vp, vc, rfl⟩ := own_shape hP
          have hE2 := Lib.hid (hE.out.trans (if_neg (by omega)))
          clear hE h16
          obtain ⟨k1, k2, k3⟩ := two_boxes hb2
          have t1 : w2.cell? ⟨w.heap.size, 1, none⟩ = some (.string T) := (cell_of_row w2 w.heap.size 1 _ _ _ (Pwr.two_box hb2).2).trans rfl
          have H2 := Lib.hid (And.intro k1 (And.intro k2 hP))
          obtain ⟨c0, c1, c2, c3, c4, y0, y1, y2, y3, y4⟩ := five_of k2
          clear hb2 k1 k2 k3 hP
          go_wp2_with fail
          obtain ⟨g0, g1, g2, g3, g4, _, _, _, _, _⟩ := five_set H2.out.2.1 (.int .i64 2) (.string (S n)) (.slice vp ns.length vc) (.int .i64 0) (.string ⟨#[]⟩)
          refine bodyPost_ret (v := .tuple #[arV ⟨2, n, ns, 0, []⟩ (.slice vp ns.length vc), .int .i64 0]) (by simp [results, Tryz.results63, go_sem, g0, g1, g2, g3, g4]) rfl ?_
          have hsz : (rargW w 3 T pl 0 0 ⟨#[]⟩ ⟨#[]⟩).heap.size = w.heap.size + 2 := by simp
          exact ⟨five_below H2.out.1 (Nat.le_succ _) _ _ _ _ _, .inl ⟨_, vp, vc, hE2.out, rfl, (H2.out.2.2.same (five_kept (by rw [hsz]; omega) _ _ _ _ _)).less (by rw [hsz]; omega)⟩⟩
        · have hE2 := Lib.hid (hE.out.trans (if_pos h16))
          have hP := True.intro
          clear hE h16
          obtain ⟨k1, k2, k3⟩ := two_boxes hb2
          have t1 : w2.cell? ⟨w.heap.size, 1, none⟩ = some (.string T) := (cell_of_row w2 w.heap.size 1 _ _ _ (Pwr.two_box hb2).2).trans rfl
          have H2 := Lib.hid (And.intro k1 (And.intro k2 hP))
          obtain ⟨c0, c1, c2, c3, c4, y0, y1, y2, y3, y4⟩ := five_of k2
          clear hb2 k1 k2 k3 hP
          go_wp2_with fail
          obtain ⟨g0, g1, g2, g3, g4, _, _, _, _, _⟩ := five_set H2.out.2.1 (.int .i64 2) (.string (S n)) (.slice none 0 0) (.int .i64 0) (.string ⟨#[]⟩)
          refine bodyPost_ret (v := .tuple #[arV ⟨2, n, [], 0, []⟩ (.slice none 0 0), .int .i64 42]) (by simp [results, Tryz.results63, go_sem, g0, g1, g2, g3, g4]) rfl ?_
          exact ⟨five_below H2.out.1 (Nat.le_succ _) _ _ _ _ _, .inr ⟨42, ⟨2, n, [], 0, []⟩, hE2.out, by decide, rfl⟩⟩
theorem rarg_c (x : Wd × Nat) (hg : GoodX x.1) (w : World) : Calls Tryz.prog 63 #[wdV x] w (RArgTo x.1 w) := by
  obtain ⟨⟨k, t⟩, n⟩ := x
  have hk := hg.kind
  simp only at hk
  rcases (by omega : k = 1 ∨ k = 2 ∨ k = 3 ∨ k = 4 ∨ k = 5 ∨ k = 6) with rfl | rfl | rfl | rfl | rfl | rfl
  · cases h : constB t with
    | true =>
      unfold constB at h
      rw [decide_eq_true_eq] at h
      rcases h with rfl | rfl | rfl
      · exact rarg_true n w
      · exact rarg_false n w
      · exact rarg_nil n w
    | false => exact rarg_noname t n h w
  · exact rarg_path t n hg.len w
  · obtain ⟨m, ns, hm, hns, h⟩ := hg.var rfl
    exact rarg_var t n m ns hm hns h hg.len w
  · exact rarg_num t n hg.len w
  · exact rarg_text t n w
  · exact rarg_sign t n w
end Go.Proofs.YtmccbcficbbidaaGreatDoor.Pw
