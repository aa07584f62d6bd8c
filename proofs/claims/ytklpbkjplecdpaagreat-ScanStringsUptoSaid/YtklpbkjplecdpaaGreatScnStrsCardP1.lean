/-
  Part 1: ScwStrs.
-/
import Derived.Test.YtklpbkjplecdpaaGreatSwBaseP33
import Derived.Test.YtklpbkjplecdpaaGreatSwBaseP9
import Derived.Test.YtklpbkjplecdpaaGreatSwBaseP31
import Derived.Test.YtklpbkjplecdpaaGreatSwBaseP4
/-
  The law ScanStrings of layer 17 (scan), as a contract of its function.
-/
namespace Go.Proofs.YtklpbkjplecdpaaGreat.Scw
open Go.RowKit Go.Proofs.YtklpbkjplecdpaaGreat.Oct Go.Proofs.YtklpbkjplecdpaaGreat.Crf Go.Proofs.YtklpbkjplecdpaaGreat.Scn Go.Proofs.YtklpbkjplecdpaaGreat.Tab Go.Proofs.YtklpbkjplecdpaaGreat.Utf Go.Proofs.YtklpbkjplecdpaaGreat.Lit
attribute [local go_sem ↓] bin_eq bin_ne
attribute [local go_sem ↓] Go.wp_at_zero Go.wp_at_succ

theorem inside_low (cs : List Int) : ∀ c ∈ insideL cs, c.toNat < 128 ∧ c.toNat ≠ 0 := by
  have hdig : ∀ d : Fin 16, (hexDig d.val).toNat < 128 ∧ (hexDig d.val).toNat ≠ 0 := by decide +kernel
  have hesc : ∀ n, ∀ c ∈ Lit.escL n, c.toNat < 128 ∧ c.toNat ≠ 0 := by
    intro n c hc
    unfold Lit.escL at hc
    rw [Jsc.hex_four] at hc
    simp only [List.cons_append, List.nil_append, List.mem_cons, List.not_mem_nil, or_false] at hc
    rcases hc with rfl | rfl | rfl | rfl | rfl | rfl
    · decide
    · decide
    all_goals exact hdig ⟨_, Nat.mod_lt _ (by decide)⟩
  have hbare : ∀ k : Fin 128, bareB (k.val : Int) = true → k.val.toUInt8.toNat < 128 ∧ k.val.toUInt8.toNat ≠ 0 := by decide +kernel
  intro c hc
  unfold insideL at hc
  obtain ⟨n, _, hn⟩ := List.mem_flatMap.1 hc
  unfold charL at hn
  split at hn
  · rename_i hb
    have h2 : 0 ≤ n ∧ n < 128 := by simp [bareB] at hb; omega
    rw [List.mem_singleton] at hn
    rw [hn]
    exact hbare ⟨n.toNat, by omega⟩ (by show bareB ((n.toNat : Nat) : Int) = true; rw [Int.toNat_of_nonneg h2.1]; exact hb)
  · split at hn
    · rcases List.mem_append.1 hn with q | q
      · exact hesc _ c q
      · exact hesc _ c q
    · exact hesc _ c hn
theorem quote_low (s : ByteArray) : ∀ c ∈ (32 :: (quoteL s ++ [32])), c.toNat < 128 ∧ c.toNat ≠ 0 := by
  intro c hc
  unfold quoteL at hc
  simp only [List.mem_cons, List.mem_append, List.not_mem_nil, or_false] at hc
  rcases hc with rfl | ((rfl | q) | rfl) | rfl
  · decide
  · decide
  · exact inside_low _ c q
  · decide
  · decide
theorem inside_fits (s : ByteArray) : (insideL (chars s.data.toList)).length ≤ 12 * s.size := by
  have hle : ∀ c, (charL c).length ≤ 12 := by
    intro c
    unfold charL
    split
    · simp
    · split
      · simp [escL_len]
      · simp [escL_len]
  have h1 : ∀ cs : List Int, (insideL cs).length ≤ 12 * cs.length := by
    intro cs
    induction cs with
    | nil => simp [insideL]
    | cons c cs ih =>
      have e : insideL (c :: cs) = charL c ++ insideL cs := rfl
      rw [e, List.length_append, List.length_cons]
      have := hle c
      omega
  have h2 := chars_len s.data.toList
  rw [size_list] at h2
  have := h1 (chars s.data.toList)
  omega
theorem quote_fits (s : ByteArray) : (quoteL s).length ≤ 12 * s.size + 2 := by
  have := inside_fits s
  simp [quoteL]
  omega
theorem feedS_ok {s v : Sc} {l : List UInt8} (h : runC s l = .ok v) : feedV s l = .tuple #[stA v, .int .i64 (l.length : Int), .int .i64 0] := by unfold feedV; rw [h]
theorem feedS_err {s : Sc} {l : List UInt8} {k m : Nat} (h : runC s l = .error (k, m)) : feedV s l = .tuple #[stA sc0, .int .i64 (k : Int), .int .i64 (m : Int)] := by unfold feedV; rw [h]; rfl
theorem holeV_ok {s u : Sc} {k : Nat} (h : holeS s = .ok (u, k)) : holeV s = .tuple #[stA u, .int .i64 (k : Int), .int .i64 0] := by unfold holeV; rw [h]
theorem holeV_err {s : Sc} {k : Nat} (h : holeS s = .error k) : holeV s = .tuple #[stA sc0, .int .i64 0, .int .i64 91] := by unfold holeV; rw [h]; rfl
theorem hole_start : holeS sc0 = .ok (sc0, 1) := by kernel_rfl

set_option maxHeartbeats 1000000 in
set_option maxRecDepth 100000 in
theorem law_strings (W : World) (a s : ByteArray) (ha : a.size ≤ 1048576) (hs : s.size ≤ 1048576) :
    Calls Tryz.prog 6 #[.string a, .string s] W fun e W' => e = .returned (.bool true) ∧ Below W.heap.size W W' := by
  obtain ⟨l, rfl⟩ : ∃ l, a = S l := ⟨a.data.toList, (S_list a).symm⟩
  have hl : l.length ≤ 140737488351232 := by rw [size_S] at ha; omega
  have hal := alive_c W
  have hst := start_c
  have hn := num_c
  have h1 := fun w => feed_c l (by omega) sc0 start_reach w
  clear ha
  cases hr : runC sc0 l with
  | error x =>
    obtain ⟨k, m⟩ := x
    have hm0 := (err_run l hr).1
    have bm : ((m : Int) != 0) = true := by rw [bne_iff_ne]; omega
    have h2 := fun w => hole_c sc0 start_reach w
    rw [feedS_err hr] at h1
    rw [holeV_ok hole_start] at h2
    clear hr hm0 hl hs
    generalize (m : Int) = M at *
    generalize (k : Int) = K at *
    generalize S l = L at *
    go_enter Tryz.func6, Tryz.ntmps6
    go_wp2_with fail
    refine hal.mono ?_
    rintro e w1 ⟨rfl, hb1⟩
    have B1 := Lib.hid hb1
    clear hb1 hal
    go_wp2_with fail
    refine (hst _).mono ?_
    rintro e w2 ⟨rfl, hb2⟩
    have B2 := Lib.hid (B1.out.trans (hb2.mono B1.out.size))
    clear hb2
    go_wp2_with fail
    refine (h1 _).mono ?_
    rintro e w3 ⟨rfl, hb3⟩
    have B3 := Lib.hid (B2.out.trans (hb3.mono B2.out.size))
    clear hb3
    go_wp2_with fail
    refine (h2 _).mono ?_
    rintro e w4 ⟨rfl, hb4⟩
    obtain ⟨q4, hb4'⟩ := boxed sc0 hb4
    have B4 := Lib.hid (And.intro (B3.out.trans (hb4'.mono B3.out.size)) q4)
    clear hb4 hb4' q4
    go_wp2_with fail
    refine (hn _ _).mono ?_
    rintro e wx ⟨rfl, rfl⟩
    go_wp2_with fail
    go_ret
    exact ⟨rfl, B4.out.1.alloc B4.out.1.size _⟩
  | ok t =>
    rw [feedS_ok hr] at h1
    have hrt : Scn.Reach t := run_reach l start_reach hr
    have h2 := fun w => hole_c t hrt w
    cases hh : holeS t with
    | error k =>
      rw [holeV_err hh] at h2
      clear hr hrt hh hl hs
      generalize (l.length : Int) = LL at *
      generalize S l = L at *
      go_enter Tryz.func6, Tryz.ntmps6
      go_wp2_with fail
      refine hal.mono ?_
      rintro e w1 ⟨rfl, hb1⟩
      have B1 := Lib.hid hb1
      clear hb1 hal
      go_wp2_with fail
      refine (hst _).mono ?_
      rintro e w2 ⟨rfl, hb2⟩
      have B2 := Lib.hid (B1.out.trans (hb2.mono B1.out.size))
      clear hb2
      go_wp2_with fail
      refine (h1 _).mono ?_
      rintro e w3 ⟨rfl, hb3⟩
      have B3 := Lib.hid (B2.out.trans (hb3.mono B2.out.size))
      clear hb3
      go_wp2_with fail
      refine (h2 _).mono ?_
      rintro e w4 ⟨rfl, hb4⟩
      obtain ⟨q4, hb4'⟩ := boxed t hb4
      have B4 := Lib.hid (And.intro (B3.out.trans (hb4'.mono B3.out.size)) q4)
      clear hb4 hb4' q4
      go_wp2_with fail
      refine (hn _ _).mono ?_
      rintro e wx ⟨rfl, rfl⟩
      go_wp2_with fail
      refine (hn _ _).mono ?_
      rintro e wx ⟨rfl, rfl⟩
      go_wp2_with fail
      go_ret
      exact ⟨rfl, B4.out.1.alloc B4.out.1.size _⟩
    | ok x =>
      obtain ⟨u, k⟩ := x
      rw [holeV_ok hh] at h2
      by_cases hk : 7 ≤ k ∧ k ≤ 10
      · have hru := scan_strings ((runC_ok l).1 hr) hh hk.1 hk.2 s
        have hif := inside_fits s
        have hqf := quote_fits s
        have hin := fun w => inside_c s w (by omega) (by omega)
        have hq := fun w => quote_c s w (by omega)
        have hk4 : k = 7 ∨ k = 8 ∨ k = 9 ∨ k = 10 := by omega
        have q3 := eq8_same (u.k : Int) (S u.e) (S u.a) (u.d.toNat : Int) (S u.p) (S u.r) u.n (S u.w)
        have a1 : (⟨#[32]⟩ : ByteArray) ++ S (quoteL s) = S (32 :: quoteL s) := S_append [32] (quoteL s)
        have a2 : S (32 :: quoteL s) ++ (⟨#[32]⟩ : ByteArray) = S (32 :: (quoteL s ++ [32])) := S_append (32 :: quoteL s) [32]
        have z1 : (S (quoteL s)).size ≤ 140737488351232 := by rw [size_S]; omega
        have z2 : (S (32 :: quoteL s)).size ≤ 140737488351232 := by rw [size_S, List.length_cons]; omega
        have z3 : (S (32 :: (quoteL s ++ [32]))).size ≤ 134217728 := by rw [size_S, List.length_cons, List.length_append, List.length_singleton]; omega
        have z4 : (S (insideL (chars s.data.toList))).size ≤ 134217728 := by rw [size_S]; omega
        have he3 := fun w => rEscape_c (S (32 :: (quoteL s ++ [32]))) z3 w
        have he4 := fun w => rEscape_c (S (insideL (chars s.data.toList))) z4 w
        rw [list_S, Pct.rep_small _ (quote_low s)] at he3
        rw [list_S, Pct.rep_small _ (inside_low _)] at he4
        have hxl : (toldX s k).length ≤ 140737488351232 := by
          have e1 := esc_len (32 :: (quoteL s ++ [32]))
          have e2 := esc_len (insideL (chars s.data.toList))
          rw [List.length_cons, List.length_append, List.length_singleton] at e1
          unfold toldX
          split
          · rw [List.length_cons, List.length_append, List.length_singleton]; omega
          · split
            · omega
            · split
              · omega
              · omega
        have h3 := fun w => feed_c (toldX s k) (by omega) t hrt w
        rw [feedS_ok ((runC_ok (toldX s k)).2 hru)] at h3
        have qn : (((toldX s k).length : Int) == ((S (toldX s k)).size : Int)) = true := by rw [size_S]; simp
        have f7 : toldX s 7 = 32 :: (quoteL s ++ [32]) := rfl
        have f8 : toldX s 8 = insideL (chars s.data.toList) := rfl
        have f9 : toldX s 9 = escL (32 :: (quoteL s ++ [32])) := rfl
        have f10 : toldX s 10 = escL (insideL (chars s.data.toList)) := rfl
        rcases hk4 with rfl | rfl | rfl | rfl
        · rw [f7] at h3 qn
          clear hr hrt hh hl hs hru hif hqf hk hxl f7 f8 f9 f10
          generalize S l = L at *
          generalize (l.length : Int) = LL at *
          clear z4 he4
          clear z3 he3
          generalize ((32 :: (quoteL s ++ [32])).length : Int) = XL at *
          generalize S (32 :: (quoteL s ++ [32])) = Q2 at *
          generalize S (32 :: quoteL s) = Q1 at *
          generalize S (quoteL s) = Q at *
          generalize S (insideL (chars s.data.toList)) = I at *
          go_enter Tryz.func6, Tryz.ntmps6
          go_wp2_with fail
          refine hal.mono ?_
          rintro e w1 ⟨rfl, hb1⟩
          have B1 := Lib.hid hb1
          clear hb1 hal
          go_wp2_with fail
          refine (hst _).mono ?_
          rintro e w2 ⟨rfl, hb2⟩
          have B2 := Lib.hid (B1.out.trans (hb2.mono B1.out.size))
          clear hb2
          go_wp2_with fail
          refine (h1 _).mono ?_
          rintro e w3 ⟨rfl, hb3⟩
          have B3 := Lib.hid (B2.out.trans (hb3.mono B2.out.size))
          clear hb3
          go_wp2_with fail
          refine (h2 _).mono ?_
          rintro e w4 ⟨rfl, hb4⟩
          obtain ⟨q4, hb4'⟩ := boxed t hb4
          have B4 := Lib.hid (And.intro (B3.out.trans (hb4'.mono B3.out.size)) q4)
          clear hb4 hb4' q4
          go_wp2_with fail
          refine (hn _ _).mono ?_
          rintro e wx ⟨rfl, rfl⟩
          go_wp2_with fail
          refine (hn _ _).mono ?_
          rintro e wx ⟨rfl, rfl⟩
          go_wp2_with fail
          refine (hin _).mono ?_
          rintro e w5 ⟨rfl, hb5⟩
          replace hb5 : Below _ _ w5 := hb5
          obtain ⟨q5, hb5'⟩ := boxed u hb5
          have B5 := Lib.hid (And.intro (B4.out.1.trans (hb5'.mono B4.out.1.size)) (And.intro (B4.out.2.keep hb5') q5))
          clear hb5 hb5' q5
          go_wp2_with fail
          refine (hq _).mono ?_
          rintro e w6 ⟨rfl, hb6⟩
          replace hb6 : Below _ _ w6 := hb6
          have B6 := Lib.hid (And.intro (B5.out.1.trans (hb6.mono B5.out.1.size)) (And.intro (B5.out.2.1.keep hb6) (B5.out.2.2.keep hb6)))
          clear hb6
          obtain ⟨c0, c1, c2, c3, c4, c5, c6, c7⟩ := B6.out.2.1.cells
          have hls := B6.out.2.1.lt
          go_wp2_with fail
          clear c0 c1 c2 c3 c4 c5 c6 c7 hls
          refine (h3 _).mono ?_
          rintro e w8 ⟨rfl, hb8⟩
          have B8 := Lib.hid (And.intro (B6.out.1.trans (hb8.mono B6.out.1.size)) (B6.out.2.2.keep hb8))
          clear hb8
          obtain ⟨c0, c1, c2, c3, c4, c5, c6, c7⟩ := B8.out.2.cells
          have hls := B8.out.2.lt
          go_wp2_with fail
          refine (hn _ _).mono ?_
          rintro e wx ⟨rfl, rfl⟩
          go_wp2_with fail
          go_ret
          exact ⟨rfl, B8.out.1.alloc B8.out.1.size _⟩
        · rw [f8] at h3 qn
          clear hr hrt hh hl hs hru hif hqf hk hxl f7 f8 f9 f10
          generalize S l = L at *
          generalize (l.length : Int) = LL at *
          clear z4 he4 z3 he3 hq a1 a2 z1 z2
          generalize ((insideL (chars s.data.toList)).length : Int) = XL at *
          generalize S (insideL (chars s.data.toList)) = I at *
          go_enter Tryz.func6, Tryz.ntmps6
          go_wp2_with fail
          refine hal.mono ?_
          rintro e w1 ⟨rfl, hb1⟩
          have B1 := Lib.hid hb1
          clear hb1 hal
          go_wp2_with fail
          refine (hst _).mono ?_
          rintro e w2 ⟨rfl, hb2⟩
          have B2 := Lib.hid (B1.out.trans (hb2.mono B1.out.size))
          clear hb2
          go_wp2_with fail
          refine (h1 _).mono ?_
          rintro e w3 ⟨rfl, hb3⟩
          have B3 := Lib.hid (B2.out.trans (hb3.mono B2.out.size))
          clear hb3
          go_wp2_with fail
          refine (h2 _).mono ?_
          rintro e w4 ⟨rfl, hb4⟩
          obtain ⟨q4, hb4'⟩ := boxed t hb4
          have B4 := Lib.hid (And.intro (B3.out.trans (hb4'.mono B3.out.size)) q4)
          clear hb4 hb4' q4
          go_wp2_with fail
          refine (hn _ _).mono ?_
          rintro e wx ⟨rfl, rfl⟩
          go_wp2_with fail
          refine (hn _ _).mono ?_
          rintro e wx ⟨rfl, rfl⟩
          go_wp2_with fail
          refine (hin _).mono ?_
          rintro e w5 ⟨rfl, hb5⟩
          replace hb5 : Below _ _ w5 := hb5
          obtain ⟨q5, hb5'⟩ := boxed u hb5
          have B5 := Lib.hid (And.intro (B4.out.1.trans (hb5'.mono B4.out.1.size)) (And.intro (B4.out.2.keep hb5') q5))
          clear hb5 hb5' q5
          obtain ⟨c0, c1, c2, c3, c4, c5, c6, c7⟩ := B5.out.2.1.cells
          have hls := B5.out.2.1.lt
          go_wp2_with fail
          clear c0 c1 c2 c3 c4 c5 c6 c7 hls
          refine (h3 _).mono ?_
          rintro e w8 ⟨rfl, hb8⟩
          have B8 := Lib.hid (And.intro (B5.out.1.trans (hb8.mono B5.out.1.size)) (B5.out.2.2.keep hb8))
          clear hb8
          obtain ⟨c0, c1, c2, c3, c4, c5, c6, c7⟩ := B8.out.2.cells
          have hls := B8.out.2.lt
          go_wp2_with fail
          refine (hn _ _).mono ?_
          rintro e wx ⟨rfl, rfl⟩
          go_wp2_with fail
          go_ret
          exact ⟨rfl, B8.out.1.alloc B8.out.1.size _⟩
        · rw [f9] at h3 qn
          clear hr hrt hh hl hs hru hif hqf hk hxl f7 f8 f9 f10
          generalize S l = L at *
          generalize (l.length : Int) = LL at *
          clear z4 he4
          generalize ((escL (32 :: (quoteL s ++ [32]))).length : Int) = XL at *
          generalize S (escL (32 :: (quoteL s ++ [32]))) = X9 at *
          generalize S (32 :: (quoteL s ++ [32])) = Q2 at *
          generalize S (32 :: quoteL s) = Q1 at *
          generalize S (quoteL s) = Q at *
          generalize S (insideL (chars s.data.toList)) = I at *
          go_enter Tryz.func6, Tryz.ntmps6
          go_wp2_with fail
          refine hal.mono ?_
          rintro e w1 ⟨rfl, hb1⟩
          have B1 := Lib.hid hb1
          clear hb1 hal
          go_wp2_with fail
          refine (hst _).mono ?_
          rintro e w2 ⟨rfl, hb2⟩
          have B2 := Lib.hid (B1.out.trans (hb2.mono B1.out.size))
          clear hb2
          go_wp2_with fail
          refine (h1 _).mono ?_
          rintro e w3 ⟨rfl, hb3⟩
          have B3 := Lib.hid (B2.out.trans (hb3.mono B2.out.size))
          clear hb3
          go_wp2_with fail
          refine (h2 _).mono ?_
          rintro e w4 ⟨rfl, hb4⟩
          obtain ⟨q4, hb4'⟩ := boxed t hb4
          have B4 := Lib.hid (And.intro (B3.out.trans (hb4'.mono B3.out.size)) q4)
          clear hb4 hb4' q4
          go_wp2_with fail
          refine (hn _ _).mono ?_
          rintro e wx ⟨rfl, rfl⟩
          go_wp2_with fail
          refine (hn _ _).mono ?_
          rintro e wx ⟨rfl, rfl⟩
          go_wp2_with fail
          refine (hin _).mono ?_
          rintro e w5 ⟨rfl, hb5⟩
          replace hb5 : Below _ _ w5 := hb5
          obtain ⟨q5, hb5'⟩ := boxed u hb5
          have B5 := Lib.hid (And.intro (B4.out.1.trans (hb5'.mono B4.out.1.size)) (And.intro (B4.out.2.keep hb5') q5))
          clear hb5 hb5' q5
          go_wp2_with fail
          refine (hq _).mono ?_
          rintro e w6 ⟨rfl, hb6⟩
          replace hb6 : Below _ _ w6 := hb6
          have B6 := Lib.hid (And.intro (B5.out.1.trans (hb6.mono B5.out.1.size)) (And.intro (B5.out.2.1.keep hb6) (B5.out.2.2.keep hb6)))
          clear hb6
          go_wp2_with fail
          refine (he3 _).mono ?_
          rintro e w7 ⟨rfl, hb7⟩
          replace hb7 : Below _ _ w7 := hb7
          have B7 := Lib.hid (And.intro (B6.out.1.trans (hb7.mono B6.out.1.size)) (And.intro (B6.out.2.1.keep hb7) (B6.out.2.2.keep hb7)))
          clear hb7
          obtain ⟨c0, c1, c2, c3, c4, c5, c6, c7⟩ := B7.out.2.1.cells
          have hls := B7.out.2.1.lt
          go_wp2_with fail
          clear c0 c1 c2 c3 c4 c5 c6 c7 hls
          refine (h3 _).mono ?_
          rintro e w8 ⟨rfl, hb8⟩
          have B8 := Lib.hid (And.intro (B7.out.1.trans (hb8.mono B7.out.1.size)) (B7.out.2.2.keep hb8))
          clear hb8
          obtain ⟨c0, c1, c2, c3, c4, c5, c6, c7⟩ := B8.out.2.cells
          have hls := B8.out.2.lt
          go_wp2_with fail
          refine (hn _ _).mono ?_
          rintro e wx ⟨rfl, rfl⟩
          go_wp2_with fail
          go_ret
          exact ⟨rfl, B8.out.1.alloc B8.out.1.size _⟩
        · rw [f10] at h3 qn
          clear hr hrt hh hl hs hru hif hqf hk hxl f7 f8 f9 f10
          generalize S l = L at *
          generalize (l.length : Int) = LL at *
          clear z3 he3 hq a1 a2 z1 z2
          generalize ((escL (insideL (chars s.data.toList))).length : Int) = XL at *
          generalize S (escL (insideL (chars s.data.toList))) = X9 at *
          generalize S (insideL (chars s.data.toList)) = I at *
          go_enter Tryz.func6, Tryz.ntmps6
          go_wp2_with fail
          refine hal.mono ?_
          rintro e w1 ⟨rfl, hb1⟩
          have B1 := Lib.hid hb1
          clear hb1 hal
          go_wp2_with fail
          refine (hst _).mono ?_
          rintro e w2 ⟨rfl, hb2⟩
          have B2 := Lib.hid (B1.out.trans (hb2.mono B1.out.size))
          clear hb2
          go_wp2_with fail
          refine (h1 _).mono ?_
          rintro e w3 ⟨rfl, hb3⟩
          have B3 := Lib.hid (B2.out.trans (hb3.mono B2.out.size))
          clear hb3
          go_wp2_with fail
          refine (h2 _).mono ?_
          rintro e w4 ⟨rfl, hb4⟩
          obtain ⟨q4, hb4'⟩ := boxed t hb4
          have B4 := Lib.hid (And.intro (B3.out.trans (hb4'.mono B3.out.size)) q4)
          clear hb4 hb4' q4
          go_wp2_with fail
          refine (hn _ _).mono ?_
          rintro e wx ⟨rfl, rfl⟩
          go_wp2_with fail
          refine (hn _ _).mono ?_
          rintro e wx ⟨rfl, rfl⟩
          go_wp2_with fail
          refine (hin _).mono ?_
          rintro e w5 ⟨rfl, hb5⟩
          replace hb5 : Below _ _ w5 := hb5
          obtain ⟨q5, hb5'⟩ := boxed u hb5
          have B5 := Lib.hid (And.intro (B4.out.1.trans (hb5'.mono B4.out.1.size)) (And.intro (B4.out.2.keep hb5') q5))
          clear hb5 hb5' q5
          go_wp2_with fail
          refine (he4 _).mono ?_
          rintro e w7 ⟨rfl, hb7⟩
          replace hb7 : Below _ _ w7 := hb7
          have B7 := Lib.hid (And.intro (B5.out.1.trans (hb7.mono B5.out.1.size)) (And.intro (B5.out.2.1.keep hb7) (B5.out.2.2.keep hb7)))
          clear hb7
          obtain ⟨c0, c1, c2, c3, c4, c5, c6, c7⟩ := B7.out.2.1.cells
          have hls := B7.out.2.1.lt
          go_wp2_with fail
          clear c0 c1 c2 c3 c4 c5 c6 c7 hls
          refine (h3 _).mono ?_
          rintro e w8 ⟨rfl, hb8⟩
          have B8 := Lib.hid (And.intro (B7.out.1.trans (hb8.mono B7.out.1.size)) (B7.out.2.2.keep hb8))
          clear hb8
          obtain ⟨c0, c1, c2, c3, c4, c5, c6, c7⟩ := B8.out.2.cells
          have hls := B8.out.2.lt
          go_wp2_with fail
          refine (hn _ _).mono ?_
          rintro e wx ⟨rfl, rfl⟩
          go_wp2_with fail
          go_ret
          exact ⟨rfl, B8.out.1.alloc B8.out.1.size _⟩
      · have bk : (decide ((k : Int) < 7) || decide (10 < (k : Int))) = true := by simp; omega
        clear hr hrt hh hl hs
        generalize S l = L at *
        generalize (l.length : Int) = LL at *
        by_cases h7 : (k : Int) < 7
        · clear hk bk
          generalize (k : Int) = K at *
          go_enter Tryz.func6, Tryz.ntmps6
          go_wp2_with fail
          refine hal.mono ?_
          rintro e w1 ⟨rfl, hb1⟩
          have B1 := Lib.hid hb1
          clear hb1 hal
          go_wp2_with fail
          refine (hst _).mono ?_
          rintro e w2 ⟨rfl, hb2⟩
          have B2 := Lib.hid (B1.out.trans (hb2.mono B1.out.size))
          clear hb2
          go_wp2_with fail
          refine (h1 _).mono ?_
          rintro e w3 ⟨rfl, hb3⟩
          have B3 := Lib.hid (B2.out.trans (hb3.mono B2.out.size))
          clear hb3
          go_wp2_with fail
          refine (h2 _).mono ?_
          rintro e w4 ⟨rfl, hb4⟩
          obtain ⟨q4, hb4'⟩ := boxed t hb4
          have B4 := Lib.hid (And.intro (B3.out.trans (hb4'.mono B3.out.size)) q4)
          clear hb4 hb4' q4
          go_wp2_with fail
          refine (hn _ _).mono ?_
          rintro e wx ⟨rfl, rfl⟩
          go_wp2_with fail
          refine (hn _ _).mono ?_
          rintro e wx ⟨rfl, rfl⟩
          go_wp2_with fail
          go_ret
          exact ⟨rfl, B4.out.1.alloc B4.out.1.size _⟩
        · have h10 : (10 : Int) < (k : Int) := by omega
          clear hk bk
          generalize (k : Int) = K at *
          go_enter Tryz.func6, Tryz.ntmps6
          go_wp2_with fail
          refine hal.mono ?_
          rintro e w1 ⟨rfl, hb1⟩
          have B1 := Lib.hid hb1
          clear hb1 hal
          go_wp2_with fail
          refine (hst _).mono ?_
          rintro e w2 ⟨rfl, hb2⟩
          have B2 := Lib.hid (B1.out.trans (hb2.mono B1.out.size))
          clear hb2
          go_wp2_with fail
          refine (h1 _).mono ?_
          rintro e w3 ⟨rfl, hb3⟩
          have B3 := Lib.hid (B2.out.trans (hb3.mono B2.out.size))
          clear hb3
          go_wp2_with fail
          refine (h2 _).mono ?_
          rintro e w4 ⟨rfl, hb4⟩
          obtain ⟨q4, hb4'⟩ := boxed t hb4
          have B4 := Lib.hid (And.intro (B3.out.trans (hb4'.mono B3.out.size)) q4)
          clear hb4 hb4' q4
          go_wp2_with fail
          refine (hn _ _).mono ?_
          rintro e wx ⟨rfl, rfl⟩
          go_wp2_with fail
          refine (hn _ _).mono ?_
          rintro e wx ⟨rfl, rfl⟩
          go_wp2_with fail
          go_ret
          exact ⟨rfl, B4.out.1.alloc B4.out.1.size _⟩
end Go.Proofs.YtklpbkjplecdpaaGreat.Scw
