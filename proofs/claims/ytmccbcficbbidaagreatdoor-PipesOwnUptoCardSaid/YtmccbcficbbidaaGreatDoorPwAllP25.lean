/-
  Part 25: PwPage5, PwLaws.
-/
import Derived.Test.YtmccbcficbbidaaGreatDoorPwAllP24
import Derived.Test.YtmccbcficbbidaaGreatDoorPwAllP17
import Derived.Test.YtmccbcficbbidaaGreatDoorPwAllP22
import Derived.Test.YtmccbcficbbidaaGreatDoorPwAllP12
/-
  Contract of the page's pipelines: Parse.
-/
namespace Go.Proofs.YtmccbcficbbidaaGreatDoor.Pw
open Go.RowKit Go.Proofs.YtmccbcficbbidaaGreatDoor.Oct Go.Proofs.YtmccbcficbbidaaGreatDoor.Lex Go.Proofs.YtmccbcficbbidaaGreatDoor.Lxw Go.Proofs.YtmccbcficbbidaaGreatDoor.Pip

theorem callN_suf (ws : List (Wd × Nat)) (j : Nat) : callN (ws.drop j) ≤ ws.length - j := by
  have := callN_le (ws.drop j)
  rwa [List.length_drop] at this
/-- What the page's Parse answers. -/
def RParsesTo (l : List Wd) (w : World) (en : Ending) (w' : World) : Prop := Below w.heap.size w w' ∧
  ((∃ p v, pipeE l = .ok p ∧ en = .returned (.tuple #[v, .int .i64 0, .int .i64 0]) ∧ CallR w.heap.size w' v p) ∨ (∃ (n : Nat) (a : Int), n ≠ 0 ∧ pipeE l = .error n ∧ en = .returned (.tuple #[.slice none 0 0, .int .i64 a, .int .i64 (n : Int)])))
set_option maxHeartbeats 1000000 in
set_option maxRecDepth 100000 in
theorem rparse_nil (p : Option Addr) (c : Nat) (w : World) : Calls Tryz.prog 17 #[.slice p 0 c, .int .i64 0] w (RParsesTo [] w) := by
  go_enter Tryz.func17, Tryz.ntmps17
  go_wp2_with fail
  go_ret3
  exact ⟨Below.refl _ _, .inr ⟨8, 0, by decide, rfl, rfl⟩⟩
theorem wd_sub {w : World} {b o j N : Nat} {ws : List (Wd × Nat)} (h : WdAt w b o ws) : WdAt w b (o + j * 3) ((ws.drop j).take N) := h.drop.take
theorem drop_at {ws : List (Wd × Nat)} {j i : Nat} (h : i < (ws.drop j).length) (h2 : j + i < ws.length) : (ws.drop j)[i] = ws[j + i] := by rw [List.getElem_drop]
set_option maxHeartbeats 2000000 in
set_option maxRecDepth 100000 in
theorem rparse_c {b o c : Nat} {ws : List (Wd × Nat)} (hne : ws ≠ []) (hc : ws.length ≤ c) (hlen : ws.length ≤ 4194304) (hg : ∀ y ∈ ws, GoodX y.1) (w : World) (hw : WdAt w b o ws) :
    Calls Tryz.prog 17 #[wsV b o ws.length c, .int .i64 0] w (RParsesTo (ws.map Prod.fst) w) := by
  obtain ⟨n, hn⟩ : ∃ n, n = ws.length := ⟨_, rfl⟩
  have hpos : 0 < n := by rw [hn]; exact List.length_pos_iff.2 hne
  have hP0 : pipeE (ws.map Prod.fst) = prepP [] (pipeG ((n - 1) + 1) ((ws.drop 0).map Prod.fst) ([] : List Ca).length) := by
    rw [List.drop_zero]
    unfold pipeE
    rw [if_neg (by simpa using hne), List.length_map, ← hn, show n - 1 + 1 = n by omega]
    cases pipeG n (ws.map Prod.fst) 0 with
    | error _ => rfl
    | ok r => rfl
  rw [← hn] at hc hlen ⊢
  have HW := Lib.hid hw
  have HG := Lib.hid hg
  have HN := Lib.hid hn
  have HP := Lib.hid hP0
  have n1 : (1 : Int) ≤ (n : Int) := by omega
  have n0 : (0 : Int) < (n : Int) := by omega
  have n3 : (n : Int) ≤ 4194304 := by omega
  have n4 : (n : Int) ≤ (c : Int) := by omega
  have z0 : ((n : Int) == 0) = false := by rw [beq_eq_false_iff_ne]; omega
  have z1 : ¬ (n : Int) = 0 := by omega
  have z2 : ¬ n = 0 := by omega
  have HWi : Hid (∀ W, Below w.heap.size w W → ∀ i (hi : i < ws.length), W.cell? ⟨b, o + i * 3, none⟩ = some (.int .i64 (ws[i].1.k : Int)) ∧ W.cell? ⟨b, o + i * 3 + 1, none⟩ = some (.string (S ws[i].1.x)) ∧ W.cell? ⟨b, o + i * 3 + 2, none⟩ = some (.int .i64 (ws[i].2 : Int))) := fun W hW => HW.out.up hW
  have HCall := Lib.hid (fun (j k : Nat) (hN : callN (ws.drop j) ≠ 0) W (hW : Below w.heap.size w W) => rcall_c (b := b) (o := o + j * 3) (c := c - j) (k := k) (ws := (ws.drop j).take (callN (ws.drop j)))
    (fun e => hN (by
      have := congrArg List.length e
      rw [List.length_take, Nat.min_eq_left (callN_le _)] at this
      exact this)) (by rw [List.length_take, List.length_drop, ← hn]; omega) (fun y hy => hg y (List.mem_of_mem_drop (List.mem_of_mem_take hy))) W (wd_sub (hw.up hW)))
  clear hw hg hn hP0 hne
  go_enter Tryz.func17, Tryz.ntmps17
  go_wp2_with fail
  go_loopw [7, 8] (fun out jv wr => ∃ (j f : Nat) (cs : List Ca), j < n ∧ jv = .int .i64 j ∧ n ≤ f + 1 + j ∧ cs.length ≤ 16 ∧ Hid (pipeE (ws.map Prod.fst) = prepP cs (pipeG (f + 1) ((ws.drop j).map Prod.fst) cs.length)) ∧ Hid (CallR w.heap.size wr out cs ∧ Below w.heap.size w wr)) (fun _ jv _ => n - (intOf jv).toNat)
  case atStart => exact ⟨0, n - 1, [], hpos, rfl, by omega, Nat.zero_le _, HP.out, ⟨[], rfl, World.ownsRow_nil _ _ _ _, fun _ hx => nomatch hx⟩, Below.refl _ _⟩
  case round =>
    clear HP
    obtain ⟨j, f, cs, hj, rfl, hjf, hcs, hE, hR⟩ := hrel
    have hsufl := callN_suf ws j
    have hall := callN_at (ws.drop j)
    have hcall := HCall.out j cs.length
    have hot := own_take (ws.drop j)
    have hod := own_drop (ws.drop j)
    have hNl : ((ws.drop j).take (callN (ws.drop j))).length = callN (ws.drop j) := by rw [List.length_take]; exact Nat.min_eq_left (callN_le _)
    rw [hNl] at hcall
    replace hcall : callN (ws.drop j) ≠ 0 → ∀ W, Below w.heap.size w W → Calls Tryz.prog 40 #[wsV b (o + j * 3) (callN (ws.drop j)) (c - j), .bool (decide (0 < cs.length))] W (RCallTo (ownW (ws.drop j)) (decide (0 < cs.length)) W) := hcall
    rw [hot] at hcall
    rw [List.drop_drop] at hod
    generalize hOW : ((ws.drop j).map Prod.fst).takeWhile isWord = OW at *
    generalize hNe : callN (ws.drop j) = N at *
    obtain ⟨e, he⟩ : ∃ e, e = j + N := ⟨_, rfl⟩
    have hen : e ≤ n := by have := HN.out; omega
    have hje : j ≤ e := by omega
    have HIn : Hid (∀ i (hi : i < ws.length), j ≤ i → i < e → (ws[i].1.k : Int) ≠ 6) := fun i hi h1 h2 => by
      have := hall.1 (i - j) (by rw [List.length_drop]; omega) (by omega)
      rw [List.getElem_drop] at this
      have e2 : j + (i - j) = i := by omega
      simp only [e2] at this
      unfold isWord at this
      intro h6
      have h7 : ws[i].1.k = 6 := by omega
      rw [h7] at this
      exact absurd this (by decide)
    have HEd : Hid (∀ (h : e < ws.length), (ws[e].1.k : Int) = 6) := fun h => by
      have := hall.2 (by rw [List.length_drop]; omega)
      rw [List.getElem_drop] at this
      simp only [← he] at this
      unfold isWord at this
      have h7 : ws[e].1.k = 6 := by simpa using this
      omega
    have HNe : Hid (N = e - j) := by show _ = _; omega
    have HTk : Hid (((ws.drop j).map Prod.fst).takeWhile isWord = OW) := hOW
    have HDw : Hid ((ws.drop e).map Prod.fst = ((ws.drop j).map Prod.fst).dropWhile isWord) := by show _ = _; rw [he]; exact hod
    clear hall he hNl hot hod hOW hNe hsufl
    go_wp2_with fail
    go_loop [9] (fun tv => ∃ i : Nat, j ≤ i ∧ i ≤ e ∧ tv = .int .i64 i) (fun tv => e - (intOf tv).toNat)
    case atStart => exact ⟨j, Nat.le_refl _, hje, rfl⟩
    case round =>
      obtain ⟨i, hi1, hi2, rfl⟩ := hrel
      have i0 : (0 : Int) ≤ (i : Int) := by omega
      have i1 : (i : Int) ≤ (n : Int) := by omega
      by_cases hin : i < n
      · have hil : i < ws.length := by rw [← HN.out]; exact hin
        have hd : decide ((i : Int) < (n : Int)) = true := decide_eq_true (by omega)
        have hd2 : decide (i < n) = true := decide_eq_true hin
        have i2 : (i : Int) < (n : Int) := by omega
        obtain ⟨q0, q1, q2⟩ := HWi.out wr hR.out.2 i hil
        by_cases hie : i < e
        · have h6 := HIn.out i hil hi1 hie
          generalize ws[i].1.k = kk at *
          have c1 : ((kk : Int) == 6) = false := by rw [beq_eq_false_iff_ne]; exact h6
          have c2 : ((kk : Int) != 6) = true := by rw [bne, c1]; rfl
          go_wp2_with fail
          go_round
          case rel => exact ⟨i + 1, by omega, by omega, by go_num⟩
          case measure => simp [intOf]; omega
        · obtain rfl : i = e := by omega
          have h6 := HEd.out hil
          have hws := HWi.out
          have HX : Hid (∃ tl, ws.drop i = ws[i] :: tl ∧ tl = ws.drop (i + 1)) := ⟨_, List.drop_eq_getElem_cons hil, rfl⟩
          have HAt : Hid (∀ W, Below w.heap.size w W → W.cell? ⟨b, o + i * 3 + 1, none⟩ = some (.string (S ws[i].1.x)) ∧ W.cell? ⟨b, o + i * 3 + 2, none⟩ = some (.int .i64 (ws[i].2 : Int))) := fun W hW => ⟨(HWi.out W hW i hil).2.1, (HWi.out W hW i hil).2.2⟩
          generalize ws[i] = x at *
          have h6n : x.1.k = 6 := by omega
          rw [h6n] at q0
          clear h6 hws
          by_cases hN0 : N = 0
          · have hij : i = j := by have := HNe.out; omega
            subst hij
            have HE : Hid (pipeE (ws.map Prod.fst) = .error 33) := by
              show _ = _
              have hOW : OW = [] := by
                rw [← HTk.out]
                obtain ⟨tl, htl, _⟩ := HX.out
                rw [htl, List.map_cons, List.takeWhile_cons_of_neg]
                unfold isWord
                rw [h6n]
                decide
              rw [hE.out, prep_pipe]
              rw [HTk.out, hOW]
              rfl
            go_wp2_with fail
            go_region
            all_goals go_wp2_with fail
            all_goals go_ret3
            all_goals exact ⟨hR.out.2.drew, .inr ⟨33, _, by decide, HE.out, rfl⟩⟩
          · have hji : j < i := by have := HNe.out; omega
            have g1 : ((i : Int) == (j : Int)) = false := by rw [beq_eq_false_iff_ne]; omega
            have g2 : ¬ (i : Int) = (j : Int) := by omega
            have g3 : ¬ i = j := by omega
            have hcA := hcall (by omega) wr hR.out.2
            clear hcall
            obtain ⟨l, hl1, hl2, hl3⟩ := hR.out.1
            obtain ⟨vp, vc, hva⟩ := own_shape hl2
            subst hva
            have HLl : Hid (l.length = cs.length) := by show _ = _; rw [← hl1, List.length_map]
            have hll : l.length ≤ 16 := by have := HLl.out; omega
            have HLR : Hid (l.map Prod.fst = cs ∧ wr.ownsRow w.heap.size 41 2 (.slice vp l.length vc) l.length (l.flatMap caC2) ∧ ∀ x ∈ l, ArgR w.heap.size wr x.2 x.1.as) := ⟨hl1, hl2, hl3⟩
            clear hl1 hl2 hl3
            rw [HNe.out, ← HLl.out] at hcA
            by_cases hok : ∃ cn, callE OW (decide (0 < l.length)) = .ok cn
            · obtain ⟨cn, hce⟩ := hok
              replace hcA : Calls Tryz.prog 40 #[wsV b (o + j * 3) (i - j) (c - j), .bool (decide (0 < l.length))] wr fun en w' => Below wr.heap.size wr w' ∧ ∃ p cc, en = .returned (.tuple #[caV cn (.slice p cn.as.length cc), .int .i64 0, .int .i64 0]) ∧ ArgR wr.heap.size w' (.slice p cn.as.length cc) cn.as := hcA.mono fun en w' h => by
                obtain ⟨hb, (⟨c', p, cc, hc', hen, hA⟩ | ⟨n', a, hn', h0, hen⟩)⟩ := h
                · rw [hce] at hc'
                  injection hc' with hc'
                  subst hc'
                  exact ⟨hb, p, cc, hen, hA⟩
                · rw [hce] at hn'; cases hn'
              have HCe := Lib.hid hce
              clear hce
              go_wp2_with fail
              refine hcA.mono ?_
              clear hcA
              rintro en w4 ⟨hb4, pp, pc, rfl, hA⟩
              have hal4 : Below w4.heap.size w4 (w4.alloc (.cells #[.string (S cn.n), .slice pp cn.as.length pc] 41)) := (Below.refl _ w4).alloc (Nat.le_refl _) _
              have hs4 : (w4.alloc (.cells #[.string (S cn.n), .slice pp cn.as.length pc] 41)).heap.size = w4.heap.size + 1 := Array.size_push _
              have hb5 : Below w.heap.size w (w4.alloc (.cells #[.string (S cn.n), .slice pp cn.as.length pc] 41)) := hR.out.2.trans ((hb4.trans (hal4.mono hb4.size)).mono hR.out.2.size)
              have HB5 := Lib.hid hb5
              by_cases h16 : l.length = 16
              · have HE : Hid (pipeE (ws.map Prod.fst) = .error 3) := by
                  show _ = _
                  rw [hE.out]
                  exact prep_full _ _ _ (by rw [HTk.out, ← HLl.out]; exact HCe.out) (by rw [← HLl.out]; exact h16)
                obtain ⟨_, _, y2⟩ := HWi.out _ hb5 j (by rw [← HN.out]; exact hj)
                generalize (ws[j]'(by rw [← HN.out]; exact hj)).2 = pl at y2
                have b6 : ((l.length : Int) == 16) = true := by rw [beq_iff_eq]; omega
                have b7 : (l.length : Int) = 16 := by omega
                clear hb5 hal4 hb4 hA
                go_wp2_with fail
                go_region
                all_goals go_wp2_with fail
                all_goals go_ret3
                all_goals exact ⟨HB5.out.drew, .inr ⟨3, _, by decide, HE.out, rfl⟩⟩
              · have HNx : Hid (pipeE (ws.map Prod.fst) = contE f ((ws.drop i).map Prod.fst) (cs ++ [cn])) := by
                  show _ = _
                  rw [hE.out, prep_next _ _ _ (by rw [HTk.out, ← HLl.out]; exact HCe.out) (by rw [← HLl.out]; exact h16), ← HDw.out]
                have b6 : ((l.length : Int) == 16) = false := by rw [beq_eq_false_iff_ne]; omega
                have b7 : ¬ (l.length : Int) = 16 := by omega
                have b8 : ¬ l.length = 16 := h16
                have HL5 : Hid ((w4.alloc (.cells #[.string (S cn.n), .slice pp cn.as.length pc] 41)).ownsRow w.heap.size 41 2 (.slice vp l.length vc) l.length (l.flatMap caC2) ∧ ∀ x ∈ l, ArgR w.heap.size (w4.alloc (.cells #[.string (S cn.n), .slice pp cn.as.length pc] 41)) x.2 x.1.as) :=
                  have hk : Kept w.heap.size wr (w4.alloc (.cells #[.string (S cn.n), .slice pp cn.as.length pc] 41)) := kept_of (hb4.trans (hal4.mono hb4.size))
                  ⟨own_same HLR.out.2.1 fun k hk2 he => hk k hk2 (own_lt HLR.out.2.1 k he), fun x hx => (HLR.out.2.2 x hx).same hk⟩
                have HA5 : Hid (ArgR w.heap.size (w4.alloc (.cells #[.string (S cn.n), .slice pp cn.as.length pc] 41)) (.slice pp cn.as.length pc) cn.as) := (hA.less hR.out.2.size).same (kept_of hal4)
                have HPu := Lib.hid (fun wB v' hown hg => CallR.push (w := w4.alloc (.cells #[.string (S cn.n), .slice pp cn.as.length pc] 41)) (wB := wB) (v := .slice vp l.length vc) (v' := v') (o := .cells #[.string (S cn.n), .slice pp cn.as.length pc] 41) (c := cn) (l := l) HLR.out.1 HL5.out.1 HL5.out.2 HA5.out hown hg)
                have HPb := Lib.hid (fun wB hg => grown_below (wB := wB) (o := .cells #[.string (S cn.n), .slice pp cn.as.length pc] 41) hb5 HL5.out.1 hg (Nat.le_refl _) hb5.size)
                have HOne := Lib.hid (push_ca cn pp cn.as.length pc)
                have HPC := Lib.hid (fun (jj : Nat) (u : Value) (h : ([.string (S cn.n), .slice pp cn.as.length pc] : List Value)[jj]? = some u) => Pwr.push_cells_at (w := w4.alloc (.cells #[.string (S cn.n), .slice pp cn.as.length pc] 41)) (T := 41) (cs := [.string (S cn.n), .slice pp cn.as.length pc]) _ hs4 jj u h)
                have HSz := Lib.hid hb5.size
                obtain ⟨i9, hi9, hz0, hz1, hz2⟩ := info_parts info_call
                clear hb5 hal4 hb4 hA hs4 h16 hR
                go_wp2_with (at_builtin; refine wpList_append_own _ rfl _ _ 22 rfl w.heap.size 41 i9 _ 2 40 Tryz.underlying22 hi9 hz0 hz1 hz2 rfl (by decide) _ _ _ rfl (HL5.out.1.alloc _) ⟨w4.heap.size + 1, 0, none⟩ 1 1 [.string (S cn.n), .slice pp cn.as.length pc] rfl rfl HPC.out HOne.out (by unfold maxLen; omega) (by omega) (by have := HSz.out; simp at this; simp; omega) ?_)
                intro v' wB hown' hgrow _
                have HQ := Lib.hid (And.intro (HPu.out wB _ hown' hgrow) (HPb.out wB hgrow))
                clear hown' hgrow HPu HPb HL5 HA5 HOne HPC HSz HLR
                obtain ⟨y1, y2⟩ := HAt.out wB HQ.out.2
                have HX2 := Lib.hid HX.out
                have e1 : ((i : Int) == (n : Int)) = false := by rw [beq_eq_false_iff_ne]; omega
                have e2 : ¬ (i : Int) = (n : Int) := by omega
                have e3 : ¬ i = n := by omega
                by_cases hx : x.1.x = [124]
                · have hqx : (x.1.x == [124]) = true := by rw [beq_iff_eq]; exact hx
                  have HXx := Lib.hid hx
                  clear hx
                  by_cases hl : i + 1 = n
                  · have HE : Hid (pipeE (ws.map Prod.fst) = .error 33) := by
                      obtain ⟨tl, htl, htl2⟩ := HX2.out
                      show _ = _
                      rw [HNx.out, htl, List.map_cons]
                      unfold contE
                      dsimp only
                      rw [if_neg (by rw [HXx.out]; simp), if_pos]
                      rw [htl2, List.drop_eq_nil_of_le (by rw [← HN.out]; omega)]
                      rfl
                    have f1 : ((i : Int) + 1 == (n : Int)) = true := by rw [beq_iff_eq]; omega
                    have f2 : (i : Int) + 1 = (n : Int) := by omega
                    clear hl
                    go_wp2_with fail
                    go_ret3
                    exact ⟨HQ.out.2, .inr ⟨33, _, by decide, HE.out, rfl⟩⟩
                  · have f1 : ((i : Int) + 1 == (n : Int)) = false := by rw [beq_eq_false_iff_ne]; omega
                    have f2 : ¬ (i : Int) + 1 = (n : Int) := by omega
                    have f3 : ¬ i + 1 = n := hl
                    have HE : Hid (pipeE (ws.map Prod.fst) = prepP (cs ++ [cn]) (pipeG ((f - 1) + 1) ((ws.drop (i + 1)).map Prod.fst) (cs ++ [cn]).length)) := by
                      obtain ⟨tl, htl, htl2⟩ := HX2.out
                      show _ = _
                      rw [HNx.out, htl, List.map_cons, show f - 1 + 1 = f by omega]
                      unfold contE
                      dsimp only
                      rw [if_neg (by rw [HXx.out]; simp), if_neg, htl2]
                      rw [htl2]
                      intro e
                      have := congrArg List.length e
                      rw [List.length_map, List.length_drop, ← HN.out] at this
                      simp at this
                      omega
                    have HLc : Hid ((cs ++ [cn]).length ≤ 16) := by
                      show _ ≤ _
                      rw [List.length_append, List.length_singleton, ← HLl.out]
                      omega
                    go_wp2_with fail
                    go_roundw
                    case rel => exact ⟨i + 1, f - 1, cs ++ [cn], by omega, by go_num, by omega, HLc.out, HE.out, HQ.out⟩
                    case measure => simp [intOf]; omega
                · have hqx : (x.1.x == [124]) = false := by rw [beq_eq_false_iff_ne]; exact hx
                  have HE : Hid (pipeE (ws.map Prod.fst) = .error 33) := by
                    obtain ⟨tl, htl, htl2⟩ := HX2.out
                    show _ = _
                    rw [HNx.out, htl, List.map_cons]
                    unfold contE
                    dsimp only
                    rw [if_pos hx]
                  clear hx
                  go_wp2_with fail
                  go_region
                  all_goals go_wp2_with fail
                  all_goals go_ret3
                  all_goals exact ⟨HQ.out.2.drew, .inr ⟨33, _, by decide, HE.out, rfl⟩⟩
            · have hcE : Calls Tryz.prog 40 #[wsV b (o + j * 3) (i - j) (c - j), .bool (decide (0 < l.length))] wr fun en w' => Below wr.heap.size wr w' ∧ ∃ (nn : Nat) (a : Int), nn ≠ 0 ∧ callE OW (decide (0 < l.length)) = .error nn ∧ en = .returned (.tuple #[caV ⟨[], []⟩ (.slice none 0 0), .int .i64 a, .int .i64 (nn : Int)]) := hcA.mono fun en w' h => by
                obtain ⟨hb, (⟨c', p, cc, hc', _⟩ | ⟨n', a, hn', h0, hen⟩)⟩ := h
                · exact absurd ⟨c', hc'⟩ hok
                · exact ⟨hb, n', a, h0, hn', hen⟩
              clear hcA hok
              go_wp2_with fail
              refine hcE.mono ?_
              clear hcE
              rintro en w4 ⟨hb4, nn, a, hn0, hce, rfl⟩
              have HE : Hid (pipeE (ws.map Prod.fst) = .error nn) := by
                show _ = _
                rw [hE.out]
                exact prep_pipe _ _ _ (by rw [HTk.out, ← HLl.out]; exact hce)
              have HB4 : Hid (Below w.heap.size w (w4.alloc (.cells #[.string ⟨#[]⟩, .slice none 0 0] 41))) := hR.out.2.trans ((hb4.trans (((Below.refl _ w4).alloc (Nat.le_refl _) _).mono hb4.size)).mono hR.out.2.size)
              have HN0 := Lib.hid hn0
              have c0 : ((nn : Int) == 0) = false := by rw [beq_eq_false_iff_ne]; omega
              have c1 : ((nn : Int) != 0) = true := by rw [bne, c0]; rfl
              have c2 : ¬ (nn : Int) = 0 := by omega
              have c3 : ¬ nn = 0 := hn0
              clear hb4 hce hn0
              go_wp2_with fail
              go_ret3
              exact ⟨HB4.out, .inr ⟨nn, a, HN0.out, HE.out, rfl⟩⟩
      · obtain rfl : i = n := by omega
        obtain rfl : i = e := by omega
        have hd : decide ((i : Int) < (i : Int)) = false := decide_eq_false (by omega)
        have hd2 : decide (i < i) = false := decide_eq_false (by omega)
        have hji : j < i := hj
        have g1 : ((i : Int) == (j : Int)) = false := by rw [beq_eq_false_iff_ne]; omega
        have g2 : ¬ (i : Int) = (j : Int) := by omega
        have g3 : ¬ i = j := by omega
        have hcA := hcall (by have := HNe.out; omega) wr hR.out.2
        clear hcall
        obtain ⟨l, hl1, hl2, hl3⟩ := hR.out.1
        obtain ⟨vp, vc, hva⟩ := own_shape hl2
        subst hva
        have HLl : Hid (l.length = cs.length) := by show _ = _; rw [← hl1, List.length_map]
        have hll : l.length ≤ 16 := by have := HLl.out; omega
        have HLR : Hid (l.map Prod.fst = cs ∧ wr.ownsRow w.heap.size 41 2 (.slice vp l.length vc) l.length (l.flatMap caC2) ∧ ∀ x ∈ l, ArgR w.heap.size wr x.2 x.1.as) := ⟨hl1, hl2, hl3⟩
        clear hl1 hl2 hl3
        rw [HNe.out, ← HLl.out] at hcA
        by_cases hok : ∃ cn, callE OW (decide (0 < l.length)) = .ok cn
        · obtain ⟨cn, hce⟩ := hok
          replace hcA : Calls Tryz.prog 40 #[wsV b (o + j * 3) (i - j) (c - j), .bool (decide (0 < l.length))] wr fun en w' => Below wr.heap.size wr w' ∧ ∃ p cc, en = .returned (.tuple #[caV cn (.slice p cn.as.length cc), .int .i64 0, .int .i64 0]) ∧ ArgR wr.heap.size w' (.slice p cn.as.length cc) cn.as := hcA.mono fun en w' h => by
            obtain ⟨hb, (⟨c', p, cc, hc', hen, hA⟩ | ⟨n', a, hn', h0, hen⟩)⟩ := h
            · rw [hce] at hc'
              injection hc' with hc'
              subst hc'
              exact ⟨hb, p, cc, hen, hA⟩
            · rw [hce] at hn'; cases hn'
          have HCe := Lib.hid hce
          clear hce
          go_wp2_with fail
          refine hcA.mono ?_
          clear hcA
          rintro en w4 ⟨hb4, pp, pc, rfl, hA⟩
          have hal4 : Below w4.heap.size w4 (w4.alloc (.cells #[.string (S cn.n), .slice pp cn.as.length pc] 41)) := (Below.refl _ w4).alloc (Nat.le_refl _) _
          have hs4 : (w4.alloc (.cells #[.string (S cn.n), .slice pp cn.as.length pc] 41)).heap.size = w4.heap.size + 1 := Array.size_push _
          have hb5 : Below w.heap.size w (w4.alloc (.cells #[.string (S cn.n), .slice pp cn.as.length pc] 41)) := hR.out.2.trans ((hb4.trans (hal4.mono hb4.size)).mono hR.out.2.size)
          have HB5 := Lib.hid hb5
          by_cases h16 : l.length = 16
          · have HE : Hid (pipeE (ws.map Prod.fst) = .error 3) := by
              show _ = _
              rw [hE.out]
              exact prep_full _ _ _ (by rw [HTk.out, ← HLl.out]; exact HCe.out) (by rw [← HLl.out]; exact h16)
            obtain ⟨_, _, y2⟩ := HWi.out _ hb5 j (by rw [← HN.out]; exact hj)
            generalize (ws[j]'(by rw [← HN.out]; exact hj)).2 = pl at y2
            have b6 : ((l.length : Int) == 16) = true := by rw [beq_iff_eq]; omega
            have b7 : (l.length : Int) = 16 := by omega
            clear hb5 hal4 hb4 hA
            go_wp2_with fail
            go_region
            all_goals go_wp2_with fail
            all_goals go_ret3
            all_goals exact ⟨HB5.out.drew, .inr ⟨3, _, by decide, HE.out, rfl⟩⟩
          · have HNx : Hid (pipeE (ws.map Prod.fst) = contE f ((ws.drop i).map Prod.fst) (cs ++ [cn])) := by
              show _ = _
              rw [hE.out, prep_next _ _ _ (by rw [HTk.out, ← HLl.out]; exact HCe.out) (by rw [← HLl.out]; exact h16), ← HDw.out]
            have b6 : ((l.length : Int) == 16) = false := by rw [beq_eq_false_iff_ne]; omega
            have b7 : ¬ (l.length : Int) = 16 := by omega
            have b8 : ¬ l.length = 16 := h16
            have HL5 : Hid ((w4.alloc (.cells #[.string (S cn.n), .slice pp cn.as.length pc] 41)).ownsRow w.heap.size 41 2 (.slice vp l.length vc) l.length (l.flatMap caC2) ∧ ∀ x ∈ l, ArgR w.heap.size (w4.alloc (.cells #[.string (S cn.n), .slice pp cn.as.length pc] 41)) x.2 x.1.as) :=
              have hk : Kept w.heap.size wr (w4.alloc (.cells #[.string (S cn.n), .slice pp cn.as.length pc] 41)) := kept_of (hb4.trans (hal4.mono hb4.size))
              ⟨own_same HLR.out.2.1 fun k hk2 he => hk k hk2 (own_lt HLR.out.2.1 k he), fun x hx => (HLR.out.2.2 x hx).same hk⟩
            have HA5 : Hid (ArgR w.heap.size (w4.alloc (.cells #[.string (S cn.n), .slice pp cn.as.length pc] 41)) (.slice pp cn.as.length pc) cn.as) := (hA.less hR.out.2.size).same (kept_of hal4)
            have HPu := Lib.hid (fun wB v' hown hg => CallR.push (w := w4.alloc (.cells #[.string (S cn.n), .slice pp cn.as.length pc] 41)) (wB := wB) (v := .slice vp l.length vc) (v' := v') (o := .cells #[.string (S cn.n), .slice pp cn.as.length pc] 41) (c := cn) (l := l) HLR.out.1 HL5.out.1 HL5.out.2 HA5.out hown hg)
            have HPb := Lib.hid (fun wB hg => grown_below (wB := wB) (o := .cells #[.string (S cn.n), .slice pp cn.as.length pc] 41) hb5 HL5.out.1 hg (Nat.le_refl _) hb5.size)
            have HOne := Lib.hid (push_ca cn pp cn.as.length pc)
            have HPC := Lib.hid (fun (jj : Nat) (u : Value) (h : ([.string (S cn.n), .slice pp cn.as.length pc] : List Value)[jj]? = some u) => Pwr.push_cells_at (w := w4.alloc (.cells #[.string (S cn.n), .slice pp cn.as.length pc] 41)) (T := 41) (cs := [.string (S cn.n), .slice pp cn.as.length pc]) _ hs4 jj u h)
            have HSz := Lib.hid hb5.size
            obtain ⟨i9, hi9, hz0, hz1, hz2⟩ := info_parts info_call
            clear hb5 hal4 hb4 hA hs4 h16 hR
            go_wp2_with (at_builtin; refine wpList_append_own _ rfl _ _ 22 rfl w.heap.size 41 i9 _ 2 40 Tryz.underlying22 hi9 hz0 hz1 hz2 rfl (by decide) _ _ _ rfl (HL5.out.1.alloc _) ⟨w4.heap.size + 1, 0, none⟩ 1 1 [.string (S cn.n), .slice pp cn.as.length pc] rfl rfl HPC.out HOne.out (by unfold maxLen; omega) (by omega) (by have := HSz.out; simp at this; simp; omega) ?_)
            intro v' wB hown' hgrow _
            have HQ := Lib.hid (And.intro (HPu.out wB _ hown' hgrow) (HPb.out wB hgrow))
            clear hown' hgrow HPu HPb HL5 HA5 HOne HPC HSz HLR
            have e1 : ((i : Int) == (i : Int)) = true := by rw [beq_iff_eq]
            have HE : Hid (pipeE (ws.map Prod.fst) = .ok (cs ++ [cn])) := by
              show _ = _
              rw [HNx.out, List.drop_eq_nil_of_le (by rw [← HN.out]; omega)]
              rfl
            go_wp2_with fail
            go_ret3
            exact ⟨HQ.out.2, .inl ⟨_, v', HE.out, rfl, HQ.out.1⟩⟩
        · have hcE : Calls Tryz.prog 40 #[wsV b (o + j * 3) (i - j) (c - j), .bool (decide (0 < l.length))] wr fun en w' => Below wr.heap.size wr w' ∧ ∃ (nn : Nat) (a : Int), nn ≠ 0 ∧ callE OW (decide (0 < l.length)) = .error nn ∧ en = .returned (.tuple #[caV ⟨[], []⟩ (.slice none 0 0), .int .i64 a, .int .i64 (nn : Int)]) := hcA.mono fun en w' h => by
            obtain ⟨hb, (⟨c', p, cc, hc', _⟩ | ⟨n', a, hn', h0, hen⟩)⟩ := h
            · exact absurd ⟨c', hc'⟩ hok
            · exact ⟨hb, n', a, h0, hn', hen⟩
          clear hcA hok
          go_wp2_with fail
          refine hcE.mono ?_
          clear hcE
          rintro en w4 ⟨hb4, nn, a, hn0, hce, rfl⟩
          have HE : Hid (pipeE (ws.map Prod.fst) = .error nn) := by
            show _ = _
            rw [hE.out]
            exact prep_pipe _ _ _ (by rw [HTk.out, ← HLl.out]; exact hce)
          have HB4 : Hid (Below w.heap.size w (w4.alloc (.cells #[.string ⟨#[]⟩, .slice none 0 0] 41))) := hR.out.2.trans ((hb4.trans (((Below.refl _ w4).alloc (Nat.le_refl _) _).mono hb4.size)).mono hR.out.2.size)
          have HN0 := Lib.hid hn0
          have c0 : ((nn : Int) == 0) = false := by rw [beq_eq_false_iff_ne]; omega
          have c1 : ((nn : Int) != 0) = true := by rw [bne, c0]; rfl
          have c2 : ¬ (nn : Int) = 0 := by omega
          have c3 : ¬ nn = 0 := hn0
          clear hb4 hce hn0
          go_wp2_with fail
          go_ret3
          exact ⟨HB4.out, .inr ⟨nn, a, HN0.out, HE.out, rfl⟩⟩
end Go.Proofs.YtmccbcficbbidaaGreatDoor.Pw

/-
  The page's example of layer 19; a text's words as the laws read them.
-/
namespace Go.Proofs.YtmccbcficbbidaaGreatDoor.Pw
open Go.RowKit Go.Proofs.YtmccbcficbbidaaGreatDoor.Oct Go.Proofs.YtmccbcficbbidaaGreatDoor.Lex Go.Proofs.YtmccbcficbbidaaGreatDoor.Lxw Go.Proofs.YtmccbcficbbidaaGreatDoor.Pip

/-- The words of a text, none where it is refused. -/
def wdsOf (l : List UInt8) : List (Wd × Nat) := match wordsL l with
  | .ok r => r
  | .error _ => []
theorem words_le (f : Nat) : ∀ (l : List UInt8) (p : Nat) (r : List (Wd × Nat)), wordsF f l p = .ok r → r.length ≤ l.length := by
  induction f with
  | zero => intro l p r h; injection h with h; subst h; exact Nat.zero_le _
  | succ f ih =>
    intro l p r h
    unfold wordsF at h
    have hd : (l.drop (skipN l)).length ≤ l.length := by rw [List.length_drop]; omega
    split at h
    · injection h with h; subst h; exact Nat.zero_le _
    · rename_i c t e
      rw [e] at hd
      split at h
      · cases h
      · rename_i w n hw
        have hn := word_pos hw
        split at h
        · cases h
        · rename_i r' hr
          injection h with h
          subst h
          have := ih _ _ _ hr
          rw [List.length_drop] at this
          rw [List.length_cons] at hd this ⊢
          omega
theorem wds_ok {l : List UInt8} (hl : l.length ≤ 4194304) : (wdsOf l).length ≤ 4194304 ∧ ∀ x ∈ wdsOf l, GoodX x.1 := by
  unfold wdsOf
  cases h : wordsL l with
  | error y => exact ⟨Nat.zero_le _, fun x hx => nomatch hx⟩
  | ok r => exact ⟨Nat.le_trans (words_le _ _ _ _ h) hl, words_goodx _ _ _ _ hl h⟩
theorem wds_eq {l : List UInt8} {r : List (Wd × Nat)} (h : wordsL l = .ok r) : wdsOf l = r := by unfold wdsOf; rw [h]
theorem wds_some {l : List UInt8} {p : List Ca} (h : pipeE ((wdsOf l).map Prod.fst) = .ok p) : ∃ r, wordsL l = .ok r ∧ pipeL (r.map Prod.fst) = some p := by
  cases hw : wordsL l with
  | error y =>
    unfold wdsOf at h
    rw [hw] at h
    cases h
  | ok r => exact ⟨r, rfl, pipe_ok (by rw [← wds_eq hw]; exact h)⟩
theorem rwd_v {base : Nat} {w : World} {v : Value} {ws : List (Wd × Nat)} (h : Pwr.RWdR base w v ws) : WdV w v ws := by
  rcases h.2 with ⟨hv, hn⟩ | ⟨g, cap, cur, hv, hb, hg, hc, _⟩
  · exact .inl ⟨hv, List.eq_nil_of_length_eq_zero hn⟩
  · refine .inr ⟨g, 0, cap, (Array.getElem?_eq_some_iff.1 hg).1, hv, hc, fun i hi => ?_⟩
    obtain ⟨p, cap', hv', hat⟩ := row_at (f := wdC) (m := 3) (fun _ => rfl) h
    rw [hv] at hv'
    obtain ⟨b, hp, _, hat⟩ := hat (by omega)
    injection hv' with hv' _ _
    rw [hp] at hv'
    injection hv' with hv'
    injection hv' with hv' _ _
    subst hv'
    refine ⟨?_, ?_, ?_⟩
    · rw [Nat.zero_add]; exact hat i hi 0 (by omega)
    · rw [Nat.zero_add]; exact hat i hi 1 (by omega)
    · rw [Nat.zero_add]; exact hat i hi 2 (by omega)
theorem WdV.nil (w : World) : WdV w (.slice none 0 0) [] := .inl ⟨rfl, rfl⟩
/-- The code's words of a text. -/
def Wds1 (l : List UInt8) (w : World) (e : Ending) (w' : World) : Prop := (∃ v a n, e = .returned (.tuple #[v, .int .i64 a, .int .i64 n]) ∧ WdV w' v (wdsOf l) ∧ ((∃ r, wordsL l = .ok r) → n = 0)) ∧ Below w.heap.size w w'
theorem words1_c {l : List UInt8} (hl : l.length ≤ 4194304) (w : World) : Calls Tryz.prog 14 #[.string (S l), .int .i64 0] w (Wds1 l w) := by
  refine (lexWords_c hl w).mono ?_
  rintro e w' ⟨hb, ⟨r, v, hr, rfl, hv⟩ | ⟨⟨y, hy⟩, a, n, rfl⟩⟩
  · exact ⟨⟨v, 0, 0, rfl, by rw [wds_eq hr]; exact WdR.v hv, fun _ => rfl⟩, hb⟩
  · refine ⟨⟨_, a, n, rfl, ?_, fun ⟨r, hr⟩ => by rw [hy] at hr; cases hr⟩, hb⟩
    unfold wdsOf
    rw [hy]
    exact WdV.nil _
/-- The page's words of a text. -/
theorem words2_c {l : List UInt8} (hl : l.length ≤ 4194304) (w : World) : Calls Tryz.prog 39 #[.string (S l), .int .i64 0] w (Wds1 l w) := by
  refine (Pwr.rWords_c hl w).mono ?_
  rintro e w' ⟨hb, ⟨r, v, hr, rfl, hv⟩ | ⟨⟨y, hy⟩, a, n, rfl⟩⟩
  · exact ⟨⟨v, 0, 0, rfl, by rw [wds_eq hr]; exact rwd_v hv, fun _ => rfl⟩, hb⟩
  · refine ⟨⟨_, a, n, rfl, ?_, fun ⟨r, hr⟩ => by rw [hy] at hr; cases hr⟩, hb⟩
    unfold wdsOf
    rw [hy]
    exact WdV.nil _
/-- The page's Parse of whatever words. -/
theorem rparse2_c {v : Value} {ws : List (Wd × Nat)} (hlen : ws.length ≤ 4194304) (hg : ∀ x ∈ ws, GoodX x.1) (w : World) (hv : WdV w v ws) :
    Calls Tryz.prog 17 #[v, .int .i64 0] w (RParsesTo (ws.map Prod.fst) w) := by
  by_cases hne : ws = []
  · subst hne
    rcases hv with ⟨rfl, _⟩ | ⟨b, o, c, _, rfl, _, _⟩
    · exact rparse_nil _ _ w
    · exact rparse_nil _ _ w
  · rcases hv with ⟨_, h⟩ | ⟨b, o, c, h1, rfl, h3, h4⟩
    · exact absurd h hne
    · exact rparse_c hne h3 hlen hg w h4
theorem num_c (n : Int) (w : World) : Calls Tryz.prog 7 #[.int .i64 n] w fun e w' => e = .returned (.int .i64 n) ∧ w = w' := by
  go_enter Tryz.func7, Tryz.ntmps7
  go_wp2
  go_ret
  exact ⟨rfl, rfl⟩
/-- Both readings of one text's words. -/
def Wds2 (l : List UInt8) (w : World) (e : Ending) (w' : World) : Prop := (∃ v u, e = .returned (.tuple #[v, u]) ∧ WdV w' v (wdsOf l) ∧ WdV w' u (wdsOf l)) ∧ Below w.heap.size w w'
set_option maxRecDepth 100000 in
theorem both_c {l : List UInt8} (hl : l.length ≤ 4194304) (w : World) : Calls Tryz.prog 16 #[.string (S l)] w (Wds2 l w) := by
  have h1 := words1_c hl w
  have HW := Lib.hid (fun W => words2_c hl W)
  clear hl
  go_enter Tryz.func16, Tryz.ntmps16
  go_wp2_with fail
  refine h1.mono ?_
  clear h1
  rintro e w1 ⟨⟨v, a, n, rfl, hv, _⟩, hb1⟩
  have H1 := Lib.hid (And.intro hv hb1)
  clear hv hb1
  have h2 := HW.out w1
  go_wp2_with fail
  refine h2.mono ?_
  clear h2
  rintro e w2 ⟨⟨u, a2, n2, rfl, hu, _⟩, hb2⟩
  have H2 : Hid (WdV w2 v (wdsOf l) ∧ WdV w2 u (wdsOf l) ∧ Below w.heap.size w w2) := ⟨H1.out.1.up hb2, hu, H1.out.2.trans (hb2.mono H1.out.2.size)⟩
  clear hu hb2
  go_wp2_with fail
  go_ret2
  exact ⟨⟨_, _, rfl, H2.out.1, H2.out.2.1⟩, H2.out.2.2⟩

/-! ### The example -/
abbrev exL : List UInt8 := [46, 97, 32, 124, 32, 108, 101, 110]
abbrev exP : List Ca := [⟨[], [⟨1, [], [[97]], 0, []⟩]⟩, ⟨[108, 101, 110], []⟩]
theorem ex_words : ∃ r, wordsL exL = .ok r := ⟨_, rfl⟩
theorem ex_pipe : pipeE ((wdsOf exL).map Prod.fst) = .ok exP := by rfl
set_option maxRecDepth 100000 in
theorem alive_c (w : World) (hM : MaxAt w) : Calls Tryz.prog 12 #[] w fun e w' => e = .returned (.bool true) ∧ Below w.heap.size w w' := by
  have h1 : Calls Tryz.prog 14 #[.string ⟨#[46, 97, 32, 124, 32, 108, 101, 110]⟩, .int .i64 0] w (Wds1 exL w) := words1_c (by decide) w
  have HP : Hid (∀ v W, MaxAt W → WdV W v (wdsOf exL) → Calls Tryz.prog 15 #[v, .int .i64 0] W fun e W' => ∃ u, e = .returned (.tuple #[u, .int .i64 0, .int .i64 0]) ∧ CallIn W' u exP ∧ Below W.heap.size W W') := fun v W hM hv =>
    (parse_c (wds_ok (by decide)).1 (wds_ok (by decide)).2 W hM hv).mono fun e W' ⟨hb, h⟩ => by
      rcases h with ⟨p, u, hp, he, hu⟩ | ⟨n, _, hp, _⟩
      · rw [ex_pipe] at hp
        injection hp with hp
        subst hp
        exact ⟨u, he, hu.in_, hb⟩
      · rw [ex_pipe] at hp
        cases hp
  have HM := Lib.hid hM
  have hn := num_c
  clear hM
  go_enter Tryz.func12, Tryz.ntmps12
  go_wp2_with fail
  refine h1.mono ?_
  clear h1
  rintro e w1 ⟨⟨v, a, n, rfl, hv, h0⟩, hb1⟩
  obtain rfl := h0 ex_words
  have h2 := HP.out v w1 (HM.out.kept hb1) hv
  have B1 := Lib.hid hb1
  clear hb1 hv h0
  go_wp2_with fail
  refine h2.mono ?_
  clear h2 HP
  rintro e w2 ⟨u, rfl, hu, hb2⟩
  obtain ⟨p, cap, rfl, hat⟩ := hu
  obtain ⟨b, o, rfl, hat2⟩ := hat (by decide)
  obtain ⟨va, hc⟩ := hat2 1 (by decide)
  have c0 : w2.cell? ⟨b, o + 2, none⟩ = some (.string ⟨#[108, 101, 110]⟩) := hc.c0
  have B2 := Lib.hid (B1.out.trans (hb2.mono B1.out.size))
  clear hc hat hat2 hb2 B1
  go_wp2_with (go_at_call 7; refine (hn _ _).mono ?_; rintro e3 w3 ⟨rfl, rfl⟩)
  go_ret
  exact ⟨rfl, B2.out⟩
end Go.Proofs.YtmccbcficbbidaaGreatDoor.Pw
