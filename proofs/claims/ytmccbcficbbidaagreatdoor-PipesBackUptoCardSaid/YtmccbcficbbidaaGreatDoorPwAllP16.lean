/-
  Part 16: PwCall.
-/
import Derived.Test.YtmccbcficbbidaaGreatDoorPwAllP15
/-
  Contract of package pipes' reader: call.
-/
namespace Go.Proofs.YtmccbcficbbidaaGreatDoor.Pw
open Go.RowKit Go.Proofs.YtmccbcficbbidaaGreatDoor.Oct Go.Proofs.YtmccbcficbbidaaGreatDoor.Lex Go.Proofs.YtmccbcficbbidaaGreatDoor.Lxw Go.Proofs.YtmccbcficbbidaaGreatDoor.Pip

theorem ArgR.shape {D : Nat} {w : World} {v : Value} {al : List Ar} (h : ArgR D w v al) : ∃ p c, v = .slice p al.length c := by
  obtain ⟨l, h1, h2, _⟩ := h
  obtain ⟨p, c, h3⟩ := own_shape h2
  exact ⟨p, c, by rw [h3, ← h1, List.length_map]⟩
abbrev ownN0 (l : List (Wd × Nat)) : Prop := l ≠ []
theorem wdW_keep {w W : World} {x : Wd × Nat} (hb : Below (wdW w x).heap.size (wdW w x) W) : Below w.heap.size w W := (wdW_cells w W x hb).1
set_option maxHeartbeats 2000000 in
set_option maxRecDepth 100000 in
theorem call_c {R : Nat} {e p : Int} {b o c : Nat} {ws : List (Wd × Nat)} {k : Nat} (hk : k ≤ 1152921504606846976) (hbR : b ≠ R) (hc : ws.length ≤ c) (hlen : ws.length ≤ 4194304) (hg : ∀ x ∈ ws, GoodX x.1) (w : World) (hM : MaxAt w) (h : Px R (wsV b o ws.length c) e p w) (hw : WdAt w b o ws) :
    Calls Tryz.prog 58 #[.pointer (some ⟨R, 0, none⟩), .int .i64 (k : Int)] w (CallRes R e b ((ws.take (callN ws)).map Prod.fst) (ws.drop (callN ws)) k w) := by
  have hal0 : Below w.heap.size w (w.alloc (.cells #[.string ⟨#[]⟩, .slice none 0 0] 41)) := (Below.refl _ w).alloc (Nat.le_refl _) _
  have hse := see_c hbR (w.alloc (.cells #[.string ⟨#[]⟩, .slice none 0 0] 41)) (h.keep hal0) (hw.up hal0)
  have hz0 : (w.alloc (.cells #[.string ⟨#[]⟩, .slice none 0 0] 41)).heap[w.heap.size]? = some (.cells #[.string ⟨#[]⟩, .slice none 0 0] 41 (0, 0)) := heap_alloc_new w _
  have HW := Lib.hid (hw.up hal0)
  have HK0 := Lib.hid (Kr.of (R := R) hal0)
  have hs0 : (w.alloc (.cells #[.string ⟨#[]⟩, .slice none 0 0] 41)).heap.size = w.heap.size + 1 := Array.size_push _
  have HC := Lib.hid (fun p' W (h : Px R (wsV b o ws.length c) e p' W) (hw : WdAt W b o ws) => cut_c hbR hc hlen hg W h hw)
  have hRw := h.lt
  have HB0 : Hid (ws.drop (callN ws) = [] ∨ b < w.heap.size) := by
    cases hws : ws with
    | nil => exact .inl rfl
    | cons y t =>
      right
      have h0 : 0 < ws.length := by rw [hws]; simp
      exact World.block_lt_of_cell? w _ (hw 0 h0).1
  have HM : Hid (∀ W, Kr R w W → R ≠ 0 → MaxAt W) := fun W hW hR => by
    obtain ⟨m, hm⟩ := hM
    exact ⟨m, cell_kr hm hW (fun e => hR e.symm)⟩
  have HRM : Hid (R ≠ 0) := fun e => by
    obtain ⟨m, hm⟩ := hM
    subst e
    have := h.cells.c0
    rw [hm] at this
    cases this
  clear hal0 h hw
  go_enter Tryz.func58, Tryz.ntmps58
  go_wp2_with fail
  refine hse.mono ?_
  clear hse
  rintro en w1 ⟨rfl, ⟨p1, h1⟩, k1⟩
  have hbox : w1.heap[w.heap.size]? = some (.cells #[.string ⟨#[]⟩, .slice none 0 0] 41 (0, 0)) := (k1.block w.heap.size (by omega) (by omega)).trans hz0
  have H1 := Lib.hid (And.intro (HK0.out.trans k1) hbox)
  have hs1 : w.heap.size < w1.heap.size := by have := k1.size; omega
  have HWd := Lib.hid (HW.out.kr k1.drew hbR)
  have hcut := HC.out p1 w1.drew h1.drew (HW.out.kr k1.drew hbR)
  obtain ⟨c0, c1, c2, z0, z2⟩ := h1.drew.cells
  clear h1 k1 hbox hz0 hs0 HW HK0 HC
  go_wp2_with fail
  go_region_held3 (fun W => W.cell? ⟨R, 2, none⟩ = some (.int .i64 p1)) (first | with_reducible exact c2 | with_reducible exact d2 | fail)
    (first
      | (go_at_call 85; refine hcut.mono ?_; rintro en w2 ⟨rfl, ⟨o', c', hc', hwd, hpx⟩, k2⟩; have d2 := hpx.cells.c2; have H2 := Lib.hid (And.intro hpx (And.intro hwd (And.intro hc' (H1.out.1.drew.trans k2)))); have H2b := Lib.hid k2; clear hpx hwd k2)
      | fail)
  have HOw : Hid (WdAt w2 b o (ws.take (callN ws))) := (HWd.out.kr H2b.out hbR).take
  have hNle := callN_le ws
  have HGo : Hid (∀ j (h : j < (ws.take (callN ws)).length), GoodX (ws.take (callN ws))[j].1) := fun j h => hg _ (List.mem_of_mem_take (List.getElem_mem h))
  have HOl : Hid ((ws.take (callN ws)).length = callN ws) := by show _ = _; rw [List.length_take]; omega
  have hsB : w.heap.size < w2.heap.size := by have := H2b.out.size; have : w1.drew.heap.size = w1.heap.size := rfl; omega
  have HRes : Hid (w2.heap[w.heap.size]? = some (.cells #[.string ⟨#[]⟩, .slice none 0 0] 41 (0, 0))) := (H2b.out.block w.heap.size hs1 (by omega)).trans H1.out.2
  clear hcut hg HWd H1 H2b hs1 d2 c0 c1 c2 z0 z2
  generalize ws.drop (callN ws) = rest at *
  generalize ws.take (callN ws) = own at *
  obtain ⟨N, hN⟩ : ∃ N, N = callN ws := ⟨_, rfl⟩
  rw [← hN] at HOl hNle ⊢
  have hNi : (N : Int) ≤ 4194304 := by omega
  clear hN hc
  by_cases h0 : N = 0
  · have hd : decide ((0 : Int) < (N : Int)) = false := decide_eq_false (by omega)
    have hd2 : decide (0 < N) = false := decide_eq_false (by omega)
    have hO : own = [] := List.eq_nil_of_length_eq_zero (by rw [HOl.out]; exact h0)
    go_wp2_with fail
    refine (demand_no _ _).mono ?_
    rintro en w3 ⟨rfl, rfl⟩
    refine ⟨rfl, ?_⟩
    exact ⟨H2.out.2.2.2, .inr ⟨33, by decide, rfl, .inl (by first | rfl | (rw [hO]; rfl)), _, _, H2.out.1⟩⟩
  · have hd : decide ((0 : Int) < (N : Int)) = true := decide_eq_true (by omega)
    have hd2 : decide (0 < N) = true := decide_eq_true (by omega)
    have hd3 : (0 : Int) < (N : Int) := by omega
    have hal3 : Below w2.heap.size w2 (w2.alloc (.cells #[.string ⟨#[]⟩, .slice none 0 0] 41)) := (Below.refl _ w2).alloc (Nat.le_refl _) _
    have hRl : R < w2.heap.size := by omega
    have H3 : Hid (Cl R e b o' rest.length c' w2 [] (.slice none 0 0) [] (w2.alloc (.cells #[.string ⟨#[]⟩, .slice none 0 0] 41))) := ⟨Kr.of hal3, ⟨_, H2.out.1.keep hal3⟩, heap_alloc_new w2 _, ArgR.nil _ _, hRl⟩
    clear hal3
    go_wp2_with (go_at_call 57; refine (demand_yes _ _).mono ?_; rintro en w3 ⟨rfl, rfl⟩)
    go_loopw [24] (fun i wr => ∃ (j : Nat) (nm : List UInt8) (va : Value) (al : List Ar), j ≤ N ∧ i = .int .i64 j ∧ Hid (St (own.map Prod.fst) k j nm al) ∧ Hid (Cl R e b o' rest.length c' w2 nm va al wr)) (fun i _ => N - (intOf i).toNat)
    case atStart => exact ⟨0, [], _, [], Nat.zero_le _, rfl, .start, H3.out⟩
    case round =>
      clear H3
      obtain ⟨j, nm, va, al, hj, rfl, hS, hC⟩ := hrel
      have i0 : (0 : Int) ≤ (j : Int) := by omega
      have HBx2 : ∀ {nm va al W}, Cl R e b o' rest.length c' w2 nm va al W → W.cell? ⟨w2.heap.size, 0, none⟩ = some (.string (S nm)) ∧ W.cell? ⟨w2.heap.size, 1, none⟩ = some va ∧ W.frozen? ⟨w2.heap.size, 0, none⟩ = false := fun h => ⟨(cell_of_row _ w2.heap.size 0 _ _ _ h.box).trans rfl, (cell_of_row _ w2.heap.size 1 _ _ _ h.box).trans rfl, frozen_of_row _ w2.heap.size 0 _ _ h.box⟩
      have HKW2 : ∀ {nm va al W}, Cl R e b o' rest.length c' w2 nm va al W → Kr R w W := fun h => H2.out.2.2.2.trans h.kr
      by_cases hlt : j < N
      · clear HBx2 HKW2
        have hlo : j < own.length := by rw [HOl.out]; exact hlt
        have hd4 : decide ((j : Int) < (N : Int)) = true := decide_eq_true (by omega)
        have i1 : (j : Int) < (N : Int) := by omega
        obtain ⟨x0, x1, x2⟩ := HOw.out.kr hC.out.kr hbR j hlo
        have hgx := HGo.out j hlo
        have HXe : Hid ((own.map Prod.fst)[j]'(by rw [List.length_map]; exact hlo) = own[j].1) := List.getElem_map _
        generalize own[j] = x at *
        obtain ⟨p3, hp3⟩ := hC.out.px
        obtain ⟨y0, y1, y2, yz0, yz2⟩ := (hp3.keep (wdW_below wr x)).cells
        have hCW := (hC.out.keep (wdW_below wr x)).place (x.2 : Int)
        have hne : ¬ R = wr.heap.size := by have := hC.out.low; omega
        have hwb3 : ((wdW wr x).setCell ⟨R, 2, none⟩ (.int .i64 (x.2 : Int))).heap[wr.heap.size]? = some (.cells #[.int .i64 (x.1.k : Int), .string (S x.1.x), .int .i64 (x.2 : Int)] 99 (0, 0)) := by
          rw [heap_setCell_other _ _ _ _ (by simp; omega)]
          exact heap_alloc_new wr _
        have v0 : ((wdW wr x).setCell ⟨R, 2, none⟩ (.int .i64 (x.2 : Int))).cell? ⟨wr.heap.size, 0, none⟩ = some (.int .i64 (x.1.k : Int)) := (cell_of_row _ wr.heap.size 0 _ _ _ hwb3).trans rfl
        have v1 : ((wdW wr x).setCell ⟨R, 2, none⟩ (.int .i64 (x.2 : Int))).cell? ⟨wr.heap.size, 1, none⟩ = some (.string (S x.1.x)) := (cell_of_row _ wr.heap.size 1 _ _ _ hwb3).trans rfl
        have v2 : ((wdW wr x).setCell ⟨R, 2, none⟩ (.int .i64 (x.2 : Int))).cell? ⟨wr.heap.size, 2, none⟩ = some (.int .i64 (x.2 : Int)) := (cell_of_row _ wr.heap.size 2 _ _ _ hwb3).trans rfl
        have hws : wr.heap.size < ((wdW wr x).setCell ⟨R, 2, none⟩ (.int .i64 (x.2 : Int))).heap.size := (Array.getElem?_eq_some_iff.1 hwb3).1
        have HCW := Lib.hid (And.intro hCW (And.intro hwb3 hws))
        clear hwb3 hCW hp3 hws
        have hwx : ∀ W, Below ((wdW wr x).setCell ⟨R, 2, none⟩ (.int .i64 (x.2 : Int))).heap.size ((wdW wr x).setCell ⟨R, 2, none⟩ (.int .i64 (x.2 : Int))) W → W.cell? ⟨wr.heap.size, 0, none⟩ = some (.int .i64 (x.1.k : Int)) ∧ W.cell? ⟨wr.heap.size, 1, none⟩ = some (.string (S x.1.x)) ∧ W.cell? ⟨wr.heap.size, 2, none⟩ = some (.int .i64 (x.2 : Int)) := fun W hb => ⟨some_up v0 hb, some_up v1 hb, some_up v2 hb⟩
        have HWx := Lib.hid hwx
        have hboxes : ∀ nm va al W, Cl R e b o' rest.length c' w2 nm va al W → W.cell? ⟨w2.heap.size, 0, none⟩ = some (.string (S nm)) ∧ W.cell? ⟨w2.heap.size, 1, none⟩ = some va ∧ W.frozen? ⟨w2.heap.size, 0, none⟩ = false := fun _ _ _ _ h => ⟨(cell_of_row _ w2.heap.size 0 _ _ _ h.box).trans rfl, (cell_of_row _ w2.heap.size 1 _ _ _ h.box).trans rfl, frozen_of_row _ w2.heap.size 0 _ _ h.box⟩
        have HBx := Lib.hid hboxes
        have HMW : Hid (∀ nm va al W, Cl R e b o' rest.length c' w2 nm va al W → MaxAt W) := fun _ _ _ _ h => HM.out _ (H2.out.2.2.2.trans h.kr) HRM.out
        have HKW : Hid (∀ nm va al W, Cl R e b o' rest.length c' w2 nm va al W → Kr R w W) := fun _ _ _ _ h => H2.out.2.2.2.trans h.kr
        clear hwx hboxes
        by_cases hj0 : j = 0
        · subst hj0
          have hS0 := hS.out
          generalize hq : (0 : Nat) = q at hS0
          cases hS0 with
          | func => omega
          | one => omega
          | start =>
            clear hq hd4 hS
            rw [Nat.zero_mul, Nat.add_zero] at x0 x1 x2
            have hOc : ∃ t, own.map Prod.fst = x.1 :: t := by
              cases hol : own.map Prod.fst with
              | nil => rw [List.map_eq_nil_iff] at hol; subst hol; exact absurd hlo (by simp)
              | cons y t =>
                have := HXe.out
                simp only [hol, List.getElem_cons_zero] at this
                exact ⟨t, by rw [this]⟩
            obtain ⟨t, hOt⟩ := hOc
            have HOt := Lib.hid hOt
            clear hOt
            have hnf := fun W => namesFunction_c x W
            by_cases hfn : x.1.k ≠ 1 ∨ constB x.1.x = true
            · have hE : Hid ((decide (x.1.k = 1) && !constB x.1.x) = false) := by
                show _ = _
                rcases hfn with h | h
                · rw [decide_eq_false h]; rfl
                · rw [h]; simp
              rw [hE.out] at hnf
              have HFn := Lib.hid hfn
              clear hfn hE
              go_wp2_with fail
              refine (hnf _).mono ?_
              rintro en W4 ⟨rfl, hb4⟩
              have HC4 := Lib.hid (HCW.out.1.keep hb4)
              have HW4 := Lib.hid hb4
              obtain ⟨v0, v1, v2⟩ := HWx.out W4 hb4
              obtain ⟨k0, k1, z0⟩ := HBx.out _ _ _ _ HC4.out
              clear hb4 hnf y0 y1 y2 yz0 yz2 x0 x1 x2
              replace k0 : W4.cell? ⟨w2.heap.size, 0, none⟩ = some (.string ⟨#[]⟩) := k0
              by_cases hk0 : k = 0
              · have kb : ((k : Int) == 0) = true := by rw [beq_iff_eq]; omega
                have kd : decide ((k : Int) = 0) = true := decide_eq_true (by omega)
                have HK0 := Lib.hid hk0
                clear hk0
                go_wp2_with (go_at_call 57; refine (demand_yes _ _).mono ?_; rintro en w3 ⟨rfl, rfl⟩)
                have hMd : MaxAt W4.drew := MaxAt.kept (HMW.out _ _ _ _ HC4.out) (Below.refl _ W4).drew
                have harg := argument_c x hgx W4.drew hMd
                have HC4d := Lib.hid (HC4.out.keep (Below.refl _ W4).drew)
                clear hMd
                cases hae : argE x.1 with
                | error n =>
                  have hargE : Calls Tryz.prog 88 #[.agg #[.int .i64 (x.1.k : Int), .string (S x.1.x), .int .i64 (x.2 : Int)]] W4.drew fun en w' => Below W4.drew.heap.size W4.drew w' ∧ en = Fault (n : Int) ∧ n ≠ 0 := harg.mono fun en w' h => by
                    obtain ⟨hb, (⟨a, pp, pc, ha, _⟩ | ⟨n', hn', h0, rfl⟩)⟩ := h
                    · rw [hae] at ha; cases ha
                    · rw [hae] at hn'
                      injection hn' with hn'
                      subst hn'
                      exact ⟨hb, rfl, h0⟩
                  have HErr := Lib.hid (show callE (own.map Prod.fst) (decide (0 < k)) = .error n by rw [HOt.out, HK0.out]; exact call_noarg HFn.out hae)
                  clear harg hae
                  refine wp_region_held_drew (S := (fun W => W.cell? ⟨w2.heap.size, 1, none⟩ = some va ∧ W.cell? ⟨wr.heap.size, 0, none⟩ = some (.int .i64 (x.1.k : Int)) ∧ W.cell? ⟨wr.heap.size, 1, none⟩ = some (.string (S x.1.x)) ∧ W.cell? ⟨wr.heap.size, 2, none⟩ = some (.int .i64 (x.2 : Int)))) (by kernel_rfl) ⟨k1, v0, v1, v2⟩ (fun hHeld => ?_)
                  refine wpAnyH_take (i := 0) (v := ?_) rfl (by kernel_rfl) (by kernel_rfl) (by kernel_rfl) (fun _ _ _ h => h) (Or.inl ⟨by rfl, ?_⟩) (by assumption) ?_
                  rotate_left
                  · intro w hSw
                    try dsimp only at hSw
                    go_simp
                    try with_reducible rfl
                  (try simp only [List.getElem_toArray]); (try simp only [List.getElem_cons_succ]); (try simp only [List.getElem_cons_zero]); (try simp only [Act.put]); (try simp only [List.setIfInBounds_toArray]); (try simp only [List.set_cons_succ]); (try simp only [List.set_cons_zero])
                  refine wpAnyH_take (i := 1) (v := ?_) rfl (by kernel_rfl) (by kernel_rfl) (by kernel_rfl) (fun _ _ _ h => h) (Or.inl ⟨by rfl, ?_⟩) (by assumption) ?_
                  rotate_left
                  · intro w hSw
                    try dsimp only at hSw
                    go_simp
                    try with_reducible rfl
                  (try simp only [List.getElem_toArray]); (try simp only [List.getElem_cons_succ]); (try simp only [List.getElem_cons_zero]); (try simp only [Act.put]); (try simp only [List.setIfInBounds_toArray]); (try simp only [List.set_cons_succ]); (try simp only [List.set_cons_zero])
                  refine wpAnyH_take (i := 2) (v := ?_) rfl (by kernel_rfl) (by kernel_rfl) (by kernel_rfl) (fun _ _ _ h => h) (Or.inl ⟨by rfl, ?_⟩) (by assumption) ?_
                  rotate_left
                  · intro w hSw
                    try dsimp only at hSw
                    go_simp
                    try with_reducible rfl
                  (try simp only [List.getElem_toArray]); (try simp only [List.getElem_cons_succ]); (try simp only [List.getElem_cons_zero]); (try simp only [Act.put]); (try simp only [List.setIfInBounds_toArray]); (try simp only [List.set_cons_succ]); (try simp only [List.set_cons_zero])
                  refine wpAnyH_ready (rs := [3]) (by kernel_rfl) (by simp) ?_
                  refine AllReadyH.cons rfl (fun K hK => ?_) AllReadyH.nil
                  go_simp
                  refine hargE.mono ?_; rintro en W5 ⟨hb5, rfl, hn0⟩
                  obtain ⟨pp, hpp⟩ := (HC4d.out.keep hb5).px
                  exact ⟨rfl, HKW.out _ _ _ _ (HC4d.out.keep hb5), .inr ⟨n, hn0, rfl, .inl HErr.out, _, _, hpp⟩⟩
                | ok a =>
                  have hargO : Calls Tryz.prog 88 #[.agg #[.int .i64 (x.1.k : Int), .string (S x.1.x), .int .i64 (x.2 : Int)]] W4.drew fun en w' => Below W4.drew.heap.size W4.drew w' ∧ ∃ p c, en = .returned (.agg #[.int .i64 a.k, .string (S a.n), .slice p a.p.length c, .int .i64 a.i, .string (S a.x)]) ∧ PathR W4.drew.heap.size w' (.slice p a.p.length c) a.p := harg.mono fun en w' h => by
                    obtain ⟨hb, (⟨a', pp, pc, ha, rfl, hP⟩ | ⟨n', hn', h0, rfl⟩)⟩ := h
                    · rw [hae] at ha
                      injection ha with ha
                      subst ha
                      exact ⟨hb, pp, pc, rfl, hP⟩
                    · rw [hae] at hn'; cases hn'
                  have HSt := Lib.hid (show St (own.map Prod.fst) k 1 [] ([] ++ [a]) by rw [HOt.out]; exact .one x.1 t a rfl HFn.out HK0.out hae)
                  clear harg hae
                  obtain ⟨l, hl1, hl2, hl3⟩ := HC4d.out.args
                  obtain ⟨vp, vc, hva⟩ := own_shape hl2
                  have HL := Lib.hid (And.intro hl1 (And.intro hl2 hl3))
                  have HLl : Hid (l.length ≤ 4194304) := by
                    show _ ≤ _
                    have e1 : l.length = (([] : List Ar)).length := by rw [← hl1, List.length_map]
                    have e2 : (([] : List Ar)).length ≤ N := Nat.zero_le _
                    omega
                  clear hl1 hl2 hl3
                  subst hva
                  have HLi : (l.length : Int) ≤ 4194304 := by have := HLl.out; omega
                  obtain ⟨i9, hi, hz0, hz1, hz2⟩ := info_parts info_arg
                  go_region_law (first
                    | (go_simp; go_at_call 88; refine hargO.mono ?_; rintro en W5 ⟨hb5, pp, pc, rfl, hP⟩; have HC5 := Lib.hid (HC4d.out.keep hb5); have HP5 := Lib.hid (hP.less HC4d.out.low); have HL5 : Hid (W5.ownsRow (w2.heap.size + 1) 44 5 (.slice vp l.length vc) l.length (l.flatMap arC2) ∧ ∀ x ∈ l, PathR (w2.heap.size + 1) W5 x.2 x.1.p) := ⟨own_same HL.out.2.1 fun k _ he => hb5.block k (own_lt HL.out.2.1 k he), fun x hx => (HL.out.2.2 x hx).same (kept_of hb5)⟩; obtain ⟨q0, q1, q2⟩ := HBx.out _ _ _ _ HC5.out; have HPu := Lib.hid (fun wB v' hown hg => HC5.out.push (wB := wB) (v' := v') (a := a) (o' := .cells (arC a (.slice pp a.p.length pc)).toArray 44) HL.out.1 HL5.out.1 HL5.out.2 HP5.out hown hg); have q3 : (W5.alloc (.cells #[.int .i64 a.k, .string (S a.n), .slice pp a.p.length pc, .int .i64 a.i, .string (S a.x)] 44)).cell? ⟨w2.heap.size, 1, none⟩ = some (.slice vp l.length vc) := some_up q1 ((Below.refl _ W5).alloc (Nat.le_refl _) _); have HOne := Lib.hid (push_ar a pp a.p.length pc); have HLow := Lib.hid HC5.out.low; clear hb5 hP)
                    | (refine step_append_lies _ rfl (.tmp 56) (.tmp 59) 39 rfl (w2.heap.size + 1) 44 i9 _ 5 72 Tryz.underlying39 hi hz0 hz1 hz2 rfl (by omega) (.slice vp l.length vc) l.length (l.flatMap arC2) (by simp [Act.eval]) (HL5.out.1.alloc _) ⟨W5.heap.size, 0, none⟩ 1 1 (arC a (.slice pp a.p.length pc)) (by simp [Act.eval]) rfl (push_cells (cs := arC a (.slice pp a.p.length pc))) HOne.out (by omega) (by unfold maxLen; omega) (by omega) (by simp; have := HLow.out; omega) (W5.heap.size + 1) (by simp) ?_; intro g cp wB hownB hgB hatB hltB; obtain ⟨p1', p2', p3'⟩ := HPu.out wB _ hownB hgB; have HPP := Lib.hid p1'; clear p1' hownB hgB hatB hltB))
                  all_goals
                    generalize World.setCell wB _ _ = w6 at HPP ⊢
                    go_wp2_with fail
                    go_roundw
                    case rel => exact ⟨1, [], _, _, by omega, by go_num, HSt.out, HPP.out⟩
                    case measure => simp [intOf]; omega
              · have b0 : ((k : Int) == 0) = false := by rw [beq_eq_false_iff_ne]; omega
                have n0 : ¬ k = 0 := hk0
                go_wp2_with fail
                refine (demand_no _ _).mono ?_
                rintro en w3 ⟨rfl, rfl⟩
                obtain ⟨pp, hpp⟩ := HC4.out.px
                exact ⟨rfl, HKW.out _ _ _ _ HC4.out, .inr ⟨33, by decide, rfl, .inl (by rw [HOt.out]; exact call_behind HFn.out (by omega)), _, _, hpp⟩⟩
            · have hE : Hid ((decide (x.1.k = 1) && !constB x.1.x) = true) := by
                show _ = _
                have h1 : x.1.k = 1 := Classical.byContradiction fun e => hfn (.inl e)
                have h2 : constB x.1.x = false := by
                  cases hcb : constB x.1.x with
                  | false => rfl
                  | true => exact absurd (.inr hcb) hfn
                rw [decide_eq_true h1, h2]
                rfl
              rw [hE.out] at hnf
              have HFn := Lib.hid hfn
              clear hfn hE
              have hfu := fun W => function_c x hgx.len W
              go_wp2_with fail
              refine (hnf _).mono ?_
              rintro en W4 ⟨rfl, hb4⟩
              have HC4 := Lib.hid (HCW.out.1.keep hb4)
              obtain ⟨v0, v1, v2⟩ := HWx.out W4 hb4
              clear hb4 hnf y0 y1 y2 yz0 yz2 x0 x1 x2
              go_wp2_with fail
              refine (hfu _).mono ?_
              rintro en W5 ⟨hb5, (⟨m, hm, rfl⟩ | ⟨hm, rfl⟩)⟩
              · have HC5 := Lib.hid (HC4.out.keep hb5)
                have hSt : St (own.map Prod.fst) k 1 x.1.x [] := by rw [HOt.out]; exact .func x.1 t m 0 [] rfl HFn.out hm rfl rfl (Nat.zero_le _)
                have HSt := Lib.hid hSt
                obtain ⟨k0, k1, z0⟩ := HBx.out _ _ _ _ HC5.out
                have HC6 := Lib.hid (HC5.out.name x.1.x)
                clear hb5 hm hSt
                go_wp2_with fail
                go_roundw
                case rel => exact ⟨1, x.1.x, va, [], by omega, by go_num, HSt.out, HC6.out⟩
                case measure => simp [intOf]; omega
              · obtain ⟨pp, hpp⟩ := (HC4.out.keep hb5).px
                exact ⟨rfl, HKW.out _ _ _ _ (HC4.out.keep hb5), .inr ⟨31, by decide, rfl, .inl (by rw [HOt.out]; exact call_nofun HFn.out hm), _, _, hpp⟩⟩
        · have b0 : ((j : Int) == 0) = false := by rw [beq_eq_false_iff_ne]; omega
          have n0 : ¬ j = 0 := hj0
          have hqn := eqN nm
          have hqe : nm.isEmpty = decide (nm = []) := by cases nm <;> simp
          obtain ⟨k0, k1, z0⟩ := HBx.out _ _ _ _ HCW.out.1
          by_cases hnm : nm = []
          · rw [decide_eq_true hnm] at hqn hqe
            have HNm := Lib.hid hnm
            clear hnm
            by_cases hk0 : k = 0
            · subst hk0
              go_wp2_with fail
              refine (demand_no _ _).mono ?_
              rintro en w3 ⟨rfl, rfl⟩
              obtain ⟨pp, hpp⟩ := HCW.out.1.px
              refine ⟨rfl, HKW.out _ _ _ _ HCW.out.1, .inr ⟨33, by decide, rfl, .inl ?_, _, _, hpp⟩⟩
              have hs := hS.out
              rw [HNm.out] at hs
              exact hs.more (by rw [List.length_map]; exact hlo) hj0
            · have b1 : ((k : Int) == 0) = false := by rw [beq_eq_false_iff_ne]; omega
              have n1 : ¬ k = 0 := hk0
              go_wp2_with fail
              refine (demand_no _ _).mono ?_
              rintro en w3 ⟨rfl, rfl⟩
              obtain ⟨pp, hpp⟩ := HCW.out.1.px
              refine ⟨rfl, HKW.out _ _ _ _ HCW.out.1, .inr ⟨33, by decide, rfl, .inl ?_, _, _, hpp⟩⟩
              have hs := hS.out
              rw [HNm.out] at hs
              exact hs.more (by rw [List.length_map]; exact hlo) hj0
          · rw [decide_eq_false hnm] at hqn hqe
            have HNm := Lib.hid hnm
            clear hnm
            go_wp2_with (go_at_call 57; refine (demand_yes _ _).mono ?_; rintro en w3 ⟨rfl, rfl⟩)
            obtain ⟨W4, hW4⟩ : ∃ W4, W4 = (wdW wr x).setCell ⟨R, 2, none⟩ (.int .i64 (x.2 : Int)) := ⟨_, rfl⟩
            rw [← hW4] at HCW HWx v0 v1 v2 k0 k1 z0 ⊢
            have HC4 := Lib.hid HCW.out.1
            have HAl : Hid (al.length ≤ j) := hS.out.len
            clear hW4
            have hMd : MaxAt W4.drew := MaxAt.kept (HMW.out _ _ _ _ HC4.out) (Below.refl _ W4).drew
            have harg := argument_c x hgx W4.drew hMd
            have HC4d := Lib.hid (HC4.out.keep (Below.refl _ W4).drew)
            clear hMd
            cases hae : argE x.1 with
            | error n =>
              have hargE : Calls Tryz.prog 88 #[.agg #[.int .i64 (x.1.k : Int), .string (S x.1.x), .int .i64 (x.2 : Int)]] W4.drew fun en w' => Below W4.drew.heap.size W4.drew w' ∧ en = Fault (n : Int) ∧ n ≠ 0 := harg.mono fun en w' h => by
                obtain ⟨hb, (⟨a, pp, pc, ha, _⟩ | ⟨n', hn', h0, rfl⟩)⟩ := h
                · rw [hae] at ha; cases ha
                · rw [hae] at hn'
                  injection hn' with hn'
                  subst hn'
                  exact ⟨hb, rfl, h0⟩
              have HErr := Lib.hid (hS.out.err (by rw [List.length_map]; exact hlo) HNm.out (by rw [HXe.out]; exact hae))
              clear harg hae
              refine wp_region_held_drew (S := (fun W => W.cell? ⟨w2.heap.size, 1, none⟩ = some va ∧ W.cell? ⟨wr.heap.size, 0, none⟩ = some (.int .i64 (x.1.k : Int)) ∧ W.cell? ⟨wr.heap.size, 1, none⟩ = some (.string (S x.1.x)) ∧ W.cell? ⟨wr.heap.size, 2, none⟩ = some (.int .i64 (x.2 : Int)))) (by kernel_rfl) ⟨k1, v0, v1, v2⟩ (fun hHeld => ?_)
              refine wpAnyH_take (i := 0) (v := ?_) rfl (by kernel_rfl) (by kernel_rfl) (by kernel_rfl) (fun _ _ _ h => h) (Or.inl ⟨by rfl, ?_⟩) (by assumption) ?_
              rotate_left
              · intro w hSw
                try dsimp only at hSw
                go_simp
                try with_reducible rfl
              (try simp only [List.getElem_toArray]); (try simp only [List.getElem_cons_succ]); (try simp only [List.getElem_cons_zero]); (try simp only [Act.put]); (try simp only [List.setIfInBounds_toArray]); (try simp only [List.set_cons_succ]); (try simp only [List.set_cons_zero])
              refine wpAnyH_take (i := 1) (v := ?_) rfl (by kernel_rfl) (by kernel_rfl) (by kernel_rfl) (fun _ _ _ h => h) (Or.inl ⟨by rfl, ?_⟩) (by assumption) ?_
              rotate_left
              · intro w hSw
                try dsimp only at hSw
                go_simp
                try with_reducible rfl
              (try simp only [List.getElem_toArray]); (try simp only [List.getElem_cons_succ]); (try simp only [List.getElem_cons_zero]); (try simp only [Act.put]); (try simp only [List.setIfInBounds_toArray]); (try simp only [List.set_cons_succ]); (try simp only [List.set_cons_zero])
              refine wpAnyH_take (i := 2) (v := ?_) rfl (by kernel_rfl) (by kernel_rfl) (by kernel_rfl) (fun _ _ _ h => h) (Or.inl ⟨by rfl, ?_⟩) (by assumption) ?_
              rotate_left
              · intro w hSw
                try dsimp only at hSw
                go_simp
                try with_reducible rfl
              (try simp only [List.getElem_toArray]); (try simp only [List.getElem_cons_succ]); (try simp only [List.getElem_cons_zero]); (try simp only [Act.put]); (try simp only [List.setIfInBounds_toArray]); (try simp only [List.set_cons_succ]); (try simp only [List.set_cons_zero])
              refine wpAnyH_ready (rs := [3]) (by kernel_rfl) (by simp) ?_
              refine AllReadyH.cons rfl (fun K hK => ?_) AllReadyH.nil
              go_simp
              refine hargE.mono ?_; rintro en W5 ⟨hb5, rfl, hn0⟩
              obtain ⟨pp, hpp⟩ := (HC4d.out.keep hb5).px
              exact ⟨rfl, HKW.out _ _ _ _ (HC4d.out.keep hb5), .inr ⟨n, hn0, rfl, .inl HErr.out, _, _, hpp⟩⟩
            | ok a =>
              have hargO : Calls Tryz.prog 88 #[.agg #[.int .i64 (x.1.k : Int), .string (S x.1.x), .int .i64 (x.2 : Int)]] W4.drew fun en w' => Below W4.drew.heap.size W4.drew w' ∧ ∃ p c, en = .returned (.agg #[.int .i64 a.k, .string (S a.n), .slice p a.p.length c, .int .i64 a.i, .string (S a.x)]) ∧ PathR W4.drew.heap.size w' (.slice p a.p.length c) a.p := harg.mono fun en w' h => by
                obtain ⟨hb, (⟨a', pp, pc, ha, rfl, hP⟩ | ⟨n', hn', h0, rfl⟩)⟩ := h
                · rw [hae] at ha
                  injection ha with ha
                  subst ha
                  exact ⟨hb, pp, pc, rfl, hP⟩
                · rw [hae] at hn'; cases hn'
              have HSt := Lib.hid (hS.out.next (by rw [List.length_map]; exact hlo) HNm.out (by rw [HXe.out]; exact hae))
              clear harg hae
              obtain ⟨l, hl1, hl2, hl3⟩ := HC4d.out.args
              obtain ⟨vp, vc, hva⟩ := own_shape hl2
              have HL := Lib.hid (And.intro hl1 (And.intro hl2 hl3))
              have HLl : Hid (l.length ≤ 4194304) := by
                show _ ≤ _
                have e1 : l.length = (al).length := by rw [← hl1, List.length_map]
                have e2 : (al).length ≤ N := by have := HAl.out; omega
                omega
              clear hl1 hl2 hl3
              subst hva
              have HLi : (l.length : Int) ≤ 4194304 := by have := HLl.out; omega
              obtain ⟨i9, hi, hz0, hz1, hz2⟩ := info_parts info_arg
              go_region_law (first
                | (go_simp; go_at_call 88; refine hargO.mono ?_; rintro en W5 ⟨hb5, pp, pc, rfl, hP⟩; have HC5 := Lib.hid (HC4d.out.keep hb5); have HP5 := Lib.hid (hP.less HC4d.out.low); have HL5 : Hid (W5.ownsRow (w2.heap.size + 1) 44 5 (.slice vp l.length vc) l.length (l.flatMap arC2) ∧ ∀ x ∈ l, PathR (w2.heap.size + 1) W5 x.2 x.1.p) := ⟨own_same HL.out.2.1 fun k _ he => hb5.block k (own_lt HL.out.2.1 k he), fun x hx => (HL.out.2.2 x hx).same (kept_of hb5)⟩; obtain ⟨q0, q1, q2⟩ := HBx.out _ _ _ _ HC5.out; have HPu := Lib.hid (fun wB v' hown hg => HC5.out.push (wB := wB) (v' := v') (a := a) (o' := .cells (arC a (.slice pp a.p.length pc)).toArray 44) HL.out.1 HL5.out.1 HL5.out.2 HP5.out hown hg); have q3 : (W5.alloc (.cells #[.int .i64 a.k, .string (S a.n), .slice pp a.p.length pc, .int .i64 a.i, .string (S a.x)] 44)).cell? ⟨w2.heap.size, 1, none⟩ = some (.slice vp l.length vc) := some_up q1 ((Below.refl _ W5).alloc (Nat.le_refl _) _); have HOne := Lib.hid (push_ar a pp a.p.length pc); have HLow := Lib.hid HC5.out.low; clear hb5 hP)
                | (refine step_append_lies _ rfl (.tmp 56) (.tmp 59) 39 rfl (w2.heap.size + 1) 44 i9 _ 5 72 Tryz.underlying39 hi hz0 hz1 hz2 rfl (by omega) (.slice vp l.length vc) l.length (l.flatMap arC2) (by simp [Act.eval]) (HL5.out.1.alloc _) ⟨W5.heap.size, 0, none⟩ 1 1 (arC a (.slice pp a.p.length pc)) (by simp [Act.eval]) rfl (push_cells (cs := arC a (.slice pp a.p.length pc))) HOne.out (by omega) (by unfold maxLen; omega) (by omega) (by simp; have := HLow.out; omega) (W5.heap.size + 1) (by simp) ?_; intro g cp wB hownB hgB hatB hltB; obtain ⟨p1', p2', p3'⟩ := HPu.out wB _ hownB hgB; have HPP := Lib.hid p1'; clear p1' hownB hgB hatB hltB))
              all_goals
                generalize World.setCell wB _ _ = w6 at HPP ⊢
                go_wp2_with fail
                go_roundw
                case rel => exact ⟨j + 1, nm, _, _, by omega, by go_num, HSt.out, HPP.out⟩
                case measure => simp [intOf]; omega
      · obtain rfl : j = N := by omega
        have hd4 : decide ((j : Int) < (j : Int)) = false := decide_eq_false (by omega)
        obtain ⟨vp, vc, hva⟩ := hC.out.args.shape
        subst hva
        have HW5 := Lib.hid (hC.out.place p1)
        obtain ⟨pz, hpz⟩ := hC.out.px
        obtain ⟨y0, y1, y2, yz0, yz2⟩ := hpz.cells
        have hne0 : ownN0 own := by
          intro e
          rw [e] at HOl
          have := HOl.out
          simp at this
          omega
        have hfin := hS.out
        have hl2 : (own.map Prod.fst).length = j := by rw [List.length_map, HOl.out]
        rw [← hl2] at hfin
        have HFin := Lib.hid (hfin.fin (fun e => hne0 (List.map_eq_nil_iff.1 e)))
        have hal : al.length ≤ 4194304 := by have := hS.out.len; omega
        clear hfin hl2 hne0 hpz hS
        have hfi := fun W => fits_c nm al.length k vp vc (by omega) hk W
        obtain ⟨q0, q1, qz⟩ := HBx2 hC.out
        obtain ⟨r0, r1, rz⟩ := HBx2 HW5.out
        by_cases h16 : k < 16
        · have k16 : (k : Int) < 16 := by omega
          have kd : decide ((k : Int) < 16) = true := decide_eq_true k16
          have kd2 : decide (k < 16) = true := decide_eq_true h16
          have H16 := Lib.hid h16
          clear h16
          go_wp2_with fail
          refine (hfi _).mono ?_
          rintro en W6 ⟨rfl, hb6⟩
          have HW6 := Lib.hid (HW5.out.keep hb6)
          clear hb6 hfi q0 q1 qz r0 r1 rz y0 y1 y2 yz0 yz2
          cases hfb : fitsB nm al.length k with
          | true =>
            obtain ⟨r0, r1, rz⟩ := HBx2 HW6.out
            have hres : W6.heap[w.heap.size]? = some (.cells #[.string ⟨#[]⟩, .slice none 0 0] 41 (0, 0)) := (HW6.out.kr.block w.heap.size hsB (by omega)).trans HRes.out
            have s0 : W6.cell? ⟨w.heap.size, 0, none⟩ = some (.string ⟨#[]⟩) := (cell_of_row _ w.heap.size 0 _ _ _ hres).trans rfl
            have s1 : W6.cell? ⟨w.heap.size, 1, none⟩ = some (.slice none 0 0) := (cell_of_row _ w.heap.size 1 _ _ _ hres).trans rfl
            have t0 : W6.frozen? ⟨w.heap.size, 0, none⟩ = false := frozen_of_row _ w.heap.size 0 _ _ hres
            have t1 : W6.frozen? ⟨w.heap.size, 1, none⟩ = false := frozen_of_row _ w.heap.size 1 _ _ hres
            have hset : ((W6.setCell ⟨w.heap.size, 0, none⟩ (.string (S nm))).setCell ⟨w.heap.size, 1, none⟩ (.slice vp al.length vc)).heap[w.heap.size]? = some (.cells #[.string (S nm), .slice vp al.length vc] 41 (0, 0)) := heap_setCell_same _ w.heap.size 1 _ _ _ (heap_setCell_same W6 w.heap.size 0 _ _ _ hres)
            have HG0 := Lib.hid (And.intro ((cell_of_row _ w.heap.size 0 _ _ _ hset).trans rfl) ((cell_of_row _ w.heap.size 1 _ _ _ hset).trans rfl))
            have hE := HFin.out
            rw [hfb, if_pos rfl] at hE
            have HRs : Hid (CallRes R e b (own.map Prod.fst) rest k w (.returned (caV ⟨nm, al⟩ (.slice vp al.length vc))) ((W6.setCell ⟨w.heap.size, 0, none⟩ (.string (S nm))).setCell ⟨w.heap.size, 1, none⟩ (.slice vp al.length vc))) := by
              obtain ⟨pp, hpp⟩ := HW6.out.px
              have hks : ∀ kk, kk ≠ w.heap.size → ((W6.setCell ⟨w.heap.size, 0, none⟩ (.string (S nm))).setCell ⟨w.heap.size, 1, none⟩ (.slice vp al.length vc)).heap[kk]? = W6.heap[kk]? := fun kk hkk => by
                rw [heap_setCell_other _ _ _ _ (by simpa using hkk), heap_setCell_other _ _ _ _ (by simpa using hkk)]
              have hk6 := HKW2 HW6.out
              have hlow := HW6.out.low
              refine ⟨⟨hk6.os, hk6.tape, hk6.output, by simp [World.setCell]; exact hk6.size, fun kk h1 h2 => (hks kk (by omega)).trans (hk6.block kk h1 h2)⟩, .inl ⟨⟨nm, al⟩, pp, vp, vc, hE, H16.out, rfl, ?_, o', c', H2.out.2.2.1, ?_, ?_⟩⟩
              · exact (HW6.out.args.same fun kk h1 _ => hks kk (by omega)).less (by omega)
              · intro i hi
                have hb : b < w.heap.size := by
                  rcases HB0.out with h | h
                  · rw [h] at hi; exact absurd hi (by simp)
                  · exact h
                obtain ⟨d0, d1, d2⟩ := (H2.out.2.1.kr HW6.out.kr hbR) i hi
                exact ⟨cell_own d0 (hks b (by omega)), cell_own d1 (hks b (by omega)), cell_own d2 (hks b (by omega))⟩
              · exact (hks R (by omega)).trans hpp
            clear hres hset hE HFin
            go_wp2_with (go_at_call 57; refine (demand_yes _ _).mono ?_; rintro en w3 ⟨rfl, rfl⟩)
            obtain ⟨g0, g1⟩ := HG0.out
            refine bodyPost_ret (v := caV ⟨nm, al⟩ (.slice vp al.length vc)) (by simp [results, Tryz.results58, go_sem, g0, g1]) rfl ?_
            exact HRs.out
          | false =>
            have hE := HFin.out
            rw [hfb, if_neg (by simp)] at hE
            have HE := Lib.hid hE
            clear hE HFin
            go_wp2_with fail
            refine (demand_no _ _).mono ?_
            rintro en w3 ⟨rfl, rfl⟩
            obtain ⟨pp, hpp⟩ := HW6.out.px
            exact ⟨rfl, HKW2 HW6.out, .inr ⟨3, by decide, rfl, .inl HE.out, _, _, hpp⟩⟩
        · have k16 : ¬ (k : Int) < 16 := by omega
          have kd : decide ((k : Int) < 16) = false := decide_eq_false k16
          have kd2 : decide (k < 16) = false := decide_eq_false h16
          have H16 := Lib.hid h16
          clear h16
          go_wp2_with fail
          refine (demand_no _ _).mono ?_
          rintro en w3 ⟨rfl, rfl⟩
          obtain ⟨pp, hpp⟩ := HW5.out.px
          refine ⟨rfl, HKW2 HW5.out, .inr ⟨3, by decide, rfl, ?_, _, _, hpp⟩⟩
          have hE := HFin.out
          cases hfb : fitsB nm al.length k with
          | true =>
            rw [hfb, if_pos rfl] at hE
            exact .inr ⟨⟨_, hE⟩, H16.out, rfl⟩
          | false =>
            rw [hfb, if_neg (by simp)] at hE
            exact .inl hE
end Go.Proofs.YtmccbcficbbidaaGreatDoor.Pw
