/-
  Contract of the cutter's cut: the pieces of a template.
-/
import Derived.Test.YtbchjmldjdhjiaaLxwPut
import Derived.StillTailTactics
namespace Go.Proofs.Ytbchjmldjdhjiaa.Lxw
open Go.RowKit Go.Proofs.Ytbchjmldjdhjiaa.Oct Go.Proofs.Ytbchjmldjdhjiaa.Lex

def atOf (R : Nat) (w : World) : Nat := match w.cell? ⟨R, 1, none⟩ with
  | some (.int _ q) => q.toNat
  | _ => 0
theorem Ct.atOf {R B : Nat} {l : List UInt8} {k : Nat} {t : List UInt8} {p : Nat} {v : Value} {its : List It} {w : World} (h : Ct R B l k t p v its w) : atOf R w = k := by
  unfold Lxw.atOf
  rw [h.cell 1]
  exact Int.toNat_natCast k
/-- What cut leaves: the place of an action without an end, or the pieces. -/
inductive CutTo (R B : Nat) (l : List UInt8) (w : World) (e : Ending) (w' : World) : Prop
  | fault (k : Nat) (hi : itemsL l = .error k) (he : e = Fault 8) (hc : w'.cell? ⟨R, 1, none⟩ = some (.int .i64 (k : Int))) (hb : Kp R B w w')
  | done (v : Value) (its : List It) (hi : itemsL l = .ok its) (he : e = .returned v) (ho : ItR B w' v its) (hb : Kp R B w w')
/-- The cutter at a place where {{ begins, or the end. -/
structure AtHead (l : List UInt8) (k : Nat) (t : List UInt8) (p : Nat) (its : List It) : Prop where
  run : ∃ f b, itemsL l = headF (f + 1) ⟨t, p, b, its⟩ l k ∧ l.length < f + k + 1
  kl : k ≤ l.length
  br : k < l.length → k + 2 ≤ l.length
  tk : t.length ≤ k
  nk : its.length ≤ 2 * k
theorem piece_len (t : List UInt8) (p : Nat) : (pieceL t p).length ≤ 1 := by unfold pieceL; split <;> simp
theorem gather_len (u : Ls) (l : List UInt8) (m a : Nat) (h : m ≤ l.length) : (gatherC u l m a).t.length ≤ u.t.length + m := by
  unfold gatherC
  simp only [List.length_append, List.length_drop, List.length_take]
  omega
theorem back_len (t : List UInt8) : (backL t).length ≤ t.length := by rw [back_take, List.length_take]; omega
theorem head_start (l : List UInt8) : AtHead l (nextN l) (gatherC ⟨[], 0, false, []⟩ l (nextN l) 0).t (gatherC ⟨[], 0, false, []⟩ l (nextN l) 0).p [] where
  run := ⟨l.length, false, items_head l, by omega⟩
  kl := next_le l
  br := fun h => by have := next_brace l 0 (by simpa using h); simpa using this
  tk := by have := gather_len ⟨[], 0, false, []⟩ l (nextN l) 0 (next_le l); simpa using this
  nk := by simp
theorem head_fin {l : List UInt8} {k : Nat} {t : List UInt8} {p : Nat} {its : List It} (h : AtHead l k t p its) (hk : l.length ≤ k) : itemsL l = .ok (its ++ pieceL t p) := by
  obtain ⟨f, b, hr, _⟩ := h.run
  rw [hr, head_end hk, textI_eq]
theorem head_bad {l : List UInt8} {k : Nat} {t : List UInt8} {p : Nat} {its : List It} (h : AtHead l k t p its) (hk : k < l.length) (hi : innerN (l.drop (k + 2)) = none) : itemsL l = .error k := by
  obtain ⟨f, b, hr, _⟩ := h.run
  rw [hr, head_none hk hi]
/-- What an action leaves of the text and of the pieces. -/
abbrev bitT (t a : List UInt8) : List UInt8 := if leadB a then backL t else t
theorem head_next {l : List UInt8} {k m : Nat} {t : List UInt8} {p : Nat} {its : List It} (h : AtHead l k t p its) (hk : k < l.length) (hi : innerN (l.drop (k + 2)) = some m) (a : List UInt8) (ha : a = (l.drop (k + 2)).take m) (j : Nat) (hj : j = k + 2 + m + 2) :
    AtHead l (j + nextN (l.drop j))
      (gatherC ⟨if remB a then bitT t a else [], p, tailB a, []⟩ (l.drop j) (nextN (l.drop j)) j).t
      (gatherC ⟨if remB a then bitT t a else [], p, tailB a, []⟩ (l.drop j) (nextN (l.drop j)) j).p
      (if remB a then its else its ++ pieceL (bitT t a) p ++ [⟨2, backL (frontL (withinL a)), k⟩]) := by
  obtain ⟨f, b, hr, hf⟩ := h.run
  have hm := (inner_le _ _ hi).1
  rw [List.length_drop] at hm
  have hn := next_le (l.drop j)
  rw [List.length_drop] at hn
  have hr2 := rem_inner _ _ hi
  rw [← ha] at hr2
  rw [head_some hk hi, ← ha, ← hr2, act_eq, ← hj] at hr
  have hbl : (bitT t a).length ≤ t.length := by unfold bitT; split; exact back_len t; exact Nat.le_refl _
  have htk := h.tk
  have hnk := h.nk
  obtain ⟨f', rfl⟩ : ∃ f', f = f' + 1 := ⟨f - 1, by have := h.kl; omega⟩
  constructor
  · refine ⟨f', false, ?_, by omega⟩
    rw [hr]
    cases remB a with
    | true => rfl
    | false =>
      simp only [Bool.false_eq_true, if_false, textI_eq]
      rfl
  · omega
  · intro hlt
    have := next_brace l j (by omega)
    omega
  · refine Nat.le_trans (gather_len _ _ _ _ (by rw [List.length_drop]; omega)) ?_
    show (if remB a then bitT t a else []).length + _ ≤ _
    split
    · omega
    · simp
  · split
    · omega
    · have := piece_len (bitT t a) p
      simp only [List.length_append, List.length_singleton]
      omega
set_option maxHeartbeats 4000000 in
set_option maxRecDepth 100000 in
theorem cut_all {R B : Nat} {l : List UInt8} (hl : l.length ≤ 16384) (w : World) (h : Ct R B l 0 [] 0 (.slice none 0 0) [] w) (hM : MaxAt w) (hRM : 0 < R) :
    Calls Try.prog 20 #[.pointer (some ⟨R, 0, none⟩)] w (CutTo R B l w) := by
  have hsz : ((S l).size : Int) = (l.length : Int) := by rw [size_S]
  have hRB := h.hR
  have HM : Hid (∀ W, Kp R B w W → MaxAt W) := fun W hW => by
    obtain ⟨m, hm⟩ := hM
    exact ⟨m, ((hW.below (Nat.le_of_lt hRB)).cell (p := ⟨0, 0, none⟩) hRM).trans hm⟩
  have hsee := seeText_c hl (Nat.zero_le _) (by simp) false w h hM
  have HS := Lib.hid (head_start l)
  rw [List.drop_zero, Nat.zero_add] at hsee
  clear h hM hRM hRB
  go_enter Try.func20, Try.ntmps20
  go_wp2_with fail
  refine hsee.mono ?_
  clear hsee
  rintro e w1 ⟨rfl, h1, hb1⟩
  have H1 := Lib.hid (And.intro h1 hb1)
  clear h1 hb1
  go_wp2_with fail
  go_loopw [] (fun wr => ∃ (k : Nat) (t : List UInt8) (p : Nat) (v : Value) (its : List It), k ≤ l.length ∧ Hid (AtHead l k t p its) ∧ Hid (Ct R B l k t p v its wr) ∧ Hid (Kp R B w wr)) (fun wr => l.length - atOf R wr)
  case atStart => exact ⟨_, _, _, _, _, HS.out.kl, HS.out, H1.out.1, H1.out.2⟩
  case round =>
    clear H1 HS
    obtain ⟨k, t, p, v, its, hk, hA, hT, hB⟩ := hrel
    have hAt := Lib.hid hT.out.atOf
    obtain ⟨c0, c1, c2, c3, c4, z1, z2, z3, z4⟩ := hT.out.cells
    have i0 : (0 : Int) ≤ (k : Int) := by omega
    have i1 : (k : Int) ≤ (l.length : Int) := by omega
    have i2 : (l.length : Int) ≤ 16384 := by omega
    by_cases hlt : k < l.length
    · have i3 : (k : Int) < (l.length : Int) := by omega
      have hd : decide ((k : Int) < (l.length : Int)) = true := decide_eq_true i3
      have HK := Lib.hid (hA.out.br hlt)
      go_wp2_with fail
      go_quiet (fail)
      have H2 := Lib.hid (And.intro (hT.out.keep (Oct.below_drewN (Below.refl _ wr) nq)) (hB.out.trans (kp_of (R := R) (Oct.below_drewN (Below.refl _ wr) nq) hT.out.low)))
      clear c0 c1 c2 c3 c4 z1 z2 z3 z4
      generalize wr.drewN nq = w2 at H2 ⊢
      have hre := rest_b hk w2 H2.out.1
      go_wp2_with fail
      refine hre.mono ?_
      clear hre
      rintro e w3 ⟨rfl, hb3⟩
      have H3 := Lib.hid (And.intro (H2.out.1.keep hb3) (H2.out.2.trans (kp_of (R := R) hb3 H2.out.1.low)))
      clear hb3 H2
      obtain ⟨d, hdd⟩ : ∃ d, d = l.drop k := ⟨_, rfl⟩
      have hdl : d.length = l.length - k := by rw [hdd, List.length_drop]
      have hcut : (S d).extract 2 d.length = S (l.drop (k + 2)) := by rw [cutFrom, hdd, List.drop_drop]
      have hds : ((S d).size : Int) = (d.length : Int) := by rw [size_S]
      have hdn : (S d).size = d.length := size_S d
      have j0 : (2 : Int) ≤ (d.length : Int) := by have := HK.out; omega
      have hwi := within_c (l.drop (k + 2)) (by rw [List.length_drop]; omega) w3 (HM.out w3 H3.out.2)
      rw [← hcut] at hwi
      rw [← hdd]
      have HDl := Lib.hid hdl
      clear hdd hcut hdl
      generalize S d = D at *
      go_wp2_with fail
      refine hwi.mono ?_
      clear hwi
      rintro e w4 ⟨(⟨m, hm, rfl⟩ | ⟨hn, rfl⟩), rfl⟩
      · obtain ⟨a, ha⟩ : ∃ a, a = (l.drop (k + 2)).take m := ⟨_, rfl⟩
        have hml := (inner_le _ _ hm).1
        rw [List.length_drop] at hml
        have hal : a.length = m := by rw [ha, List.length_take, List.length_drop]; omega
        have HN := Lib.hid (fun j hj => head_next hA.out hlt hm a ha j hj)
        rw [← ha]
        have hasz : ((S a).size : Int) = (a.length : Int) := by rw [size_S]
        have ha1 : (a.length : Int) ≤ 16384 := by omega
        have hle := lead_c a (by omega) w3
        have hrm := fun W => remark_c a (by omega) W
        have hta := fun W => tail_c a (by omega) W
        have htx := fun W => text_c a (by omega) W
        obtain ⟨j, hj⟩ : ∃ j : Nat, j = k + 2 + m + 2 := ⟨_, rfl⟩
        have hjl : j ≤ l.length := by omega
        have hji : (k : Int) + (2 + (a.length : Int) + 2) = (j : Int) := by omega
        have hjk : k < j := by omega
        replace HN := Lib.hid (HN.out j hj)
        have htk := hA.out.tk
        have hnk := hA.out.nk
        clear hm ha hml hal hj HDl
        cases hlb : leadB a with
        | true =>
          rw [hlb] at hle
          have hbt : bitT t a = backL t := if_pos hlb
          rw [hbt] at HN
          clear hlb hbt
          obtain ⟨c0, c1, c2, c3, c4, z1, z2, z3, z4⟩ := H3.out.1.cells
          obtain ⟨n, hn⟩ : ∃ n : Nat, n = t.length - skipN t.reverse := ⟨_, rfl⟩
          have hsr := skip_rev_le t
          have hni : (t.length : Int) - ((skipN t.reverse : Nat) : Int) = (n : Int) := by omega
          have hn0 : (0 : Int) ≤ (n : Int) := by omega
          have hn1 : (n : Int) ≤ (t.length : Int) := by omega
          have hts : ((S t).size : Int) = (t.length : Int) := by rw [size_S]
          have htl : (t.length : Int) ≤ 16384 := by omega
          have hcut2 : (S t).extract 0 n = S (backL t) := by rw [cutTo, back_take, hn]
          have hbb := fun W => behind_c t (by omega) W
          have H5 := Lib.hid (And.intro ((H3.out.1.text (backL t)).keep (Below.refl _ _).drew) (kp_set (i := 2) (.string (S (backL t))) H3.out.2).drew)
          have htk2 : (backL t).length ≤ l.length := Nat.le_trans (back_len t) (by omega)
          have hq1 : ((skipN t.reverse : Nat) : Int) ≤ (t.length : Int) := by omega
          have hq0 : (0 : Int) ≤ ((skipN t.reverse : Nat) : Int) := by omega
          generalize skipN t.reverse = q at hni hbb hq0 hq1
          have hnw : IntKind.i64.wrap (n : Int) = (n : Int) := by rw [IntKind.wrap_i64]; omega
          clear hn hsr htk
          go_wp2_with (go_at_call 30; refine hle.mono ?_; rintro e w5 ⟨rfl, rfl⟩)
          go_still_tail 17, (by kernel_rfl)
          still_call ((hbb _).mono fun _ _ h => ⟨h.1, h.2.symm⟩)
          repeat still_step
          refine wpStill_nil ?_
          change wpList _ _ _ _ _ w3.drew
          go_wp2_with fail
          all_goals
            clear c0 c1 c2 c3 c4 z1 z2 z3 z4 hni hn0 hn1 hts htl hcut2 hbb hnw hq0 hq1
            generalize World.drew _ = w5 at H5 ⊢
            generalize backL t = t5 at *
            obtain ⟨c0, c1, c2, c3, c4, z1, z2, z3, z4⟩ := H5.out.1.cells
            have hpt := putText_c (Nat.le_trans htk2 hl) (by omega) w5 H5.out.1
            obtain ⟨rb, hrb⟩ : ∃ rb, rb = remB a := ⟨_, rfl⟩
            rw [← hrb] at hrm HN
            clear hrb
            cases rb with
            | true =>
              have HN2 : Hid (AtHead l (j + nextN (l.drop j)) (gatherC ⟨t5, p, tailB a, its⟩ (l.drop j) (nextN (l.drop j)) j).t (gatherC ⟨t5, p, tailB a, its⟩ (l.drop j) (nextN (l.drop j)) j).p its) := HN.out
              have H8 := Lib.hid (And.intro (H5.out.1.at_ j) (kp_set (i := 1) (.int .i64 (j : Int)) H5.out.2))
              clear HN hpt
              go_wp2_with (go_at_call 32; refine (hrm _).mono ?_; rintro e w6 ⟨rfl, rfl⟩)
              generalize World.setCell _ ⟨R, 1, none⟩ (.int .i64 (j : Int)) = w8 at H8 ⊢
              go_wp2_with (go_at_call 35; refine (hta _).mono ?_; rintro e w9 ⟨rfl, rfl⟩)
              have hse := seeText_c hl hjl (Nat.le_trans htk2 hl) (tailB a) _ H8.out.1 (HM.out _ H8.out.2)
              refine hse.mono ?_
              clear hse
              rintro e w9 ⟨rfl, h9, hb9⟩
              have H9 := Lib.hid (And.intro h9 (H8.out.2.trans hb9))
              clear h9 hb9
              go_wp2_with fail
              go_roundw
              case rel => exact ⟨_, _, _, _, _, HN2.out.kl, HN2.out, H9.out.1, H9.out.2⟩
              case measure =>
                have e1 := hAt.out
                have e2 := H9.out.1.atOf
                show l.length - atOf R _ < l.length - atOf R _
                rw [e1, e2]
                omega
            | false =>
              have HN2 : Hid (AtHead l (j + nextN (l.drop j)) (gatherC ⟨[], p, tailB a, its⟩ (l.drop j) (nextN (l.drop j)) j).t (gatherC ⟨[], p, tailB a, its⟩ (l.drop j) (nextN (l.drop j)) j).p (its ++ pieceL t5 p ++ [⟨2, backL (frontL (withinL a)), k⟩])) := HN.out
              clear HN
              go_wp2_with (go_at_call 32; refine (hrm _).mono ?_; rintro e w6 ⟨rfl, rfl⟩)
              refine hpt.mono ?_
              clear hpt
              rintro e w6 ⟨rfl, v6, h6, hb6⟩
              have hn6 : (its ++ pieceL t5 p).length ≤ 65000 := by have := piece_len t5 p; rw [List.length_append]; omega
              obtain ⟨vp, vc, rfl⟩ := own_shape h6.out
              have H6 := Lib.hid (And.intro h6 (H5.out.2.trans hb6))
              clear h6 hb6 c0 c1 c2 c3 c4 z1 z2 z3 z4
              generalize its ++ pieceL t5 p = its6 at H6 HN2 hn6 ⊢
              generalize backL (frontL (withinL a)) = y at htx HN2
              obtain ⟨c0, c1, c2, c3, c4, z1, z2, z3, z4⟩ := H6.out.1.cells
              obtain ⟨i9, hi, hz0, hz1, hz2⟩ := info_parts info_item
              have HOne := Lib.hid (push_item ⟨2, y, k⟩)
              go_wp2_with fail
              go_region_law (first
                | (go_simp; go_at_call 34; refine (htx _).mono ?_; rintro e w7 ⟨rfl, hb7⟩; have H7 := Lib.hid (And.intro (H6.out.1.keep (Below.trans (Below.refl _ w6).drew hb7)) (H6.out.2.trans (kp_of (R := R) (Below.trans (Below.refl _ w6).drew hb7) H6.out.1.low))); clear hb7; have d1 := H7.out.1.cells.c1; have d4 := H7.out.1.cells.c4; have HA := Lib.hid (H7.out.1.keep ((Below.refl _ w7).alloc (Nat.le_refl _) (.cells (itCs ⟨2, y, k⟩).toArray 34))).cells; have x1 : (w7.alloc (.cells #[.int .i64 2, .string (S y), .int .i64 (k : Int)] 34)).cell? ⟨R, 1, none⟩ = some (.int .i64 (k : Int)) := HA.out.c1; have x4 : (w7.alloc (.cells #[.int .i64 2, .string (S y), .int .i64 (k : Int)] 34)).cell? ⟨R, 4, none⟩ = some (.slice vp its6.length vc) := HA.out.c4; have hR1 : B ≤ w7.heap.size := H7.out.1.low)
                | (refine step_append_lies _ rfl (.tmp 50) (.tmp 58) 29 rfl B 34 i9 _ 3 32 Try.underlying29 hi hz0 hz1 hz2 rfl (by omega) (.slice vp its6.length vc) its6.length (its6.flatMap itCs) (by simp [Act.eval]) (H7.out.1.out.alloc _) ⟨w7.heap.size, 0, none⟩ 1 1 (itCs ⟨2, y, k⟩) (by simp [Act.eval]) rfl (push_cells (cs := itCs ⟨2, y, k⟩)) HOne.out (by omega) (by unfold maxLen; omega) (by omega) (by simp; omega) (w7.heap.size + 1) (by simp) ?_; intro g cp wB hownB hgB hatB hltB; obtain ⟨p1, p2, p3, p4⟩ := H7.out.1.push ⟨2, y, k⟩ _ hownB hgB; have HP := Lib.hid (And.intro p1 (H7.out.2.trans p2)); clear p1 p2 hownB hgB hatB hltB))
              all_goals
                clear c0 c1 c2 c3 c4 z1 z2 z3 z4 d1 d4 x1 x4 p3 p4
                generalize World.setCell wB _ _ = w7' at HP ⊢
                obtain ⟨c0, c1, c2, c3, c4, z1, z2, z3, z4⟩ := HP.out.1.cells
                have H8 := Lib.hid (And.intro (HP.out.1.at_ j) (kp_set (i := 1) (.int .i64 (j : Int)) HP.out.2))
                go_wp2_with fail
                generalize World.setCell _ ⟨R, 1, none⟩ (.int .i64 (j : Int)) = w8 at H8 ⊢
                go_wp2_with (go_at_call 35; refine (hta _).mono ?_; rintro e w9 ⟨rfl, rfl⟩)
                have hse := seeText_c hl hjl (by simp) (tailB a) _ H8.out.1 (HM.out _ H8.out.2)
                refine hse.mono ?_
                clear hse
                rintro e w9 ⟨rfl, h9, hb9⟩
                have H9 := Lib.hid (And.intro h9 (H8.out.2.trans hb9))
                clear h9 hb9
                go_wp2_with fail
                go_roundw
                case rel => exact ⟨_, _, _, _, _, HN2.out.kl, HN2.out, H9.out.1, H9.out.2⟩
                case measure =>
                  have e1 := hAt.out
                  have e2 := H9.out.1.atOf
                  show l.length - atOf R _ < l.length - atOf R _
                  rw [e1, e2]
                  omega
        | false =>
          rw [hlb] at hle
          have hbt : bitT t a = t := if_neg (by rw [hlb]; simp)
          rw [hbt] at HN
          clear hlb hbt
          have H5 := H3
          have htk2 : t.length ≤ l.length := by omega
          clear htk
          go_wp2_with (go_at_call 30; refine hle.mono ?_; rintro e w5 ⟨rfl, rfl⟩)
          all_goals
            obtain ⟨c0, c1, c2, c3, c4, z1, z2, z3, z4⟩ := H5.out.1.cells
            have hpt := putText_c (Nat.le_trans htk2 hl) (by omega) w3 H5.out.1
            obtain ⟨rb, hrb⟩ : ∃ rb, rb = remB a := ⟨_, rfl⟩
            rw [← hrb] at hrm HN
            clear hrb
            cases rb with
            | true =>
              have HN2 : Hid (AtHead l (j + nextN (l.drop j)) (gatherC ⟨t, p, tailB a, its⟩ (l.drop j) (nextN (l.drop j)) j).t (gatherC ⟨t, p, tailB a, its⟩ (l.drop j) (nextN (l.drop j)) j).p its) := HN.out
              have H8 := Lib.hid (And.intro (H5.out.1.at_ j) (kp_set (i := 1) (.int .i64 (j : Int)) H5.out.2))
              clear HN hpt
              go_wp2_with (go_at_call 32; refine (hrm _).mono ?_; rintro e w6 ⟨rfl, rfl⟩)
              generalize World.setCell _ ⟨R, 1, none⟩ (.int .i64 (j : Int)) = w8 at H8 ⊢
              go_wp2_with (go_at_call 35; refine (hta _).mono ?_; rintro e w9 ⟨rfl, rfl⟩)
              have hse := seeText_c hl hjl (Nat.le_trans htk2 hl) (tailB a) _ H8.out.1 (HM.out _ H8.out.2)
              refine hse.mono ?_
              clear hse
              rintro e w9 ⟨rfl, h9, hb9⟩
              have H9 := Lib.hid (And.intro h9 (H8.out.2.trans hb9))
              clear h9 hb9
              go_wp2_with fail
              go_roundw
              case rel => exact ⟨_, _, _, _, _, HN2.out.kl, HN2.out, H9.out.1, H9.out.2⟩
              case measure =>
                have e1 := hAt.out
                have e2 := H9.out.1.atOf
                show l.length - atOf R _ < l.length - atOf R _
                rw [e1, e2]
                omega
            | false =>
              have HN2 : Hid (AtHead l (j + nextN (l.drop j)) (gatherC ⟨[], p, tailB a, its⟩ (l.drop j) (nextN (l.drop j)) j).t (gatherC ⟨[], p, tailB a, its⟩ (l.drop j) (nextN (l.drop j)) j).p (its ++ pieceL t p ++ [⟨2, backL (frontL (withinL a)), k⟩])) := HN.out
              clear HN
              go_wp2_with (go_at_call 32; refine (hrm _).mono ?_; rintro e w6 ⟨rfl, rfl⟩)
              refine hpt.mono ?_
              clear hpt
              rintro e w6 ⟨rfl, v6, h6, hb6⟩
              have hn6 : (its ++ pieceL t p).length ≤ 65000 := by have := piece_len t p; rw [List.length_append]; omega
              obtain ⟨vp, vc, rfl⟩ := own_shape h6.out
              have H6 := Lib.hid (And.intro h6 (H5.out.2.trans hb6))
              clear h6 hb6 c0 c1 c2 c3 c4 z1 z2 z3 z4
              generalize its ++ pieceL t p = its6 at H6 HN2 hn6 ⊢
              generalize backL (frontL (withinL a)) = y at htx HN2
              obtain ⟨c0, c1, c2, c3, c4, z1, z2, z3, z4⟩ := H6.out.1.cells
              obtain ⟨i9, hi, hz0, hz1, hz2⟩ := info_parts info_item
              have HOne := Lib.hid (push_item ⟨2, y, k⟩)
              go_wp2_with fail
              go_region_law (first
                | (go_simp; go_at_call 34; refine (htx _).mono ?_; rintro e w7 ⟨rfl, hb7⟩; have H7 := Lib.hid (And.intro (H6.out.1.keep (Below.trans (Below.refl _ w6).drew hb7)) (H6.out.2.trans (kp_of (R := R) (Below.trans (Below.refl _ w6).drew hb7) H6.out.1.low))); clear hb7; have d1 := H7.out.1.cells.c1; have d4 := H7.out.1.cells.c4; have HA := Lib.hid (H7.out.1.keep ((Below.refl _ w7).alloc (Nat.le_refl _) (.cells (itCs ⟨2, y, k⟩).toArray 34))).cells; have x1 : (w7.alloc (.cells #[.int .i64 2, .string (S y), .int .i64 (k : Int)] 34)).cell? ⟨R, 1, none⟩ = some (.int .i64 (k : Int)) := HA.out.c1; have x4 : (w7.alloc (.cells #[.int .i64 2, .string (S y), .int .i64 (k : Int)] 34)).cell? ⟨R, 4, none⟩ = some (.slice vp its6.length vc) := HA.out.c4; have hR1 : B ≤ w7.heap.size := H7.out.1.low)
                | (refine step_append_lies _ rfl (.tmp 50) (.tmp 58) 29 rfl B 34 i9 _ 3 32 Try.underlying29 hi hz0 hz1 hz2 rfl (by omega) (.slice vp its6.length vc) its6.length (its6.flatMap itCs) (by simp [Act.eval]) (H7.out.1.out.alloc _) ⟨w7.heap.size, 0, none⟩ 1 1 (itCs ⟨2, y, k⟩) (by simp [Act.eval]) rfl (push_cells (cs := itCs ⟨2, y, k⟩)) HOne.out (by omega) (by unfold maxLen; omega) (by omega) (by simp; omega) (w7.heap.size + 1) (by simp) ?_; intro g cp wB hownB hgB hatB hltB; obtain ⟨p1, p2, p3, p4⟩ := H7.out.1.push ⟨2, y, k⟩ _ hownB hgB; have HP := Lib.hid (And.intro p1 (H7.out.2.trans p2)); clear p1 p2 hownB hgB hatB hltB))
              all_goals
                clear c0 c1 c2 c3 c4 z1 z2 z3 z4 d1 d4 x1 x4 p3 p4
                generalize World.setCell wB _ _ = w7' at HP ⊢
                obtain ⟨c0, c1, c2, c3, c4, z1, z2, z3, z4⟩ := HP.out.1.cells
                have H8 := Lib.hid (And.intro (HP.out.1.at_ j) (kp_set (i := 1) (.int .i64 (j : Int)) HP.out.2))
                go_wp2_with fail
                generalize World.setCell _ ⟨R, 1, none⟩ (.int .i64 (j : Int)) = w8 at H8 ⊢
                go_wp2_with (go_at_call 35; refine (hta _).mono ?_; rintro e w9 ⟨rfl, rfl⟩)
                have hse := seeText_c hl hjl (by simp) (tailB a) _ H8.out.1 (HM.out _ H8.out.2)
                refine hse.mono ?_
                clear hse
                rintro e w9 ⟨rfl, h9, hb9⟩
                have H9 := Lib.hid (And.intro h9 (H8.out.2.trans hb9))
                clear h9 hb9
                go_wp2_with fail
                go_roundw
                case rel => exact ⟨_, _, _, _, _, HN2.out.kl, HN2.out, H9.out.1, H9.out.2⟩
                case measure =>
                  have e1 := hAt.out
                  have e2 := H9.out.1.atOf
                  show l.length - atOf R _ < l.length - atOf R _
                  rw [e1, e2]
                  omega
      · exact ⟨rfl, .fault k (head_bad hA.out hlt hn) rfl H3.out.1.cells.c1 H3.out.2⟩
    · have hd : decide ((k : Int) < (l.length : Int)) = false := decide_eq_false (by omega)
      have hnl : ¬ (k : Int) < (l.length : Int) := by omega
      have HE := Lib.hid (head_fin hA.out (by omega))
      have htk := hA.out.tk
      have hnk := hA.out.nk
      go_wp2_with fail
      go_quiet (fail)
      have H2 := Lib.hid (And.intro (hT.out.keep (Oct.below_drewN (Below.refl _ wr) nq)) (hB.out.trans (kp_of (R := R) (Oct.below_drewN (Below.refl _ wr) nq) hT.out.low)))
      clear c0 c1 c2 c3 c4 z1 z2 z3 z4
      generalize wr.drewN nq = w2 at H2 ⊢
      have hpt := putText_c (R := R) (l := l) (k := k) (t := t) (p := p) (v := v) (its := its) (by omega) (by omega) w2 H2.out.1
      go_wp2_with fail
      refine hpt.mono ?_
      clear hpt
      rintro e w3 ⟨rfl, v3, h3, hb3⟩
      have H3 := Lib.hid (And.intro h3 (H2.out.2.trans hb3))
      clear h3 hb3
      have c4 := H3.out.1.cells.c4
      go_wp2_with fail
      go_ret
      exact .done _ _ HE.out rfl H3.out.1.out H3.out.2
end Go.Proofs.Ytbchjmldjdhjiaa.Lxw
