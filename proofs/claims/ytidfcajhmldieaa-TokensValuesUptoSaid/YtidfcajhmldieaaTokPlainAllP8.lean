/-
  Part 8: TkcTag4, TkcTag5, TkcTag6, TkcTag7, TkcTag8, TkcTag, TkcRaw.
-/
import Derived.Test.YtidfcajhmldieaaTokPlainAllP7
/-
  The function tag from its label 4 on.
-/
namespace Go.Proofs.Ytidfcajhmldieaa.Tkc
open Go.RowKit Go.Proofs.Ytidfcajhmldieaa.Oct Go.Proofs.Ytidfcajhmldieaa.Utf Go.Proofs.Ytidfcajhmldieaa.Crf Go.Proofs.Ytidfcajhmldieaa.Tab Go.Proofs.Ytidfcajhmldieaa.Tok

set_option maxRecDepth 100000 in
set_option maxHeartbeats 4000000 in
theorem pass4 (R : Nat) (l : List UInt8) (hl : l.length ≤ 65536) (vo : Value) (w0 : World) (k0 : Nat) (r0 : Rd) (kd : Int) (Q : Exit → Act → World → Prop) (hQ : Ends R l vo w0 k0 r0 kd Q) (n : Nat) (a : Act) (w : World)
    (hJ : Jt R l vo w0 k0 r0 kd 4 a w) (hm : mt R l 4 a w = n) (ih : Goes Try.prog (bodyOf Try.f47.body) (Less (Jt R l vo w0 k0 r0 kd) (mt R l) n) (Less (Jt R l vo w0 k0 r0 kd) (mt R l) n) Q) :
    ∃ X, findLabel (bodyOf Try.f47.body) 4 = some (.seq .skip X) ∧ X.wp Try.prog (jumps (Less (Jt R l vo w0 k0 r0 kd) (mt R l) n) Q) a w := by
  have _ : True := (fun _ _ => trivial) hQ hl
  have _ : True := (fun _ => trivial) ih
  obtain ⟨hF, k, nm, va, al, f, qs, an, q, hk, hf, hal, hkk, hS⟩ := hJ
  have hn : n = 3 * (l.length - k) + rankL 4 := by
    obtain ⟨hT, _⟩ := stBox hS
    rw [← hm]
    unfold mt
    rw [hT.atOf]
  clear hm
  refine Fr.elim (P := fun a => ∃ X, findLabel (bodyOf Try.f47.body) 4 = some (.seq .skip X) ∧ X.wp Try.prog (jumps (Less (Jt R l vo w0 k0 r0 kd) (mt R l) n) Q) a w) hF ?_
  clear hF a
  intro u3 u9 u10 u11 u12 u13 u14 u15 u16 u17 u18 u19 u20 u21 u22 u23 u24 u25 u26 u27 u28 u29 u30 u31 u32 u33 u34 u35 u36 u37 u38 u39 u40 u41 u42 u43 u44 u45 u46 u47 u48 u49 u50 u51 u52 u53 u54 u55 u56 u57 u58 u59 u60 u61 u62 u63 u64 u65 u66 u67 u68 u69 u70 u71 u72 u73 u74 u75 u76 u77 u78 u79 u80 u81 u82 u83 u84 u85 u86 u87 u88 u89 u90 u91 u92 u93 u94 u95 u96 u97 u98 u99 u100 u101 u102 u103 u104 u105 u106 u107 u108 u109 u110 u111
  refine ⟨_, rfl, ?_⟩
  have rk0 : rankL 0 = 2 := rfl
  have rk1 : rankL 1 = 0 := rfl
  have rk2 : rankL 2 = 1 := rfl
  have rk3 : rankL 3 = 1 := rfl
  have rk4 : rankL 4 = 2 := rfl
  have rk5 : rankL 5 = 1 := rfl
  have rk6 : rankL 6 = 2 := rfl
  have rk7 : rankL 7 = 2 := rfl
  have rk8 : rankL 8 = 1 := rfl
  have mk0 : moreL 0 = 0 := rfl
  have mk1 : moreL 1 = 0 := rfl
  have mk2 : moreL 2 = 0 := rfl
  have mk3 : moreL 3 = 0 := rfl
  have mk4 : moreL 4 = 1 := rfl
  have mk5 : moreL 5 = 1 := rfl
  have mk6 : moreL 6 = 1 := rfl
  have mk7 : moreL 7 = 1 := rfl
  have mk8 : moreL 8 = 1 := rfl
  obtain ⟨hT, hM⟩ := hS
  have c1 := hT.c1
  have HT0 := Lib.hid hT
  cases hb : passB inAt l k with
  | true =>
    obtain ⟨hk2, hc⟩ := pass_true hb
    have p1 := fun W (h : Bx R l k vo W) => pass_yes h hl hk 65 #[] inAt enter_at (asks_at W) hb
    go_wp2_with (first
      | (have _ := HT0; go_at_call 60; refine (p1 _ HT0.out.box).mono ?_; rintro e w1 ⟨rfl, hbx, hkp⟩; have T := HT0.out.keep hkp hbx; have d1 := T.c1; have HT1 := Lib.hid T; clear hbx hkp T))
    exact wp_goto (show Less _ _ n 4 _ _ from less_mk (b := 4) ⟨rfl, rfl, rfl, rfl, rfl, rfl, rfl, rfl, rfl, rfl⟩ ⟨k + 1, nm, va, al, f, qs, an, q, by omega, by omega, by omega, by omega, HT1.out, (by have h := attr_pass hk2 hc hM; rw [cut_succ hk2 hf, List.map_append]; exact h)⟩ HT1.out.box (by omega))
  | false =>
    have p1 := fun W (h : Bx R l k vo W) => pass_no h hl hk 65 #[] inAt enter_at (asks_at W) hb
    have hsi := fun w1 (h : Bx R l k vo w1) => since_c R l k f vo w1 h hf hk
    have hlo := lower_c (cut l f k) (Nat.le_trans (cut_len_le l f k) hl)
    obtain ⟨i0, hi, hz0, hz1, hz2⟩ := info_parts info_att
    have HCell : Hid (∀ (w : World) (X : ByteArray), X = S ((cut l f k).map low) → ∀ j u, (atCs ⟨(cut l f k).map low, []⟩)[j]? = some u → (w.alloc (.cells #[.string X, .string ⟨#[]⟩] 34)).cell? ((⟨w.heap.size, 0, none⟩ : Addr).add j) = some u) := fun w X hX j u hj => by
      subst hX
      exact push_cells (cs := atCs ⟨(cut l f k).map low, []⟩) j u hj
    have HOne := Lib.hid (push_att (a := ⟨(cut l f k).map low, []⟩))
    obtain ⟨X, hX⟩ : ∃ X, X = S ((cut l f k).map low) := ⟨_, rfl⟩
    have HX := Lib.hid hX
    rw [← hX] at hlo
    clear hX
    go_wp2_with (first
      | (have _ := HT0; go_at_call 60; refine (p1 _ HT0.out.box).mono ?_; rintro e w1 ⟨rfl, hbx, hkp⟩; have T := HT0.out.keep hkp hbx; have d1 := T.c1; have d5 := T.c5; have d6 := T.cv; have HT1 := Lib.hid T; clear hbx hkp T))
    have hsz5 : w0.heap.size + 4 < w1.heap.size := HT1.out.size
    have T0 := HT1.out.grow (Below.refl _ w1).drew
    have x1 := T0.c1
    have x5 := T0.c5
    have x6 := T0.cv
    have HT0 := Lib.hid T0
    clear c1 T0
    refine wp_region_noPanic ?_
    go_region_law (first
      | (go_simp; go_at_call 25; refine (hsi _ HT0.out.box).mono ?_; rintro e w2 ⟨rfl, m2, hw2⟩; have T2 := HT0.out.grow (grown_of hw2); have e6 := T2.cv; have HT2 := Lib.hid T2; clear hw2 T2)
      | (go_simp; go_at_call 62; refine (hlo _).mono ?_; rintro e w3 ⟨rfl, h3⟩; have T3 := HT2.out.grow h3; have f6 := T3.cv; have g6 := (T3.grow ((Below.refl _ w3).alloc (Nat.le_refl _) (.cells #[.string X, .string ⟨#[]⟩] 34))).cv; have hs3 := T3.size; have HT3 := Lib.hid T3; clear h3 T3)
      | (refine step_append_lies _ rfl (.tmp 58) (.tmp 64) 29 rfl (w0.heap.size + 5) 34 i0 _ 2 32 Try.underlying29 hi hz0 hz1 hz2 rfl (by omega) va al.length (al.flatMap atCs) (by simp [Act.eval]) (HT3.out.att.alloc _) ⟨w3.heap.size, 0, none⟩ 1 1 (atCs ⟨(cut l f k).map low, []⟩) (by simp [Act.eval]) rfl (HCell.out w3 X HX.out) HOne.out (by omega) (by unfold maxLen; omega) (by omega) (by simp; omega) (w3.heap.size + 1) (by simp) ?_; intro g cp wB hownB hgB hatB hltB; obtain ⟨p1, p2, p3⟩ := HT3.out.push ⟨(cut l f k).map low, []⟩ _ hownB hgB; have HP := Lib.hid p1; clear p1 hownB hgB hatB hltB))
    all_goals refine NoPanic.normal ?_
    all_goals rename_i K hK
    all_goals first
      | exact hK _ _ (wp_seq (wp_label (ih 5 _ _ _ (less_mk (b := 5) ⟨rfl, rfl, rfl, rfl, rfl, rfl, rfl, rfl, rfl, rfl⟩ ⟨k, nm, _, al, f, qs, (cut l f k).map low, q, by omega, by omega, by omega, by omega, HP.out, attr_stop (pass_false hb) hM⟩ HP.out.box (by omega)) rfl)))
      | exact hK _ _ (wp_seq (wp_label (ih 5 _ _ _ (less_mk (b := 5) ⟨rfl, rfl, rfl, rfl, rfl, rfl, rfl, rfl, rfl, rfl⟩ ⟨k, nm, _, al, f, qs, (cut l f k).map low, q, by omega, by omega, by omega, by omega, HP.out.grow (Below.refl _ _).drew, attr_stop (pass_false hb) hM⟩ (HP.out.grow (Below.refl _ _).drew).box (by omega)) rfl)))
end Go.Proofs.Ytidfcajhmldieaa.Tkc

/-
  The function tag from its label 5 on.
-/
namespace Go.Proofs.Ytidfcajhmldieaa.Tkc
open Go.RowKit Go.Proofs.Ytidfcajhmldieaa.Oct Go.Proofs.Ytidfcajhmldieaa.Utf Go.Proofs.Ytidfcajhmldieaa.Crf Go.Proofs.Ytidfcajhmldieaa.Tab Go.Proofs.Ytidfcajhmldieaa.Tok

set_option maxRecDepth 100000 in
set_option maxHeartbeats 4000000 in
theorem pass5 (R : Nat) (l : List UInt8) (hl : l.length ≤ 65536) (vo : Value) (w0 : World) (k0 : Nat) (r0 : Rd) (kd : Int) (Q : Exit → Act → World → Prop) (hQ : Ends R l vo w0 k0 r0 kd Q) (n : Nat) (a : Act) (w : World)
    (hJ : Jt R l vo w0 k0 r0 kd 5 a w) (hm : mt R l 5 a w = n) (ih : Goes Try.prog (bodyOf Try.f47.body) (Less (Jt R l vo w0 k0 r0 kd) (mt R l) n) (Less (Jt R l vo w0 k0 r0 kd) (mt R l) n) Q) :
    ∃ X, findLabel (bodyOf Try.f47.body) 5 = some (.seq .skip X) ∧ X.wp Try.prog (jumps (Less (Jt R l vo w0 k0 r0 kd) (mt R l) n) Q) a w := by
  have _ : True := (fun _ _ => trivial) hQ hl
  have _ : True := (fun _ => trivial) ih
  obtain ⟨hF, k, nm, va, al, f, qs, an, q, hk, hf, hal, hkk, hS⟩ := hJ
  have hn : n = 3 * (l.length - k) + rankL 5 := by
    obtain ⟨hT, _⟩ := stBox hS
    rw [← hm]
    unfold mt
    rw [hT.atOf]
  clear hm
  refine Fr.elim (P := fun a => ∃ X, findLabel (bodyOf Try.f47.body) 5 = some (.seq .skip X) ∧ X.wp Try.prog (jumps (Less (Jt R l vo w0 k0 r0 kd) (mt R l) n) Q) a w) hF ?_
  clear hF a
  intro u3 u9 u10 u11 u12 u13 u14 u15 u16 u17 u18 u19 u20 u21 u22 u23 u24 u25 u26 u27 u28 u29 u30 u31 u32 u33 u34 u35 u36 u37 u38 u39 u40 u41 u42 u43 u44 u45 u46 u47 u48 u49 u50 u51 u52 u53 u54 u55 u56 u57 u58 u59 u60 u61 u62 u63 u64 u65 u66 u67 u68 u69 u70 u71 u72 u73 u74 u75 u76 u77 u78 u79 u80 u81 u82 u83 u84 u85 u86 u87 u88 u89 u90 u91 u92 u93 u94 u95 u96 u97 u98 u99 u100 u101 u102 u103 u104 u105 u106 u107 u108 u109 u110 u111
  refine ⟨_, rfl, ?_⟩
  have rk0 : rankL 0 = 2 := rfl
  have rk1 : rankL 1 = 0 := rfl
  have rk2 : rankL 2 = 1 := rfl
  have rk3 : rankL 3 = 1 := rfl
  have rk4 : rankL 4 = 2 := rfl
  have rk5 : rankL 5 = 1 := rfl
  have rk6 : rankL 6 = 2 := rfl
  have rk7 : rankL 7 = 2 := rfl
  have rk8 : rankL 8 = 1 := rfl
  have mk0 : moreL 0 = 0 := rfl
  have mk1 : moreL 1 = 0 := rfl
  have mk2 : moreL 2 = 0 := rfl
  have mk3 : moreL 3 = 0 := rfl
  have mk4 : moreL 4 = 1 := rfl
  have mk5 : moreL 5 = 1 := rfl
  have mk6 : moreL 6 = 1 := rfl
  have mk7 : moreL 7 = 1 := rfl
  have mk8 : moreL 8 = 1 := rfl
  obtain ⟨hT, hM⟩ := hS
  have c1 := hT.c1
  have HT0 := Lib.hid hT
  cases hb1 : passB blB l k with
  | true =>
    obtain ⟨hk2, hc⟩ := pass_true hb1
    have p1 := fun W (h : Bx R l k vo W) => pass_yes h hl hk 63 #[] blB enter_blank (asks_blank W) hb1
    go_wp2_with (first
      | (have _ := HT0; go_at_call 60; refine (p1 _ HT0.out.box).mono ?_; rintro e w1 ⟨rfl, hbx, hkp⟩; have T := HT0.out.keep hkp hbx; have d1 := T.c1; have HT1 := Lib.hid T; clear hbx hkp T))
    exact wp_goto (show Less _ _ n 5 _ _ from less_mk (b := 5) ⟨rfl, rfl, rfl, rfl, rfl, rfl, rfl, rfl, rfl, rfl⟩ ⟨k + 1, nm, va, al, f, qs, an, q, by omega, by omega, by omega, by omega, HT1.out, after_blank hk2 hc hM⟩ HT1.out.box (by omega))
  | false =>
    have p1 := fun W (h : Bx R l k vo W) => pass_no h hl hk 63 #[] blB enter_blank (asks_blank W) hb1
    cases hb2 : passB (· == 61) l k with
    | true =>
      obtain ⟨hk2, hc⟩ := pass_true hb2
      have p2 := fun W (h : Bx R l k vo W) => take_yes h hl hk 61 hb2
      go_wp2_with (first
        | (have _ := HT1; go_at_call 64; refine (p2 _ HT1.out.box).mono ?_; rintro e w2 ⟨rfl, hbx, hkp⟩; have T := HT1.out.keep hkp hbx; have d2 := T.c1; have HT2 := Lib.hid T; clear hbx hkp T)
        | (have _ := HT0; go_at_call 60; refine (p1 _ HT0.out.box).mono ?_; rintro e w1 ⟨rfl, hbx, hkp⟩; have T := HT0.out.keep hkp hbx; have d1 := T.c1; have HT1 := Lib.hid T; clear hbx hkp T))
      rename_i K hK
      exact wp_label (hK _ _ (ih 6 _ _ _ (less_mk (b := 6) ⟨rfl, rfl, rfl, rfl, rfl, rfl, rfl, rfl, rfl, rfl⟩ ⟨k + 1, nm, va, al, f, qs, an, q, by omega, by omega, by omega, by omega, HT2.out, after_eq hk2 (pass_false hb1 hk2) (by simpa using hc) hM⟩ HT2.out.box (by omega)) rfl))
    | false =>
      have p2 := fun W (h : Bx R l k vo W) => take_no h hl hk 61 hb2
      go_wp2_with (first
        | (have _ := HT1; go_at_call 64; refine (p2 _ HT1.out.box).mono ?_; rintro e w2 ⟨rfl, hbx, hkp⟩; have T := HT1.out.keep hkp hbx; have d2 := T.c1; have HT2 := Lib.hid T; clear hbx hkp T)
        | (have _ := HT0; go_at_call 60; refine (p1 _ HT0.out.box).mono ?_; rintro e w1 ⟨rfl, hbx, hkp⟩; have T := HT0.out.keep hkp hbx; have d1 := T.c1; have HT1 := Lib.hid T; clear hbx hkp T))
      exact wp_goto (show Less _ _ n 1 _ _ from less_mk (b := 1) ⟨rfl, rfl, rfl, rfl, rfl, rfl, rfl, rfl, rfl, rfl⟩ ⟨k, nm, va, al ++ [⟨an, []⟩], f, qs, an, q, by omega, by omega, (by rw [List.length_append, List.length_singleton]; omega), by omega, HT2.out, after_else (fun h => ⟨pass_false hb1 h, by simpa using pass_false hb2 h⟩) hM⟩ HT2.out.box (by omega))
end Go.Proofs.Ytidfcajhmldieaa.Tkc

/-
  The function tag from its label 6 on.
-/
namespace Go.Proofs.Ytidfcajhmldieaa.Tkc
open Go.RowKit Go.Proofs.Ytidfcajhmldieaa.Oct Go.Proofs.Ytidfcajhmldieaa.Utf Go.Proofs.Ytidfcajhmldieaa.Crf Go.Proofs.Ytidfcajhmldieaa.Tab Go.Proofs.Ytidfcajhmldieaa.Tok

set_option maxRecDepth 100000 in
set_option maxHeartbeats 4000000 in
theorem pass6 (R : Nat) (l : List UInt8) (hl : l.length ≤ 65536) (vo : Value) (w0 : World) (k0 : Nat) (r0 : Rd) (kd : Int) (Q : Exit → Act → World → Prop) (hQ : Ends R l vo w0 k0 r0 kd Q) (n : Nat) (a : Act) (w : World)
    (hJ : Jt R l vo w0 k0 r0 kd 6 a w) (hm : mt R l 6 a w = n) (ih : Goes Try.prog (bodyOf Try.f47.body) (Less (Jt R l vo w0 k0 r0 kd) (mt R l) n) (Less (Jt R l vo w0 k0 r0 kd) (mt R l) n) Q) :
    ∃ X, findLabel (bodyOf Try.f47.body) 6 = some (.seq .skip X) ∧ X.wp Try.prog (jumps (Less (Jt R l vo w0 k0 r0 kd) (mt R l) n) Q) a w := by
  have _ : True := (fun _ _ => trivial) hQ hl
  have _ : True := (fun _ => trivial) ih
  obtain ⟨hF, k, nm, va, al, f, qs, an, q, hk, hf, hal, hkk, hS⟩ := hJ
  have hn : n = 3 * (l.length - k) + rankL 6 := by
    obtain ⟨hT, _⟩ := stBox hS
    rw [← hm]
    unfold mt
    rw [hT.atOf]
  clear hm
  refine Fr.elim (P := fun a => ∃ X, findLabel (bodyOf Try.f47.body) 6 = some (.seq .skip X) ∧ X.wp Try.prog (jumps (Less (Jt R l vo w0 k0 r0 kd) (mt R l) n) Q) a w) hF ?_
  clear hF a
  intro u3 u9 u10 u11 u12 u13 u14 u15 u16 u17 u18 u19 u20 u21 u22 u23 u24 u25 u26 u27 u28 u29 u30 u31 u32 u33 u34 u35 u36 u37 u38 u39 u40 u41 u42 u43 u44 u45 u46 u47 u48 u49 u50 u51 u52 u53 u54 u55 u56 u57 u58 u59 u60 u61 u62 u63 u64 u65 u66 u67 u68 u69 u70 u71 u72 u73 u74 u75 u76 u77 u78 u79 u80 u81 u82 u83 u84 u85 u86 u87 u88 u89 u90 u91 u92 u93 u94 u95 u96 u97 u98 u99 u100 u101 u102 u103 u104 u105 u106 u107 u108 u109 u110 u111
  refine ⟨_, rfl, ?_⟩
  have rk0 : rankL 0 = 2 := rfl
  have rk1 : rankL 1 = 0 := rfl
  have rk2 : rankL 2 = 1 := rfl
  have rk3 : rankL 3 = 1 := rfl
  have rk4 : rankL 4 = 2 := rfl
  have rk5 : rankL 5 = 1 := rfl
  have rk6 : rankL 6 = 2 := rfl
  have rk7 : rankL 7 = 2 := rfl
  have rk8 : rankL 8 = 1 := rfl
  have mk0 : moreL 0 = 0 := rfl
  have mk1 : moreL 1 = 0 := rfl
  have mk2 : moreL 2 = 0 := rfl
  have mk3 : moreL 3 = 0 := rfl
  have mk4 : moreL 4 = 1 := rfl
  have mk5 : moreL 5 = 1 := rfl
  have mk6 : moreL 6 = 1 := rfl
  have mk7 : moreL 7 = 1 := rfl
  have mk8 : moreL 8 = 1 := rfl
  obtain ⟨hT, hM⟩ := hS
  have c1 := hT.c1
  have HT0 := Lib.hid hT
  cases hb1 : passB blB l k with
  | true =>
    obtain ⟨hk2, hc⟩ := pass_true hb1
    have p1 := fun W (h : Bx R l k vo W) => pass_yes h hl hk 63 #[] blB enter_blank (asks_blank W) hb1
    go_wp2_with (first
      | (have _ := HT0; go_at_call 60; refine (p1 _ HT0.out.box).mono ?_; rintro e w1 ⟨rfl, hbx, hkp⟩; have T := HT0.out.keep hkp hbx; have d1 := T.c1; have HT1 := Lib.hid T; clear hbx hkp T))
    exact wp_goto (show Less _ _ n 6 _ _ from less_mk (b := 6) ⟨rfl, rfl, rfl, rfl, rfl, rfl, rfl, rfl, rfl, rfl⟩ ⟨k + 1, nm, va, al, f, qs, an, q, by omega, by omega, by omega, by omega, HT1.out, want_blank hk2 hc hM⟩ HT1.out.box (by omega))
  | false =>
    have p1 := fun W (h : Bx R l k vo W) => pass_no h hl hk 63 #[] blB enter_blank (asks_blank W) hb1
    have HBX := Lib.hid (fun W (h : Bx R l k vo W) => ((h.cell 1).trans rfl : W.cell? ⟨R, 1, none⟩ = some (.int .i64 (k : Int))))
    cases hb2 : passB (· == 34) l k with
    | true =>
      obtain ⟨hk2, hc⟩ := pass_true hb2
      have p2 := fun W (h : Bx R l k vo W) => take_yes h hl hk 34 hb2
      have hcut : cut l k (k + 1) = [34] := by rw [cut_succ hk2 (Nat.le_refl k), cut_nil]; simpa using hc
      have hsi := fun w1 (h : Bx R l (k + 1) vo w1) => since_c R l (k + 1) k vo w1 h (Nat.le_succ k) hk2
      rw [hcut] at hsi
      have HBX2 := Lib.hid (fun W (h : Bx R l (k + 1) vo W) => ((h.cell 1).trans rfl : W.cell? ⟨R, 1, none⟩ = some (.int .i64 ((k + 1 : Nat) : Int))))
      go_wp2_with (first
        | (have _ := HT2; go_at_call 25; refine (hsi _ HT2.out.box).mono ?_; rintro e w9 ⟨rfl, m9, hw9⟩; have T9 := HT2.out.grow (grown_of hw9); have e6 := T9.c6; have z6 := T9.z6; have TQ := T9.setQ [34]; have f1 := TQ.c1; have f5 := TQ.c5; have z7 := TQ.z5; have x9 := HBX2.out _ TQ.box; have HT9 := Lib.hid (TQ.setF (k + 1)); clear hw9 T9 TQ)
        | (have _ := HT1; go_at_call 64; refine (p2 _ HT1.out.box).mono ?_; rintro e w2 ⟨rfl, hbx, hkp⟩; have T := HT1.out.keep hkp hbx; have d2 := T.c1; have t5 := T.c5; have HT2 := Lib.hid T; clear hbx hkp T)
        | (have _ := HT0; go_at_call 60; refine (p1 _ HT0.out.box).mono ?_; rintro e w1 ⟨rfl, hbx, hkp⟩; have T := HT0.out.keep hkp hbx; have d1 := T.c1; have x1 := HBX.out _ T.box; have y5 := T.c5; have z5 := T.z5; have TB := T.setF k; have b1 := TB.c1; have HT1 := Lib.hid TB; clear hbx hkp T TB))
      exact wp_goto (show Less _ _ n 7 _ _ from less_mk (b := 7) ⟨rfl, rfl, rfl, rfl, rfl, rfl, rfl, rfl, rfl, rfl⟩ ⟨k + 1, nm, va, al, k + 1, qs, an, 34, by omega, by omega, by omega, by omega, HT9.out, (by have h := want_quote hk2 (pass_false hb1 hk2) (.inl (by simpa using hc)) hM; rw [show l[k] = 34 by simpa using hc] at h; rw [cut_nil]; exact h)⟩ HT9.out.box (by omega))
    | false =>
      have p2 := fun W (h : Bx R l k vo W) => take_no h hl hk 34 hb2
      cases hb3 : passB (· == 39) l k with
      | true =>
        obtain ⟨hk2, hc⟩ := pass_true hb3
        have p3 := fun W (h : Bx R l k vo W) => take_yes h hl hk 39 hb3
        have hcut : cut l k (k + 1) = [39] := by rw [cut_succ hk2 (Nat.le_refl k), cut_nil]; simpa using hc
        have hsi := fun w1 (h : Bx R l (k + 1) vo w1) => since_c R l (k + 1) k vo w1 h (Nat.le_succ k) hk2
        rw [hcut] at hsi
        have HBX2 := Lib.hid (fun W (h : Bx R l (k + 1) vo W) => ((h.cell 1).trans rfl : W.cell? ⟨R, 1, none⟩ = some (.int .i64 ((k + 1 : Nat) : Int))))
        go_wp2_with (first
          | (have _ := HT3; go_at_call 25; refine (hsi _ HT3.out.box).mono ?_; rintro e w9 ⟨rfl, m9, hw9⟩; have T9 := HT3.out.grow (grown_of hw9); have e6 := T9.c6; have z6 := T9.z6; have TQ := T9.setQ [39]; have f1 := TQ.c1; have f5 := TQ.c5; have z7 := TQ.z5; have x9 := HBX2.out _ TQ.box; have HT9 := Lib.hid (TQ.setF (k + 1)); clear hw9 T9 TQ)
          | (have _ := HT2; go_at_call 64; refine (p3 _ HT2.out.box).mono ?_; rintro e w3 ⟨rfl, hbx, hkp⟩; have T := HT2.out.keep hkp hbx; have d3 := T.c1; have t5 := T.c5; have HT3 := Lib.hid T; clear hbx hkp T)
          | (have _ := HT1; go_at_call 64; refine (p2 _ HT1.out.box).mono ?_; rintro e w2 ⟨rfl, hbx, hkp⟩; have T := HT1.out.keep hkp hbx; have d2 := T.c1; have HT2 := Lib.hid T; clear hbx hkp T)
          | (have _ := HT0; go_at_call 60; refine (p1 _ HT0.out.box).mono ?_; rintro e w1 ⟨rfl, hbx, hkp⟩; have T := HT0.out.keep hkp hbx; have d1 := T.c1; have x1 := HBX.out _ T.box; have y5 := T.c5; have z5 := T.z5; have TB := T.setF k; have b1 := TB.c1; have HT1 := Lib.hid TB; clear hbx hkp T TB))
        exact wp_goto (show Less _ _ n 7 _ _ from less_mk (b := 7) ⟨rfl, rfl, rfl, rfl, rfl, rfl, rfl, rfl, rfl, rfl⟩ ⟨k + 1, nm, va, al, k + 1, qs, an, 39, by omega, by omega, by omega, by omega, HT9.out, (by have h := want_quote hk2 (pass_false hb1 hk2) (.inr (by simpa using hc)) hM; rw [show l[k] = 39 by simpa using hc] at h; rw [cut_nil]; exact h)⟩ HT9.out.box (by omega))
      | false =>
        have p3 := fun W (h : Bx R l k vo W) => take_no h hl hk 39 hb3
        go_wp2_with (first
          | (have _ := HT2; go_at_call 64; refine (p3 _ HT2.out.box).mono ?_; rintro e w3 ⟨rfl, hbx, hkp⟩; have T := HT2.out.keep hkp hbx; have d3 := T.c1; have HT3 := Lib.hid T; clear hbx hkp T)
          | (have _ := HT1; go_at_call 64; refine (p2 _ HT1.out.box).mono ?_; rintro e w2 ⟨rfl, hbx, hkp⟩; have T := HT1.out.keep hkp hbx; have d2 := T.c1; have HT2 := Lib.hid T; clear hbx hkp T)
          | (have _ := HT0; go_at_call 60; refine (p1 _ HT0.out.box).mono ?_; rintro e w1 ⟨rfl, hbx, hkp⟩; have T := HT0.out.keep hkp hbx; have d1 := T.c1; have x1 := HBX.out _ T.box; have y5 := T.c5; have z5 := T.z5; have TB := T.setF k; have b1 := TB.c1; have HT1 := Lib.hid TB; clear hbx hkp T TB))
        rename_i K hK
        exact wp_label (hK _ _ (ih 8 _ _ _ (less_mk (b := 8) ⟨rfl, rfl, rfl, rfl, rfl, rfl, rfl, rfl, rfl, rfl⟩ ⟨k, nm, va, al, k, qs, an, q, by omega, by omega, by omega, by omega, HT3.out, (by rw [cut_nil]; exact want_else (fun h => ⟨pass_false hb1 h, by simpa using pass_false hb2 h, by simpa using pass_false hb3 h⟩) hM)⟩ HT3.out.box (by omega)) rfl))
end Go.Proofs.Ytidfcajhmldieaa.Tkc

/-
  The function tag from its label 7 on.
-/
namespace Go.Proofs.Ytidfcajhmldieaa.Tkc
open Go.RowKit Go.Proofs.Ytidfcajhmldieaa.Oct Go.Proofs.Ytidfcajhmldieaa.Utf Go.Proofs.Ytidfcajhmldieaa.Crf Go.Proofs.Ytidfcajhmldieaa.Tab Go.Proofs.Ytidfcajhmldieaa.Tok

set_option maxRecDepth 100000 in
set_option maxHeartbeats 4000000 in
theorem pass7 (R : Nat) (l : List UInt8) (hl : l.length ≤ 65536) (vo : Value) (w0 : World) (k0 : Nat) (r0 : Rd) (kd : Int) (Q : Exit → Act → World → Prop) (hQ : Ends R l vo w0 k0 r0 kd Q) (n : Nat) (a : Act) (w : World)
    (hJ : Jt R l vo w0 k0 r0 kd 7 a w) (hm : mt R l 7 a w = n) (ih : Goes Try.prog (bodyOf Try.f47.body) (Less (Jt R l vo w0 k0 r0 kd) (mt R l) n) (Less (Jt R l vo w0 k0 r0 kd) (mt R l) n) Q) :
    ∃ X, findLabel (bodyOf Try.f47.body) 7 = some (.seq .skip X) ∧ X.wp Try.prog (jumps (Less (Jt R l vo w0 k0 r0 kd) (mt R l) n) Q) a w := by
  have _ : True := (fun _ _ => trivial) hQ hl
  have _ : True := (fun _ => trivial) ih
  obtain ⟨hF, k, nm, va, al, f, qs, an, q, hk, hf, hal, hkk, hS⟩ := hJ
  have hn : n = 3 * (l.length - k) + rankL 7 := by
    obtain ⟨hT, _⟩ := stBox hS
    rw [← hm]
    unfold mt
    rw [hT.atOf]
  clear hm
  refine Fr.elim (P := fun a => ∃ X, findLabel (bodyOf Try.f47.body) 7 = some (.seq .skip X) ∧ X.wp Try.prog (jumps (Less (Jt R l vo w0 k0 r0 kd) (mt R l) n) Q) a w) hF ?_
  clear hF a
  intro u3 u9 u10 u11 u12 u13 u14 u15 u16 u17 u18 u19 u20 u21 u22 u23 u24 u25 u26 u27 u28 u29 u30 u31 u32 u33 u34 u35 u36 u37 u38 u39 u40 u41 u42 u43 u44 u45 u46 u47 u48 u49 u50 u51 u52 u53 u54 u55 u56 u57 u58 u59 u60 u61 u62 u63 u64 u65 u66 u67 u68 u69 u70 u71 u72 u73 u74 u75 u76 u77 u78 u79 u80 u81 u82 u83 u84 u85 u86 u87 u88 u89 u90 u91 u92 u93 u94 u95 u96 u97 u98 u99 u100 u101 u102 u103 u104 u105 u106 u107 u108 u109 u110 u111
  refine ⟨_, rfl, ?_⟩
  have rk0 : rankL 0 = 2 := rfl
  have rk1 : rankL 1 = 0 := rfl
  have rk2 : rankL 2 = 1 := rfl
  have rk3 : rankL 3 = 1 := rfl
  have rk4 : rankL 4 = 2 := rfl
  have rk5 : rankL 5 = 1 := rfl
  have rk6 : rankL 6 = 2 := rfl
  have rk7 : rankL 7 = 2 := rfl
  have rk8 : rankL 8 = 1 := rfl
  have mk0 : moreL 0 = 0 := rfl
  have mk1 : moreL 1 = 0 := rfl
  have mk2 : moreL 2 = 0 := rfl
  have mk3 : moreL 3 = 0 := rfl
  have mk4 : moreL 4 = 1 := rfl
  have mk5 : moreL 5 = 1 := rfl
  have mk6 : moreL 6 = 1 := rfl
  have mk7 : moreL 7 = 1 := rfl
  have mk8 : moreL 8 = 1 := rfl
  obtain ⟨hT, hM⟩ := hS
  have c1 := hT.c1
  have HT0 := Lib.hid hT
  cases hb : passB (fun c => !(c == q)) l k with
  | true =>
    obtain ⟨hk2, hc⟩ := pass_true hb
    have p1 := fun W (h : TagW R l vo w0 k nm false va (al ++ [⟨an, []⟩]) f [q] W) => pass_yes h.box hl hk 58 #[.pointer (some ⟨w0.heap.size + 4, 0, none⟩)] (fun c => !(c == q)) enter_quote (asks_quote q (w0.heap.size + 4) W h.c6) hb
    go_wp2_with (first
      | (have _ := HT0; go_at_call 60; refine (p1 _ HT0.out).mono ?_; rintro e w1 ⟨rfl, hbx, hkp⟩; have T := HT0.out.keep hkp hbx; have d1 := T.c1; have HT1 := Lib.hid T; clear hbx hkp T))
    exact wp_goto (show Less _ _ n 7 _ _ from less_mk (b := 7) ⟨rfl, rfl, rfl, rfl, rfl, rfl, rfl, rfl, rfl, rfl⟩ ⟨k + 1, nm, va, al, f, qs, an, q, by omega, by omega, by omega, by omega, HT1.out, (by have h := value_pass hk2 (by simpa using hc) hM; rw [cut_succ hk2 hf]; exact h)⟩ HT1.out.box (by omega))
  | false =>
    have p1 := fun W (h : TagW R l vo w0 k nm false va (al ++ [⟨an, []⟩]) f [q] W) => pass_no h.box hl hk 58 #[.pointer (some ⟨w0.heap.size + 4, 0, none⟩)] (fun c => !(c == q)) enter_quote (asks_quote q (w0.heap.size + 4) W h.c6) hb
    have ep := enter_put
    cases hb3 : passB (· == q) l k with
    | true =>
      obtain ⟨hk2, hc⟩ := pass_true hb3
      have p3 := fun W (h : Bx R l k vo W) => take_yes h hl hk q hb3
      go_wp2_with (first
        | (have _ := HT2; go_at_call 64; refine (p3 _ HT2.out.box).mono ?_; rintro e w3 ⟨rfl, hbx, hkp⟩; have T := HT2.out.keep hkp hbx; have HT3 := Lib.hid T; clear hbx hkp T)
        | (have _ := HT1; go_at_fn 59; refine (putv_c R l hl vo w0 k hk nm false va al (by omega) ⟨an, []⟩ f hf [q] _ HT1.out).mono ?_; rintro e w2 ⟨rfl, T2⟩; have d2 := T2.c1; have d6 := T2.c6; have HT2 := Lib.hid T2; clear T2)
        | (have _ := HT0; go_at_call 60; refine (p1 _ HT0.out).mono ?_; rintro e w1 ⟨rfl, hbx, hkp⟩; have T := HT0.out.keep hkp hbx; have d1 := T.c1; have HT1 := Lib.hid T; clear hbx hkp T))
      exact wp_goto (show Less _ _ n 3 _ _ from less_mk (b := 3) ⟨rfl, rfl, rfl, rfl, rfl, rfl, rfl, rfl, rfl, rfl⟩ ⟨k + 1, nm, va, al ++ [⟨an, decL' (cut l f k)⟩], f, [q], an, q, by omega, by omega, (by rw [List.length_append, List.length_singleton]; omega), by omega, HT3.out, value_stop hk2 (by simpa using hc) hM⟩ HT3.out.box (by omega))
    | false =>
      have p3 := fun W (h : Bx R l k vo W) => take_no h hl hk q hb3
      have hk2 : ¬ k < l.length := fun h => by
        have h1 := pass_false hb h
        have h2 := pass_false hb3 h
        simp at h1 h2
        exact h2 h1
      go_wp2_with (first
        | (have _ := HT2; go_at_call 64; refine (p3 _ HT2.out.box).mono ?_; rintro e w3 ⟨rfl, hbx, hkp⟩; have T := HT2.out.keep hkp hbx; have HT3 := Lib.hid T; clear hbx hkp T)
        | (have _ := HT1; go_at_fn 59; refine (putv_c R l hl vo w0 k hk nm false va al (by omega) ⟨an, []⟩ f hf [q] _ HT1.out).mono ?_; rintro e w2 ⟨rfl, T2⟩; have d2 := T2.c1; have d6 := T2.c6; have HT2 := Lib.hid T2; clear T2)
        | (have _ := HT0; go_at_call 60; refine (p1 _ HT0.out).mono ?_; rintro e w1 ⟨rfl, hbx, hkp⟩; have T := HT0.out.keep hkp hbx; have d1 := T.c1; have HT1 := Lib.hid T; clear hbx hkp T))
      exact wp_goto (show Less _ _ n 3 _ _ from less_mk (b := 3) ⟨rfl, rfl, rfl, rfl, rfl, rfl, rfl, rfl, rfl, rfl⟩ ⟨k, nm, va, al ++ [⟨an, decL' (cut l f k)⟩], f, [q], an, q, by omega, by omega, (by rw [List.length_append, List.length_singleton]; omega), by omega, HT3.out, value_end hk2 hM⟩ HT3.out.box (by omega))
end Go.Proofs.Ytidfcajhmldieaa.Tkc

/-
  The function tag from its label 8 on.
-/
namespace Go.Proofs.Ytidfcajhmldieaa.Tkc
open Go.RowKit Go.Proofs.Ytidfcajhmldieaa.Oct Go.Proofs.Ytidfcajhmldieaa.Utf Go.Proofs.Ytidfcajhmldieaa.Crf Go.Proofs.Ytidfcajhmldieaa.Tab Go.Proofs.Ytidfcajhmldieaa.Tok

set_option maxRecDepth 100000 in
set_option maxHeartbeats 4000000 in
theorem pass8 (R : Nat) (l : List UInt8) (hl : l.length ≤ 65536) (vo : Value) (w0 : World) (k0 : Nat) (r0 : Rd) (kd : Int) (Q : Exit → Act → World → Prop) (hQ : Ends R l vo w0 k0 r0 kd Q) (n : Nat) (a : Act) (w : World)
    (hJ : Jt R l vo w0 k0 r0 kd 8 a w) (hm : mt R l 8 a w = n) (ih : Goes Try.prog (bodyOf Try.f47.body) (Less (Jt R l vo w0 k0 r0 kd) (mt R l) n) (Less (Jt R l vo w0 k0 r0 kd) (mt R l) n) Q) :
    ∃ X, findLabel (bodyOf Try.f47.body) 8 = some (.seq .skip X) ∧ X.wp Try.prog (jumps (Less (Jt R l vo w0 k0 r0 kd) (mt R l) n) Q) a w := by
  have _ : True := (fun _ _ => trivial) hQ hl
  have _ : True := (fun _ => trivial) ih
  obtain ⟨hF, k, nm, va, al, f, qs, an, q, hk, hf, hal, hkk, hS⟩ := hJ
  have hn : n = 3 * (l.length - k) + rankL 8 := by
    obtain ⟨hT, _⟩ := stBox hS
    rw [← hm]
    unfold mt
    rw [hT.atOf]
  clear hm
  refine Fr.elim (P := fun a => ∃ X, findLabel (bodyOf Try.f47.body) 8 = some (.seq .skip X) ∧ X.wp Try.prog (jumps (Less (Jt R l vo w0 k0 r0 kd) (mt R l) n) Q) a w) hF ?_
  clear hF a
  intro u3 u9 u10 u11 u12 u13 u14 u15 u16 u17 u18 u19 u20 u21 u22 u23 u24 u25 u26 u27 u28 u29 u30 u31 u32 u33 u34 u35 u36 u37 u38 u39 u40 u41 u42 u43 u44 u45 u46 u47 u48 u49 u50 u51 u52 u53 u54 u55 u56 u57 u58 u59 u60 u61 u62 u63 u64 u65 u66 u67 u68 u69 u70 u71 u72 u73 u74 u75 u76 u77 u78 u79 u80 u81 u82 u83 u84 u85 u86 u87 u88 u89 u90 u91 u92 u93 u94 u95 u96 u97 u98 u99 u100 u101 u102 u103 u104 u105 u106 u107 u108 u109 u110 u111
  refine ⟨_, rfl, ?_⟩
  have rk0 : rankL 0 = 2 := rfl
  have rk1 : rankL 1 = 0 := rfl
  have rk2 : rankL 2 = 1 := rfl
  have rk3 : rankL 3 = 1 := rfl
  have rk4 : rankL 4 = 2 := rfl
  have rk5 : rankL 5 = 1 := rfl
  have rk6 : rankL 6 = 2 := rfl
  have rk7 : rankL 7 = 2 := rfl
  have rk8 : rankL 8 = 1 := rfl
  have mk0 : moreL 0 = 0 := rfl
  have mk1 : moreL 1 = 0 := rfl
  have mk2 : moreL 2 = 0 := rfl
  have mk3 : moreL 3 = 0 := rfl
  have mk4 : moreL 4 = 1 := rfl
  have mk5 : moreL 5 = 1 := rfl
  have mk6 : moreL 6 = 1 := rfl
  have mk7 : moreL 7 = 1 := rfl
  have mk8 : moreL 8 = 1 := rfl
  obtain ⟨hT, hM⟩ := hS
  have c1 := hT.c1
  have HT0 := Lib.hid hT
  cases hb : passB inBare l k with
  | true =>
    obtain ⟨hk2, hc⟩ := pass_true hb
    have p1 := fun W (h : Bx R l k vo W) => pass_yes h hl hk 66 #[] inBare enter_bare (asks_bare W) hb
    go_wp2_with (first
      | (have _ := HT0; go_at_call 60; refine (p1 _ HT0.out.box).mono ?_; rintro e w1 ⟨rfl, hbx, hkp⟩; have T := HT0.out.keep hkp hbx; have d1 := T.c1; have HT1 := Lib.hid T; clear hbx hkp T))
    exact wp_goto (show Less _ _ n 8 _ _ from less_mk (b := 8) ⟨rfl, rfl, rfl, rfl, rfl, rfl, rfl, rfl, rfl, rfl⟩ ⟨k + 1, nm, va, al, f, qs, an, q, by omega, by omega, by omega, by omega, HT1.out, (by have h := bare_pass hk2 hc hM; rw [cut_succ hk2 hf]; exact h)⟩ HT1.out.box (by omega))
  | false =>
    have p1 := fun W (h : Bx R l k vo W) => pass_no h hl hk 66 #[] inBare enter_bare (asks_bare W) hb
    have ep := enter_put
    go_wp2_with (first
      | (have _ := HT1; go_at_fn 59; refine (putv_c R l hl vo w0 k hk nm false va al (by omega) ⟨an, []⟩ f hf qs _ HT1.out).mono ?_; rintro e w2 ⟨rfl, T2⟩; have d2 := T2.c1; have d6 := T2.c6; have HT2 := Lib.hid T2; clear T2)
      | (have _ := HT0; go_at_call 60; refine (p1 _ HT0.out.box).mono ?_; rintro e w1 ⟨rfl, hbx, hkp⟩; have T := HT0.out.keep hkp hbx; have d1 := T.c1; have HT1 := Lib.hid T; clear hbx hkp T))
    exact wp_goto (show Less _ _ n 1 _ _ from less_mk (b := 1) ⟨rfl, rfl, rfl, rfl, rfl, rfl, rfl, rfl, rfl, rfl⟩ ⟨k, nm, va, al ++ [⟨an, decL' (cut l f k)⟩], f, qs, an, q, by omega, by omega, (by rw [List.length_append, List.length_singleton]; omega), by omega, HT2.out, bare_stop (pass_false hb) hM⟩ HT2.out.box (by omega))
end Go.Proofs.Ytidfcajhmldieaa.Tkc

/-
  Contract of the function tag.
-/
namespace Go.Proofs.Ytidfcajhmldieaa.Tkc
open Go.RowKit Go.Proofs.Ytidfcajhmldieaa.Oct Go.Proofs.Ytidfcajhmldieaa.Utf Go.Proofs.Ytidfcajhmldieaa.Crf Go.Proofs.Ytidfcajhmldieaa.Tab Go.Proofs.Ytidfcajhmldieaa.Tok

/-- What tag leaves. -/
inductive TagTo (R : Nat) (l : List UInt8) (vo : Value) (w0 : World) (k0 : Nat) (r0 : Rd) (kd : Int) (e : Ending) (w : World) : Prop
  | ended (k : Nat) (nm : List UInt8) (va : Value) (al : List At) (cl : Bool) (he : e = .returned (.tuple #[.agg #[.int .i64 0, .string (S nm), .string ⟨#[]⟩, va, .bool cl], .bool true])) (hk : k ≤ l.length) (hk0 : k0 ≤ k) (box : Bx R l k vo w) (att : AtR (w0.heap.size + 5) w va al) (keeps : Keeps R w0 w) (te : TagEnd l k0 r0 kd k nm al cl)
  | none (he : e = .returned (.tuple #[.agg #[.int .i64 0, .string ⟨#[]⟩, .string ⟨#[]⟩, .slice none 0 0, .bool false], .bool false])) (box : Bx R l l.length vo w) (keeps : Keeps R w0 w) (te : LL l k0 r0 = r0.out)

theorem tag_ends (R : Nat) (l : List UInt8) (vo : Value) (w0 : World) (k0 : Nat) (r0 : Rd) (kd : Int) :
    Ends R l vo w0 k0 r0 kd (bodyPost Try.prog Try.f47 fun e w => TagTo R l vo w0 k0 r0 kd e w) := by
  intro b a w hd h2 h3 hL
  cases hL with
  | ended k nm va al cl hk hk0 box res att keeps te =>
    have c0 : w.cell? ⟨w0.heap.size + 1, 0, none⟩ = some (.int .i64 0) := (cell_of_row w _ 0 _ _ _ res).trans rfl
    have c1 : w.cell? ⟨w0.heap.size + 1, 1, none⟩ = some (.string (S nm)) := (cell_of_row w _ 1 _ _ _ res).trans rfl
    have c2 : w.cell? ⟨w0.heap.size + 1, 2, none⟩ = some (.string ⟨#[]⟩) := (cell_of_row w _ 2 _ _ _ res).trans rfl
    have c3 : w.cell? ⟨w0.heap.size + 1, 3, none⟩ = some va := (cell_of_row w _ 3 _ _ _ res).trans rfl
    have c4 : w.cell? ⟨w0.heap.size + 1, 4, none⟩ = some (.bool cl) := (cell_of_row w _ 4 _ _ _ res).trans rfl
    refine bodyPost_ret (v := .tuple #[.agg #[.int .i64 0, .string (S nm), .string ⟨#[]⟩, va, .bool cl], .bool true]) (by simp [results, Try.results47, go_sem, h2, h3, c0, c1, c2, c3, c4]) hd ?_
    exact .ended k nm va al cl rfl hk hk0 box att keeps te
  | none box res keeps te =>
    have c0 : w.cell? ⟨w0.heap.size + 1, 0, none⟩ = some (.int .i64 0) := (cell_of_row w _ 0 _ _ _ res).trans rfl
    have c1 : w.cell? ⟨w0.heap.size + 1, 1, none⟩ = some (.string ⟨#[]⟩) := (cell_of_row w _ 1 _ _ _ res).trans rfl
    have c2 : w.cell? ⟨w0.heap.size + 1, 2, none⟩ = some (.string ⟨#[]⟩) := (cell_of_row w _ 2 _ _ _ res).trans rfl
    have c3 : w.cell? ⟨w0.heap.size + 1, 3, none⟩ = some (.slice none 0 0) := (cell_of_row w _ 3 _ _ _ res).trans rfl
    have c4 : w.cell? ⟨w0.heap.size + 1, 4, none⟩ = some (.bool false) := (cell_of_row w _ 4 _ _ _ res).trans rfl
    refine bodyPost_ret (v := .tuple #[.agg #[.int .i64 0, .string ⟨#[]⟩, .string ⟨#[]⟩, .slice none 0 0, .bool false], .bool false]) (by simp [results, Try.results47, go_sem, h2, h3, c0, c1, c2, c3, c4]) hd ?_
    exact .none rfl box keeps te

/-- The boxes that tag lays first. -/
abbrev tagBoxes (R k : Nat) (w : World) : World :=
  ((((w.alloc (.cells #[.pointer (some ⟨R, 0, none⟩)] 52)).alloc (.cells zeroT 31)).alloc (.cells zeroT 31)).alloc (.cells #[.int .i64 (k : Int)] 3)).alloc (.cells #[.string ⟨#[]⟩] 9)
theorem tag_start (R : Nat) (l : List UInt8) (k : Nat) (vo : Value) (w : World) (h : Bx R l k vo w) : TagW R l vo w k [] false (.slice none 0 0) [] k [] (tagBoxes R k w) := by
  have hlt := h.lt
  have e : ∀ (X : World) (o : Obj) (b : Nat), b < X.heap.size → (X.alloc o).heap[b]? = X.heap[b]? := fun X o b hb => ((Below.refl X.heap.size X).alloc (Nat.le_refl _) o).block b hb
  have n1 : ∀ (X : World) (o : Obj) (b : Nat), b = X.heap.size → (X.alloc o).heap[b]? = some (o) := fun X o b hb => by subst hb; exact heap_alloc_new X o
  have hb : Below w.heap.size w (tagBoxes R k w) := (((((Below.refl _ w).alloc (Nat.le_refl _) _).alloc (by simp) _).alloc (by first | (simp; done) | (simp; omega)) _).alloc (by first | (simp; done) | (simp; omega)) _).alloc (by first | (simp; done) | (simp; omega)) _
  exact {
    box := h.keep hb
    b1 := (e _ _ _ (by first | (simp; done) | (simp; omega))).trans ((e _ _ _ (by first | (simp; done) | (simp; omega))).trans ((e _ _ _ (by first | (simp; done) | (simp; omega))).trans ((e _ _ _ (by simp)).trans (n1 _ _ _ rfl))))
    b2 := (e _ _ _ (by first | (simp; done) | (simp; omega))).trans ((e _ _ _ (by first | (simp; done) | (simp; omega))).trans ((e _ _ _ (by simp)).trans (n1 _ _ _ (by simp))))
    b4 := (e _ _ _ (by first | (simp; done) | (simp; omega))).trans ((e _ _ _ (by simp)).trans (n1 _ _ _ (by simp)))
    b5 := (e _ _ _ (by simp)).trans (n1 _ _ _ (by simp))
    b6 := n1 _ _ _ (by simp)
    att := World.ownsRow_nil _ _ _ _
    keeps := Keeps.of hb
    low := hlt }
theorem st_le {R : Nat} {l : List UInt8} {vo : Value} {w0 : World} {k0 : Nat} {r0 : Rd} {kd : Int} {b : Nat} {w : World} (h : St R l vo w0 k0 r0 kd b w) : b = 0 ∨ b = 1 ∨ b = 2 ∨ b = 3 ∨ b = 4 ∨ b = 5 ∨ b = 6 ∨ b = 7 ∨ b = 8 := by
  obtain ⟨k, nm, va, al, f, qs, a, q, _, _, _, _, h⟩ := h
  by_cases h8 : b ≤ 8
  · omega
  · exfalso
    rw [if_neg (by omega), if_neg (by omega), if_neg (by omega), if_neg (by omega), if_neg (by omega), if_neg (by omega), if_neg (by omega), if_neg (by omega)] at h
    exact h
set_option maxRecDepth 100000 in
set_option maxHeartbeats 4000000 in
/-- Contract of tag: the reader stands behind what begins it. -/
theorem tag_c (R : Nat) (l : List UInt8) (hl : l.length ≤ 65536) (vo : Value) (w : World) (k : Nat) (r0 : Rd) (kd : Int) (h : Bx R l k vo w) (hk : k ≤ l.length) (hk1 : 1 ≤ k) (hs : r0.st = 3) (hg : r0.tg = ⟨kd, [], [], [], false⟩) :
    Calls Try.prog 47 #[.pointer (some ⟨R, 0, none⟩)] w fun e w' => TagTo R l vo w k r0 kd e w' := by
  have hE := tag_ends R l vo w k r0 kd
  have HS : Hid (St R l vo w k r0 kd 0 (tagBoxes R k w)) := ⟨k, [], .slice none 0 0, [], k, [], [], 0, hk, Nat.le_refl _, hk1, Nat.le_refl _, tag_start R l k vo w h, ⟨r0, rfl, hs, by rw [cut_nil]; exact hg, trivial, rfl, rfl⟩, Nat.le_refl _⟩
  have hb3 : Below w.heap.size w (((w.alloc (.cells #[.pointer (some ⟨R, 0, none⟩)] 52)).alloc (.cells zeroT 31)).alloc (.cells zeroT 31)) := ((((Below.refl _ w).alloc (Nat.le_refl _) _).alloc (by simp) _).alloc (by first | (simp; done) | (simp; omega)) _)
  have x1 := ((h.keep hb3).cell 1).trans rfl
  clear h hs hg hb3
  go_enter Try.func47, Try.ntmps47
  go_wp2_with fail
  refine wp_scope_many (Jt R l vo w k r0 kd) (mt R l) ?_ ?_
  · intro hgo
    go_wp2_with fail
    rename_i K hK
    exact wp_label (hK _ _ (hgo 0 _ _ _ ⟨⟨rfl, rfl, rfl, rfl, rfl, rfl, rfl, rfl, rfl, rfl⟩, HS.out⟩ rfl))
  · clear x1 HS
    intro n b a W hJ hm ih
    rcases st_le hJ.2 with rfl | rfl | rfl | rfl | rfl | rfl | rfl | rfl | rfl
    · exact pass0 R l hl vo w k r0 kd _ hE n a W hJ hm ih
    · exact pass1 R l hl vo w k r0 kd _ hE n a W hJ hm ih
    · exact pass2 R l hl vo w k r0 kd _ hE n a W hJ hm ih
    · exact pass3 R l hl vo w k r0 kd _ hE n a W hJ hm ih
    · exact pass4 R l hl vo w k r0 kd _ hE n a W hJ hm ih
    · exact pass5 R l hl vo w k r0 kd _ hE n a W hJ hm ih
    · exact pass6 R l hl vo w k r0 kd _ hE n a W hJ hm ih
    · exact pass7 R l hl vo w k r0 kd _ hE n a W hJ hm ih
    · exact pass8 R l hl vo w k r0 kd _ hE n a W hJ hm ih
end Go.Proofs.Ytidfcajhmldieaa.Tkc

/-
  Contracts of ends and rawText of package tokens.
-/
namespace Go.Proofs.Ytidfcajhmldieaa.Tkc
open Go.RowKit Go.Proofs.Ytidfcajhmldieaa.Oct Go.Proofs.Ytidfcajhmldieaa.Utf Go.Proofs.Ytidfcajhmldieaa.Crf Go.Proofs.Ytidfcajhmldieaa.Tab Go.Proofs.Ytidfcajhmldieaa.Tok

theorem pre_starts (s p : List UInt8) : (p.map low).isPrefixOf (s.map low) = startsB s p := by
  unfold startsB
  rw [Bool.eq_iff_iff, List.isPrefixOf_iff_prefix, Bool.and_eq_true, beq_iff_eq, decide_eq_true_eq, List.prefix_iff_eq_take]
  constructor
  · intro h
    have hl := congrArg List.length h
    rw [List.length_take, List.length_map, List.length_map] at hl
    refine ⟨by omega, ?_⟩
    rw [List.length_map] at h
    exact h.symm
  · rintro ⟨h1, h2⟩
    rw [List.length_map]
    exact h2.symm
def endsB (x p : List UInt8) : Bool := startsB x p && match x[p.length]? with
  | some c => !inNm c
  | none => false
theorem nm_not (c : UInt8) : (!inNm c) = (blB c || c == 47 || c == 62) := by
  unfold inNm
  cases blB c <;> cases (c == 47) <;> cases (c == 62) <;> rfl
theorem hits_ends (nm x : List UInt8) : hits nm x = endsB x (60 :: 47 :: nm) := by
  unfold hits endsB
  rw [pre_starts]
  congr 1
  have e : (60 :: 47 :: nm).length = 2 + nm.length := by simp; omega
  rw [e]
  by_cases h : 2 + nm.length < x.length
  · rw [List.drop_eq_getElem_cons h, List.getElem?_eq_getElem h]
    exact (nm_not _).symm
  · rw [List.drop_eq_nil_of_le (by omega), List.getElem?_eq_none (by omega)]
set_option maxHeartbeats 2000000 in
theorem ends_c (x p : List UInt8) (hp : p.length ≤ 65536) (w : World) :
    Calls Try.prog 68 #[.string (S x), .string (S p)] w fun e w' => e = .returned (.bool (endsB x p)) ∧ Below w.heap.size w w' := by
  have hst := fun w => starts_c (S x) (S p) w (by rw [size_S]; omega)
  rw [list_S, list_S] at hst
  have hsx : ((S x).size : Int) = (x.length : Int) := by rw [size_S]
  have hsp : ((S p).size : Int) = (p.length : Int) := by rw [size_S]
  have i0 : (0 : Int) ≤ (p.length : Int) := by omega
  unfold endsB
  cases hq : startsB x p with
  | false =>
    rw [hq] at hst
    show Calls _ _ _ _ fun e w' => e = .returned (.bool false) ∧ _
    generalize S x = X at *
    generalize S p = P at *
    go_enter Try.func68, Try.ntmps68
    go_wp2_with (go_at_call 80; refine (hst _).mono ?_; rintro e w1 ⟨rfl, h1⟩)
    go_ret
    exact ⟨rfl, h1⟩
  | true =>
    rw [hq] at hst
    by_cases hl : p.length < x.length
    · rw [List.getElem?_eq_getElem hl]
      obtain ⟨c, hcc⟩ : ∃ c, c = x[p.length] := ⟨_, rfl⟩
      show Calls _ _ _ _ fun e w' => e = .returned (.bool (true && !inNm x[p.length])) ∧ _
      rw [← hcc]
      obtain ⟨X, hX⟩ : ∃ X, X = S x := ⟨_, rfl⟩
      have hat : ∀ h : p.length < X.size, X[p.length]'h = c := by subst hX; intro _; rw [hcc]; exact at_T x p.length hl
      have i1 : (p.length : Int) < (x.length : Int) := by omega
      have i2 : p.length < X.size := by rw [hX, size_S]; exact hl
      have hd : decide ((p.length : Int) < (x.length : Int)) = true := decide_eq_true i1
      have hbyte : ((c.toNat : Int)) ≤ 255 := by have := c.toNat_lt; omega
      have hc := nm_c c
      rw [← hX] at hst hsx ⊢
      clear hX hcc hq
      generalize inNm c = b at hc ⊢
      generalize S p = P at *
      go_enter Try.func68, Try.ntmps68
      go_wp2_with (first
        | (go_at_call 80; refine (hst _).mono ?_; rintro e w1 ⟨rfl, h1⟩)
        | (go_at_call 61; refine (hc _).mono ?_; rintro e w2 ⟨rfl, rfl⟩))
      go_ret
      exact ⟨rfl, h1⟩
    · rw [List.getElem?_eq_none (by omega)]
      show Calls _ _ _ _ fun e w' => e = .returned (.bool false) ∧ _
      have hd : decide ((p.length : Int) < (x.length : Int)) = false := decide_eq_false (by omega)
      have hd2 : ¬ ((p.length : Int) < (x.length : Int)) := by omega
      generalize S x = X at *
      generalize S p = P at *
      go_enter Try.func68, Try.ntmps68
      go_wp2_with (go_at_call 80; refine (hst _).mono ?_; rintro e w1 ⟨rfl, h1⟩)
      go_ret
      exact ⟨rfl, h1⟩
theorem place_at {s : List UInt8} : ∀ {l : List (List UInt8)} {k : Nat}, placeL s l = some k → l[k]? = some s
  | [], k, h => by cases h
  | x :: r, k, h => by
    unfold placeL at h
    split at h
    · rename_i e
      cases h
      rw [e]
      rfl
    · cases hp : placeL s r with
      | none => rw [hp] at h; cases h
      | some m =>
        rw [hp] at h
        cases h
        show r[m]? = some s
        exact place_at hp
theorem raw_name {nm : List UInt8} (h : 1 ≤ elemN nm ∧ elemN nm ≤ 3) : (∀ c ∈ nm, letB c = true ∧ low c = c) ∧ nm ≠ [] ∧ nm.length ≤ 8 := by
  unfold elemN at h
  cases hp : placeL nm elsL with
  | none => rw [hp] at h; exact absurd h.1 (by decide)
  | some k =>
    rw [hp] at h
    have hk := place_lt hp
    have ha := place_at hp
    have hall : ∀ i : Fin 10, 1 ≤ codeN i.val ∧ codeN i.val ≤ 3 → (∀ c ∈ elsL.getD i.val [], letB c = true ∧ low c = c) ∧ elsL.getD i.val [] ≠ [] ∧ (elsL.getD i.val []).length ≤ 8 := by decide +kernel
    have := hall ⟨k, hk⟩ h
    rw [List.getD_eq_getElem?_getD, ha] at this
    exact this
theorem grown_of' {w w' : World} {q : Nat} (h : w' = w.drewN q) : Below w.heap.size w w' := h ▸ Oct.below_drewN (Below.refl _ w) q
set_option maxHeartbeats 8000000 in
set_option maxRecDepth 100000 in
theorem rawText_c (R : Nat) (l : List UInt8) (hl : l.length ≤ 65536) (k : Nat) (hk : k ≤ l.length) (hk1 : 1 ≤ k) (v : Value) (ps : List (Tk × Value)) (w : World) (h : RdT R l k v ps w) (hn : ps.length ≤ 4096) (nm : List UInt8) (hnm : 1 ≤ elemN nm ∧ elemN nm ≤ 3)
    (hr : RawAt l k k (ps.map Prod.fst) nm (elemN nm)) :
    Calls Try.prog 49 #[.pointer (some ⟨R, 0, none⟩), .string (S nm)] w (Went R l (k - 1) w) := by
  obtain ⟨hlet, hne, hlen8⟩ := raw_name hnm
  have hlow := h.low
  have hsn : (S nm).size ≤ 8 := by rw [size_S]; exact hlen8
  have e1 : (⟨#[60, 47]⟩ : ByteArray) ++ S nm = S (60 :: 47 :: nm) := S_append [60, 47] nm
  have hcc : ¬ (9223372036854775807 < 2 + (S nm).size) := by omega
  have hcc2 : ((S nm).size : Int) ≤ 140737488351232 := by omega
  have hsz : ((S l).size : Int) = (l.length : Int) := by rw [size_S]
  have hsz2 : (S l).size = l.length := size_S l
  have hex := fun j W => ends_c (l.drop j) (60 :: 47 :: nm) (by rw [List.length_cons, List.length_cons]; omega) W
  have hcut := fun j => (cutFrom (S l) j).trans (by rw [list_S] : S ((S l).data.toList.drop j) = S (l.drop j))
  have HX : Hid (∀ j v W, Bx R l j v W → W.cell? ⟨R, 0, none⟩ = some (.string (S l)) ∧ W.cell? ⟨R, 1, none⟩ = some (.int .i64 (j : Int)) ∧ W.frozen? ⟨R, 1, none⟩ = false) := fun j v W h => ⟨(h.cell 0).trans rfl, (h.cell 1).trans rfl, h.froz 1⟩
  obtain ⟨c0, c1, -⟩ := HX.out _ _ _ h.box
  have H0 := Lib.hid (And.intro hr h)
  have HM := Lib.hid (And.intro hlet hne)
  have HC := Lib.hid (And.intro hcut hex)
  obtain ⟨N, hN⟩ : ∃ N, N = S nm := ⟨_, rfl⟩
  obtain ⟨P, hP⟩ : ∃ P, P = S (60 :: 47 :: nm) := ⟨_, rfl⟩
  obtain ⟨L, hL⟩ : ∃ L, L = S l := ⟨_, rfl⟩
  obtain ⟨ev, hev⟩ : ∃ ev : Int, ev = ((elemN nm : Nat) : Int) := ⟨_, rfl⟩
  have HEv := Lib.hid hev
  have HEl : Hid (∀ w, Calls Try.prog 67 #[.string N] w fun e w' => e = .returned (.int .i64 ev) ∧ Below w.heap.size w w') := fun w => by rw [hN, hev]; exact element_c nm w
  have HCut : Hid (∀ j, L.extract j L.size = S (l.drop j)) := fun j => by rw [hL]; exact hcut j
  have HEx : Hid (∀ j W, Calls Try.prog 68 #[.string (S (l.drop j)), .string P] W fun e w' => e = .returned (.bool (endsB (l.drop j) (60 :: 47 :: nm))) ∧ Below W.heap.size W w') := fun j W => by rw [hP]; exact hex j W
  rw [← hN, ← hP] at e1
  rw [← hN] at hcc hcc2 hsn ⊢
  rw [← hL] at hsz hsz2 HX c0
  clear hev hL hN hP hcut hex HC hr h
  go_enter Try.func49, Try.ntmps49
  go_wp2_with fail
  go_loopw [] (fun wr => ∃ j : Nat, k ≤ j ∧ j ≤ l.length ∧ Hid (RawAt l k j (ps.map Prod.fst) nm (elemN nm)) ∧ Hid (RdT R l j v ps wr) ∧ Hid (Keeps R w wr)) (fun wr => l.length - atOf R wr)
  case atStart => exact ⟨k, Nat.le_refl _, hk, H0.out.1, H0.out.2, Keeps.refl R w⟩
  case round =>
    clear H0 c0 c1
    obtain ⟨j, hkj, hjl, hA, hT, hB⟩ := hrel
    obtain ⟨x0, x1, z1⟩ := HX.out _ _ _ hT.out.box
    have hAt := Lib.hid (hT.out.box.atOf)
    have i0 : (0 : Int) ≤ (j : Int) := by omega
    have i1 : (j : Int) ≤ (l.length : Int) := by omega
    have i2 : (l.length : Int) ≤ 65536 := by omega
    by_cases hj : j < l.length
    · have i3 : (j : Int) < (l.length : Int) := by omega
      have hd : decide ((j : Int) < (l.length : Int)) = true := decide_eq_true i3
      have hen := HEx.out j
      rw [← hits_ends, ← HCut.out j, hsz2] at hen
      have k0 : wr.drew.cell? ⟨R, 0, none⟩ = some (.string L) ∧ wr.drew.cell? ⟨R, 1, none⟩ = some (.int .i64 (j : Int)) := ⟨x0, x1⟩
      cases hh : hits nm (l.drop j) with
      | false =>
        rw [hh] at hen
        go_wp2_with fail
        refine wp_region_held_drew (S := (fun w' => w'.cell? ⟨R, 0, none⟩ = some (.string L) ∧ w'.cell? ⟨R, 1, none⟩ = some (.int .i64 (j : Int)))) (by kernel_rfl) k0 (fun hHeld => ?_)
        refine wpAnyH_take (i := 0) (v := ?_) rfl (by kernel_rfl) (by kernel_rfl) (by kernel_rfl) (fun _ _ _ h => h) (Or.inl ⟨by kernel_rfl, ?_⟩) (by assumption) ?_
        rotate_left
        · intro w hSw
          try dsimp only at hSw
          obtain ⟨hS0, hS1⟩ := hSw
          go_simp
          try with_reducible rfl
        (try simp only [List.getElem_toArray]); (try simp only [List.getElem_cons_succ]); (try simp only [List.getElem_cons_zero]); (try simp only [Act.put]); (try simp only [List.setIfInBounds_toArray]); (try simp only [List.set_cons_succ]); (try simp only [List.set_cons_zero])
        refine wpAnyH_take (i := 1) (v := ?_) rfl (by kernel_rfl) (by kernel_rfl) (by kernel_rfl) (fun _ _ _ h => h) (Or.inl ⟨by kernel_rfl, ?_⟩) (by assumption) ?_
        rotate_left
        · intro w hSw
          try dsimp only at hSw
          obtain ⟨hS0, hS1⟩ := hSw
          go_simp
          try with_reducible rfl
        (try simp only [List.getElem_toArray]); (try simp only [List.getElem_cons_succ]); (try simp only [List.getElem_cons_zero]); (try simp only [Act.put]); (try simp only [List.setIfInBounds_toArray]); (try simp only [List.set_cons_succ]); (try simp only [List.set_cons_zero])
        refine wpAnyH_take (i := 2) (v := ?_) rfl (by kernel_rfl) (by kernel_rfl) (by kernel_rfl) (fun _ _ _ h => h) (Or.inl ⟨by kernel_rfl, ?_⟩) (by assumption) ?_
        rotate_left
        · intro w hSw
          try dsimp only at hSw
          obtain ⟨hS0, hS1⟩ := hSw
          go_simp
          try with_reducible rfl
        (try simp only [List.getElem_toArray]); (try simp only [List.getElem_cons_succ]); (try simp only [List.getElem_cons_zero]); (try simp only [Act.put]); (try simp only [List.setIfInBounds_toArray]); (try simp only [List.set_cons_succ]); (try simp only [List.set_cons_zero])
        refine wpAnyH_take (i := 3) (v := ?_) rfl (by kernel_rfl) (by kernel_rfl) (by kernel_rfl) (fun _ _ _ h => h) (Or.inl ⟨by kernel_rfl, ?_⟩) (by assumption) ?_
        rotate_left
        · intro w hSw
          try dsimp only at hSw
          obtain ⟨hS0, hS1⟩ := hSw
          go_simp
          try with_reducible rfl
        (try simp only [List.getElem_toArray]); (try simp only [List.getElem_cons_succ]); (try simp only [List.getElem_cons_zero]); (try simp only [Act.put]); (try simp only [List.setIfInBounds_toArray]); (try simp only [List.set_cons_succ]); (try simp only [List.set_cons_zero])
        refine wpAnyH_take (i := 4) (v := ?_) rfl (by kernel_rfl) (by kernel_rfl) (by kernel_rfl) (fun _ _ _ h => h) (Or.inl ⟨by kernel_rfl, ?_⟩) (by assumption) ?_
        rotate_left
        · intro w hSw
          try dsimp only at hSw
          obtain ⟨hS0, hS1⟩ := hSw
          go_simp
          try with_reducible rfl
        (try simp only [List.getElem_toArray]); (try simp only [List.getElem_cons_succ]); (try simp only [List.getElem_cons_zero]); (try simp only [Act.put]); (try simp only [List.setIfInBounds_toArray]); (try simp only [List.set_cons_succ]); (try simp only [List.set_cons_zero])
        refine wpAnyH_take (i := 5) (v := ?_) rfl (by kernel_rfl) (by kernel_rfl) (by kernel_rfl) (fun _ _ _ h => h) (Or.inl ⟨by kernel_rfl, ?_⟩) (by assumption) ?_
        rotate_left
        · intro w hSw
          try dsimp only at hSw
          obtain ⟨hS0, hS1⟩ := hSw
          go_simp
          try with_reducible rfl
        (try simp only [List.getElem_toArray]); (try simp only [List.getElem_cons_succ]); (try simp only [List.getElem_cons_zero]); (try simp only [Act.put]); (try simp only [List.setIfInBounds_toArray]); (try simp only [List.set_cons_succ]); (try simp only [List.set_cons_zero])
        refine wpAnyH_take (i := 6) (v := ?_) rfl (by kernel_rfl) (by kernel_rfl) (by kernel_rfl) (fun _ _ _ h => h) (Or.inl ⟨by kernel_rfl, ?_⟩) (by assumption) ?_
        rotate_left
        · intro w hSw
          try dsimp only at hSw
          obtain ⟨hS0, hS1⟩ := hSw
          go_simp
          try with_reducible rfl
        (try simp only [List.getElem_toArray]); (try simp only [List.getElem_cons_succ]); (try simp only [List.getElem_cons_zero]); (try simp only [Act.put]); (try simp only [List.setIfInBounds_toArray]); (try simp only [List.set_cons_succ]); (try simp only [List.set_cons_zero])
        refine wpAnyH_take (i := 7) (v := ?_) rfl (by kernel_rfl) (by kernel_rfl) (by kernel_rfl) (fun _ _ _ h => h) (Or.inl ⟨by kernel_rfl, ?_⟩) (by assumption) ?_
        rotate_left
        · intro w hSw
          try dsimp only at hSw
          obtain ⟨hS0, hS1⟩ := hSw
          go_simp
          try with_reducible rfl
        (try simp only [List.getElem_toArray]); (try simp only [List.getElem_cons_succ]); (try simp only [List.getElem_cons_zero]); (try simp only [Act.put]); (try simp only [List.setIfInBounds_toArray]); (try simp only [List.set_cons_succ]); (try simp only [List.set_cons_zero])
        refine wpAnyH_take (i := 8) (v := ?_) rfl (by kernel_rfl) (by kernel_rfl) (by kernel_rfl) (fun _ _ _ h => h) (Or.inl ⟨by kernel_rfl, ?_⟩) (by assumption) ?_
        rotate_left
        · intro w hSw
          try dsimp only at hSw
          obtain ⟨hS0, hS1⟩ := hSw
          go_simp
          try with_reducible rfl
        (try simp only [List.getElem_toArray]); (try simp only [List.getElem_cons_succ]); (try simp only [List.getElem_cons_zero]); (try simp only [Act.put]); (try simp only [List.setIfInBounds_toArray]); (try simp only [List.set_cons_succ]); (try simp only [List.set_cons_zero])
        refine wpAnyH_take (i := 9) (v := ?_) rfl (by kernel_rfl) (by kernel_rfl) (by kernel_rfl) (fun _ _ _ h => h) (Or.inl ⟨by kernel_rfl, ?_⟩) (by assumption) ?_
        rotate_left
        · intro w hSw
          try dsimp only at hSw
          obtain ⟨hS0, hS1⟩ := hSw
          go_simp
          try with_reducible rfl
        (try simp only [List.getElem_toArray]); (try simp only [List.getElem_cons_succ]); (try simp only [List.getElem_cons_zero]); (try simp only [Act.put]); (try simp only [List.setIfInBounds_toArray]); (try simp only [List.set_cons_succ]); (try simp only [List.set_cons_zero])
        refine wpAnyH_take (i := 10) (v := ?_) rfl (by kernel_rfl) (by kernel_rfl) (by kernel_rfl) (fun _ _ _ h => h) (Or.inl ⟨by kernel_rfl, ?_⟩) (by assumption) ?_
        rotate_left
        · intro w hSw
          try dsimp only at hSw
          obtain ⟨hS0, hS1⟩ := hSw
          go_simp
          try with_reducible rfl
        (try simp only [List.getElem_toArray]); (try simp only [List.getElem_cons_succ]); (try simp only [List.getElem_cons_zero]); (try simp only [Act.put]); (try simp only [List.setIfInBounds_toArray]); (try simp only [List.set_cons_succ]); (try simp only [List.set_cons_zero])
        refine wpAnyH_take (i := 11) (v := ?_) rfl (by kernel_rfl) (by kernel_rfl) (by kernel_rfl) (fun _ _ _ h => h) (Or.inl ⟨by kernel_rfl, ?_⟩) (by assumption) ?_
        rotate_left
        · intro w hSw
          try dsimp only at hSw
          obtain ⟨hS0, hS1⟩ := hSw
          go_simp
          try with_reducible rfl
        (try simp only [List.getElem_toArray]); (try simp only [List.getElem_cons_succ]); (try simp only [List.getElem_cons_zero]); (try simp only [Act.put]); (try simp only [List.setIfInBounds_toArray]); (try simp only [List.set_cons_succ]); (try simp only [List.set_cons_zero])
        refine wpAnyH_take (i := 12) (v := ?_) rfl (by kernel_rfl) (by kernel_rfl) (by kernel_rfl) (fun _ _ _ h => h) (Or.inl ⟨by kernel_rfl, ?_⟩) (by assumption) ?_
        rotate_left
        · intro w hSw
          try dsimp only at hSw
          obtain ⟨hS0, hS1⟩ := hSw
          go_simp
          try with_reducible rfl
        (try simp only [List.getElem_toArray]); (try simp only [List.getElem_cons_succ]); (try simp only [List.getElem_cons_zero]); (try simp only [Act.put]); (try simp only [List.setIfInBounds_toArray]); (try simp only [List.set_cons_succ]); (try simp only [List.set_cons_zero])
        refine wpAnyH_take (i := 13) (v := ?_) rfl (by kernel_rfl) (by kernel_rfl) (by kernel_rfl) (fun _ _ _ h => h) (Or.inl ⟨by kernel_rfl, ?_⟩) (by assumption) ?_
        rotate_left
        · intro w hSw
          try dsimp only at hSw
          obtain ⟨hS0, hS1⟩ := hSw
          go_simp
          try with_reducible rfl
        (try simp only [List.getElem_toArray]); (try simp only [List.getElem_cons_succ]); (try simp only [List.getElem_cons_zero]); (try simp only [Act.put]); (try simp only [List.setIfInBounds_toArray]); (try simp only [List.set_cons_succ]); (try simp only [List.set_cons_zero])
        refine wpAnyH_take (i := 14) (v := ?_) rfl (by kernel_rfl) (by kernel_rfl) (by kernel_rfl) (fun _ _ _ h => h) (Or.inl ⟨by kernel_rfl, ?_⟩) (by assumption) ?_
        rotate_left
        · intro w hSw
          try dsimp only at hSw
          obtain ⟨hS0, hS1⟩ := hSw
          go_simp
          try with_reducible rfl
        (try simp only [List.getElem_toArray]); (try simp only [List.getElem_cons_succ]); (try simp only [List.getElem_cons_zero]); (try simp only [Act.put]); (try simp only [List.setIfInBounds_toArray]); (try simp only [List.set_cons_succ]); (try simp only [List.set_cons_zero])
        refine wpAnyH_take (i := 15) (v := ?_) rfl (by kernel_rfl) (by kernel_rfl) (by kernel_rfl) (fun _ _ _ h => h) (Or.inl ⟨by kernel_rfl, ?_⟩) (by assumption) ?_
        rotate_left
        · intro w hSw
          try dsimp only at hSw
          obtain ⟨hS0, hS1⟩ := hSw
          go_simp
          try with_reducible rfl
        (try simp only [List.getElem_toArray]); (try simp only [List.getElem_cons_succ]); (try simp only [List.getElem_cons_zero]); (try simp only [Act.put]); (try simp only [List.setIfInBounds_toArray]); (try simp only [List.set_cons_succ]); (try simp only [List.set_cons_zero])
        refine wpAnyH_take (i := 16) (v := ?_) rfl (by kernel_rfl) (by kernel_rfl) (by kernel_rfl) (fun _ _ _ h => h) (Or.inl ⟨by kernel_rfl, ?_⟩) (by assumption) ?_
        rotate_left
        · intro w hSw
          try dsimp only at hSw
          obtain ⟨hS0, hS1⟩ := hSw
          go_simp
          try with_reducible rfl
        (try simp only [List.getElem_toArray]); (try simp only [List.getElem_cons_succ]); (try simp only [List.getElem_cons_zero]); (try simp only [Act.put]); (try simp only [List.setIfInBounds_toArray]); (try simp only [List.set_cons_succ]); (try simp only [List.set_cons_zero])
        refine wpAnyH_take (i := 17) (v := ?_) rfl (by kernel_rfl) (by kernel_rfl) (by kernel_rfl) (fun _ _ _ h => h) (Or.inl ⟨by kernel_rfl, ?_⟩) (by assumption) ?_
        rotate_left
        · intro w hSw
          try dsimp only at hSw
          obtain ⟨hS0, hS1⟩ := hSw
          go_simp
          try with_reducible rfl
        (try simp only [List.getElem_toArray]); (try simp only [List.getElem_cons_succ]); (try simp only [List.getElem_cons_zero]); (try simp only [Act.put]); (try simp only [List.setIfInBounds_toArray]); (try simp only [List.set_cons_succ]); (try simp only [List.set_cons_zero])
        refine wpAnyH_take (i := 18) (v := ?_) rfl (by kernel_rfl) (by kernel_rfl) (by kernel_rfl) (fun _ _ _ h => h) (Or.inl ⟨by kernel_rfl, ?_⟩) (by assumption) ?_
        rotate_left
        · intro w hSw
          try dsimp only at hSw
          obtain ⟨hS0, hS1⟩ := hSw
          go_simp
          try with_reducible rfl
        (try simp only [List.getElem_toArray]); (try simp only [List.getElem_cons_succ]); (try simp only [List.getElem_cons_zero]); (try simp only [Act.put]); (try simp only [List.setIfInBounds_toArray]); (try simp only [List.set_cons_succ]); (try simp only [List.set_cons_zero])
        refine wpAnyH_take (i := 19) (v := ?_) rfl (by kernel_rfl) (by kernel_rfl) (by kernel_rfl) (fun _ _ _ h => h) (Or.inl ⟨by kernel_rfl, ?_⟩) (by assumption) ?_
        rotate_left
        · intro w hSw
          try dsimp only at hSw
          obtain ⟨hS0, hS1⟩ := hSw
          go_simp
          try with_reducible rfl
        (try simp only [List.getElem_toArray]); (try simp only [List.getElem_cons_succ]); (try simp only [List.getElem_cons_zero]); (try simp only [Act.put]); (try simp only [List.setIfInBounds_toArray]); (try simp only [List.set_cons_succ]); (try simp only [List.set_cons_zero])
        refine wpAnyH_take (i := 20) (v := ?_) rfl (by kernel_rfl) (by kernel_rfl) (by kernel_rfl) (fun _ _ _ h => h) (Or.inl ⟨by kernel_rfl, ?_⟩) (by assumption) ?_
        rotate_left
        · intro w hSw
          try dsimp only at hSw
          obtain ⟨hS0, hS1⟩ := hSw
          go_simp
          try with_reducible rfl
        (try simp only [List.getElem_toArray]); (try simp only [List.getElem_cons_succ]); (try simp only [List.getElem_cons_zero]); (try simp only [Act.put]); (try simp only [List.setIfInBounds_toArray]); (try simp only [List.set_cons_succ]); (try simp only [List.set_cons_zero])
        refine wpAnyH_ready (rs := [21]) (by kernel_rfl) (by simp) ?_
        refine AllReadyH.cons rfl (fun K hK => ?_) AllReadyH.nil
        go_simp
        refine (hen _).mono ?_
        rintro e w1 ⟨rfl, hb0⟩
        have hb1 : Below wr.heap.size wr w1 := ⟨hb0.os, hb0.tape, hb0.output, hb0.size, hb0.block⟩
        have T1 := hT.out.grow hb1
        have d01 := HX.out _ _ _ T1.box
        have HT1 := Lib.hid (And.intro T1 (hB.out.trans (Keeps.of hb1)))
        refine hK.out _ _ ⟨d01.1, d01.2.1⟩ (fun hHeld2 => ?_)
        clear hK K hHeld hb0 hb1 T1
        (try simp only [List.getElem_toArray]); (try simp only [List.getElem_cons_succ]); (try simp only [List.getElem_cons_zero]); (try simp only [Act.put]); (try simp only [List.setIfInBounds_toArray]); (try simp only [List.set_cons_succ]); (try simp only [List.set_cons_zero])
        refine wpAnyH_take (i := 22) (v := ?_) rfl (by kernel_rfl) (by kernel_rfl) (by kernel_rfl) (fun _ _ _ h => h) (Or.inl ⟨by kernel_rfl, ?_⟩) (by assumption) ?_
        rotate_left
        · intro w hSw
          try dsimp only at hSw
          obtain ⟨hS0, hS1⟩ := hSw
          go_simp
          try with_reducible rfl
        (try simp only [List.getElem_toArray]); (try simp only [List.getElem_cons_succ]); (try simp only [List.getElem_cons_zero]); (try simp only [Act.put]); (try simp only [List.setIfInBounds_toArray]); (try simp only [List.set_cons_succ]); (try simp only [List.set_cons_zero])
        refine wpAnyH_take (i := 23) (v := ?_) rfl (by kernel_rfl) (by kernel_rfl) (by kernel_rfl) (fun _ _ _ h => h) (Or.inl ⟨by kernel_rfl, ?_⟩) (by assumption) ?_
        rotate_left
        · intro w hSw
          try dsimp only at hSw
          obtain ⟨hS0, hS1⟩ := hSw
          go_simp
          try with_reducible rfl
        (try simp only [List.getElem_toArray]); (try simp only [List.getElem_cons_succ]); (try simp only [List.getElem_cons_zero]); (try simp only [Act.put]); (try simp only [List.setIfInBounds_toArray]); (try simp only [List.set_cons_succ]); (try simp only [List.set_cons_zero])
        refine wpAnyH_done (by kernel_rfl) ?_ _
        have y1 := d01.2.1
        have y2 := d01.2.2
        go_wp2_with fail
        go_roundw
        case rel => exact ⟨j + 1, by omega, by omega, raw_go hj hkj hh hA.out, HT1.out.1.keep (Keeps.set _ _) (HT1.out.1.box.at_ (j + 1)), HT1.out.2.trans (Keeps.set _ _)⟩
        case measure =>
          have e1 := hAt.out
          have e2 := (HT1.out.1.box.at_ (j + 1)).atOf
          show l.length - atOf R _ < l.length - atOf R _
          rw [e1]
          have e3 : atOf R (w1.setCell ⟨R, 1, none⟩ (.int .i64 ((j : Int) + 1))) = j + 1 := e2
          first | (rw [e3]; omega) | (simp only [e3]; omega) | (rw [e2]; omega)
      | true =>
        rw [hh] at hen
        go_wp2_with fail
        refine wp_region_held_drew (S := (fun w' => w'.cell? ⟨R, 0, none⟩ = some (.string L) ∧ w'.cell? ⟨R, 1, none⟩ = some (.int .i64 (j : Int)))) (by kernel_rfl) k0 (fun hHeld => ?_)
        refine wpAnyH_take (i := 0) (v := ?_) rfl (by kernel_rfl) (by kernel_rfl) (by kernel_rfl) (fun _ _ _ h => h) (Or.inl ⟨by kernel_rfl, ?_⟩) (by assumption) ?_
        rotate_left
        · intro w hSw
          try dsimp only at hSw
          obtain ⟨hS0, hS1⟩ := hSw
          go_simp
          try with_reducible rfl
        (try simp only [List.getElem_toArray]); (try simp only [List.getElem_cons_succ]); (try simp only [List.getElem_cons_zero]); (try simp only [Act.put]); (try simp only [List.setIfInBounds_toArray]); (try simp only [List.set_cons_succ]); (try simp only [List.set_cons_zero])
        refine wpAnyH_take (i := 1) (v := ?_) rfl (by kernel_rfl) (by kernel_rfl) (by kernel_rfl) (fun _ _ _ h => h) (Or.inl ⟨by kernel_rfl, ?_⟩) (by assumption) ?_
        rotate_left
        · intro w hSw
          try dsimp only at hSw
          obtain ⟨hS0, hS1⟩ := hSw
          go_simp
          try with_reducible rfl
        (try simp only [List.getElem_toArray]); (try simp only [List.getElem_cons_succ]); (try simp only [List.getElem_cons_zero]); (try simp only [Act.put]); (try simp only [List.setIfInBounds_toArray]); (try simp only [List.set_cons_succ]); (try simp only [List.set_cons_zero])
        refine wpAnyH_take (i := 2) (v := ?_) rfl (by kernel_rfl) (by kernel_rfl) (by kernel_rfl) (fun _ _ _ h => h) (Or.inl ⟨by kernel_rfl, ?_⟩) (by assumption) ?_
        rotate_left
        · intro w hSw
          try dsimp only at hSw
          obtain ⟨hS0, hS1⟩ := hSw
          go_simp
          try with_reducible rfl
        (try simp only [List.getElem_toArray]); (try simp only [List.getElem_cons_succ]); (try simp only [List.getElem_cons_zero]); (try simp only [Act.put]); (try simp only [List.setIfInBounds_toArray]); (try simp only [List.set_cons_succ]); (try simp only [List.set_cons_zero])
        refine wpAnyH_take (i := 3) (v := ?_) rfl (by kernel_rfl) (by kernel_rfl) (by kernel_rfl) (fun _ _ _ h => h) (Or.inl ⟨by kernel_rfl, ?_⟩) (by assumption) ?_
        rotate_left
        · intro w hSw
          try dsimp only at hSw
          obtain ⟨hS0, hS1⟩ := hSw
          go_simp
          try with_reducible rfl
        (try simp only [List.getElem_toArray]); (try simp only [List.getElem_cons_succ]); (try simp only [List.getElem_cons_zero]); (try simp only [Act.put]); (try simp only [List.setIfInBounds_toArray]); (try simp only [List.set_cons_succ]); (try simp only [List.set_cons_zero])
        refine wpAnyH_take (i := 4) (v := ?_) rfl (by kernel_rfl) (by kernel_rfl) (by kernel_rfl) (fun _ _ _ h => h) (Or.inl ⟨by kernel_rfl, ?_⟩) (by assumption) ?_
        rotate_left
        · intro w hSw
          try dsimp only at hSw
          obtain ⟨hS0, hS1⟩ := hSw
          go_simp
          try with_reducible rfl
        (try simp only [List.getElem_toArray]); (try simp only [List.getElem_cons_succ]); (try simp only [List.getElem_cons_zero]); (try simp only [Act.put]); (try simp only [List.setIfInBounds_toArray]); (try simp only [List.set_cons_succ]); (try simp only [List.set_cons_zero])
        refine wpAnyH_take (i := 5) (v := ?_) rfl (by kernel_rfl) (by kernel_rfl) (by kernel_rfl) (fun _ _ _ h => h) (Or.inl ⟨by kernel_rfl, ?_⟩) (by assumption) ?_
        rotate_left
        · intro w hSw
          try dsimp only at hSw
          obtain ⟨hS0, hS1⟩ := hSw
          go_simp
          try with_reducible rfl
        (try simp only [List.getElem_toArray]); (try simp only [List.getElem_cons_succ]); (try simp only [List.getElem_cons_zero]); (try simp only [Act.put]); (try simp only [List.setIfInBounds_toArray]); (try simp only [List.set_cons_succ]); (try simp only [List.set_cons_zero])
        refine wpAnyH_take (i := 6) (v := ?_) rfl (by kernel_rfl) (by kernel_rfl) (by kernel_rfl) (fun _ _ _ h => h) (Or.inl ⟨by kernel_rfl, ?_⟩) (by assumption) ?_
        rotate_left
        · intro w hSw
          try dsimp only at hSw
          obtain ⟨hS0, hS1⟩ := hSw
          go_simp
          try with_reducible rfl
        (try simp only [List.getElem_toArray]); (try simp only [List.getElem_cons_succ]); (try simp only [List.getElem_cons_zero]); (try simp only [Act.put]); (try simp only [List.setIfInBounds_toArray]); (try simp only [List.set_cons_succ]); (try simp only [List.set_cons_zero])
        refine wpAnyH_take (i := 7) (v := ?_) rfl (by kernel_rfl) (by kernel_rfl) (by kernel_rfl) (fun _ _ _ h => h) (Or.inl ⟨by kernel_rfl, ?_⟩) (by assumption) ?_
        rotate_left
        · intro w hSw
          try dsimp only at hSw
          obtain ⟨hS0, hS1⟩ := hSw
          go_simp
          try with_reducible rfl
        (try simp only [List.getElem_toArray]); (try simp only [List.getElem_cons_succ]); (try simp only [List.getElem_cons_zero]); (try simp only [Act.put]); (try simp only [List.setIfInBounds_toArray]); (try simp only [List.set_cons_succ]); (try simp only [List.set_cons_zero])
        refine wpAnyH_take (i := 8) (v := ?_) rfl (by kernel_rfl) (by kernel_rfl) (by kernel_rfl) (fun _ _ _ h => h) (Or.inl ⟨by kernel_rfl, ?_⟩) (by assumption) ?_
        rotate_left
        · intro w hSw
          try dsimp only at hSw
          obtain ⟨hS0, hS1⟩ := hSw
          go_simp
          try with_reducible rfl
        (try simp only [List.getElem_toArray]); (try simp only [List.getElem_cons_succ]); (try simp only [List.getElem_cons_zero]); (try simp only [Act.put]); (try simp only [List.setIfInBounds_toArray]); (try simp only [List.set_cons_succ]); (try simp only [List.set_cons_zero])
        refine wpAnyH_take (i := 9) (v := ?_) rfl (by kernel_rfl) (by kernel_rfl) (by kernel_rfl) (fun _ _ _ h => h) (Or.inl ⟨by kernel_rfl, ?_⟩) (by assumption) ?_
        rotate_left
        · intro w hSw
          try dsimp only at hSw
          obtain ⟨hS0, hS1⟩ := hSw
          go_simp
          try with_reducible rfl
        (try simp only [List.getElem_toArray]); (try simp only [List.getElem_cons_succ]); (try simp only [List.getElem_cons_zero]); (try simp only [Act.put]); (try simp only [List.setIfInBounds_toArray]); (try simp only [List.set_cons_succ]); (try simp only [List.set_cons_zero])
        refine wpAnyH_take (i := 10) (v := ?_) rfl (by kernel_rfl) (by kernel_rfl) (by kernel_rfl) (fun _ _ _ h => h) (Or.inl ⟨by kernel_rfl, ?_⟩) (by assumption) ?_
        rotate_left
        · intro w hSw
          try dsimp only at hSw
          obtain ⟨hS0, hS1⟩ := hSw
          go_simp
          try with_reducible rfl
        (try simp only [List.getElem_toArray]); (try simp only [List.getElem_cons_succ]); (try simp only [List.getElem_cons_zero]); (try simp only [Act.put]); (try simp only [List.setIfInBounds_toArray]); (try simp only [List.set_cons_succ]); (try simp only [List.set_cons_zero])
        refine wpAnyH_take (i := 11) (v := ?_) rfl (by kernel_rfl) (by kernel_rfl) (by kernel_rfl) (fun _ _ _ h => h) (Or.inl ⟨by kernel_rfl, ?_⟩) (by assumption) ?_
        rotate_left
        · intro w hSw
          try dsimp only at hSw
          obtain ⟨hS0, hS1⟩ := hSw
          go_simp
          try with_reducible rfl
        (try simp only [List.getElem_toArray]); (try simp only [List.getElem_cons_succ]); (try simp only [List.getElem_cons_zero]); (try simp only [Act.put]); (try simp only [List.setIfInBounds_toArray]); (try simp only [List.set_cons_succ]); (try simp only [List.set_cons_zero])
        refine wpAnyH_take (i := 12) (v := ?_) rfl (by kernel_rfl) (by kernel_rfl) (by kernel_rfl) (fun _ _ _ h => h) (Or.inl ⟨by kernel_rfl, ?_⟩) (by assumption) ?_
        rotate_left
        · intro w hSw
          try dsimp only at hSw
          obtain ⟨hS0, hS1⟩ := hSw
          go_simp
          try with_reducible rfl
        (try simp only [List.getElem_toArray]); (try simp only [List.getElem_cons_succ]); (try simp only [List.getElem_cons_zero]); (try simp only [Act.put]); (try simp only [List.setIfInBounds_toArray]); (try simp only [List.set_cons_succ]); (try simp only [List.set_cons_zero])
        refine wpAnyH_take (i := 13) (v := ?_) rfl (by kernel_rfl) (by kernel_rfl) (by kernel_rfl) (fun _ _ _ h => h) (Or.inl ⟨by kernel_rfl, ?_⟩) (by assumption) ?_
        rotate_left
        · intro w hSw
          try dsimp only at hSw
          obtain ⟨hS0, hS1⟩ := hSw
          go_simp
          try with_reducible rfl
        (try simp only [List.getElem_toArray]); (try simp only [List.getElem_cons_succ]); (try simp only [List.getElem_cons_zero]); (try simp only [Act.put]); (try simp only [List.setIfInBounds_toArray]); (try simp only [List.set_cons_succ]); (try simp only [List.set_cons_zero])
        refine wpAnyH_take (i := 14) (v := ?_) rfl (by kernel_rfl) (by kernel_rfl) (by kernel_rfl) (fun _ _ _ h => h) (Or.inl ⟨by kernel_rfl, ?_⟩) (by assumption) ?_
        rotate_left
        · intro w hSw
          try dsimp only at hSw
          obtain ⟨hS0, hS1⟩ := hSw
          go_simp
          try with_reducible rfl
        (try simp only [List.getElem_toArray]); (try simp only [List.getElem_cons_succ]); (try simp only [List.getElem_cons_zero]); (try simp only [Act.put]); (try simp only [List.setIfInBounds_toArray]); (try simp only [List.set_cons_succ]); (try simp only [List.set_cons_zero])
        refine wpAnyH_take (i := 15) (v := ?_) rfl (by kernel_rfl) (by kernel_rfl) (by kernel_rfl) (fun _ _ _ h => h) (Or.inl ⟨by kernel_rfl, ?_⟩) (by assumption) ?_
        rotate_left
        · intro w hSw
          try dsimp only at hSw
          obtain ⟨hS0, hS1⟩ := hSw
          go_simp
          try with_reducible rfl
        (try simp only [List.getElem_toArray]); (try simp only [List.getElem_cons_succ]); (try simp only [List.getElem_cons_zero]); (try simp only [Act.put]); (try simp only [List.setIfInBounds_toArray]); (try simp only [List.set_cons_succ]); (try simp only [List.set_cons_zero])
        refine wpAnyH_take (i := 16) (v := ?_) rfl (by kernel_rfl) (by kernel_rfl) (by kernel_rfl) (fun _ _ _ h => h) (Or.inl ⟨by kernel_rfl, ?_⟩) (by assumption) ?_
        rotate_left
        · intro w hSw
          try dsimp only at hSw
          obtain ⟨hS0, hS1⟩ := hSw
          go_simp
          try with_reducible rfl
        (try simp only [List.getElem_toArray]); (try simp only [List.getElem_cons_succ]); (try simp only [List.getElem_cons_zero]); (try simp only [Act.put]); (try simp only [List.setIfInBounds_toArray]); (try simp only [List.set_cons_succ]); (try simp only [List.set_cons_zero])
        refine wpAnyH_take (i := 17) (v := ?_) rfl (by kernel_rfl) (by kernel_rfl) (by kernel_rfl) (fun _ _ _ h => h) (Or.inl ⟨by kernel_rfl, ?_⟩) (by assumption) ?_
        rotate_left
        · intro w hSw
          try dsimp only at hSw
          obtain ⟨hS0, hS1⟩ := hSw
          go_simp
          try with_reducible rfl
        (try simp only [List.getElem_toArray]); (try simp only [List.getElem_cons_succ]); (try simp only [List.getElem_cons_zero]); (try simp only [Act.put]); (try simp only [List.setIfInBounds_toArray]); (try simp only [List.set_cons_succ]); (try simp only [List.set_cons_zero])
        refine wpAnyH_take (i := 18) (v := ?_) rfl (by kernel_rfl) (by kernel_rfl) (by kernel_rfl) (fun _ _ _ h => h) (Or.inl ⟨by kernel_rfl, ?_⟩) (by assumption) ?_
        rotate_left
        · intro w hSw
          try dsimp only at hSw
          obtain ⟨hS0, hS1⟩ := hSw
          go_simp
          try with_reducible rfl
        (try simp only [List.getElem_toArray]); (try simp only [List.getElem_cons_succ]); (try simp only [List.getElem_cons_zero]); (try simp only [Act.put]); (try simp only [List.setIfInBounds_toArray]); (try simp only [List.set_cons_succ]); (try simp only [List.set_cons_zero])
        refine wpAnyH_take (i := 19) (v := ?_) rfl (by kernel_rfl) (by kernel_rfl) (by kernel_rfl) (fun _ _ _ h => h) (Or.inl ⟨by kernel_rfl, ?_⟩) (by assumption) ?_
        rotate_left
        · intro w hSw
          try dsimp only at hSw
          obtain ⟨hS0, hS1⟩ := hSw
          go_simp
          try with_reducible rfl
        (try simp only [List.getElem_toArray]); (try simp only [List.getElem_cons_succ]); (try simp only [List.getElem_cons_zero]); (try simp only [Act.put]); (try simp only [List.setIfInBounds_toArray]); (try simp only [List.set_cons_succ]); (try simp only [List.set_cons_zero])
        refine wpAnyH_take (i := 20) (v := ?_) rfl (by kernel_rfl) (by kernel_rfl) (by kernel_rfl) (fun _ _ _ h => h) (Or.inl ⟨by kernel_rfl, ?_⟩) (by assumption) ?_
        rotate_left
        · intro w hSw
          try dsimp only at hSw
          obtain ⟨hS0, hS1⟩ := hSw
          go_simp
          try with_reducible rfl
        (try simp only [List.getElem_toArray]); (try simp only [List.getElem_cons_succ]); (try simp only [List.getElem_cons_zero]); (try simp only [Act.put]); (try simp only [List.setIfInBounds_toArray]); (try simp only [List.set_cons_succ]); (try simp only [List.set_cons_zero])
        refine wpAnyH_ready (rs := [21]) (by kernel_rfl) (by simp) ?_
        refine AllReadyH.cons rfl (fun K hK => ?_) AllReadyH.nil
        go_simp
        refine (hen _).mono ?_
        rintro e w1 ⟨rfl, hb0⟩
        have hb1 : Below wr.heap.size wr w1 := ⟨hb0.os, hb0.tape, hb0.output, hb0.size, hb0.block⟩
        have T1 := hT.out.grow hb1
        have d01 := HX.out _ _ _ T1.box
        have HT1 := Lib.hid (And.intro T1 (hB.out.trans (Keeps.of hb1)))
        refine hK.out _ _ ⟨d01.1, d01.2.1⟩ (fun hHeld2 => ?_)
        clear hK K hHeld hb0 hb1 T1
        (try simp only [List.getElem_toArray]); (try simp only [List.getElem_cons_succ]); (try simp only [List.getElem_cons_zero]); (try simp only [Act.put]); (try simp only [List.setIfInBounds_toArray]); (try simp only [List.set_cons_succ]); (try simp only [List.set_cons_zero])
        refine wpAnyH_take (i := 22) (v := ?_) rfl (by kernel_rfl) (by kernel_rfl) (by kernel_rfl) (fun _ _ _ h => h) (Or.inl ⟨by kernel_rfl, ?_⟩) (by assumption) ?_
        rotate_left
        · intro w hSw
          try dsimp only at hSw
          obtain ⟨hS0, hS1⟩ := hSw
          go_simp
          try with_reducible rfl
        (try simp only [List.getElem_toArray]); (try simp only [List.getElem_cons_succ]); (try simp only [List.getElem_cons_zero]); (try simp only [Act.put]); (try simp only [List.setIfInBounds_toArray]); (try simp only [List.set_cons_succ]); (try simp only [List.set_cons_zero])
        refine wpAnyH_take (i := 23) (v := ?_) rfl (by kernel_rfl) (by kernel_rfl) (by kernel_rfl) (fun _ _ _ h => h) (Or.inl ⟨by kernel_rfl, ?_⟩) (by assumption) ?_
        rotate_left
        · intro w hSw
          try dsimp only at hSw
          obtain ⟨hS0, hS1⟩ := hSw
          go_simp
          try with_reducible rfl
        (try simp only [List.getElem_toArray]); (try simp only [List.getElem_cons_succ]); (try simp only [List.getElem_cons_zero]); (try simp only [Act.put]); (try simp only [List.setIfInBounds_toArray]); (try simp only [List.set_cons_succ]); (try simp only [List.set_cons_zero])
        refine wpAnyH_done (by kernel_rfl) ?_ _
        have HFIN := raw_hit HM.out.1 HM.out.2 hh hA.out
        have hfin : Hid (DataMid l j j ((ps ++ txP (rawX (elemN nm) (cut l k j))).map Prod.fst)) := by
          show DataMid _ _ _ _
          rw [List.map_append, txP_fst]
          exact HFIN
        have hlen : Hid ((ps ++ txP (rawX (elemN nm) (cut l k j))).length ≤ (tokL l).length) := by
          show _ ≤ _
          have h := mid_len hfin.out
          rw [List.length_map] at h
          exact h
        have hsi := fun W (h : Bx R l j v W) => since_c R l j k v W h hkj hjl
        have hel := HEl.out
        have hcl1 : (cut l k j).length ≤ 65536 := Nat.le_trans (cut_len_le l k j) hl
        by_cases h1 : elemN nm = 1
        · have hx : rawX (elemN nm) (cut l k j) = decL' (cut l k j) := by unfold rawX; rw [h1]; rfl
          rw [hx] at hfin hlen
          have hso := fun W => decode_c (cut l k j) (Nat.le_trans hcl1 (by decide)) W
          have htl := fun W (h : RdT R l j v ps W) => tellText_c R l j v ps W h (decL' (cut l k j)) hn
          have h1b : (ev == 1) = true := by rw [beq_iff_eq, HEv.out]; omega
          generalize S (decL' (cut l k j)) = Y at hso htl
          generalize S (cut l k j) = C at hsi hso
          go_wp2_with (first
            | (go_at_call 25; refine (hsi _ HT1.out.1.box).mono ?_; rintro e2 w2 ⟨rfl, m2, hw2⟩; have HT2 := Lib.hid (And.intro (HT1.out.1.grow (grown_of' hw2)) (HT1.out.2.trans (Keeps.of (grown_of' hw2)))); clear hw2)
            | (go_at_call 67; refine (hel _).mono ?_; rintro e3 w3 ⟨rfl, h3⟩; have HT3 := Lib.hid (And.intro (HT2.out.1.grow h3) (HT2.out.2.trans (Keeps.of h3))); clear h3)
            | (go_at_call 24; refine (hso _).mono ?_; rintro e4 w4 ⟨rfl, h4⟩; have HT4 := Lib.hid (And.intro (HT3.out.1.grow h4) (HT3.out.2.trans (Keeps.of h4))); clear h4))
          refine (htl _ HT4.out.1).mono ?_
          intro e5 w5 ht
          cases ht with
          | many he hn5 hb5 =>
            subst he
            exact ⟨rfl, .many rfl (Nat.lt_of_lt_of_le hn5 hlen.out) ((HT4.out.2.below hlow).trans hb5)⟩
          | done he hn5 v5 h5 hm5 =>
            subst he
            have HF5 := Lib.hid (And.intro h5 ((HT4.out.2.below hlow).trans (hm5.below HT4.out.1.low (own_ge HT4.out.1.out))))
            clear h5 hm5
            go_wp2_with fail
            go_end0
            exact .done rfl j v5 _ HF5.out.1 hjl (by omega) hn5 hfin.out HF5.out.2
        · have hx : rawX (elemN nm) (cut l k j) = cut l k j := by unfold rawX; rw [if_neg (by simpa using h1)]
          rw [hx] at hfin hlen
          have hso := fun W => tclone_c (S (cut l k j)) W (by rw [size_S]; omega)
          have htl := fun W (h : RdT R l j v ps W) => tellText_c R l j v ps W h (cut l k j) hn
          have h1b : (ev == 1) = false := by rw [beq_eq_false_iff_ne, HEv.out]; omega
          generalize S (cut l k j) = C at hsi hso htl
          go_wp2_with (first
            | (go_at_call 25; refine (hsi _ HT1.out.1.box).mono ?_; rintro e2 w2 ⟨rfl, m2, hw2⟩; have HT2 := Lib.hid (And.intro (HT1.out.1.grow (grown_of' hw2)) (HT1.out.2.trans (Keeps.of (grown_of' hw2)))); clear hw2)
            | (go_at_call 67; refine (hel _).mono ?_; rintro e3 w3 ⟨rfl, h3⟩; have HT3 := Lib.hid (And.intro (HT2.out.1.grow h3) (HT2.out.2.trans (Keeps.of h3))); clear h3)
            | (go_at_call 51; refine (hso _).mono ?_; rintro e4 w4 ⟨rfl, h4⟩; have HT4 := Lib.hid (And.intro (HT3.out.1.grow h4) (HT3.out.2.trans (Keeps.of h4))); clear h4))
          refine (htl _ HT4.out.1).mono ?_
          intro e5 w5 ht
          cases ht with
          | many he hn5 hb5 =>
            subst he
            exact ⟨rfl, .many rfl (Nat.lt_of_lt_of_le hn5 hlen.out) ((HT4.out.2.below hlow).trans hb5)⟩
          | done he hn5 v5 h5 hm5 =>
            subst he
            have HF5 := Lib.hid (And.intro h5 ((HT4.out.2.below hlow).trans (hm5.below HT4.out.1.low (own_ge HT4.out.1.out))))
            clear h5 hm5
            go_wp2_with fail
            go_end0
            exact .done rfl j v5 _ HF5.out.1 hjl (by omega) hn5 hfin.out HF5.out.2
    · have hd : decide ((j : Int) < (l.length : Int)) = false := decide_eq_false (by omega)
      have hje : j = l.length := by omega
      have HFIN : DataMid l j j (ps.map Prod.fst ++ tx (rawX (elemN nm) (cut l k j))) := by
        have h := data_none (raw_end hj hA.out)
        exact (by rw [hje] at h ⊢; exact h)
      go_wp2_with fail
      go_quiet (fail)
      have HT1 := Lib.hid (And.intro (hT.out.grow (Oct.below_drewN (Below.refl _ wr) nq)) (hB.out.trans (Keeps.of (Oct.below_drewN (Below.refl _ wr) nq))))
      generalize wr.drewN nq = w1 at HT1 ⊢
      have hfin : Hid (DataMid l j j ((ps ++ txP (rawX (elemN nm) (cut l k j))).map Prod.fst)) := by
        show DataMid _ _ _ _
        rw [List.map_append, txP_fst]
        exact HFIN
      have hlen : Hid ((ps ++ txP (rawX (elemN nm) (cut l k j))).length ≤ (tokL l).length) := by
        show _ ≤ _
        have h := mid_len hfin.out
        rw [List.length_map] at h
        exact h
      have hsi := fun W (h : Bx R l j v W) => since_c R l j k v W h hkj hjl
      have hel := HEl.out
      have hcl1 : (cut l k j).length ≤ 65536 := Nat.le_trans (cut_len_le l k j) hl
      by_cases h1 : elemN nm = 1
      · have hx : rawX (elemN nm) (cut l k j) = decL' (cut l k j) := by unfold rawX; rw [h1]; rfl
        rw [hx] at hfin hlen
        have hso := fun W => decode_c (cut l k j) (Nat.le_trans hcl1 (by decide)) W
        have htl := fun W (h : RdT R l j v ps W) => tellText_c R l j v ps W h (decL' (cut l k j)) hn
        have h1b : (ev == 1) = true := by rw [beq_iff_eq, HEv.out]; omega
        generalize S (decL' (cut l k j)) = Y at hso htl
        generalize S (cut l k j) = C at hsi hso
        go_wp2_with (first
          | (go_at_call 25; refine (hsi _ HT1.out.1.box).mono ?_; rintro e2 w2 ⟨rfl, m2, hw2⟩; have HT2 := Lib.hid (And.intro (HT1.out.1.grow (grown_of' hw2)) (HT1.out.2.trans (Keeps.of (grown_of' hw2)))); clear hw2)
          | (go_at_call 67; refine (hel _).mono ?_; rintro e3 w3 ⟨rfl, h3⟩; have HT3 := Lib.hid (And.intro (HT2.out.1.grow h3) (HT2.out.2.trans (Keeps.of h3))); clear h3)
          | (go_at_call 24; refine (hso _).mono ?_; rintro e4 w4 ⟨rfl, h4⟩; have HT4 := Lib.hid (And.intro (HT3.out.1.grow h4) (HT3.out.2.trans (Keeps.of h4))); clear h4))
        refine (htl _ HT4.out.1).mono ?_
        intro e5 w5 ht
        cases ht with
        | many he hn5 hb5 =>
          subst he
          exact ⟨rfl, .many rfl (Nat.lt_of_lt_of_le hn5 hlen.out) ((HT4.out.2.below hlow).trans hb5)⟩
        | done he hn5 v5 h5 hm5 =>
          subst he
          have HF5 := Lib.hid (And.intro h5 ((HT4.out.2.below hlow).trans (hm5.below HT4.out.1.low (own_ge HT4.out.1.out))))
          clear h5 hm5
          go_wp2_with fail
          go_end0
          exact .done rfl j v5 _ HF5.out.1 hjl (by omega) hn5 hfin.out HF5.out.2
      · have hx : rawX (elemN nm) (cut l k j) = cut l k j := by unfold rawX; rw [if_neg (by simpa using h1)]
        rw [hx] at hfin hlen
        have hso := fun W => tclone_c (S (cut l k j)) W (by rw [size_S]; omega)
        have htl := fun W (h : RdT R l j v ps W) => tellText_c R l j v ps W h (cut l k j) hn
        have h1b : (ev == 1) = false := by rw [beq_eq_false_iff_ne, HEv.out]; omega
        generalize S (cut l k j) = C at hsi hso htl
        go_wp2_with (first
          | (go_at_call 25; refine (hsi _ HT1.out.1.box).mono ?_; rintro e2 w2 ⟨rfl, m2, hw2⟩; have HT2 := Lib.hid (And.intro (HT1.out.1.grow (grown_of' hw2)) (HT1.out.2.trans (Keeps.of (grown_of' hw2)))); clear hw2)
          | (go_at_call 67; refine (hel _).mono ?_; rintro e3 w3 ⟨rfl, h3⟩; have HT3 := Lib.hid (And.intro (HT2.out.1.grow h3) (HT2.out.2.trans (Keeps.of h3))); clear h3)
          | (go_at_call 51; refine (hso _).mono ?_; rintro e4 w4 ⟨rfl, h4⟩; have HT4 := Lib.hid (And.intro (HT3.out.1.grow h4) (HT3.out.2.trans (Keeps.of h4))); clear h4))
        refine (htl _ HT4.out.1).mono ?_
        intro e5 w5 ht
        cases ht with
        | many he hn5 hb5 =>
          subst he
          exact ⟨rfl, .many rfl (Nat.lt_of_lt_of_le hn5 hlen.out) ((HT4.out.2.below hlow).trans hb5)⟩
        | done he hn5 v5 h5 hm5 =>
          subst he
          have HF5 := Lib.hid (And.intro h5 ((HT4.out.2.below hlow).trans (hm5.below HT4.out.1.low (own_ge HT4.out.1.out))))
          clear h5 hm5
          go_wp2_with fail
          go_end0
          exact .done rfl j v5 _ HF5.out.1 hjl (by omega) hn5 hfin.out HF5.out.2
end Go.Proofs.Ytidfcajhmldieaa.Tkc
