/-
  Part 21: TkcTag1, TkcTag2, TkcTag3, TkcTag4, TkcTag5.
-/
import Derived.Test.YtidfcajhmldieaaGreatDoorBackBaseP20
/-
  The function tag from its label 1 on.
-/
namespace Go.Proofs.YtidfcajhmldieaaGreatDoor.Tkc
open Go.RowKit Go.Proofs.YtidfcajhmldieaaGreatDoor.Oct Go.Proofs.YtidfcajhmldieaaGreatDoor.Utf Go.Proofs.YtidfcajhmldieaaGreatDoor.Crf Go.Proofs.YtidfcajhmldieaaGreatDoor.Tab Go.Proofs.YtidfcajhmldieaaGreatDoor.Tok

set_option maxRecDepth 100000 in
set_option maxHeartbeats 4000000 in
theorem pass1 (R : Nat) (l : List UInt8) (hl : l.length ≤ 65536) (vo : Value) (w0 : World) (k0 : Nat) (r0 : Rd) (kd : Int) (Q : Exit → Act → World → Prop) (hQ : Ends R l vo w0 k0 r0 kd Q) (n : Nat) (a : Act) (w : World)
    (hJ : Jt R l vo w0 k0 r0 kd 1 a w) (hm : mt R l 1 a w = n) (ih : Goes Tryz.prog (bodyOf Tryz.f56.body) (Less (Jt R l vo w0 k0 r0 kd) (mt R l) n) (Less (Jt R l vo w0 k0 r0 kd) (mt R l) n) Q) :
    ∃ X, findLabel (bodyOf Tryz.f56.body) 1 = some (.seq .skip X) ∧ X.wp Tryz.prog (jumps (Less (Jt R l vo w0 k0 r0 kd) (mt R l) n) Q) a w := by
  have _ : True := (fun _ _ => trivial) hQ hl
  have _ : True := (fun _ => trivial) ih
  obtain ⟨hF, k, nm, va, al, f, qs, an, q, hk, hf, hal, hkk, hS⟩ := hJ
  have hn : n = 3 * (l.length - k) + rankL 1 := by
    obtain ⟨hT, _⟩ := stBox hS
    rw [← hm]
    unfold mt
    rw [hT.atOf]
  clear hm
  refine Fr.elim (P := fun a => ∃ X, findLabel (bodyOf Tryz.f56.body) 1 = some (.seq .skip X) ∧ X.wp Tryz.prog (jumps (Less (Jt R l vo w0 k0 r0 kd) (mt R l) n) Q) a w) hF ?_
  clear hF a
  intro u3 u9 u10 u11 u12 u13 u14 u15 u16 u17 u18 u19 u20 u21 u22 u23 u24 u25 u26 u27 u28 u29 u30 u31 u32 u33 u34 u35 u36 u37 u38 u39 u40 u41 u42 u43 u44 u45 u46 u47 u48 u49 u50 u51 u52 u53 u54 u55 u56 u57 u58 u59 u60 u61 u62 u63 u64 u65 u66 u67 u68 u69 u70 u71 u72 u73 u74 u75 u76 u77 u78 u79 u80 u81 u82 u83 u84 u85 u86 u87 u88 u89 u90 u91 u92 u93 u94 u95 u96 u97 u98 u99 u100 u101 u102 u103 u104 u105 u106 u107 u108 u109 u110 u111
  refine ⟨_, rfl, ?_⟩
  have rk0 : rankL 0 = 2 := rfl
  have rk1 : rankL 1 = 0 := rfl
  have rk2 : rankL 2 = 1 := rfl
  have rk3 : rankL 3 = 1 := rfl
  have rk4 : rankL 4 = 2 := rfl
  have rk5 : rankL 5 = 1 := rfl
  have rk6 : rankL 6 = 2 := rfl
  have rk7 : rankL 7 = 2 := rfl
  have rk8 : rankL 8 = 1 := rfl
  have mk0 : moreL 0 = 0 := rfl
  have mk1 : moreL 1 = 0 := rfl
  have mk2 : moreL 2 = 0 := rfl
  have mk3 : moreL 3 = 0 := rfl
  have mk4 : moreL 4 = 1 := rfl
  have mk5 : moreL 5 = 1 := rfl
  have mk6 : moreL 6 = 1 := rfl
  have mk7 : moreL 7 = 1 := rfl
  have mk8 : moreL 8 = 1 := rfl
  obtain ⟨hT, hM⟩ := hS
  have c1 := hT.c1
  have HT0 := Lib.hid hT
  cases hb1 : passB blB l k with
  | true =>
    obtain ⟨hk2, hc⟩ := pass_true hb1
    have p1 := fun W (h : Bx R l k vo W) => pass_yes h hl hk 81 #[] blB enter_blank (asks_blank W) hb1
    go_wp2_with (first
      | (have _ := HT0; go_at_call 78; refine (p1 _ HT0.out.box).mono ?_; rintro e w1 ⟨rfl, hbx, hkp⟩; have T := HT0.out.keep hkp hbx; have d1 := T.c1; have HT1 := Lib.hid T; clear hbx hkp T))
    exact wp_goto (show Less _ _ n 1 _ _ from less_mk (b := 1) ⟨rfl, rfl, rfl, rfl, rfl, rfl, rfl, rfl, rfl, rfl⟩ ⟨k + 1, nm, va, al, f, qs, an, q, by omega, by omega, by omega, by omega, HT1.out, before_blank hk2 hc hM⟩ HT1.out.box (by omega))
  | false =>
    have p1 := fun W (h : Bx R l k vo W) => pass_no h hl hk 81 #[] blB enter_blank (asks_blank W) hb1
    cases hb2 : passB (· == 47) l k with
    | true =>
      obtain ⟨hk2, hc⟩ := pass_true hb2
      have p2 := fun W (h : Bx R l k vo W) => take_yes h hl hk 47 hb2
      go_wp2_with (first
        | (have _ := HT1; go_at_call 82; refine (p2 _ HT1.out.box).mono ?_; rintro e w2 ⟨rfl, hbx, hkp⟩; have T := HT1.out.keep hkp hbx; have d2 := T.c1; have HT2 := Lib.hid T; clear hbx hkp T)
        | (have _ := HT0; go_at_call 78; refine (p1 _ HT0.out.box).mono ?_; rintro e w1 ⟨rfl, hbx, hkp⟩; have T := HT0.out.keep hkp hbx; have d1 := T.c1; have HT1 := Lib.hid T; clear hbx hkp T))
      exact wp_goto (show Less _ _ n 2 _ _ from less_mk (b := 2) ⟨rfl, rfl, rfl, rfl, rfl, rfl, rfl, rfl, rfl, rfl⟩ ⟨k + 1, nm, va, al, f, qs, an, q, by omega, by omega, by omega, by omega, HT2.out, before_slash hk2 (pass_false hb1 hk2) (by simpa using hc) hM⟩ HT2.out.box (by omega))
    | false =>
      have p2 := fun W (h : Bx R l k vo W) => take_no h hl hk 47 hb2
      cases hb3 : passB (· == 62) l k with
      | true =>
        obtain ⟨hk2, hc⟩ := pass_true hb3
        have p3 := fun W (h : Bx R l k vo W) => take_yes h hl hk 62 hb3
        obtain ⟨vp, vc, hva⟩ := own_form' hT.att
        subst hva
        go_wp2_with (first
          | (have _ := HT2; go_at_call 82; refine (p3 _ HT2.out.box).mono ?_; rintro e w3 ⟨rfl, hbx, hkp⟩; have T := HT2.out.keep hkp hbx; have d3 := T.c1; have f0 := T.ck; have f1 := T.cn; have f2 := T.cx; have f3 := T.cv; have f4 := T.cc; have g0 : _ = some (Value.int .i64 0) := (T.c2 0).trans rfl; have g1 : _ = some (Value.string ⟨#[]⟩) := (T.c2 1).trans rfl; have g2 : _ = some (Value.string ⟨#[]⟩) := (T.c2 2).trans rfl; have g3 : _ = some (Value.slice none 0 0) := (T.c2 3).trans rfl; have g4 : _ = some (Value.bool false) := (T.c2 4).trans rfl; have y0 := T.z2 0; have y1 := T.z2 1; have y2 := T.z2 2; have y3 := T.z2 3; have y4 := T.z2 4; have HT3 := Lib.hid T; clear hbx hkp T)
          | (have _ := HT1; go_at_call 82; refine (p2 _ HT1.out.box).mono ?_; rintro e w2 ⟨rfl, hbx, hkp⟩; have T := HT1.out.keep hkp hbx; have d2 := T.c1; have HT2 := Lib.hid T; clear hbx hkp T)
          | (have _ := HT0; go_at_call 78; refine (p1 _ HT0.out.box).mono ?_; rintro e w1 ⟨rfl, hbx, hkp⟩; have T := HT0.out.keep hkp hbx; have d1 := T.c1; have HT1 := Lib.hid T; clear hbx hkp T))
        show Q .ret _ _
        refine hQ true _ _ ?_ ?_ ?_ (HT3.out.ended hk2 (by omega) (before_end hk2 (pass_false hb1 hk2) (by simpa using pass_false hb2 hk2) (by simpa using hc) hM))
        all_goals rfl
      | false =>
        have p3 := fun W (h : Bx R l k vo W) => take_no h hl hk 62 hb3
        have hsz : ((S l).size : Int) = (l.length : Int) := by rw [size_S]
        have HBX := Lib.hid (fun W (h : Bx R l k vo W) => (And.intro ((h.cell 0).trans rfl) ((h.cell 1).trans rfl) : W.cell? ⟨R, 0, none⟩ = some (.string (S l)) ∧ W.cell? ⟨R, 1, none⟩ = some (.int .i64 (k : Int))))
        have i3 : (k : Int) ≤ 65536 := by omega
        have i0 : (0 : Int) ≤ (k : Int) := by omega
        by_cases hk2 : k < l.length
        · have hd : ((k : Int) == (l.length : Int)) = false := by rw [beq_eq_false_iff_ne]; omega
          generalize S l = L at hsz HBX
          go_wp2_with (first
            | (have _ := HT2; go_at_call 82; refine (p3 _ HT2.out.box).mono ?_; rintro e w3 ⟨rfl, hbx, hkp⟩; have T := HT2.out.keep hkp hbx; have d3 := T.c1; obtain ⟨x0, x1⟩ := HBX.out _ T.box; have HT3 := Lib.hid T; clear hbx hkp T)
            | (have _ := HT1; go_at_call 82; refine (p2 _ HT1.out.box).mono ?_; rintro e w2 ⟨rfl, hbx, hkp⟩; have T := HT1.out.keep hkp hbx; have d2 := T.c1; have HT2 := Lib.hid T; clear hbx hkp T)
            | (have _ := HT0; go_at_call 78; refine (p1 _ HT0.out.box).mono ?_; rintro e w1 ⟨rfl, hbx, hkp⟩; have T := HT0.out.keep hkp hbx; have d1 := T.c1; have HT1 := Lib.hid T; clear hbx hkp T))
          go_quiet (fail)
          have T4 := HT3.out.grow (Oct.below_drewN (Below.refl _ w3) nq)
          generalize w3.drewN nq = w4 at T4 ⊢
          have e1 := T4.c1
          have e5 := T4.c5
          have z5 := T4.z5
          have x2 := (HBX.out _ T4.box).2
          have T5 := T4.setF k
          have e6 := T5.c1
          have x3 := (HBX.out _ T5.box).2
          have z6 := T5.box.froz 1
          have T6 := T5.keep (Keeps.set _ _) (T5.box.at_ (k + 1))
          have HT6 := Lib.hid T6
          clear T4 T5 T6 d1 d2 d3 x0 x1 c1
          go_wp2_with fail
          rename_i K hK
          exact wp_label (hK _ _ (ih 4 _ _ _ (less_mk (b := 4) ⟨rfl, rfl, rfl, rfl, rfl, rfl, rfl, rfl, rfl, rfl⟩ ⟨k + 1, nm, va, al, k, qs, an, q, by omega, by omega, by omega, by omega, HT6.out, (by rw [cut_succ hk2 (Nat.le_refl k), cut_nil]; exact before_attr hk2 (pass_false hb1 hk2) (by simpa using pass_false hb2 hk2) (by simpa using pass_false hb3 hk2) hM)⟩ HT6.out.box (by omega)) rfl))
        · have hkl : k = l.length := by omega
          have hd : ((k : Int) == (l.length : Int)) = true := by rw [beq_iff_eq]; omega
          generalize S l = L at hsz HBX
          go_wp2_with (first
            | (have _ := HT2; go_at_call 82; refine (p3 _ HT2.out.box).mono ?_; rintro e w3 ⟨rfl, hbx, hkp⟩; have T := HT2.out.keep hkp hbx; have d3 := T.c1; obtain ⟨x0, x1⟩ := HBX.out _ T.box; have HT3 := Lib.hid T; clear hbx hkp T)
            | (have _ := HT1; go_at_call 82; refine (p2 _ HT1.out.box).mono ?_; rintro e w2 ⟨rfl, hbx, hkp⟩; have T := HT1.out.keep hkp hbx; have d2 := T.c1; have HT2 := Lib.hid T; clear hbx hkp T)
            | (have _ := HT0; go_at_call 78; refine (p1 _ HT0.out.box).mono ?_; rintro e w1 ⟨rfl, hbx, hkp⟩; have T := HT0.out.keep hkp hbx; have d1 := T.c1; have HT1 := Lib.hid T; clear hbx hkp T))
          go_quiet (fail)
          have T := HT3.out.grow (Oct.below_drewN (Below.refl _ w3) nq)
          generalize w3.drewN nq = w4 at T ⊢
          have f0 := T.ck
          have f1 := T.cn
          have f2 := T.cx
          have f3 := T.cv
          have f4 := T.cc
          have g0 : _ = some (Value.int .i64 0) := (T.c2 0).trans rfl
          have g1 : _ = some (Value.string ⟨#[]⟩) := (T.c2 1).trans rfl
          have g2 : _ = some (Value.string ⟨#[]⟩) := (T.c2 2).trans rfl
          have g3 : _ = some (Value.slice none 0 0) := (T.c2 3).trans rfl
          have g4 : _ = some (Value.bool false) := (T.c2 4).trans rfl
          have y0 := T.z2 0
          have y1 := T.z2 1
          have y2 := T.z2 2
          have y3 := T.z2 3
          have y4 := T.z2 4
          have HT4 := Lib.hid T
          clear T d1 d2 d3 x0 x1 c1
          go_wp2_with fail
          show Q .ret _ _
          refine hQ false _ _ ?_ ?_ ?_ (HT4.out.nothing hkl (tag_none (by decide) hk2 hM))
          all_goals rfl
end Go.Proofs.YtidfcajhmldieaaGreatDoor.Tkc

/-
  The function tag from its label 2 on.
-/
namespace Go.Proofs.YtidfcajhmldieaaGreatDoor.Tkc
open Go.RowKit Go.Proofs.YtidfcajhmldieaaGreatDoor.Oct Go.Proofs.YtidfcajhmldieaaGreatDoor.Utf Go.Proofs.YtidfcajhmldieaaGreatDoor.Crf Go.Proofs.YtidfcajhmldieaaGreatDoor.Tab Go.Proofs.YtidfcajhmldieaaGreatDoor.Tok

set_option maxRecDepth 100000 in
set_option maxHeartbeats 4000000 in
theorem pass2 (R : Nat) (l : List UInt8) (hl : l.length ≤ 65536) (vo : Value) (w0 : World) (k0 : Nat) (r0 : Rd) (kd : Int) (Q : Exit → Act → World → Prop) (hQ : Ends R l vo w0 k0 r0 kd Q) (n : Nat) (a : Act) (w : World)
    (hJ : Jt R l vo w0 k0 r0 kd 2 a w) (hm : mt R l 2 a w = n) (ih : Goes Tryz.prog (bodyOf Tryz.f56.body) (Less (Jt R l vo w0 k0 r0 kd) (mt R l) n) (Less (Jt R l vo w0 k0 r0 kd) (mt R l) n) Q) :
    ∃ X, findLabel (bodyOf Tryz.f56.body) 2 = some (.seq .skip X) ∧ X.wp Tryz.prog (jumps (Less (Jt R l vo w0 k0 r0 kd) (mt R l) n) Q) a w := by
  have _ : True := (fun _ _ => trivial) hQ hl
  have _ : True := (fun _ => trivial) ih
  obtain ⟨hF, k, nm, va, al, f, qs, an, q, hk, hf, hal, hkk, hS⟩ := hJ
  have hn : n = 3 * (l.length - k) + rankL 2 := by
    obtain ⟨hT, _⟩ := stBox hS
    rw [← hm]
    unfold mt
    rw [hT.atOf]
  clear hm
  refine Fr.elim (P := fun a => ∃ X, findLabel (bodyOf Tryz.f56.body) 2 = some (.seq .skip X) ∧ X.wp Tryz.prog (jumps (Less (Jt R l vo w0 k0 r0 kd) (mt R l) n) Q) a w) hF ?_
  clear hF a
  intro u3 u9 u10 u11 u12 u13 u14 u15 u16 u17 u18 u19 u20 u21 u22 u23 u24 u25 u26 u27 u28 u29 u30 u31 u32 u33 u34 u35 u36 u37 u38 u39 u40 u41 u42 u43 u44 u45 u46 u47 u48 u49 u50 u51 u52 u53 u54 u55 u56 u57 u58 u59 u60 u61 u62 u63 u64 u65 u66 u67 u68 u69 u70 u71 u72 u73 u74 u75 u76 u77 u78 u79 u80 u81 u82 u83 u84 u85 u86 u87 u88 u89 u90 u91 u92 u93 u94 u95 u96 u97 u98 u99 u100 u101 u102 u103 u104 u105 u106 u107 u108 u109 u110 u111
  refine ⟨_, rfl, ?_⟩
  have rk0 : rankL 0 = 2 := rfl
  have rk1 : rankL 1 = 0 := rfl
  have rk2 : rankL 2 = 1 := rfl
  have rk3 : rankL 3 = 1 := rfl
  have rk4 : rankL 4 = 2 := rfl
  have rk5 : rankL 5 = 1 := rfl
  have rk6 : rankL 6 = 2 := rfl
  have rk7 : rankL 7 = 2 := rfl
  have rk8 : rankL 8 = 1 := rfl
  have mk0 : moreL 0 = 0 := rfl
  have mk1 : moreL 1 = 0 := rfl
  have mk2 : moreL 2 = 0 := rfl
  have mk3 : moreL 3 = 0 := rfl
  have mk4 : moreL 4 = 1 := rfl
  have mk5 : moreL 5 = 1 := rfl
  have mk6 : moreL 6 = 1 := rfl
  have mk7 : moreL 7 = 1 := rfl
  have mk8 : moreL 8 = 1 := rfl
  obtain ⟨hT, hM⟩ := hS
  have c1 := hT.c1
  have HT0 := Lib.hid hT
  obtain ⟨vp, vc, hva⟩ := own_form' hT.att
  subst hva
  cases hb : passB (· == 62) l k with
  | true =>
    obtain ⟨hk2, hc⟩ := pass_true hb
    have p1 := fun W (h : Bx R l k vo W) => take_yes h hl hk 62 hb
    go_wp2_with (first
      | (have _ := HT0; go_at_call 82; refine (p1 _ HT0.out.box).mono ?_; rintro e w1 ⟨rfl, hbx, hkp⟩; have T0 := HT0.out.keep hkp hbx; have b4 := T0.cc; have z4 := T0.z4 4; have T := T0.setC true; have f0 := T.ck; have f1 := T.cn; have f2 := T.cx; have f3 := T.cv; have f4 := T.cc; have g0 : _ = some (Value.int .i64 0) := (T.c2 0).trans rfl; have g1 : _ = some (Value.string ⟨#[]⟩) := (T.c2 1).trans rfl; have g2 : _ = some (Value.string ⟨#[]⟩) := (T.c2 2).trans rfl; have g3 : _ = some (Value.slice none 0 0) := (T.c2 3).trans rfl; have g4 : _ = some (Value.bool false) := (T.c2 4).trans rfl; have y0 := T.z2 0; have y1 := T.z2 1; have y2 := T.z2 2; have y3 := T.z2 3; have y4 := T.z2 4; have HT1 := Lib.hid T; clear hbx hkp T T0))
    show Q .ret _ _
    refine hQ true _ _ ?_ ?_ ?_ (HT1.out.ended hk2 (by omega) (slash_end hk2 (by simpa using hc) hM))
    all_goals rfl
  | false =>
    have p1 := fun W (h : Bx R l k vo W) => take_no h hl hk 62 hb
    go_wp2_with (first
      | (have _ := HT0; go_at_call 82; refine (p1 _ HT0.out.box).mono ?_; rintro e w1 ⟨rfl, hbx, hkp⟩; have T0 := HT0.out.keep hkp hbx; have b4 := T0.cc; have z4 := T0.z4 4; have T := T0.setC false; have f4 := T.cc; have HT1 := Lib.hid T; clear hbx hkp T T0))
    exact wp_goto (show Less _ _ n 1 _ _ from less_mk (b := 1) ⟨rfl, rfl, rfl, rfl, rfl, rfl, rfl, rfl, rfl, rfl⟩ ⟨k, nm, _, al, f, qs, an, q, by omega, by omega, by omega, by omega, HT1.out, slash_else (fun h => by simpa using pass_false hb h) hM⟩ HT1.out.box (by omega))
end Go.Proofs.YtidfcajhmldieaaGreatDoor.Tkc

/-
  The function tag from its label 3 on.
-/
namespace Go.Proofs.YtidfcajhmldieaaGreatDoor.Tkc
open Go.RowKit Go.Proofs.YtidfcajhmldieaaGreatDoor.Oct Go.Proofs.YtidfcajhmldieaaGreatDoor.Utf Go.Proofs.YtidfcajhmldieaaGreatDoor.Crf Go.Proofs.YtidfcajhmldieaaGreatDoor.Tab Go.Proofs.YtidfcajhmldieaaGreatDoor.Tok

set_option maxRecDepth 100000 in
set_option maxHeartbeats 4000000 in
theorem pass3 (R : Nat) (l : List UInt8) (hl : l.length ≤ 65536) (vo : Value) (w0 : World) (k0 : Nat) (r0 : Rd) (kd : Int) (Q : Exit → Act → World → Prop) (hQ : Ends R l vo w0 k0 r0 kd Q) (n : Nat) (a : Act) (w : World)
    (hJ : Jt R l vo w0 k0 r0 kd 3 a w) (hm : mt R l 3 a w = n) (ih : Goes Tryz.prog (bodyOf Tryz.f56.body) (Less (Jt R l vo w0 k0 r0 kd) (mt R l) n) (Less (Jt R l vo w0 k0 r0 kd) (mt R l) n) Q) :
    ∃ X, findLabel (bodyOf Tryz.f56.body) 3 = some (.seq .skip X) ∧ X.wp Tryz.prog (jumps (Less (Jt R l vo w0 k0 r0 kd) (mt R l) n) Q) a w := by
  have _ : True := (fun _ _ => trivial) hQ hl
  have _ : True := (fun _ => trivial) ih
  obtain ⟨hF, k, nm, va, al, f, qs, an, q, hk, hf, hal, hkk, hS⟩ := hJ
  have hn : n = 3 * (l.length - k) + rankL 3 := by
    obtain ⟨hT, _⟩ := stBox hS
    rw [← hm]
    unfold mt
    rw [hT.atOf]
  clear hm
  refine Fr.elim (P := fun a => ∃ X, findLabel (bodyOf Tryz.f56.body) 3 = some (.seq .skip X) ∧ X.wp Tryz.prog (jumps (Less (Jt R l vo w0 k0 r0 kd) (mt R l) n) Q) a w) hF ?_
  clear hF a
  intro u3 u9 u10 u11 u12 u13 u14 u15 u16 u17 u18 u19 u20 u21 u22 u23 u24 u25 u26 u27 u28 u29 u30 u31 u32 u33 u34 u35 u36 u37 u38 u39 u40 u41 u42 u43 u44 u45 u46 u47 u48 u49 u50 u51 u52 u53 u54 u55 u56 u57 u58 u59 u60 u61 u62 u63 u64 u65 u66 u67 u68 u69 u70 u71 u72 u73 u74 u75 u76 u77 u78 u79 u80 u81 u82 u83 u84 u85 u86 u87 u88 u89 u90 u91 u92 u93 u94 u95 u96 u97 u98 u99 u100 u101 u102 u103 u104 u105 u106 u107 u108 u109 u110 u111
  refine ⟨_, rfl, ?_⟩
  have rk0 : rankL 0 = 2 := rfl
  have rk1 : rankL 1 = 0 := rfl
  have rk2 : rankL 2 = 1 := rfl
  have rk3 : rankL 3 = 1 := rfl
  have rk4 : rankL 4 = 2 := rfl
  have rk5 : rankL 5 = 1 := rfl
  have rk6 : rankL 6 = 2 := rfl
  have rk7 : rankL 7 = 2 := rfl
  have rk8 : rankL 8 = 1 := rfl
  have mk0 : moreL 0 = 0 := rfl
  have mk1 : moreL 1 = 0 := rfl
  have mk2 : moreL 2 = 0 := rfl
  have mk3 : moreL 3 = 0 := rfl
  have mk4 : moreL 4 = 1 := rfl
  have mk5 : moreL 5 = 1 := rfl
  have mk6 : moreL 6 = 1 := rfl
  have mk7 : moreL 7 = 1 := rfl
  have mk8 : moreL 8 = 1 := rfl
  obtain ⟨hT, hM⟩ := hS
  refine wp_seq (wp_label ?_)
  exact ih 1 _ _ _ (less_mk (b := 1) ⟨rfl, rfl, rfl, rfl, rfl, rfl, rfl, rfl, rfl, rfl⟩ ⟨k, nm, va, al, f, qs, an, q, by omega, by omega, by omega, by omega, hT, hM⟩ hT.box (by omega)) rfl
end Go.Proofs.YtidfcajhmldieaaGreatDoor.Tkc

/-
  The function tag from its label 4 on.
-/
namespace Go.Proofs.YtidfcajhmldieaaGreatDoor.Tkc
open Go.RowKit Go.Proofs.YtidfcajhmldieaaGreatDoor.Oct Go.Proofs.YtidfcajhmldieaaGreatDoor.Utf Go.Proofs.YtidfcajhmldieaaGreatDoor.Crf Go.Proofs.YtidfcajhmldieaaGreatDoor.Tab Go.Proofs.YtidfcajhmldieaaGreatDoor.Tok

set_option maxRecDepth 100000 in
set_option maxHeartbeats 4000000 in
theorem pass4 (R : Nat) (l : List UInt8) (hl : l.length ≤ 65536) (vo : Value) (w0 : World) (k0 : Nat) (r0 : Rd) (kd : Int) (Q : Exit → Act → World → Prop) (hQ : Ends R l vo w0 k0 r0 kd Q) (n : Nat) (a : Act) (w : World)
    (hJ : Jt R l vo w0 k0 r0 kd 4 a w) (hm : mt R l 4 a w = n) (ih : Goes Tryz.prog (bodyOf Tryz.f56.body) (Less (Jt R l vo w0 k0 r0 kd) (mt R l) n) (Less (Jt R l vo w0 k0 r0 kd) (mt R l) n) Q) :
    ∃ X, findLabel (bodyOf Tryz.f56.body) 4 = some (.seq .skip X) ∧ X.wp Tryz.prog (jumps (Less (Jt R l vo w0 k0 r0 kd) (mt R l) n) Q) a w := by
  have _ : True := (fun _ _ => trivial) hQ hl
  have _ : True := (fun _ => trivial) ih
  obtain ⟨hF, k, nm, va, al, f, qs, an, q, hk, hf, hal, hkk, hS⟩ := hJ
  have hn : n = 3 * (l.length - k) + rankL 4 := by
    obtain ⟨hT, _⟩ := stBox hS
    rw [← hm]
    unfold mt
    rw [hT.atOf]
  clear hm
  refine Fr.elim (P := fun a => ∃ X, findLabel (bodyOf Tryz.f56.body) 4 = some (.seq .skip X) ∧ X.wp Tryz.prog (jumps (Less (Jt R l vo w0 k0 r0 kd) (mt R l) n) Q) a w) hF ?_
  clear hF a
  intro u3 u9 u10 u11 u12 u13 u14 u15 u16 u17 u18 u19 u20 u21 u22 u23 u24 u25 u26 u27 u28 u29 u30 u31 u32 u33 u34 u35 u36 u37 u38 u39 u40 u41 u42 u43 u44 u45 u46 u47 u48 u49 u50 u51 u52 u53 u54 u55 u56 u57 u58 u59 u60 u61 u62 u63 u64 u65 u66 u67 u68 u69 u70 u71 u72 u73 u74 u75 u76 u77 u78 u79 u80 u81 u82 u83 u84 u85 u86 u87 u88 u89 u90 u91 u92 u93 u94 u95 u96 u97 u98 u99 u100 u101 u102 u103 u104 u105 u106 u107 u108 u109 u110 u111
  refine ⟨_, rfl, ?_⟩
  have rk0 : rankL 0 = 2 := rfl
  have rk1 : rankL 1 = 0 := rfl
  have rk2 : rankL 2 = 1 := rfl
  have rk3 : rankL 3 = 1 := rfl
  have rk4 : rankL 4 = 2 := rfl
  have rk5 : rankL 5 = 1 := rfl
  have rk6 : rankL 6 = 2 := rfl
  have rk7 : rankL 7 = 2 := rfl
  have rk8 : rankL 8 = 1 := rfl
  have mk0 : moreL 0 = 0 := rfl
  have mk1 : moreL 1 = 0 := rfl
  have mk2 : moreL 2 = 0 := rfl
  have mk3 : moreL 3 = 0 := rfl
  have mk4 : moreL 4 = 1 := rfl
  have mk5 : moreL 5 = 1 := rfl
  have mk6 : moreL 6 = 1 := rfl
  have mk7 : moreL 7 = 1 := rfl
  have mk8 : moreL 8 = 1 := rfl
  obtain ⟨hT, hM⟩ := hS
  have c1 := hT.c1
  have HT0 := Lib.hid hT
  cases hb : passB inAt l k with
  | true =>
    obtain ⟨hk2, hc⟩ := pass_true hb
    have p1 := fun W (h : Bx R l k vo W) => pass_yes h hl hk 83 #[] inAt enter_at (asks_at W) hb
    go_wp2_with (first
      | (have _ := HT0; go_at_call 78; refine (p1 _ HT0.out.box).mono ?_; rintro e w1 ⟨rfl, hbx, hkp⟩; have T := HT0.out.keep hkp hbx; have d1 := T.c1; have HT1 := Lib.hid T; clear hbx hkp T))
    exact wp_goto (show Less _ _ n 4 _ _ from less_mk (b := 4) ⟨rfl, rfl, rfl, rfl, rfl, rfl, rfl, rfl, rfl, rfl⟩ ⟨k + 1, nm, va, al, f, qs, an, q, by omega, by omega, by omega, by omega, HT1.out, (by have h := attr_pass hk2 hc hM; rw [cut_succ hk2 hf, List.map_append]; exact h)⟩ HT1.out.box (by omega))
  | false =>
    have p1 := fun W (h : Bx R l k vo W) => pass_no h hl hk 83 #[] inAt enter_at (asks_at W) hb
    have hsi := fun w1 (h : Bx R l k vo w1) => since_c R l k f vo w1 h hf hk
    have hlo := lower_c (cut l f k) (Nat.le_trans (cut_len_le l f k) hl)
    obtain ⟨i0, hi, hz0, hz1, hz2⟩ := info_parts info_att
    have HCell : Hid (∀ (w : World) (X : ByteArray), X = S ((cut l f k).map low) → ∀ j u, (atCs ⟨(cut l f k).map low, []⟩)[j]? = some u → (w.alloc (.cells #[.string X, .string ⟨#[]⟩] 65)).cell? ((⟨w.heap.size, 0, none⟩ : Addr).add j) = some u) := fun w X hX j u hj => by
      subst hX
      exact push_cells (cs := atCs ⟨(cut l f k).map low, []⟩) j u hj
    have HOne := Lib.hid (push_att (a := ⟨(cut l f k).map low, []⟩))
    obtain ⟨X, hX⟩ : ∃ X, X = S ((cut l f k).map low) := ⟨_, rfl⟩
    have HX := Lib.hid hX
    rw [← hX] at hlo
    clear hX
    go_wp2_with (first
      | (have _ := HT0; go_at_call 78; refine (p1 _ HT0.out.box).mono ?_; rintro e w1 ⟨rfl, hbx, hkp⟩; have T := HT0.out.keep hkp hbx; have d1 := T.c1; have d5 := T.c5; have d6 := T.cv; have HT1 := Lib.hid T; clear hbx hkp T))
    have hsz5 : w0.heap.size + 4 < w1.heap.size := HT1.out.size
    have T0 := HT1.out.grow (Below.refl _ w1).drew
    have x1 := T0.c1
    have x5 := T0.c5
    have x6 := T0.cv
    have HT0 := Lib.hid T0
    clear c1 T0
    refine wp_region_noPanic ?_
    go_region_law (first
      | (go_simp; go_at_call 29; refine (hsi _ HT0.out.box).mono ?_; rintro e w2 ⟨rfl, m2, hw2⟩; have T2 := HT0.out.grow (grown_of hw2); have e6 := T2.cv; have HT2 := Lib.hid T2; clear hw2 T2)
      | (go_simp; go_at_call 80; refine (hlo _).mono ?_; rintro e w3 ⟨rfl, h3⟩; have T3 := HT2.out.grow h3; have f6 := T3.cv; have g6 := (T3.grow ((Below.refl _ w3).alloc (Nat.le_refl _) (.cells #[.string X, .string ⟨#[]⟩] 65))).cv; have hs3 := T3.size; have HT3 := Lib.hid T3; clear h3 T3)
      | (refine step_append_lies _ rfl (.tmp 58) (.tmp 64) 32 rfl (w0.heap.size + 5) 65 i0 _ 2 32 Tryz.underlying32 hi hz0 hz1 hz2 rfl (by omega) va al.length (al.flatMap atCs) (by simp [Act.eval]) (HT3.out.att.alloc _) ⟨w3.heap.size, 0, none⟩ 1 1 (atCs ⟨(cut l f k).map low, []⟩) (by simp [Act.eval]) rfl (HCell.out w3 X HX.out) HOne.out (by omega) (by unfold maxLen; omega) (by omega) (by simp; omega) (w3.heap.size + 1) (by simp) ?_; intro g cp wB hownB hgB hatB hltB; obtain ⟨p1, p2, p3⟩ := HT3.out.push ⟨(cut l f k).map low, []⟩ _ hownB hgB; have HP := Lib.hid p1; clear p1 hownB hgB hatB hltB))
    all_goals refine NoPanic.normal ?_
    all_goals rename_i K hK
    all_goals first
      | exact hK _ _ (wp_seq (wp_label (ih 5 _ _ _ (less_mk (b := 5) ⟨rfl, rfl, rfl, rfl, rfl, rfl, rfl, rfl, rfl, rfl⟩ ⟨k, nm, _, al, f, qs, (cut l f k).map low, q, by omega, by omega, by omega, by omega, HP.out, attr_stop (pass_false hb) hM⟩ HP.out.box (by omega)) rfl)))
      | exact hK _ _ (wp_seq (wp_label (ih 5 _ _ _ (less_mk (b := 5) ⟨rfl, rfl, rfl, rfl, rfl, rfl, rfl, rfl, rfl, rfl⟩ ⟨k, nm, _, al, f, qs, (cut l f k).map low, q, by omega, by omega, by omega, by omega, HP.out.grow (Below.refl _ _).drew, attr_stop (pass_false hb) hM⟩ (HP.out.grow (Below.refl _ _).drew).box (by omega)) rfl)))
end Go.Proofs.YtidfcajhmldieaaGreatDoor.Tkc

/-
  The function tag from its label 5 on.
-/
namespace Go.Proofs.YtidfcajhmldieaaGreatDoor.Tkc
open Go.RowKit Go.Proofs.YtidfcajhmldieaaGreatDoor.Oct Go.Proofs.YtidfcajhmldieaaGreatDoor.Utf Go.Proofs.YtidfcajhmldieaaGreatDoor.Crf Go.Proofs.YtidfcajhmldieaaGreatDoor.Tab Go.Proofs.YtidfcajhmldieaaGreatDoor.Tok

set_option maxRecDepth 100000 in
set_option maxHeartbeats 4000000 in
theorem pass5 (R : Nat) (l : List UInt8) (hl : l.length ≤ 65536) (vo : Value) (w0 : World) (k0 : Nat) (r0 : Rd) (kd : Int) (Q : Exit → Act → World → Prop) (hQ : Ends R l vo w0 k0 r0 kd Q) (n : Nat) (a : Act) (w : World)
    (hJ : Jt R l vo w0 k0 r0 kd 5 a w) (hm : mt R l 5 a w = n) (ih : Goes Tryz.prog (bodyOf Tryz.f56.body) (Less (Jt R l vo w0 k0 r0 kd) (mt R l) n) (Less (Jt R l vo w0 k0 r0 kd) (mt R l) n) Q) :
    ∃ X, findLabel (bodyOf Tryz.f56.body) 5 = some (.seq .skip X) ∧ X.wp Tryz.prog (jumps (Less (Jt R l vo w0 k0 r0 kd) (mt R l) n) Q) a w := by
  have _ : True := (fun _ _ => trivial) hQ hl
  have _ : True := (fun _ => trivial) ih
  obtain ⟨hF, k, nm, va, al, f, qs, an, q, hk, hf, hal, hkk, hS⟩ := hJ
  have hn : n = 3 * (l.length - k) + rankL 5 := by
    obtain ⟨hT, _⟩ := stBox hS
    rw [← hm]
    unfold mt
    rw [hT.atOf]
  clear hm
  refine Fr.elim (P := fun a => ∃ X, findLabel (bodyOf Tryz.f56.body) 5 = some (.seq .skip X) ∧ X.wp Tryz.prog (jumps (Less (Jt R l vo w0 k0 r0 kd) (mt R l) n) Q) a w) hF ?_
  clear hF a
  intro u3 u9 u10 u11 u12 u13 u14 u15 u16 u17 u18 u19 u20 u21 u22 u23 u24 u25 u26 u27 u28 u29 u30 u31 u32 u33 u34 u35 u36 u37 u38 u39 u40 u41 u42 u43 u44 u45 u46 u47 u48 u49 u50 u51 u52 u53 u54 u55 u56 u57 u58 u59 u60 u61 u62 u63 u64 u65 u66 u67 u68 u69 u70 u71 u72 u73 u74 u75 u76 u77 u78 u79 u80 u81 u82 u83 u84 u85 u86 u87 u88 u89 u90 u91 u92 u93 u94 u95 u96 u97 u98 u99 u100 u101 u102 u103 u104 u105 u106 u107 u108 u109 u110 u111
  refine ⟨_, rfl, ?_⟩
  have rk0 : rankL 0 = 2 := rfl
  have rk1 : rankL 1 = 0 := rfl
  have rk2 : rankL 2 = 1 := rfl
  have rk3 : rankL 3 = 1 := rfl
  have rk4 : rankL 4 = 2 := rfl
  have rk5 : rankL 5 = 1 := rfl
  have rk6 : rankL 6 = 2 := rfl
  have rk7 : rankL 7 = 2 := rfl
  have rk8 : rankL 8 = 1 := rfl
  have mk0 : moreL 0 = 0 := rfl
  have mk1 : moreL 1 = 0 := rfl
  have mk2 : moreL 2 = 0 := rfl
  have mk3 : moreL 3 = 0 := rfl
  have mk4 : moreL 4 = 1 := rfl
  have mk5 : moreL 5 = 1 := rfl
  have mk6 : moreL 6 = 1 := rfl
  have mk7 : moreL 7 = 1 := rfl
  have mk8 : moreL 8 = 1 := rfl
  obtain ⟨hT, hM⟩ := hS
  have c1 := hT.c1
  have HT0 := Lib.hid hT
  cases hb1 : passB blB l k with
  | true =>
    obtain ⟨hk2, hc⟩ := pass_true hb1
    have p1 := fun W (h : Bx R l k vo W) => pass_yes h hl hk 81 #[] blB enter_blank (asks_blank W) hb1
    go_wp2_with (first
      | (have _ := HT0; go_at_call 78; refine (p1 _ HT0.out.box).mono ?_; rintro e w1 ⟨rfl, hbx, hkp⟩; have T := HT0.out.keep hkp hbx; have d1 := T.c1; have HT1 := Lib.hid T; clear hbx hkp T))
    exact wp_goto (show Less _ _ n 5 _ _ from less_mk (b := 5) ⟨rfl, rfl, rfl, rfl, rfl, rfl, rfl, rfl, rfl, rfl⟩ ⟨k + 1, nm, va, al, f, qs, an, q, by omega, by omega, by omega, by omega, HT1.out, after_blank hk2 hc hM⟩ HT1.out.box (by omega))
  | false =>
    have p1 := fun W (h : Bx R l k vo W) => pass_no h hl hk 81 #[] blB enter_blank (asks_blank W) hb1
    cases hb2 : passB (· == 61) l k with
    | true =>
      obtain ⟨hk2, hc⟩ := pass_true hb2
      have p2 := fun W (h : Bx R l k vo W) => take_yes h hl hk 61 hb2
      go_wp2_with (first
        | (have _ := HT1; go_at_call 82; refine (p2 _ HT1.out.box).mono ?_; rintro e w2 ⟨rfl, hbx, hkp⟩; have T := HT1.out.keep hkp hbx; have d2 := T.c1; have HT2 := Lib.hid T; clear hbx hkp T)
        | (have _ := HT0; go_at_call 78; refine (p1 _ HT0.out.box).mono ?_; rintro e w1 ⟨rfl, hbx, hkp⟩; have T := HT0.out.keep hkp hbx; have d1 := T.c1; have HT1 := Lib.hid T; clear hbx hkp T))
      rename_i K hK
      exact wp_label (hK _ _ (ih 6 _ _ _ (less_mk (b := 6) ⟨rfl, rfl, rfl, rfl, rfl, rfl, rfl, rfl, rfl, rfl⟩ ⟨k + 1, nm, va, al, f, qs, an, q, by omega, by omega, by omega, by omega, HT2.out, after_eq hk2 (pass_false hb1 hk2) (by simpa using hc) hM⟩ HT2.out.box (by omega)) rfl))
    | false =>
      have p2 := fun W (h : Bx R l k vo W) => take_no h hl hk 61 hb2
      go_wp2_with (first
        | (have _ := HT1; go_at_call 82; refine (p2 _ HT1.out.box).mono ?_; rintro e w2 ⟨rfl, hbx, hkp⟩; have T := HT1.out.keep hkp hbx; have d2 := T.c1; have HT2 := Lib.hid T; clear hbx hkp T)
        | (have _ := HT0; go_at_call 78; refine (p1 _ HT0.out.box).mono ?_; rintro e w1 ⟨rfl, hbx, hkp⟩; have T := HT0.out.keep hkp hbx; have d1 := T.c1; have HT1 := Lib.hid T; clear hbx hkp T))
      exact wp_goto (show Less _ _ n 1 _ _ from less_mk (b := 1) ⟨rfl, rfl, rfl, rfl, rfl, rfl, rfl, rfl, rfl, rfl⟩ ⟨k, nm, va, al ++ [⟨an, []⟩], f, qs, an, q, by omega, by omega, (by rw [List.length_append, List.length_singleton]; omega), by omega, HT2.out, after_else (fun h => ⟨pass_false hb1 h, by simpa using pass_false hb2 h⟩) hM⟩ HT2.out.box (by omega))
end Go.Proofs.YtidfcajhmldieaaGreatDoor.Tkc
