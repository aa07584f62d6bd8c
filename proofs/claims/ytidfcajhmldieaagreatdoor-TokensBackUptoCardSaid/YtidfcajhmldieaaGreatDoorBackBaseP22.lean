/-
  Part 22: TkcTag6, TkcTag7, TkcTag8, TkcTag.
-/
import Derived.Test.YtidfcajhmldieaaGreatDoorBackBaseP20
import Derived.Test.YtidfcajhmldieaaGreatDoorBackBaseP21
/-
  The function tag from its label 6 on.
-/
namespace Go.Proofs.YtidfcajhmldieaaGreatDoor.Tkc
open Go.RowKit Go.Proofs.YtidfcajhmldieaaGreatDoor.Oct Go.Proofs.YtidfcajhmldieaaGreatDoor.Utf Go.Proofs.YtidfcajhmldieaaGreatDoor.Crf Go.Proofs.YtidfcajhmldieaaGreatDoor.Tab Go.Proofs.YtidfcajhmldieaaGreatDoor.Tok

set_option maxRecDepth 100000 in
set_option maxHeartbeats 4000000 in
theorem pass6 (R : Nat) (l : List UInt8) (hl : l.length ≤ 65536) (vo : Value) (w0 : World) (k0 : Nat) (r0 : Rd) (kd : Int) (Q : Exit → Act → World → Prop) (hQ : Ends R l vo w0 k0 r0 kd Q) (n : Nat) (a : Act) (w : World)
    (hJ : Jt R l vo w0 k0 r0 kd 6 a w) (hm : mt R l 6 a w = n) (ih : Goes Tryz.prog (bodyOf Tryz.f56.body) (Less (Jt R l vo w0 k0 r0 kd) (mt R l) n) (Less (Jt R l vo w0 k0 r0 kd) (mt R l) n) Q) :
    ∃ X, findLabel (bodyOf Tryz.f56.body) 6 = some (.seq .skip X) ∧ X.wp Tryz.prog (jumps (Less (Jt R l vo w0 k0 r0 kd) (mt R l) n) Q) a w := by
  have _ : True := (fun _ _ => trivial) hQ hl
  have _ : True := (fun _ => trivial) ih
  obtain ⟨hF, k, nm, va, al, f, qs, an, q, hk, hf, hal, hkk, hS⟩ := hJ
  have hn : n = 3 * (l.length - k) + rankL 6 := by
    obtain ⟨hT, _⟩ := stBox hS
    rw [← hm]
    unfold mt
    rw [hT.atOf]
  clear hm
  refine Fr.elim (P := fun a => ∃ X, findLabel (bodyOf Tryz.f56.body) 6 = some (.seq .skip X) ∧ X.wp Tryz.prog (jumps (Less (Jt R l vo w0 k0 r0 kd) (mt R l) n) Q) a w) hF ?_
  clear hF a
  intro u3 u9 u10 u11 u12 u13 u14 u15 u16 u17 u18 u19 u20 u21 u22 u23 u24 u25 u26 u27 u28 u29 u30 u31 u32 u33 u34 u35 u36 u37 u38 u39 u40 u41 u42 u43 u44 u45 u46 u47 u48 u49 u50 u51 u52 u53 u54 u55 u56 u57 u58 u59 u60 u61 u62 u63 u64 u65 u66 u67 u68 u69 u70 u71 u72 u73 u74 u75 u76 u77 u78 u79 u80 u81 u82 u83 u84 u85 u86 u87 u88 u89 u90 u91 u92 u93 u94 u95 u96 u97 u98 u99 u100 u101 u102 u103 u104 u105 u106 u107 u108 u109 u110 u111
  refine ⟨_, rfl, ?_⟩
  have rk0 : rankL 0 = 2 := rfl
  have rk1 : rankL 1 = 0 := rfl
  have rk2 : rankL 2 = 1 := rfl
  have rk3 : rankL 3 = 1 := rfl
  have rk4 : rankL 4 = 2 := rfl
  have rk5 : rankL 5 = 1 := rfl
  have rk6 : rankL 6 = 2 := rfl
  have rk7 : rankL 7 = 2 := rfl
  have rk8 : rankL 8 = 1 := rfl
  have mk0 : moreL 0 = 0 := rfl
  have mk1 : moreL 1 = 0 := rfl
  have mk2 : moreL 2 = 0 := rfl
  have mk3 : moreL 3 = 0 := rfl
  have mk4 : moreL 4 = 1 := rfl
  have mk5 : moreL 5 = 1 := rfl
  have mk6 : moreL 6 = 1 := rfl
  have mk7 : moreL 7 = 1 := rfl
  have mk8 : moreL 8 = 1 := rfl
  obtain ⟨hT, hM⟩ := hS
  have c1 := hT.c1
  have HT0 := Lib.hid hT
  cases hb1 : passB blB l k with
  | true =>
    obtain ⟨hk2, hc⟩ := pass_true hb1
    have p1 := fun W (h : Bx R l k vo W) => pass_yes h hl hk 81 #[] blB enter_blank (asks_blank W) hb1
    go_wp2_with (first
      | (have _ := HT0; go_at_call 78; refine (p1 _ HT0.out.box).mono ?_; rintro e w1 ⟨rfl, hbx, hkp⟩; have T := HT0.out.keep hkp hbx; have d1 := T.c1; have HT1 := Lib.hid T; clear hbx hkp T))
    exact wp_goto (show Less _ _ n 6 _ _ from less_mk (b := 6) ⟨rfl, rfl, rfl, rfl, rfl, rfl, rfl, rfl, rfl, rfl⟩ ⟨k + 1, nm, va, al, f, qs, an, q, by omega, by omega, by omega, by omega, HT1.out, want_blank hk2 hc hM⟩ HT1.out.box (by omega))
  | false =>
    have p1 := fun W (h : Bx R l k vo W) => pass_no h hl hk 81 #[] blB enter_blank (asks_blank W) hb1
    have HBX := Lib.hid (fun W (h : Bx R l k vo W) => ((h.cell 1).trans rfl : W.cell? ⟨R, 1, none⟩ = some (.int .i64 (k : Int))))
    cases hb2 : passB (· == 34) l k with
    | true =>
      obtain ⟨hk2, hc⟩ := pass_true hb2
      have p2 := fun W (h : Bx R l k vo W) => take_yes h hl hk 34 hb2
      have hcut : cut l k (k + 1) = [34] := by rw [cut_succ hk2 (Nat.le_refl k), cut_nil]; simpa using hc
      have hsi := fun w1 (h : Bx R l (k + 1) vo w1) => since_c R l (k + 1) k vo w1 h (Nat.le_succ k) hk2
      rw [hcut] at hsi
      have HBX2 := Lib.hid (fun W (h : Bx R l (k + 1) vo W) => ((h.cell 1).trans rfl : W.cell? ⟨R, 1, none⟩ = some (.int .i64 ((k + 1 : Nat) : Int))))
      go_wp2_with (first
        | (have _ := HT2; go_at_call 29; refine (hsi _ HT2.out.box).mono ?_; rintro e w9 ⟨rfl, m9, hw9⟩; have T9 := HT2.out.grow (grown_of hw9); have e6 := T9.c6; have z6 := T9.z6; have TQ := T9.setQ [34]; have f1 := TQ.c1; have f5 := TQ.c5; have z7 := TQ.z5; have x9 := HBX2.out _ TQ.box; have HT9 := Lib.hid (TQ.setF (k + 1)); clear hw9 T9 TQ)
        | (have _ := HT1; go_at_call 82; refine (p2 _ HT1.out.box).mono ?_; rintro e w2 ⟨rfl, hbx, hkp⟩; have T := HT1.out.keep hkp hbx; have d2 := T.c1; have t5 := T.c5; have HT2 := Lib.hid T; clear hbx hkp T)
        | (have _ := HT0; go_at_call 78; refine (p1 _ HT0.out.box).mono ?_; rintro e w1 ⟨rfl, hbx, hkp⟩; have T := HT0.out.keep hkp hbx; have d1 := T.c1; have x1 := HBX.out _ T.box; have y5 := T.c5; have z5 := T.z5; have TB := T.setF k; have b1 := TB.c1; have HT1 := Lib.hid TB; clear hbx hkp T TB))
      exact wp_goto (show Less _ _ n 7 _ _ from less_mk (b := 7) ⟨rfl, rfl, rfl, rfl, rfl, rfl, rfl, rfl, rfl, rfl⟩ ⟨k + 1, nm, va, al, k + 1, qs, an, 34, by omega, by omega, by omega, by omega, HT9.out, (by have h := want_quote hk2 (pass_false hb1 hk2) (.inl (by simpa using hc)) hM; rw [show l[k] = 34 by simpa using hc] at h; rw [cut_nil]; exact h)⟩ HT9.out.box (by omega))
    | false =>
      have p2 := fun W (h : Bx R l k vo W) => take_no h hl hk 34 hb2
      cases hb3 : passB (· == 39) l k with
      | true =>
        obtain ⟨hk2, hc⟩ := pass_true hb3
        have p3 := fun W (h : Bx R l k vo W) => take_yes h hl hk 39 hb3
        have hcut : cut l k (k + 1) = [39] := by rw [cut_succ hk2 (Nat.le_refl k), cut_nil]; simpa using hc
        have hsi := fun w1 (h : Bx R l (k + 1) vo w1) => since_c R l (k + 1) k vo w1 h (Nat.le_succ k) hk2
        rw [hcut] at hsi
        have HBX2 := Lib.hid (fun W (h : Bx R l (k + 1) vo W) => ((h.cell 1).trans rfl : W.cell? ⟨R, 1, none⟩ = some (.int .i64 ((k + 1 : Nat) : Int))))
        go_wp2_with (first
          | (have _ := HT3; go_at_call 29; refine (hsi _ HT3.out.box).mono ?_; rintro e w9 ⟨rfl, m9, hw9⟩; have T9 := HT3.out.grow (grown_of hw9); have e6 := T9.c6; have z6 := T9.z6; have TQ := T9.setQ [39]; have f1 := TQ.c1; have f5 := TQ.c5; have z7 := TQ.z5; have x9 := HBX2.out _ TQ.box; have HT9 := Lib.hid (TQ.setF (k + 1)); clear hw9 T9 TQ)
          | (have _ := HT2; go_at_call 82; refine (p3 _ HT2.out.box).mono ?_; rintro e w3 ⟨rfl, hbx, hkp⟩; have T := HT2.out.keep hkp hbx; have d3 := T.c1; have t5 := T.c5; have HT3 := Lib.hid T; clear hbx hkp T)
          | (have _ := HT1; go_at_call 82; refine (p2 _ HT1.out.box).mono ?_; rintro e w2 ⟨rfl, hbx, hkp⟩; have T := HT1.out.keep hkp hbx; have d2 := T.c1; have HT2 := Lib.hid T; clear hbx hkp T)
          | (have _ := HT0; go_at_call 78; refine (p1 _ HT0.out.box).mono ?_; rintro e w1 ⟨rfl, hbx, hkp⟩; have T := HT0.out.keep hkp hbx; have d1 := T.c1; have x1 := HBX.out _ T.box; have y5 := T.c5; have z5 := T.z5; have TB := T.setF k; have b1 := TB.c1; have HT1 := Lib.hid TB; clear hbx hkp T TB))
        exact wp_goto (show Less _ _ n 7 _ _ from less_mk (b := 7) ⟨rfl, rfl, rfl, rfl, rfl, rfl, rfl, rfl, rfl, rfl⟩ ⟨k + 1, nm, va, al, k + 1, qs, an, 39, by omega, by omega, by omega, by omega, HT9.out, (by have h := want_quote hk2 (pass_false hb1 hk2) (.inr (by simpa using hc)) hM; rw [show l[k] = 39 by simpa using hc] at h; rw [cut_nil]; exact h)⟩ HT9.out.box (by omega))
      | false =>
        have p3 := fun W (h : Bx R l k vo W) => take_no h hl hk 39 hb3
        go_wp2_with (first
          | (have _ := HT2; go_at_call 82; refine (p3 _ HT2.out.box).mono ?_; rintro e w3 ⟨rfl, hbx, hkp⟩; have T := HT2.out.keep hkp hbx; have d3 := T.c1; have HT3 := Lib.hid T; clear hbx hkp T)
          | (have _ := HT1; go_at_call 82; refine (p2 _ HT1.out.box).mono ?_; rintro e w2 ⟨rfl, hbx, hkp⟩; have T := HT1.out.keep hkp hbx; have d2 := T.c1; have HT2 := Lib.hid T; clear hbx hkp T)
          | (have _ := HT0; go_at_call 78; refine (p1 _ HT0.out.box).mono ?_; rintro e w1 ⟨rfl, hbx, hkp⟩; have T := HT0.out.keep hkp hbx; have d1 := T.c1; have x1 := HBX.out _ T.box; have y5 := T.c5; have z5 := T.z5; have TB := T.setF k; have b1 := TB.c1; have HT1 := Lib.hid TB; clear hbx hkp T TB))
        rename_i K hK
        exact wp_label (hK _ _ (ih 8 _ _ _ (less_mk (b := 8) ⟨rfl, rfl, rfl, rfl, rfl, rfl, rfl, rfl, rfl, rfl⟩ ⟨k, nm, va, al, k, qs, an, q, by omega, by omega, by omega, by omega, HT3.out, (by rw [cut_nil]; exact want_else (fun h => ⟨pass_false hb1 h, by simpa using pass_false hb2 h, by simpa using pass_false hb3 h⟩) hM)⟩ HT3.out.box (by omega)) rfl))
end Go.Proofs.YtidfcajhmldieaaGreatDoor.Tkc

/-
  The function tag from its label 7 on.
-/
namespace Go.Proofs.YtidfcajhmldieaaGreatDoor.Tkc
open Go.RowKit Go.Proofs.YtidfcajhmldieaaGreatDoor.Oct Go.Proofs.YtidfcajhmldieaaGreatDoor.Utf Go.Proofs.YtidfcajhmldieaaGreatDoor.Crf Go.Proofs.YtidfcajhmldieaaGreatDoor.Tab Go.Proofs.YtidfcajhmldieaaGreatDoor.Tok

set_option maxRecDepth 100000 in
set_option maxHeartbeats 4000000 in
theorem pass7 (R : Nat) (l : List UInt8) (hl : l.length ≤ 65536) (vo : Value) (w0 : World) (k0 : Nat) (r0 : Rd) (kd : Int) (Q : Exit → Act → World → Prop) (hQ : Ends R l vo w0 k0 r0 kd Q) (n : Nat) (a : Act) (w : World)
    (hJ : Jt R l vo w0 k0 r0 kd 7 a w) (hm : mt R l 7 a w = n) (ih : Goes Tryz.prog (bodyOf Tryz.f56.body) (Less (Jt R l vo w0 k0 r0 kd) (mt R l) n) (Less (Jt R l vo w0 k0 r0 kd) (mt R l) n) Q) :
    ∃ X, findLabel (bodyOf Tryz.f56.body) 7 = some (.seq .skip X) ∧ X.wp Tryz.prog (jumps (Less (Jt R l vo w0 k0 r0 kd) (mt R l) n) Q) a w := by
  have _ : True := (fun _ _ => trivial) hQ hl
  have _ : True := (fun _ => trivial) ih
  obtain ⟨hF, k, nm, va, al, f, qs, an, q, hk, hf, hal, hkk, hS⟩ := hJ
  have hn : n = 3 * (l.length - k) + rankL 7 := by
    obtain ⟨hT, _⟩ := stBox hS
    rw [← hm]
    unfold mt
    rw [hT.atOf]
  clear hm
  refine Fr.elim (P := fun a => ∃ X, findLabel (bodyOf Tryz.f56.body) 7 = some (.seq .skip X) ∧ X.wp Tryz.prog (jumps (Less (Jt R l vo w0 k0 r0 kd) (mt R l) n) Q) a w) hF ?_
  clear hF a
  intro u3 u9 u10 u11 u12 u13 u14 u15 u16 u17 u18 u19 u20 u21 u22 u23 u24 u25 u26 u27 u28 u29 u30 u31 u32 u33 u34 u35 u36 u37 u38 u39 u40 u41 u42 u43 u44 u45 u46 u47 u48 u49 u50 u51 u52 u53 u54 u55 u56 u57 u58 u59 u60 u61 u62 u63 u64 u65 u66 u67 u68 u69 u70 u71 u72 u73 u74 u75 u76 u77 u78 u79 u80 u81 u82 u83 u84 u85 u86 u87 u88 u89 u90 u91 u92 u93 u94 u95 u96 u97 u98 u99 u100 u101 u102 u103 u104 u105 u106 u107 u108 u109 u110 u111
  refine ⟨_, rfl, ?_⟩
  have rk0 : rankL 0 = 2 := rfl
  have rk1 : rankL 1 = 0 := rfl
  have rk2 : rankL 2 = 1 := rfl
  have rk3 : rankL 3 = 1 := rfl
  have rk4 : rankL 4 = 2 := rfl
  have rk5 : rankL 5 = 1 := rfl
  have rk6 : rankL 6 = 2 := rfl
  have rk7 : rankL 7 = 2 := rfl
  have rk8 : rankL 8 = 1 := rfl
  have mk0 : moreL 0 = 0 := rfl
  have mk1 : moreL 1 = 0 := rfl
  have mk2 : moreL 2 = 0 := rfl
  have mk3 : moreL 3 = 0 := rfl
  have mk4 : moreL 4 = 1 := rfl
  have mk5 : moreL 5 = 1 := rfl
  have mk6 : moreL 6 = 1 := rfl
  have mk7 : moreL 7 = 1 := rfl
  have mk8 : moreL 8 = 1 := rfl
  obtain ⟨hT, hM⟩ := hS
  have c1 := hT.c1
  have HT0 := Lib.hid hT
  cases hb : passB (fun c => !(c == q)) l k with
  | true =>
    obtain ⟨hk2, hc⟩ := pass_true hb
    have p1 := fun W (h : TagW R l vo w0 k nm false va (al ++ [⟨an, []⟩]) f [q] W) => pass_yes h.box hl hk 76 #[.pointer (some ⟨w0.heap.size + 4, 0, none⟩)] (fun c => !(c == q)) enter_quote (asks_quote q (w0.heap.size + 4) W h.c6) hb
    go_wp2_with (first
      | (have _ := HT0; go_at_call 78; refine (p1 _ HT0.out).mono ?_; rintro e w1 ⟨rfl, hbx, hkp⟩; have T := HT0.out.keep hkp hbx; have d1 := T.c1; have HT1 := Lib.hid T; clear hbx hkp T))
    exact wp_goto (show Less _ _ n 7 _ _ from less_mk (b := 7) ⟨rfl, rfl, rfl, rfl, rfl, rfl, rfl, rfl, rfl, rfl⟩ ⟨k + 1, nm, va, al, f, qs, an, q, by omega, by omega, by omega, by omega, HT1.out, (by have h := value_pass hk2 (by simpa using hc) hM; rw [cut_succ hk2 hf]; exact h)⟩ HT1.out.box (by omega))
  | false =>
    have p1 := fun W (h : TagW R l vo w0 k nm false va (al ++ [⟨an, []⟩]) f [q] W) => pass_no h.box hl hk 76 #[.pointer (some ⟨w0.heap.size + 4, 0, none⟩)] (fun c => !(c == q)) enter_quote (asks_quote q (w0.heap.size + 4) W h.c6) hb
    have ep := enter_put
    cases hb3 : passB (· == q) l k with
    | true =>
      obtain ⟨hk2, hc⟩ := pass_true hb3
      have p3 := fun W (h : Bx R l k vo W) => take_yes h hl hk q hb3
      go_wp2_with (first
        | (have _ := HT2; go_at_call 82; refine (p3 _ HT2.out.box).mono ?_; rintro e w3 ⟨rfl, hbx, hkp⟩; have T := HT2.out.keep hkp hbx; have HT3 := Lib.hid T; clear hbx hkp T)
        | (have _ := HT1; go_at_fn 77; refine (putv_c R l hl vo w0 k hk nm false va al (by omega) ⟨an, []⟩ f hf [q] _ HT1.out).mono ?_; rintro e w2 ⟨rfl, T2⟩; have d2 := T2.c1; have d6 := T2.c6; have HT2 := Lib.hid T2; clear T2)
        | (have _ := HT0; go_at_call 78; refine (p1 _ HT0.out).mono ?_; rintro e w1 ⟨rfl, hbx, hkp⟩; have T := HT0.out.keep hkp hbx; have d1 := T.c1; have HT1 := Lib.hid T; clear hbx hkp T))
      exact wp_goto (show Less _ _ n 3 _ _ from less_mk (b := 3) ⟨rfl, rfl, rfl, rfl, rfl, rfl, rfl, rfl, rfl, rfl⟩ ⟨k + 1, nm, va, al ++ [⟨an, decL' (cut l f k)⟩], f, [q], an, q, by omega, by omega, (by rw [List.length_append, List.length_singleton]; omega), by omega, HT3.out, value_stop hk2 (by simpa using hc) hM⟩ HT3.out.box (by omega))
    | false =>
      have p3 := fun W (h : Bx R l k vo W) => take_no h hl hk q hb3
      have hk2 : ¬ k < l.length := fun h => by
        have h1 := pass_false hb h
        have h2 := pass_false hb3 h
        simp at h1 h2
        exact h2 h1
      go_wp2_with (first
        | (have _ := HT2; go_at_call 82; refine (p3 _ HT2.out.box).mono ?_; rintro e w3 ⟨rfl, hbx, hkp⟩; have T := HT2.out.keep hkp hbx; have HT3 := Lib.hid T; clear hbx hkp T)
        | (have _ := HT1; go_at_fn 77; refine (putv_c R l hl vo w0 k hk nm false va al (by omega) ⟨an, []⟩ f hf [q] _ HT1.out).mono ?_; rintro e w2 ⟨rfl, T2⟩; have d2 := T2.c1; have d6 := T2.c6; have HT2 := Lib.hid T2; clear T2)
        | (have _ := HT0; go_at_call 78; refine (p1 _ HT0.out).mono ?_; rintro e w1 ⟨rfl, hbx, hkp⟩; have T := HT0.out.keep hkp hbx; have d1 := T.c1; have HT1 := Lib.hid T; clear hbx hkp T))
      exact wp_goto (show Less _ _ n 3 _ _ from less_mk (b := 3) ⟨rfl, rfl, rfl, rfl, rfl, rfl, rfl, rfl, rfl, rfl⟩ ⟨k, nm, va, al ++ [⟨an, decL' (cut l f k)⟩], f, [q], an, q, by omega, by omega, (by rw [List.length_append, List.length_singleton]; omega), by omega, HT3.out, value_end hk2 hM⟩ HT3.out.box (by omega))
end Go.Proofs.YtidfcajhmldieaaGreatDoor.Tkc

/-
  The function tag from its label 8 on.
-/
namespace Go.Proofs.YtidfcajhmldieaaGreatDoor.Tkc
open Go.RowKit Go.Proofs.YtidfcajhmldieaaGreatDoor.Oct Go.Proofs.YtidfcajhmldieaaGreatDoor.Utf Go.Proofs.YtidfcajhmldieaaGreatDoor.Crf Go.Proofs.YtidfcajhmldieaaGreatDoor.Tab Go.Proofs.YtidfcajhmldieaaGreatDoor.Tok

set_option maxRecDepth 100000 in
set_option maxHeartbeats 4000000 in
theorem pass8 (R : Nat) (l : List UInt8) (hl : l.length ≤ 65536) (vo : Value) (w0 : World) (k0 : Nat) (r0 : Rd) (kd : Int) (Q : Exit → Act → World → Prop) (hQ : Ends R l vo w0 k0 r0 kd Q) (n : Nat) (a : Act) (w : World)
    (hJ : Jt R l vo w0 k0 r0 kd 8 a w) (hm : mt R l 8 a w = n) (ih : Goes Tryz.prog (bodyOf Tryz.f56.body) (Less (Jt R l vo w0 k0 r0 kd) (mt R l) n) (Less (Jt R l vo w0 k0 r0 kd) (mt R l) n) Q) :
    ∃ X, findLabel (bodyOf Tryz.f56.body) 8 = some (.seq .skip X) ∧ X.wp Tryz.prog (jumps (Less (Jt R l vo w0 k0 r0 kd) (mt R l) n) Q) a w := by
  have _ : True := (fun _ _ => trivial) hQ hl
  have _ : True := (fun _ => trivial) ih
  obtain ⟨hF, k, nm, va, al, f, qs, an, q, hk, hf, hal, hkk, hS⟩ := hJ
  have hn : n = 3 * (l.length - k) + rankL 8 := by
    obtain ⟨hT, _⟩ := stBox hS
    rw [← hm]
    unfold mt
    rw [hT.atOf]
  clear hm
  refine Fr.elim (P := fun a => ∃ X, findLabel (bodyOf Tryz.f56.body) 8 = some (.seq .skip X) ∧ X.wp Tryz.prog (jumps (Less (Jt R l vo w0 k0 r0 kd) (mt R l) n) Q) a w) hF ?_
  clear hF a
  intro u3 u9 u10 u11 u12 u13 u14 u15 u16 u17 u18 u19 u20 u21 u22 u23 u24 u25 u26 u27 u28 u29 u30 u31 u32 u33 u34 u35 u36 u37 u38 u39 u40 u41 u42 u43 u44 u45 u46 u47 u48 u49 u50 u51 u52 u53 u54 u55 u56 u57 u58 u59 u60 u61 u62 u63 u64 u65 u66 u67 u68 u69 u70 u71 u72 u73 u74 u75 u76 u77 u78 u79 u80 u81 u82 u83 u84 u85 u86 u87 u88 u89 u90 u91 u92 u93 u94 u95 u96 u97 u98 u99 u100 u101 u102 u103 u104 u105 u106 u107 u108 u109 u110 u111
  refine ⟨_, rfl, ?_⟩
  have rk0 : rankL 0 = 2 := rfl
  have rk1 : rankL 1 = 0 := rfl
  have rk2 : rankL 2 = 1 := rfl
  have rk3 : rankL 3 = 1 := rfl
  have rk4 : rankL 4 = 2 := rfl
  have rk5 : rankL 5 = 1 := rfl
  have rk6 : rankL 6 = 2 := rfl
  have rk7 : rankL 7 = 2 := rfl
  have rk8 : rankL 8 = 1 := rfl
  have mk0 : moreL 0 = 0 := rfl
  have mk1 : moreL 1 = 0 := rfl
  have mk2 : moreL 2 = 0 := rfl
  have mk3 : moreL 3 = 0 := rfl
  have mk4 : moreL 4 = 1 := rfl
  have mk5 : moreL 5 = 1 := rfl
  have mk6 : moreL 6 = 1 := rfl
  have mk7 : moreL 7 = 1 := rfl
  have mk8 : moreL 8 = 1 := rfl
  obtain ⟨hT, hM⟩ := hS
  have c1 := hT.c1
  have HT0 := Lib.hid hT
  cases hb : passB inBare l k with
  | true =>
    obtain ⟨hk2, hc⟩ := pass_true hb
    have p1 := fun W (h : Bx R l k vo W) => pass_yes h hl hk 84 #[] inBare enter_bare (asks_bare W) hb
    go_wp2_with (first
      | (have _ := HT0; go_at_call 78; refine (p1 _ HT0.out.box).mono ?_; rintro e w1 ⟨rfl, hbx, hkp⟩; have T := HT0.out.keep hkp hbx; have d1 := T.c1; have HT1 := Lib.hid T; clear hbx hkp T))
    exact wp_goto (show Less _ _ n 8 _ _ from less_mk (b := 8) ⟨rfl, rfl, rfl, rfl, rfl, rfl, rfl, rfl, rfl, rfl⟩ ⟨k + 1, nm, va, al, f, qs, an, q, by omega, by omega, by omega, by omega, HT1.out, (by have h := bare_pass hk2 hc hM; rw [cut_succ hk2 hf]; exact h)⟩ HT1.out.box (by omega))
  | false =>
    have p1 := fun W (h : Bx R l k vo W) => pass_no h hl hk 84 #[] inBare enter_bare (asks_bare W) hb
    have ep := enter_put
    go_wp2_with (first
      | (have _ := HT1; go_at_fn 77; refine (putv_c R l hl vo w0 k hk nm false va al (by omega) ⟨an, []⟩ f hf qs _ HT1.out).mono ?_; rintro e w2 ⟨rfl, T2⟩; have d2 := T2.c1; have d6 := T2.c6; have HT2 := Lib.hid T2; clear T2)
      | (have _ := HT0; go_at_call 78; refine (p1 _ HT0.out.box).mono ?_; rintro e w1 ⟨rfl, hbx, hkp⟩; have T := HT0.out.keep hkp hbx; have d1 := T.c1; have HT1 := Lib.hid T; clear hbx hkp T))
    exact wp_goto (show Less _ _ n 1 _ _ from less_mk (b := 1) ⟨rfl, rfl, rfl, rfl, rfl, rfl, rfl, rfl, rfl, rfl⟩ ⟨k, nm, va, al ++ [⟨an, decL' (cut l f k)⟩], f, qs, an, q, by omega, by omega, (by rw [List.length_append, List.length_singleton]; omega), by omega, HT2.out, bare_stop (pass_false hb) hM⟩ HT2.out.box (by omega))
end Go.Proofs.YtidfcajhmldieaaGreatDoor.Tkc

/-
  Contract of the function tag.
-/
namespace Go.Proofs.YtidfcajhmldieaaGreatDoor.Tkc
open Go.RowKit Go.Proofs.YtidfcajhmldieaaGreatDoor.Oct Go.Proofs.YtidfcajhmldieaaGreatDoor.Utf Go.Proofs.YtidfcajhmldieaaGreatDoor.Crf Go.Proofs.YtidfcajhmldieaaGreatDoor.Tab Go.Proofs.YtidfcajhmldieaaGreatDoor.Tok

/-- What tag leaves. -/
inductive TagTo (R : Nat) (l : List UInt8) (vo : Value) (w0 : World) (k0 : Nat) (r0 : Rd) (kd : Int) (e : Ending) (w : World) : Prop
  | ended (k : Nat) (nm : List UInt8) (va : Value) (al : List At) (cl : Bool) (he : e = .returned (.tuple #[.agg #[.int .i64 0, .string (S nm), .string ⟨#[]⟩, va, .bool cl], .bool true])) (hk : k ≤ l.length) (hk0 : k0 ≤ k) (box : Bx R l k vo w) (att : AtR (w0.heap.size + 5) w va al) (keeps : Keeps R w0 w) (te : TagEnd l k0 r0 kd k nm al cl)
  | none (he : e = .returned (.tuple #[.agg #[.int .i64 0, .string ⟨#[]⟩, .string ⟨#[]⟩, .slice none 0 0, .bool false], .bool false])) (box : Bx R l l.length vo w) (keeps : Keeps R w0 w) (te : LL l k0 r0 = r0.out)

theorem tag_ends (R : Nat) (l : List UInt8) (vo : Value) (w0 : World) (k0 : Nat) (r0 : Rd) (kd : Int) :
    Ends R l vo w0 k0 r0 kd (bodyPost Tryz.prog Tryz.f56 fun e w => TagTo R l vo w0 k0 r0 kd e w) := by
  intro b a w hd h2 h3 hL
  cases hL with
  | ended k nm va al cl hk hk0 box res att keeps te =>
    have c0 : w.cell? ⟨w0.heap.size + 1, 0, none⟩ = some (.int .i64 0) := (cell_of_row w _ 0 _ _ _ res).trans rfl
    have c1 : w.cell? ⟨w0.heap.size + 1, 1, none⟩ = some (.string (S nm)) := (cell_of_row w _ 1 _ _ _ res).trans rfl
    have c2 : w.cell? ⟨w0.heap.size + 1, 2, none⟩ = some (.string ⟨#[]⟩) := (cell_of_row w _ 2 _ _ _ res).trans rfl
    have c3 : w.cell? ⟨w0.heap.size + 1, 3, none⟩ = some va := (cell_of_row w _ 3 _ _ _ res).trans rfl
    have c4 : w.cell? ⟨w0.heap.size + 1, 4, none⟩ = some (.bool cl) := (cell_of_row w _ 4 _ _ _ res).trans rfl
    refine bodyPost_ret (v := .tuple #[.agg #[.int .i64 0, .string (S nm), .string ⟨#[]⟩, va, .bool cl], .bool true]) (by simp [results, Tryz.results56, go_sem, h2, h3, c0, c1, c2, c3, c4]) hd ?_
    exact .ended k nm va al cl rfl hk hk0 box att keeps te
  | none box res keeps te =>
    have c0 : w.cell? ⟨w0.heap.size + 1, 0, none⟩ = some (.int .i64 0) := (cell_of_row w _ 0 _ _ _ res).trans rfl
    have c1 : w.cell? ⟨w0.heap.size + 1, 1, none⟩ = some (.string ⟨#[]⟩) := (cell_of_row w _ 1 _ _ _ res).trans rfl
    have c2 : w.cell? ⟨w0.heap.size + 1, 2, none⟩ = some (.string ⟨#[]⟩) := (cell_of_row w _ 2 _ _ _ res).trans rfl
    have c3 : w.cell? ⟨w0.heap.size + 1, 3, none⟩ = some (.slice none 0 0) := (cell_of_row w _ 3 _ _ _ res).trans rfl
    have c4 : w.cell? ⟨w0.heap.size + 1, 4, none⟩ = some (.bool false) := (cell_of_row w _ 4 _ _ _ res).trans rfl
    refine bodyPost_ret (v := .tuple #[.agg #[.int .i64 0, .string ⟨#[]⟩, .string ⟨#[]⟩, .slice none 0 0, .bool false], .bool false]) (by simp [results, Tryz.results56, go_sem, h2, h3, c0, c1, c2, c3, c4]) hd ?_
    exact .none rfl box keeps te

/-- The boxes that tag lays first. -/
abbrev tagBoxes (R k : Nat) (w : World) : World :=
  ((((w.alloc (.cells #[.pointer (some ⟨R, 0, none⟩)] 60)).alloc (.cells zeroT 34)).alloc (.cells zeroT 34)).alloc (.cells #[.int .i64 (k : Int)] 3)).alloc (.cells #[.string ⟨#[]⟩] 9)
theorem tag_start (R : Nat) (l : List UInt8) (k : Nat) (vo : Value) (w : World) (h : Bx R l k vo w) : TagW R l vo w k [] false (.slice none 0 0) [] k [] (tagBoxes R k w) := by
  have hlt := h.lt
  have e : ∀ (X : World) (o : Obj) (b : Nat), b < X.heap.size → (X.alloc o).heap[b]? = X.heap[b]? := fun X o b hb => ((Below.refl X.heap.size X).alloc (Nat.le_refl _) o).block b hb
  have n1 : ∀ (X : World) (o : Obj) (b : Nat), b = X.heap.size → (X.alloc o).heap[b]? = some (o) := fun X o b hb => by subst hb; exact heap_alloc_new X o
  have hb : Below w.heap.size w (tagBoxes R k w) := (((((Below.refl _ w).alloc (Nat.le_refl _) _).alloc (by simp) _).alloc (by first | (simp; done) | (simp; omega)) _).alloc (by first | (simp; done) | (simp; omega)) _).alloc (by first | (simp; done) | (simp; omega)) _
  exact {
    box := h.keep hb
    b1 := (e _ _ _ (by first | (simp; done) | (simp; omega))).trans ((e _ _ _ (by first | (simp; done) | (simp; omega))).trans ((e _ _ _ (by first | (simp; done) | (simp; omega))).trans ((e _ _ _ (by simp)).trans (n1 _ _ _ rfl))))
    b2 := (e _ _ _ (by first | (simp; done) | (simp; omega))).trans ((e _ _ _ (by first | (simp; done) | (simp; omega))).trans ((e _ _ _ (by simp)).trans (n1 _ _ _ (by simp))))
    b4 := (e _ _ _ (by first | (simp; done) | (simp; omega))).trans ((e _ _ _ (by simp)).trans (n1 _ _ _ (by simp)))
    b5 := (e _ _ _ (by simp)).trans (n1 _ _ _ (by simp))
    b6 := n1 _ _ _ (by simp)
    att := World.ownsRow_nil _ _ _ _
    keeps := Keeps.of hb
    low := hlt }
theorem st_le {R : Nat} {l : List UInt8} {vo : Value} {w0 : World} {k0 : Nat} {r0 : Rd} {kd : Int} {b : Nat} {w : World} (h : St R l vo w0 k0 r0 kd b w) : b = 0 ∨ b = 1 ∨ b = 2 ∨ b = 3 ∨ b = 4 ∨ b = 5 ∨ b = 6 ∨ b = 7 ∨ b = 8 := by
  obtain ⟨k, nm, va, al, f, qs, a, q, _, _, _, _, h⟩ := h
  by_cases h8 : b ≤ 8
  · omega
  · exfalso
    rw [if_neg (by omega), if_neg (by omega), if_neg (by omega), if_neg (by omega), if_neg (by omega), if_neg (by omega), if_neg (by omega), if_neg (by omega)] at h
    exact h
set_option maxRecDepth 100000 in
set_option maxHeartbeats 4000000 in
/-- Contract of tag: the reader stands behind what begins it. -/
theorem tag_c (R : Nat) (l : List UInt8) (hl : l.length ≤ 65536) (vo : Value) (w : World) (k : Nat) (r0 : Rd) (kd : Int) (h : Bx R l k vo w) (hk : k ≤ l.length) (hk1 : 1 ≤ k) (hs : r0.st = 3) (hg : r0.tg = ⟨kd, [], [], [], false⟩) :
    Calls Tryz.prog 56 #[.pointer (some ⟨R, 0, none⟩)] w fun e w' => TagTo R l vo w k r0 kd e w' := by
  have hE := tag_ends R l vo w k r0 kd
  have HS : Hid (St R l vo w k r0 kd 0 (tagBoxes R k w)) := ⟨k, [], .slice none 0 0, [], k, [], [], 0, hk, Nat.le_refl _, hk1, Nat.le_refl _, tag_start R l k vo w h, ⟨r0, rfl, hs, by rw [cut_nil]; exact hg, trivial, rfl, rfl⟩, Nat.le_refl _⟩
  have hb3 : Below w.heap.size w (((w.alloc (.cells #[.pointer (some ⟨R, 0, none⟩)] 60)).alloc (.cells zeroT 34)).alloc (.cells zeroT 34)) := ((((Below.refl _ w).alloc (Nat.le_refl _) _).alloc (by simp) _).alloc (by first | (simp; done) | (simp; omega)) _)
  have x1 := ((h.keep hb3).cell 1).trans rfl
  clear h hs hg hb3
  go_enter Tryz.func56, Tryz.ntmps56
  go_wp2_with fail
  refine wp_scope_many (Jt R l vo w k r0 kd) (mt R l) ?_ ?_
  · intro hgo
    go_wp2_with fail
    rename_i K hK
    exact wp_label (hK _ _ (hgo 0 _ _ _ ⟨⟨rfl, rfl, rfl, rfl, rfl, rfl, rfl, rfl, rfl, rfl⟩, HS.out⟩ rfl))
  · clear x1 HS
    intro n b a W hJ hm ih
    rcases st_le hJ.2 with rfl | rfl | rfl | rfl | rfl | rfl | rfl | rfl | rfl
    · exact pass0 R l hl vo w k r0 kd _ hE n a W hJ hm ih
    · exact pass1 R l hl vo w k r0 kd _ hE n a W hJ hm ih
    · exact pass2 R l hl vo w k r0 kd _ hE n a W hJ hm ih
    · exact pass3 R l hl vo w k r0 kd _ hE n a W hJ hm ih
    · exact pass4 R l hl vo w k r0 kd _ hE n a W hJ hm ih
    · exact pass5 R l hl vo w k r0 kd _ hE n a W hJ hm ih
    · exact pass6 R l hl vo w k r0 kd _ hE n a W hJ hm ih
    · exact pass7 R l hl vo w k r0 kd _ hE n a W hJ hm ih
    · exact pass8 R l hl vo w k r0 kd _ hE n a W hJ hm ih
end Go.Proofs.YtidfcajhmldieaaGreatDoor.Tkc
