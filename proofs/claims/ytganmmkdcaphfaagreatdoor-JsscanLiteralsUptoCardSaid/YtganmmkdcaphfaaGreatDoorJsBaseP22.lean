/-
  Part 22: RdPart.
-/
import Derived.Test.YtganmmkdcaphfaaGreatDoorJsBaseP21
/-
  Contract of the reader's part.
-/
namespace Go.Proofs.YtganmmkdcaphfaaGreatDoor.Rd
open Go.RowKit Go.Proofs.YtganmmkdcaphfaaGreatDoor.Oct Go.Proofs.YtganmmkdcaphfaaGreatDoor.Val Go.Proofs.YtganmmkdcaphfaaGreatDoor.Num Go.Proofs.YtganmmkdcaphfaaGreatDoor.Tl

/-- Within part: the reader, and the result's box, still empty. -/
def InAt (N : Nat) (tag : Nat → Nat) (w : World) (R : Nat) (s : List UInt8) (fs : List Fr) (d : Nat) (ov : Value) (es : List E5) (W : World) : Prop :=
  RdAt N tag W R s fs d ov es ∧ Kp tag tag w W ∧ Bx W w.heap.size (.int .i64 0) (.int .i64 0) (.string ⟨#[]⟩) (.slice none 0 0) (.slice none 0 0) ∧ tag w.heap.size = 1

theorem takes_in {N : Nat} {tag : Nat → Nat} {w W : World} {R : Nat} {s : List UInt8} {fs : List Fr} {d : Nat} {ov : Value} {es : List E5} (p : List UInt8) (b : Bool) (hb : Lib.hasPrefix s p = b) (h : InAt N tag w R s fs d ov es W) :
    Calls Tryz.prog 63 #[.pointer (some ⟨R, 0, none⟩), .string (S p)] W fun e w' => e = .returned (.bool b) ∧ InAt N tag w R (if b then s.drop p.length else s) fs d ov es w' := by
  obtain ⟨h1, h2, h3, h4⟩ := h
  have hq : w.heap.size ≠ R := fun e => by rw [e, h1.rmark] at h4; omega
  refine (takes_c R (S s) (S p) ov (.int .i64 d) W h1.rd).mono ?_
  rintro e w' ⟨rfl, h5, h6⟩
  have hx : takesP (S p).data.toList (S s).data.toList = (b, if b then s.drop p.length else s) := by
    simp only
    unfold takesP
    rw [hb]
    cases b <;> rfl
  rw [hx] at h5 ⊢
  exact ⟨rfl, h1.read h5 h6, h2.trans (Kp.save h1.rmark h6), h3.save h6 hq, h4⟩

theorem number_range {s t : List UInt8} {n : Int} (h : numberP s = some (n, t)) : -9223372036854775808 ≤ n ∧ n ≤ 9223372036854775807 := by
  unfold numberP at h
  split at h
  · split at h
    · injection h with h
      injection h with h1 h2
      rw [← h1]
      exact parseL_range _
    · cases h
  · cases h

/-- What a call within part hands on. -/
theorem part_on {N : Nat} {tag : Nat → Nat} {w W W' : World} {R : Nat} {s : List UInt8} {fs : List Fr} {d : Nat} {ov : Value} {es : List E5} (h : InAt N tag w R s fs d ov es W) {s' : List UInt8} {fs' : List Fr} {d' : Nat} {ov' : Value} {es' : List E5} {tag' : Nat → Nat}
    (h1 : RdAt N tag' W' R s' fs' d' ov' es') (h2 : Kp tag tag' W W') : RdAt N tag' W' R s' fs' d' ov' es' ∧ Kp tag tag' w W' ∧ Bx W' w.heap.size (.int .i64 0) (.int .i64 0) (.string ⟨#[]⟩) (.slice none 0 0) (.slice none 0 0) ∧ tag' w.heap.size = 1 := by
  obtain ⟨b1, b2⟩ := h.2.2.1.kp h2 h.2.2.2
  exact ⟨h1, h.2.1.trans h2, b1, b2⟩

set_option maxHeartbeats 4000000 in
set_option maxRecDepth 100000 in
theorem part_leaf0 (N : Nat) (tag : Nat → Nat) (w : World) (R : Nat) (s : List UInt8) (fs : List Fr) (d : Nat) (ov : Value) (es : List E5) (h : RdAt N tag w R s fs d ov es) (hp0 : Lib.hasPrefix s [110, 117, 108, 108] = true) :
    Calls Tryz.prog 61 #[.pointer (some ⟨R, 0, none⟩)] w (PartTo N tag w R (.val (leafV 0 0 ⟨#[]⟩) (s.drop 4) fs d)) := by
    have H0 : Hid (InAt N tag w R s fs d ov es (zBox w)) := by
      obtain ⟨z1, z2, z3, z4, z5⟩ := zero_box h
      exact ⟨z1, z3, z2, z4⟩
    clear h
    go_enter Tryz.func61, Tryz.ntmps61
    go_wp2_with fail
    refine (takes_in [110, 117, 108, 108] true hp0 H0.out).mono ?_
    rintro e1 W1 ⟨rfl, h1⟩
    simp only [if_true] at h1
    obtain ⟨y0, y1, y2, y3, y4⟩ := h1.2.2.1.five
    obtain ⟨t0, t1, t2, t3, t4⟩ := h1.2.2.1.froz
    have H1 := Lib.hid h1
    clear h1
    go_wp2_with fail
    refine bodyPost_ret (v := .tuple #[.agg #[.int .i64 0, .int .i64 0, .string ⟨#[]⟩, .slice none 0 0, .slice none 0 0], .bool true]) (by simp [results, Tryz.results61, go_sem, y0, y1, y2, y3, y4]) rfl ?_
    have fin := fun Z hZ => part_val (w := w) H1.out.1 H1.out.2.1 H1.out.2.2.2 (leaf_holds 0 0 ⟨#[]⟩ (by decide) (by decide) (by decide)) Z hZ
    exact fin _ rfl

set_option maxHeartbeats 4000000 in
set_option maxRecDepth 100000 in
theorem part_leaf1 (N : Nat) (tag : Nat → Nat) (w : World) (R : Nat) (s : List UInt8) (fs : List Fr) (d : Nat) (ov : Value) (es : List E5) (h : RdAt N tag w R s fs d ov es) (hp0 : Lib.hasPrefix s [110, 117, 108, 108] = false) (hp1 : Lib.hasPrefix s [102, 97, 108, 115, 101] = true) :
    Calls Tryz.prog 61 #[.pointer (some ⟨R, 0, none⟩)] w (PartTo N tag w R (.val (leafV 1 0 ⟨#[]⟩) (s.drop 5) fs d)) := by
    have H0 : Hid (InAt N tag w R s fs d ov es (zBox w)) := by
      obtain ⟨z1, z2, z3, z4, z5⟩ := zero_box h
      exact ⟨z1, z3, z2, z4⟩
    clear h
    go_enter Tryz.func61, Tryz.ntmps61
    go_wp2_with fail
    refine (takes_in [110, 117, 108, 108] false hp0 H0.out).mono ?_
    rintro e1 W1 ⟨rfl, h1⟩
    simp only [Bool.false_eq_true, if_false] at h1
    have H1 := Lib.hid h1
    clear h1
    go_wp2_with fail
    refine (takes_in [102, 97, 108, 115, 101] true hp1 H1.out).mono ?_
    rintro e2 W2 ⟨rfl, h2⟩
    simp only [if_true] at h2
    obtain ⟨y0, y1, y2, y3, y4⟩ := h2.2.2.1.five
    obtain ⟨t0, t1, t2, t3, t4⟩ := h2.2.2.1.froz
    have H2 := Lib.hid h2
    clear h2
    go_wp2_with fail
    refine bodyPost_ret (v := .tuple #[.agg #[.int .i64 1, .int .i64 0, .string ⟨#[]⟩, .slice none 0 0, .slice none 0 0], .bool true]) (by simp [results, Tryz.results61, go_sem, y0, y1, y2, y3, y4]) rfl ?_
    have fin := fun Z hZ => part_val (w := w) H2.out.1 H2.out.2.1 H2.out.2.2.2 (leaf_holds 1 0 ⟨#[]⟩ (by decide) (by decide) (by decide)) Z hZ
    exact fin _ rfl

set_option maxHeartbeats 4000000 in
set_option maxRecDepth 100000 in
theorem part_leaf2 (N : Nat) (tag : Nat → Nat) (w : World) (R : Nat) (s : List UInt8) (fs : List Fr) (d : Nat) (ov : Value) (es : List E5) (h : RdAt N tag w R s fs d ov es) (hp0 : Lib.hasPrefix s [110, 117, 108, 108] = false) (hp1 : Lib.hasPrefix s [102, 97, 108, 115, 101] = false) (hp2 : Lib.hasPrefix s [116, 114, 117, 101] = true) :
    Calls Tryz.prog 61 #[.pointer (some ⟨R, 0, none⟩)] w (PartTo N tag w R (.val (leafV 2 0 ⟨#[]⟩) (s.drop 4) fs d)) := by
    have H0 : Hid (InAt N tag w R s fs d ov es (zBox w)) := by
      obtain ⟨z1, z2, z3, z4, z5⟩ := zero_box h
      exact ⟨z1, z3, z2, z4⟩
    clear h
    go_enter Tryz.func61, Tryz.ntmps61
    go_wp2_with fail
    refine (takes_in [110, 117, 108, 108] false hp0 H0.out).mono ?_
    rintro e1 W1 ⟨rfl, h1⟩
    simp only [Bool.false_eq_true, if_false] at h1
    have H1 := Lib.hid h1
    clear h1
    go_wp2_with fail
    refine (takes_in [102, 97, 108, 115, 101] false hp1 H1.out).mono ?_
    rintro e2 W2 ⟨rfl, h2⟩
    simp only [Bool.false_eq_true, if_false] at h2
    have H2 := Lib.hid h2
    clear h2
    go_wp2_with fail
    refine (takes_in [116, 114, 117, 101] true hp2 H2.out).mono ?_
    rintro e3 W3 ⟨rfl, h3⟩
    simp only [if_true] at h3
    obtain ⟨y0, y1, y2, y3, y4⟩ := h3.2.2.1.five
    obtain ⟨t0, t1, t2, t3, t4⟩ := h3.2.2.1.froz
    have H3 := Lib.hid h3
    clear h3
    go_wp2_with fail
    refine bodyPost_ret (v := .tuple #[.agg #[.int .i64 2, .int .i64 0, .string ⟨#[]⟩, .slice none 0 0, .slice none 0 0], .bool true]) (by simp [results, Tryz.results61, go_sem, y0, y1, y2, y3, y4]) rfl ?_
    have fin := fun Z hZ => part_val (w := w) H3.out.1 H3.out.2.1 H3.out.2.2.2 (leaf_holds 2 0 ⟨#[]⟩ (by decide) (by decide) (by decide)) Z hZ
    exact fin _ rfl

set_option maxHeartbeats 4000000 in
set_option maxRecDepth 100000 in
theorem part_begin5 (N : Nat) (tag : Nat → Nat) (w : World) (R : Nat) (s : List UInt8) (fs : List Fr) (d : Nat) (ov : Value) (es : List E5) (h : RdAt N tag w R s fs d ov es) (hp0 : Lib.hasPrefix s [110, 117, 108, 108] = false) (hp1 : Lib.hasPrefix s [102, 97, 108, 115, 101] = false) (hp2 : Lib.hasPrefix s [116, 114, 117, 101] = false) (hp3 : Lib.hasPrefix s [91] = true) (hm : fs.length + 1 ≤ 1099511627776) :
    Calls Tryz.prog 61 #[.pointer (some ⟨R, 0, none⟩)] w (PartTo N tag w R (beginP 5 (s.drop 1) fs d)) := by
    have H0 : Hid (InAt N tag w R s fs d ov es (zBox w)) := by
      obtain ⟨z1, z2, z3, z4, z5⟩ := zero_box h
      exact ⟨z1, z3, z2, z4⟩
    clear h
    obtain ⟨r, hr⟩ : ∃ r, r = beginP 5 (s.drop 1) fs d := ⟨_, rfl⟩
    have HR := Lib.hid hr
    rw [← hr]
    clear hr
    go_enter Tryz.func61, Tryz.ntmps61
    go_wp2_with fail
    refine (takes_in [110, 117, 108, 108] false hp0 H0.out).mono ?_
    rintro e1 W1 ⟨rfl, h1⟩
    simp only [Bool.false_eq_true, if_false] at h1
    have H1 := Lib.hid h1
    clear h1
    go_wp2_with fail
    refine (takes_in [102, 97, 108, 115, 101] false hp1 H1.out).mono ?_
    rintro e2 W2 ⟨rfl, h2⟩
    simp only [Bool.false_eq_true, if_false] at h2
    have H2 := Lib.hid h2
    clear h2
    go_wp2_with fail
    refine (takes_in [116, 114, 117, 101] false hp2 H2.out).mono ?_
    rintro e3 W3 ⟨rfl, h3⟩
    simp only [Bool.false_eq_true, if_false] at h3
    have H3 := Lib.hid h3
    clear h3
    go_wp2_with fail
    refine (takes_in [91] true hp3 H3.out).mono ?_
    rintro e4 W4 ⟨rfl, h4⟩
    simp only [if_true] at h4
    have H4 := Lib.hid h4
    clear h4
    have hb := begin_c N tag W4 R (s.drop 1) fs 5 (by omega) d ov es H4.out.1 hm
    have hb2 := hb.mono fun en w' hh => begin_part hh
    clear hb
    rw [← HR.out] at hb2
    clear HR
    have HC := Lib.hid (hb2)
    cases r with
    | bad =>
      go_wp2_with fail
      refine HC.out.mono ?_
      rintro e8 W8 ⟨rfl, tg, h8⟩
      exact ⟨rfl, rfl, tg, H4.out.2.1.trans h8⟩
    | val x s' fs' d' =>
      go_wp2_with fail
      refine HC.out.mono ?_
      rintro e8 W8 ⟨⟨v0, v1, v2, v3, v4⟩, tg, ov', es', rfl, f1, f2, f3⟩
      obtain ⟨g1, g2, g3, g4⟩ := part_on H4.out f1 f2
      obtain ⟨k2, n2, s2, p2, a2, b3, q2, r2, d2, rfl, rfl, rfl, rfl, rfl⟩ := holds_parts f3
      obtain ⟨y0, y1, y2, y3, y4⟩ := g3.five
      obtain ⟨t0, t1, t2, t3, t4⟩ := g3.froz
      have H8 := Lib.hid (And.intro g1 (And.intro g2 (And.intro g4 f3)))
      clear f1 f2 f3 g1 g2 g3 g4
      go_wp2_with fail
      refine bodyPost_ret (v := .tuple #[.agg #[.int .i64 k2, .int .i64 n2, .string s2, .slice p2 a2 b3, .slice q2 r2 d2], .bool true]) (by simp [results, Tryz.results61, go_sem, y0, y1, y2, y3, y4]) rfl ?_
      have fin := fun Z hZ => part_val (w := w) H8.out.1 H8.out.2.1 H8.out.2.2.1 H8.out.2.2.2 Z hZ
      exact fin _ rfl
    | more s' fs' d' =>
      go_wp2_with fail
      refine HC.out.mono ?_
      rintro e8 W8 ⟨tg, ov', es', rfl, f1, f2⟩
      obtain ⟨g1, g2, g3, g4⟩ := part_on H4.out f1 f2
      obtain ⟨y0, y1, y2, y3, y4⟩ := g3.five
      obtain ⟨t0, t1, t2, t3, t4⟩ := g3.froz
      have H8 := Lib.hid (And.intro g1 (And.intro g2 g4))
      clear f1 f2 g1 g2 g3 g4
      go_wp2_with fail
      refine bodyPost_ret (v := .tuple #[.agg #[.int .i64 0, .int .i64 0, .string ⟨#[]⟩, .slice none 0 0, .slice none 0 0], .bool false]) (by simp [results, Tryz.results61, go_sem, y0, y1, y2, y3, y4]) rfl ?_
      have fin := fun Z hZ => part_more (w := w) H8.out.1 H8.out.2.1 H8.out.2.2 Z hZ
      exact fin _ rfl

set_option maxHeartbeats 4000000 in
set_option maxRecDepth 100000 in
theorem part_begin6 (N : Nat) (tag : Nat → Nat) (w : World) (R : Nat) (s : List UInt8) (fs : List Fr) (d : Nat) (ov : Value) (es : List E5) (h : RdAt N tag w R s fs d ov es) (hp0 : Lib.hasPrefix s [110, 117, 108, 108] = false) (hp1 : Lib.hasPrefix s [102, 97, 108, 115, 101] = false) (hp2 : Lib.hasPrefix s [116, 114, 117, 101] = false) (hp3 : Lib.hasPrefix s [91] = false) (hp4 : Lib.hasPrefix s [123] = true) (hm : fs.length + 1 ≤ 1099511627776) :
    Calls Tryz.prog 61 #[.pointer (some ⟨R, 0, none⟩)] w (PartTo N tag w R (beginP 6 (s.drop 1) fs d)) := by
    have H0 : Hid (InAt N tag w R s fs d ov es (zBox w)) := by
      obtain ⟨z1, z2, z3, z4, z5⟩ := zero_box h
      exact ⟨z1, z3, z2, z4⟩
    clear h
    obtain ⟨r, hr⟩ : ∃ r, r = beginP 6 (s.drop 1) fs d := ⟨_, rfl⟩
    have HR := Lib.hid hr
    rw [← hr]
    clear hr
    go_enter Tryz.func61, Tryz.ntmps61
    go_wp2_with fail
    refine (takes_in [110, 117, 108, 108] false hp0 H0.out).mono ?_
    rintro e1 W1 ⟨rfl, h1⟩
    simp only [Bool.false_eq_true, if_false] at h1
    have H1 := Lib.hid h1
    clear h1
    go_wp2_with fail
    refine (takes_in [102, 97, 108, 115, 101] false hp1 H1.out).mono ?_
    rintro e2 W2 ⟨rfl, h2⟩
    simp only [Bool.false_eq_true, if_false] at h2
    have H2 := Lib.hid h2
    clear h2
    go_wp2_with fail
    refine (takes_in [116, 114, 117, 101] false hp2 H2.out).mono ?_
    rintro e3 W3 ⟨rfl, h3⟩
    simp only [Bool.false_eq_true, if_false] at h3
    have H3 := Lib.hid h3
    clear h3
    go_wp2_with fail
    refine (takes_in [91] false hp3 H3.out).mono ?_
    rintro e4 W4 ⟨rfl, h4⟩
    simp only [Bool.false_eq_true, if_false] at h4
    have H4 := Lib.hid h4
    clear h4
    go_wp2_with fail
    refine (takes_in [123] true hp4 H4.out).mono ?_
    rintro e5 W5 ⟨rfl, h5⟩
    simp only [if_true] at h5
    have H5 := Lib.hid h5
    clear h5
    have hb := begin_c N tag W5 R (s.drop 1) fs 6 (by omega) d ov es H5.out.1 hm
    have hb2 := hb.mono fun en w' hh => begin_part hh
    clear hb
    rw [← HR.out] at hb2
    clear HR
    have HC := Lib.hid (hb2)
    cases r with
    | bad =>
      go_wp2_with fail
      refine HC.out.mono ?_
      rintro e8 W8 ⟨rfl, tg, h8⟩
      exact ⟨rfl, rfl, tg, H5.out.2.1.trans h8⟩
    | val x s' fs' d' =>
      go_wp2_with fail
      refine HC.out.mono ?_
      rintro e8 W8 ⟨⟨v0, v1, v2, v3, v4⟩, tg, ov', es', rfl, f1, f2, f3⟩
      obtain ⟨g1, g2, g3, g4⟩ := part_on H5.out f1 f2
      obtain ⟨k2, n2, s2, p2, a2, b3, q2, r2, d2, rfl, rfl, rfl, rfl, rfl⟩ := holds_parts f3
      obtain ⟨y0, y1, y2, y3, y4⟩ := g3.five
      obtain ⟨t0, t1, t2, t3, t4⟩ := g3.froz
      have H8 := Lib.hid (And.intro g1 (And.intro g2 (And.intro g4 f3)))
      clear f1 f2 f3 g1 g2 g3 g4
      go_wp2_with fail
      refine bodyPost_ret (v := .tuple #[.agg #[.int .i64 k2, .int .i64 n2, .string s2, .slice p2 a2 b3, .slice q2 r2 d2], .bool true]) (by simp [results, Tryz.results61, go_sem, y0, y1, y2, y3, y4]) rfl ?_
      have fin := fun Z hZ => part_val (w := w) H8.out.1 H8.out.2.1 H8.out.2.2.1 H8.out.2.2.2 Z hZ
      exact fin _ rfl
    | more s' fs' d' =>
      go_wp2_with fail
      refine HC.out.mono ?_
      rintro e8 W8 ⟨tg, ov', es', rfl, f1, f2⟩
      obtain ⟨g1, g2, g3, g4⟩ := part_on H5.out f1 f2
      obtain ⟨y0, y1, y2, y3, y4⟩ := g3.five
      obtain ⟨t0, t1, t2, t3, t4⟩ := g3.froz
      have H8 := Lib.hid (And.intro g1 (And.intro g2 g4))
      clear f1 f2 g1 g2 g3 g4
      go_wp2_with fail
      refine bodyPost_ret (v := .tuple #[.agg #[.int .i64 0, .int .i64 0, .string ⟨#[]⟩, .slice none 0 0, .slice none 0 0], .bool false]) (by simp [results, Tryz.results61, go_sem, y0, y1, y2, y3, y4]) rfl ?_
      have fin := fun Z hZ => part_more (w := w) H8.out.1 H8.out.2.1 H8.out.2.2 Z hZ
      exact fin _ rfl

set_option maxHeartbeats 4000000 in
set_option maxRecDepth 100000 in
theorem part_text (N : Nat) (tag : Nat → Nat) (w : World) (R : Nat) (s : List UInt8) (fs : List Fr) (d : Nat) (ov : Value) (es : List E5) (h : RdAt N tag w R s fs d ov es) (hp0 : Lib.hasPrefix s [110, 117, 108, 108] = false) (hp1 : Lib.hasPrefix s [102, 97, 108, 115, 101] = false) (hp2 : Lib.hasPrefix s [116, 114, 117, 101] = false) (hp3 : Lib.hasPrefix s [91] = false) (hp4 : Lib.hasPrefix s [123] = false) (hq : Lib.hasPrefix s [34] = true) (hl : s.length ≤ 1099511627776) (hk : ∀ f ∈ fs, f.ks.length + 1 ≤ 1099511627776) (hm : fs.length + 1 ≤ 1099511627776) (hT : TabN N w) (h0low : Hid (∀ W, Kp tag tag w W → Below N w W)) :
    Calls Tryz.prog 61 #[.pointer (some ⟨R, 0, none⟩)] w (PartTo N tag w R (textOrKeyP s fs d)) := by
    have H0 : Hid (InAt N tag w R s fs d ov es (zBox w)) := by
      obtain ⟨z1, z2, z3, z4, z5⟩ := zero_box h
      exact ⟨z1, z3, z2, z4⟩
    clear h
    obtain ⟨r, hr⟩ : ∃ r, r = textOrKeyP s fs d := ⟨_, rfl⟩
    have HR := Lib.hid hr
    rw [← hr]
    clear hr
    go_enter Tryz.func61, Tryz.ntmps61
    go_wp2_with fail
    refine (takes_in [110, 117, 108, 108] false hp0 H0.out).mono ?_
    rintro e1 W1 ⟨rfl, h1⟩
    simp only [Bool.false_eq_true, if_false] at h1
    have H1 := Lib.hid h1
    clear h1
    go_wp2_with fail
    refine (takes_in [102, 97, 108, 115, 101] false hp1 H1.out).mono ?_
    rintro e2 W2 ⟨rfl, h2⟩
    simp only [Bool.false_eq_true, if_false] at h2
    have H2 := Lib.hid h2
    clear h2
    go_wp2_with fail
    refine (takes_in [116, 114, 117, 101] false hp2 H2.out).mono ?_
    rintro e3 W3 ⟨rfl, h3⟩
    simp only [Bool.false_eq_true, if_false] at h3
    have H3 := Lib.hid h3
    clear h3
    go_wp2_with fail
    refine (takes_in [91] false hp3 H3.out).mono ?_
    rintro e4 W4 ⟨rfl, h4⟩
    simp only [Bool.false_eq_true, if_false] at h4
    have H4 := Lib.hid h4
    clear h4
    go_wp2_with fail
    refine (takes_in [123] false hp4 H4.out).mono ?_
    rintro e5 W5 ⟨rfl, h5⟩
    simp only [Bool.false_eq_true, if_false] at h5
    have c0 := h5.1.rd.cell0
    have H5 := Lib.hid h5
    clear h5
    have hh := fun W => hasPrefix_S s [34] W
    rw [hq] at hh
    have htk := textOrKey_c N tag W5 R s fs d ov es H5.out.1 hl hk (by omega) (hT.to (h0low.out W5 H5.out.2.1))
    rw [← HR.out] at htk
    clear HR
    go_wp2_with fail
    refine (hh _).mono ?_
    rintro e6 W6 ⟨rfl, rfl⟩
    clear c0
    have HC := Lib.hid (htk)
    cases r with
    | bad =>
      go_wp2_with fail
      refine HC.out.mono ?_
      rintro e8 W8 ⟨rfl, tg, h8⟩
      exact ⟨rfl, rfl, tg, H5.out.2.1.trans h8⟩
    | val x s' fs' d' =>
      go_wp2_with fail
      refine HC.out.mono ?_
      rintro e8 W8 ⟨⟨v0, v1, v2, v3, v4⟩, tg, ov', es', rfl, f1, f2, f3⟩
      obtain ⟨g1, g2, g3, g4⟩ := part_on H5.out f1 f2
      obtain ⟨k2, n2, s2, p2, a2, b3, q2, r2, d2, rfl, rfl, rfl, rfl, rfl⟩ := holds_parts f3
      obtain ⟨y0, y1, y2, y3, y4⟩ := g3.five
      obtain ⟨t0, t1, t2, t3, t4⟩ := g3.froz
      have H8 := Lib.hid (And.intro g1 (And.intro g2 (And.intro g4 f3)))
      clear f1 f2 f3 g1 g2 g3 g4
      go_wp2_with fail
      refine bodyPost_ret (v := .tuple #[.agg #[.int .i64 k2, .int .i64 n2, .string s2, .slice p2 a2 b3, .slice q2 r2 d2], .bool true]) (by simp [results, Tryz.results61, go_sem, y0, y1, y2, y3, y4]) rfl ?_
      have fin := fun Z hZ => part_val (w := w) H8.out.1 H8.out.2.1 H8.out.2.2.1 H8.out.2.2.2 Z hZ
      exact fin _ rfl
    | more s' fs' d' =>
      go_wp2_with fail
      refine HC.out.mono ?_
      rintro e8 W8 ⟨tg, ov', es', rfl, f1, f2⟩
      obtain ⟨g1, g2, g3, g4⟩ := part_on H5.out f1 f2
      obtain ⟨y0, y1, y2, y3, y4⟩ := g3.five
      obtain ⟨t0, t1, t2, t3, t4⟩ := g3.froz
      have H8 := Lib.hid (And.intro g1 (And.intro g2 g4))
      clear f1 f2 g1 g2 g3 g4
      go_wp2_with fail
      refine bodyPost_ret (v := .tuple #[.agg #[.int .i64 0, .int .i64 0, .string ⟨#[]⟩, .slice none 0 0, .slice none 0 0], .bool false]) (by simp [results, Tryz.results61, go_sem, y0, y1, y2, y3, y4]) rfl ?_
      have fin := fun Z hZ => part_more (w := w) H8.out.1 H8.out.2.1 H8.out.2.2 Z hZ
      exact fin _ rfl

set_option maxHeartbeats 4000000 in
set_option maxRecDepth 100000 in
theorem part_number (N : Nat) (tag : Nat → Nat) (w : World) (R : Nat) (s : List UInt8) (fs : List Fr) (d : Nat) (ov : Value) (es : List E5) (h : RdAt N tag w R s fs d ov es) (hp0 : Lib.hasPrefix s [110, 117, 108, 108] = false) (hp1 : Lib.hasPrefix s [102, 97, 108, 115, 101] = false) (hp2 : Lib.hasPrefix s [116, 114, 117, 101] = false) (hp3 : Lib.hasPrefix s [91] = false) (hp4 : Lib.hasPrefix s [123] = false) (hq : Lib.hasPrefix s [34] = false) (hl : s.length ≤ 1099511627776) :
    Calls Tryz.prog 61 #[.pointer (some ⟨R, 0, none⟩)] w (PartTo N tag w R (match numberP s with | none => .bad | some (n, t) => .val (leafV 3 n ⟨#[]⟩) t fs d)) := by
    have H0 : Hid (InAt N tag w R s fs d ov es (zBox w)) := by
      obtain ⟨z1, z2, z3, z4, z5⟩ := zero_box h
      exact ⟨z1, z3, z2, z4⟩
    clear h
    cases hn : numberP s with
    | none =>
      simp only
      go_enter Tryz.func61, Tryz.ntmps61
      go_wp2_with fail
      refine (takes_in [110, 117, 108, 108] false hp0 H0.out).mono ?_
      rintro e1 W1 ⟨rfl, h1⟩
      simp only [Bool.false_eq_true, if_false] at h1
      have H1 := Lib.hid h1
      clear h1
      go_wp2_with fail
      refine (takes_in [102, 97, 108, 115, 101] false hp1 H1.out).mono ?_
      rintro e2 W2 ⟨rfl, h2⟩
      simp only [Bool.false_eq_true, if_false] at h2
      have H2 := Lib.hid h2
      clear h2
      go_wp2_with fail
      refine (takes_in [116, 114, 117, 101] false hp2 H2.out).mono ?_
      rintro e3 W3 ⟨rfl, h3⟩
      simp only [Bool.false_eq_true, if_false] at h3
      have H3 := Lib.hid h3
      clear h3
      go_wp2_with fail
      refine (takes_in [91] false hp3 H3.out).mono ?_
      rintro e4 W4 ⟨rfl, h4⟩
      simp only [Bool.false_eq_true, if_false] at h4
      have H4 := Lib.hid h4
      clear h4
      go_wp2_with fail
      refine (takes_in [123] false hp4 H4.out).mono ?_
      rintro e5 W5 ⟨rfl, h5⟩
      simp only [Bool.false_eq_true, if_false] at h5
      have c0 := h5.1.rd.cell0
      have H5 := Lib.hid h5
      clear h5
      have hh := fun W => hasPrefix_S s [34] W
      rw [hq] at hh
      have hnb := number_c R s ov (.int .i64 d) W5 hl H5.out.1.rd
      go_wp2_with fail
      refine (hh _).mono ?_
      rintro e6 W6 ⟨rfl, rfl⟩
      clear c0
      rw [hn] at hnb
      go_wp2_with fail
      refine hnb.mono ?_
      rintro e8 W8 ⟨rfl, h8⟩
      exact ⟨rfl, rfl, tag, H5.out.2.1.trans (Kp.save H5.out.1.rmark h8)⟩
    | some q =>
      obtain ⟨n, t⟩ := q
      simp only
      go_enter Tryz.func61, Tryz.ntmps61
      go_wp2_with fail
      refine (takes_in [110, 117, 108, 108] false hp0 H0.out).mono ?_
      rintro e1 W1 ⟨rfl, h1⟩
      simp only [Bool.false_eq_true, if_false] at h1
      have H1 := Lib.hid h1
      clear h1
      go_wp2_with fail
      refine (takes_in [102, 97, 108, 115, 101] false hp1 H1.out).mono ?_
      rintro e2 W2 ⟨rfl, h2⟩
      simp only [Bool.false_eq_true, if_false] at h2
      have H2 := Lib.hid h2
      clear h2
      go_wp2_with fail
      refine (takes_in [116, 114, 117, 101] false hp2 H2.out).mono ?_
      rintro e3 W3 ⟨rfl, h3⟩
      simp only [Bool.false_eq_true, if_false] at h3
      have H3 := Lib.hid h3
      clear h3
      go_wp2_with fail
      refine (takes_in [91] false hp3 H3.out).mono ?_
      rintro e4 W4 ⟨rfl, h4⟩
      simp only [Bool.false_eq_true, if_false] at h4
      have H4 := Lib.hid h4
      clear h4
      go_wp2_with fail
      refine (takes_in [123] false hp4 H4.out).mono ?_
      rintro e5 W5 ⟨rfl, h5⟩
      simp only [Bool.false_eq_true, if_false] at h5
      have c0 := h5.1.rd.cell0
      have H5 := Lib.hid h5
      clear h5
      have hh := fun W => hasPrefix_S s [34] W
      rw [hq] at hh
      have hnb := number_c R s ov (.int .i64 d) W5 hl H5.out.1.rd
      go_wp2_with fail
      refine (hh _).mono ?_
      rintro e6 W6 ⟨rfl, rfl⟩
      clear c0
      have hr := number_range hn
      rw [hn] at hnb
      go_wp2_with fail
      refine hnb.mono ?_
      rintro e8 W8 ⟨rfl, h8, h9⟩
      obtain ⟨g1, g2, g3, g4⟩ := part_on H5.out (H5.out.1.read h8 h9) (Kp.save H5.out.1.rmark h9)
      obtain ⟨y0, y1, y2, y3, y4⟩ := g3.five
      obtain ⟨t0, t1, t2, t3, t4⟩ := g3.froz
      have H8 := Lib.hid (And.intro g1 (And.intro g2 g4))
      clear h8 h9 g1 g2 g3 g4
      go_wp2_with fail
      refine bodyPost_ret (v := .tuple #[.agg #[.int .i64 3, .int .i64 n, .string ⟨#[]⟩, .slice none 0 0, .slice none 0 0], .bool true]) (by simp [results, Tryz.results61, go_sem, y0, y1, y2, y3, y4]) rfl ?_
      have fin := fun Z hZ => part_val (w := w) H8.out.1 H8.out.2.1 H8.out.2.2 (leaf_holds 3 n ⟨#[]⟩ (by decide) hr (by decide)) Z hZ
      exact fin _ rfl


theorem part_c (N : Nat) (tag : Nat → Nat) (w : World) (R : Nat) (s : List UInt8) (fs : List Fr) (d : Nat) (ov : Value) (es : List E5) (h : RdAt N tag w R s fs d ov es) (hl : s.length ≤ 1099511627776)
    (hk : ∀ f ∈ fs, f.ks.length + 1 ≤ 1099511627776) (hm : fs.length + 1 ≤ 1099511627776) (hT : TabN N w) :
    Calls Tryz.prog 61 #[.pointer (some ⟨R, 0, none⟩)] w (PartTo N tag w R (partP s fs d)) := by
  unfold partP
  cases hp0 : Lib.hasPrefix s [110, 117, 108, 108] with
  | true => exact part_leaf0 N tag w R s fs d ov es h hp0
  | false =>
  cases hp1 : Lib.hasPrefix s [102, 97, 108, 115, 101] with
  | true => exact part_leaf1 N tag w R s fs d ov es h hp0 hp1
  | false =>
  cases hp2 : Lib.hasPrefix s [116, 114, 117, 101] with
  | true => exact part_leaf2 N tag w R s fs d ov es h hp0 hp1 hp2
  | false =>
  cases hp3 : Lib.hasPrefix s [91] with
  | true => exact part_begin5 N tag w R s fs d ov es h hp0 hp1 hp2 hp3 hm
  | false =>
  cases hp4 : Lib.hasPrefix s [123] with
  | true => exact part_begin6 N tag w R s fs d ov es h hp0 hp1 hp2 hp3 hp4 hm
  | false =>
  cases hq : Lib.hasPrefix s [34] with
  | true => exact part_text N tag w R s fs d ov es h hp0 hp1 hp2 hp3 hp4 hq hl hk hm hT (fun W hk => h.low hk)
  | false => exact part_number N tag w R s fs d ov es h hp0 hp1 hp2 hp3 hp4 hq hl
end Go.Proofs.YtganmmkdcaphfaaGreatDoor.Rd
