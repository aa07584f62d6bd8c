/-
  Part 6: RdPart, RdLeads, RdPut, RdValue, RdWhole, RdRead, RdCatch, RdCaught, RdAll, RdOne, LitAlive.
-/
import Derived.Test.YtamenccdnobjkaaGreatDoorLitReadsCardP5
import Derived.Test.YtamenccdnobjkaaGreatDoorLitReadsCardP2
import Derived.Defers
import Derived.Recover
import Derived.Test.YtamenccdnobjkaaGreatDoorLitReadsCardP1
import Derived.Test.YtamenccdnobjkaaGreatDoorLitReadsCardP4
/-
  Contract of the reader's part.
-/
namespace Go.Proofs.YtamenccdnobjkaaGreatDoor.Rd
open Go.RowKit Go.Proofs.YtamenccdnobjkaaGreatDoor.Oct Go.Proofs.YtamenccdnobjkaaGreatDoor.Val Go.Proofs.YtamenccdnobjkaaGreatDoor.Num Go.Proofs.YtamenccdnobjkaaGreatDoor.Tl

/-- Within part: the reader, and the result's box, still empty. -/
def InAt (N : Nat) (tag : Nat → Nat) (w : World) (R : Nat) (s : List UInt8) (fs : List Fr) (d : Nat) (ov : Value) (es : List E5) (W : World) : Prop :=
  RdAt N tag W R s fs d ov es ∧ Kp tag tag w W ∧ Bx W w.heap.size (.int .i64 0) (.int .i64 0) (.string ⟨#[]⟩) (.slice none 0 0) (.slice none 0 0) ∧ tag w.heap.size = 1

theorem takes_in {N : Nat} {tag : Nat → Nat} {w W : World} {R : Nat} {s : List UInt8} {fs : List Fr} {d : Nat} {ov : Value} {es : List E5} (p : List UInt8) (b : Bool) (hb : Lib.hasPrefix s p = b) (h : InAt N tag w R s fs d ov es W) :
    Calls Tryz.prog 45 #[.pointer (some ⟨R, 0, none⟩), .string (S p)] W fun e w' => e = .returned (.bool b) ∧ InAt N tag w R (if b then s.drop p.length else s) fs d ov es w' := by
  obtain ⟨h1, h2, h3, h4⟩ := h
  have hq : w.heap.size ≠ R := fun e => by rw [e, h1.rmark] at h4; omega
  refine (takes_c R (S s) (S p) ov (.int .i64 d) W h1.rd).mono ?_
  rintro e w' ⟨rfl, h5, h6⟩
  have hx : takesP (S p).data.toList (S s).data.toList = (b, if b then s.drop p.length else s) := by
    simp only
    unfold takesP
    rw [hb]
    cases b <;> rfl
  rw [hx] at h5 ⊢
  exact ⟨rfl, h1.read h5 h6, h2.trans (Kp.save h1.rmark h6), h3.save h6 hq, h4⟩

theorem number_range {s t : List UInt8} {n : Int} (h : numberP s = some (n, t)) : -9223372036854775808 ≤ n ∧ n ≤ 9223372036854775807 := by
  unfold numberP at h
  split at h
  · split at h
    · injection h with h
      injection h with h1 h2
      rw [← h1]
      exact parseL_range _
    · cases h
  · cases h

/-- What a call within part hands on. -/
theorem part_on {N : Nat} {tag : Nat → Nat} {w W W' : World} {R : Nat} {s : List UInt8} {fs : List Fr} {d : Nat} {ov : Value} {es : List E5} (h : InAt N tag w R s fs d ov es W) {s' : List UInt8} {fs' : List Fr} {d' : Nat} {ov' : Value} {es' : List E5} {tag' : Nat → Nat}
    (h1 : RdAt N tag' W' R s' fs' d' ov' es') (h2 : Kp tag tag' W W') : RdAt N tag' W' R s' fs' d' ov' es' ∧ Kp tag tag' w W' ∧ Bx W' w.heap.size (.int .i64 0) (.int .i64 0) (.string ⟨#[]⟩) (.slice none 0 0) (.slice none 0 0) ∧ tag' w.heap.size = 1 := by
  obtain ⟨b1, b2⟩ := h.2.2.1.kp h2 h.2.2.2
  exact ⟨h1, h.2.1.trans h2, b1, b2⟩

set_option maxHeartbeats 4000000 in
set_option maxRecDepth 100000 in
theorem part_leaf0 (N : Nat) (tag : Nat → Nat) (w : World) (R : Nat) (s : List UInt8) (fs : List Fr) (d : Nat) (ov : Value) (es : List E5) (h : RdAt N tag w R s fs d ov es) (hp0 : Lib.hasPrefix s [110, 117, 108, 108] = true) :
    Calls Tryz.prog 43 #[.pointer (some ⟨R, 0, none⟩)] w (PartTo N tag w R (.val (leafV 0 0 ⟨#[]⟩) (s.drop 4) fs d)) := by
    have H0 : Hid (InAt N tag w R s fs d ov es (zBox w)) := by
      obtain ⟨z1, z2, z3, z4, z5⟩ := zero_box h
      exact ⟨z1, z3, z2, z4⟩
    clear h
    go_enter Tryz.func43, Tryz.ntmps43
    go_wp2_with fail
    refine (takes_in [110, 117, 108, 108] true hp0 H0.out).mono ?_
    rintro e1 W1 ⟨rfl, h1⟩
    simp only [if_true] at h1
    obtain ⟨y0, y1, y2, y3, y4⟩ := h1.2.2.1.five
    obtain ⟨t0, t1, t2, t3, t4⟩ := h1.2.2.1.froz
    have H1 := Lib.hid h1
    clear h1
    go_wp2_with fail
    refine bodyPost_ret (v := .tuple #[.agg #[.int .i64 0, .int .i64 0, .string ⟨#[]⟩, .slice none 0 0, .slice none 0 0], .bool true]) (by simp [results, Tryz.results43, go_sem, y0, y1, y2, y3, y4]) rfl ?_
    have fin := fun Z hZ => part_val (w := w) H1.out.1 H1.out.2.1 H1.out.2.2.2 (leaf_holds 0 0 ⟨#[]⟩ (by decide) (by decide) (by decide)) Z hZ
    exact fin _ rfl

set_option maxHeartbeats 4000000 in
set_option maxRecDepth 100000 in
theorem part_leaf1 (N : Nat) (tag : Nat → Nat) (w : World) (R : Nat) (s : List UInt8) (fs : List Fr) (d : Nat) (ov : Value) (es : List E5) (h : RdAt N tag w R s fs d ov es) (hp0 : Lib.hasPrefix s [110, 117, 108, 108] = false) (hp1 : Lib.hasPrefix s [102, 97, 108, 115, 101] = true) :
    Calls Tryz.prog 43 #[.pointer (some ⟨R, 0, none⟩)] w (PartTo N tag w R (.val (leafV 1 0 ⟨#[]⟩) (s.drop 5) fs d)) := by
    have H0 : Hid (InAt N tag w R s fs d ov es (zBox w)) := by
      obtain ⟨z1, z2, z3, z4, z5⟩ := zero_box h
      exact ⟨z1, z3, z2, z4⟩
    clear h
    go_enter Tryz.func43, Tryz.ntmps43
    go_wp2_with fail
    refine (takes_in [110, 117, 108, 108] false hp0 H0.out).mono ?_
    rintro e1 W1 ⟨rfl, h1⟩
    simp only [Bool.false_eq_true, if_false] at h1
    have H1 := Lib.hid h1
    clear h1
    go_wp2_with fail
    refine (takes_in [102, 97, 108, 115, 101] true hp1 H1.out).mono ?_
    rintro e2 W2 ⟨rfl, h2⟩
    simp only [if_true] at h2
    obtain ⟨y0, y1, y2, y3, y4⟩ := h2.2.2.1.five
    obtain ⟨t0, t1, t2, t3, t4⟩ := h2.2.2.1.froz
    have H2 := Lib.hid h2
    clear h2
    go_wp2_with fail
    refine bodyPost_ret (v := .tuple #[.agg #[.int .i64 1, .int .i64 0, .string ⟨#[]⟩, .slice none 0 0, .slice none 0 0], .bool true]) (by simp [results, Tryz.results43, go_sem, y0, y1, y2, y3, y4]) rfl ?_
    have fin := fun Z hZ => part_val (w := w) H2.out.1 H2.out.2.1 H2.out.2.2.2 (leaf_holds 1 0 ⟨#[]⟩ (by decide) (by decide) (by decide)) Z hZ
    exact fin _ rfl

set_option maxHeartbeats 4000000 in
set_option maxRecDepth 100000 in
theorem part_leaf2 (N : Nat) (tag : Nat → Nat) (w : World) (R : Nat) (s : List UInt8) (fs : List Fr) (d : Nat) (ov : Value) (es : List E5) (h : RdAt N tag w R s fs d ov es) (hp0 : Lib.hasPrefix s [110, 117, 108, 108] = false) (hp1 : Lib.hasPrefix s [102, 97, 108, 115, 101] = false) (hp2 : Lib.hasPrefix s [116, 114, 117, 101] = true) :
    Calls Tryz.prog 43 #[.pointer (some ⟨R, 0, none⟩)] w (PartTo N tag w R (.val (leafV 2 0 ⟨#[]⟩) (s.drop 4) fs d)) := by
    have H0 : Hid (InAt N tag w R s fs d ov es (zBox w)) := by
      obtain ⟨z1, z2, z3, z4, z5⟩ := zero_box h
      exact ⟨z1, z3, z2, z4⟩
    clear h
    go_enter Tryz.func43, Tryz.ntmps43
    go_wp2_with fail
    refine (takes_in [110, 117, 108, 108] false hp0 H0.out).mono ?_
    rintro e1 W1 ⟨rfl, h1⟩
    simp only [Bool.false_eq_true, if_false] at h1
    have H1 := Lib.hid h1
    clear h1
    go_wp2_with fail
    refine (takes_in [102, 97, 108, 115, 101] false hp1 H1.out).mono ?_
    rintro e2 W2 ⟨rfl, h2⟩
    simp only [Bool.false_eq_true, if_false] at h2
    have H2 := Lib.hid h2
    clear h2
    go_wp2_with fail
    refine (takes_in [116, 114, 117, 101] true hp2 H2.out).mono ?_
    rintro e3 W3 ⟨rfl, h3⟩
    simp only [if_true] at h3
    obtain ⟨y0, y1, y2, y3, y4⟩ := h3.2.2.1.five
    obtain ⟨t0, t1, t2, t3, t4⟩ := h3.2.2.1.froz
    have H3 := Lib.hid h3
    clear h3
    go_wp2_with fail
    refine bodyPost_ret (v := .tuple #[.agg #[.int .i64 2, .int .i64 0, .string ⟨#[]⟩, .slice none 0 0, .slice none 0 0], .bool true]) (by simp [results, Tryz.results43, go_sem, y0, y1, y2, y3, y4]) rfl ?_
    have fin := fun Z hZ => part_val (w := w) H3.out.1 H3.out.2.1 H3.out.2.2.2 (leaf_holds 2 0 ⟨#[]⟩ (by decide) (by decide) (by decide)) Z hZ
    exact fin _ rfl

set_option maxHeartbeats 4000000 in
set_option maxRecDepth 100000 in
theorem part_begin5 (N : Nat) (tag : Nat → Nat) (w : World) (R : Nat) (s : List UInt8) (fs : List Fr) (d : Nat) (ov : Value) (es : List E5) (h : RdAt N tag w R s fs d ov es) (hp0 : Lib.hasPrefix s [110, 117, 108, 108] = false) (hp1 : Lib.hasPrefix s [102, 97, 108, 115, 101] = false) (hp2 : Lib.hasPrefix s [116, 114, 117, 101] = false) (hp3 : Lib.hasPrefix s [91] = true) (hm : fs.length + 1 ≤ 1099511627776) :
    Calls Tryz.prog 43 #[.pointer (some ⟨R, 0, none⟩)] w (PartTo N tag w R (beginP 5 (s.drop 1) fs d)) := by
    have H0 : Hid (InAt N tag w R s fs d ov es (zBox w)) := by
      obtain ⟨z1, z2, z3, z4, z5⟩ := zero_box h
      exact ⟨z1, z3, z2, z4⟩
    clear h
    obtain ⟨r, hr⟩ : ∃ r, r = beginP 5 (s.drop 1) fs d := ⟨_, rfl⟩
    have HR := Lib.hid hr
    rw [← hr]
    clear hr
    go_enter Tryz.func43, Tryz.ntmps43
    go_wp2_with fail
    refine (takes_in [110, 117, 108, 108] false hp0 H0.out).mono ?_
    rintro e1 W1 ⟨rfl, h1⟩
    simp only [Bool.false_eq_true, if_false] at h1
    have H1 := Lib.hid h1
    clear h1
    go_wp2_with fail
    refine (takes_in [102, 97, 108, 115, 101] false hp1 H1.out).mono ?_
    rintro e2 W2 ⟨rfl, h2⟩
    simp only [Bool.false_eq_true, if_false] at h2
    have H2 := Lib.hid h2
    clear h2
    go_wp2_with fail
    refine (takes_in [116, 114, 117, 101] false hp2 H2.out).mono ?_
    rintro e3 W3 ⟨rfl, h3⟩
    simp only [Bool.false_eq_true, if_false] at h3
    have H3 := Lib.hid h3
    clear h3
    go_wp2_with fail
    refine (takes_in [91] true hp3 H3.out).mono ?_
    rintro e4 W4 ⟨rfl, h4⟩
    simp only [if_true] at h4
    have H4 := Lib.hid h4
    clear h4
    have hb := begin_c N tag W4 R (s.drop 1) fs 5 (by omega) d ov es H4.out.1 hm
    have hb2 := hb.mono fun en w' hh => begin_part hh
    clear hb
    rw [← HR.out] at hb2
    clear HR
    have HC := Lib.hid (hb2)
    cases r with
    | bad =>
      go_wp2_with fail
      refine HC.out.mono ?_
      rintro e8 W8 ⟨rfl, tg, h8⟩
      exact ⟨rfl, rfl, tg, H4.out.2.1.trans h8⟩
    | val x s' fs' d' =>
      go_wp2_with fail
      refine HC.out.mono ?_
      rintro e8 W8 ⟨⟨v0, v1, v2, v3, v4⟩, tg, ov', es', rfl, f1, f2, f3⟩
      obtain ⟨g1, g2, g3, g4⟩ := part_on H4.out f1 f2
      obtain ⟨k2, n2, s2, p2, a2, b3, q2, r2, d2, rfl, rfl, rfl, rfl, rfl⟩ := holds_parts f3
      obtain ⟨y0, y1, y2, y3, y4⟩ := g3.five
      obtain ⟨t0, t1, t2, t3, t4⟩ := g3.froz
      have H8 := Lib.hid (And.intro g1 (And.intro g2 (And.intro g4 f3)))
      clear f1 f2 f3 g1 g2 g3 g4
      go_wp2_with fail
      refine bodyPost_ret (v := .tuple #[.agg #[.int .i64 k2, .int .i64 n2, .string s2, .slice p2 a2 b3, .slice q2 r2 d2], .bool true]) (by simp [results, Tryz.results43, go_sem, y0, y1, y2, y3, y4]) rfl ?_
      have fin := fun Z hZ => part_val (w := w) H8.out.1 H8.out.2.1 H8.out.2.2.1 H8.out.2.2.2 Z hZ
      exact fin _ rfl
    | more s' fs' d' =>
      go_wp2_with fail
      refine HC.out.mono ?_
      rintro e8 W8 ⟨tg, ov', es', rfl, f1, f2⟩
      obtain ⟨g1, g2, g3, g4⟩ := part_on H4.out f1 f2
      obtain ⟨y0, y1, y2, y3, y4⟩ := g3.five
      obtain ⟨t0, t1, t2, t3, t4⟩ := g3.froz
      have H8 := Lib.hid (And.intro g1 (And.intro g2 g4))
      clear f1 f2 g1 g2 g3 g4
      go_wp2_with fail
      refine bodyPost_ret (v := .tuple #[.agg #[.int .i64 0, .int .i64 0, .string ⟨#[]⟩, .slice none 0 0, .slice none 0 0], .bool false]) (by simp [results, Tryz.results43, go_sem, y0, y1, y2, y3, y4]) rfl ?_
      have fin := fun Z hZ => part_more (w := w) H8.out.1 H8.out.2.1 H8.out.2.2 Z hZ
      exact fin _ rfl

set_option maxHeartbeats 4000000 in
set_option maxRecDepth 100000 in
theorem part_begin6 (N : Nat) (tag : Nat → Nat) (w : World) (R : Nat) (s : List UInt8) (fs : List Fr) (d : Nat) (ov : Value) (es : List E5) (h : RdAt N tag w R s fs d ov es) (hp0 : Lib.hasPrefix s [110, 117, 108, 108] = false) (hp1 : Lib.hasPrefix s [102, 97, 108, 115, 101] = false) (hp2 : Lib.hasPrefix s [116, 114, 117, 101] = false) (hp3 : Lib.hasPrefix s [91] = false) (hp4 : Lib.hasPrefix s [123] = true) (hm : fs.length + 1 ≤ 1099511627776) :
    Calls Tryz.prog 43 #[.pointer (some ⟨R, 0, none⟩)] w (PartTo N tag w R (beginP 6 (s.drop 1) fs d)) := by
    have H0 : Hid (InAt N tag w R s fs d ov es (zBox w)) := by
      obtain ⟨z1, z2, z3, z4, z5⟩ := zero_box h
      exact ⟨z1, z3, z2, z4⟩
    clear h
    obtain ⟨r, hr⟩ : ∃ r, r = beginP 6 (s.drop 1) fs d := ⟨_, rfl⟩
    have HR := Lib.hid hr
    rw [← hr]
    clear hr
    go_enter Tryz.func43, Tryz.ntmps43
    go_wp2_with fail
    refine (takes_in [110, 117, 108, 108] false hp0 H0.out).mono ?_
    rintro e1 W1 ⟨rfl, h1⟩
    simp only [Bool.false_eq_true, if_false] at h1
    have H1 := Lib.hid h1
    clear h1
    go_wp2_with fail
    refine (takes_in [102, 97, 108, 115, 101] false hp1 H1.out).mono ?_
    rintro e2 W2 ⟨rfl, h2⟩
    simp only [Bool.false_eq_true, if_false] at h2
    have H2 := Lib.hid h2
    clear h2
    go_wp2_with fail
    refine (takes_in [116, 114, 117, 101] false hp2 H2.out).mono ?_
    rintro e3 W3 ⟨rfl, h3⟩
    simp only [Bool.false_eq_true, if_false] at h3
    have H3 := Lib.hid h3
    clear h3
    go_wp2_with fail
    refine (takes_in [91] false hp3 H3.out).mono ?_
    rintro e4 W4 ⟨rfl, h4⟩
    simp only [Bool.false_eq_true, if_false] at h4
    have H4 := Lib.hid h4
    clear h4
    go_wp2_with fail
    refine (takes_in [123] true hp4 H4.out).mono ?_
    rintro e5 W5 ⟨rfl, h5⟩
    simp only [if_true] at h5
    have H5 := Lib.hid h5
    clear h5
    have hb := begin_c N tag W5 R (s.drop 1) fs 6 (by omega) d ov es H5.out.1 hm
    have hb2 := hb.mono fun en w' hh => begin_part hh
    clear hb
    rw [← HR.out] at hb2
    clear HR
    have HC := Lib.hid (hb2)
    cases r with
    | bad =>
      go_wp2_with fail
      refine HC.out.mono ?_
      rintro e8 W8 ⟨rfl, tg, h8⟩
      exact ⟨rfl, rfl, tg, H5.out.2.1.trans h8⟩
    | val x s' fs' d' =>
      go_wp2_with fail
      refine HC.out.mono ?_
      rintro e8 W8 ⟨⟨v0, v1, v2, v3, v4⟩, tg, ov', es', rfl, f1, f2, f3⟩
      obtain ⟨g1, g2, g3, g4⟩ := part_on H5.out f1 f2
      obtain ⟨k2, n2, s2, p2, a2, b3, q2, r2, d2, rfl, rfl, rfl, rfl, rfl⟩ := holds_parts f3
      obtain ⟨y0, y1, y2, y3, y4⟩ := g3.five
      obtain ⟨t0, t1, t2, t3, t4⟩ := g3.froz
      have H8 := Lib.hid (And.intro g1 (And.intro g2 (And.intro g4 f3)))
      clear f1 f2 f3 g1 g2 g3 g4
      go_wp2_with fail
      refine bodyPost_ret (v := .tuple #[.agg #[.int .i64 k2, .int .i64 n2, .string s2, .slice p2 a2 b3, .slice q2 r2 d2], .bool true]) (by simp [results, Tryz.results43, go_sem, y0, y1, y2, y3, y4]) rfl ?_
      have fin := fun Z hZ => part_val (w := w) H8.out.1 H8.out.2.1 H8.out.2.2.1 H8.out.2.2.2 Z hZ
      exact fin _ rfl
    | more s' fs' d' =>
      go_wp2_with fail
      refine HC.out.mono ?_
      rintro e8 W8 ⟨tg, ov', es', rfl, f1, f2⟩
      obtain ⟨g1, g2, g3, g4⟩ := part_on H5.out f1 f2
      obtain ⟨y0, y1, y2, y3, y4⟩ := g3.five
      obtain ⟨t0, t1, t2, t3, t4⟩ := g3.froz
      have H8 := Lib.hid (And.intro g1 (And.intro g2 g4))
      clear f1 f2 g1 g2 g3 g4
      go_wp2_with fail
      refine bodyPost_ret (v := .tuple #[.agg #[.int .i64 0, .int .i64 0, .string ⟨#[]⟩, .slice none 0 0, .slice none 0 0], .bool false]) (by simp [results, Tryz.results43, go_sem, y0, y1, y2, y3, y4]) rfl ?_
      have fin := fun Z hZ => part_more (w := w) H8.out.1 H8.out.2.1 H8.out.2.2 Z hZ
      exact fin _ rfl

set_option maxHeartbeats 4000000 in
set_option maxRecDepth 100000 in
theorem part_text (N : Nat) (tag : Nat → Nat) (w : World) (R : Nat) (s : List UInt8) (fs : List Fr) (d : Nat) (ov : Value) (es : List E5) (h : RdAt N tag w R s fs d ov es) (hp0 : Lib.hasPrefix s [110, 117, 108, 108] = false) (hp1 : Lib.hasPrefix s [102, 97, 108, 115, 101] = false) (hp2 : Lib.hasPrefix s [116, 114, 117, 101] = false) (hp3 : Lib.hasPrefix s [91] = false) (hp4 : Lib.hasPrefix s [123] = false) (hq : Lib.hasPrefix s [34] = true) (hl : s.length ≤ 1099511627776) (hk : ∀ f ∈ fs, f.ks.length + 1 ≤ 1099511627776) (hm : fs.length + 1 ≤ 1099511627776) (hT : TabN N w) (h0low : Hid (∀ W, Kp tag tag w W → Below N w W)) :
    Calls Tryz.prog 43 #[.pointer (some ⟨R, 0, none⟩)] w (PartTo N tag w R (textOrKeyP s fs d)) := by
    have H0 : Hid (InAt N tag w R s fs d ov es (zBox w)) := by
      obtain ⟨z1, z2, z3, z4, z5⟩ := zero_box h
      exact ⟨z1, z3, z2, z4⟩
    clear h
    obtain ⟨r, hr⟩ : ∃ r, r = textOrKeyP s fs d := ⟨_, rfl⟩
    have HR := Lib.hid hr
    rw [← hr]
    clear hr
    go_enter Tryz.func43, Tryz.ntmps43
    go_wp2_with fail
    refine (takes_in [110, 117, 108, 108] false hp0 H0.out).mono ?_
    rintro e1 W1 ⟨rfl, h1⟩
    simp only [Bool.false_eq_true, if_false] at h1
    have H1 := Lib.hid h1
    clear h1
    go_wp2_with fail
    refine (takes_in [102, 97, 108, 115, 101] false hp1 H1.out).mono ?_
    rintro e2 W2 ⟨rfl, h2⟩
    simp only [Bool.false_eq_true, if_false] at h2
    have H2 := Lib.hid h2
    clear h2
    go_wp2_with fail
    refine (takes_in [116, 114, 117, 101] false hp2 H2.out).mono ?_
    rintro e3 W3 ⟨rfl, h3⟩
    simp only [Bool.false_eq_true, if_false] at h3
    have H3 := Lib.hid h3
    clear h3
    go_wp2_with fail
    refine (takes_in [91] false hp3 H3.out).mono ?_
    rintro e4 W4 ⟨rfl, h4⟩
    simp only [Bool.false_eq_true, if_false] at h4
    have H4 := Lib.hid h4
    clear h4
    go_wp2_with fail
    refine (takes_in [123] false hp4 H4.out).mono ?_
    rintro e5 W5 ⟨rfl, h5⟩
    simp only [Bool.false_eq_true, if_false] at h5
    have c0 := h5.1.rd.cell0
    have H5 := Lib.hid h5
    clear h5
    have hh := fun W => hasPrefix_S s [34] W
    rw [hq] at hh
    have htk := textOrKey_c N tag W5 R s fs d ov es H5.out.1 hl hk (by omega) (hT.to (h0low.out W5 H5.out.2.1))
    rw [← HR.out] at htk
    clear HR
    go_wp2_with fail
    refine (hh _).mono ?_
    rintro e6 W6 ⟨rfl, rfl⟩
    clear c0
    have HC := Lib.hid (htk)
    cases r with
    | bad =>
      go_wp2_with fail
      refine HC.out.mono ?_
      rintro e8 W8 ⟨rfl, tg, h8⟩
      exact ⟨rfl, rfl, tg, H5.out.2.1.trans h8⟩
    | val x s' fs' d' =>
      go_wp2_with fail
      refine HC.out.mono ?_
      rintro e8 W8 ⟨⟨v0, v1, v2, v3, v4⟩, tg, ov', es', rfl, f1, f2, f3⟩
      obtain ⟨g1, g2, g3, g4⟩ := part_on H5.out f1 f2
      obtain ⟨k2, n2, s2, p2, a2, b3, q2, r2, d2, rfl, rfl, rfl, rfl, rfl⟩ := holds_parts f3
      obtain ⟨y0, y1, y2, y3, y4⟩ := g3.five
      obtain ⟨t0, t1, t2, t3, t4⟩ := g3.froz
      have H8 := Lib.hid (And.intro g1 (And.intro g2 (And.intro g4 f3)))
      clear f1 f2 f3 g1 g2 g3 g4
      go_wp2_with fail
      refine bodyPost_ret (v := .tuple #[.agg #[.int .i64 k2, .int .i64 n2, .string s2, .slice p2 a2 b3, .slice q2 r2 d2], .bool true]) (by simp [results, Tryz.results43, go_sem, y0, y1, y2, y3, y4]) rfl ?_
      have fin := fun Z hZ => part_val (w := w) H8.out.1 H8.out.2.1 H8.out.2.2.1 H8.out.2.2.2 Z hZ
      exact fin _ rfl
    | more s' fs' d' =>
      go_wp2_with fail
      refine HC.out.mono ?_
      rintro e8 W8 ⟨tg, ov', es', rfl, f1, f2⟩
      obtain ⟨g1, g2, g3, g4⟩ := part_on H5.out f1 f2
      obtain ⟨y0, y1, y2, y3, y4⟩ := g3.five
      obtain ⟨t0, t1, t2, t3, t4⟩ := g3.froz
      have H8 := Lib.hid (And.intro g1 (And.intro g2 g4))
      clear f1 f2 g1 g2 g3 g4
      go_wp2_with fail
      refine bodyPost_ret (v := .tuple #[.agg #[.int .i64 0, .int .i64 0, .string ⟨#[]⟩, .slice none 0 0, .slice none 0 0], .bool false]) (by simp [results, Tryz.results43, go_sem, y0, y1, y2, y3, y4]) rfl ?_
      have fin := fun Z hZ => part_more (w := w) H8.out.1 H8.out.2.1 H8.out.2.2 Z hZ
      exact fin _ rfl

set_option maxHeartbeats 4000000 in
set_option maxRecDepth 100000 in
theorem part_number (N : Nat) (tag : Nat → Nat) (w : World) (R : Nat) (s : List UInt8) (fs : List Fr) (d : Nat) (ov : Value) (es : List E5) (h : RdAt N tag w R s fs d ov es) (hp0 : Lib.hasPrefix s [110, 117, 108, 108] = false) (hp1 : Lib.hasPrefix s [102, 97, 108, 115, 101] = false) (hp2 : Lib.hasPrefix s [116, 114, 117, 101] = false) (hp3 : Lib.hasPrefix s [91] = false) (hp4 : Lib.hasPrefix s [123] = false) (hq : Lib.hasPrefix s [34] = false) (hl : s.length ≤ 1099511627776) :
    Calls Tryz.prog 43 #[.pointer (some ⟨R, 0, none⟩)] w (PartTo N tag w R (match numberP s with | none => .bad | some (n, t) => .val (leafV 3 n ⟨#[]⟩) t fs d)) := by
    have H0 : Hid (InAt N tag w R s fs d ov es (zBox w)) := by
      obtain ⟨z1, z2, z3, z4, z5⟩ := zero_box h
      exact ⟨z1, z3, z2, z4⟩
    clear h
    cases hn : numberP s with
    | none =>
      simp only
      go_enter Tryz.func43, Tryz.ntmps43
      go_wp2_with fail
      refine (takes_in [110, 117, 108, 108] false hp0 H0.out).mono ?_
      rintro e1 W1 ⟨rfl, h1⟩
      simp only [Bool.false_eq_true, if_false] at h1
      have H1 := Lib.hid h1
      clear h1
      go_wp2_with fail
      refine (takes_in [102, 97, 108, 115, 101] false hp1 H1.out).mono ?_
      rintro e2 W2 ⟨rfl, h2⟩
      simp only [Bool.false_eq_true, if_false] at h2
      have H2 := Lib.hid h2
      clear h2
      go_wp2_with fail
      refine (takes_in [116, 114, 117, 101] false hp2 H2.out).mono ?_
      rintro e3 W3 ⟨rfl, h3⟩
      simp only [Bool.false_eq_true, if_false] at h3
      have H3 := Lib.hid h3
      clear h3
      go_wp2_with fail
      refine (takes_in [91] false hp3 H3.out).mono ?_
      rintro e4 W4 ⟨rfl, h4⟩
      simp only [Bool.false_eq_true, if_false] at h4
      have H4 := Lib.hid h4
      clear h4
      go_wp2_with fail
      refine (takes_in [123] false hp4 H4.out).mono ?_
      rintro e5 W5 ⟨rfl, h5⟩
      simp only [Bool.false_eq_true, if_false] at h5
      have c0 := h5.1.rd.cell0
      have H5 := Lib.hid h5
      clear h5
      have hh := fun W => hasPrefix_S s [34] W
      rw [hq] at hh
      have hnb := number_c R s ov (.int .i64 d) W5 hl H5.out.1.rd
      go_wp2_with fail
      refine (hh _).mono ?_
      rintro e6 W6 ⟨rfl, rfl⟩
      clear c0
      rw [hn] at hnb
      go_wp2_with fail
      refine hnb.mono ?_
      rintro e8 W8 ⟨rfl, h8⟩
      exact ⟨rfl, rfl, tag, H5.out.2.1.trans (Kp.save H5.out.1.rmark h8)⟩
    | some q =>
      obtain ⟨n, t⟩ := q
      simp only
      go_enter Tryz.func43, Tryz.ntmps43
      go_wp2_with fail
      refine (takes_in [110, 117, 108, 108] false hp0 H0.out).mono ?_
      rintro e1 W1 ⟨rfl, h1⟩
      simp only [Bool.false_eq_true, if_false] at h1
      have H1 := Lib.hid h1
      clear h1
      go_wp2_with fail
      refine (takes_in [102, 97, 108, 115, 101] false hp1 H1.out).mono ?_
      rintro e2 W2 ⟨rfl, h2⟩
      simp only [Bool.false_eq_true, if_false] at h2
      have H2 := Lib.hid h2
      clear h2
      go_wp2_with fail
      refine (takes_in [116, 114, 117, 101] false hp2 H2.out).mono ?_
      rintro e3 W3 ⟨rfl, h3⟩
      simp only [Bool.false_eq_true, if_false] at h3
      have H3 := Lib.hid h3
      clear h3
      go_wp2_with fail
      refine (takes_in [91] false hp3 H3.out).mono ?_
      rintro e4 W4 ⟨rfl, h4⟩
      simp only [Bool.false_eq_true, if_false] at h4
      have H4 := Lib.hid h4
      clear h4
      go_wp2_with fail
      refine (takes_in [123] false hp4 H4.out).mono ?_
      rintro e5 W5 ⟨rfl, h5⟩
      simp only [Bool.false_eq_true, if_false] at h5
      have c0 := h5.1.rd.cell0
      have H5 := Lib.hid h5
      clear h5
      have hh := fun W => hasPrefix_S s [34] W
      rw [hq] at hh
      have hnb := number_c R s ov (.int .i64 d) W5 hl H5.out.1.rd
      go_wp2_with fail
      refine (hh _).mono ?_
      rintro e6 W6 ⟨rfl, rfl⟩
      clear c0
      have hr := number_range hn
      rw [hn] at hnb
      go_wp2_with fail
      refine hnb.mono ?_
      rintro e8 W8 ⟨rfl, h8, h9⟩
      obtain ⟨g1, g2, g3, g4⟩ := part_on H5.out (H5.out.1.read h8 h9) (Kp.save H5.out.1.rmark h9)
      obtain ⟨y0, y1, y2, y3, y4⟩ := g3.five
      obtain ⟨t0, t1, t2, t3, t4⟩ := g3.froz
      have H8 := Lib.hid (And.intro g1 (And.intro g2 g4))
      clear h8 h9 g1 g2 g3 g4
      go_wp2_with fail
      refine bodyPost_ret (v := .tuple #[.agg #[.int .i64 3, .int .i64 n, .string ⟨#[]⟩, .slice none 0 0, .slice none 0 0], .bool true]) (by simp [results, Tryz.results43, go_sem, y0, y1, y2, y3, y4]) rfl ?_
      have fin := fun Z hZ => part_val (w := w) H8.out.1 H8.out.2.1 H8.out.2.2 (leaf_holds 3 n ⟨#[]⟩ (by decide) hr (by decide)) Z hZ
      exact fin _ rfl


theorem part_c (N : Nat) (tag : Nat → Nat) (w : World) (R : Nat) (s : List UInt8) (fs : List Fr) (d : Nat) (ov : Value) (es : List E5) (h : RdAt N tag w R s fs d ov es) (hl : s.length ≤ 1099511627776)
    (hk : ∀ f ∈ fs, f.ks.length + 1 ≤ 1099511627776) (hm : fs.length + 1 ≤ 1099511627776) (hT : TabN N w) :
    Calls Tryz.prog 43 #[.pointer (some ⟨R, 0, none⟩)] w (PartTo N tag w R (partP s fs d)) := by
  unfold partP
  cases hp0 : Lib.hasPrefix s [110, 117, 108, 108] with
  | true => exact part_leaf0 N tag w R s fs d ov es h hp0
  | false =>
  cases hp1 : Lib.hasPrefix s [102, 97, 108, 115, 101] with
  | true => exact part_leaf1 N tag w R s fs d ov es h hp0 hp1
  | false =>
  cases hp2 : Lib.hasPrefix s [116, 114, 117, 101] with
  | true => exact part_leaf2 N tag w R s fs d ov es h hp0 hp1 hp2
  | false =>
  cases hp3 : Lib.hasPrefix s [91] with
  | true => exact part_begin5 N tag w R s fs d ov es h hp0 hp1 hp2 hp3 hm
  | false =>
  cases hp4 : Lib.hasPrefix s [123] with
  | true => exact part_begin6 N tag w R s fs d ov es h hp0 hp1 hp2 hp3 hp4 hm
  | false =>
  cases hq : Lib.hasPrefix s [34] with
  | true => exact part_text N tag w R s fs d ov es h hp0 hp1 hp2 hp3 hp4 hq hl hk hm hT (fun W hk => h.low hk)
  | false => exact part_number N tag w R s fs d ov es h hp0 hp1 hp2 hp3 hp4 hq hl
end Go.Proofs.YtamenccdnobjkaaGreatDoor.Rd

/-
  The reader as a plain machine: its steps, and how far they come.
-/
namespace Go.Proofs.YtamenccdnobjkaaGreatDoor.Rd
open Go.Proofs.YtamenccdnobjkaaGreatDoor.Oct Go.Proofs.YtamenccdnobjkaaGreatDoor.Val Go.Proofs.YtamenccdnobjkaaGreatDoor.Lit

/-- Where the reader stands: ahead of a part, or behind a value that is whole. -/
inductive Cfg where
  | loop (s : List UInt8) (fs : List Fr) (d : Nat)
  | close (x : V) (s : List UInt8) (fs : List Fr) (d : Nat)
inductive Out where
  | bad
  | done (x : V) (s : List UInt8) (d : Nat)

/-- The innermost one with one more value. -/
abbrev Fr.add (f : Fr) (x : V) : Fr := { f with xs := f.xs ++ [x] }

def step : Cfg → Sum Cfg Out
  | .loop s fs d =>
    match partP s fs d with
    | .bad => .inr .bad
    | .val x s' fs' d' => .inl (.close x s' fs' d')
    | .more s' fs' d' => .inl (.loop s' fs' d')
  | .close x s fs d =>
    match fs.getLast? with
    | none => .inr (.done x s d)
    | some f =>
      if Lib.hasPrefix s [44] then .inl (.loop (s.drop 1) (fs.dropLast ++ [f.add x]) d)
      else if Lib.hasPrefix s (endL f.kind) then .inl (.close (f.add x).val (s.drop 1) fs.dropLast d)
      else .inr .bad

inductive Leads : Cfg → Out → Prop where
  | stop {c : Cfg} {o : Out} (h : step c = .inr o) : Leads c o
  | next {c c' : Cfg} {o : Out} (h : step c = .inl c') (k : Leads c' o) : Leads c o

theorem Leads.det {c : Cfg} {o o' : Out} (h : Leads c o) : Leads c o' → o = o' := by
  induction h with
  | stop h =>
    intro h'
    cases h' with
    | stop k => rw [h] at k; exact Sum.inr.inj k
    | next k _ => rw [h] at k; cases k
  | next h k ih =>
    intro h'
    cases h' with
    | stop k' => rw [h] at k'; cases k'
    | next k' k2 => rw [h] at k'; rw [Sum.inl.inj k'] at ih; exact ih k2

theorem close_nil (x : V) (s : List UInt8) (d : Nat) : step (.close x s [] d) = .inr (.done x s d) := rfl
theorem close_last (x : V) (s : List UInt8) (fs : List Fr) (f : Fr) (d : Nat) : step (.close x s (fs ++ [f]) d) =
    if Lib.hasPrefix s [44] then .inl (.loop (s.drop 1) (fs ++ [f.add x]) d) else if Lib.hasPrefix s (endL f.kind) then .inl (.close (f.add x).val (s.drop 1) fs d) else .inr .bad := by
  simp only [step, List.getLast?_concat, List.dropLast_concat]

/-- How much has begun. -/
def wt (fs : List Fr) : Nat := (fs.map fun f => 1 + f.xs.length + f.ks.length).sum
theorem wt_snoc (fs : List Fr) (f : Fr) : wt (fs ++ [f]) = wt fs + (1 + f.xs.length + f.ks.length) := by simp [wt]
theorem wt_len (fs : List Fr) : fs.length ≤ wt fs := by
  induction fs with
  | nil => simp [wt]
  | cons f fs ih => simp [wt] at ih ⊢; omega
theorem wt_mem (fs : List Fr) : ∀ f ∈ fs, f.xs.length + f.ks.length + 1 ≤ wt fs := by
  induction fs with
  | nil => intro f h; cases h
  | cons g fs ih =>
    intro f h
    have e : wt (g :: fs) = 1 + g.xs.length + g.ks.length + wt fs := by simp [wt]
    rcases List.mem_cons.1 h with rfl | h
    · omega
    · have := ih f h; omega

theorem keyP_wt {fs fs' : List Fr} {key : ByteArray} (h : keyP fs key = some fs') : wt fs' = wt fs + 1 := by
  rcases List.eq_nil_or_concat fs with rfl | ⟨fs0, f, rfl⟩
  · cases h
  · rw [List.concat_eq_append] at h ⊢
    unfold keyP at h
    rw [List.getLast?_concat, List.dropLast_concat] at h
    simp only at h
    split at h
    · injection h with h
      rw [← h, wt_snoc, wt_snoc]
      simp only [List.length_append, List.length_cons, List.length_nil]
      omega
    · cases h

theorem prefix_drop {s p : List UInt8} (h : Lib.hasPrefix s p = true) : (s.drop p.length).length + p.length = s.length := by
  have := hasPrefix_le h
  rw [List.length_drop]; omega

theorem litI_pos (n : Int) : 1 ≤ (Tl.litI n).length := by
  unfold Tl.litI
  split
  · simp
  · have h := (printL_num n).2
    cases hp : Num.printL n with
    | nil => exact absurd hp h
    | cons a t => simp
theorem number_len {s t : List UInt8} {n : Int} (h : numberP s = some (n, t)) : t.length < s.length := by
  unfold numberP at h
  split at h
  · split at h
    · rename_i hp
      injection h with h
      injection h with h1 h2
      have := prefix_drop hp
      have h3 := litI_pos (Num.parseL (Lib.trimPrefix (toldL s) [32])).1
      rw [← h2]
      omega
    · cases h
  · cases h
theorem text_len {s a t : List UInt8} (h : textP s = some (a, t)) : a.length + t.length ≤ s.length ∧ t.length < s.length := by
  unfold textP at h
  cases hi : innerP s with
  | none => rw [hi] at h; cases h
  | some q =>
    obtain ⟨a', t'⟩ := q
    have := inner_len hi
    rw [hi] at h
    simp only at h
    split at h
    · injection h with h
      injection h with h1 h2
      rw [← h1, ← h2]
      exact this
    · cases h

theorem endL_len (k : Int) : (endL k).length = 1 := by unfold endL; split <;> rfl

/-- A part loses an octet at least, and what has begun grows by no more than that. -/
def Loses (s : List UInt8) (fs : List Fr) : PR → Prop
  | .bad => True
  | .val _ s' fs' _ => fs' = fs ∧ s'.length < s.length
  | .more s' fs' _ => wt fs' + s'.length ≤ wt fs + s.length ∧ s'.length < s.length

theorem begin_loses (k : Int) {s s0 : List UInt8} (h0 : s.length + 1 = s0.length) (fs : List Fr) (d : Nat) : Loses s0 fs (beginP k s fs d) := by
  unfold beginP
  split
  · rename_i hp
    have := prefix_drop hp
    exact ⟨rfl, by rw [List.length_drop]; omega⟩
  · exact ⟨by rw [wt_snoc]; simp; omega, by omega⟩

theorem part_loses (s : List UInt8) (fs : List Fr) (d : Nat) : Loses s fs (partP s fs d) := by
  unfold partP
  split
  · rename_i hp; have := prefix_drop hp; simp only [List.length_drop, List.length_cons, List.length_nil] at this; exact ⟨rfl, by rw [List.length_drop]; omega⟩
  · split
    · rename_i hp; have := prefix_drop hp; simp only [List.length_drop, List.length_cons, List.length_nil] at this; exact ⟨rfl, by rw [List.length_drop]; omega⟩
    · split
      · rename_i hp; have := prefix_drop hp; simp only [List.length_drop, List.length_cons, List.length_nil] at this; exact ⟨rfl, by rw [List.length_drop]; omega⟩
      · split
        · rename_i hp; have := prefix_drop hp; simp only [List.length_drop, List.length_cons, List.length_nil] at this; exact begin_loses 5 (by rw [List.length_drop]; omega) fs d
        · split
          · rename_i hp; have := prefix_drop hp; simp only [List.length_drop, List.length_cons, List.length_nil] at this; exact begin_loses 6 (by rw [List.length_drop]; omega) fs d
          · split
            · unfold textOrKeyP
              cases ht : textP s with
              | none => trivial
              | some q =>
                obtain ⟨a, t⟩ := q
                have hl := text_len ht
                simp only
                split
                · rename_i hp
                  have h1 := prefix_drop hp
                  simp only [List.length_drop, List.length_cons, List.length_nil] at h1
                  cases hk : keyP fs (S a) with
                  | none => trivial
                  | some fs' => exact ⟨by rw [keyP_wt hk, List.length_drop]; omega, by rw [List.length_drop]; omega⟩
                · exact ⟨rfl, hl.2⟩
            · cases hn : numberP s with
              | none => trivial
              | some q =>
                obtain ⟨n, t⟩ := q
                exact ⟨rfl, number_len hn⟩
end Go.Proofs.YtamenccdnobjkaaGreatDoor.Rd

/-
  Contract of the reader's put.
-/
namespace Go.Proofs.YtamenccdnobjkaaGreatDoor.Rd
open Go.RowKit Go.Proofs.YtamenccdnobjkaaGreatDoor.Oct Go.Proofs.YtamenccdnobjkaaGreatDoor.Val

set_option maxHeartbeats 4000000 in
set_option maxRecDepth 100000 in
theorem put_c (N : Nat) (tag : Nat → Nat) (w : World) (R : Nat) (s : List UInt8) (fs : List Fr) (f : Fr) (deep : Nat) (ov : Value) (es : List E5) (h : RdAt N tag w R s (fs ++ [f]) deep ov es) (u0 u1 u2 u3 u4 : Value) (x : V) (hx : Holds (Dn N tag w) w (.agg #[u0, u1, u2, u3, u4]) x)
    (hn : f.xs.length + 1 ≤ 1099511627776) (hm : fs.length + 1 ≤ 1099511627776) :
    Calls Tryz.prog 44 #[.pointer (some ⟨R, 0, none⟩), .agg #[u0, u1, u2, u3, u4]] w fun en w' => en = .returned (.tuple #[]) ∧ ∃ tag' ov' es', RdAt N tag' w' R s (fs ++ [{ f with xs := f.xs ++ [x] }]) deep ov' es' ∧ Kp tag tag' w w' := by
  obtain ⟨g0, cap0, hov, hg3⟩ := h.row (by simp)
  have hlen : es.length = fs.length + 1 := by rw [h.len]; simp
  have hfl : (fs ++ [f]).length = fs.length + 1 := by simp
  obtain ⟨L, K, ys, hf⟩ := h.frs fs.length (by omega) (by omega)
  have hfi : (fs ++ [f])[fs.length]'(by omega) = f := by simp
  rw [hfi] at hf
  obtain ⟨lp, lc, hL⟩ := own_slice hf.rows
  obtain ⟨k0, n0, s0, p0, a0, b0, q0, c0, d0, rfl, rfl, rfl, rfl, rfl⟩ := holds_parts hx
  obtain ⟨w1, hw1⟩ : ∃ w1, w1 = w.alloc (.cells #[.int .i64 k0, .int .i64 n0, .string s0, .slice p0 a0 b0, .slice q0 c0 d0] 26) := ⟨_, rfl⟩
  have hb1 : Below w.heap.size w w1 := by rw [hw1]; exact (Below.refl _ w).alloc (Nat.le_refl _) _
  have h1 := h.keep hb1
  have hbx : Bx w1 w.heap.size (.int .i64 k0) (.int .i64 n0) (.string s0) (.slice p0 a0 b0) (.slice q0 c0 d0) := by rw [hw1]; exact Bx.new _ _ _ _ _ _
  have hi := innermost_c R g0 fs.length cap0 (S s) (.int .i64 deep) w1 (by omega) (by have := h1.rd; rw [hov, hfl] at this; exact this)
  have key : Hid (∀ W, Below w1.heap.size w1 W → Bx W w.heap.size (.int .i64 k0) (.int .i64 n0) (.string s0) (.slice p0 a0 b0) (.slice q0 c0 d0) ∧ RdAt N tag W R s (fs ++ [f]) deep ov es ∧ W.cell? ⟨g0, fs.length * 5 + 3, none⟩ = some (.slice lp f.xs.length lc)) := fun W hb => by
    have hW := h1.keep hb
    refine ⟨hbx.keep hb, hW, ?_⟩
    rw [slot_at (es := es) (m := fs.length) (by omega) (by omega) hW.own (by rw [hov]; rfl) (by rw [hlen, hfl]) ⟨cap0, hov⟩, hf.e, hL]
    rfl
  rw [hw1] at hi key
  clear hb1 hbx h1 hw1
  go_enter Tryz.func44, Tryz.ntmps44
  go_wp2_with (go_at_call 62; refine hi.mono ?_; rintro e2 W2 ⟨rfl, h2⟩; obtain ⟨m1, m2, m3⟩ := key.out W2 h2; obtain ⟨x0, x1, x2, x3, x4⟩ := m1.five; have H2 := Lib.hid (And.intro h2 (And.intro m1 m2)); clear h2 m1 m2)
  obtain ⟨i0, hi0, hz0, hz1, hz2⟩ := info_parts info_value
  have hmax : f.xs.length + 1 ≤ maxLen := by unfold maxLen; omega
  have hby : (f.xs.length + 1) * 80 ≤ 140737488355328 := by omega
  have HBW : Hid (Below w.heap.size w W2.drew) := (((Below.refl _ w).alloc (Nat.le_refl _) _).trans (H2.out.1.mono (by simp))).drew
  have hd2 := H2.out.2.2.keep (Below.refl _ W2).drew
  obtain ⟨L', K', ys2, hf2⟩ := hd2.frs fs.length (by omega) (by omega)
  rw [hfi] at hf2
  have heL : L' = .slice lp f.xs.length lc ∧ K' = K := by
    have h1 := hf2.e.symm.trans hf.e
    simp only [Prod.mk.injEq, true_and] at h1
    exact ⟨h1.1.trans hL, h1.2⟩
  obtain ⟨rfl, rfl⟩ := heL
  have HY := Lib.hid (And.intro hd2 (And.intro hf2 h))
  have hN := hd2.size
  have hA0 : (0 : Int) ≤ (f.xs.length : Int) := by omega
  have hA1 : (f.xs.length : Int) < (f.xs.length : Int) + 1 := by omega
  have ql := H2.out.2.1.lt
  have ql2 := (own_lt H2.out.2.2.own (r := g0) (by rw [hov]; rfl)).2
  have q1 : ¬ w.heap.size = W2.heap.size := by omega
  have q2 : ¬ g0 = W2.heap.size := by omega
  have HX : Hid (Holds (Dn N tag W2.drew) W2.drew (.agg #[.int .i64 k0, .int .i64 n0, .string s0, .slice p0 a0 b0, .slice q0 c0 d0]) x) := holds_dn hx (fun b hb _ => HBW.out.block b hb) (fun _ _ h => h)
  have HKW : Hid (Kp tag tag w W2.drew) := Kp.of HBW.out
  clear hi hf hf2 hd2 h hx
  go_region_law (first
    | (refine step_append_lies _ rfl (.tmp 10) (.tmp 13) 23 rfl N 26 i0 _ 5 80 Tryz.underlying23 hi0 hz0 hz1 hz2 rfl (by omega) (.slice lp f.xs.length lc) f.xs.length (flat ys2) (by simp [Act.eval, Act.put]) (HY.out.2.1.rows.alloc _) ⟨W2.heap.size, 0, none⟩ 1 1 [.int .i64 0, .int .i64 0, .string ⟨#[]⟩, .slice none 0 0, .slice none 0 0] (by simp [Act.eval, Act.put]) rfl (World.news_of_block (heap_alloc_new W2.drew _)) (by intro u hu; simp at hu; rcases hu with rfl | rfl | rfl | rfl | rfl <;> rfl) (by omega) hmax hby (by simp at hN ⊢; omega) (W2.heap.size + 1) (by simp) ?_; intro g cp wB hownB hgB hatB hltB; obtain ⟨⟨y0, y1, y2, y3, y4⟩, ⟨z0, z1, z2, z3, z4⟩, v3, r3⟩ := put_facts HY.out.1 hov HY.out.2.1 (fun _ => rfl) hownB hgB; obtain ⟨ne1, ne2⟩ := put_ne HY.out.1 hov HY.out.2.1 hatB (by simp); have HZ := Lib.hid (And.intro hownB (And.intro hgB (And.intro hatB hltB))); clear hownB hgB hatB hltB))
  all_goals
    clear y0 y1 y2 y3 y4 z0 z1 z2 z3 z4 v3 r3 x0 x1 x2 x3 x4
    go_wp2_with fail
    have e1 := HY.out.1
    have e2 := HY.out.2.1
    have e3 := HZ.out
    have e4 := HX.out
    have PF := fun Z hZ => put_fin HKW.out e1 hov e2 (fun _ => rfl) e3.1 e3.2.1 e3.2.2.1 e3.2.2.2 ne1 e4 Z hZ
    have PF1 := Lib.hid (PF _ (Or.inl rfl))
    have PF2 := Lib.hid (PF _ (Or.inr rfl))
    clear PF e1 e2 e3 e4
    go_end0
    first | with_reducible exact PF1.out | with_reducible exact PF2.out
end Go.Proofs.YtamenccdnobjkaaGreatDoor.Rd

/-
  Contract of the reader's value.
-/
namespace Go.Proofs.YtamenccdnobjkaaGreatDoor.Rd
open Go.RowKit Go.Proofs.YtamenccdnobjkaaGreatDoor.Oct Go.Proofs.YtamenccdnobjkaaGreatDoor.Val

/-- Ahead of a part. -/
def LoopAt (N : Nat) (tag0 : Nat → Nat) (w : World) (R : Nat) (c0 : Cfg) (T B : Nat) (wr : World) : Prop :=
  ∃ tag s fs d ov es, RdAt N tag wr R s fs d ov es ∧ Kp tag0 tag w wr ∧ Bx wr w.heap.size (.int .i64 0) (.int .i64 0) (.string ⟨#[]⟩) (.slice none 0 0) (.slice none 0 0) ∧ tag w.heap.size = 1 ∧
    (∀ o, Leads (.loop s fs d) o → Leads c0 o) ∧ wt fs + s.length ≤ T ∧ s.length < B
/-- Behind a value that is whole, which lies in the box q. -/
def CloseAt (N : Nat) (tag0 : Nat → Nat) (w : World) (R : Nat) (c0 : Cfg) (T B : Nat) (q : Nat) (wr : World) : Prop :=
  ∃ tag s fs d ov es, RdAt N tag wr R s fs d ov es ∧ Kp tag0 tag w wr ∧ Bx wr w.heap.size (.int .i64 0) (.int .i64 0) (.string ⟨#[]⟩) (.slice none 0 0) (.slice none 0 0) ∧ tag w.heap.size = 1 ∧
    wt fs + 1 + s.length ≤ T ∧ s.length < B ∧ tag q = 1 ∧ q ≠ w.heap.size ∧ w.heap.size ≤ q ∧
    ∃ v0 v1 v2 v3 v4 x, Bx wr q v0 v1 v2 v3 v4 ∧ Holds (Dn N tag wr) wr (.agg #[v0, v1, v2, v3, v4]) x ∧ (∀ o, Leads (.close x s fs d) o → Leads c0 o)
def InnerAt (N : Nat) (tag0 : Nat → Nat) (w : World) (R : Nat) (c0 : Cfg) (T B : Nat) (q : Nat) (b : Bool) (wr : World) : Prop :=
  if b then CloseAt N tag0 w R c0 T B q wr else LoopAt N tag0 w R c0 T B wr

theorem takes_at {N : Nat} {tag : Nat → Nat} {W : World} {R : Nat} {s : List UInt8} {fs : List Fr} {d : Nat} {ov : Value} {es : List E5} (p : List UInt8) (b : Bool) (hb : Lib.hasPrefix s p = b) (h : RdAt N tag W R s fs d ov es) :
    Calls Tryz.prog 45 #[.pointer (some ⟨R, 0, none⟩), .string (S p)] W fun e w' => e = .returned (.bool b) ∧ RdAt N tag w' R (if b then s.drop p.length else s) fs d ov es ∧ Kp tag tag W w' := by
  refine (takes_c R (S s) (S p) ov (.int .i64 d) W h.rd).mono ?_
  rintro e w' ⟨rfl, h5, h6⟩
  have hx : takesP (S p).data.toList (S s).data.toList = (b, if b then s.drop p.length else s) := by
    simp only
    unfold takesP
    rw [hb]
    cases b <;> rfl
  rw [hx] at h5 ⊢
  exact ⟨rfl, h.read h5 h6, Kp.save h.rmark h6⟩

theorem close_start {N : Nat} {tag0 : Nat → Nat} {w : World} {R : Nat} {c0 : Cfg} {T : Nat} {tag tg : Nat → Nat} {wr W1 : World} {s s' : List UInt8} {fs fs' : List Fr} {d d' : Nat} {ov' : Value} {es' : List E5} {x : V} {v0 v1 v2 v3 v4 : Value}
    (h2 : Kp tag0 tag w wr) (h3 : Bx wr w.heap.size (.int .i64 0) (.int .i64 0) (.string ⟨#[]⟩) (.slice none 0 0) (.slice none 0 0)) (h4 : tag w.heap.size = 1) (h5 : ∀ o, Leads (.loop s fs d) o → Leads c0 o) (h6 : wt fs + s.length ≤ T)
    (hp : partP s fs d = .val x s' fs' d') (k1 : RdAt N tg W1 R s' fs' d' ov' es') (k2 : Kp tag tg wr W1) (k3 : Holds (Dn N tg W1) W1 (.agg #[v0, v1, v2, v3, v4]) x) :
    CloseAt N tag0 w R c0 T s.length W1.heap.size (W1.alloc (.cells #[v0, v1, v2, v3, v4] 26)) := by
  have hls := part_loses s fs d
  rw [hp] at hls
  obtain ⟨rfl, hlt⟩ := hls
  obtain ⟨bx1, bx2⟩ := h3.kp k2 h4
  have hlt2 := bx1.lt
  have blw := (Below.refl _ W1).alloc (Nat.le_refl _) (.cells #[v0, v1, v2, v3, v4] 26)
  exact ⟨tg, s', fs', d', ov', es', k1.alloc _, (h2.trans k2).trans (Kp.of blw), bx1.keep blw, bx2, by omega, hlt, k1.out _ (.inr (Nat.le_refl _)), by omega, by omega, v0, v1, v2, v3, v4, x, Bx.new _ _ _ _ _ _,
    holds_dn k3 (fun b hb _ => blw.block b hb) (fun _ _ h => h), fun o ho => h5 o (.next (by simp only [step, hp]) ho)⟩

/-- What value leaves. -/
def ValueTo (N : Nat) (tag : Nat → Nat) (w : World) (R : Nat) (c0 : Cfg) (en : Ending) (w' : World) : Prop :=
  (en = Fault 33 ∧ Leads c0 .bad ∧ ∃ tag', Kp tag tag' w w') ∨
  ∃ e tag' ov' es' x t d, en = .returned (agg5 e) ∧ Leads c0 (.done x t d) ∧ RdAt N tag' w' R t [] d ov' es' ∧ Kp tag tag' w w' ∧ Holds (Dn N tag' w') w' (agg5 e) x

theorem more_start {N : Nat} {tag0 : Nat → Nat} {w : World} {R : Nat} {c0 : Cfg} {T : Nat} {tag tg : Nat → Nat} {wr W1 : World} {s s' : List UInt8} {fs fs' : List Fr} {d d' : Nat} {ov' : Value} {es' : List E5} (v0 v1 v2 v3 v4 : Value)
    (h2 : Kp tag0 tag w wr) (h3 : Bx wr w.heap.size (.int .i64 0) (.int .i64 0) (.string ⟨#[]⟩) (.slice none 0 0) (.slice none 0 0)) (h4 : tag w.heap.size = 1) (h5 : ∀ o, Leads (.loop s fs d) o → Leads c0 o) (h6 : wt fs + s.length ≤ T)
    (hp : partP s fs d = .more s' fs' d') (k1 : RdAt N tg W1 R s' fs' d' ov' es') (k2 : Kp tag tg wr W1) :
    LoopAt N tag0 w R c0 T s.length (W1.alloc (.cells #[v0, v1, v2, v3, v4] 26)) := by
  have hls := part_loses s fs d
  rw [hp] at hls
  obtain ⟨hw, hlt⟩ := hls
  obtain ⟨bx1, bx2⟩ := h3.kp k2 h4
  have blw := (Below.refl _ W1).alloc (Nat.le_refl _) (.cells #[v0, v1, v2, v3, v4] 26)
  exact ⟨tg, s', fs', d', ov', es', k1.alloc _, (h2.trans k2).trans (Kp.of blw), bx1.keep blw, bx2, fun o ho => h5 o (.next (by simp only [step, hp]) ho), by omega, hlt⟩

theorem value_done {N : Nat} {tag0 tag : Nat → Nat} {w W : World} {R : Nat} {c0 : Cfg} {s : List UInt8} {d : Nat} {ov : Value} {es : List E5} {x : V} {v0 v1 v2 v3 v4 : Value} (h : RdAt N tag W R s [] d ov es) (hk : Kp tag0 tag w W) (ht : tag w.heap.size = 1)
    (hh : Holds (Dn N tag W) W (.agg #[v0, v1, v2, v3, v4]) x) (hc : ∀ o, Leads (.close x s [] d) o → Leads c0 o) (Z : World) (hZ : Z = st5 W w.heap.size v0 v1 v2 v3 v4) :
    ValueTo N tag0 w R c0 (.returned (.agg #[v0, v1, v2, v3, v4])) Z := by
  have a1 := h.st5 ht v0 v1 v2 v3 v4
  have a2 := hk.own (st5_below (Below.refl _ W) (Nat.le_refl _) v0 v1 v2 v3 v4)
  have a3 := holds_dn (tag' := tag) hh (fun b hb h0 => st5_other W v0 v1 v2 v3 v4 (fun e => by rw [e, ht] at h0; cases h0)) (fun _ _ h => h)
  rw [← hZ] at a1 a2 a3
  exact .inr ⟨(v0, v1, v2, v3, v4), tag, _, _, x, s, d, rfl, hc _ (.stop (close_nil x s d)), a1, a2, a3⟩

/-- Behind a comma. -/
theorem close_comma {N : Nat} {tag0 tag tg : Nat → Nat} {w W W' : World} {R : Nat} {c0 : Cfg} {T B : Nat} {s : List UInt8} {fs : List Fr} {f : Fr} {d : Nat} {ov : Value} {es : List E5} {x : V} (h : RdAt N tg W' R (s.drop 1) (fs ++ [f.add x]) d ov es) (hp : Lib.hasPrefix s [44] = true)
    (h2 : Kp tag0 tag w W) (k2 : Kp tag tg W W') (h3 : Bx W w.heap.size (.int .i64 0) (.int .i64 0) (.string ⟨#[]⟩) (.slice none 0 0) (.slice none 0 0)) (h4 : tag w.heap.size = 1) (h6 : wt (fs ++ [f]) + 1 + s.length ≤ T) (h7 : s.length < B)
    (hc : ∀ o, Leads (.close x s (fs ++ [f]) d) o → Leads c0 o) : LoopAt N tag0 w R c0 T B W' := by
  obtain ⟨bx1, bx2⟩ := h3.kp k2 h4
  have hl : (s.drop 1).length + 1 = s.length := prefix_drop hp
  refine ⟨tg, s.drop 1, fs ++ [f.add x], d, ov, es, h, h2.trans k2, bx1, bx2, fun o ho => hc o (.next (by rw [close_last, if_pos hp]) ho), ?_, by omega⟩
  rw [wt_snoc] at h6 ⊢
  simp only [List.length_append, List.length_cons, List.length_nil]
  omega

/-- Behind an ending sign. -/
theorem close_end {N : Nat} {tag0 tag tg : Nat → Nat} {w W W' : World} {R : Nat} {c0 : Cfg} {T B q : Nat} {s : List UInt8} {fs : List Fr} {f : Fr} {d : Nat} {ov : Value} {es : List E5} {x : V} {v0 v1 v2 v3 v4 u0 u1 u2 u3 u4 : Value} (h : RdAt N tg W' R (s.drop 1) fs d ov es) (hn : Lib.hasPrefix s [44] = false) (hp : Lib.hasPrefix s (endL f.kind) = true)
    (h2 : Kp tag0 tag w W) (k2 : Kp tag tg W W') (h3 : Bx W w.heap.size (.int .i64 0) (.int .i64 0) (.string ⟨#[]⟩) (.slice none 0 0) (.slice none 0 0)) (h4 : tag w.heap.size = 1) (h6 : wt (fs ++ [f]) + 1 + s.length ≤ T) (h7 : s.length < B)
    (h8 : tag q = 1) (h9 : q ≠ w.heap.size) (h10 : w.heap.size ≤ q) (h11 : Bx W q u0 u1 u2 u3 u4) (hh : Holds (Dn N tg W') W' (.agg #[v0, v1, v2, v3, v4]) (f.add x).val)
    (hc : ∀ o, Leads (.close x s (fs ++ [f]) d) o → Leads c0 o) (Z : World) (hZ : Z = st5 W' q v0 v1 v2 v3 v4) : CloseAt N tag0 w R c0 T B q Z := by
  obtain ⟨bx1, bx2⟩ := h3.kp k2 h4
  obtain ⟨by1, by2⟩ := h11.kp k2 h8
  have hl := prefix_drop hp
  rw [endL_len] at hl
  have a1 := h.st5 by2 v0 v1 v2 v3 v4
  have a2 := (h2.trans k2).own (st5_below (Below.refl _ W') h10 v0 v1 v2 v3 v4)
  have a3 := holds_dn (tag' := tg) hh (fun b hb h0 => st5_other W' v0 v1 v2 v3 v4 (fun e => by rw [e, by2] at h0; cases h0)) (fun _ _ h => h)
  have a4 := bx1.other h9.symm v0 v1 v2 v3 v4
  have a5 := by1.st5 v0 v1 v2 v3 v4
  rw [← hZ] at a1 a2 a3 a4 a5
  refine ⟨tg, s.drop 1, fs, d, ov, es, a1, a2, a4, bx2, ?_, by omega, by2, h9, h10, v0, v1, v2, v3, v4, (f.add x).val, a5, a3, fun o ho => hc o (.next (by rw [close_last, hn, if_neg (by decide), if_pos hp]) ho)⟩
  rw [wt_snoc] at h6
  omega

set_option maxHeartbeats 4000000 in
set_option maxRecDepth 100000 in
theorem value_c (N : Nat) (tag0 : Nat → Nat) (w : World) (R : Nat) (s0 : List UInt8) (ov : Value) (es : List E5) (d0 : Nat) (h : RdAt N tag0 w R s0 [] d0 ov es) (hl : s0.length ≤ 274877906944) (hT : TabN N w) :
    Calls Tryz.prog 29 #[.pointer (some ⟨R, 0, none⟩)] w (ValueTo N tag0 w R (.loop s0 [] d0)) := by
  have H0 : Hid (LoopAt N tag0 w R (.loop s0 [] d0) s0.length (s0.length + 1) (zBox w)) := by
    obtain ⟨z1, z2, z3, z4, z5⟩ := zero_box h
    exact ⟨tag0, s0, [], d0, ov, es, z1, z3, z2, z4, fun o ho => ho, by simp [wt], by omega⟩
  have HLow : Hid (∀ tag W, Kp tag0 tag w W → TabN N W) := fun tag W hk => hT.to (h.low hk)
  generalize s0.length = T at hl H0
  generalize Cfg.loop s0 [] d0 = c0 at H0 ⊢
  clear h hT
  go_enter Tryz.func29, Tryz.ntmps29
  go_wp2_with fail
  go_loopw [] (fun wr => Hid (LoopAt N tag0 w R c0 T (T + 1) wr)) (fun wr => restLen R wr)
  case atStart => exact H0
  case round =>
    clear H0
    obtain ⟨tag, s, fs, d, ov, es, h1, h2, h3, h4, h5, h6, h7⟩ := hrel.out
    have hwm := wt_mem fs
    have hwl := wt_len fs
    have hpc := part_c N tag wr R s fs d ov es h1 (by omega) (fun f hf => by have := hwm f hf; omega) (by omega) (HLow.out _ _ h2)
    have hls := part_loses s fs d
    have HR := Lib.hid h1.rd.len
    have HS := Lib.hid (And.intro h1 (And.intro h2 (And.intro h3 (And.intro h4 (And.intro h5 (And.intro h6 h7))))))
    clear h1 h2 h3 h4 h5 h6 h7 hwm hwl hrel
    cases hp : partP s fs d with
    | bad =>
      rw [hp] at hpc
      go_wp2_with fail
      refine hpc.mono ?_
      rintro e1 W1 ⟨rfl, tg, k1⟩
      exact ⟨rfl, .inl ⟨rfl, HS.out.2.2.2.2.1 _ (.stop (by simp only [step, hp])), tg, HS.out.2.1.trans k1⟩⟩
    | more s' fs' d' =>
      rw [hp] at hpc
      go_wp2_with fail
      refine hpc.mono ?_
      rintro e1 W1 ⟨tg, ov', es', rfl, k1, k2⟩
      have H2 : Hid (LoopAt N tag0 w R c0 T s.length (W1.alloc (.cells #[.int .i64 0, .int .i64 0, .string ⟨#[]⟩, .slice none 0 0, .slice none 0 0] 26))) := by
        obtain ⟨h1, h2, h3, h4, h5, h6, h7⟩ := HS.out
        exact more_start _ _ _ _ _ h2 h3 h4 h5 h6 hp k1 k2
      clear k1 k2
      go_wp2_with fail
      go_loopw [4] (fun whole wr => whole = .bool false ∧ Hid (LoopAt N tag0 w R c0 T s.length wr)) (fun _ wr => restLen R wr)
      case atStart => exact ⟨rfl, H2⟩
      case round =>
        obtain ⟨rfl, hI⟩ := hrel
        clear H2
        go_wp2_with fail
        obtain ⟨tag, s2', fs2, d2', ov2, es2, c1, c2, c3, c4, c5, c6, c7⟩ := hI.out
        have hT6 := HS.out.2.2.2.2.2.1
        exact ⟨⟨tag, s2', fs2, d2', ov2, es2, c1, c2, c3, c4, c5, c6, by omega⟩, by rw [HR.out, c1.rd.len]; exact c7⟩
    | val x s' fs' d' =>
      rw [hp] at hpc
      go_wp2_with fail
      refine hpc.mono ?_
      rintro e1 W1 ⟨⟨v0, v1, v2, v3, v4⟩, tg, ov', es', rfl, k1, k2, k3⟩
      obtain ⟨kk, n2, s2, p2, a2, b3, q2, r2, d2, rfl, rfl, rfl, rfl, rfl⟩ := holds_parts k3
      have H1 := Lib.hid (And.intro k1 (And.intro k2 k3))
      clear k1 k2 k3
      have H2 : Hid (CloseAt N tag0 w R c0 T s.length W1.heap.size (W1.alloc (.cells #[.int .i64 kk, .int .i64 n2, .string s2, .slice p2 a2 b3, .slice q2 r2 d2] 26))) := by
        obtain ⟨h1, h2, h3, h4, h5, h6, h7⟩ := HS.out
        exact close_start h2 h3 h4 h5 h6 hp H1.out.1 H1.out.2.1 H1.out.2.2
      go_wp2_with fail
      go_loopw [4] (fun whole wr => ∃ b : Bool, whole = .bool b ∧ Hid (InnerAt N tag0 w R c0 T s.length W1.heap.size b wr)) (fun _ wr => restLen R wr)
      case atStart => exact ⟨true, rfl, H2⟩
      case round =>
        obtain ⟨b, rfl, hI⟩ := hrel
        clear H1 H2
        cases b with
        | false =>
          go_wp2_with fail
          have hI2 : LoopAt N tag0 w R c0 T s.length wr := hI.out
          obtain ⟨tg, s2', fs2, d2', ov2, es2, c1, c2, c3, c4, c5, c6, c7⟩ := hI2
          have hT6 := HS.out.2.2.2.2.2.1
          exact ⟨⟨tg, s2', fs2, d2', ov2, es2, c1, c2, c3, c4, c5, c6, by omega⟩, by rw [HR.out, c1.rd.len]; exact c7⟩
        | true =>
          obtain ⟨tag2, s2', fs2, d2', ov2, es2, c1, c2, c3, c4, c5, c6, c7, c8, c9, v0, v1, v2, v3, v4, y, c10, c11, c12⟩ : CloseAt N tag0 w R c0 T s.length W1.heap.size wr := hI.out
          clear hI
          obtain ⟨op, oc, rfl⟩ := own_slice c1.own
          obtain ⟨l0, l1, l2, lp, la, lb, lq, lr, ld, rfl, rfl, rfl, rfl, rfl⟩ := holds_parts c11
          obtain ⟨y0, y1, y2, y3, y4⟩ := c10.five
          have r1 := c1.rd.cell1
          rcases List.eq_nil_or_concat fs2 with rfl | ⟨fs0, f, rfl⟩
          · have HC := Lib.hid (And.intro c1 (And.intro c2 (And.intro c3 (And.intro c4 (And.intro c7 (And.intro c8 (And.intro c9 (And.intro c10 (And.intro c11 c12)))))))))
            clear c1 c2 c3 c4 c5 c6 c7 c8 c9 c10 c11 c12
            simp only [List.length_nil] at r1
            obtain ⟨t0, t1, t2, t3, t4⟩ := HC.out.2.2.1.froz
            obtain ⟨g0, g1, g2, g3, g4⟩ := HC.out.2.2.1.five
            go_wp2_with fail
            refine bodyPost_ret (v := .agg #[.int .i64 l0, .int .i64 l1, .string l2, .slice lp la lb, .slice lq lr ld]) (by simp [results, Tryz.results29, go_sem, g0, g1, g2, g3, g4]) rfl ?_
            have fin := fun Z hZ => value_done HC.out.1 HC.out.2.1 HC.out.2.2.2.1 HC.out.2.2.2.2.2.2.2.2.1 HC.out.2.2.2.2.2.2.2.2.2 Z hZ
            exact fin _ rfl
          · rw [List.concat_eq_append] at c1 c5 c12 r1
            have HC := Lib.hid (And.intro c1 (And.intro c2 (And.intro c3 (And.intro c4 (And.intro c5 (And.intro c6 (And.intro c7 (And.intro c8 (And.intro c9 (And.intro c10 (And.intro c11 c12)))))))))))
            have hc5 : fs0.length + 1 ≤ 1099511627776 ∧ f.xs.length + 1 ≤ 1099511627776 := by
              have := wt_len (fs0 ++ [f]); have := wt_mem (fs0 ++ [f]) f (by simp); rw [wt_snoc] at *; simp only [List.length_append, List.length_cons, List.length_nil] at *; omega
            have hput := put_c N tag2 wr R s2' fs0 f d2' _ es2 c1 (.int .i64 l0) (.int .i64 l1) (.string l2) (.slice lp la lb) (.slice lq lr ld) y c11 hc5.2 hc5.1
            have hg : (0 : Int) < ((fs0 ++ [f]).length : Nat) := by simp only [List.length_append, List.length_cons, List.length_nil]; omega
            clear c1 c2 c3 c4 c5 c6 c7 c8 c9 c10 c11 c12
            go_wp2_with fail
            refine hput.mono ?_
            rintro e2 W2 ⟨rfl, tg3, ov3, es3, m1, m2⟩
            clear hput y0 y1 y2 y3 y4 r1
            have H3 := Lib.hid (And.intro m1 m2)
            clear m1 m2
            cases hp44 : Lib.hasPrefix s2' [44] with
            | true =>
              have htk := takes_at [44] true hp44 H3.out.1
              go_wp2_with fail
              refine htk.mono ?_
              rintro e3 W3 ⟨rfl, m3, m4⟩
              have H4 := Lib.hid (And.intro m3 m4)
              clear m3 m4 htk
              go_wp2_with fail
              obtain ⟨c1, c2, c3, c4, c5, c6, c7, c8, c9, c10, c11, c12⟩ := HC.out
              have hkk := H3.out.2.trans H4.out.2
              have hrr := H4.out.1
              simp only [if_true] at hrr
              refine ⟨⟨false, rfl, (close_comma hrr hp44 c2 hkk c3 c4 c5 c6 c12 : LoopAt N tag0 w R c0 T s.length W3)⟩, ?_⟩
              rw [c1.rd.len, hrr.rd.len]
              have hl : (s2'.drop 1).length + 1 = s2'.length := prefix_drop hp44
              show (s2'.drop 1).length < s2'.length
              omega
            | false =>
              have htk := takes_at [44] false hp44 H3.out.1
              go_wp2_with fail
              refine htk.mono ?_
              rintro e3 W3 ⟨rfl, m3, m4⟩
              have H4 := Lib.hid (And.intro m3 m4)
              simp only [Bool.false_eq_true, if_false] at m3
              have hks : f.ks.length ≤ 1099511627776 := by
                have h5 := HC.out.2.2.2.2.1
                have := wt_mem (fs0 ++ [f]) f (by simp)
                omega
              have hend := end_c N tg3 W3 R s2' fs0 _ d2' _ _ m3 (by simp only [List.length_append, List.length_cons, List.length_nil]; exact hc5.2) hks hc5.1
              clear m3 m4 htk
              cases hpe : Lib.hasPrefix s2' (endL f.kind) with
              | false =>
                unfold EndsTo at hend
                rw [hpe] at hend
                simp only [Bool.false_eq_true, if_false] at hend
                go_wp2_with fail
                refine hend.mono ?_
                rintro e4 W4 ⟨rfl, m5⟩
                have c2 := HC.out.2.1
                have c12 := HC.out.2.2.2.2.2.2.2.2.2.2.2
                exact ⟨rfl, .inl ⟨rfl, c12 _ (.stop (by rw [close_last, hp44, if_neg (by decide), hpe, if_neg (by decide)])), tg3, ((c2.trans H3.out.2).trans H4.out.2).trans m5⟩⟩
              | true =>
                unfold EndsTo at hend
                rw [hpe] at hend
                simp only [if_true] at hend
                go_wp2_with fail
                refine hend.mono ?_
                rintro e4 W4 ⟨⟨j0, j1, j2, j3, j4⟩, tg4, ov4, es4, rfl, m5, m6, m7⟩
                obtain ⟨e0, e1, e2, ep, ea, eb, eq, er, ed, rfl, rfl, rfl, rfl, rfl⟩ := holds_parts m7
                have H5 := Lib.hid (And.intro m5 (And.intro m6 m7))
                clear m5 m6 m7 hend
                obtain ⟨by1, by2⟩ := HC.out.2.2.2.2.2.2.2.2.2.1.kp ((H3.out.2.trans H4.out.2).trans H5.out.2.1) HC.out.2.2.2.2.2.2.1
                obtain ⟨t0, t1, t2, t3, t4⟩ := by1.froz
                obtain ⟨y0, y1, y2, y3, y4⟩ := by1.five
                go_wp2_with fail
                have fin := fun Z hZ => close_end H5.out.1 hp44 hpe HC.out.2.1 ((H3.out.2.trans H4.out.2).trans H5.out.2.1) HC.out.2.2.1 HC.out.2.2.2.1 HC.out.2.2.2.2.1 HC.out.2.2.2.2.2.1 HC.out.2.2.2.2.2.2.1 HC.out.2.2.2.2.2.2.2.1 HC.out.2.2.2.2.2.2.2.2.1 HC.out.2.2.2.2.2.2.2.2.2.1 H5.out.2.2 HC.out.2.2.2.2.2.2.2.2.2.2.2 Z hZ
                have hlen := (H5.out.1.st5 by2 (.int .i64 e0) (.int .i64 e1) (.string e2) (.slice ep ea eb) (.slice eq er ed)).rd.len
                have hl : (s2'.drop 1).length + 1 = s2'.length := by have h0 := prefix_drop hpe; rw [endL_len] at h0; exact h0
                refine ⟨⟨true, rfl, fin _ rfl⟩, ?_⟩
                rw [HC.out.1.rd.len]
                refine Nat.lt_of_le_of_lt (Nat.le_of_eq hlen) ?_
                omega
end Go.Proofs.YtamenccdnobjkaaGreatDoor.Rd

/-
  Contract of readWhole.
-/
namespace Go.Proofs.YtamenccdnobjkaaGreatDoor.Rd
open Go.RowKit Go.Proofs.YtamenccdnobjkaaGreatDoor.Oct Go.Proofs.YtamenccdnobjkaaGreatDoor.Val

/-- A reader that has read nothing yet. -/
theorem rd_start {N : Nat} {R : Nat} {W : World} {s : List UInt8} (hR : N ≤ R) (h : Rd R (S s) (.slice none 0 0) (.int .i64 0) W) : RdAt N (fun b => if b = R then 2 else 1) W R s [] 0 (.slice none 0 0) [] where
  rd := h
  own := ⟨by simp [flat], .inl ⟨rfl, rfl⟩⟩
  len := rfl
  frs := fun i h => absurd h (by simp)
  rmark := by simp
  omark := fun b hb => by simp [Value.ownBlock] at hb
  out := fun b hb => by have := h.lt; rw [if_neg (by omega)]
  size := by have := h.lt; omega

/-- What readWhole leaves. -/
def WholeTo (w : World) (s : List UInt8) (en : Ending) (w' : World) : Prop :=
  Below w.heap.size w w' ∧
  ((en = Fault 33 ∧ (Leads (.loop s [] 0) .bad ∨ ∃ x t d, Leads (.loop s [] 0) (.done x t d) ∧ t ≠ [])) ∨
   (en = Fault 42 ∧ ∃ x d, Leads (.loop s [] 0) (.done x [] d) ∧ 16 < d) ∨
   ∃ e x d, en = .returned (agg5 e) ∧ Leads (.loop s [] 0) (.done x [] d) ∧ d ≤ 16 ∧ Holds (Mine w.heap.size w') w' (agg5 e) x)

theorem whole_fin {w w0 W1 : World} {R : Nat} {tag tg : Nat → Nat} {s : List UInt8} {d : Nat} {ov : Value} {es : List E5} {x : V} {v0 v1 v2 v3 v4 : Value} (hb0 : Below w.heap.size w w0) (h0 : RdAt w.heap.size tag w0 R s [] d ov es) (hk : Kp tag tg w0 W1) (ht : tg w.heap.size = 1)
    (hh : Holds (Dn w.heap.size tg W1) W1 (.agg #[v0, v1, v2, v3, v4]) x) (Z : World) (hZ : Z = st5 (W1.alloc (.cells #[v0, v1, v2, v3, v4] 26)) w.heap.size v0 v1 v2 v3 v4) : Below w.heap.size w Z ∧ Holds (Mine w.heap.size Z) Z (.agg #[v0, v1, v2, v3, v4]) x := by
  have hl := h0.low hk
  have hlo2 : w.heap.size ≤ W1.heap.size := Nat.le_trans h0.size hk.size
  have ba := (Below.refl W1.heap.size W1).alloc (Nat.le_refl _) (.cells #[v0, v1, v2, v3, v4] 26)
  have key : ∀ b, b < W1.heap.size → tg b = 0 → Z.heap[b]? = W1.heap[b]? := fun b hb h => by
    rw [hZ, st5_other _ v0 v1 v2 v3 v4 (fun e => by rw [e, ht] at h; cases h)]
    exact ba.block b hb
  refine ⟨?_, hh.frame (fun _ b _ _ hd => key b hd.lt hd.2) fun t b off n hd => ?_⟩
  · rw [hZ]
    exact st5_below ((hb0.trans hl).alloc hlo2 _) (Nat.le_refl _) v0 v1 v2 v3 v4
  · have hlt := hd.lt
    obtain ⟨⟨h1, h2, cur, h3⟩, h4⟩ := hd
    exact ⟨h1, h2, cur, by rw [key b hlt h4]; exact h3⟩

set_option maxHeartbeats 4000000 in
set_option maxRecDepth 100000 in
theorem whole_c (w : World) (s : List UInt8) (hl : s.length ≤ 274877906944) (hT : TabN w.heap.size w) :
    Calls Tryz.prog 18 #[.string (S s)] w (WholeTo w s) := by
  obtain ⟨w0, hw0⟩ : ∃ w0, w0 = (zBox w).alloc (.cells #[.string (S s), .slice none 0 0, .int .i64 0] 54) := ⟨_, rfl⟩
  have hs0 : w0.heap.size = w.heap.size + 2 := by rw [hw0]; exact (Array.size_push _).trans (congrArg (· + 1) (Array.size_push _))
  have hb1 : Below w.heap.size w (zBox w) := (Below.refl _ w).alloc (Nat.le_refl _) _
  have hb0 : Below w.heap.size w w0 := by rw [hw0]; exact hb1.alloc hb1.size _
  have hz1 : (zBox w).heap.size = w.heap.size + 1 := Array.size_push _
  have hrd : Rd (w.heap.size + 1) (S s) (.slice none 0 0) (.int .i64 0) w0 := by
    have h1 := heap_alloc_new (zBox w) (.cells #[.string (S s), .slice none 0 0, .int .i64 0] 54)
    rw [hz1, ← hw0] at h1
    exact h1
  have hbx : Bx w0 w.heap.size (.int .i64 0) (.int .i64 0) (.string ⟨#[]⟩) (.slice none 0 0) (.slice none 0 0) := by
    have h1 := (Bx.new w (.int .i64 0) (.int .i64 0) (.string ⟨#[]⟩) (.slice none 0 0) (.slice none 0 0)).keep (W' := w0) (by rw [hw0]; exact (Below.refl _ (zBox w)).alloc (Nat.le_refl _) _)
    exact h1
  have h0 := rd_start (N := w.heap.size) (by omega) hrd
  have hv := value_c _ _ w0 (w.heap.size + 1) s _ _ 0 h0 hl (hT.to hb0)
  have HB := Lib.hid (And.intro h0 (And.intro hb0 (And.intro hbx hs0)))
  rw [hw0] at hv
  clear h0 hb0 hbx hs0 hrd hz1 hb1
  go_enter Tryz.func18, Tryz.ntmps18
  go_wp2_with fail
  refine hv.mono ?_
  clear hv
  rintro e1 W1 (⟨rfl, hb, tg, hk⟩ | ⟨⟨v0, v1, v2, v3, v4⟩, tg, ov', es', x, t, d, rfl, hle, k1, k2, k3⟩)
  · have hlow := HB.out.1.low (hw0 ▸ hk)
    exact ⟨rfl, HB.out.2.1.trans hlow, .inl ⟨rfl, .inl hb⟩⟩
  · obtain ⟨l0, l1, l2, lp, la, lb, lq, lr, ld, rfl, rfl, rfl, rfl, rfl⟩ := holds_parts k3
    have c0 := k1.rd.cell0
    have c2 := k1.rd.cell2
    have hlt := k1.rd.lt
    have hW := fun W (hb : Below W1.heap.size W1 W) => And.intro (k1.keep hb).rd.cell0 (k1.keep hb).rd.cell2
    have HW := Lib.hid hW
    have HK := Lib.hid (And.intro hle (And.intro k1 (And.intro k2 k3)))
    clear hW hle k1 k2 k3
    cases t with
    | cons a t =>
      go_wp2_with fail
      refine (demand_no _ _).mono ?_
      rintro e2 W2 ⟨rfl, rfl⟩
      have hlow := (HB.out.1.low (hw0 ▸ HK.out.2.2.1)).alloc (Nat.le_trans HB.out.1.size (HK.out.2.2.1.size |> (hw0 ▸ ·))) (.cells #[.int .i64 l0, .int .i64 l1, .string l2, .slice lp la lb, .slice lq lr ld] 26)
      exact ⟨rfl, HB.out.2.1.trans hlow, .inl ⟨rfl, .inr ⟨x, _, d, HK.out.1, by simp⟩⟩⟩
    | nil =>
      go_wp2_with fail
      refine (demand_yes _ _).mono ?_
      rintro e2 W2 ⟨rfl, rfl⟩
      have hlow : Below w.heap.size w0 W1 := HB.out.1.low (hw0 ▸ HK.out.2.2.1)
      have hlo2 : w.heap.size ≤ W1.heap.size := Nat.le_trans HB.out.1.size hlow.size
      have hbz := HB.out.2.2.1.kp (hw0 ▸ HK.out.2.2.1) (by rw [if_neg (by omega)])
      have hbb := hbz.1.keep ((Below.refl _ W1).alloc (Nat.le_refl _) (.cells #[.int .i64 l0, .int .i64 l1, .string l2, .slice lp la lb, .slice lq lr ld] 26))
      obtain ⟨t0, t1, t2, t3, t4⟩ := hbb.froz
      obtain ⟨g0, g1, g2, g3, g4⟩ := hbb.five
      obtain ⟨y0, y1, y2, y3, y4⟩ := (Bx.new W1 (.int .i64 l0) (.int .i64 l1) (.string l2) (.slice lp la lb) (.slice lq lr ld)).five
      have HZ := Lib.hid hbz.2
      clear hbz hbb
      by_cases hd : (d : Int) ≤ 16
      · go_wp2_with fail
        refine (demand_yes _ _).mono ?_
        rintro e3 W3 ⟨rfl, rfl⟩
        go_wp2_with fail
        refine bodyPost_ret (v := .agg #[.int .i64 l0, .int .i64 l1, .string l2, .slice lp la lb, .slice lq lr ld]) (by simp [results, Tryz.results18, go_sem, g0, g1, g2, g3, g4]) rfl ?_
        have fin := fun Z hZ => whole_fin HB.out.2.1 HB.out.1 (hw0 ▸ HK.out.2.2.1) HZ.out HK.out.2.2.2 Z hZ
        obtain ⟨f1, f2⟩ := fin _ rfl
        exact ⟨f1, .inr (.inr ⟨(.int .i64 l0, .int .i64 l1, .string l2, .slice lp la lb, .slice lq lr ld), x, d, rfl, HK.out.1, by omega, f2⟩)⟩
      · go_wp2_with fail
        have hde : decide ((d : Int) ≤ 16) = false := decide_eq_false (by omega)
        rw [hde]
        refine (demand_no _ _).mono ?_
        rintro e3 W3 ⟨rfl, rfl⟩
        exact ⟨rfl, HB.out.2.1.trans (hlow.alloc hlo2 _), .inr (.inl ⟨rfl, x, d, HK.out.1, by omega⟩)⟩
end Go.Proofs.YtamenccdnobjkaaGreatDoor.Rd

/-
  Contracts of Read's closure, of caught and of Read.
-/
namespace Go.Proofs.YtamenccdnobjkaaGreatDoor.Rd
open Go.RowKit Go.Proofs.YtamenccdnobjkaaGreatDoor.Oct Go.Proofs.YtamenccdnobjkaaGreatDoor.Val

set_option maxHeartbeats 4000000 in
set_option maxRecDepth 100000 in
theorem read1_c (w : World) (sb : Nat) (s : List UInt8) (hs : w.cell? ⟨sb, 0, none⟩ = some (.string (S s))) (hlt : sb < w.heap.size) (hl : s.length ≤ 274877906944) (hT : TabN w.heap.size w) :
    Calls Tryz.prog 17 #[.pointer (some ⟨sb, 0, none⟩)] w (WholeTo w s) := by
  have hbz : Below w.heap.size w (zBox w) := (Below.refl _ w).alloc (Nat.le_refl _) _
  have hz1 : (zBox w).heap.size = w.heap.size + 1 := Array.size_push _
  have hw := whole_c (zBox w) s hl (fun X hX => hT X (hbz.trans (hX.mono (by omega))))
  have hs1 : (zBox w).cell? ⟨sb, 0, none⟩ = some (.string (S s)) := by rw [← hs]; exact hbz.cell hlt
  have HB := Lib.hid (And.intro hbz hz1)
  clear hbz hz1
  go_enter Tryz.func17, Tryz.ntmps17
  go_wp2_with fail
  refine hw.mono ?_
  clear hw
  rintro e1 W1 ⟨hb, (⟨rfl, h⟩ | ⟨rfl, h⟩ | ⟨⟨v0, v1, v2, v3, v4⟩, x, d, rfl, h1, h2, h3⟩)⟩
  · exact ⟨rfl, HB.out.1.trans (hb.mono (by rw [HB.out.2]; omega)), .inl ⟨rfl, h⟩⟩
  · exact ⟨rfl, HB.out.1.trans (hb.mono (by rw [HB.out.2]; omega)), .inr (.inl ⟨rfl, h⟩)⟩
  · obtain ⟨l0, l1, l2, lp, la, lb, lq, lr, ld, rfl, rfl, rfl, rfl, rfl⟩ := holds_parts h3
    have hbx : Bx W1 w.heap.size (.int .i64 0) (.int .i64 0) (.string ⟨#[]⟩) (.slice none 0 0) (.slice none 0 0) := by
      unfold Bx
      rw [hb.block w.heap.size (by rw [HB.out.2]; omega)]
      exact Bx.new w (.int .i64 0) (.int .i64 0) (.string ⟨#[]⟩) (.slice none 0 0) (.slice none 0 0)
    obtain ⟨t0, t1, t2, t3, t4⟩ := hbx.froz
    obtain ⟨g0, g1, g2, g3, g4⟩ := hbx.five
    have fin : Hid (∀ Z, Z = st5 W1 w.heap.size (.int .i64 l0) (.int .i64 l1) (.string l2) (.slice lp la lb) (.slice lq lr ld) → Below w.heap.size w Z ∧ Holds (Mine w.heap.size Z) Z (.agg #[.int .i64 l0, .int .i64 l1, .string l2, .slice lp la lb, .slice lq lr ld]) x) := by
      intro Z hZ
      rw [HB.out.2] at h3
      have key : ∀ b, b ≠ w.heap.size → Z.heap[b]? = W1.heap[b]? := fun b hb => by rw [hZ, st5_other _ _ _ _ _ _ hb]
      refine ⟨?_, h3.frame (fun _ b _ _ hd => key b (by have := hd.1; omega)) fun t b off n hd => ?_⟩
      · rw [hZ]
        exact st5_below (HB.out.1.trans (hb.mono (by rw [HB.out.2]; omega))) (Nat.le_refl _) _ _ _ _ _
      · obtain ⟨h5, h6, cur, h7⟩ := hd
        exact ⟨by omega, h6, cur, by rw [key b (by omega)]; exact h7⟩
    have H1 := Lib.hid (And.intro h1 h2)
    clear h1 h2 h3 hb hbx hs
    go_wp2_with fail
    refine bodyPost_ret (v := .agg #[.int .i64 l0, .int .i64 l1, .string l2, .slice lp la lb, .slice lq lr ld]) (by simp [results, Tryz.results17, go_sem, g0, g1, g2, g3, g4]) rfl ?_
    have hf := fin.out
    obtain ⟨f1, f2⟩ := hf _ rfl
    exact ⟨f1, .inr (.inr ⟨(.int .i64 l0, .int .i64 l1, .string l2, .slice lp la lb, .slice lq lr ld), x, d, rfl, H1.out.1, H1.out.2, f2⟩)⟩

end Go.Proofs.YtamenccdnobjkaaGreatDoor.Rd

/-
  Contracts of caught's closure: behind a fault, and behind an answer.
-/
namespace Go.Proofs.YtamenccdnobjkaaGreatDoor.Rd
open Go.RowKit Go.Proofs.YtamenccdnobjkaaGreatDoor.Oct Go.Proofs.YtamenccdnobjkaaGreatDoor.Val

theorem assert_fault (x : Value) (xT : TypeId) (w : World) : (Instr.typeAssert (.iface 51 x) xT 51 true).run Tryz.prog w = .ok (.tuple #[x, .bool true]) w := by kernel_rfl
theorem assert_nil (xT : TypeId) (w : World) : (Instr.typeAssert .nilIface xT 51 true).run Tryz.prog w = .ok (.tuple #[.agg #[.int .i64 0], .bool false]) w := by kernel_rfl

set_option maxHeartbeats 4000000 in
set_option maxRecDepth 100000 in
theorem catch_none (q r : Nat) (w : World) :
    CallsD Tryz.prog 28 #[.pointer (some ⟨q, 0, none⟩), .pointer (some ⟨r, 0, none⟩)] .returning w fun e u' w' =>
      e = .returned (.tuple #[]) ∧ u' = .returning ∧ Below w.heap.size w w' := by
  have hta := assert_nil
  refine callsD_of_wpS Tryz.func28 rfl fun c₀ cs hu => ?_
  apply wpS_seq
  apply wpS_region
  simp [wpOpsS, go_sem, recoverD, hu, Tryz.ntmps28, Exit.thenS]
  refine wpS_of_wp ?_
  simp only [List.replicate, Array.replicate, List.setIfInBounds_toArray, List.set_cons_succ, List.set_cons_zero, List.append_toArray, List.cons_append, List.nil_append]
  go_wp2_with fail
  simp only [bodyPostS]
  exact ⟨trivial, .returning, by cases c₀; simp_all, .tuple #[], by simp [results, Tryz.results28], rfl, rfl, (Below.refl _ w).alloc (Nat.le_refl _) _⟩

set_option maxHeartbeats 400000 in
set_option maxRecDepth 100000 in
theorem catch_fault (q r : Nat) (n x : Int) (u0 u1 u2 u3 u4 : Value) (w : World) (hq : Bx w q u0 u1 u2 u3 u4) (hx : w.cell? ⟨r, 0, none⟩ = some (.int .i64 x)) (hz : w.frozen? ⟨r, 0, none⟩ = false) (hr : r < w.heap.size) (hrq : r ≠ q) :
    CallsD Tryz.prog 28 #[.pointer (some ⟨q, 0, none⟩), .pointer (some ⟨r, 0, none⟩)] (.panicking [{ v := faultV n, recovered := false }]) w fun e u' w' =>
      e = .returned (.tuple #[]) ∧ u' = .panicking [{ v := faultV n, recovered := true }] ∧ w' = (((st5 w q (.int .i64 0) (.int .i64 0) (.string ⟨#[]⟩) (.slice none 0 0) (.slice none 0 0)).setCell ⟨r, 0, none⟩ (.int .i64 n)).alloc (.cells #[.int .i64 n] 51)).drew := by
  have hb := (Below.refl w.heap.size w).alloc (Nat.le_refl _) (.cells #[.int .i64 n] 51)
  have hq1 := hq.keep hb
  have hx1 := (hb.cell (p := ⟨r, 0, none⟩) hr).trans hx
  have hz1 := (hb.frozen (p := ⟨r, 0, none⟩) hr).trans hz
  obtain ⟨t0, t1, t2, t3, t4⟩ := hq1.froz
  obtain ⟨y0, y1, y2, y3, y4⟩ := hq1.five
  have hrq2 := Ne.symm hrq
  have hql := hq.lt
  have hn1 : w.heap.size ≠ q := by omega
  have hn2 : w.heap.size ≠ r := by omega
  have hn3 := Ne.symm hn1
  have hn4 := Ne.symm hn2
  have hnc : (w.alloc (.cells #[.int .i64 n] 51)).cell? ⟨w.heap.size, 0, none⟩ = some (.int .i64 n) := cell_of_row _ w.heap.size 0 _ _ _ (heap_alloc_new w _)
  have hHQ := Lib.hid (And.intro hq1 hb)
  obtain ⟨s0, s1, s2, s3, s4⟩ := hq.froz
  obtain ⟨z0, z1, z2, z3, z4⟩ := hq.five
  clear hb hq1
  have hta := assert_fault (.agg #[.int .i64 n])
  refine callsD_of_wpS Tryz.func28 rfl fun c₀ cs hu => ?_
  replace hu : c₀.mode = .panicking [{ v := .iface 51 (.agg #[.int .i64 n]), recovered := false }] := hu
  apply wpS_seq
  apply wpS_region
  simp [wpOpsS, go_sem, recoverD, hu, Tryz.ntmps28, Exit.thenS]
  refine wpS_of_wp ?_
  simp only [List.replicate, Array.replicate, List.setIfInBounds_toArray, List.set_cons_succ, List.set_cons_zero, List.append_toArray, List.cons_append, List.nil_append]
  go_wp2_with fail
  go_region
  show bodyPostS _ _ _ _ _ _ _ _ _
  simp only [bodyPostS]
  exact ⟨trivial, .panicking [{ v := faultV n, recovered := true }], by cases c₀; simp_all, .tuple #[], by simp [results, Tryz.results28], rfl, rfl, trivial⟩


end Go.Proofs.YtamenccdnobjkaaGreatDoor.Rd

/-
  Contract of caught, over Read's closure.
-/
namespace Go.Proofs.YtamenccdnobjkaaGreatDoor.Rd
open Go.RowKit Go.Proofs.YtamenccdnobjkaaGreatDoor.Oct Go.Proofs.YtamenccdnobjkaaGreatDoor.Val

/-- What caught leaves. -/
def CaughtTo (w : World) (s : List UInt8) (en : Ending) (w' : World) : Prop :=
  Below w.heap.size w w' ∧
  ((en = .returned (.tuple #[.agg #[.int .i64 0, .int .i64 0, .string ⟨#[]⟩, .slice none 0 0, .slice none 0 0], .int .i64 33]) ∧ (Leads (.loop s [] 0) .bad ∨ ∃ x t d, Leads (.loop s [] 0) (.done x t d) ∧ t ≠ [])) ∨
   (en = .returned (.tuple #[.agg #[.int .i64 0, .int .i64 0, .string ⟨#[]⟩, .slice none 0 0, .slice none 0 0], .int .i64 42]) ∧ ∃ x d, Leads (.loop s [] 0) (.done x [] d) ∧ 16 < d) ∨
   ∃ e x d, en = .returned (.tuple #[agg5 e, .int .i64 0]) ∧ Leads (.loop s [] 0) (.done x [] d) ∧ d ≤ 16 ∧ Holds (Mine w.heap.size w') w' (agg5 e) x)

/-- Both results are laid. -/
theorem laid_fin {w W1 : World} (hb : Below w.heap.size w W1) {n y : Int} {u0 u1 u2 u3 u4 : Value} (hbx : Bx W1 w.heap.size u0 u1 u2 u3 u4) (hx : W1.heap[w.heap.size + 1]? = some (.cells #[.int .i64 y] 27 (0, 0))) (v0 v1 v2 v3 v4 : Value) (Z : World)
    (hZ : Below ((st5 W1 w.heap.size v0 v1 v2 v3 v4).setCell ⟨w.heap.size + 1, 0, none⟩ (.int .i64 n)).heap.size ((st5 W1 w.heap.size v0 v1 v2 v3 v4).setCell ⟨w.heap.size + 1, 0, none⟩ (.int .i64 n)) Z) :
    Below w.heap.size w Z ∧ Bx Z w.heap.size v0 v1 v2 v3 v4 ∧ Z.cell? ⟨w.heap.size + 1, 0, none⟩ = some (.int .i64 n) ∧ ∀ b, w.heap.size + 2 ≤ b → b < W1.heap.size → Z.heap[b]? = W1.heap[b]? := by
  have h1 := hbx.st5 v0 v1 v2 v3 v4
  have h2 : (st5 W1 w.heap.size v0 v1 v2 v3 v4).heap[w.heap.size + 1]? = some (.cells #[.int .i64 y] 27 (0, 0)) := by
    rw [st5_other _ _ _ _ _ _ (by omega)]; exact hx
  have h3 := heap_setCell_same _ (w.heap.size + 1) 0 _ _ (.int .i64 n) h2
  have hlt : w.heap.size + 1 < W1.heap.size := (Array.getElem?_eq_some_iff.1 hx).1
  have h4 : Below (w.heap.size + 1) (st5 W1 w.heap.size v0 v1 v2 v3 v4) ((st5 W1 w.heap.size v0 v1 v2 v3 v4).setCell ⟨w.heap.size + 1, 0, none⟩ (.int .i64 n)) :=
    (Below.refl _ _).setCell (p := ⟨w.heap.size + 1, 0, none⟩) (Nat.le_refl _) _
  have h6 : ∀ b, w.heap.size + 2 ≤ b → ((st5 W1 w.heap.size v0 v1 v2 v3 v4).setCell ⟨w.heap.size + 1, 0, none⟩ (.int .i64 n)).heap[b]? = W1.heap[b]? := fun b hb => by
    rw [Below.heap_setCell _ _ _ _ (by simp only; omega), st5_other _ _ _ _ _ _ (by omega)]
  have hsz : ((st5 W1 w.heap.size v0 v1 v2 v3 v4).setCell ⟨w.heap.size + 1, 0, none⟩ (.int .i64 n)).heap.size = W1.heap.size := by
    have e1 : ((st5 W1 w.heap.size v0 v1 v2 v3 v4).setCell ⟨w.heap.size + 1, 0, none⟩ (.int .i64 n)).heap.size = (st5 W1 w.heap.size v0 v1 v2 v3 v4).heap.size := by simp [World.setCell]
    rw [e1, st5_size]
  generalize hV : (st5 W1 w.heap.size v0 v1 v2 v3 v4).setCell ⟨w.heap.size + 1, 0, none⟩ (.int .i64 n) = V at *
  refine ⟨?_, ?_, ?_, ?_⟩
  · exact ((st5_below hb (Nat.le_refl _) v0 v1 v2 v3 v4).trans (h4.mono (by omega))).trans (hZ.mono (by omega))
  · unfold Bx
    rw [hZ.block _ (by omega), h4.block _ (by omega)]
    exact h1
  · exact cell_of_row _ (w.heap.size + 1) 0 _ _ _ ((hZ.block _ (by omega)).trans h3)
  · exact fun b hb1 hb2 => (hZ.block b (by omega)).trans (h6 b hb1)

theorem fault_fin {w W1 : World} (hb : Below w.heap.size w W1) {n y : Int} {u0 u1 u2 u3 u4 : Value} (hbx : Bx W1 w.heap.size u0 u1 u2 u3 u4) (hx : W1.heap[w.heap.size + 1]? = some (.cells #[.int .i64 y] 27 (0, 0))) (Z : World)
    (hZ : Z = (((st5 W1 w.heap.size (.int .i64 0) (.int .i64 0) (.string ⟨#[]⟩) (.slice none 0 0) (.slice none 0 0)).setCell ⟨w.heap.size + 1, 0, none⟩ (.int .i64 n)).alloc (.cells #[.int .i64 n] 51)).drew) :
    Below w.heap.size w Z ∧ Bx Z w.heap.size (.int .i64 0) (.int .i64 0) (.string ⟨#[]⟩) (.slice none 0 0) (.slice none 0 0) ∧ Z.cell? ⟨w.heap.size + 1, 0, none⟩ = some (.int .i64 n) := by
  obtain ⟨f1, f2, f3, _⟩ := laid_fin hb hbx hx (n := n) (.int .i64 0) (.int .i64 0) (.string ⟨#[]⟩) (.slice none 0 0) (.slice none 0 0) Z (by rw [hZ]; exact ((Below.refl _ _).alloc (Nat.le_refl _) _).drew)
  exact ⟨f1, f2, f3⟩

set_option maxHeartbeats 400000 in
set_option maxRecDepth 100000 in
theorem caught_c (w : World) (sb : Nat) (s : List UInt8) (hs : w.cell? ⟨sb, 0, none⟩ = some (.string (S s))) (hlt : sb < w.heap.size) (hl : s.length ≤ 274877906944) (hT : TabN w.heap.size w) :
    Calls Tryz.prog 16 #[.func (.func 17) #[] #[.pointer (some ⟨sb, 0, none⟩)]] w (CaughtTo w s) := by
  have hmf : ∀ (fn : Fn) (first cap : Array Value) (w : World), (Instr.makeFunc fn first cap).run Tryz.prog w = .ok (.func fn first cap) w := fun _ _ _ _ => rfl
  obtain ⟨w2, hw2⟩ : ∃ w2, w2 = (zBox w).alloc (.cells #[.int .i64 0] 27) := ⟨_, rfl⟩
  have hz1 : (zBox w).heap.size = w.heap.size + 1 := Array.size_push _
  have hz2 : w2.heap.size = w.heap.size + 2 := by rw [hw2]; exact (Array.size_push _).trans (congrArg (· + 1) (Array.size_push _))
  have hb1 : Below w.heap.size w (zBox w) := (Below.refl _ w).alloc (Nat.le_refl _) _
  have hb2 : Below w.heap.size w w2 := by rw [hw2]; exact hb1.alloc hb1.size _
  have hbx : Bx w2 w.heap.size (.int .i64 0) (.int .i64 0) (.string ⟨#[]⟩) (.slice none 0 0) (.slice none 0 0) :=
    (Bx.new w (.int .i64 0) (.int .i64 0) (.string ⟨#[]⟩) (.slice none 0 0) (.slice none 0 0)).keep (W' := w2) (by rw [hw2]; exact (Below.refl _ (zBox w)).alloc (Nat.le_refl _) _)
  have hx : w2.heap[w.heap.size + 1]? = some (.cells #[.int .i64 0] 27 (0, 0)) := by
    have h1 := heap_alloc_new (zBox w) (.cells #[.int .i64 0] 27)
    rw [hz1, ← hw2] at h1
    exact h1
  have hc := read1_c w2 sb s ((hb2.cell (p := ⟨sb, 0, none⟩) hlt).trans hs) (by omega) hl (fun X hX => hT X (hb2.trans (hX.mono (by omega))))
  have HB := Lib.hid (And.intro hb2 (And.intro hbx (And.intro hx hz2)))
  rw [hw2] at hc
  clear hb1 hb2 hbx hx hz1 hz2
  go_enter_defers Tryz.func16, Tryz.ntmps16
  go_wp2_with fail
  refine hc.mono ?_
  clear hc
  rintro e1 W1 ⟨hb, h⟩
  rw [← hw2, HB.out.2.2.2] at hb
  have bx1 : Bx W1 w.heap.size (.int .i64 0) (.int .i64 0) (.string ⟨#[]⟩) (.slice none 0 0) (.slice none 0 0) := by unfold Bx; rw [hb.block _ (by omega)]; exact HB.out.2.1
  have x1 : W1.heap[w.heap.size + 1]? = some (.cells #[.int .i64 0] 27 (0, 0)) := by rw [hb.block _ (by omega)]; exact HB.out.2.2.1
  have hbw : Below w.heap.size w W1 := HB.out.1.trans (hb.mono (by omega))
  have hxc := cell_of_row W1 (w.heap.size + 1) 0 _ _ _ x1
  have hxz := frozen_of_row W1 (w.heap.size + 1) 0 _ _ x1
  have hxl : w.heap.size + 1 < W1.heap.size := (Array.getElem?_eq_some_iff.1 x1).1
  have flt : ∀ n, CallsD Tryz.prog 28 #[.pointer (some ⟨w.heap.size, 0, none⟩), .pointer (some ⟨w.heap.size + 1, 0, none⟩)] (.panicking [{ v := faultV n, recovered := false }]) W1 _ := fun n => catch_fault w.heap.size (w.heap.size + 1) n 0 _ _ _ _ _ W1 bx1 hxc hxz hxl (by omega)
  rcases h with ⟨rfl, h⟩ | ⟨rfl, h⟩ | ⟨⟨v0, v1, v2, v3, v4⟩, x, d, rfl, h1, h2, h3⟩
  · refine leaves_cons (f := 28) (args := #[.pointer (some ⟨w.heap.size, 0, none⟩), .pointer (some ⟨w.heap.size + 1, 0, none⟩)]) (by simp) (by simp [go_sem]) ?_
    refine (flt 33).mono ?_
    rintro e u' w'' ⟨rfl, rfl, hw''⟩
    obtain ⟨f1, f2, f3⟩ := fault_fin hbw bx1 x1 w'' hw''
    obtain ⟨g0, g1, g2, g3, g4⟩ := f2.five
    clear hw''
    simp [Leaves, settle, results, Tryz.results16, go_sem, g0, g1, g2, g3, g4, f3]
    exact ⟨f1, .inl ⟨rfl, h⟩⟩
  · refine leaves_cons (f := 28) (args := #[.pointer (some ⟨w.heap.size, 0, none⟩), .pointer (some ⟨w.heap.size + 1, 0, none⟩)]) (by simp) (by simp [go_sem]) ?_
    refine (flt 42).mono ?_
    rintro e u' w'' ⟨rfl, rfl, hw''⟩
    obtain ⟨f1, f2, f3⟩ := fault_fin hbw bx1 x1 w'' hw''
    obtain ⟨g0, g1, g2, g3, g4⟩ := f2.five
    clear hw''
    simp [Leaves, settle, results, Tryz.results16, go_sem, g0, g1, g2, g3, g4, f3]
    exact ⟨f1, .inr (.inl ⟨rfl, h⟩)⟩
  · obtain ⟨l0, l1, l2, lp, la, lb, lq, lr, ld, rfl, rfl, rfl, rfl, rfl⟩ := holds_parts h3
    obtain ⟨t0, t1, t2, t3, t4⟩ := bx1.froz
    obtain ⟨g0, g1, g2, g3, g4⟩ := bx1.five
    have hne : w.heap.size + 1 ≠ w.heap.size := by omega
    have hne2 := Ne.symm hne
    have HH := Lib.hid (And.intro h1 (And.intro h2 (And.intro h3 (And.intro hbw (And.intro bx1 x1)))))
    clear h1 h2 h3 hbw bx1 x1 hb flt
    go_wp2_with fail
    refine leaves_cons (f := 28) (args := #[.pointer (some ⟨w.heap.size, 0, none⟩), .pointer (some ⟨w.heap.size + 1, 0, none⟩)]) (by simp) (by simp [go_sem]) ?_
    refine (catch_none w.heap.size (w.heap.size + 1) _).mono ?_
    rintro e u' w'' ⟨rfl, rfl, hw''⟩
    obtain ⟨f1, f2, f3, f4⟩ := laid_fin HH.out.2.2.2.1 HH.out.2.2.2.2.1 HH.out.2.2.2.2.2 (.int .i64 l0) (.int .i64 l1) (.string l2) (.slice lp la lb) (.slice lq lr ld) w'' hw''
    obtain ⟨g0, g1, g2, g3, g4⟩ := f2.five
    clear hw''
    simp [Leaves, settle, results, Tryz.results16, go_sem, g0, g1, g2, g3, g4, f3]
    obtain ⟨h1, h2, h3, _⟩ := HH.out
    rw [← hw2, HB.out.2.2.2] at h3
    refine ⟨f1, .inr (.inr ⟨(.int .i64 l0, .int .i64 l1, .string l2, .slice lp la lb, .slice lq lr ld), x, d, rfl, h1, h2, h3.frame (fun _ b _ _ hd => f4 b hd.1 hd.lt) fun t b off n hd => ?_⟩)⟩
    have hlt := hd.lt
    obtain ⟨h5, h6, cur, h7⟩ := hd
    exact ⟨by omega, h6, cur, by rw [f4 b h5 hlt]; exact h7⟩
end Go.Proofs.YtamenccdnobjkaaGreatDoor.Rd

/-
  Contract of Read.
-/
namespace Go.Proofs.YtamenccdnobjkaaGreatDoor.Rd
open Go.RowKit Go.Proofs.YtamenccdnobjkaaGreatDoor.Oct Go.Proofs.YtamenccdnobjkaaGreatDoor.Val

/-- What Read leaves. -/
def ReadTo (w : World) (s : List UInt8) (en : Ending) (w' : World) : Prop :=
  Below w.heap.size w w' ∧
  ((en = .returned (.tuple #[.agg #[.int .i64 0, .int .i64 0, .string ⟨#[]⟩, .slice none 0 0, .slice none 0 0], .int .i64 0, .int .i64 33]) ∧ (Leads (.loop s [] 0) .bad ∨ ∃ x t d, Leads (.loop s [] 0) (.done x t d) ∧ t ≠ [])) ∨
   (en = .returned (.tuple #[.agg #[.int .i64 0, .int .i64 0, .string ⟨#[]⟩, .slice none 0 0, .slice none 0 0], .int .i64 0, .int .i64 42]) ∧ ∃ x d, Leads (.loop s [] 0) (.done x [] d) ∧ 16 < d) ∨
   ∃ e x d, en = .returned (.tuple #[agg5 e, .int .i64 s.length, .int .i64 0]) ∧ Leads (.loop s [] 0) (.done x [] d) ∧ d ≤ 16 ∧ Holds (Mine w.heap.size w') w' (agg5 e) x)

theorem read_fin {w W1 V : World} {x : Val.V} {v0 v1 v2 v3 v4 : Value} (h4 : Below w.heap.size w V) (h6 : Below W1.heap.size W1 V) (h3 : Holds (Mine (w.heap.size + 2) W1) W1 (.agg #[v0, v1, v2, v3, v4]) x) (Z : World)
    (hZ : Z = (st5 V (w.heap.size + 1) v0 v1 v2 v3 v4).drew) : Below w.heap.size w Z ∧ Holds (Mine w.heap.size Z) Z (.agg #[v0, v1, v2, v3, v4]) x := by
  have key : ∀ b, w.heap.size + 2 ≤ b → b < W1.heap.size → Z.heap[b]? = W1.heap[b]? := fun b hb hb2 => by
    have e : Z.heap[b]? = (st5 V (w.heap.size + 1) v0 v1 v2 v3 v4).heap[b]? := by rw [hZ]; rfl
    rw [e, st5_other _ _ _ _ _ _ (by omega)]
    exact h6.block b hb2
  refine ⟨by rw [hZ]; exact (st5_below h4 (Nat.le_succ _) _ _ _ _ _).drew, h3.frame (fun _ b _ _ hd => key b hd.1 hd.lt) fun t b off n hd => ?_⟩
  have hlt := hd.lt
  obtain ⟨h7, h8, cur, h9⟩ := hd
  exact ⟨by omega, h8, cur, by rw [key b h7 hlt]; exact h9⟩

set_option maxHeartbeats 4000000 in
set_option maxRecDepth 100000 in
theorem read_c (w : World) (s : List UInt8) (hl : s.length ≤ 274877906944) (hT : TabN w.heap.size w) :
    Calls Tryz.prog 7 #[.string (S s)] w (ReadTo w s) := by
  obtain ⟨w1, hw1⟩ : ∃ w1, w1 = w.alloc (.cells #[.string (S s)] 9) := ⟨_, rfl⟩
  obtain ⟨w2, hw2⟩ : ∃ w2, w2 = w1.alloc (.cells #[.int .i64 0, .int .i64 0, .string ⟨#[]⟩, .slice none 0 0, .slice none 0 0] 26) := ⟨_, rfl⟩
  have hz1 : w1.heap.size = w.heap.size + 1 := by rw [hw1]; exact Array.size_push _
  have hz2 : w2.heap.size = w.heap.size + 2 := by rw [hw2]; exact (Array.size_push _).trans (congrArg (· + 1) hz1)
  have hb1 : Below w.heap.size w w1 := by rw [hw1]; exact (Below.refl _ w).alloc (Nat.le_refl _) _
  have hb12 : Below w1.heap.size w1 w2 := by rw [hw2]; exact (Below.refl _ w1).alloc (Nat.le_refl _) _
  have hs1 : w1.cell? ⟨w.heap.size, 0, none⟩ = some (.string (S s)) := by rw [hw1]; exact cell_of_row _ w.heap.size 0 _ _ _ (heap_alloc_new w _)
  have hs2 : w2.cell? ⟨w.heap.size, 0, none⟩ = some (.string (S s)) := (hb12.cell (p := ⟨w.heap.size, 0, none⟩) (by rw [hz1]; exact Nat.lt_succ_self _)).trans hs1
  have hbx : Bx w2 (w.heap.size + 1) (.int .i64 0) (.int .i64 0) (.string ⟨#[]⟩) (.slice none 0 0) (.slice none 0 0) := by
    have h1 := Bx.new w1 (.int .i64 0) (.int .i64 0) (.string ⟨#[]⟩) (.slice none 0 0) (.slice none 0 0)
    rw [← hw2, hz1] at h1
    exact h1
  have hb2 : Below w.heap.size w w2 := hb1.trans (hb12.mono (by omega))
  have hc := caught_c w2 w.heap.size s hs2 (by omega) hl (fun X hX => hT X (hb2.trans (hX.mono (by omega))))
  have HB := Lib.hid (And.intro hb2 (And.intro hbx (And.intro hs2 hz2)))
  rw [hw2, hw1] at hc
  have hw3 : w2 = (w.alloc (.cells #[.string (S s)] 9)).alloc (.cells #[.int .i64 0, .int .i64 0, .string ⟨#[]⟩, .slice none 0 0, .slice none 0 0] 26) := by rw [hw2, hw1]
  clear hw1 hw2 hb1 hb2 hb12 hbx hs1 hs2 hz1 hz2
  go_enter Tryz.func7, Tryz.ntmps7
  go_wp2_with fail
  refine hc.mono ?_
  clear hc
  rintro e1 W1 ⟨hb, h⟩
  rw [← hw3, HB.out.2.2.2] at hb
  have bx1 : Bx W1 (w.heap.size + 1) (.int .i64 0) (.int .i64 0) (.string ⟨#[]⟩) (.slice none 0 0) (.slice none 0 0) := by unfold Bx; rw [hb.block _ (by omega)]; exact HB.out.2.1
  have hsc : W1.cell? ⟨w.heap.size, 0, none⟩ = some (.string (S s)) := (hb.cell (p := ⟨w.heap.size, 0, none⟩) (by show w.heap.size < _; omega)).trans HB.out.2.2.1
  have hbw : Below w.heap.size w W1 := HB.out.1.trans (hb.mono (by omega))
  rcases h with ⟨rfl, h⟩ | ⟨rfl, h⟩ | ⟨⟨v0, v1, v2, v3, v4⟩, x, d, rfl, h1, h2, h3⟩
  · have ba := (Below.refl W1.heap.size W1).alloc (Nat.le_refl _) (.cells #[.int .i64 0, .int .i64 0, .string ⟨#[]⟩, .slice none 0 0, .slice none 0 0] 26)
    have bx2 := bx1.keep ba
    have hs3 := (ba.cell (p := ⟨w.heap.size, 0, none⟩) (by have := bx1.lt; show w.heap.size < _; omega)).trans hsc
    obtain ⟨t0, t1, t2, t3, t4⟩ := bx2.froz
    obtain ⟨g0, g1, g2, g3, g4⟩ := bx2.five
    obtain ⟨y0, y1, y2, y3, y4⟩ := (Bx.new W1 (.int .i64 0) (.int .i64 0) (.string ⟨#[]⟩) (.slice none 0 0) (.slice none 0 0)).five
    have hsz := bx1.lt
    have hlow := hbw.alloc (by omega) (.cells #[.int .i64 0, .int .i64 0, .string ⟨#[]⟩, .slice none 0 0, .slice none 0 0] 26)
    have HH := Lib.hid (And.intro h (And.intro hlow bx2))
    clear h hbw hb bx1 bx2 ba hsz hlow
    go_wp2_with fail
    refine bodyPost_ret (v := .tuple #[.agg #[.int .i64 0, .int .i64 0, .string ⟨#[]⟩, .slice none 0 0, .slice none 0 0], .int .i64 0, .int .i64 33]) (by simp [results, Tryz.results7, go_sem, g0, g1, g2, g3, g4]) rfl ?_
    have fin := fun Z (hZ : Z = st5 _ (w.heap.size + 1) (.int .i64 0) (.int .i64 0) (.string ⟨#[]⟩) (.slice none 0 0) (.slice none 0 0)) => (hZ ▸ st5_below HH.out.2.1 (Nat.le_succ _) (.int .i64 0) (.int .i64 0) (.string ⟨#[]⟩) (.slice none 0 0) (.slice none 0 0) : Below w.heap.size w Z)
    exact ⟨fin _ rfl, .inl ⟨rfl, HH.out.1⟩⟩
  · have ba := (Below.refl W1.heap.size W1).alloc (Nat.le_refl _) (.cells #[.int .i64 0, .int .i64 0, .string ⟨#[]⟩, .slice none 0 0, .slice none 0 0] 26)
    have bx2 := bx1.keep ba
    have hs3 := (ba.cell (p := ⟨w.heap.size, 0, none⟩) (by have := bx1.lt; show w.heap.size < _; omega)).trans hsc
    obtain ⟨t0, t1, t2, t3, t4⟩ := bx2.froz
    obtain ⟨g0, g1, g2, g3, g4⟩ := bx2.five
    obtain ⟨y0, y1, y2, y3, y4⟩ := (Bx.new W1 (.int .i64 0) (.int .i64 0) (.string ⟨#[]⟩) (.slice none 0 0) (.slice none 0 0)).five
    have hsz := bx1.lt
    have hlow := hbw.alloc (by omega) (.cells #[.int .i64 0, .int .i64 0, .string ⟨#[]⟩, .slice none 0 0, .slice none 0 0] 26)
    have HH := Lib.hid (And.intro h (And.intro hlow bx2))
    clear h hbw hb bx1 bx2 ba hsz hlow
    go_wp2_with fail
    refine bodyPost_ret (v := .tuple #[.agg #[.int .i64 0, .int .i64 0, .string ⟨#[]⟩, .slice none 0 0, .slice none 0 0], .int .i64 0, .int .i64 42]) (by simp [results, Tryz.results7, go_sem, g0, g1, g2, g3, g4]) rfl ?_
    have fin := fun Z (hZ : Z = st5 _ (w.heap.size + 1) (.int .i64 0) (.int .i64 0) (.string ⟨#[]⟩) (.slice none 0 0) (.slice none 0 0)) => (hZ ▸ st5_below HH.out.2.1 (Nat.le_succ _) (.int .i64 0) (.int .i64 0) (.string ⟨#[]⟩) (.slice none 0 0) (.slice none 0 0) : Below w.heap.size w Z)
    exact ⟨fin _ rfl, .inr (.inl ⟨rfl, HH.out.1⟩)⟩
  · obtain ⟨l0, l1, l2, lp, la, lb, lq, lr, ld, rfl, rfl, rfl, rfl, rfl⟩ := holds_parts h3
    have ba := (Below.refl W1.heap.size W1).alloc (Nat.le_refl _) (.cells #[.int .i64 l0, .int .i64 l1, .string l2, .slice lp la lb, .slice lq lr ld] 26)
    have bx2 := bx1.keep ba
    have hs3 := (ba.cell (p := ⟨w.heap.size, 0, none⟩) (by have := bx1.lt; show w.heap.size < _; omega)).trans hsc
    obtain ⟨t0, t1, t2, t3, t4⟩ := bx2.froz
    obtain ⟨g0, g1, g2, g3, g4⟩ := bx2.five
    obtain ⟨y0, y1, y2, y3, y4⟩ := (Bx.new W1 (.int .i64 l0) (.int .i64 l1) (.string l2) (.slice lp la lb) (.slice lq lr ld)).five
    have hsz := bx1.lt
    have hlow := hbw.alloc (by omega) (.cells #[.int .i64 l0, .int .i64 l1, .string l2, .slice lp la lb, .slice lq lr ld] 26)
    have HSZ := Lib.hid hsz
    have HH := Lib.hid (And.intro h1 (And.intro h2 (And.intro h3 (And.intro hlow (And.intro bx2 ba)))))
    clear h1 h2 h3 hbw bx1 bx2 hb ba hsz hlow
    have hne : W1.heap.size ≠ w.heap.size + 1 := by have := HH.out.2.2.2.2.1.lt; have h9 := HSZ.out; omega
    have hne2 := Ne.symm hne
    have hne3 : W1.heap.size ≠ w.heap.size := by have h9 := HSZ.out; omega
    have hne4 := Ne.symm hne3
    have hne5 : w.heap.size ≠ w.heap.size + 1 := by omega
    have hne6 := Ne.symm hne5
    have hsS := size_S s
    go_wp2_with fail
    go_region
    go_wp2_with fail
    refine bodyPost_ret (v := .tuple #[.agg #[.int .i64 l0, .int .i64 l1, .string l2, .slice lp la lb, .slice lq lr ld], .int .i64 s.length, .int .i64 0]) (by simp [results, Tryz.results7, go_sem, g0, g1, g2, g3, g4]) rfl ?_
    obtain ⟨h1, h2, h3, h4, h5, h6⟩ := HH.out
    rw [← hw3, HB.out.2.2.2] at h3
    have fin := fun Z hZ => read_fin h4 h6 h3 Z hZ
    obtain ⟨f1, f2⟩ := fin _ rfl
    exact ⟨f1, .inr (.inr ⟨(.int .i64 l0, .int .i64 l1, .string l2, .slice lp la lb, .slice lq lr ld), x, d, rfl, h1, h2, f2⟩)⟩
end Go.Proofs.YtamenccdnobjkaaGreatDoor.Rd

/-
  The page's example: what the reader makes of the text [1].
-/
namespace Go.Proofs.YtamenccdnobjkaaGreatDoor.Rd
open Go.RowKit Go.Proofs.YtamenccdnobjkaaGreatDoor.Oct Go.Proofs.YtamenccdnobjkaaGreatDoor.Val

theorem one_a : step (.loop [91, 49, 93] [] 0) = .inl (.loop [49, 93] [⟨5, [], []⟩] 1) := by rfl
theorem one_n : numberP [49, 93] = some (1, [93]) := by decide +kernel
theorem one_p : partP [49, 93] [⟨5, [], []⟩] 1 = .val (leafV 3 1 ⟨#[]⟩) [93] [⟨5, [], []⟩] 1 := by
  unfold partP
  rw [if_neg (by decide), if_neg (by decide), if_neg (by decide), if_neg (by decide), if_neg (by decide), if_neg (by decide), one_n]
theorem one_b : step (.loop [49, 93] [⟨5, [], []⟩] 1) = .inl (.close (leafV 3 1 ⟨#[]⟩) [93] [⟨5, [], []⟩] 1) := by simp only [step, one_p]
theorem one_c : step (.close (leafV 3 1 ⟨#[]⟩) [93] [⟨5, [], []⟩] 1) = .inl (.close (.mk 5 0 ⟨#[]⟩ [leafV 3 1 ⟨#[]⟩] []) [] [] 1) := by rfl
theorem one_leads : Leads (.loop [91, 49, 93] [] 0) (.done (.mk 5 0 ⟨#[]⟩ [leafV 3 1 ⟨#[]⟩] []) [] 1) :=
  .next one_a (.next one_b (.next one_c (.stop rfl)))

/-- So whatever the reader comes to at that text is this. -/
theorem one_only {o : Out} (h : Leads (.loop [91, 49, 93] [] 0) o) : o = .done (.mk 5 0 ⟨#[]⟩ [leafV 3 1 ⟨#[]⟩] []) [] 1 := h.det one_leads
end Go.Proofs.YtamenccdnobjkaaGreatDoor.Rd

/-
  Contracts of num and alive of package muslinlaw05.
-/
namespace Go.Proofs.YtamenccdnobjkaaGreatDoor.Rd
open Go.RowKit Go.Proofs.YtamenccdnobjkaaGreatDoor.Oct Go.Proofs.YtamenccdnobjkaaGreatDoor.Val Go.Proofs.YtamenccdnobjkaaGreatDoor.Tl Go.Proofs.YtamenccdnobjkaaGreatDoor.Lit Go.Proofs.YtamenccdnobjkaaGreatDoor.Utf

theorem lnum_c (n : Int) (w : World) : Calls Tryz.prog 8 #[.int .i64 n] w fun e w' => e = .returned (.int .i64 n) ∧ w' = w := by
  go_enter Tryz.func8, Tryz.ntmps8
  go_wp2
  go_ret
  exact ⟨rfl, rfl⟩

theorem holds_list {C : Cond} {w : World} {v0 v1 v2 v4 : Value} {p : Option Addr} {a b : Nat} {k n : Int} {s : ByteArray} {l : List V} {ks : List ByteArray} (h : Holds C w (.agg #[v0, v1, v2, .slice p a b, v4]) (.mk k n s l ks)) : a = l.length := by
  cases h
  rfl

set_option maxHeartbeats 400000 in
set_option maxRecDepth 100000 in
theorem lalive_c (w : World) (hT : TabN w.heap.size w) : Calls Tryz.prog 6 #[] w fun e w' => e = .returned (.bool true) ∧ Below w.heap.size w w' := by
  have hr := read_c w [91, 49, 93] (by decide) hT
  have hn := lnum_c
  have HT := Lib.hid hT
  clear hT
  go_enter Tryz.func6, Tryz.ntmps6
  go_wp2_with fail
  refine hr.mono ?_
  clear hr
  rintro e1 W1 ⟨hb, h⟩
  rcases h with ⟨rfl, h | ⟨x, t, d, h, hne⟩⟩ | ⟨rfl, x, d, h, hd⟩ | ⟨⟨v0, v1, v2, v3, v4⟩, x, d, rfl, h1, h2, h3⟩
  · cases one_only h
  · have := one_only h; injection this with _ h2 _; exact absurd h2 hne
  · have := one_only h; injection this with _ _ h3; omega
  · have h5 := one_only h1
    injection h5 with hx _ hd
    rw [hx] at h3
    obtain ⟨l0, l1, l2, lp, la, lb, lq, lr, ld, rfl, rfl, rfl, rfl, rfl⟩ := holds_parts h3
    have hla : la = 1 := holds_list h3
    subst hla
    have hq := quote_c (S [60]) (by decide) (by decide +kernel)
    have hqe : quoteL (S [60]) = [34, 92, 117, 48, 48, 51, 99, 34] := by decide +kernel
    have HW := Lib.hid hb
    clear h1 h2 h3 hb
    go_wp2_with fail
    refine (hn _ _).mono ?_
    rintro e2 W2 ⟨rfl, rfl⟩
    have hbw : Below w.heap.size w (W1.alloc (.cells #[.int .i64 l0, .int .i64 l1, .string l2, .slice lp 1 lb, .slice lq lr ld] 26)) := HW.out.alloc HW.out.size _
    have hTt : Tabs (W1.alloc (.cells #[.int .i64 l0, .int .i64 l1, .string l2, .slice lp 1 lb, .slice lq lr ld] 26)) := HT.out _ hbw
    have hq1 := hq _ hTt
    rw [hqe] at hq1
    have HX := Lib.hid hbw
    clear hbw hTt hq hqe
    go_wp2_with (first | (go_at_call 15; refine hq1.mono ?_; rintro e3 W3 ⟨rfl, hb3⟩))
    refine bodyPost_ret (v := .bool true) (by simp [results, Tryz.results6, go_sem]) rfl ?_
    exact ⟨rfl, HX.out.trans (hb3.mono HX.out.size)⟩
end Go.Proofs.YtamenccdnobjkaaGreatDoor.Rd
