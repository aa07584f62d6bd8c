/-
  Part 24: RdValue, RdWhole, RdRead.
-/
import Derived.Test.YtganmmkdcaphfaaGreatDoorJsBaseP23
import Derived.Defers
import Derived.Recover
/-
  Contract of the reader's value.
-/
namespace Go.Proofs.YtganmmkdcaphfaaGreatDoor.Rd
open Go.RowKit Go.Proofs.YtganmmkdcaphfaaGreatDoor.Oct Go.Proofs.YtganmmkdcaphfaaGreatDoor.Val

/-- Ahead of a part. -/
def LoopAt (N : Nat) (tag0 : Nat → Nat) (w : World) (R : Nat) (c0 : Cfg) (T B : Nat) (wr : World) : Prop :=
  ∃ tag s fs d ov es, RdAt N tag wr R s fs d ov es ∧ Kp tag0 tag w wr ∧ Bx wr w.heap.size (.int .i64 0) (.int .i64 0) (.string ⟨#[]⟩) (.slice none 0 0) (.slice none 0 0) ∧ tag w.heap.size = 1 ∧
    (∀ o, Leads (.loop s fs d) o → Leads c0 o) ∧ wt fs + s.length ≤ T ∧ s.length < B
/-- Behind a value that is whole, which lies in the box q. -/
def CloseAt (N : Nat) (tag0 : Nat → Nat) (w : World) (R : Nat) (c0 : Cfg) (T B : Nat) (q : Nat) (wr : World) : Prop :=
  ∃ tag s fs d ov es, RdAt N tag wr R s fs d ov es ∧ Kp tag0 tag w wr ∧ Bx wr w.heap.size (.int .i64 0) (.int .i64 0) (.string ⟨#[]⟩) (.slice none 0 0) (.slice none 0 0) ∧ tag w.heap.size = 1 ∧
    wt fs + 1 + s.length ≤ T ∧ s.length < B ∧ tag q = 1 ∧ q ≠ w.heap.size ∧ w.heap.size ≤ q ∧
    ∃ v0 v1 v2 v3 v4 x, Bx wr q v0 v1 v2 v3 v4 ∧ Holds (Dn N tag wr) wr (.agg #[v0, v1, v2, v3, v4]) x ∧ (∀ o, Leads (.close x s fs d) o → Leads c0 o)
def InnerAt (N : Nat) (tag0 : Nat → Nat) (w : World) (R : Nat) (c0 : Cfg) (T B : Nat) (q : Nat) (b : Bool) (wr : World) : Prop :=
  if b then CloseAt N tag0 w R c0 T B q wr else LoopAt N tag0 w R c0 T B wr

theorem takes_at {N : Nat} {tag : Nat → Nat} {W : World} {R : Nat} {s : List UInt8} {fs : List Fr} {d : Nat} {ov : Value} {es : List E5} (p : List UInt8) (b : Bool) (hb : Lib.hasPrefix s p = b) (h : RdAt N tag W R s fs d ov es) :
    Calls Tryz.prog 63 #[.pointer (some ⟨R, 0, none⟩), .string (S p)] W fun e w' => e = .returned (.bool b) ∧ RdAt N tag w' R (if b then s.drop p.length else s) fs d ov es ∧ Kp tag tag W w' := by
  refine (takes_c R (S s) (S p) ov (.int .i64 d) W h.rd).mono ?_
  rintro e w' ⟨rfl, h5, h6⟩
  have hx : takesP (S p).data.toList (S s).data.toList = (b, if b then s.drop p.length else s) := by
    simp only
    unfold takesP
    rw [hb]
    cases b <;> rfl
  rw [hx] at h5 ⊢
  exact ⟨rfl, h.read h5 h6, Kp.save h.rmark h6⟩

theorem close_start {N : Nat} {tag0 : Nat → Nat} {w : World} {R : Nat} {c0 : Cfg} {T : Nat} {tag tg : Nat → Nat} {wr W1 : World} {s s' : List UInt8} {fs fs' : List Fr} {d d' : Nat} {ov' : Value} {es' : List E5} {x : V} {v0 v1 v2 v3 v4 : Value}
    (h2 : Kp tag0 tag w wr) (h3 : Bx wr w.heap.size (.int .i64 0) (.int .i64 0) (.string ⟨#[]⟩) (.slice none 0 0) (.slice none 0 0)) (h4 : tag w.heap.size = 1) (h5 : ∀ o, Leads (.loop s fs d) o → Leads c0 o) (h6 : wt fs + s.length ≤ T)
    (hp : partP s fs d = .val x s' fs' d') (k1 : RdAt N tg W1 R s' fs' d' ov' es') (k2 : Kp tag tg wr W1) (k3 : Holds (Dn N tg W1) W1 (.agg #[v0, v1, v2, v3, v4]) x) :
    CloseAt N tag0 w R c0 T s.length W1.heap.size (W1.alloc (.cells #[v0, v1, v2, v3, v4] 25)) := by
  have hls := part_loses s fs d
  rw [hp] at hls
  obtain ⟨rfl, hlt⟩ := hls
  obtain ⟨bx1, bx2⟩ := h3.kp k2 h4
  have hlt2 := bx1.lt
  have blw := (Below.refl _ W1).alloc (Nat.le_refl _) (.cells #[v0, v1, v2, v3, v4] 25)
  exact ⟨tg, s', fs', d', ov', es', k1.alloc _, (h2.trans k2).trans (Kp.of blw), bx1.keep blw, bx2, by omega, hlt, k1.out _ (.inr (Nat.le_refl _)), by omega, by omega, v0, v1, v2, v3, v4, x, Bx.new _ _ _ _ _ _,
    holds_dn k3 (fun b hb _ => blw.block b hb) (fun _ _ h => h), fun o ho => h5 o (.next (by simp only [step, hp]) ho)⟩

/-- What value leaves. -/
def ValueTo (N : Nat) (tag : Nat → Nat) (w : World) (R : Nat) (c0 : Cfg) (en : Ending) (w' : World) : Prop :=
  (en = Fault 33 ∧ Leads c0 .bad ∧ ∃ tag', Kp tag tag' w w') ∨
  ∃ e tag' ov' es' x t d, en = .returned (agg5 e) ∧ Leads c0 (.done x t d) ∧ RdAt N tag' w' R t [] d ov' es' ∧ Kp tag tag' w w' ∧ Holds (Dn N tag' w') w' (agg5 e) x

theorem more_start {N : Nat} {tag0 : Nat → Nat} {w : World} {R : Nat} {c0 : Cfg} {T : Nat} {tag tg : Nat → Nat} {wr W1 : World} {s s' : List UInt8} {fs fs' : List Fr} {d d' : Nat} {ov' : Value} {es' : List E5} (v0 v1 v2 v3 v4 : Value)
    (h2 : Kp tag0 tag w wr) (h3 : Bx wr w.heap.size (.int .i64 0) (.int .i64 0) (.string ⟨#[]⟩) (.slice none 0 0) (.slice none 0 0)) (h4 : tag w.heap.size = 1) (h5 : ∀ o, Leads (.loop s fs d) o → Leads c0 o) (h6 : wt fs + s.length ≤ T)
    (hp : partP s fs d = .more s' fs' d') (k1 : RdAt N tg W1 R s' fs' d' ov' es') (k2 : Kp tag tg wr W1) :
    LoopAt N tag0 w R c0 T s.length (W1.alloc (.cells #[v0, v1, v2, v3, v4] 25)) := by
  have hls := part_loses s fs d
  rw [hp] at hls
  obtain ⟨hw, hlt⟩ := hls
  obtain ⟨bx1, bx2⟩ := h3.kp k2 h4
  have blw := (Below.refl _ W1).alloc (Nat.le_refl _) (.cells #[v0, v1, v2, v3, v4] 25)
  exact ⟨tg, s', fs', d', ov', es', k1.alloc _, (h2.trans k2).trans (Kp.of blw), bx1.keep blw, bx2, fun o ho => h5 o (.next (by simp only [step, hp]) ho), by omega, hlt⟩

theorem value_done {N : Nat} {tag0 tag : Nat → Nat} {w W : World} {R : Nat} {c0 : Cfg} {s : List UInt8} {d : Nat} {ov : Value} {es : List E5} {x : V} {v0 v1 v2 v3 v4 : Value} (h : RdAt N tag W R s [] d ov es) (hk : Kp tag0 tag w W) (ht : tag w.heap.size = 1)
    (hh : Holds (Dn N tag W) W (.agg #[v0, v1, v2, v3, v4]) x) (hc : ∀ o, Leads (.close x s [] d) o → Leads c0 o) (Z : World) (hZ : Z = st5 W w.heap.size v0 v1 v2 v3 v4) :
    ValueTo N tag0 w R c0 (.returned (.agg #[v0, v1, v2, v3, v4])) Z := by
  have a1 := h.st5 ht v0 v1 v2 v3 v4
  have a2 := hk.own (st5_below (Below.refl _ W) (Nat.le_refl _) v0 v1 v2 v3 v4)
  have a3 := holds_dn (tag' := tag) hh (fun b hb h0 => st5_other W v0 v1 v2 v3 v4 (fun e => by rw [e, ht] at h0; cases h0)) (fun _ _ h => h)
  rw [← hZ] at a1 a2 a3
  exact .inr ⟨(v0, v1, v2, v3, v4), tag, _, _, x, s, d, rfl, hc _ (.stop (close_nil x s d)), a1, a2, a3⟩

/-- Behind a comma. -/
theorem close_comma {N : Nat} {tag0 tag tg : Nat → Nat} {w W W' : World} {R : Nat} {c0 : Cfg} {T B : Nat} {s : List UInt8} {fs : List Fr} {f : Fr} {d : Nat} {ov : Value} {es : List E5} {x : V} (h : RdAt N tg W' R (s.drop 1) (fs ++ [f.add x]) d ov es) (hp : Lib.hasPrefix s [44] = true)
    (h2 : Kp tag0 tag w W) (k2 : Kp tag tg W W') (h3 : Bx W w.heap.size (.int .i64 0) (.int .i64 0) (.string ⟨#[]⟩) (.slice none 0 0) (.slice none 0 0)) (h4 : tag w.heap.size = 1) (h6 : wt (fs ++ [f]) + 1 + s.length ≤ T) (h7 : s.length < B)
    (hc : ∀ o, Leads (.close x s (fs ++ [f]) d) o → Leads c0 o) : LoopAt N tag0 w R c0 T B W' := by
  obtain ⟨bx1, bx2⟩ := h3.kp k2 h4
  have hl : (s.drop 1).length + 1 = s.length := prefix_drop hp
  refine ⟨tg, s.drop 1, fs ++ [f.add x], d, ov, es, h, h2.trans k2, bx1, bx2, fun o ho => hc o (.next (by rw [close_last, if_pos hp]) ho), ?_, by omega⟩
  rw [wt_snoc] at h6 ⊢
  simp only [List.length_append, List.length_cons, List.length_nil]
  omega

/-- Behind an ending sign. -/
theorem close_end {N : Nat} {tag0 tag tg : Nat → Nat} {w W W' : World} {R : Nat} {c0 : Cfg} {T B q : Nat} {s : List UInt8} {fs : List Fr} {f : Fr} {d : Nat} {ov : Value} {es : List E5} {x : V} {v0 v1 v2 v3 v4 u0 u1 u2 u3 u4 : Value} (h : RdAt N tg W' R (s.drop 1) fs d ov es) (hn : Lib.hasPrefix s [44] = false) (hp : Lib.hasPrefix s (endL f.kind) = true)
    (h2 : Kp tag0 tag w W) (k2 : Kp tag tg W W') (h3 : Bx W w.heap.size (.int .i64 0) (.int .i64 0) (.string ⟨#[]⟩) (.slice none 0 0) (.slice none 0 0)) (h4 : tag w.heap.size = 1) (h6 : wt (fs ++ [f]) + 1 + s.length ≤ T) (h7 : s.length < B)
    (h8 : tag q = 1) (h9 : q ≠ w.heap.size) (h10 : w.heap.size ≤ q) (h11 : Bx W q u0 u1 u2 u3 u4) (hh : Holds (Dn N tg W') W' (.agg #[v0, v1, v2, v3, v4]) (f.add x).val)
    (hc : ∀ o, Leads (.close x s (fs ++ [f]) d) o → Leads c0 o) (Z : World) (hZ : Z = st5 W' q v0 v1 v2 v3 v4) : CloseAt N tag0 w R c0 T B q Z := by
  obtain ⟨bx1, bx2⟩ := h3.kp k2 h4
  obtain ⟨by1, by2⟩ := h11.kp k2 h8
  have hl := prefix_drop hp
  rw [endL_len] at hl
  have a1 := h.st5 by2 v0 v1 v2 v3 v4
  have a2 := (h2.trans k2).own (st5_below (Below.refl _ W') h10 v0 v1 v2 v3 v4)
  have a3 := holds_dn (tag' := tg) hh (fun b hb h0 => st5_other W' v0 v1 v2 v3 v4 (fun e => by rw [e, by2] at h0; cases h0)) (fun _ _ h => h)
  have a4 := bx1.other h9.symm v0 v1 v2 v3 v4
  have a5 := by1.st5 v0 v1 v2 v3 v4
  rw [← hZ] at a1 a2 a3 a4 a5
  refine ⟨tg, s.drop 1, fs, d, ov, es, a1, a2, a4, bx2, ?_, by omega, by2, h9, h10, v0, v1, v2, v3, v4, (f.add x).val, a5, a3, fun o ho => hc o (.next (by rw [close_last, hn, if_neg (by decide), if_pos hp]) ho)⟩
  rw [wt_snoc] at h6
  omega

set_option maxHeartbeats 4000000 in
set_option maxRecDepth 100000 in
theorem value_c (N : Nat) (tag0 : Nat → Nat) (w : World) (R : Nat) (s0 : List UInt8) (ov : Value) (es : List E5) (d0 : Nat) (h : RdAt N tag0 w R s0 [] d0 ov es) (hl : s0.length ≤ 274877906944) (hT : TabN N w) :
    Calls Tryz.prog 56 #[.pointer (some ⟨R, 0, none⟩)] w (ValueTo N tag0 w R (.loop s0 [] d0)) := by
  have H0 : Hid (LoopAt N tag0 w R (.loop s0 [] d0) s0.length (s0.length + 1) (zBox w)) := by
    obtain ⟨z1, z2, z3, z4, z5⟩ := zero_box h
    exact ⟨tag0, s0, [], d0, ov, es, z1, z3, z2, z4, fun o ho => ho, by simp [wt], by omega⟩
  have HLow : Hid (∀ tag W, Kp tag0 tag w W → TabN N W) := fun tag W hk => hT.to (h.low hk)
  generalize s0.length = T at hl H0
  generalize Cfg.loop s0 [] d0 = c0 at H0 ⊢
  clear h hT
  go_enter Tryz.func56, Tryz.ntmps56
  go_wp2_with fail
  go_loopw [] (fun wr => Hid (LoopAt N tag0 w R c0 T (T + 1) wr)) (fun wr => restLen R wr)
  case atStart => exact H0
  case round =>
    clear H0
    obtain ⟨tag, s, fs, d, ov, es, h1, h2, h3, h4, h5, h6, h7⟩ := hrel.out
    have hwm := wt_mem fs
    have hwl := wt_len fs
    have hpc := part_c N tag wr R s fs d ov es h1 (by omega) (fun f hf => by have := hwm f hf; omega) (by omega) (HLow.out _ _ h2)
    have hls := part_loses s fs d
    have HR := Lib.hid h1.rd.len
    have HS := Lib.hid (And.intro h1 (And.intro h2 (And.intro h3 (And.intro h4 (And.intro h5 (And.intro h6 h7))))))
    clear h1 h2 h3 h4 h5 h6 h7 hwm hwl hrel
    cases hp : partP s fs d with
    | bad =>
      rw [hp] at hpc
      go_wp2_with fail
      refine hpc.mono ?_
      rintro e1 W1 ⟨rfl, tg, k1⟩
      exact ⟨rfl, .inl ⟨rfl, HS.out.2.2.2.2.1 _ (.stop (by simp only [step, hp])), tg, HS.out.2.1.trans k1⟩⟩
    | more s' fs' d' =>
      rw [hp] at hpc
      go_wp2_with fail
      refine hpc.mono ?_
      rintro e1 W1 ⟨tg, ov', es', rfl, k1, k2⟩
      have H2 : Hid (LoopAt N tag0 w R c0 T s.length (W1.alloc (.cells #[.int .i64 0, .int .i64 0, .string ⟨#[]⟩, .slice none 0 0, .slice none 0 0] 25))) := by
        obtain ⟨h1, h2, h3, h4, h5, h6, h7⟩ := HS.out
        exact more_start _ _ _ _ _ h2 h3 h4 h5 h6 hp k1 k2
      clear k1 k2
      go_wp2_with fail
      go_loopw [4] (fun whole wr => whole = .bool false ∧ Hid (LoopAt N tag0 w R c0 T s.length wr)) (fun _ wr => restLen R wr)
      case atStart => exact ⟨rfl, H2⟩
      case round =>
        obtain ⟨rfl, hI⟩ := hrel
        clear H2
        go_wp2_with fail
        obtain ⟨tag, s2', fs2, d2', ov2, es2, c1, c2, c3, c4, c5, c6, c7⟩ := hI.out
        have hT6 := HS.out.2.2.2.2.2.1
        exact ⟨⟨tag, s2', fs2, d2', ov2, es2, c1, c2, c3, c4, c5, c6, by omega⟩, by rw [HR.out, c1.rd.len]; exact c7⟩
    | val x s' fs' d' =>
      rw [hp] at hpc
      go_wp2_with fail
      refine hpc.mono ?_
      rintro e1 W1 ⟨⟨v0, v1, v2, v3, v4⟩, tg, ov', es', rfl, k1, k2, k3⟩
      obtain ⟨kk, n2, s2, p2, a2, b3, q2, r2, d2, rfl, rfl, rfl, rfl, rfl⟩ := holds_parts k3
      have H1 := Lib.hid (And.intro k1 (And.intro k2 k3))
      clear k1 k2 k3
      have H2 : Hid (CloseAt N tag0 w R c0 T s.length W1.heap.size (W1.alloc (.cells #[.int .i64 kk, .int .i64 n2, .string s2, .slice p2 a2 b3, .slice q2 r2 d2] 25))) := by
        obtain ⟨h1, h2, h3, h4, h5, h6, h7⟩ := HS.out
        exact close_start h2 h3 h4 h5 h6 hp H1.out.1 H1.out.2.1 H1.out.2.2
      go_wp2_with fail
      go_loopw [4] (fun whole wr => ∃ b : Bool, whole = .bool b ∧ Hid (InnerAt N tag0 w R c0 T s.length W1.heap.size b wr)) (fun _ wr => restLen R wr)
      case atStart => exact ⟨true, rfl, H2⟩
      case round =>
        obtain ⟨b, rfl, hI⟩ := hrel
        clear H1 H2
        cases b with
        | false =>
          go_wp2_with fail
          have hI2 : LoopAt N tag0 w R c0 T s.length wr := hI.out
          obtain ⟨tg, s2', fs2, d2', ov2, es2, c1, c2, c3, c4, c5, c6, c7⟩ := hI2
          have hT6 := HS.out.2.2.2.2.2.1
          exact ⟨⟨tg, s2', fs2, d2', ov2, es2, c1, c2, c3, c4, c5, c6, by omega⟩, by rw [HR.out, c1.rd.len]; exact c7⟩
        | true =>
          obtain ⟨tag2, s2', fs2, d2', ov2, es2, c1, c2, c3, c4, c5, c6, c7, c8, c9, v0, v1, v2, v3, v4, y, c10, c11, c12⟩ : CloseAt N tag0 w R c0 T s.length W1.heap.size wr := hI.out
          clear hI
          obtain ⟨op, oc, rfl⟩ := own_slice c1.own
          obtain ⟨l0, l1, l2, lp, la, lb, lq, lr, ld, rfl, rfl, rfl, rfl, rfl⟩ := holds_parts c11
          obtain ⟨y0, y1, y2, y3, y4⟩ := c10.five
          have r1 := c1.rd.cell1
          rcases List.eq_nil_or_concat fs2 with rfl | ⟨fs0, f, rfl⟩
          · have HC := Lib.hid (And.intro c1 (And.intro c2 (And.intro c3 (And.intro c4 (And.intro c7 (And.intro c8 (And.intro c9 (And.intro c10 (And.intro c11 c12)))))))))
            clear c1 c2 c3 c4 c5 c6 c7 c8 c9 c10 c11 c12
            simp only [List.length_nil] at r1
            obtain ⟨t0, t1, t2, t3, t4⟩ := HC.out.2.2.1.froz
            obtain ⟨g0, g1, g2, g3, g4⟩ := HC.out.2.2.1.five
            go_wp2_with fail
            refine bodyPost_ret (v := .agg #[.int .i64 l0, .int .i64 l1, .string l2, .slice lp la lb, .slice lq lr ld]) (by simp [results, Tryz.results56, go_sem, g0, g1, g2, g3, g4]) rfl ?_
            have fin := fun Z hZ => value_done HC.out.1 HC.out.2.1 HC.out.2.2.2.1 HC.out.2.2.2.2.2.2.2.2.1 HC.out.2.2.2.2.2.2.2.2.2 Z hZ
            exact fin _ rfl
          · rw [List.concat_eq_append] at c1 c5 c12 r1
            have HC := Lib.hid (And.intro c1 (And.intro c2 (And.intro c3 (And.intro c4 (And.intro c5 (And.intro c6 (And.intro c7 (And.intro c8 (And.intro c9 (And.intro c10 (And.intro c11 c12)))))))))))
            have hc5 : fs0.length + 1 ≤ 1099511627776 ∧ f.xs.length + 1 ≤ 1099511627776 := by
              have := wt_len (fs0 ++ [f]); have := wt_mem (fs0 ++ [f]) f (by simp); rw [wt_snoc] at *; simp only [List.length_append, List.length_cons, List.length_nil] at *; omega
            have hput := put_c N tag2 wr R s2' fs0 f d2' _ es2 c1 (.int .i64 l0) (.int .i64 l1) (.string l2) (.slice lp la lb) (.slice lq lr ld) y c11 hc5.2 hc5.1
            have hg : (0 : Int) < ((fs0 ++ [f]).length : Nat) := by simp only [List.length_append, List.length_cons, List.length_nil]; omega
            clear c1 c2 c3 c4 c5 c6 c7 c8 c9 c10 c11 c12
            go_wp2_with fail
            refine hput.mono ?_
            rintro e2 W2 ⟨rfl, tg3, ov3, es3, m1, m2⟩
            clear hput y0 y1 y2 y3 y4 r1
            have H3 := Lib.hid (And.intro m1 m2)
            clear m1 m2
            cases hp44 : Lib.hasPrefix s2' [44] with
            | true =>
              have htk := takes_at [44] true hp44 H3.out.1
              go_wp2_with fail
              refine htk.mono ?_
              rintro e3 W3 ⟨rfl, m3, m4⟩
              have H4 := Lib.hid (And.intro m3 m4)
              clear m3 m4 htk
              go_wp2_with fail
              obtain ⟨c1, c2, c3, c4, c5, c6, c7, c8, c9, c10, c11, c12⟩ := HC.out
              have hkk := H3.out.2.trans H4.out.2
              have hrr := H4.out.1
              simp only [if_true] at hrr
              refine ⟨⟨false, rfl, (close_comma hrr hp44 c2 hkk c3 c4 c5 c6 c12 : LoopAt N tag0 w R c0 T s.length W3)⟩, ?_⟩
              rw [c1.rd.len, hrr.rd.len]
              have hl : (s2'.drop 1).length + 1 = s2'.length := prefix_drop hp44
              show (s2'.drop 1).length < s2'.length
              omega
            | false =>
              have htk := takes_at [44] false hp44 H3.out.1
              go_wp2_with fail
              refine htk.mono ?_
              rintro e3 W3 ⟨rfl, m3, m4⟩
              have H4 := Lib.hid (And.intro m3 m4)
              simp only [Bool.false_eq_true, if_false] at m3
              have hks : f.ks.length ≤ 1099511627776 := by
                have h5 := HC.out.2.2.2.2.1
                have := wt_mem (fs0 ++ [f]) f (by simp)
                omega
              have hend := end_c N tg3 W3 R s2' fs0 _ d2' _ _ m3 (by simp only [List.length_append, List.length_cons, List.length_nil]; exact hc5.2) hks hc5.1
              clear m3 m4 htk
              cases hpe : Lib.hasPrefix s2' (endL f.kind) with
              | false =>
                unfold EndsTo at hend
                rw [hpe] at hend
                simp only [Bool.false_eq_true, if_false] at hend
                go_wp2_with fail
                refine hend.mono ?_
                rintro e4 W4 ⟨rfl, m5⟩
                have c2 := HC.out.2.1
                have c12 := HC.out.2.2.2.2.2.2.2.2.2.2.2
                exact ⟨rfl, .inl ⟨rfl, c12 _ (.stop (by rw [close_last, hp44, if_neg (by decide), hpe, if_neg (by decide)])), tg3, ((c2.trans H3.out.2).trans H4.out.2).trans m5⟩⟩
              | true =>
                unfold EndsTo at hend
                rw [hpe] at hend
                simp only [if_true] at hend
                go_wp2_with fail
                refine hend.mono ?_
                rintro e4 W4 ⟨⟨j0, j1, j2, j3, j4⟩, tg4, ov4, es4, rfl, m5, m6, m7⟩
                obtain ⟨e0, e1, e2, ep, ea, eb, eq, er, ed, rfl, rfl, rfl, rfl, rfl⟩ := holds_parts m7
                have H5 := Lib.hid (And.intro m5 (And.intro m6 m7))
                clear m5 m6 m7 hend
                obtain ⟨by1, by2⟩ := HC.out.2.2.2.2.2.2.2.2.2.1.kp ((H3.out.2.trans H4.out.2).trans H5.out.2.1) HC.out.2.2.2.2.2.2.1
                obtain ⟨t0, t1, t2, t3, t4⟩ := by1.froz
                obtain ⟨y0, y1, y2, y3, y4⟩ := by1.five
                go_wp2_with fail
                have fin := fun Z hZ => close_end H5.out.1 hp44 hpe HC.out.2.1 ((H3.out.2.trans H4.out.2).trans H5.out.2.1) HC.out.2.2.1 HC.out.2.2.2.1 HC.out.2.2.2.2.1 HC.out.2.2.2.2.2.1 HC.out.2.2.2.2.2.2.1 HC.out.2.2.2.2.2.2.2.1 HC.out.2.2.2.2.2.2.2.2.1 HC.out.2.2.2.2.2.2.2.2.2.1 H5.out.2.2 HC.out.2.2.2.2.2.2.2.2.2.2.2 Z hZ
                have hlen := (H5.out.1.st5 by2 (.int .i64 e0) (.int .i64 e1) (.string e2) (.slice ep ea eb) (.slice eq er ed)).rd.len
                have hl : (s2'.drop 1).length + 1 = s2'.length := by have h0 := prefix_drop hpe; rw [endL_len] at h0; exact h0
                refine ⟨⟨true, rfl, fin _ rfl⟩, ?_⟩
                rw [HC.out.1.rd.len]
                refine Nat.lt_of_le_of_lt (Nat.le_of_eq hlen) ?_
                omega
end Go.Proofs.YtganmmkdcaphfaaGreatDoor.Rd

/-
  Contract of readWhole.
-/
namespace Go.Proofs.YtganmmkdcaphfaaGreatDoor.Rd
open Go.RowKit Go.Proofs.YtganmmkdcaphfaaGreatDoor.Oct Go.Proofs.YtganmmkdcaphfaaGreatDoor.Val

/-- A reader that has read nothing yet. -/
theorem rd_start {N : Nat} {R : Nat} {W : World} {s : List UInt8} (hR : N ≤ R) (h : Rd R (S s) (.slice none 0 0) (.int .i64 0) W) : RdAt N (fun b => if b = R then 2 else 1) W R s [] 0 (.slice none 0 0) [] where
  rd := h
  own := ⟨by simp [flat], .inl ⟨rfl, rfl⟩⟩
  len := rfl
  frs := fun i h => absurd h (by simp)
  rmark := by simp
  omark := fun b hb => by simp [Value.ownBlock] at hb
  out := fun b hb => by have := h.lt; rw [if_neg (by omega)]
  size := by have := h.lt; omega

/-- What readWhole leaves. -/
def WholeTo (w : World) (s : List UInt8) (en : Ending) (w' : World) : Prop :=
  Below w.heap.size w w' ∧
  ((en = Fault 33 ∧ (Leads (.loop s [] 0) .bad ∨ ∃ x t d, Leads (.loop s [] 0) (.done x t d) ∧ t ≠ [])) ∨
   (en = Fault 42 ∧ ∃ x d, Leads (.loop s [] 0) (.done x [] d) ∧ 16 < d) ∨
   ∃ e x d, en = .returned (agg5 e) ∧ Leads (.loop s [] 0) (.done x [] d) ∧ d ≤ 16 ∧ Holds (Mine w.heap.size w') w' (agg5 e) x)

theorem whole_fin {w w0 W1 : World} {R : Nat} {tag tg : Nat → Nat} {s : List UInt8} {d : Nat} {ov : Value} {es : List E5} {x : V} {v0 v1 v2 v3 v4 : Value} (hb0 : Below w.heap.size w w0) (h0 : RdAt w.heap.size tag w0 R s [] d ov es) (hk : Kp tag tg w0 W1) (ht : tg w.heap.size = 1)
    (hh : Holds (Dn w.heap.size tg W1) W1 (.agg #[v0, v1, v2, v3, v4]) x) (Z : World) (hZ : Z = st5 (W1.alloc (.cells #[v0, v1, v2, v3, v4] 25)) w.heap.size v0 v1 v2 v3 v4) : Below w.heap.size w Z ∧ Holds (Mine w.heap.size Z) Z (.agg #[v0, v1, v2, v3, v4]) x := by
  have hl := h0.low hk
  have hlo2 : w.heap.size ≤ W1.heap.size := Nat.le_trans h0.size hk.size
  have ba := (Below.refl W1.heap.size W1).alloc (Nat.le_refl _) (.cells #[v0, v1, v2, v3, v4] 25)
  have key : ∀ b, b < W1.heap.size → tg b = 0 → Z.heap[b]? = W1.heap[b]? := fun b hb h => by
    rw [hZ, st5_other _ v0 v1 v2 v3 v4 (fun e => by rw [e, ht] at h; cases h)]
    exact ba.block b hb
  refine ⟨?_, hh.frame (fun _ b _ _ hd => key b hd.lt hd.2) fun t b off n hd => ?_⟩
  · rw [hZ]
    exact st5_below ((hb0.trans hl).alloc hlo2 _) (Nat.le_refl _) v0 v1 v2 v3 v4
  · have hlt := hd.lt
    obtain ⟨⟨h1, h2, cur, h3⟩, h4⟩ := hd
    exact ⟨h1, h2, cur, by rw [key b hlt h4]; exact h3⟩

set_option maxHeartbeats 4000000 in
set_option maxRecDepth 100000 in
theorem whole_c (w : World) (s : List UInt8) (hl : s.length ≤ 274877906944) (hT : TabN w.heap.size w) :
    Calls Tryz.prog 39 #[.string (S s)] w (WholeTo w s) := by
  obtain ⟨w0, hw0⟩ : ∃ w0, w0 = (zBox w).alloc (.cells #[.string (S s), .slice none 0 0, .int .i64 0] 68) := ⟨_, rfl⟩
  have hs0 : w0.heap.size = w.heap.size + 2 := by rw [hw0]; exact (Array.size_push _).trans (congrArg (· + 1) (Array.size_push _))
  have hb1 : Below w.heap.size w (zBox w) := (Below.refl _ w).alloc (Nat.le_refl _) _
  have hb0 : Below w.heap.size w w0 := by rw [hw0]; exact hb1.alloc hb1.size _
  have hz1 : (zBox w).heap.size = w.heap.size + 1 := Array.size_push _
  have hrd : Rd (w.heap.size + 1) (S s) (.slice none 0 0) (.int .i64 0) w0 := by
    have h1 := heap_alloc_new (zBox w) (.cells #[.string (S s), .slice none 0 0, .int .i64 0] 68)
    rw [hz1, ← hw0] at h1
    exact h1
  have hbx : Bx w0 w.heap.size (.int .i64 0) (.int .i64 0) (.string ⟨#[]⟩) (.slice none 0 0) (.slice none 0 0) := by
    have h1 := (Bx.new w (.int .i64 0) (.int .i64 0) (.string ⟨#[]⟩) (.slice none 0 0) (.slice none 0 0)).keep (W' := w0) (by rw [hw0]; exact (Below.refl _ (zBox w)).alloc (Nat.le_refl _) _)
    exact h1
  have h0 := rd_start (N := w.heap.size) (by omega) hrd
  have hv := value_c _ _ w0 (w.heap.size + 1) s _ _ 0 h0 hl (hT.to hb0)
  have HB := Lib.hid (And.intro h0 (And.intro hb0 (And.intro hbx hs0)))
  rw [hw0] at hv
  clear h0 hb0 hbx hs0 hrd hz1 hb1
  go_enter Tryz.func39, Tryz.ntmps39
  go_wp2_with fail
  refine hv.mono ?_
  clear hv
  rintro e1 W1 (⟨rfl, hb, tg, hk⟩ | ⟨⟨v0, v1, v2, v3, v4⟩, tg, ov', es', x, t, d, rfl, hle, k1, k2, k3⟩)
  · have hlow := HB.out.1.low (hw0 ▸ hk)
    exact ⟨rfl, HB.out.2.1.trans hlow, .inl ⟨rfl, .inl hb⟩⟩
  · obtain ⟨l0, l1, l2, lp, la, lb, lq, lr, ld, rfl, rfl, rfl, rfl, rfl⟩ := holds_parts k3
    have c0 := k1.rd.cell0
    have c2 := k1.rd.cell2
    have hlt := k1.rd.lt
    have hW := fun W (hb : Below W1.heap.size W1 W) => And.intro (k1.keep hb).rd.cell0 (k1.keep hb).rd.cell2
    have HW := Lib.hid hW
    have HK := Lib.hid (And.intro hle (And.intro k1 (And.intro k2 k3)))
    clear hW hle k1 k2 k3
    cases t with
    | cons a t =>
      go_wp2_with fail
      refine (demand_no _ _).mono ?_
      rintro e2 W2 ⟨rfl, rfl⟩
      have hlow := (HB.out.1.low (hw0 ▸ HK.out.2.2.1)).alloc (Nat.le_trans HB.out.1.size (HK.out.2.2.1.size |> (hw0 ▸ ·))) (.cells #[.int .i64 l0, .int .i64 l1, .string l2, .slice lp la lb, .slice lq lr ld] 25)
      exact ⟨rfl, HB.out.2.1.trans hlow, .inl ⟨rfl, .inr ⟨x, _, d, HK.out.1, by simp⟩⟩⟩
    | nil =>
      go_wp2_with fail
      refine (demand_yes _ _).mono ?_
      rintro e2 W2 ⟨rfl, rfl⟩
      have hlow : Below w.heap.size w0 W1 := HB.out.1.low (hw0 ▸ HK.out.2.2.1)
      have hlo2 : w.heap.size ≤ W1.heap.size := Nat.le_trans HB.out.1.size hlow.size
      have hbz := HB.out.2.2.1.kp (hw0 ▸ HK.out.2.2.1) (by rw [if_neg (by omega)])
      have hbb := hbz.1.keep ((Below.refl _ W1).alloc (Nat.le_refl _) (.cells #[.int .i64 l0, .int .i64 l1, .string l2, .slice lp la lb, .slice lq lr ld] 25))
      obtain ⟨t0, t1, t2, t3, t4⟩ := hbb.froz
      obtain ⟨g0, g1, g2, g3, g4⟩ := hbb.five
      obtain ⟨y0, y1, y2, y3, y4⟩ := (Bx.new W1 (.int .i64 l0) (.int .i64 l1) (.string l2) (.slice lp la lb) (.slice lq lr ld)).five
      have HZ := Lib.hid hbz.2
      clear hbz hbb
      by_cases hd : (d : Int) ≤ 16
      · go_wp2_with fail
        refine (demand_yes _ _).mono ?_
        rintro e3 W3 ⟨rfl, rfl⟩
        go_wp2_with fail
        refine bodyPost_ret (v := .agg #[.int .i64 l0, .int .i64 l1, .string l2, .slice lp la lb, .slice lq lr ld]) (by simp [results, Tryz.results39, go_sem, g0, g1, g2, g3, g4]) rfl ?_
        have fin := fun Z hZ => whole_fin HB.out.2.1 HB.out.1 (hw0 ▸ HK.out.2.2.1) HZ.out HK.out.2.2.2 Z hZ
        obtain ⟨f1, f2⟩ := fin _ rfl
        exact ⟨f1, .inr (.inr ⟨(.int .i64 l0, .int .i64 l1, .string l2, .slice lp la lb, .slice lq lr ld), x, d, rfl, HK.out.1, by omega, f2⟩)⟩
      · go_wp2_with fail
        have hde : decide ((d : Int) ≤ 16) = false := decide_eq_false (by omega)
        rw [hde]
        refine (demand_no _ _).mono ?_
        rintro e3 W3 ⟨rfl, rfl⟩
        exact ⟨rfl, HB.out.2.1.trans (hlow.alloc hlo2 _), .inr (.inl ⟨rfl, x, d, HK.out.1, by omega⟩)⟩
end Go.Proofs.YtganmmkdcaphfaaGreatDoor.Rd

/-
  Contracts of Read's closure, of caught and of Read.
-/
namespace Go.Proofs.YtganmmkdcaphfaaGreatDoor.Rd
open Go.RowKit Go.Proofs.YtganmmkdcaphfaaGreatDoor.Oct Go.Proofs.YtganmmkdcaphfaaGreatDoor.Val

set_option maxHeartbeats 4000000 in
set_option maxRecDepth 100000 in
theorem read1_c (w : World) (sb : Nat) (s : List UInt8) (hs : w.cell? ⟨sb, 0, none⟩ = some (.string (S s))) (hlt : sb < w.heap.size) (hl : s.length ≤ 274877906944) (hT : TabN w.heap.size w) :
    Calls Tryz.prog 38 #[.pointer (some ⟨sb, 0, none⟩)] w (WholeTo w s) := by
  have hbz : Below w.heap.size w (zBox w) := (Below.refl _ w).alloc (Nat.le_refl _) _
  have hz1 : (zBox w).heap.size = w.heap.size + 1 := Array.size_push _
  have hw := whole_c (zBox w) s hl (fun X hX => hT X (hbz.trans (hX.mono (by omega))))
  have hs1 : (zBox w).cell? ⟨sb, 0, none⟩ = some (.string (S s)) := by rw [← hs]; exact hbz.cell hlt
  have HB := Lib.hid (And.intro hbz hz1)
  clear hbz hz1
  go_enter Tryz.func38, Tryz.ntmps38
  go_wp2_with fail
  refine hw.mono ?_
  clear hw
  rintro e1 W1 ⟨hb, (⟨rfl, h⟩ | ⟨rfl, h⟩ | ⟨⟨v0, v1, v2, v3, v4⟩, x, d, rfl, h1, h2, h3⟩)⟩
  · exact ⟨rfl, HB.out.1.trans (hb.mono (by rw [HB.out.2]; omega)), .inl ⟨rfl, h⟩⟩
  · exact ⟨rfl, HB.out.1.trans (hb.mono (by rw [HB.out.2]; omega)), .inr (.inl ⟨rfl, h⟩)⟩
  · obtain ⟨l0, l1, l2, lp, la, lb, lq, lr, ld, rfl, rfl, rfl, rfl, rfl⟩ := holds_parts h3
    have hbx : Bx W1 w.heap.size (.int .i64 0) (.int .i64 0) (.string ⟨#[]⟩) (.slice none 0 0) (.slice none 0 0) := by
      unfold Bx
      rw [hb.block w.heap.size (by rw [HB.out.2]; omega)]
      exact Bx.new w (.int .i64 0) (.int .i64 0) (.string ⟨#[]⟩) (.slice none 0 0) (.slice none 0 0)
    obtain ⟨t0, t1, t2, t3, t4⟩ := hbx.froz
    obtain ⟨g0, g1, g2, g3, g4⟩ := hbx.five
    have fin : Hid (∀ Z, Z = st5 W1 w.heap.size (.int .i64 l0) (.int .i64 l1) (.string l2) (.slice lp la lb) (.slice lq lr ld) → Below w.heap.size w Z ∧ Holds (Mine w.heap.size Z) Z (.agg #[.int .i64 l0, .int .i64 l1, .string l2, .slice lp la lb, .slice lq lr ld]) x) := by
      intro Z hZ
      rw [HB.out.2] at h3
      have key : ∀ b, b ≠ w.heap.size → Z.heap[b]? = W1.heap[b]? := fun b hb => by rw [hZ, st5_other _ _ _ _ _ _ hb]
      refine ⟨?_, h3.frame (fun _ b _ _ hd => key b (by have := hd.1; omega)) fun t b off n hd => ?_⟩
      · rw [hZ]
        exact st5_below (HB.out.1.trans (hb.mono (by rw [HB.out.2]; omega))) (Nat.le_refl _) _ _ _ _ _
      · obtain ⟨h5, h6, cur, h7⟩ := hd
        exact ⟨by omega, h6, cur, by rw [key b (by omega)]; exact h7⟩
    have H1 := Lib.hid (And.intro h1 h2)
    clear h1 h2 h3 hb hbx hs
    go_wp2_with fail
    refine bodyPost_ret (v := .agg #[.int .i64 l0, .int .i64 l1, .string l2, .slice lp la lb, .slice lq lr ld]) (by simp [results, Tryz.results38, go_sem, g0, g1, g2, g3, g4]) rfl ?_
    have hf := fin.out
    obtain ⟨f1, f2⟩ := hf _ rfl
    exact ⟨f1, .inr (.inr ⟨(.int .i64 l0, .int .i64 l1, .string l2, .slice lp la lb, .slice lq lr ld), x, d, rfl, H1.out.1, H1.out.2, f2⟩)⟩

end Go.Proofs.YtganmmkdcaphfaaGreatDoor.Rd
