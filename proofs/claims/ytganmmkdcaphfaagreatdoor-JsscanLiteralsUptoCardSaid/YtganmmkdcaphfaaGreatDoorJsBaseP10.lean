/-
  Part 10: RdEnd, RdKey.
-/
import Derived.Test.YtganmmkdcaphfaaGreatDoorJsBaseP6
import Derived.Test.YtganmmkdcaphfaaGreatDoorJsBaseP9
import Derived.StillTailTactics
/-
  Contract of the reader's end.
-/
namespace Go.Proofs.YtganmmkdcaphfaaGreatDoor.Rd
open Go.RowKit Go.Proofs.YtganmmkdcaphfaaGreatDoor.Oct Go.Proofs.YtganmmkdcaphfaaGreatDoor.Val

/-- The marks behind an end: what the innermost one owned is a value's memory from now on. -/
def popT (tag : Nat → Nat) (m : Nat) : Nat → Nat := fun b => if tag b = 4 + 2 * m ∨ tag b = 5 + 2 * m then 0 else tag b
theorem popT_low {tag : Nat → Nat} {m b : Nat} (h : tag b ≠ 4 + 2 * m) (h' : tag b ≠ 5 + 2 * m) : popT tag m b = tag b := by unfold popT; rw [if_neg (by omega)]

theorem own_cut {W : World} {N m n g cap : Nat} {es : List E5} (hm : m ≤ n) (hlen : es.length = n) (h : W.ownsRow N 25 5 (.slice (some ⟨g, 0, none⟩) n cap) n (flat es)) :
    W.ownsRow N 25 5 (.slice (some ⟨g, 0, none⟩) m cap) m (flat (es.take m)) := by
  refine ⟨by rw [flat_len, List.length_take]; omega, ?_⟩
  rcases h.2 with ⟨h1, _⟩ | ⟨g2, cap2, cur, hv, hb, hh, hnc, hcm, hcs, htk⟩
  · cases h1
  · injection hv with h1 h2 h3
    injection h1 with h1
    injection h1 with h1
    subst h1; subst h3
    refine .inr ⟨g, cap, cur, rfl, hb, hh, by omega, hcm, hcs, ?_⟩
    rw [← flat_take es m (by omega), ← htk, List.take_take, Nat.min_eq_left (by omega)]

theorem pop_done {N : Nat} {tag : Nat → Nat} {W Z : World} {R : Nat} {s : List UInt8} {fs : List Fr} {f : Fr} {deep : Nat} {ov : Value} {es : List E5} (h : RdAt N tag W R s (fs ++ [f]) deep ov es)
    {g0 cap0 : Nat} (hov : ov = .slice (some ⟨g0, 0, none⟩) (fs ++ [f]).length cap0) (hR : Rd R (S s) (.slice (some ⟨g0, 0, none⟩) fs.length cap0) (.int .i64 deep) Z) (hs : Save R W Z)
    (hxs : f.xs.length * 80 ≤ 140737488351232) (hks : f.ks.length * 16 ≤ 140737488351232) :
    (∃ es', RdAt N (popT tag fs.length) Z R s fs deep (.slice (some ⟨g0, 0, none⟩) fs.length cap0) es') ∧ Kp tag (popT tag fs.length) W Z ∧ ∀ h', Holds (Dn N (popT tag fs.length) Z) Z (agg5 (es[fs.length]'h')) f.val := by
  have hlen : es.length = fs.length + 1 := by rw [h.len]; simp
  have hfl : (fs ++ [f]).length = fs.length + 1 := by simp
  have hblk : ∀ b, b < W.heap.size → tag b ≠ 2 → Z.heap[b]? = W.heap[b]? := fun b hb ht => hs.block b hb (fun e => ht (by rw [e]; exact h.rmark))
  refine ⟨⟨es.take fs.length, ?_⟩, ?_, fun h' => ?_⟩
  · refine ⟨hR, ?_, by rw [List.length_take]; omega, ?_, ?_, ?_, ?_, Nat.le_trans h.size hs.size⟩
    · have := own_cut (m := fs.length) (by omega) (by rw [h.len]) (hov ▸ h.own)
      exact own_at this fun k hk => hblk k (own_lt this hk).2 (by rw [h.omark k (by rw [hov]; exact hk)]; omega)
    · intro i h1 h2
      rw [List.length_take] at h1
      obtain ⟨L, K, ys, hf⟩ := h.frs i (by omega) (by omega)
      have e1 : (es.take fs.length)[i]'(by rw [List.length_take]; exact h1) = es[i]'(by omega) := by simp
      have e2 : (fs ++ [f])[i]'(by omega) = fs[i] := List.getElem_append_left h2
      rw [e2] at hf
      rw [e1]
      exact ⟨L, K, ys, hf.frame fun b hb ht => ⟨hblk b hb (by omega), popT_low (by omega) (by omega)⟩⟩
    · rw [popT_low (by rw [h.rmark]; omega) (by rw [h.rmark]; omega)]; exact h.rmark
    · intro b hb
      have := h.omark b (by rw [hov]; exact hb)
      rw [popT_low (by omega) (by omega)]; exact this
    · intro b hb
      have := h.out b (by have := hs.size; omega)
      rw [popT_low (by omega) (by omega)]; exact this
  · exact ⟨hs.os, hs.tape, hs.output, hs.size, fun b hb ht => ⟨hblk b hb (by omega), popT_low (by omega) (by omega)⟩⟩
  · obtain ⟨L, K, ys, hf⟩ := h.frs fs.length (by omega) (by omega)
    have e2 : (fs ++ [f])[fs.length]'(by omega) = f := by simp
    rw [e2] at hf
    refine fr_holds hf (fun b hb ht => ⟨hblk b hb (by omega), ?_⟩) hxs hks
    unfold popT
    split
    · rfl
    · omega

/-- The sign that ends one of that Kind. -/
def endL (k : Int) : List UInt8 := if k = 6 then [125] else [93]

/-- What end leaves. -/
def EndsTo (N : Nat) (tag : Nat → Nat) (w : World) (R : Nat) (s : List UInt8) (fs : List Fr) (f : Fr) (deep : Nat) (en : Ending) (w' : World) : Prop :=
  if Lib.hasPrefix s (endL f.kind) then ∃ e tag' ov' es', en = .returned (agg5 e) ∧ RdAt N tag' w' R (s.drop 1) fs deep ov' es' ∧ Kp tag tag' w w' ∧ Holds (Dn N tag' w') w' (agg5 e) f.val
  else en = Fault 33 ∧ Kp tag tag w w'

theorem Kp.own {tag tag' : Nat → Nat} {w W W' : World} (h : Kp tag tag' w W) (k : Below w.heap.size W W') : Kp tag tag' w W' :=
  ⟨k.os.trans h.os, k.tape.trans h.tape, k.output.trans h.output, Nat.le_trans h.size k.size, fun b hb ht => ⟨(k.block b hb).trans (h.block b hb ht).1, (h.block b hb ht).2⟩⟩

abbrev zBox (w : World) : World := w.alloc (.cells #[.int .i64 0, .int .i64 0, .string ⟨#[]⟩, .slice none 0 0, .slice none 0 0] 25)

theorem end_chain {N : Nat} {tag : Nat → Nat} {w W2 : World} {R : Nat} {s : List UInt8} {fs : List Fr} {deep : Nat} {ov : Value} {es : List E5} (h : RdAt N tag w R s fs deep ov es) (h2 : Below (zBox w).heap.size (zBox w) W2) (v0 v1 v2 v3 v4 : Value) :
    RdAt N tag (W2.alloc (.cells #[v0, v1, v2, v3, v4] 25)) R s fs deep ov es ∧ Bx (W2.alloc (.cells #[v0, v1, v2, v3, v4] 25)) w.heap.size (.int .i64 0) (.int .i64 0) (.string ⟨#[]⟩) (.slice none 0 0) (.slice none 0 0) ∧
    Bx (W2.alloc (.cells #[v0, v1, v2, v3, v4] 25)) W2.heap.size v0 v1 v2 v3 v4 ∧ Below w.heap.size w (W2.alloc (.cells #[v0, v1, v2, v3, v4] 25)) ∧ w.heap.size ≠ R ∧ W2.heap.size ≠ R ∧ tag w.heap.size = 1 ∧ w.heap.size ≠ W2.heap.size := by
  have hz : (zBox w).heap.size = w.heap.size + 1 := by simp
  have b1 : Below w.heap.size w (zBox w) := (Below.refl _ w).alloc (Nat.le_refl _) _
  have b2 : Below (zBox w).heap.size (zBox w) (W2.alloc (.cells #[v0, v1, v2, v3, v4] 25)) := h2.alloc h2.size _
  have hs := h2.size
  have hl := h.rd.lt
  refine ⟨(h.keep b1).keep b2, (Bx.new w _ _ _ _ _).keep b2, Bx.new W2 _ _ _ _ _, b1.trans (b2.mono (by omega)), by omega, by omega, h.out _ (.inr (Nat.le_refl _)), by omega⟩

theorem Rd.set1 {R : Nat} {s : ByteArray} {ov dv : Value} {w : World} (h : Rd R s ov dv w) (v : Value) : Rd R s v dv (w.setCell ⟨R, 1, none⟩ v) := by
  have e := heap_setCell_same w R 1 _ _ v h
  exact e

theorem end_fin {N : Nat} {tag : Nat → Nat} {w W5 : World} {R : Nat} {s : List UInt8} {fs : List Fr} {f : Fr} {deep : Nat} {ov : Value} {es : List E5} (h : RdAt N tag W5 R s (fs ++ [f]) deep ov es)
    {g0 cap0 : Nat} (hov : ov = .slice (some ⟨g0, 0, none⟩) (fs ++ [f]).length cap0) (hkw : Kp tag tag w W5) (hxs : f.xs.length * 80 ≤ 140737488351232) (hks : f.ks.length * 16 ≤ 140737488351232) {e : E5} (he : ∀ h', es[fs.length]'h' = e) {q : Nat} (hq : tag q = 1) (hqw : w.heap.size ≤ q)
    (v0 v1 v2 v3 v4 : Value) (Z : World) (hZ : Z = (st5 (W5.setCell ⟨R, 1, none⟩ (.slice (some ⟨g0, 0, none⟩) fs.length cap0)) q v0 v1 v2 v3 v4).drew) :
    ∃ tag' ov' es', RdAt N tag' Z R s fs deep ov' es' ∧ Kp tag tag' w Z ∧ Holds (Dn N tag' Z) Z (agg5 e) f.val := by
  subst hZ
  obtain ⟨⟨es', h1⟩, h2, h3⟩ := pop_done h hov (h.rd.set1 _) (Save.setR W5 _) hxs hks
  have hlen : fs.length < es.length := by rw [h.len]; simp
  have h3 := h3 hlen
  rw [he hlen] at h3
  have hq' : popT tag fs.length q = 1 := by rw [popT_low (by omega) (by omega)]; exact hq
  have a1 := h1.st5 hq' v0 v1 v2 v3 v4
  have a2 := (hkw.trans h2).own (st5_below (Below.refl _ (W5.setCell ⟨R, 1, none⟩ (.slice (some ⟨g0, 0, none⟩) fs.length cap0))) hqw v0 v1 v2 v3 v4)
  have a3 := holds_dn (tag' := popT tag fs.length) h3 (fun b hb h0 => st5_other _ v0 v1 v2 v3 v4 (fun e => by rw [e, hq'] at h0; cases h0)) (fun _ _ h => h)
  generalize st5 (W5.setCell ⟨R, 1, none⟩ (.slice (some ⟨g0, 0, none⟩) fs.length cap0)) q v0 v1 v2 v3 v4 = X at a1 a2 a3 ⊢
  exact ⟨popT tag fs.length, _, es', a1.keep (Below.refl _ X).drew, a2.own (Below.refl _ X).drew, holds_dn a3 (fun _ _ _ => rfl) (fun _ _ h => h)⟩

set_option maxHeartbeats 4000000 in
set_option maxRecDepth 100000 in
theorem end_c (N : Nat) (tag : Nat → Nat) (w : World) (R : Nat) (s : List UInt8) (fs : List Fr) (f : Fr) (deep : Nat) (ov : Value) (es : List E5) (h : RdAt N tag w R s (fs ++ [f]) deep ov es)
    (hn : f.xs.length ≤ 1099511627776) (hk : f.ks.length ≤ 1099511627776) (hm : fs.length + 1 ≤ 1099511627776) :
    Calls Tryz.prog 64 #[.pointer (some ⟨R, 0, none⟩)] w (EndsTo N tag w R s fs f deep) := by
  obtain ⟨g0, cap0, hov, hg3⟩ := h.row (by simp)
  have hlen : es.length = fs.length + 1 := by rw [h.len]; simp
  have hfl : (fs ++ [f]).length = fs.length + 1 := by simp
  obtain ⟨L, K, ys, hf⟩ := h.frs fs.length (by omega) (by omega)
  have hfi : (fs ++ [f])[fs.length]'(by omega) = f := by simp
  rw [hfi] at hf
  obtain ⟨lp, lc, hL⟩ := own_slice hf.rows
  obtain ⟨kp, kc, hK⟩ := own_slice hf.keys
  have hcap : fs.length + 1 ≤ cap0 := by
    rcases h.own.2 with ⟨h1, _⟩ | ⟨g, cap, cur, hv, _, _, hnc, _⟩
    · rw [hov] at h1; cases h1
    · rw [hov] at hv
      injection hv with _ _ h3
      omega
  obtain ⟨w1, hw1⟩ : ∃ w1, w1 = w.alloc (.cells #[.int .i64 0, .int .i64 0, .string ⟨#[]⟩, .slice none 0 0, .slice none 0 0] 25) := ⟨_, rfl⟩
  have hb1 : Below w.heap.size w w1 := by rw [hw1]; exact (Below.refl _ w).alloc (Nat.le_refl _) _
  have h1 := h.keep hb1
  have hbx : Bx w1 w.heap.size (.int .i64 0) (.int .i64 0) (.string ⟨#[]⟩) (.slice none 0 0) (.slice none 0 0) := by rw [hw1]; exact Bx.new _ _ _ _ _ _
  have hi := innermost_c R g0 fs.length cap0 (S s) (.int .i64 deep) w1 (by omega) (by have := h1.rd; rw [hov, hfl] at this; exact this)
  have key : Hid (∀ W, Below w1.heap.size w1 W → Bx W w.heap.size (.int .i64 0) (.int .i64 0) (.string ⟨#[]⟩) (.slice none 0 0) (.slice none 0 0) ∧ RdAt N tag W R s (fs ++ [f]) deep ov es ∧
      W.cell? ⟨g0, fs.length * 5, none⟩ = some (.int .i64 f.kind) ∧ W.cell? ⟨g0, fs.length * 5 + 1, none⟩ = some (.int .i64 0) ∧ W.cell? ⟨g0, fs.length * 5 + 2, none⟩ = some (.string ⟨#[]⟩) ∧ W.cell? ⟨g0, fs.length * 5 + 3, none⟩ = some (.slice lp f.xs.length lc) ∧ W.cell? ⟨g0, fs.length * 5 + 4, none⟩ = some (.slice kp f.ks.length kc)) := fun W hb => by
    have hW := h1.keep hb
    have sl : ∀ i, i < 5 → W.cell? ⟨g0, fs.length * 5 + i, none⟩ = (cells5 es[fs.length])[i]? := fun i hi => slot_at (es := es) (m := fs.length) (by omega) hi hW.own (by rw [hov]; rfl) (by rw [hlen, hfl]) ⟨cap0, hov⟩
    rw [hf.e, hL, hK] at sl
    exact ⟨hbx.keep hb, hW, sl 0 (by omega), sl 1 (by omega), sl 2 (by omega), sl 3 (by omega), sl 4 (by omega)⟩
  have hkd := hf.kind
  obtain ⟨kd, hkE⟩ : ∃ kd, kd = f.kind := ⟨_, rfl⟩
  have HE : Hid (agg5 es[fs.length] = .agg #[.int .i64 kd, .int .i64 0, .string ⟨#[]⟩, .slice lp f.xs.length lc, .slice kp f.ks.length kc]) := by
    show _ = _
    rw [hf.e, hL, hK, hkE]
  have hen := fun W => ending_c kd W
  have hM := Lib.hid (fun W (hr : Rd R (S s) ov (.int .i64 deep) W) => must_c R (S s) (S (endL kd)) ov (.int .i64 deep) W hr)
  simp only at hM
  have hel : (endL kd).length = 1 := by unfold endL; split <;> rfl
  unfold mustP at hM
  rw [hel] at hM
  change ∀ W, Calls Tryz.prog 72 #[.int .i64 kd] W fun e w' => e = .returned (.string (S (endL kd))) ∧ w' = W at hen
  rw [← hkE] at key
  rw [hw1] at hi key
  have HB := Lib.hid (And.intro h (And.intro hb1 hov))
  rw [hw1] at HB
  unfold EndsTo
  rw [← hkE]
  have HKE := Lib.hid hkE
  clear hb1 hbx h1 hw1 hf h hkE
  cases hp : Lib.hasPrefix s (endL kd) with
  | false =>
    rw [hp] at hM
    simp only [Bool.false_eq_true, if_false] at hM ⊢
    go_enter Tryz.func64, Tryz.ntmps64
    go_wp2_with (first
      | (go_at_call 69; refine hi.mono ?_; rintro e2 W2 ⟨rfl, h2⟩; obtain ⟨m1, m2, x0, x1, x2, x3, x4⟩ := key.out W2 h2; have H2 := Lib.hid (And.intro h2 (And.intro m1 m2)); clear h2 m1 m2)
      | (go_at_call 72; refine (hen _).mono ?_; rintro e3 W3 ⟨rfl, rfl⟩)
      | (go_at_call 71; obtain ⟨k1, k2, k3, k4, k5, k6, k7, k8⟩ := end_chain HB.out.1 H2.out.1 (.int .i64 kd) (.int .i64 0) (.string ⟨#[]⟩) (.slice lp f.xs.length lc) (.slice kp f.ks.length kc); refine (hM _ k1.rd).mono ?_; rintro e4 W4 ⟨rfl, h4⟩; have H4 := Lib.hid (And.intro h4 (And.intro k1 k4)); clear h4 k1 k2 k3 k4))
    exact ⟨rfl, rfl, (Kp.of H4.out.2.2).trans (Kp.save H4.out.2.1.rmark H4.out.1)⟩
  | true =>
    rw [hp] at hM
    simp only [if_true] at hM ⊢
    have hcm : (fs.length : Int) ≤ (cap0 : Int) := by omega
    have hc0 : (0 : Int) ≤ (fs.length : Int) := by omega
    have hcw : IntKind.i64.wrap ((fs.length : Int) + 1 - 1) = (fs.length : Int) := by rw [IntKind.wrap_i64]; omega
    go_enter Tryz.func64, Tryz.ntmps64
    go_wp2_with (first
      | (go_at_call 69; refine hi.mono ?_; rintro e2 W2 ⟨rfl, h2⟩; obtain ⟨m1, m2, x0, x1, x2, x3, x4⟩ := key.out W2 h2; have H2 := Lib.hid (And.intro h2 (And.intro m1 m2)); clear h2 m1 m2)
      | (go_at_call 72; refine (hen _).mono ?_; rintro e3 W3 ⟨rfl, rfl⟩)
      | (go_at_call 71; obtain ⟨k1, k2, k3, k4, k5, k6, k7, k8⟩ := end_chain HB.out.1 H2.out.1 (.int .i64 kd) (.int .i64 0) (.string ⟨#[]⟩) (.slice lp f.xs.length lc) (.slice kp f.ks.length kc); refine (hM _ k1.rd).mono ?_; rintro e4 W4 ⟨rfl, h4, h5⟩; have r4 := k1.read h4 h5; have c1 := h4.cell1; have z1 := h4.frozen 1; have b3 := k2.save h5 k5; have b4 := k3.save h5 k6; obtain ⟨x0, x1, x2, x3, x4⟩ := b4.five; obtain ⟨y0, y1, y2, y3, y4⟩ := b3.five; obtain ⟨t0, t1, t2, t3, t4⟩ := b3.froz; have H4 := Lib.hid (And.intro r4 (And.intro h5 (And.intro k1 (And.intro k4 k7)))); have k5' := Ne.symm k5; have k6' := Ne.symm k6; clear h4 h5 k1 k2 k3 k4 r4 b3 b4))
    rw [HB.out.2.2, hfl] at c1
    go_region
    go_wp2_with fail
    refine bodyPost_ret (v := .agg #[.int .i64 kd, .int .i64 0, .string ⟨#[]⟩, .slice lp f.xs.length lc, .slice kp f.ks.length kc]) (by simp [results, Tryz.results64, go_sem, y0, y1, y2, y3, y4]) rfl ?_
    have hE := HE.out
    have hfin := fun Z hZ => end_fin H4.out.1 HB.out.2.2 ((Kp.of H4.out.2.2.2.1).trans (Kp.save H4.out.2.2.1.rmark H4.out.2.1)) (by omega) (by omega) (e := es[fs.length]) (fun _ => rfl) H4.out.2.2.2.2 (Nat.le_refl _) (.int .i64 kd) (.int .i64 0) (.string ⟨#[]⟩) (.slice lp f.xs.length lc) (.slice kp f.ks.length kc) Z hZ
    rw [hE] at hfin
    obtain ⟨tag', ov', es', f1, f2, f3⟩ := hfin _ rfl
    exact ⟨(.int .i64 kd, .int .i64 0, .string ⟨#[]⟩, .slice lp f.xs.length lc, .slice kp f.ks.length kc), tag', ov', es', rfl, f1, f2, f3⟩
end Go.Proofs.YtganmmkdcaphfaaGreatDoor.Rd

/-
  Contract of the reader's putKey.
-/
namespace Go.Proofs.YtganmmkdcaphfaaGreatDoor.Rd
open Go.RowKit Go.Proofs.YtganmmkdcaphfaaGreatDoor.Oct Go.Proofs.YtganmmkdcaphfaaGreatDoor.Val

theorem key_done {N : Nat} {tag : Nat → Nat} {w W wB Z : World} {R : Nat} {s : List UInt8} {fs : List Fr} {f : Fr} {deep : Nat} {ov : Value} {es : List E5} (hkw : Kp tag tag w W) (h : RdAt N tag W R s (fs ++ [f]) deep ov es)
    {g0 cap0 : Nat} (hov : ov = .slice (some ⟨g0, 0, none⟩) (fs ++ [f]).length cap0) {L K : Value} {ys : List E5} {e : E5} (hf : FrAt N tag W fs.length f e L K ys) (he : ∀ h', es[fs.length]'h' = e) {key : ByteArray} (hkey : key.size ≤ 140737488351232) {o : Obj} {g cap : Nat}
    (hown : wB.ownsRow N 9 1 (.slice (some ⟨g, 0, none⟩) (f.ks.length + 1) cap) (f.ks.length + 1) (f.ks.map Value.string ++ [.string key]))
    (hg : (W.alloc o).grownBy wB K.ownBlock) (hat : K.ownBlock = some g ∨ g = W.heap.size + 1) (hlt : g < wB.heap.size)
    (hZ : Z = wB.setCell ⟨g0, fs.length * 5 + 4, none⟩ (.slice (some ⟨g, 0, none⟩) (f.ks.length + 1) cap)) :
    ∃ tag' ov' es', RdAt N tag' Z R s (fs ++ [{ f with ks := f.ks ++ [key] }]) deep ov' es' ∧ Kp tag tag' w Z := by
  have hg3 := h.omark g0 (by rw [hov]; rfl)
  have hg0 : g0 < W.heap.size := (own_lt h.own (r := g0) (by rw [hov]; rfl)).2
  have hsz : W.heap.size + 1 ≤ wB.heap.size := by have := hg.size; simp at this; exact this
  have hgm : W.heap.size ≤ g ∨ tag g = 5 + 2 * fs.length := by
    rcases hat with h1 | h1
    · exact .inr (hf.kmark _ h1)
    · exact .inl (by omega)
  have hgN : N ≤ g := by
    rcases hat with h1 | h1
    · exact (own_lt hf.keys h1).1
    · have := h.size; omega
  have hne : ∀ b, b < W.heap.size → tag b ≠ 5 + 2 * fs.length → b ≠ g := fun b hb ht e => by
    subst e
    rcases hgm with h1 | h1
    · omega
    · exact ht h1
  have hgg : g ≠ g0 := fun e => hne g0 hg0 (by omega) e.symm
  have hZb : ∀ b, b ≠ g0 → Z.heap[b]? = wB.heap[b]? := fun b hb => by rw [hZ]; exact heap_setCell_other _ _ _ _ (by simpa using hb)
  have hwb : ∀ b, b < W.heap.size → tag b ≠ 5 + 2 * fs.length → wB.heap[b]? = W.heap[b]? := fun b hb h4 => by
    rw [hg.block b (by simp; omega) (fun e => h4 (hf.kmark b e.symm)), Go.heap_alloc_old _ _ hb]
  have hW : ∀ b, b < W.heap.size → tag b ≠ 5 + 2 * fs.length → tag b ≠ 3 → Z.heap[b]? = W.heap[b]? := fun b hb h4 h3 => by
    rw [hZb b (fun e => h3 (by rw [e]; exact hg3)), hwb b hb h4]
  have hfr := set_frame wB ⟨g0, fs.length * 5 + 4, none⟩ (.slice (some ⟨g, 0, none⟩) (f.ks.length + 1) cap)
  rw [← hZ] at hfr
  have hT : ∀ b, b < W.heap.size → tag b ≠ 5 + 2 * fs.length → (if b = g then 5 + 2 * fs.length else tag b) = tag b := fun b hb h4 => if_neg (hne b hb h4)
  have hlen : es.length = fs.length + 1 := by rw [h.len]; simp
  have hd : ∀ v y, Holds (Dn N tag W) W v y → Holds (Dn N (fun b => if b = g then 5 + 2 * fs.length else tag b) Z) Z v y := fun v y hv =>
    holds_dn hv (fun b hb h0 => hW b hb (by omega) (by omega)) (fun b hb h0 => by rw [hT b hb (by omega)]; exact h0)
  have hZ0 : Z.ownsRow N 25 5 ov (fs ++ [f]).length (flat (es.set fs.length (.int .i64 f.kind, .int .i64 0, .string ⟨#[]⟩, L, .slice (some ⟨g, 0, none⟩) (f.ks.length + 1) cap))) := by
    have hown0 : wB.ownsRow N 25 5 ov (fs ++ [f]).length (flat es) := own_at h.own fun k hk => by
      rw [hov] at hk
      have : k = g0 := by injection hk with hk; exact hk.symm
      rw [this]; exact hwb g0 hg0 (by omega)
    have hm : fs.length < es.length := by omega
    have e1 := slot_set (es := es) (m := fs.length) (i := 4) hm (by omega) (.slice (some ⟨g, 0, none⟩) (f.ks.length + 1) cap)
    simp only [he hm, hf.e] at e1
    rw [hZ, ← e1]
    rw [hov] at hown0 ⊢
    exact (hown0.stored _ _).1
  have hZg : Z.ownsRow N 9 1 (.slice (some ⟨g, 0, none⟩) (f.ks.length + 1) cap) (f.ks.length + 1) (f.ks.map Value.string ++ [.string key]) := own_at hown fun k hk => by
    have : k = g := by injection hk with hk; exact hk.symm
    rw [this]; exact hZb g hgg
  refine ⟨fun b => if b = g then 5 + 2 * fs.length else tag b, ov, es.set fs.length (.int .i64 f.kind, .int .i64 0, .string ⟨#[]⟩, L, .slice (some ⟨g, 0, none⟩) (f.ks.length + 1) cap), ?_, ?_⟩
  · refine ⟨?_, ?_, ?_, ?_, ?_, ?_, ?_, ?_⟩
    · unfold Rd; rw [hW R h.rd.lt (by rw [h.rmark]; omega) (by rw [h.rmark]; omega)]; exact h.rd
    · have e1 : (fs ++ [{ f with ks := f.ks ++ [key] }]).length = (fs ++ [f]).length := by simp
      rw [e1]; exact hZ0
    · simp [hlen]
    · intro i h1 h2
      rcases Nat.lt_or_ge i fs.length with hi | hi
      · have e1 : (es.set fs.length (Value.int .i64 f.kind, Value.int .i64 0, Value.string ⟨#[]⟩, L, Value.slice (some ⟨g, 0, none⟩) (f.ks.length + 1) cap))[i]'h1 = es[i]'(by omega) := by rw [List.getElem_set_ne (by omega)]
        have e2 : (fs ++ [{ f with ks := f.ks ++ [key] }])[i]'h2 = (fs ++ [f])[i]'(by simp; omega) := by rw [List.getElem_append_left hi, List.getElem_append_left hi]
        obtain ⟨L2, K2, ys2, hf2⟩ := h.frs i (by omega) (by simp; omega)
        rw [e1, e2]
        exact ⟨L2, K2, ys2, hf2.frame fun b hb ht => ⟨hW b hb (by omega) (by omega), hT b hb (by omega)⟩⟩
      · have hie : i = fs.length := by simp at h2; omega
        subst hie
        have e1 : (es.set fs.length (Value.int .i64 f.kind, Value.int .i64 0, Value.string ⟨#[]⟩, L, Value.slice (some ⟨g, 0, none⟩) (f.ks.length + 1) cap))[fs.length]'h1 = (Value.int .i64 f.kind, Value.int .i64 0, Value.string ⟨#[]⟩, L, Value.slice (some ⟨g, 0, none⟩) (f.ks.length + 1) cap) := by simp
        have e2 : (fs ++ [{ f with ks := f.ks ++ [key] }])[fs.length]'h2 = { f with ks := f.ks ++ [key] } := by simp
        rw [e1, e2]
        refine ⟨L, _, ys, ⟨rfl, hf.kind, ?_, hf.len, fun j j1 j2 => hd _ _ (hf.vals j j1 j2), ?_, ?_, ?_, ?_⟩⟩
        · exact own_at hf.rows fun k hk => hW k (own_lt hf.rows hk).2 (by rw [hf.mark k hk]; omega) (by rw [hf.mark k hk]; omega)
        · intro b hb
          rw [hT b (own_lt hf.rows hb).2 (by rw [hf.mark b hb]; omega)]
          exact hf.mark b hb
        · have e3 : (f.ks ++ [key]).length = f.ks.length + 1 := by simp
          rw [e3]
          show Z.ownsRow N _ 1 _ _ ((f.ks ++ [key]).map Value.string)
          rw [List.map_append]
          exact hZg
        · intro b hb
          injection hb with hb
          have hb' : b = g := hb.symm
          rw [hb', if_pos rfl]
        · intro t ht
          rcases List.mem_append.1 ht with h1 | h1
          · exact hf.small t h1
          · rw [List.mem_singleton.1 h1]; exact hkey
    · rw [hT R h.rd.lt (by rw [h.rmark]; omega)]; exact h.rmark
    · intro b hb
      rw [hT b (own_lt h.own hb).2 (by rw [h.omark b hb]; omega)]
      exact h.omark b hb
    · intro b hb
      have hs := hfr.1
      have hbg : b ≠ g := by rintro rfl; omega
      show (if b = g then _ else _) = 1
      rw [if_neg hbg]
      exact h.out b (by omega)
    · have := h.size; have := hfr.1; omega
  · have hk2 : Kp tag (fun b => if b = g then 5 + 2 * fs.length else tag b) W Z := ⟨hfr.2.1.trans hg.os, hfr.2.2.1.trans hg.tape, hfr.2.2.2.trans hg.output, by have := hfr.1; omega, fun b hb ht => ⟨hW b hb (by omega) (by omega), hT b hb (by omega)⟩⟩
    exact hkw.trans hk2

/-- What putKey leaves. -/
def KeyTo (N : Nat) (tag : Nat → Nat) (w : World) (R : Nat) (s : List UInt8) (fs : List Fr) (f : Fr) (deep : Nat) (key : ByteArray) (en : Ending) (w' : World) : Prop :=
  if f.kind = 6 ∧ f.ks.length = f.xs.length then en = .returned (.tuple #[]) ∧ ∃ tag' ov' es', RdAt N tag' w' R s (fs ++ [{ f with ks := f.ks ++ [key] }]) deep ov' es' ∧ Kp tag tag' w w'
  else en = Fault 33 ∧ Kp tag tag w w'

theorem key_none (N : Nat) (tag : Nat → Nat) (w : World) (R : Nat) (s : List UInt8) (deep : Nat) (ov : Value) (es : List E5) (h : RdAt N tag w R s [] deep ov es) (key : ByteArray) :
    Calls Tryz.prog 74 #[.pointer (some ⟨R, 0, none⟩), .string key] w fun en w' => en = Fault 33 ∧ Kp tag tag w w' := by
  obtain ⟨p, c, hov⟩ := own_slice h.own
  have c1 := h.rd.cell1
  rw [hov] at c1
  simp only [List.length_nil] at c1
  clear h hov
  go_enter Tryz.func74, Tryz.ntmps74
  go_wp2_with (go_at_call 57; refine (demand_no _ _).mono ?_; rintro e w2 ⟨rfl, rfl⟩)
  exact ⟨rfl, rfl, Kp.refl _ _⟩
end Go.Proofs.YtganmmkdcaphfaaGreatDoor.Rd
