/-
  Part 16: UtfRepair, TlText, TlMade.
-/
import Derived.Test.YtganmmkdcaphfaaGreatDoorJsBaseP15
import Derived.Maps.AppendAt
import Derived.Test.YtganmmkdcaphfaaGreatDoorJsBaseP9
import Derived.Lib.RuneCountTail
import Derived.Lib.OthersKept
/-
  Contracts of utf.Repair and utf.Chars.
-/
namespace Go.Proofs.YtganmmkdcaphfaaGreatDoor.Utf
open Go.RowKit Go.Proofs.YtganmmkdcaphfaaGreatDoor.Oct Go.Proofs.YtganmmkdcaphfaaGreatDoor.Mem
open Go.Lib (encodeRune)

/-! ### Repair -/
theorem enter_repair1 : ∀ args w, (callFunc 129 args).run Tryz.prog w = .ok (.enter 129 args) w := enters_of Tryz.func129 (by kernel_rfl) rfl

/-- Another box than the slice's, of another type than its cells, lies as it lay. -/
theorem other_box {W w1 : World} {n₀ B k : Nat} {t e : TypeId} {v v' u : Value} {n size : Nat} {xs : List Value} {tmp : Obj} (h : Boxed W k t u) (hte : t ≠ e) (hkB : k ≠ B) (hrow : W.ownsRow n₀ e size v n xs) (hgrow : (W.alloc tmp).grownBy w1 v.ownBlock) :
    Boxed (w1.setCell ⟨B, 0, none⟩ v') k t u := ((h.alloc tmp).kept hgrow (h.not_row hte hrow)).other hkB _

set_option maxHeartbeats 1000000 in
theorem repair1_c (c : Int) (hc0 : 0 ≤ c) (hc1 : c ≤ 1114111) (base b n : Nat) (v : Value) (l : List UInt8) (W : World) (hb : Boxed W b 44 v) (hrow : W.ownsRow base 5 1 v n (l.map bv)) (hn : n + 4 ≤ 140737488355328) (hbase : base ≤ W.heap.size) (hbb : base ≤ b) :
    Calls Tryz.prog 129 #[.int .i64 c, .pointer (some ⟨b, 0, none⟩)] W fun e W' => (∃ u, e = .returned u) ∧ ∃ v', Boxed W' b 44 v' ∧ W'.ownsRow base 5 1 v' (n + (encodeRune c).length) ((l ++ encodeRune c).map bv) ∧ KeepsOthers W W' ∧ Below base W W' ∧
      ∀ k t u, t ≠ 5 → k ≠ b → Boxed W k t u → Boxed W' k t u := by
  have ha := Tryz.utf8_AppendRune_plain base v n (l.map bv) c (by omega) (by omega) W hrow hn hbase
  rw [runeCells_eq, List.length_map, ← List.map_append] at ha
  obtain ⟨m, hm⟩ : ∃ m, n + (encodeRune c).length = m + 1 := ⟨n + (encodeRune c).length - 1, by have := enc_len c; omega⟩
  rw [hm] at ha ⊢
  have hcell := hb.cell
  have HB := Lib.hid hb
  have HR := Lib.hid hrow
  clear hm hb hrow
  go_enter Tryz.func129, Tryz.ntmps129
  go_wp2_with fail
  refine ha.mono ?_
  rintro e w1 ⟨v', rfl, hown, o, hg⟩
  clear ha hcell
  obtain ⟨g', cap', rfl⟩ := ownsRow_succ hown
  obtain ⟨hv1, hv2, hr2, hk2, hb2⟩ := HB.out.appended (by decide) HR.out hbase hbb hown hg
  have hoth := Lib.hid (fun k t u (ht : t ≠ 5) (hk : k ≠ b) (hx : Boxed W k t u) => other_box (v' := .slice (some ⟨g', 0, none⟩) (m + 1) cap') hx ht hk HR.out hg)
  have hc1' := hv1.cell
  have hf1' := hv1.frozen
  have H := Lib.hid (And.intro hv2 (And.intro hr2 (And.intro hk2 hb2)))
  clear hv1 hv2 hr2 hk2 hb2 hown hg
  go_wp2
  go_end0
  exact ⟨⟨_, rfl⟩, _, H.out.1, H.out.2.1, H.out.2.2.1, H.out.2.2.2, hoth.out⟩

/-- What holds between two rounds of Repair. -/
def RepairAt (w : World) (b : Nat) (dov : Value) (s : ByteArray) (pre : List Int) (W : World) : Prop :=
  (∃ v, Boxed W b 44 v ∧ W.ownsRow w.heap.size 5 1 v (encs pre).length ((encs pre).map bv) ∧ True) ∧ Boxed W (b + 1) 118 dov ∧ Boxed W (b + 2) 9 (.string s) ∧ Tabs W ∧ Kept w W

set_option maxHeartbeats 1000000 in
theorem repair_each (s : ByteArray) (hs : s.size ≤ 17592186044416) (w w0 : World) (hT : Tabs w) (hk0 : Kept w w0) (v0 : Value) (hown : w0.ownsRow w.heap.size 5 1 v0 0 []) :
    Calls Tryz.prog 128 #[.string s, .func (.func 129) #[] #[.pointer (some ⟨w0.heap.size, 0, none⟩)]] (w0.alloc (.cells #[v0] 44)) fun e W' => (∃ v, e = .returned v) ∧
      RepairAt w w0.heap.size (.func (.func 129) #[] #[.pointer (some ⟨w0.heap.size, 0, none⟩)]) s (chars s.data.toList) W' := by
  obtain ⟨w1, hw1⟩ : ∃ w1, w1 = w0.alloc (.cells #[v0] 44) := ⟨_, rfl⟩
  have hsz : w1.heap.size = w0.heap.size + 1 := by rw [hw1]; simp
  have hk1 : Kept w w1 := kept_trans hk0 (by rw [hw1]; exact (Below.refl _ w0).alloc (Nat.le_refl _) _)
  have hx := each_boxes w1 (.func (.func 129) #[] #[.pointer (some ⟨w0.heap.size, 0, none⟩)]) s
  rw [hsz] at hx
  rw [← hw1]
  refine each_c s (by omega) 129 #[.pointer (some ⟨w0.heap.size, 0, none⟩)] w1 _ enter_repair1 ?_ ?_ ?_ ?_
  · intro pre W h
    rw [hsz]; exact ⟨h.2.1.cell, h.2.2.1.cell, h.2.2.2.1⟩
  · rw [hsz]
    exact OwnFrom.and (Own.from (holdsRow_own _ _ _ _ _ (fun pre : List Int => (encs pre).length) (fun pre => (encs pre).map bv) (fun _ _ => True)) _) (OwnFrom.and (Own.from (boxed_own _ _ (fun _ => _)) _) (OwnFrom.and (Own.from (boxed_own _ _ (fun _ => _)) _) (OwnFrom.and (tabs_own _) (ownFrom_below (Nat.le_refl _) (by have := hk0.size; omega)))))
  · refine ⟨⟨v0, ?_, ?_, trivial⟩, hx.1, hx.2.1, hT.kept (kept_trans hk1 hx.2.2), kept_trans hk1 hx.2.2⟩
    · rw [hw1]
      exact ((Boxed.new w0 _ _).alloc _).alloc _
    · rw [hw1]
      exact ((hown.alloc _).alloc _).alloc _
  · rintro pre c W ⟨⟨v, hv, hr, _⟩, h2, h3, h4, h5⟩ hc h0 hlen
    have hel := encs_len pre
    have hcr : 0 ≤ c ∧ c ≤ 1114111 := by unfold isChar at hc; omega
    refine (repair1_c c hcr.1 hcr.2 w.heap.size w0.heap.size (encs pre).length v (encs pre) W hv hr (by omega) h5.size (hk0.size)).mono ?_
    rintro e W' ⟨he, v', hv', hr', hko, hbl, hoth⟩
    refine ⟨he, ⟨⟨v', hv', ?_, trivial⟩, hoth _ _ _ (by decide) (by omega) h2, hoth _ _ _ (by decide) (by omega) h3, hT.kept (Below.trans h5 hbl), Below.trans h5 hbl⟩, hko⟩
    rw [encs_snoc, List.length_append]; exact hr'

set_option maxHeartbeats 1000000 in
theorem repair_c (s : ByteArray) (hs : s.size ≤ 17592186044416) (w : World) (hT : Tabs w) :
    Calls Tryz.prog 117 #[.string s] w fun e w' => e = .returned (.string (S (rep s.data.toList))) ∧ Kept w w' := by
  obtain ⟨i0, hi, hz0, hz1, hz2⟩ := info_parts Go.Proofs.YtganmmkdcaphfaaGreatDoor.Mem.info_u8
  go_enter Tryz.func117, Tryz.ntmps117
  go_wp2_with (at_make; refine wpList_make_own _ rfl _ _ 44 rfl w.heap.size 5 i0 (.int .u8 0) 1 Tryz.underlying44 hi hz0 hz1 _ _ _ s.size rfl rfl rfl (by rw [hz2]; omega) (by unfold maxLen; omega) (Nat.le_refl _) ?_; intro w0 hown hgrow)
  refine (repair_each s hs w w0 hT ((Below.refl _ w).grown hgrow (Nat.le_refl _) (fun k hk => by cases hk)) _ hown).mono ?_
  rintro e w2 ⟨⟨u, rfl⟩, ⟨v, hv, hr, _⟩, h2, h3, h4, h5⟩
  have hcell := hv.cell
  have hcv := conv_own hr
  have H5 := Lib.hid h5
  have e1 : encs (chars s.data.toList) = rep s.data.toList := rfl
  rw [e1] at hcv
  clear hv hr h2 h3 h4 h5 hown hgrow hi hz0 hz1 hz2 e1
  go_wp2
  go_ret
  exact ⟨rfl, H5.out⟩

/-! ### Chars -/
/-- What holds between two rounds of Chars. -/
def CharsAt (w : World) (b : Nat) (dov : Value) (s : ByteArray) (pre : List Int) (W : World) : Prop :=
  (∃ v, Boxed W b 41 v ∧ W.ownsRow w.heap.size 3 1 v pre.length (pre.map iv) ∧ True) ∧ Boxed W (b + 1) 118 dov ∧ Boxed W (b + 2) 9 (.string s) ∧ Tabs W ∧ Kept w W

end Go.Proofs.YtganmmkdcaphfaaGreatDoor.Utf

/-
  Contract of literal's tellText: a text as a literal, put into a builder.
-/
namespace Go.Proofs.YtganmmkdcaphfaaGreatDoor.Tl
open Go.RowKit Go.Proofs.YtganmmkdcaphfaaGreatDoor.Oct Go.Proofs.YtganmmkdcaphfaaGreatDoor.Utf Go.Proofs.YtganmmkdcaphfaaGreatDoor.Build Go.Proofs.YtganmmkdcaphfaaGreatDoor.Val Go.Proofs.YtganmmkdcaphfaaGreatDoor.Lit
open Go.Lib (encodeRune)

theorem encs_app (a b : List Int) : encs (a ++ b) = encs a ++ encs b := by simp [encs]
theorem encs_at (cs : List Int) (j : Nat) (hj : j < cs.length) : encs cs = encs (cs.take j) ++ (encodeRune cs[j] ++ encs (cs.drop (j + 1))) := by
  have h2 := encs_app (cs.take j) (cs.drop j)
  rw [List.take_append_drop, List.drop_eq_getElem_cons hj] at h2
  exact h2

theorem decode_head (c : Int) (hc : isChar c) (t : List UInt8) : Utf8.decode (S (encodeRune c ++ t)) 0 = (c.toNat, (encodeRune c).length) := by
  have hl := (enc_len c).1
  have hg := go_dec (S (encodeRune c ++ t))
  rw [list_S, dec_enc _ hc] at hg
  have hz : ¬ (S (encodeRune c ++ t)).size = 0 := by rw [size_S, List.length_append]; omega
  have hD : Lib.decodeGo (S (encodeRune c ++ t)) = Utf8.decode (S (encodeRune c ++ t)) 0 := by
    unfold Lib.decodeGo
    rw [if_neg hz]
  rw [hD] at hg
  clear hD hz
  generalize Utf8.decode (S (encodeRune c ++ t)) 0 = d at hg ⊢
  generalize (encodeRune c).length = m at hg ⊢
  obtain ⟨r, k⟩ := d
  by_cases hh : r = 65533 ∧ k ≤ 1
  · rw [if_pos hh] at hg
    have h1 : c = -1 := congrArg Prod.fst hg
    unfold isChar at hc
    omega
  · rw [if_neg hh] at hg
    have h1 : c = (r : Int) := congrArg Prod.fst hg
    have h2 : m = k := congrArg Prod.snd hg
    rw [h1, h2]
    rfl

theorem decode_char (cs : List Int) (h : ∀ c ∈ cs, isChar c) (j : Nat) (hj : j < cs.length) :
    (encs (cs.take j)).length < (encs cs).length ∧ Utf8.decode (S (encs cs)) (encs (cs.take j)).length = (cs[j].toNat, (encodeRune cs[j]).length) ∧ (encs (cs.take (j + 1))).length = (encs (cs.take j)).length + (encodeRune cs[j]).length := by
  have e1 := encs_at cs j hj
  have hl := (enc_len cs[j]).1
  have hc := h cs[j] (List.getElem_mem _)
  refine ⟨?_, ?_, ?_⟩
  · rw [e1]
    simp only [List.length_append]
    omega
  · have h1 := Lib.tail_decode (S (encs cs)) (encs (cs.take j)).length 0
    rw [Nat.add_zero] at h1
    have e2 : (S (encs cs)).data.toList.drop (encs (cs.take j)).length = encodeRune cs[j] ++ encs (cs.drop (j + 1)) := by
      rw [list_S]
      conv => lhs; rw [e1]
      rw [List.drop_left]
    rw [← h1, Rd.cut_back, e2]
    exact decode_head _ hc _
  · rw [List.take_succ_eq_append_getElem hj, encs_snoc, List.length_append]

/-- A builder stays one where all builders and all rows of octets stay. -/
theorem has_frame {B b : Nat} {l : List UInt8} {W W' : World} (h : Has B b l W) (hk : ∀ (j : Nat) c T fz, W.heap[j]? = some (.cells c T fz) → (T = 103 ∨ T = 5) → W'.heap[j]? = W.heap[j]?) : Has B b l W' := by
  have one : ∀ p, Lib.BuilderAt 103 5 B b p (Lib.byteCells l) W → Lib.BuilderAt 103 5 B b p (Lib.byteCells l) W' := fun p h => by
    obtain ⟨hB, v, hb, hown, hne⟩ := h
    refine ⟨hB, v, (hk _ _ _ _ hb (.inl rfl)).trans hb, ⟨hown.1, ?_⟩, hne⟩
    rcases hown.2 with hn | ⟨g, cap, cur, hv, hbg, hg, rest⟩
    · exact .inl hn
    · exact .inr ⟨g, cap, cur, hv, hbg, (hk _ _ _ _ hg (.inr rfl)).trans hg, rest⟩
  rcases h with h | h
  · exact .inl (one _ h)
  · exact .inr (one _ h)
theorem has_iter {B b : Nat} {l : List UInt8} {W : World} (h : Has B b l W) {k : Nat} {s : ByteArray} {pos : Nat} (hk : W.heap[k]? = some (.stringIter s pos)) (pos' : Nat) : Has B b l (W.iterAt k s pos') :=
  has_frame h fun j c T fz hj _ => Lib.iterAt_other W k j s pos' (fun e => by rw [e, hk] at hj; cases hj)
theorem others_iter {b : Nat} {w W : World} (h : Others b w W) {k : Nat} (hk : w.heap.size ≤ k) (s : ByteArray) (pos : Nat) : Others b w (W.iterAt k s pos) := fun j o hj hb ho => by
  rw [Lib.iterAt_other W k j s pos (by have := (Array.getElem?_eq_some_iff.1 hj).1; omega)]
  exact h j o hj hb ho

set_option maxHeartbeats 4000000 in
set_option maxRecDepth 100000 in
theorem tellText_c (B b : Nat) (l : List UInt8) (s : ByteArray) (hs : s.size ≤ 17592186044416) (w : World) (h : Has B b l w) (hlen : l.length + (quoteL s).length + 12 ≤ 140737488355328) (hBw : B ≤ w.heap.size) (hT : ∀ W, Below B w W → Tabs W) :
    Calls Tryz.prog 104 #[.string s, putG b] w (Put B b (l ++ quoteL s) w) := by
  have e9 := enter_put
  have hq : (quoteL s).length = (insideL (chars s.data.toList)).length + 2 := by simp [quoteL]
  have hcs := chars_char s.data.toList
  have hrep : rep s.data.toList = encs (chars s.data.toList) := rfl
  have HR := Lib.hid (fun w1 (h1 : Below B w w1) => repair_c s hs w1 (hT w1 h1))
  rw [hrep] at HR
  have e0 : quoteL s = [34] ++ insideL (chars s.data.toList) ++ [34] := rfl
  rw [e0]
  rw [hq] at hlen
  clear hq hrep e0
  generalize chars s.data.toList = cs at hcs hlen HR ⊢
  have hc := put_c B b l [34] w h (by simp; omega) hBw
  have HB := Lib.hid hBw
  have HT := Lib.hid (fun k => insideL_take cs k)
  have HL := Lib.hid hlen
  have HCS := Lib.hid hcs
  obtain ⟨S0, hS0⟩ : ∃ S0, S0 = S (encs cs) := ⟨_, rfl⟩
  rw [← hS0] at HR
  have HD := Lib.hid (fun j hj => decode_char cs (fun c hc => (hcs c hc).1) j hj)
  rw [← hS0] at HD
  clear h hBw hT hlen hcs
  have HSE : Hid (S0.size = (encs cs).length) := by show _ = _; rw [hS0, size_S]
  clear hS0
  go_enter Tryz.func104, Tryz.ntmps104
  go_wp2_with (first
    | (go_at_call 117; refine (HR.out w1 H1.out.2.1).mono ?_; rintro e w2 ⟨rfl, h2⟩; have H2 := Lib.hid h2; clear h2)
    | (go_at_fn 96; refine hc.mono ?_; rintro e w1 ⟨rfl, h1⟩; have H1 := Lib.hid h1; clear h1))
  have b2 : Below B w w2 := H1.out.2.1.trans (H2.out.mono (Nat.le_trans HB.out H1.out.2.1.size))
  have hK : w.heap.size ≤ w2.heap.size := b2.size
  have hbK : b < w2.heap.size := Nat.lt_of_lt_of_le (has_lt H1.out.1).2 H2.out.size
  have HS : Hid (Has B b (l ++ [34]) (w2.iter S0 0) ∧ (w2.iter S0 0).heap[w2.heap.size]? = some (.stringIter S0 0) ∧ Below B w (w2.iter S0 0) ∧ Others b w (w2.iter S0 0)) := by
    refine ⟨?_, World.iter_heap w2 S0 0, b2.alloc (Nat.le_trans HB.out hK) _, ((H1.out.2.2.below H2.out)).alloc _⟩
    exact has_below (has_below H1.out.1 H2.out) ((Below.refl _ w2).alloc (Nat.le_refl _) _)
  have HKb := Lib.hid (And.intro hK (And.intro hbK HB.out))
  clear b2 hK hbK hc
  go_loopw [] (fun wr => ∃ j : Nat, j ≤ cs.length ∧ Hid (Has B b (l ++ [34] ++ insideL (cs.take j)) wr) ∧ Hid (wr.heap[w2.heap.size]? = some (.stringIter S0 (encs (cs.take j)).length)) ∧ Hid (Below B w wr) ∧ Hid (Others b w wr)) (fun wr => S0.size - wr.iterPos w2.heap.size)
  case atStart =>
    refine ⟨0, Nat.zero_le _, ?_, ?_, HS.out.2.2.1, HS.out.2.2.2⟩
    · show Has B b _ _
      have := HS.out.1
      simpa [insideL] using this
    · exact HS.out.2.1
  case round =>
    obtain ⟨j, hj, hH, hI, hBl, hO⟩ := hrel
    clear HS H1 H2
    by_cases hlt : j < cs.length
    · obtain ⟨d1, d2, d3⟩ := HD.out j hlt
      have hcj := HCS.out cs[j] (List.getElem_mem _)
      have hins : insideL (cs.take (j + 1)) = insideL (cs.take j) ++ charL cs[j] := by rw [List.take_succ_eq_append_getElem hlt, insideL_snoc]
      have hml := HT.out (j + 1)
      generalize cs[j] = c at d2 d3 hcj hins
      obtain ⟨n, rfl⟩ : ∃ n : Nat, c = (n : Int) := ⟨c.toNat, by unfold isChar at hcj; omega⟩
      have hn1 : (n : Int) ≤ 1114111 := by have := hcj.1; unfold isChar at this; omega
      have e1 : ((n : Int)).toNat = n := by omega
      rw [e1] at d2
      obtain ⟨m, hm⟩ : ∃ m, (encodeRune (n : Int)).length = m := ⟨_, rfl⟩
      have hm1 := (enc_len (n : Int)).1
      rw [hm] at d2 d3 hm1
      have hnx : ∀ ty, (Instr.next (.pointer (some ⟨w2.heap.size, 0, none⟩)) true ty).run Tryz.prog wr = .ok (.tuple #[.bool true, .int .i64 (encs (cs.take j)).length, .int .i32 n]) (wr.iterAt w2.heap.size S0 ((encs (cs.take j)).length + m)) := fun ty => by
        have := Lib.run_next_any_at (P := Tryz.prog) wr w2.heap.size S0 _ ty hI.out (by rw [HSE.out]; exact d1)
        rw [d2] at this
        exact this
      obtain ⟨pos, hpos⟩ : ∃ pos, (encs (cs.take j)).length = pos := ⟨_, rfl⟩
      rw [hpos] at hnx d3
      have hI' := hI.out
      rw [hpos] at hI'
      have hH2 := has_iter hH.out hI' (pos + m)
      have hI2 := Lib.iterAt_heap wr w2.heap.size S0 pos (pos + m) hI'
      have hB2 := Lib.below_iterAt hBl.out (k := w2.heap.size) (Nat.le_trans HKb.out.2.2 HKb.out.1) S0 (pos + m)
      have hO2 := others_iter hO.out (k := w2.heap.size) HKb.out.1 S0 (pos + m)
      have htc := tellChar_c B b (l ++ [34] ++ insideL (cs.take j)) n (by omega) hn1 _ hH2 (by have h2 := HT.out j; have h3 := HL.out; simp only [List.length_append, List.length_cons, List.length_nil]; omega) (by rw [Lib.iterAt_size]; exact Nat.le_trans HKb.out.2.2 hBl.out.size)
      have HN : Hid (∀ e W1, Put B b (l ++ [34] ++ insideL (cs.take j) ++ charL n) (wr.iterAt w2.heap.size S0 (pos + m)) e W1 → Has B b (l ++ [34] ++ insideL (cs.take (j + 1))) W1 ∧ W1.heap[w2.heap.size]? = some (.stringIter S0 (encs (cs.take (j + 1))).length) ∧ Below B w W1 ∧ Others b w W1 ∧ wr.iterPos w2.heap.size = pos ∧ W1.iterPos w2.heap.size = pos + m ∧ pos < S0.size) := fun e W1 hP => by
        have hit := hP.2.2.2.iter hI2 (by have := HKb.out.2.1; omega)
        refine ⟨?_, ?_, hB2.trans hP.2.2.1, hO2.trans hP.2.2.2, ?_, ?_, ?_⟩
        · rw [hins, ← List.append_assoc]; exact hP.2.1
        · rw [d3]; exact hit
        · simp [World.iterPos, hI']
        · simp [World.iterPos, hit]
        · rw [HSE.out, ← hpos]; exact d1
      have hm2 := Lib.hid hm1
      clear d1 d2 d3 hcj hins hml hm hm1 hpos hI' hH2 hI2 hB2 hO2 e1 hH hI hBl hO
      go_wp2_with (first
        | (go_at_call 118; refine htc.mono ?_; rintro e W1 hP; obtain rfl := hP.1; have HP := Lib.hid (HN.out _ _ hP); clear hP))
      go_roundw
      case rel => exact ⟨j + 1, by omega, HP.out.1, HP.out.2.1, HP.out.2.2.1, HP.out.2.2.2.1⟩
      case measure =>
        have h1 := HP.out.2.2.2.2
        rw [h1.1, h1.2.1]
        have := hm2.out
        omega
    · have hjl : j = cs.length := by omega
      have e2 : cs.take j = cs := by rw [hjl]; exact List.take_length
      rw [e2] at hH hI
      have hnx : ∀ ty, (Instr.next (.pointer (some ⟨w2.heap.size, 0, none⟩)) true ty).run Tryz.prog wr = .ok (.tuple #[.bool false]) wr := fun ty =>
        Lib.run_next_end_at (P := Tryz.prog) wr w2.heap.size S0 _ ty hI.out (by rw [HSE.out]; omega)
      have hc := put_c B b (l ++ [34] ++ insideL cs) [34] wr hH.out (by have h3 := HL.out; simp only [List.length_append, List.length_cons, List.length_nil]; omega) (Nat.le_trans HKb.out.2.2 hBl.out.size)
      clear hH hI e2
      go_wp2_with (first
        | (go_at_fn 96; refine hc.mono ?_; rintro e w4 h4; obtain rfl := h4.1; have H4 := Lib.hid h4; clear h4))
      go_end0
      refine ⟨rfl, ?_, hBl.out.trans H4.out.2.2.1, hO.out.trans H4.out.2.2.2⟩
      have e5 : l ++ ([34] ++ insideL cs ++ [34]) = l ++ [34] ++ insideL cs ++ [34] := by simp
      have h9 := H4.out.2.1
      rw [← e5] at h9
      simpa using h9
end Go.Proofs.YtganmmkdcaphfaaGreatDoor.Tl

/-
  Contracts of literal.made, at whatever function value that is handed in, of Quote, and of Literal at a number.
-/
namespace Go.Proofs.YtganmmkdcaphfaaGreatDoor.Tl
open Go.RowKit Go.Proofs.YtganmmkdcaphfaaGreatDoor.Oct Go.Proofs.YtganmmkdcaphfaaGreatDoor.Utf Go.Proofs.YtganmmkdcaphfaaGreatDoor.Build Go.Proofs.YtganmmkdcaphfaaGreatDoor.Val Go.Proofs.YtganmmkdcaphfaaGreatDoor.Lit Go.Proofs.YtganmmkdcaphfaaGreatDoor.Rd

theorem enter_string : ∀ args w, (callFunc 98 args).run Tryz.prog w = .ok (.enter 98 args) w := enters_of Tryz.func98 (by kernel_rfl) rfl

/-- The world with a fresh builder in its last block. -/
abbrev fresh (w : World) : World := w.alloc (.cells #[.pointer none, .slice none 0 0] 103)
theorem fresh_has (w : World) : Has w.heap.size w.heap.size [] (fresh w) :=
  .inl ⟨Nat.le_refl _, .slice none 0 0, heap_alloc_new w _, ⟨rfl, .inl ⟨rfl, rfl⟩⟩, by simp [Value.ownBlock]⟩

/-- What is asked of what is put: the octets, or the fault; and whatever K says of the world. -/
def Tells (B : Nat) (o : Option (List UInt8)) (K : World → Prop) (e : Ending) (w' : World) : Prop :=
  match o with
  | some l => e = .returned (.tuple #[]) ∧ Has B B l w' ∧ K w'
  | none => e = Fault 33 ∧ K w'
/-- What made leaves. -/
def Made (o : Option (List UInt8)) (K : World → Prop) (e : Ending) (w' : World) : Prop :=
  match o with
  | some l => e = .returned (.string (S l)) ∧ K w'
  | none => e = Fault 33 ∧ K w'

set_option maxHeartbeats 2000000 in
set_option maxRecDepth 100000 in
theorem made_c (g : Nat) (lb : Array Value) (w : World) (o : Option (List UInt8)) (K : World → Prop) (eg : ∀ args w, (callFunc g args).run Tryz.prog w = .ok (.enter g args) w)
    (hT : Calls Tryz.prog g (#[putG w.heap.size] ++ lb) (fresh w) (Tells w.heap.size o K)) (hK : ∀ W w', K W → Below w.heap.size W w' → K w') :
    Calls Tryz.prog 81 #[.func (.func g) #[] lb] w (Made o K) := by
  have e31 := enter_string
  have hmf : ∀ (fn : Fn) (first cap : Array Value) (w : World), (Instr.makeFunc fn first cap).run Tryz.prog w = .ok (.func fn first cap) w := fun _ _ _ _ => rfl
  cases o with
  | none =>
    go_enter Tryz.func81, Tryz.ntmps81
    go_wp2_with (go_at_fn g; refine hT.mono ?_; rintro e1 Y1 ⟨rfl, h1⟩)
    exact ⟨rfl, rfl, h1⟩
  | some l =>
    go_enter Tryz.func81, Tryz.ntmps81
    go_wp2_with (first
      | (go_at_fn 98; refine (Tryz.Builder_String_any w.heap.size w.heap.size l Y1 H1.out.1 (Nat.le_of_lt (has_lt H1.out.1).2)).mono ?_; rintro e2 Y2 ⟨rfl, h2⟩)
      | (go_at_fn g; refine hT.mono ?_; rintro e1 Y1 ⟨rfl, h1⟩; have H1 := Lib.hid h1; clear h1))
    go_ret
    exact ⟨rfl, hK _ _ H1.out.2 h2⟩

theorem enter_quote1 : ∀ args w, (callFunc 103 args).run Tryz.prog w = .ok (.enter 103 args) w := enters_of Tryz.func103 (by kernel_rfl) rfl

theorem quote1_c (q : Nat) (s : ByteArray) (hs : s.size ≤ 17592186044416) (hq : (quoteL s).length ≤ 70368744177664) (w : World) (hT : ∀ W, Below w.heap.size w W → Tabs W) (hc : w.cell? ⟨q, 0, none⟩ = some (.string s)) :
    Calls Tryz.prog 103 #[putG w.heap.size, .pointer (some ⟨q, 0, none⟩)] (fresh w) (Tells w.heap.size (some (quoteL s)) (fun W => Below w.heap.size w W)) := by
  have hb0 : Below w.heap.size w (fresh w) := (Below.refl _ w).alloc (Nat.le_refl _) _
  have ht := tellText_c w.heap.size w.heap.size [] s hs (fresh w) (fresh_has w) (by simp; omega) (by simp) (fun W hW => hT W (hb0.trans hW))
  have hcc : (fresh w).cell? ⟨q, 0, none⟩ = some (.string s) := by rw [hb0.cell (p := ⟨q, 0, none⟩) (World.block_lt_of_cell? w _ hc)]; exact hc
  rw [List.nil_append] at ht
  clear hc hT
  have HB0 := Lib.hid hb0
  clear hb0
  go_enter Tryz.func103, Tryz.ntmps103
  go_wp2_with (go_at_call 104; refine ht.mono ?_; rintro e W1 h1; obtain rfl := h1.1)
  go_end0
  exact ⟨rfl, h1.2.1, HB0.out.trans h1.2.2.1⟩

theorem quote_c (s : ByteArray) (hs : s.size ≤ 17592186044416) (hq : (quoteL s).length ≤ 70368744177664) (w : World) (hT : Tabs w) :
    Calls Tryz.prog 84 #[.string s] w fun e w' => e = .returned (.string (S (quoteL s))) ∧ Below w.heap.size w w' := by
  have hmf : ∀ (fn : Fn) (first cap : Array Value) (w : World), (Instr.makeFunc fn first cap).run Tryz.prog w = .ok (.func fn first cap) w := fun _ _ _ _ => rfl
  obtain ⟨w1, hw1⟩ : ∃ w1, w1 = w.alloc (.cells #[.string s] 9) := ⟨_, rfl⟩
  have hb1 : Below w.heap.size w w1 := by rw [hw1]; exact (Below.refl _ w).alloc (Nat.le_refl _) _
  have hcell : w1.cell? ⟨w.heap.size, 0, none⟩ = some (.string s) := by rw [hw1]; simp
  have h1 := quote1_c w.heap.size s hs hq w1 (fun W hW => hT.kept (Below.trans hb1 (hW.mono hb1.size))) hcell
  have hm := made_c 103 #[.pointer (some ⟨w.heap.size, 0, none⟩)] w1 _ _ enter_quote1 h1 (fun W w' h1 h2 => h1.trans h2)
  rw [hw1] at hm
  have HB1 := Lib.hid hb1
  rw [hw1] at HB1
  clear h1 hcell hb1 hw1
  go_enter Tryz.func84, Tryz.ntmps84
  go_wp2_with (go_at_call 81; refine hm.mono ?_; rintro e W2 ⟨rfl, h2⟩)
  go_ret
  exact ⟨rfl, HB1.out.trans (h2.mono HB1.out.size)⟩
end Go.Proofs.YtganmmkdcaphfaaGreatDoor.Tl
