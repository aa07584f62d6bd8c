/-
  Part 9: TkcTags, TkcBegun, TkcAll, TkcLoop, TkcCaught, TkcTokens, TkcAlive, CrfPgEsc.
-/
import Derived.Test.YtidfcajhmldieaaTokPlainAllP8
import Derived.Test.YtidfcajhmldieaaTokPlainAllP7
import Derived.Defers
import Derived.Recover
import Derived.Test.YtidfcajhmldieaaTokPlainAllP5
/-
  Contracts of startTag and endTag of package tokens.
-/
namespace Go.Proofs.Ytidfcajhmldieaa.Tkc
open Go.RowKit Go.Proofs.Ytidfcajhmldieaa.Oct Go.Proofs.Ytidfcajhmldieaa.Utf Go.Proofs.Ytidfcajhmldieaa.Crf Go.Proofs.Ytidfcajhmldieaa.Tab Go.Proofs.Ytidfcajhmldieaa.Tok

theorem raw_c (s : List UInt8) (w : World) :
    Calls Try.prog 48 #[.string (S s)] w fun e w' => e = .returned (.bool (decide (1 ≤ elemN s ∧ elemN s ≤ 3))) ∧ Below w.heap.size w w' := by
  have hel : ∀ w, Calls Try.prog 67 #[.string (S s)] w fun e w' => e = .returned (.int .i64 (elemN s : Nat)) ∧ Below w.heap.size w w' := fun w => element_c s w
  generalize elemN s = m at hel ⊢
  generalize S s = T at *
  by_cases h1 : m = 1
  · subst h1
    go_enter Try.func48, Try.ntmps48
    go_wp2_with (go_at_call 67; refine (hel _).mono ?_; rintro e w1 ⟨rfl, h1⟩)
    go_ret
    exact ⟨rfl, h1⟩
  · by_cases h2 : m = 2
    · subst h2
      go_enter Try.func48, Try.ntmps48
      go_wp2_with (go_at_call 67; refine (hel _).mono ?_; rintro e w1 ⟨rfl, h1⟩)
      go_ret
      exact ⟨rfl, h1⟩
    · by_cases h3 : m = 3
      · subst h3
        go_enter Try.func48, Try.ntmps48
        go_wp2_with (go_at_call 67; refine (hel _).mono ?_; rintro e w1 ⟨rfl, h1⟩)
        go_ret
        exact ⟨rfl, h1⟩
      · have hd : decide (1 ≤ m ∧ m ≤ 3) = false := decide_eq_false (by omega)
        rw [hd]
        obtain ⟨i, hi⟩ : ∃ i : Int, i = (m : Int) := ⟨_, rfl⟩
        rw [← hi] at hel
        have b1 : (i == 1) = false := by rw [beq_eq_false_iff_ne]; omega
        have b2 : (i == 2) = false := by rw [beq_eq_false_iff_ne]; omega
        have b3 : (i == 3) = false := by rw [beq_eq_false_iff_ne]; omega
        clear hd hi h1 h2 h3
        go_enter Try.func48, Try.ntmps48
        go_wp2_with (go_at_call 67; refine (hel _).mono ?_; rintro e w1 ⟨rfl, h1⟩)
        go_ret
        exact ⟨rfl, h1⟩
theorem own_less {w : World} {base b n size : Nat} {e : TypeId} {v : Value} {xs : List Value} (h : w.ownsRow base e size v n xs) (hb : b ≤ base) : w.ownsRow b e size v n xs := by
  refine ⟨h.1, ?_⟩
  rcases h.2 with hn | ⟨g, cap, cur, hv, hbg, rest⟩
  · exact .inl hn
  · exact .inr ⟨g, cap, cur, hv, Nat.le_trans hb hbg, rest⟩
theorem Went.of_many {R : Nat} {l : List UInt8} {k : Nat} {w w' : World} {qs : List (Tk × Value)} {m : Nat} (hd : DataMid l m m (qs.map Prod.fst)) (hn : 4096 < qs.length) (hb : Below R w w') : Went R l k w (Fault 3) w' := by
  refine .many rfl ?_ hb
  have := mid_len hd
  rw [List.length_map] at this
  exact Nat.lt_of_lt_of_le hn this
set_option maxHeartbeats 4000000 in
set_option maxRecDepth 100000 in
theorem endTag_c (R : Nat) (l : List UInt8) (hl : l.length ≤ 65536) (k : Nat) (hk : k + 2 < l.length) (v : Value) (ps : List (Tk × Value)) (w : World) (h : RdT R l k v ps w) (hn : ps.length ≤ 4096)
    (hc : l[k + 1] = 47) (hb : letB l[k + 2] = true) (ho : OpenAt l k (ps.map Prod.fst)) :
    Calls Try.prog 33 #[.pointer (some ⟨R, 0, none⟩)] w (Went R l k w) := by
  obtain ⟨r0, e0, hs, hg, hout, htx⟩ := open_endTag hk hc hb ho
  have T1 := h.keep (Keeps.set _ _) (h.box.at_ (k + 2))
  have hB1 : Below R w (w.setCell ⟨R, 1, none⟩ (.int .i64 ((k + 2 : Nat) : Int))) := (Keeps.set w _).below h.low
  have c1 : w.cell? ⟨R, 1, none⟩ = some (.int .i64 (k : Int)) := (h.box.cell 1).trans rfl
  have z1 := h.box.froz 1
  have i0 : (k : Int) ≤ 65536 := by omega
  have htag := tag_c R l hl v _ (k + 2) r0 2 T1.box (by omega) (by omega) hs hg
  have H1 := Lib.hid (And.intro T1 hB1)
  have HR := Lib.hid (And.intro e0 (And.intro hout htx))
  have HLow := h.low
  clear h T1 hB1 e0 hout htx hs hg hc hb ho
  have hcast : ((k + 2 : Nat) : Int) = (k : Int) + 2 := by omega
  rw [hcast] at htag H1
  go_enter Try.func33, Try.ntmps33
  go_wp2_with fail
  refine htag.mono ?_
  clear htag
  generalize w.setCell ⟨R, 1, none⟩ (.int .i64 ((k : Int) + 2)) = w1 at H1 ⊢
  intro e2 w2 ht
  cases ht with
  | none he box keeps te =>
    subst he
    have HB := Lib.hid (H1.out.2.trans (keeps.below H1.out.1.low))
    have HT := Lib.hid (H1.out.1.keep keeps box)
    have HA := Lib.hid ((Below.refl w2.heap.size w2).alloc (Nat.le_refl _) (.cells zeroT 31))
    have HN : Hid (DataMid l l.length l.length (ps.map Prod.fst)) := data_none (HR.out.1.trans (te.trans HR.out.2.1))
    clear box keeps te
    go_wp2_with fail
    go_end0
    exact .done rfl l.length v ps (HT.out.grow HA.out) (Nat.le_refl _) (by omega) hn HN.out (HB.out.trans (HA.out.mono HT.out.low))
  | ended k' nm va al cl he hk' hk0 box att keeps te =>
    subst he
    obtain ⟨vp, vc, hva⟩ := own_shape att
    subst hva
    have hb2 := H1.out.2.trans (keeps.below H1.out.1.low)
    have T2 := H1.out.1.keep keeps box
    have hd := end_end HR.out.1 HR.out.2.1 HR.out.2.2 te
    have ha : Below w2.heap.size w2 (w2.alloc (.cells (tagC nm (.slice vp al.length vc) cl) 31)) := (Below.refl _ w2).alloc (Nat.le_refl _) _
    have T3 := T2.grow ha
    have hb3 := hb2.trans (ha.mono T2.low)
    have x1 : (w2.alloc (.cells (tagC nm (.slice vp al.length vc) cl) 31)).cell? ⟨w2.heap.size, 1, none⟩ = some (.string (S nm)) := (cell_of_row _ _ 1 _ _ _ (heap_alloc_new w2 _)).trans rfl
    have htell := tell_c R l k' v ps _ T3 ⟨2, nm, [], [], false⟩ (.slice none 0 0) (World.ownsRow_nil _ _ _ _) (nil_sep _) hn
    have H3 := Lib.hid (And.intro T3 (And.intro hb3 hd))
    clear box att keeps te T2 T3 hb2 hb3 ha hd
    go_wp2_with fail
    refine htell.mono ?_
    clear htell
    generalize w2.alloc (.cells (tagC nm (.slice vp al.length vc) cl) 31) = w3 at H3 ⊢
    intro e4 w4 ht
    cases ht with
    | many he hn4 hb4 =>
      subst he
      exact ⟨rfl, Went.of_many (qs := ps ++ [(⟨2, nm, [], [], false⟩, .slice none 0 0)]) (by rw [List.map_append]; exact H3.out.2.2) hn4 (H3.out.2.1.trans hb4)⟩
    | done he hn4 v4 h4 hm4 =>
      subst he
      have H4 := Lib.hid (And.intro h4 (H3.out.2.1.trans (hm4.below H3.out.1.low (own_ge H3.out.1.out))))
      clear h4 hm4
      go_wp2_with fail
      go_end0
      exact .done rfl k' v4 _ H4.out.1 hk' (by omega) hn4 (by rw [List.map_append]; exact H3.out.2.2) H4.out.2
set_option maxHeartbeats 4000000 in
set_option maxRecDepth 100000 in
theorem startTag_c (R : Nat) (l : List UInt8) (hl : l.length ≤ 65536) (k : Nat) (hk : k + 1 < l.length) (v : Value) (ps : List (Tk × Value)) (w : World) (h : RdT R l k v ps w) (hn : ps.length ≤ 4096)
    (hb : letB l[k + 1] = true) (ho : OpenAt l k (ps.map Prod.fst)) :
    Calls Try.prog 32 #[.pointer (some ⟨R, 0, none⟩)] w (Went R l k w) := by
  obtain ⟨r0, e0, hs, hg, hout, htx⟩ := open_start hk hb ho
  have T1 := h.keep (Keeps.set _ _) (h.box.at_ (k + 1))
  have hB1 : Below R w (w.setCell ⟨R, 1, none⟩ (.int .i64 ((k + 1 : Nat) : Int))) := (Keeps.set w _).below h.low
  have c1 : w.cell? ⟨R, 1, none⟩ = some (.int .i64 (k : Int)) := (h.box.cell 1).trans rfl
  have z1 := h.box.froz 1
  have i0 : (k : Int) ≤ 65536 := by omega
  have htag := tag_c R l hl v _ (k + 1) r0 1 T1.box (by omega) (by omega) hs hg
  have H1 := Lib.hid (And.intro T1 hB1)
  have HR := Lib.hid (And.intro e0 (And.intro hout htx))
  have HLow := h.low
  clear h T1 hB1 e0 hout htx hs hg hb ho
  have hcast : ((k + 1 : Nat) : Int) = (k : Int) + 1 := by omega
  rw [hcast] at htag H1
  go_enter Try.func32, Try.ntmps32
  go_wp2_with fail
  refine htag.mono ?_
  clear htag
  generalize w.setCell ⟨R, 1, none⟩ (.int .i64 ((k : Int) + 1)) = w1 at H1 ⊢
  intro e2 w2 ht
  cases ht with
  | none he box keeps te =>
    subst he
    have HB := Lib.hid (H1.out.2.trans (keeps.below H1.out.1.low))
    have HT := Lib.hid (H1.out.1.keep keeps box)
    have HA := Lib.hid ((Below.refl w2.heap.size w2).alloc (Nat.le_refl _) (.cells zeroT 31))
    have HN : Hid (DataMid l l.length l.length (ps.map Prod.fst)) := data_none (HR.out.1.trans (te.trans HR.out.2.1))
    clear box keeps te
    go_wp2_with fail
    go_end0
    exact .done rfl l.length v ps (HT.out.grow HA.out) (Nat.le_refl _) (by omega) hn HN.out (HB.out.trans (HA.out.mono HT.out.low))
  | ended k' nm va al cl he hk' hk0 box att keeps te =>
    subst he
    obtain ⟨vp, vc, hva⟩ := own_shape att
    subst hva
    have hb2 := H1.out.2.trans (keeps.below H1.out.1.low)
    have T2 := H1.out.1.keep keeps box
    have hd := end_start HR.out.1 HR.out.2.1 HR.out.2.2 te
    have hvl := own_lt T2.out
    have hvl1 := own_lt H1.out.1.out
    have hlow1 := H1.out.1.low
    have hsep : Tok.Sep (.slice vp al.length vc) v := fun g hg hv => by
      have h1 := own_ge att g hg
      have h2 := hvl1 g hv
      omega
    have hRa : R + 1 ≤ w1.heap.size + 5 := by omega
    -- the box of the tag, its kind 1
    have ha : Below w2.heap.size w2 (w2.alloc (.cells #[.int .i64 1, .string (S nm), .string ⟨#[]⟩, .slice vp al.length vc, .bool cl] 31)) := (Below.refl _ w2).alloc (Nat.le_refl _) _
    have hbox := heap_alloc_new w2 (.cells #[.int .i64 1, .string (S nm), .string ⟨#[]⟩, .slice vp al.length vc, .bool cl] 31)
    have y0 : (w2.alloc (.cells (tagC nm (.slice vp al.length vc) cl) 31)).cell? ⟨w2.heap.size, 0, none⟩ = some (.int .i64 0) := (cell_of_row _ _ 0 _ _ _ (heap_alloc_new w2 _)).trans rfl
    have y1 := frozen_of_row _ w2.heap.size 0 _ _ (heap_alloc_new w2 (.cells (tagC nm (.slice vp al.length vc) cl) 31))
    have T3 := T2.grow ha
    have hb3 := hb2.trans (ha.mono T2.low)
    have hN2 : w2.heap.size < (w2.alloc (.cells #[.int .i64 1, .string (S nm), .string ⟨#[]⟩, .slice vp al.length vc, .bool cl] 31)).heap.size := (Array.getElem?_eq_some_iff.1 hbox).1
    have x0 := (cell_of_row _ w2.heap.size 0 _ _ _ hbox).trans (rfl : _ = some (Value.int .i64 1))
    have x1 := (cell_of_row _ w2.heap.size 1 _ _ _ hbox).trans (rfl : _ = some (Value.string (S nm)))
    have x2 := (cell_of_row _ w2.heap.size 2 _ _ _ hbox).trans (rfl : _ = some (Value.string ⟨#[]⟩))
    have x3 := (cell_of_row _ w2.heap.size 3 _ _ _ hbox).trans (rfl : _ = some (Value.slice vp al.length vc))
    have x4 := (cell_of_row _ w2.heap.size 4 _ _ _ hbox).trans (rfl : _ = some (Value.bool cl))
    have hat3 := own_less (own_same att fun g _ hg => ha.block g (own_lt att g hg)) hRa
    have htell := tell_c R l k' v ps _ T3 ⟨1, nm, [], al, cl⟩ (.slice vp al.length vc) hat3 hsep hn
    have hNR : w2.heap.size ≠ R := by have := T2.box.lt; omega
    have hNv : v.ownBlock ≠ some w2.heap.size := fun e => by have := hvl _ e; omega
    have H3 := Lib.hid (And.intro T3 (And.intro hb3 (And.intro hd (And.intro hbox hN2))))
    clear box att keeps te T2 T3 hb2 hb3 ha hd hat3 hsep hbox hN2
    go_wp2_with fail
    refine htell.mono ?_
    clear htell x0 x1 x2 x3 x4 y0 y1
    generalize w2.alloc (.cells #[.int .i64 1, .string (S nm), .string ⟨#[]⟩, .slice vp al.length vc, .bool cl] 31) = w3 at H3 ⊢
    intro e4 w4 ht
    cases ht with
    | many he hn4 hb4 =>
      subst he
      refine ⟨rfl, .many rfl ?_ (H3.out.2.1.trans hb4)⟩
      have hdd := H3.out.2.2.1
      split at hdd
      · have := raw_len hdd
        rw [List.length_append, List.length_map] at this
        rw [List.length_append] at hn4
        exact Nat.lt_of_lt_of_le hn4 this
      · have := mid_len hdd
        rw [List.length_append, List.length_map] at this
        rw [List.length_append] at hn4
        exact Nat.lt_of_lt_of_le hn4 this
    | done he hn4 v4 h4 hm4 =>
      subst he
      have hbox4 := (hm4.block w2.heap.size H3.out.2.2.2.2 hNR hNv).trans H3.out.2.2.2.1
      have q1 := (cell_of_row _ w2.heap.size 1 _ _ _ hbox4).trans (rfl : _ = some (Value.string (S nm)))
      have hN4 : w2.heap.size < w4.heap.size := (Array.getElem?_eq_some_iff.1 hbox4).1
      have hb4 := H3.out.2.1.trans (hm4.below H3.out.1.low (own_ge H3.out.1.out))
      have hraw := raw_c nm w4
      by_cases hw : 1 ≤ elemN nm ∧ elemN nm ≤ 3
      · rw [decide_eq_true hw] at hraw
        have hdd := H3.out.2.2.1
        rw [if_pos hw] at hdd
        have HQ : Hid (∀ W, Below w4.heap.size w4 W → W.cell? ⟨w2.heap.size, 1, none⟩ = some (.string (S nm)) ∧ Calls Try.prog 49 #[.pointer (some ⟨R, 0, none⟩), .string (S nm)] W (Went R l (k' - 1) W)) := fun W hW =>
          ⟨(hW.cell (p := ⟨w2.heap.size, 1, none⟩) hN4).trans q1, rawText_c R l hl k' hk' (by omega) v4 _ W (h4.grow hW) hn4 nm hw (by rw [List.map_append]; exact hdd)⟩
        have HB4 := Lib.hid (And.intro hb4 h4.low)
        clear h4 hm4 hbox4 hdd hb4
        go_wp2_with (go_at_call 48; refine hraw.mono ?_; rintro e5 w5 ⟨rfl, h5⟩; obtain ⟨q5, hrt⟩ := HQ.out w5 h5; have HB5 := Lib.hid (HB4.out.1.trans (h5.mono HB4.out.2)); clear h5)
        refine hrt.mono ?_
        clear hrt
        intro e6 w6 ht
        cases ht with
        | many he hn6 hb6 =>
          subst he
          exact ⟨rfl, .many rfl hn6 (HB5.out.trans hb6)⟩
        | done he k6 v6 ps6 h6 hk6 hk60 hn6 hd6 hb6 =>
          subst he
          have H6 := Lib.hid (And.intro h6 (And.intro hd6 (HB5.out.trans hb6)))
          clear h6 hd6 hb6
          go_wp2_with fail
          go_end0
          exact .done rfl k6 v6 ps6 H6.out.1 hk6 (by omega) hn6 H6.out.2.1 H6.out.2.2
      · rw [decide_eq_false hw] at hraw
        have hdd := H3.out.2.2.1
        rw [if_neg hw] at hdd
        have H4 := Lib.hid (And.intro h4 (And.intro hb4 hdd))
        clear h4 hm4 hbox4 hdd hb4
        go_wp2_with (go_at_call 48; refine hraw.mono ?_; rintro e5 w5 ⟨rfl, h5⟩; have H5 := Lib.hid h5; clear h5)
        go_end0
        exact .done rfl k' v4 _ (H4.out.1.grow H5.out) hk' (by omega) hn4 (by rw [List.map_append]; exact H4.out.2.2) (H4.out.2.1.trans (H5.out.mono H4.out.1.low))
end Go.Proofs.Ytidfcajhmldieaa.Tkc

/-
  Contract of begun of package tokens: what reads that which begins at a place.
-/
namespace Go.Proofs.Ytidfcajhmldieaa.Tkc
open Go.RowKit Go.Proofs.Ytidfcajhmldieaa.Oct Go.Proofs.Ytidfcajhmldieaa.Utf Go.Proofs.Ytidfcajhmldieaa.Crf Go.Proofs.Ytidfcajhmldieaa.Tab Go.Proofs.Ytidfcajhmldieaa.Tok

theorem pre_at {l p : List UInt8} {k i : Nat} {c : UInt8} (h : Lib.hasPrefix (l.drop k) p = true) (hc : p[i]? = some c) : ∃ hk : k + i < l.length, l[k + i] = c := by
  unfold Lib.hasPrefix at h
  obtain ⟨z, hz⟩ := List.isPrefixOf_iff_prefix.1 h
  have e : (l.drop k)[i]? = some c := by
    rw [← hz, List.getElem?_append_left (List.getElem?_eq_some_iff.1 hc).1]
    exact hc
  rw [List.getElem?_drop] at e
  exact List.getElem?_eq_some_iff.1 e
/-- What begins with the sign and a letter. -/
def opensB (x p : List UInt8) : Bool := Lib.hasPrefix x p && match x[p.length]? with
  | some c => letB c
  | none => false
theorem opensB_at {l p : List UInt8} {k : Nat} (h : opensB (l.drop k) p = true) : Lib.hasPrefix (l.drop k) p = true ∧ ∃ hk : k + p.length < l.length, letB l[k + p.length] = true := by
  unfold opensB at h
  rw [Bool.and_eq_true] at h
  refine ⟨h.1, ?_⟩
  have h2 := h.2
  rw [List.getElem?_drop] at h2
  by_cases hk : k + p.length < l.length
  · rw [List.getElem?_eq_getElem hk] at h2
    exact ⟨hk, h2⟩
  · rw [List.getElem?_eq_none (by omega)] at h2
    cases h2
theorem opensB_no {l p : List UInt8} {k : Nat} (h : opensB (l.drop k) p = false) (hp : Lib.hasPrefix (l.drop k) p = true) (hk : k + p.length < l.length) : letB l[k + p.length] = false := by
  unfold opensB at h
  rw [hp, List.getElem?_drop, List.getElem?_eq_getElem hk] at h
  exact h
/-- A function value that reads what begins at k. -/
def Reads (R : Nat) (l : List UInt8) (k g : Nat) : Prop :=
  (∀ args w, (callFunc g args).run Try.prog w = .ok (.enter g args) w) ∧
  ∀ W v ps, RdT R l k v ps W → ps.length ≤ 4096 → OpenAt l k (ps.map Prod.fst) → MaxAt W → Calls Try.prog g #[.pointer (some ⟨R, 0, none⟩)] W (Went R l k W)
theorem reads_start {R : Nat} {l : List UInt8} {k : Nat} (hl : l.length ≤ 65536) (hk : k + 1 < l.length) (hb : letB l[k + 1] = true) : Reads R l k 32 :=
  ⟨enters_of Try.func32 (by kernel_rfl) rfl, fun W v ps h hn ho _ => startTag_c R l hl k hk v ps W h hn hb ho⟩
theorem reads_end {R : Nat} {l : List UInt8} {k : Nat} (hl : l.length ≤ 65536) (hk : k + 2 < l.length) (hc : l[k + 1] = 47) (hb : letB l[k + 2] = true) : Reads R l k 33 :=
  ⟨enters_of Try.func33 (by kernel_rfl) rfl, fun W v ps h hn ho _ => endTag_c R l hl k hk v ps W h hn hc hb ho⟩
theorem reads_com {R : Nat} {l : List UInt8} {k : Nat} (hl : l.length ≤ 65536) (hk : k + 3 < l.length) (hp : [60, 33, 45, 45].isPrefixOf (l.drop k) = true) : Reads R l k 34 :=
  ⟨enters_of Try.func34 (by kernel_rfl) rfl, fun W v ps h hn ho hM => comment_c R l hl k hk v ps W h hn hM hp ho⟩
theorem reads_bog {R : Nat} {l : List UInt8} {k : Nat} (hl : l.length ≤ 65536) (hk : k + 1 < l.length) (h0 : l[k] = 60)
    (hc : l[k + 1] = 33 ∧ [45, 45].isPrefixOf (l.drop (k + 2)) = false ∨ l[k + 1] = 63 ∨ (l[k + 1] = 47 ∧ ∃ h2 : k + 2 < l.length, letB l[k + 2] = false)) : Reads R l k 35 :=
  ⟨enters_of Try.func35 (by kernel_rfl) rfl, fun W v ps h hn ho hM => bogus_c R l hl k hk v ps W h hn hM h0 hc ho⟩

set_option maxHeartbeats 2000000 in
theorem opens_c (x p : List UInt8) (w : World) :
    Calls Try.prog 31 #[.string (S x), .string (S p)] w fun e w' => e = .returned (.bool (opensB x p)) ∧ w' = w := by
  have hcp := fun w => Try.strings_CutPrefix (S x) (S p) w
  rw [list_S, list_S] at hcp
  unfold opensB
  cases hp : Lib.hasPrefix x p with
  | false =>
    rw [hp] at hcp
    show Calls _ _ _ _ fun e w' => e = .returned (.bool false) ∧ w' = w
    generalize (⟨(Lib.trimPrefix x p).toArray⟩ : ByteArray) = Z at hcp
    generalize S x = X at *
    generalize S p = P at *
    go_enter Try.func31, Try.ntmps31
    go_wp2_with (go_at_call 45; refine (hcp _).mono ?_; rintro e w1 ⟨rfl, rfl⟩)
    go_ret
    exact ⟨rfl, rfl⟩
  | true =>
    rw [hp] at hcp
    have ht : (⟨(Lib.trimPrefix x p).toArray⟩ : ByteArray) = S (x.drop p.length) := by
      unfold Lib.trimPrefix
      rw [hp]
      rfl
    rw [ht] at hcp
    by_cases hl : p.length < x.length
    · rw [List.getElem?_eq_getElem hl]
      show Calls _ _ _ _ fun e w' => e = .returned (.bool (true && letB x[p.length])) ∧ w' = w
      obtain ⟨c, hcc⟩ : ∃ c, c = x[p.length] := ⟨_, rfl⟩
      rw [← hcc]
      have hd : x.drop p.length = c :: x.drop (p.length + 1) := by rw [hcc]; exact List.drop_eq_getElem_cons hl
      have hle : ∀ w, Calls Try.prog 46 #[.int .u8 (c.toNat : Int)] w fun e w' => e = .returned (.bool (letB c)) ∧ w = w' := fun w => letter_c (c.toNat : Int) w (by omega) (by have := c.toNat_lt; omega)
      obtain ⟨Z, hZ⟩ : ∃ Z, Z = S (x.drop p.length) := ⟨_, rfl⟩
      have hne : (Z.toList == []) = false := by
        rw [beq_eq_false_iff_ne, hZ]
        intro e
        rw [ByteArray.toList_eq, list_S, hd] at e
        cases e
      have hz0 : 0 < Z.size := by rw [hZ, size_S, hd]; simp
      have hzi : (0 : Int) < (Z.size : Int) := by omega
      have hat : ∀ h : 0 < Z.size, Z[0]'h = c := by
        subst hZ
        intro h
        have h0 : 0 < (x.drop p.length).length := by rw [hd]; simp
        rw [at_T (x.drop p.length) 0 h0]
        simp [hcc]
      have hbyte : ((c.toNat : Int)) ≤ 255 := by have := c.toNat_lt; omega
      rw [← hZ] at hcp
      clear hZ hd ht hcc hp
      generalize letB c = b at hle ⊢
      generalize S x = X at *
      generalize S p = P at *
      go_enter Try.func31, Try.ntmps31
      go_wp2_with (first
        | (go_at_call 45; refine (hcp _).mono ?_; rintro e w1 ⟨rfl, rfl⟩)
        | (go_at_call 46; refine (hle _).mono ?_; rintro e w2 ⟨rfl, rfl⟩))
      go_ret
      exact ⟨rfl, rfl⟩
    · rw [List.getElem?_eq_none (by omega)]
      show Calls _ _ _ _ fun e w' => e = .returned (.bool false) ∧ w' = w
      have hd : x.drop p.length = [] := List.drop_eq_nil_of_le (by omega)
      rw [hd] at hcp
      generalize S x = X at *
      generalize S p = P at *
      go_enter Try.func31, Try.ntmps31
      go_wp2_with (go_at_call 45; refine (hcp _).mono ?_; rintro e w1 ⟨rfl, rfl⟩)
      go_ret
      exact ⟨rfl, rfl⟩
theorem begins_c (x p : List UInt8) (b : Nat) (w : World) (hb : w.cell? ⟨b, 0, none⟩ = some (.string (S x))) :
    Calls Try.prog 29 #[.string (S p), .pointer (some ⟨b, 0, none⟩)] w fun e w' => e = .returned (.bool (Lib.hasPrefix x p)) ∧ w' = w := by
  have h := Try.strings_HasPrefix (S x) (S p) w
  rw [list_S, list_S] at h
  generalize Lib.hasPrefix x p = q at h ⊢
  generalize S x = X at *
  generalize S p = P at *
  go_enter Try.func29, Try.ntmps29
  go_wp2_with (go_at_call 30; refine h.mono ?_; rintro e w1 ⟨rfl, rfl⟩)
  go_ret
  exact ⟨rfl, rfl⟩
theorem enter_begins : ∀ args w, (callFunc 29 args).run Try.prog w = .ok (.enter 29 args) w := enters_of Try.func29 (by kernel_rfl) rfl
end Go.Proofs.Ytidfcajhmldieaa.Tkc

/-
  Contracts of begun and all of package tokens.
-/
namespace Go.Proofs.Ytidfcajhmldieaa.Tkc
open Go.RowKit Go.Proofs.Ytidfcajhmldieaa.Oct Go.Proofs.Ytidfcajhmldieaa.Utf Go.Proofs.Ytidfcajhmldieaa.Crf Go.Proofs.Ytidfcajhmldieaa.Tab Go.Proofs.Ytidfcajhmldieaa.Tok

theorem drop2 {l : List UInt8} {k : Nat} (h1 : k + 1 < l.length) : l.drop k = l[k] :: l[k + 1] :: l.drop (k + 2) := by
  rw [List.drop_eq_getElem_cons (by omega), List.drop_eq_getElem_cons h1]
theorem op_true {l : List UInt8} {k : Nat} (hk : k < l.length) (h0 : l[k] = 60) (h1 : k + 1 < l.length) (hc : letB l[k + 1] = true ∨ l[k + 1] = 33 ∨ l[k + 1] = 63 ∨ (l[k + 1] = 47 ∧ k + 2 < l.length)) : opens l[k] (l.drop (k + 1)) = true := by
  rw [List.drop_eq_getElem_cons h1, h0]
  show (letB l[k + 1] || l[k + 1] == 33 || l[k + 1] == 63 || (l[k + 1] == 47 && !(l.drop (k + 1 + 1)).isEmpty)) = true
  rcases hc with h | h | h | ⟨h, h2⟩
  · rw [h]; rfl
  · rw [h]; cases letB 33 <;> rfl
  · rw [h]; cases letB 63 <;> rfl
  · rw [h, List.drop_eq_getElem_cons h2]; cases letB 47 <;> rfl
theorem op_cases {l : List UInt8} {k : Nat} (hk : k < l.length) (h : opens l[k] (l.drop (k + 1)) = true) : l[k] = 60 ∧ ∃ h1 : k + 1 < l.length, letB l[k + 1] = true ∨ l[k + 1] = 33 ∨ l[k + 1] = 63 ∨ (l[k + 1] = 47 ∧ k + 2 < l.length) := by
  unfold opens at h
  rw [Bool.and_eq_true, beq_iff_eq] at h
  refine ⟨h.1, ?_⟩
  by_cases h1 : k + 1 < l.length
  · have h2 := h.2
    rw [List.drop_eq_getElem_cons h1] at h2
    simp only [Bool.or_eq_true, Bool.and_eq_true, beq_iff_eq, Bool.not_eq_true'] at h2
    refine ⟨h1, ?_⟩
    rcases h2 with ((h3 | h3) | h3) | ⟨h3, h4⟩
    · exact .inl h3
    · exact .inr (.inl h3)
    · exact .inr (.inr (.inl h3))
    · refine .inr (.inr (.inr ⟨h3, ?_⟩))
      by_cases h5 : k + 2 < l.length
      · exact h5
      · rw [List.drop_eq_nil_of_le (by omega)] at h4
        cases h4
  · have h2 := h.2
    rw [List.drop_eq_nil_of_le (by omega)] at h2
    cases h2
theorem pre_two {l : List UInt8} {k : Nat} {c : UInt8} (hk : k < l.length) (h0 : l[k] = 60) (h1 : k + 1 < l.length) (hc : l[k + 1] = c) : Lib.hasPrefix (l.drop k) [60, c] = true := by
  rw [drop2 h1, h0, hc]
  unfold Lib.hasPrefix
  simp [List.isPrefixOf]
/-- What begun leaves. -/
def BegunTo (R : Nat) (l : List UInt8) (k : Nat) (hk : k < l.length) (w : World) (e : Ending) (w' : World) : Prop :=
  Below w.heap.size w w' ∧ ((opens l[k] (l.drop (k + 1)) = false ∧ e = .returned .nilFunc) ∨ (opens l[k] (l.drop (k + 1)) = true ∧ ∃ g, Reads R l k g ∧ e = .returned (.func (.func g) #[.pointer (some ⟨R, 0, none⟩)] #[])))
set_option maxHeartbeats 4000000 in
set_option maxRecDepth 100000 in
theorem begun_c (R : Nat) (l : List UInt8) (hl : l.length ≤ 65536) (k : Nat) (hk : k < l.length) (v : Value) (w : World) (h : Bx R l k v w) :
    Calls Try.prog 22 #[.pointer (some ⟨R, 0, none⟩)] w (BegunTo R l k hk w) := by
  have hsz : ((S l).size : Int) = (l.length : Int) := by rw [size_S]
  have hsz2 : (S l).size = l.length := size_S l
  have c0 : w.cell? ⟨R, 0, none⟩ = some (.string (S l)) := (h.cell 0).trans rfl
  have c1 : w.cell? ⟨R, 1, none⟩ = some (.int .i64 (k : Int)) := (h.cell 1).trans rfl
  have hb0 : Below w.heap.size w (w.alloc (.cells #[.string ⟨#[]⟩] 9)) := (Below.refl _ w).alloc (Nat.le_refl _) _
  have d0 : (w.alloc (.cells #[.string ⟨#[]⟩] 9)).cell? ⟨R, 0, none⟩ = some (.string (S l)) := ((h.keep hb0).cell 0).trans rfl
  have d1 : (w.alloc (.cells #[.string ⟨#[]⟩] 9)).cell? ⟨R, 1, none⟩ = some (.int .i64 (k : Int)) := ((h.keep hb0).cell 1).trans rfl
  have i0 : (0 : Int) ≤ (k : Int) := by omega
  have i1 : (k : Int) ≤ (l.length : Int) := by omega
  have i4 : k ≤ l.length := by omega
  have hcut := (cutFrom (S l) k).trans (by rw [list_S] : S ((S l).data.toList.drop k) = S (l.drop k))
  rw [hsz2] at hcut
  have ho := fun p W => opens_c (l.drop k) p W
  have hbg := fun p b W (h : W.cell? ⟨b, 0, none⟩ = some (.string (S (l.drop k)))) => begins_c (l.drop k) p b W h
  have eb := enter_begins
  have HP := Lib.hid (fun (p : List UInt8) (i : Nat) (c : UInt8) (h : Lib.hasPrefix (l.drop k) p = true) (hc : p[i]? = some c) => pre_at h hc)
  obtain ⟨X, hX⟩ : ∃ X, X = S (l.drop k) := ⟨_, rfl⟩
  rw [← hX] at hcut ho hbg
  have HX := Lib.hid hX
  clear hX h hb0
  generalize S l = L at *
  have x0 : (w.alloc (.cells #[.string X] 9)).cell? ⟨w.heap.size, 0, none⟩ = some (.string X) := (cell_of_row _ _ 0 _ _ _ (heap_alloc_new w _)).trans rfl
  have HB := Lib.hid ((Below.refl w.heap.size w).alloc (Nat.le_refl _) (.cells #[.string X] 9))
  go_enter Try.func22, Try.ntmps22
  go_wp2
  go_region
  have HB1 : Hid (Below w.heap.size w (w.alloc (.cells #[.string X] 9)).drew) := HB.out.drew
  have y0 : (w.alloc (.cells #[.string X] 9)).drew.cell? ⟨w.heap.size, 0, none⟩ = some (.string X) := x0
  clear x0 d0 d1 c0 c1
  generalize (w.alloc (.cells #[.string X] 9)).drew = W at HB1 y0 ⊢
  cases h1 : opensB (l.drop k) [60] with
  | true =>
    obtain ⟨hp, hk1, hlt⟩ := opensB_at h1
    obtain ⟨_, q0⟩ := HP.out [60] 0 60 hp rfl
    go_wp2_with (first | (go_at_call 31; refine (ho _ _).mono ?_; rintro e1 W1 ⟨rfl, rfl⟩) | (go_at_fn 29; refine (hbg _ _ _ y0).mono ?_; rintro e1 W1 ⟨rfl, rfl⟩))
    go_ret
    exact ⟨HB1.out, .inr ⟨op_true hk q0 hk1 (.inl hlt), _, reads_start hl hk1 hlt, rfl⟩⟩
  | false =>
  cases h2 : opensB (l.drop k) [60, 47] with
  | true =>
    obtain ⟨hp, hk1, hlt⟩ := opensB_at h2
    obtain ⟨_, q0⟩ := HP.out [60, 47] 0 60 hp rfl
    obtain ⟨hk2, q1⟩ := HP.out [60, 47] 1 47 hp rfl
    go_wp2_with (first | (go_at_call 31; refine (ho _ _).mono ?_; rintro e1 W1 ⟨rfl, rfl⟩) | (go_at_fn 29; refine (hbg _ _ _ y0).mono ?_; rintro e1 W1 ⟨rfl, rfl⟩))
    go_ret
    exact ⟨HB1.out, .inr ⟨op_true hk q0 hk2 (.inr (.inr (.inr ⟨q1, hk1⟩))), _, reads_end hl hk1 q1 hlt, rfl⟩⟩
  | false =>
  cases h3 : Lib.hasPrefix (l.drop k) [60, 33, 45, 45] with
  | true =>
    obtain ⟨_, q0⟩ := HP.out _ 0 60 h3 rfl
    obtain ⟨hk2, q1⟩ := HP.out _ 1 33 h3 rfl
    obtain ⟨hk3, _⟩ := HP.out _ 3 45 h3 rfl
    go_wp2_with (first | (go_at_call 31; refine (ho _ _).mono ?_; rintro e1 W1 ⟨rfl, rfl⟩) | (go_at_fn 29; refine (hbg _ _ _ y0).mono ?_; rintro e1 W1 ⟨rfl, rfl⟩))
    go_ret
    exact ⟨HB1.out, .inr ⟨op_true hk q0 hk2 (.inr (.inl q1)), _, reads_com hl hk3 h3, rfl⟩⟩
  | false =>
  cases h4 : Lib.hasPrefix (l.drop k) [60, 33] with
  | true =>
    obtain ⟨_, q0⟩ := HP.out _ 0 60 h4 rfl
    obtain ⟨hk2, q1⟩ := HP.out _ 1 33 h4 rfl
    have hno : [45, 45].isPrefixOf (l.drop (k + 2)) = false := by
      cases hq : [45, 45].isPrefixOf (l.drop (k + 2)) with
      | false => rfl
      | true =>
        rw [drop2 hk2, show l[k] = 60 from q0, q1] at h3
        unfold Lib.hasPrefix at h3
        simp [List.isPrefixOf] at h3
        rw [h3] at hq
        cases hq
    go_wp2_with (first | (go_at_call 31; refine (ho _ _).mono ?_; rintro e1 W1 ⟨rfl, rfl⟩) | (go_at_fn 29; refine (hbg _ _ _ y0).mono ?_; rintro e1 W1 ⟨rfl, rfl⟩))
    go_ret
    exact ⟨HB1.out, .inr ⟨op_true hk q0 hk2 (.inr (.inl q1)), _, reads_bog hl hk2 q0 (.inl ⟨q1, hno⟩), rfl⟩⟩
  | false =>
  cases h5 : Lib.hasPrefix (l.drop k) [60, 63] with
  | true =>
    obtain ⟨_, q0⟩ := HP.out _ 0 60 h5 rfl
    obtain ⟨hk2, q1⟩ := HP.out _ 1 63 h5 rfl
    go_wp2_with (first | (go_at_call 31; refine (ho _ _).mono ?_; rintro e1 W1 ⟨rfl, rfl⟩) | (go_at_fn 29; refine (hbg _ _ _ y0).mono ?_; rintro e1 W1 ⟨rfl, rfl⟩))
    go_ret
    exact ⟨HB1.out, .inr ⟨op_true hk q0 hk2 (.inr (.inr (.inl q1))), _, reads_bog hl hk2 q0 (.inr (.inl q1)), rfl⟩⟩
  | false =>
  have hlist : X.toList = l.drop k := by rw [HX.out, ByteArray.toList_eq, list_S]
  cases h6 : Lib.hasPrefix (l.drop k) [60, 47] with
  | true =>
    obtain ⟨_, q0⟩ := HP.out _ 0 60 h6 rfl
    obtain ⟨hk2, q1⟩ := HP.out _ 1 47 h6 rfl
    by_cases h7 : k + 2 < l.length
    · have hne : (X.toList == [60, 47]) = false := by
        rw [beq_eq_false_iff_ne, hlist]
        intro e
        have := congrArg List.length e
        rw [List.length_drop] at this
        simp at this
        omega
      have hlt := opensB_no h2 h6 h7
      clear hlist
      go_wp2_with (first | (go_at_call 31; refine (ho _ _).mono ?_; rintro e1 W1 ⟨rfl, rfl⟩) | (go_at_fn 29; refine (hbg _ _ _ y0).mono ?_; rintro e1 W1 ⟨rfl, rfl⟩))
      go_ret
      exact ⟨HB1.out, .inr ⟨op_true hk q0 hk2 (.inr (.inr (.inr ⟨q1, h7⟩))), _, reads_bog hl hk2 q0 (.inr (.inr ⟨q1, h7, hlt⟩)), rfl⟩⟩
    · have hne : (X.toList == [60, 47]) = true := by
        rw [beq_iff_eq, hlist, drop2 hk2, List.drop_eq_nil_of_le (by omega), show l[k] = 60 from q0, q1]
      have hop : opens l[k] (l.drop (k + 1)) = false := by
        cases ho : opens l[k] (l.drop (k + 1)) with
        | false => rfl
        | true =>
          exfalso
          obtain ⟨_, _, hc⟩ := op_cases hk ho
          have hl47 : letB 47 = false := by decide
          rw [q1] at hc
          rcases hc with h | h | h | ⟨_, h⟩
          · rw [hl47] at h; cases h
          · exact absurd h (by decide)
          · exact absurd h (by decide)
          · exact h7 h
      clear hlist
      go_wp2_with (first | (go_at_call 31; refine (ho _ _).mono ?_; rintro e1 W1 ⟨rfl, rfl⟩) | (go_at_fn 29; refine (hbg _ _ _ y0).mono ?_; rintro e1 W1 ⟨rfl, rfl⟩))
      go_ret
      exact ⟨HB1.out, .inl ⟨hop, rfl⟩⟩
  | false =>
    have hop : opens l[k] (l.drop (k + 1)) = false := by
      cases ho : opens l[k] (l.drop (k + 1)) with
      | false => rfl
      | true =>
        exfalso
        obtain ⟨q0, hk1, hc⟩ := op_cases hk ho
        rcases hc with h | h | h | ⟨h, _⟩
        · have hp : Lib.hasPrefix (l.drop k) [60] = true := by
            rw [drop2 hk1, q0]
            unfold Lib.hasPrefix
            simp [List.isPrefixOf]
          have h9 : letB l[k + 1] = false := opensB_no h1 hp hk1
          rw [h] at h9
          cases h9
        · rw [pre_two hk q0 hk1 h] at h4; cases h4
        · rw [pre_two hk q0 hk1 h] at h5; cases h5
        · rw [pre_two hk q0 hk1 h] at h6; cases h6
    clear hlist
    go_wp2_with (first | (go_at_call 31; refine (ho _ _).mono ?_; rintro e1 W1 ⟨rfl, rfl⟩) | (go_at_fn 29; refine (hbg _ _ _ y0).mono ?_; rintro e1 W1 ⟨rfl, rfl⟩))
    go_ret
    exact ⟨HB1.out, .inl ⟨hop, rfl⟩⟩
end Go.Proofs.Ytidfcajhmldieaa.Tkc

/-
  Contract of all of package tokens: the whole text read.
-/
namespace Go.Proofs.Ytidfcajhmldieaa.Tkc
open Go.RowKit Go.Proofs.Ytidfcajhmldieaa.Oct Go.Proofs.Ytidfcajhmldieaa.Utf Go.Proofs.Ytidfcajhmldieaa.Crf Go.Proofs.Ytidfcajhmldieaa.Tab Go.Proofs.Ytidfcajhmldieaa.Tok

theorem eql_fn (w : World) (g : Nat) (first cap : Array Value) : (binOp .eql 1 (.func (.func g) first cap) .nilFunc).run Try.prog w = .ok (.bool false) w := by
  have h : Try.prog.underlying 1 = some (.func #[] #[] false) := Try.underlying1
  have hd : ∀ d : Nat, (Op.equalIn (d + 1) 1 (.func (.func g) first cap) .nilFunc).run Try.prog w = .ok false w := fun d => by
    simp [Op.equalIn, run_underlying h]
  simp only [binOp]
  simp [Op.equal, Op.maxDepth, hd 9999]
theorem eql_nofn (w : World) : (binOp .eql 1 .nilFunc .nilFunc).run Try.prog w = .ok (.bool true) w := by
  have h : Try.prog.underlying 1 = some (.func #[] #[] false) := Try.underlying1
  have hd : ∀ d : Nat, (Op.equalIn (d + 1) 1 .nilFunc .nilFunc).run Try.prog w = .ok true w := fun d => by
    simp [Op.equalIn, run_underlying h]
  simp only [binOp]
  simp [Op.equal, Op.maxDepth, hd 9999]
/-- What all leaves: the tokens are too many, or they are told. -/
inductive AllTo (R : Nat) (l : List UInt8) (w : World) (e : Ending) (w' : World) : Prop
  | many (he : e = Fault 3) (hn : 4096 < (tokL l).length) (hb : Below R w w')
  | done (he : e = .returned (.tuple #[])) (k : Nat) (v : Value) (ps : List (Tk × Value)) (h : RdT R l k v ps w') (hn : ps.length ≤ 4096) (hd : ps.map Prod.fst = tokL l) (hb : Below R w w')
theorem grown_q {w w' : World} {q : Nat} (h : w' = w.drewN q) : Below w.heap.size w w' := h ▸ Oct.below_drewN (Below.refl _ w) q
set_option maxHeartbeats 8000000 in
set_option maxRecDepth 100000 in
theorem all_c (R : Nat) (l : List UInt8) (hl : l.length ≤ 65536) (w : World) (h : RdT R l 0 (.slice none 0 0) [] w) (hM : MaxAt w) (hRM : 0 < R) :
    Calls Try.prog 17 #[.pointer (some ⟨R, 0, none⟩)] w (AllTo R l w) := by
  have hsz : ((S l).size : Int) = (l.length : Int) := by rw [size_S]
  have HX : Hid (∀ j v W, Bx R l j v W → W.cell? ⟨R, 0, none⟩ = some (.string (S l)) ∧ W.cell? ⟨R, 1, none⟩ = some (.int .i64 (j : Int)) ∧ W.frozen? ⟨R, 1, none⟩ = false) := fun j v W h => ⟨(h.cell 0).trans rfl, (h.cell 1).trans rfl, h.froz 1⟩
  have HM : Hid (∀ W, Below R w W → MaxAt W) := fun W hW => by
    obtain ⟨m, hm⟩ := hM
    exact ⟨m, (hW.cell (p := ⟨0, 0, none⟩) hRM).trans hm⟩
  have H0 := Lib.hid h
  have hlow := h.low
  clear h hM hRM
  generalize S l = L at *
  go_enter Try.func17, Try.ntmps17
  go_wp2_with fail
  go_loopw [2] (fun m wr => ∃ (f k : Nat) (v : Value) (ps : List (Tk × Value)), m = .int .i64 (f : Int) ∧ f ≤ k ∧ k ≤ l.length ∧ ps.length ≤ 4096 ∧ Hid (RdT R l k v ps wr) ∧ Hid (DataMid l f k (ps.map Prod.fst)) ∧ Hid (Below R w wr)) (fun _ wr => l.length - atOf R wr)
  case atStart => exact ⟨0, 0, _, [], rfl, Nat.le_refl _, Nat.zero_le _, Nat.zero_le _, H0.out, data_start l, Below.refl R w⟩
  case round =>
    clear H0
    obtain ⟨f, k, v, ps, rfl, hf, hkl, hn, hT, hD, hB⟩ := hrel
    obtain ⟨x0, x1, z1⟩ := HX.out _ _ _ hT.out.box
    have hAt := Lib.hid (hT.out.box.atOf)
    have i0 : (0 : Int) ≤ (k : Int) := by omega
    have i1 : (k : Int) ≤ (l.length : Int) := by omega
    have i2 : (l.length : Int) ≤ 65536 := by omega
    have hcl1 : (cut l f k).length ≤ 4398046511104 := Nat.le_trans (cut_len_le l f k) (by omega)
    have hsi := fun W (h : Bx R l k v W) => since_c R l k f v W h hf hkl
    have hde := fun W => decode_c (cut l f k) hcl1 W
    have htl := fun W (h : RdT R l k v ps W) => tellText_c R l k v ps W h (decL' (cut l f k)) hn
    by_cases hk : k < l.length
    · have hd : decide ((k : Int) < (l.length : Int)) = true := decide_eq_true (by omega)
      go_wp2_with fail
      go_quiet (fail)
      have T1 := hT.out.grow (Oct.below_drewN (Below.refl _ wr) nq)
      have HT1 := Lib.hid (And.intro T1 (hB.out.trans ((Oct.below_drewN (Below.refl _ wr) nq).mono hT.out.low)))
      have hbe := begun_c R l hl k hk v _ T1.box
      clear T1 x0 x1 z1
      generalize wr.drewN nq = w1 at HT1 hbe ⊢
      go_wp2_with fail
      refine hbe.mono ?_
      clear hbe
      rintro e2 w2 ⟨hb2, (⟨hop, rfl⟩ | ⟨hop, g, ⟨eg, hread⟩, rfl⟩)⟩
      · have T2 := HT1.out.1.grow hb2
        have HT2 := Lib.hid (And.intro T2 (HT1.out.2.trans (hb2.mono HT1.out.1.low)))
        obtain ⟨y0, y1, z2⟩ := HX.out _ _ _ T2.box
        have HD2 := Lib.hid (data_go hk hf hop hD.out)
        have hq := eql_nofn w2
        clear T2 hb2 hop
        go_wp2_with fail
        go_roundw
        case rel => exact ⟨f, k + 1, v, ps, rfl, by omega, by omega, hn, HT2.out.1.keep (Keeps.set _ _) (HT2.out.1.box.at_ (k + 1)), HD2.out, HT2.out.2.trans ((Keeps.set w2 _).below HT2.out.1.low)⟩
        case measure =>
          have e1 := hAt.out
          have e2 := (HT2.out.1.box.at_ (k + 1)).atOf
          show l.length - atOf R _ < l.length - atOf R _
          rw [e1]
          have e3 : atOf R (w2.setCell ⟨R, 1, none⟩ (.int .i64 ((k : Int) + 1))) = k + 1 := e2
          first | (rw [e3]; omega) | (simp only [e3]; omega) | (rw [e2]; omega)
      · have HT2 := Lib.hid (And.intro (HT1.out.1.grow hb2) (HT1.out.2.trans (hb2.mono HT1.out.1.low)))
        have hopen := data_open hk hop hD.out
        have HO : Hid (OpenAt l k ((ps ++ txP (decL' (cut l f k))).map Prod.fst)) := by
          show OpenAt _ _ _
          rw [List.map_append, txP_fst]
          exact hopen
        have HRd := Lib.hid hread
        have hq := eql_fn w2 g #[.pointer (some ⟨R, 0, none⟩)] #[]
        clear hb2 hop hopen hread
        go_wp2_with (first
          | (go_at_call 25; refine (hsi _ HT2.out.1.box).mono ?_; rintro e3 w3 ⟨rfl, m3, hw3⟩; have HT3 := Lib.hid (And.intro (HT2.out.1.grow (grown_q hw3)) (HT2.out.2.trans ((grown_q hw3).mono HT2.out.1.low))); clear hw3)
          | (go_at_call 24; refine (hde _).mono ?_; rintro e4 w4 ⟨rfl, h4⟩; have HT4 := Lib.hid (And.intro (HT3.out.1.grow h4) (HT3.out.2.trans (h4.mono HT3.out.1.low))); clear h4))
        refine (htl _ HT4.out.1).mono ?_
        intro e5 w5 ht
        cases ht with
        | many he hn5 hb5 =>
          subst he
          refine ⟨rfl, .many rfl ?_ (HT4.out.2.trans hb5)⟩
          have := data_len HO.out
          rw [List.length_map] at this
          exact Nat.lt_of_lt_of_le hn5 this
        | done he hn5 v5 h5 hm5 =>
          subst he
          have hb5 := HT4.out.2.trans (hm5.below HT4.out.1.low (own_ge HT4.out.1.out))
          have hrd := HRd.out w5 v5 _ h5 hn5 HO.out (HM.out w5 hb5)
          have H5 := Lib.hid (And.intro h5 hb5)
          clear h5 hm5 hb5
          go_wp2_with (go_at_fn g; fail)
          refine hrd.mono ?_
          clear hrd
          intro e6 w6 hw6
          cases hw6 with
          | many he hn6 hb6 =>
            subst he
            exact ⟨rfl, .many rfl hn6 (H5.out.2.trans hb6)⟩
          | done he k6 v6 ps6 h6 hk6 hk60 hn6 hd6 hb6 =>
            subst he
            obtain ⟨u0, u1, u2⟩ := HX.out _ _ _ h6.box
            have H6 := Lib.hid (And.intro h6 (And.intro hd6 (H5.out.2.trans hb6)))
            clear h6 hd6 hb6
            go_wp2_with fail
            go_roundw
            case rel => exact ⟨k6, k6, v6, ps6, rfl, Nat.le_refl _, hk6, hn6, H6.out.1, H6.out.2.1, H6.out.2.2⟩
            case measure =>
              have e1 := hAt.out
              have e2 := H6.out.1.box.atOf
              show l.length - atOf R _ < l.length - atOf R _
              rw [e1, e2]
              omega
    · have hd : decide ((k : Int) < (l.length : Int)) = false := decide_eq_false (by omega)
      have hend := data_end hk hD.out
      have HE : Hid ((ps ++ txP (decL' (cut l f k))).map Prod.fst = tokL l) := by
        show _ = _
        rw [List.map_append, txP_fst]
        exact hend.symm
      clear hend
      go_wp2_with fail
      go_quiet (fail)
      have HT2 := Lib.hid (And.intro (hT.out.grow (Oct.below_drewN (Below.refl _ wr) nq)) (hB.out.trans ((Oct.below_drewN (Below.refl _ wr) nq).mono hT.out.low)))
      clear x0 x1 z1
      generalize wr.drewN nq = w2 at HT2 ⊢
      go_wp2_with (first
        | (go_at_call 25; refine (hsi _ HT2.out.1.box).mono ?_; rintro e3 w3 ⟨rfl, m3, hw3⟩; have HT3 := Lib.hid (And.intro (HT2.out.1.grow (grown_q hw3)) (HT2.out.2.trans ((grown_q hw3).mono HT2.out.1.low))); clear hw3)
        | (go_at_call 24; refine (hde _).mono ?_; rintro e4 w4 ⟨rfl, h4⟩; have HT4 := Lib.hid (And.intro (HT3.out.1.grow h4) (HT3.out.2.trans (h4.mono HT3.out.1.low))); clear h4))
      refine (htl _ HT4.out.1).mono ?_
      intro e5 w5 ht
      cases ht with
      | many he hn5 hb5 =>
        subst he
        refine ⟨rfl, .many rfl ?_ (HT4.out.2.trans hb5)⟩
        rw [← HE.out, List.length_map]
        exact hn5
      | done he hn5 v5 h5 hm5 =>
        subst he
        have H5 := Lib.hid (And.intro h5 (HT4.out.2.trans (hm5.below HT4.out.1.low (own_ge HT4.out.1.out))))
        clear h5 hm5
        go_wp2_with fail
        go_end0
        exact .done rfl k v5 _ H5.out.1 hn5 HE.out H5.out.2
end Go.Proofs.Ytidfcajhmldieaa.Tkc

/-
  Contracts of faults.Caught at one of its instances, over whatever closure is handed in.
-/
namespace Go.Proofs.Ytidfcajhmldieaa.Tkc
open Go.RowKit Go.Proofs.Ytidfcajhmldieaa.Oct

theorem assert_fault (x : Value) (xT : TypeId) (w : World) : (Instr.typeAssert (.iface 50 x) xT 50 true).run Try.prog w = .ok (.tuple #[x, .bool true]) w := by kernel_rfl
theorem assert_nil (xT : TypeId) (w : World) : (Instr.typeAssert .nilIface xT 50 true).run Try.prog w = .ok (.tuple #[.agg #[.int .i64 0], .bool false]) w := by kernel_rfl

set_option maxHeartbeats 4000000 in
set_option maxRecDepth 100000 in
theorem catch_none (r : Nat) (w : World) :
    CallsD Try.prog 21 #[.pointer (some ⟨r, 0, none⟩)] .returning w fun e u' w' =>
      e = .returned (.tuple #[]) ∧ u' = .returning ∧ Below w.heap.size w w' := by
  have hta := assert_nil
  refine callsD_of_wpS Try.func21 rfl fun c₀ cs hu => ?_
  apply wpS_seq
  apply wpS_region
  simp [wpOpsS, go_sem, recoverD, hu, Try.ntmps21, Exit.thenS]
  refine wpS_of_wp ?_
  simp only [List.replicate, Array.replicate, List.setIfInBounds_toArray, List.set_cons_succ, List.set_cons_zero, List.append_toArray, List.cons_append, List.nil_append]
  go_wp2_with fail
  simp only [bodyPostS]
  exact ⟨trivial, .returning, by cases c₀; simp_all, .tuple #[], by simp [results, Try.results21], rfl, rfl, (Below.refl _ w).alloc (Nat.le_refl _) _⟩

set_option maxHeartbeats 400000 in
set_option maxRecDepth 100000 in
theorem catch_fault (r : Nat) (n x : Int) (w : World) (hx : w.cell? ⟨r, 0, none⟩ = some (.int .i64 x)) (hz : w.frozen? ⟨r, 0, none⟩ = false) (hr : r < w.heap.size) :
    CallsD Try.prog 21 #[.pointer (some ⟨r, 0, none⟩)] (.panicking [{ v := faultV n, recovered := false }]) w fun e u' w' =>
      e = .returned (.tuple #[]) ∧ u' = .panicking [{ v := faultV n, recovered := true }] ∧ w' = (w.setCell ⟨r, 0, none⟩ (.int .i64 n)).alloc (.cells #[.int .i64 n] 50) := by
  have hb := (Below.refl w.heap.size w).alloc (Nat.le_refl _) (.cells #[.int .i64 n] 50)
  have hx1 := (hb.cell (p := ⟨r, 0, none⟩) hr).trans hx
  have hz1 := (hb.frozen (p := ⟨r, 0, none⟩) hr).trans hz
  have hnc : (w.alloc (.cells #[.int .i64 n] 50)).cell? ⟨w.heap.size, 0, none⟩ = some (.int .i64 n) := cell_of_row _ w.heap.size 0 _ _ _ (heap_alloc_new w _)
  clear hb
  have hta := assert_fault (.agg #[.int .i64 n])
  refine callsD_of_wpS Try.func21 rfl fun c₀ cs hu => ?_
  replace hu : c₀.mode = .panicking [{ v := .iface 50 (.agg #[.int .i64 n]), recovered := false }] := hu
  apply wpS_seq
  apply wpS_region
  simp [wpOpsS, go_sem, recoverD, hu, Try.ntmps21, Exit.thenS]
  refine wpS_of_wp ?_
  simp only [List.replicate, Array.replicate, List.setIfInBounds_toArray, List.set_cons_succ, List.set_cons_zero, List.append_toArray, List.cons_append, List.nil_append]
  go_wp2_with fail
  show bodyPostS _ _ _ _ _ _ _ _ _
  simp only [bodyPostS]
  exact ⟨trivial, .panicking [{ v := faultV n, recovered := true }], by cases c₀; simp_all, .tuple #[], by simp [results, Try.results21], rfl, rfl, (by first | trivial | rfl)⟩

/-- The error's box. -/
abbrev errBox (w : World) : World := w.alloc (.cells #[.int .i64 0] 25)
/-- The world behind the closure's, with the error's box written. -/
theorem caught_fin {w W X : World} {n : Int} (hb : Below (errBox w).heap.size (errBox w) W) (hX : Below W.heap.size (W.setCell ⟨w.heap.size, 0, none⟩ (.int .i64 n)) X) :
    Below w.heap.size w X ∧ X.cell? ⟨w.heap.size, 0, none⟩ = some (.int .i64 n) ∧ ∀ b, w.heap.size + 1 ≤ b → b < W.heap.size → X.heap[b]? = W.heap[b]? := by
  have hsz : (errBox w).heap.size = w.heap.size + 1 := Array.size_push _
  have hlt : w.heap.size < W.heap.size := by have := hb.size; omega
  have hW : Below w.heap.size w W := ((Below.refl _ w).alloc (Nat.le_refl _) _).trans (hb.mono (by omega))
  have hbox : W.heap[w.heap.size]? = some (.cells #[.int .i64 0] 25 (0, 0)) := (hb.block _ (by omega)).trans (heap_alloc_new w _)
  have hset := heap_setCell_same W w.heap.size 0 _ _ (.int .i64 n) hbox
  refine ⟨(hW.setCell (p := ⟨w.heap.size, 0, none⟩) (Nat.le_refl _) _).trans (hX.mono (Nat.le_of_lt hlt)), cell_of_row X w.heap.size 0 _ _ _ ((hX.block _ hlt).trans hset), fun b h1 h2 => (hX.block b h2).trans (heap_setCell_other _ _ _ _ (by simp; omega))⟩

set_option maxHeartbeats 400000 in
set_option maxRecDepth 100000 in
theorem caught_any (g : Nat) (lb : Array Value) (w : World) (F : Int → World → Prop) (V : Value → World → Prop) (eg : ∀ args w, (callFunc g args).run Try.prog w = .ok (.enter g args) w)
    (hc : Calls Try.prog g lb (errBox w) fun e W => Below (errBox w).heap.size (errBox w) W ∧ ((∃ n, e = Fault n ∧ F n W) ∨ ∃ v, e = .returned v ∧ V v W)) :
    Calls Try.prog 15 #[.func (.func g) #[] lb] w fun e w' => ∃ W, Below w.heap.size w w' ∧ (∀ b, w.heap.size + 1 ≤ b → b < W.heap.size → w'.heap[b]? = W.heap[b]?) ∧
      ((∃ n, e = .returned (.tuple #[.slice none 0 0, .int .i64 n]) ∧ F n W) ∨ ∃ v, e = .returned (.tuple #[v, .int .i64 0]) ∧ V v W) := by
  have hmf : ∀ (fn : Fn) (first cap : Array Value) (w : World), (Instr.makeFunc fn first cap).run Try.prog w = .ok (.func fn first cap) w := fun _ _ _ _ => rfl
  have hsz : (errBox w).heap.size = w.heap.size + 1 := Array.size_push _
  have HC := Lib.hid hc
  clear hc
  go_enter_defers Try.func15, Try.ntmps15
  have HF : Hid (∀ W, Below (errBox w).heap.size (errBox w) W → W.cell? ⟨w.heap.size, 0, none⟩ = some (.int .i64 0) ∧ W.frozen? ⟨w.heap.size, 0, none⟩ = false ∧ w.heap.size < W.heap.size) := fun W hb => by
    have hbox : W.heap[w.heap.size]? = some (.cells #[.int .i64 0] 25 (0, 0)) := (hb.block _ (by omega)).trans (heap_alloc_new w _)
    exact ⟨(cell_of_row W w.heap.size 0 _ _ _ hbox).trans rfl, frozen_of_row W w.heap.size 0 _ _ hbox, (Array.getElem?_eq_some_iff.1 hbox).1⟩
  go_wp2_with (go_at_fn g; refine HC.out.mono ?_; rintro e1 W1 ⟨hb, (⟨n, rfl, hF⟩ | ⟨v, rfl, hV⟩)⟩ <;> obtain ⟨xc, xz, xl⟩ := HF.out W1 hb)
  · refine leaves_cons (f := 21) (args := #[.pointer (some ⟨w.heap.size, 0, none⟩)]) (by simp) (by simp [go_sem]) ?_
    refine (catch_fault w.heap.size n 0 W1 xc xz xl).mono ?_
    rintro e u' w'' ⟨rfl, rfl, hw''⟩
    obtain ⟨f1, f2, f3⟩ := caught_fin hb (n := n) (X := w'') (by rw [hw'']; exact (by simpa using (Below.refl (W1.setCell ⟨w.heap.size, 0, none⟩ (.int .i64 n)).heap.size (W1.setCell ⟨w.heap.size, 0, none⟩ (.int .i64 n))).alloc (Nat.le_refl _) (.cells #[.int .i64 n] 50)))
    clear hw''
    simp [Leaves, settle, results, Try.results15, go_sem, f2]
    exact ⟨f1, W1, f3, .inl hF⟩
  · refine leaves_cons (f := 21) (args := #[.pointer (some ⟨w.heap.size, 0, none⟩)]) (by simp) (by simp [go_sem]) ?_
    refine (catch_none w.heap.size _).mono ?_
    rintro e u' w'' ⟨rfl, rfl, hw''⟩
    obtain ⟨f1, f2, f3⟩ := caught_fin hb (n := 0) (X := w'') (by simpa using hw'')
    clear hw''
    simp [Leaves, settle, results, Try.results15, go_sem, f2]
    exact ⟨f1, W1, f3, .inr hV⟩
end Go.Proofs.Ytidfcajhmldieaa.Tkc

/-
  Contract of Tokens of package tokens, at every text.
-/
namespace Go.Proofs.Ytidfcajhmldieaa.Tkc
open Go.RowKit Go.Proofs.Ytidfcajhmldieaa.Oct Go.Proofs.Ytidfcajhmldieaa.Utf Go.Proofs.Ytidfcajhmldieaa.Crf Go.Proofs.Ytidfcajhmldieaa.Tab Go.Proofs.Ytidfcajhmldieaa.Tok

/-- A list of tokens in memory, of the call's own, each with its attributes. -/
def ToksM (B : Nat) (w : World) (v : Value) (ts : List Tk) : Prop := ∃ ps : List (Tk × Value), ts = ps.map Prod.fst ∧ TkR B w v ps ∧ ∀ p ∈ ps, AtR B w p.2 p.1.a
/-- What Tokens answers: that the text is too long, that its tokens are too many, or they. -/
def TokTo (B : Nat) (l : List UInt8) (e : Ending) (w : World) : Prop :=
  if 65536 < l.length then e = .returned (.tuple #[.slice none 0 0, .int .i64 5])
  else if 4096 < (tokL l).length then e = .returned (.tuple #[.slice none 0 0, .int .i64 3])
  else ∃ v, e = .returned (.tuple #[v, .int .i64 0]) ∧ ToksM B w v (tokL l)
theorem enter_toks : ∀ args w, (callFunc 16 args).run Try.prog w = .ok (.enter 16 args) w := enters_of Try.func16 (by kernel_rfl) rfl
set_option maxHeartbeats 2000000 in
set_option maxRecDepth 100000 in
theorem toks1_c (l : List UInt8) (hl : l.length ≤ 65536) (sb : Nat) (w : World) (hs : w.cell? ⟨sb, 0, none⟩ = some (.string (S l))) (hM : MaxAt w) (hRM : 0 < w.heap.size) :
    Calls Try.prog 16 #[.pointer (some ⟨sb, 0, none⟩)] w fun e W => Below w.heap.size w W ∧ ((∃ n, e = Fault n ∧ (n = 3 ∧ 4096 < (tokL l).length)) ∨ ∃ v, e = .returned v ∧ (ToksM w.heap.size W v (tokL l) ∧ (tokL l).length ≤ 4096)) := by
  have hb : Below w.heap.size w (w.alloc (.cells (boxT l 0 (.slice none 0 0)) 42)) := (Below.refl _ w).alloc (Nat.le_refl _) _
  have hall := all_c w.heap.size l hl (w.alloc (.cells (boxT l 0 (.slice none 0 0)) 42)) ⟨heap_alloc_new w _, World.ownsRow_nil _ _ _ _, (fun p hp => nomatch hp), (fun p hp => nomatch hp)⟩ (hM.kept hb) hRM
  have HB := Lib.hid hb
  clear hb hM hRM
  go_enter Try.func16, Try.ntmps16
  go_wp2_with fail
  refine hall.mono ?_
  clear hall
  generalize w.alloc (.cells (boxT l 0 (.slice none 0 0)) 42) = w1 at HB ⊢
  intro e2 w2 ht
  cases ht with
  | many he hn hb2 =>
    subst he
    exact ⟨rfl, HB.out.trans hb2, .inl ⟨3, rfl, rfl, hn⟩⟩
  | done he k v ps h hn hd hb2 =>
    subst he
    have c2 : w2.cell? ⟨w.heap.size, 2, none⟩ = some v := (h.box.cell 2).trans rfl
    have H2 := Lib.hid (And.intro h (HB.out.trans hb2))
    clear h hb2
    go_wp2_with fail
    go_ret
    refine ⟨H2.out.2, .inr ⟨v, rfl, ⟨ps, hd.symm, own_less H2.out.1.out (Nat.le_succ _), fun p hp => own_less (H2.out.1.ats p hp) (Nat.le_succ _)⟩, ?_⟩⟩
    rw [← hd, List.length_map]
    exact hn
set_option maxHeartbeats 2000000 in
set_option maxRecDepth 100000 in
theorem toks_c (l : List UInt8) (w : World) (hM : MaxAt w) :
    Calls Try.prog 8 #[.string (S l)] w fun e w' => TokTo w.heap.size l e w' ∧ Below w.heap.size w w' := by
  have hsz : ((S l).size : Int) = (l.length : Int) := by rw [size_S]
  unfold TokTo
  by_cases hl : 65536 < l.length
  · simp only [if_pos hl]
    have hli : 65536 < (l.length : Int) := by omega
    have hd : decide (65536 < (l.length : Int)) = true := decide_eq_true hli
    clear hl hM
    generalize S l = L at *
    go_enter Try.func8, Try.ntmps8
    go_wp2_with fail
    go_ret2
    exact ⟨rfl, (Below.refl _ _).alloc (Nat.le_refl _) _⟩
  · simp only [if_neg hl]
    have hli : ¬ (65536 < (l.length : Int)) := by omega
    have hd : decide (65536 < (l.length : Int)) = false := decide_eq_false hli
    have hb1 : Below w.heap.size w (w.alloc (.cells #[.string (S l)] 9)) := (Below.refl _ w).alloc (Nat.le_refl _) _
    have hs1 : (w.alloc (.cells #[.string (S l)] 9)).heap.size = w.heap.size + 1 := Array.size_push _
    have hx1 : (w.alloc (.cells #[.string (S l)] 9)).cell? ⟨w.heap.size, 0, none⟩ = some (.string (S l)) := (cell_of_row _ _ 0 _ _ _ (heap_alloc_new w _)).trans rfl
    have hM1 := hM.kept hb1
    have hlt0 : 0 < w.heap.size := by
      obtain ⟨m, hm⟩ := hM
      exact World.block_lt_of_cell? _ _ hm
    have HW := Lib.hid (And.intro hb1 hs1)
    obtain ⟨w1, hw1⟩ : ∃ w1, w1 = w.alloc (.cells #[.string (S l)] 9) := ⟨_, rfl⟩
    rw [← hw1] at hb1 hs1 hx1 hM1 HW
    have hb2 : Below w1.heap.size w1 (errBox w1) := (Below.refl _ w1).alloc (Nat.le_refl _) _
    have hs2 : (errBox w1).heap.size = w1.heap.size + 1 := Array.size_push _
    have hc := caught_any 16 #[.pointer (some ⟨w.heap.size, 0, none⟩)] w1 (fun n _ => n = 3 ∧ 4096 < (tokL l).length) (fun v W => ToksM (errBox w1).heap.size W v (tokL l) ∧ (tokL l).length ≤ 4096) enter_toks
      (toks1_c l (by omega) w.heap.size (errBox w1) ((hb2.cell (p := ⟨w.heap.size, 0, none⟩) (by rw [hs1]; exact Nat.lt_succ_self _)).trans hx1) (hM1.kept hb2) (by omega))
    have HS2 := Lib.hid hs2
    rw [hw1] at hc
    clear hb1 hs1 hx1 hM1 hb2 hs2 hl hM
    generalize S l = L at *
    go_enter Try.func8, Try.ntmps8
    go_wp2_with fail
    refine hc.mono ?_
    clear hc
    rw [← hw1]
    rintro e2 w2 ⟨W, hbW, hW, (⟨n, rfl, rfl, hn⟩ | ⟨v, rfl, ⟨ps, hts, hro, hat⟩, hn⟩)⟩
    · have hb := HW.out.1.trans (hbW.mono (by rw [HW.out.2]; omega))
      clear hbW hW hw1
      go_wp2_with fail
      go_ret2
      exact ⟨rfl, hb⟩
    · have hb := HW.out.1.trans (hbW.mono (by rw [HW.out.2]; omega))
      have hm : ToksM w.heap.size w2 v (tokL l) := by
        have h2 : w1.heap.size + 1 ≤ (errBox w1).heap.size := by rw [HS2.out]; omega
        have h3 : w.heap.size ≤ (errBox w1).heap.size := by rw [HS2.out, HW.out.2]; omega
        refine ⟨ps, hts, own_less (own_same hro fun k hk he => hW k (Nat.le_trans h2 hk) (own_lt hro k he)) h3, fun p hp => own_less (own_same (hat p hp) fun k hk he => hW k (Nat.le_trans h2 hk) (own_lt (hat p hp) k he)) h3⟩
      clear hbW hW hw1 hts hro hat
      go_wp2_with fail
      go_ret2
      exact ⟨⟨v, rfl, hm⟩, hb⟩
end Go.Proofs.Ytidfcajhmldieaa.Tkc

/-
  A list of tokens as the laws of layer 12 read it; the page's example.
-/
namespace Go.Proofs.Ytidfcajhmldieaa.Tkc
open Go.RowKit Go.Proofs.Ytidfcajhmldieaa.Oct Go.Proofs.Ytidfcajhmldieaa.Utf Go.Proofs.Ytidfcajhmldieaa.Crf Go.Proofs.Ytidfcajhmldieaa.Tab Go.Proofs.Ytidfcajhmldieaa.Tok

theorem flat_cell {α : Type} (f : α → List Value) (m : Nat) (hf : ∀ x, (f x).length = m) (l : List α) : ∀ (i : Nat) (h : i < l.length) (j : Nat), j < m → (l.flatMap f)[i * m + j]? = (f l[i])[j]? := by
  induction l with
  | nil => intro i h; exact absurd h (Nat.not_lt_zero _)
  | cons x t ih =>
    intro i h j hj
    rw [List.flatMap_cons]
    cases i with
    | zero =>
      rw [Nat.zero_mul, Nat.zero_add, List.getElem?_append_left (by rw [hf]; exact hj)]
      rfl
    | succ i =>
      rw [List.getElem?_append_right (by rw [hf, Nat.succ_mul]; omega)]
      have e : (i + 1) * m + j - (f x).length = i * m + j := by rw [hf, Nat.succ_mul]; omega
      rw [e]
      exact ih i (by simpa using h) j hj
/-- A row that is not empty: its block, and its cells. -/
theorem own_cells {w : World} {B size n : Nat} {e : TypeId} {v : Value} {xs : List Value} (h : w.ownsRow B e size v n xs) (hn : 0 < n) : ∃ g cap, v = .slice (some ⟨g, 0, none⟩) n cap ∧ B ≤ g ∧ ∀ j u, xs[j]? = some u → w.cell? ⟨g, j, none⟩ = some u := by
  rcases h.2 with ⟨rfl, h0⟩ | ⟨g, cap, cur, rfl, hb, hg, rest⟩
  · omega
  · refine ⟨g, cap, rfl, hb, fun j u hu => ?_⟩
    have hlt : j < xs.length := (List.getElem?_eq_some_iff.1 hu).1
    rw [h.cellAt j (by rw [← h.1]; exact hlt)]
    exact hu
/-- A token of a list as it is read: its five cells. -/
structure TkAt (w : World) (g i : Nat) (t : Tk) (va : Value) : Prop where
  k : w.cell? ⟨g, i * 5, none⟩ = some (.int .i64 t.k)
  n : w.cell? ⟨g, i * 5 + 1, none⟩ = some (.string (S t.n))
  x : w.cell? ⟨g, i * 5 + 2, none⟩ = some (.string (S t.x))
  a : w.cell? ⟨g, i * 5 + 3, none⟩ = some va
  c : w.cell? ⟨g, i * 5 + 4, none⟩ = some (.bool t.c)
theorem TkAt.keep {w w' : World} {g i : Nat} {t : Tk} {va : Value} (h : TkAt w g i t va) (hb : Below w.heap.size w w') : TkAt w' g i t va :=
  ⟨(hb.cell (World.block_lt_of_cell? _ _ h.k)).trans h.k, (hb.cell (World.block_lt_of_cell? _ _ h.n)).trans h.n, (hb.cell (World.block_lt_of_cell? _ _ h.x)).trans h.x, (hb.cell (World.block_lt_of_cell? _ _ h.a)).trans h.a, (hb.cell (World.block_lt_of_cell? _ _ h.c)).trans h.c⟩
theorem toks_at {B : Nat} {w : World} {v : Value} {ts : List Tk} (h : ToksM B w v ts) (hn : 0 < ts.length) : ∃ g cap, v = .slice (some ⟨g, 0, none⟩) ts.length cap ∧ B ≤ g ∧ ∀ i (hi : i < ts.length), ∃ va, TkAt w g i ts[i] va ∧ AtR B w va ts[i].a := by
  obtain ⟨ps, rfl, ho, ha⟩ := h
  rw [List.length_map] at hn
  obtain ⟨g, cap, hv, hB, hc⟩ := own_cells ho hn
  refine ⟨g, cap, by rw [List.length_map]; exact hv, hB, fun i hi => ?_⟩
  have hi' : i < ps.length := by rw [List.length_map] at hi; exact hi
  have e := fun j (hj : j < 5) => flat_cell tkCs 5 (fun _ => rfl) ps i hi' j hj
  have em : (ps.map Prod.fst)[i] = ps[i].1 := List.getElem_map _
  rw [em]
  exact ⟨ps[i].2, ⟨hc _ _ (e 0 (by decide)), hc _ _ (e 1 (by decide)), hc _ _ (e 2 (by decide)), hc _ _ (e 3 (by decide)), hc _ _ (e 4 (by decide))⟩, ha _ (List.getElem_mem hi')⟩
theorem num_c (n : Int) (w : World) : Calls Try.prog 9 #[.int .i64 n] w fun e w' => e = .returned (.int .i64 n) ∧ w = w' := by
  go_enter Try.func9, Try.ntmps9
  go_wp2
  go_ret
  exact ⟨rfl, rfl⟩
theorem tok_alive : tokL [60, 112, 62, 97] = [⟨1, [112], [], [], false⟩, txTk [97]] := by decide +kernel
set_option maxRecDepth 100000 in
theorem alive_c (w : World) (hM : MaxAt w) : Calls Try.prog 6 #[] w fun e w' => e = .returned (.bool true) ∧ Below w.heap.size w w' := by
  have h1 := toks_c [60, 112, 62, 97] w hM
  have hn := num_c
  clear hM
  go_enter Try.func6, Try.ntmps6
  go_wp2_with fail
  refine h1.mono ?_
  clear h1
  rintro e w1 ⟨ht, hb1⟩
  unfold TokTo at ht
  rw [if_neg (by decide), tok_alive, if_neg (by decide)] at ht
  obtain ⟨v, rfl, hv⟩ := ht
  obtain ⟨g, cap, rfl, _, hat⟩ := toks_at hv (by decide)
  obtain ⟨va, h0, _⟩ := hat 0 (by decide)
  obtain ⟨vb, h1, _⟩ := hat 1 (by decide)
  have c1 : w1.cell? ⟨g, 1, none⟩ = some (.string ⟨#[112]⟩) := h0.n
  have c2 : w1.cell? ⟨g, 7, none⟩ = some (.string ⟨#[97]⟩) := h1.x
  clear hv hat h0 h1
  go_wp2_with (go_at_call 9; refine (hn _ _).mono ?_; rintro e2 w2 ⟨rfl, rfl⟩)
  go_ret
  exact ⟨rfl, hb1⟩
end Go.Proofs.Ytidfcajhmldieaa.Tkc

/-
  Contract of the page's Escape.
-/
namespace Go.Proofs.Ytidfcajhmldieaa.Crf
open Go.RowKit Go.Proofs.Ytidfcajhmldieaa.Oct Go.Proofs.Ytidfcajhmldieaa.Num Go.Proofs.Ytidfcajhmldieaa.Utf Go.Proofs.Ytidfcajhmldieaa.Mem
open Go.Lib (encodeRune)

set_option maxHeartbeats 1000000 in
set_option maxRecDepth 100000 in
/-- Contract of the page's Escape. -/
theorem rEscape_c (s0 : ByteArray) (hs : s0.size ≤ 134217728) (w : World) :
    Calls Try.prog 7 #[.string s0] w fun e w' => e = .returned (.string (S (escL (rep s0.data.toList)))) ∧ Below w.heap.size w w' := by
  obtain ⟨i0, hi, hz0, hz1, hz2⟩ := info_parts Mem.info_u8
  have hrp := rrepair_c s0 (by omega) w
  have hrl : (rep s0.data.toList).length ≤ 4 * s0.size := by
    have h1 := encs_len (chars s0.data.toList)
    have h2 := chars_len s0.data.toList
    rw [size_list] at h2
    unfold rep
    omega
  generalize rep s0.data.toList = r at hrp hrl
  have hrl2 : r.length ≤ 536870912 := by omega
  have HX := Lib.hid (fun k (h : k < (S r).size) => (by
    have h' : k < r.length := by rw [← size_S]; exact h
    exact ⟨h', rfl⟩ : ∃ h' : k < r.length, (S r)[k]'h = r[k]'h'))
  have hsz : (S r).size = r.length := size_S r
  have hszi : ((S r).size : Int) = (r.length : Int) := by rw [size_S]
  have HNext := Lib.hid (fun k (h : k < r.length) => (by rw [List.take_succ_eq_append_getElem h, esc_snoc] : escL (r.take (k + 1)) = escL (r.take k) ++ escO r[k]))
  have HLen := Lib.hid (fun k => esc_len (r.take k))
  generalize S r = s at hrp HX hsz hszi
  clear hrl hs
  go_enter Try.func7, Try.ntmps7
  go_wp2_with fail
  refine hrp.mono ?_
  rintro e w1 ⟨rfl, hb1⟩
  have HB1 := Lib.hid (show Below w.heap.size w w1 from hb1)
  clear hb1 hrp
  go_wp2_with fail
  go_loopw [4, 5] (fun b i wr => ∃ k : Nat, k ≤ r.length ∧ i = .int .i64 k ∧ Hid (Row w1.heap.size b (escL (r.take k)) wr) ∧ Hid (Below w1.heap.size w1 wr)) (fun _ i _ => r.length - (intOf i).toNat)
  case atStart => exact ⟨0, Nat.zero_le _, rfl, World.ownsRow_nil _ _ _ _, Below.refl _ _⟩
  case round =>
    obtain ⟨k, hk, rfl, hrow, hb⟩ := hrel
    by_cases hlt : k < r.length
    · have hks : k < s.size := by omega
      obtain ⟨h', hx⟩ := HX.out k hks
      have hnx := HNext.out k hlt
      have hB : w1.heap.size ≤ wr.heap.size := hb.out.size
      have i0' : (0 : Int) ≤ (k : Int) := by omega
      have i1 : (k : Int) < (r.length : Int) := by omega
      have hln := HLen.out k
      rw [List.length_take] at hln
      obtain ⟨o, ho⟩ : ∃ o, o = escL (r.take k) := ⟨_, rfl⟩
      rw [← ho] at hnx hln hrow
      obtain ⟨m, hm⟩ : ∃ m, m = o.length := ⟨_, rfl⟩
      have hrow' : wr.ownsRow w1.heap.size 5 1 u4 m (o.map Mem.bv) := by rw [hm]; exact hrow.out
      have HR := Lib.hid hrow'
      have hml : m ≤ 2684354560 := by omega
      have HM := Lib.hid hm
      have HO := Lib.hid ho
      have HNx := Lib.hid hnx
      have hxn : s[k].toNat = r[k].toNat := by rw [hx]
      have hxu : s[k].toNat < 256 := s[k].toNat_lt
      clear hrow' hrow ho hm hnx hln
      by_cases h38 : r[k] = 38
      · have hE : Hid (escL (r.take (k + 1)) = o ++ [38, 97, 109, 112, 59]) := by show _ = _; rw [HNx.out, h38]; rfl
        have e38 : ((s[k].toNat : Int) == 38) = true := by rw [hxn, h38]; rfl
        have HC : Hid (Lib.strCells (⟨#[38, 97, 109, 112, 59]⟩ : ByteArray) = ([38, 97, 109, 112, 59] : List UInt8).map Mem.bv ∧ (⟨#[38, 97, 109, 112, 59]⟩ : ByteArray).size = ([38, 97, 109, 112, 59] : List UInt8).length) := cells_S [38, 97, 109, 112, 59]
        clear hxn hx h38
        go_wp2_with (at_builtin; refine Lib.wpList_append_own_string _ rfl _ _ 39 9 rfl w1.heap.size 5 i0 Try.underlying39 Try.underlying9 hi hz0 hz1 hz2 _ m _ rfl HR.out (⟨#[38, 97, 109, 112, 59]⟩ : ByteArray) rfl (by rw [HC.out.2]; unfold maxLen; simp; omega) (by rw [HC.out.2]; simp; omega) hB ?_)
        intro v' w3 hown hg _
        have HO2 : Hid (Row w1.heap.size v' (escL (r.take (k + 1))) w3) := by
          show Row _ _ _ _
          rw [hE.out]
          refine Row.more ?_
          rw [← HC.out.1, ← HC.out.2, ← HM.out]
          exact hown
        have HB3 : Hid (Below w1.heap.size w1 w3) := hb.out.grown hg hB (own_base HR.out)
        clear hown hg
        go_wp2_with fail
        go_roundw
        case rel => exact ⟨k + 1, by omega, by go_num, HO2, HB3⟩
        case measure => simp [intOf]; omega
      have n38 : ((s[k].toNat : Int) == 38) = false := by rw [beq_eq_false_iff_ne]; intro e; exact h38 (UInt8.toNat_inj.1 (by have : (38 : UInt8).toNat = 38 := rfl; omega))
      by_cases h60 : r[k] = 60
      · have hE : Hid (escL (r.take (k + 1)) = o ++ [38, 108, 116, 59]) := by show _ = _; rw [HNx.out, h60]; rfl
        have e60 : ((s[k].toNat : Int) == 60) = true := by rw [hxn, h60]; rfl
        have e38 : ((s[k].toNat : Int) == 38) = false := by rw [hxn, h60]; rfl
        have HC : Hid (Lib.strCells (⟨#[38, 108, 116, 59]⟩ : ByteArray) = ([38, 108, 116, 59] : List UInt8).map Mem.bv ∧ (⟨#[38, 108, 116, 59]⟩ : ByteArray).size = ([38, 108, 116, 59] : List UInt8).length) := cells_S [38, 108, 116, 59]
        clear hxn hx h60 n38
        go_wp2_with (at_builtin; refine Lib.wpList_append_own_string _ rfl _ _ 39 9 rfl w1.heap.size 5 i0 Try.underlying39 Try.underlying9 hi hz0 hz1 hz2 _ m _ rfl HR.out (⟨#[38, 108, 116, 59]⟩ : ByteArray) rfl (by rw [HC.out.2]; unfold maxLen; simp; omega) (by rw [HC.out.2]; simp; omega) hB ?_)
        intro v' w3 hown hg _
        have HO2 : Hid (Row w1.heap.size v' (escL (r.take (k + 1))) w3) := by
          show Row _ _ _ _
          rw [hE.out]
          refine Row.more ?_
          rw [← HC.out.1, ← HC.out.2, ← HM.out]
          exact hown
        have HB3 : Hid (Below w1.heap.size w1 w3) := hb.out.grown hg hB (own_base HR.out)
        clear hown hg
        go_wp2_with fail
        go_roundw
        case rel => exact ⟨k + 1, by omega, by go_num, HO2, HB3⟩
        case measure => simp [intOf]; omega
      have n60 : ((s[k].toNat : Int) == 60) = false := by rw [beq_eq_false_iff_ne]; intro e; exact h60 (UInt8.toNat_inj.1 (by have : (60 : UInt8).toNat = 60 := rfl; omega))
      by_cases h62 : r[k] = 62
      · have hE : Hid (escL (r.take (k + 1)) = o ++ [38, 103, 116, 59]) := by show _ = _; rw [HNx.out, h62]; rfl
        have e62 : ((s[k].toNat : Int) == 62) = true := by rw [hxn, h62]; rfl
        have e38 : ((s[k].toNat : Int) == 38) = false := by rw [hxn, h62]; rfl
        have e60 : ((s[k].toNat : Int) == 60) = false := by rw [hxn, h62]; rfl
        have HC : Hid (Lib.strCells (⟨#[38, 103, 116, 59]⟩ : ByteArray) = ([38, 103, 116, 59] : List UInt8).map Mem.bv ∧ (⟨#[38, 103, 116, 59]⟩ : ByteArray).size = ([38, 103, 116, 59] : List UInt8).length) := cells_S [38, 103, 116, 59]
        clear hxn hx h62 n38 n60
        go_wp2_with (at_builtin; refine Lib.wpList_append_own_string _ rfl _ _ 39 9 rfl w1.heap.size 5 i0 Try.underlying39 Try.underlying9 hi hz0 hz1 hz2 _ m _ rfl HR.out (⟨#[38, 103, 116, 59]⟩ : ByteArray) rfl (by rw [HC.out.2]; unfold maxLen; simp; omega) (by rw [HC.out.2]; simp; omega) hB ?_)
        intro v' w3 hown hg _
        have HO2 : Hid (Row w1.heap.size v' (escL (r.take (k + 1))) w3) := by
          show Row _ _ _ _
          rw [hE.out]
          refine Row.more ?_
          rw [← HC.out.1, ← HC.out.2, ← HM.out]
          exact hown
        have HB3 : Hid (Below w1.heap.size w1 w3) := hb.out.grown hg hB (own_base HR.out)
        clear hown hg
        go_wp2_with fail
        go_roundw
        case rel => exact ⟨k + 1, by omega, by go_num, HO2, HB3⟩
        case measure => simp [intOf]; omega
      have n62 : ((s[k].toNat : Int) == 62) = false := by rw [beq_eq_false_iff_ne]; intro e; exact h62 (UInt8.toNat_inj.1 (by have : (62 : UInt8).toNat = 62 := rfl; omega))
      by_cases h34 : r[k] = 34
      · have hE : Hid (escL (r.take (k + 1)) = o ++ [38, 35, 51, 52, 59]) := by show _ = _; rw [HNx.out, h34]; rfl
        have e34 : ((s[k].toNat : Int) == 34) = true := by rw [hxn, h34]; rfl
        have e38 : ((s[k].toNat : Int) == 38) = false := by rw [hxn, h34]; rfl
        have e60 : ((s[k].toNat : Int) == 60) = false := by rw [hxn, h34]; rfl
        have e62 : ((s[k].toNat : Int) == 62) = false := by rw [hxn, h34]; rfl
        have HC : Hid (Lib.strCells (⟨#[38, 35, 51, 52, 59]⟩ : ByteArray) = ([38, 35, 51, 52, 59] : List UInt8).map Mem.bv ∧ (⟨#[38, 35, 51, 52, 59]⟩ : ByteArray).size = ([38, 35, 51, 52, 59] : List UInt8).length) := cells_S [38, 35, 51, 52, 59]
        clear hxn hx h34 n38 n60 n62
        go_wp2_with (at_builtin; refine Lib.wpList_append_own_string _ rfl _ _ 39 9 rfl w1.heap.size 5 i0 Try.underlying39 Try.underlying9 hi hz0 hz1 hz2 _ m _ rfl HR.out (⟨#[38, 35, 51, 52, 59]⟩ : ByteArray) rfl (by rw [HC.out.2]; unfold maxLen; simp; omega) (by rw [HC.out.2]; simp; omega) hB ?_)
        intro v' w3 hown hg _
        have HO2 : Hid (Row w1.heap.size v' (escL (r.take (k + 1))) w3) := by
          show Row _ _ _ _
          rw [hE.out]
          refine Row.more ?_
          rw [← HC.out.1, ← HC.out.2, ← HM.out]
          exact hown
        have HB3 : Hid (Below w1.heap.size w1 w3) := hb.out.grown hg hB (own_base HR.out)
        clear hown hg
        go_wp2_with fail
        go_roundw
        case rel => exact ⟨k + 1, by omega, by go_num, HO2, HB3⟩
        case measure => simp [intOf]; omega
      have n34 : ((s[k].toNat : Int) == 34) = false := by rw [beq_eq_false_iff_ne]; intro e; exact h34 (UInt8.toNat_inj.1 (by have : (34 : UInt8).toNat = 34 := rfl; omega))
      by_cases h39 : r[k] = 39
      · have hE : Hid (escL (r.take (k + 1)) = o ++ [38, 35, 51, 57, 59]) := by show _ = _; rw [HNx.out, h39]; rfl
        have e39 : ((s[k].toNat : Int) == 39) = true := by rw [hxn, h39]; rfl
        have e38 : ((s[k].toNat : Int) == 38) = false := by rw [hxn, h39]; rfl
        have e60 : ((s[k].toNat : Int) == 60) = false := by rw [hxn, h39]; rfl
        have e62 : ((s[k].toNat : Int) == 62) = false := by rw [hxn, h39]; rfl
        have e34 : ((s[k].toNat : Int) == 34) = false := by rw [hxn, h39]; rfl
        have HC : Hid (Lib.strCells (⟨#[38, 35, 51, 57, 59]⟩ : ByteArray) = ([38, 35, 51, 57, 59] : List UInt8).map Mem.bv ∧ (⟨#[38, 35, 51, 57, 59]⟩ : ByteArray).size = ([38, 35, 51, 57, 59] : List UInt8).length) := cells_S [38, 35, 51, 57, 59]
        clear hxn hx h39 n38 n60 n62 n34
        go_wp2_with (at_builtin; refine Lib.wpList_append_own_string _ rfl _ _ 39 9 rfl w1.heap.size 5 i0 Try.underlying39 Try.underlying9 hi hz0 hz1 hz2 _ m _ rfl HR.out (⟨#[38, 35, 51, 57, 59]⟩ : ByteArray) rfl (by rw [HC.out.2]; unfold maxLen; simp; omega) (by rw [HC.out.2]; simp; omega) hB ?_)
        intro v' w3 hown hg _
        have HO2 : Hid (Row w1.heap.size v' (escL (r.take (k + 1))) w3) := by
          show Row _ _ _ _
          rw [hE.out]
          refine Row.more ?_
          rw [← HC.out.1, ← HC.out.2, ← HM.out]
          exact hown
        have HB3 : Hid (Below w1.heap.size w1 w3) := hb.out.grown hg hB (own_base HR.out)
        clear hown hg
        go_wp2_with fail
        go_roundw
        case rel => exact ⟨k + 1, by omega, by go_num, HO2, HB3⟩
        case measure => simp [intOf]; omega
      have n39 : ((s[k].toNat : Int) == 39) = false := by rw [beq_eq_false_iff_ne]; intro e; exact h39 (UInt8.toNat_inj.1 (by have : (39 : UInt8).toNat = 39 := rfl; omega))
      by_cases h43 : r[k] = 43
      · have hE : Hid (escL (r.take (k + 1)) = o ++ [38, 35, 52, 51, 59]) := by show _ = _; rw [HNx.out, h43]; rfl
        have e43 : ((s[k].toNat : Int) == 43) = true := by rw [hxn, h43]; rfl
        have e38 : ((s[k].toNat : Int) == 38) = false := by rw [hxn, h43]; rfl
        have e60 : ((s[k].toNat : Int) == 60) = false := by rw [hxn, h43]; rfl
        have e62 : ((s[k].toNat : Int) == 62) = false := by rw [hxn, h43]; rfl
        have e34 : ((s[k].toNat : Int) == 34) = false := by rw [hxn, h43]; rfl
        have e39 : ((s[k].toNat : Int) == 39) = false := by rw [hxn, h43]; rfl
        have HC : Hid (Lib.strCells (⟨#[38, 35, 52, 51, 59]⟩ : ByteArray) = ([38, 35, 52, 51, 59] : List UInt8).map Mem.bv ∧ (⟨#[38, 35, 52, 51, 59]⟩ : ByteArray).size = ([38, 35, 52, 51, 59] : List UInt8).length) := cells_S [38, 35, 52, 51, 59]
        clear hxn hx h43 n38 n60 n62 n34 n39
        go_wp2_with (at_builtin; refine Lib.wpList_append_own_string _ rfl _ _ 39 9 rfl w1.heap.size 5 i0 Try.underlying39 Try.underlying9 hi hz0 hz1 hz2 _ m _ rfl HR.out (⟨#[38, 35, 52, 51, 59]⟩ : ByteArray) rfl (by rw [HC.out.2]; unfold maxLen; simp; omega) (by rw [HC.out.2]; simp; omega) hB ?_)
        intro v' w3 hown hg _
        have HO2 : Hid (Row w1.heap.size v' (escL (r.take (k + 1))) w3) := by
          show Row _ _ _ _
          rw [hE.out]
          refine Row.more ?_
          rw [← HC.out.1, ← HC.out.2, ← HM.out]
          exact hown
        have HB3 : Hid (Below w1.heap.size w1 w3) := hb.out.grown hg hB (own_base HR.out)
        clear hown hg
        go_wp2_with fail
        go_roundw
        case rel => exact ⟨k + 1, by omega, by go_num, HO2, HB3⟩
        case measure => simp [intOf]; omega
      have n43 : ((s[k].toNat : Int) == 43) = false := by rw [beq_eq_false_iff_ne]; intro e; exact h43 (UInt8.toNat_inj.1 (by have : (43 : UInt8).toNat = 43 := rfl; omega))
      have hE : Hid (escL (r.take (k + 1)) = o ++ [r[k]]) := by
        show _ = _
        rw [HNx.out]
        congr 1
        unfold escO
        rw [if_neg h38, if_neg h60, if_neg h62, if_neg h34, if_neg h39, if_neg h43]
      have hpc : (s[k].toNat : Int) = (r[k].toNat : Int) := by rw [hxn]
      have HPC := Lib.hid hpc
      clear hxn hx hpc h38 h60 h62 h34 h39 h43
      generalize r[k] = c at hE HPC
      go_wp2_with (at_builtin; refine wpList_append_own _ rfl _ _ 39 rfl w1.heap.size 5 i0 (.int .u8 0) 1 1 Try.underlying39 hi hz0 hz1 hz2 rfl (by decide) _ _ _ rfl (HR.out.alloc _) ⟨wr.heap.size, 0, none⟩ 1 1 [Mem.bv c] rfl rfl (push_cell HPC.out) push_one (by unfold maxLen; omega) (by omega) (by simp; omega) ?_)
      intro v' w3 hown hg _
      have HO2 : Hid (Row w1.heap.size v' (escL (r.take (k + 1))) w3) := by
        show Row _ _ _ _
        rw [hE.out]
        refine Row.more ?_
        rw [← HM.out]
        exact hown
      have HB3 : Hid (Below w1.heap.size w1 w3) := (hb.out.alloc hB _).grown hg (by simp; omega) (own_base HR.out)
      clear hown hg
      go_wp2_with fail
      go_roundw
      case rel => exact ⟨k + 1, by omega, by go_num, HO2, HB3⟩
      case measure => simp [intOf]; omega
    · have hkl : k = r.length := by omega
      have hcv := conv_own hrow.out
      rw [hkl, List.take_length] at hcv
      subst hkl
      go_wp2_with fail
      go_ret
      exact ⟨rfl, HB1.out.trans (hb.out.mono HB1.out.size)⟩

end Go.Proofs.Ytidfcajhmldieaa.Crf
