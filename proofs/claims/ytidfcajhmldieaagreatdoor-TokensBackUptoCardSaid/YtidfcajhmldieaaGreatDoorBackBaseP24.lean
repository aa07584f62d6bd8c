/-
  Part 24: TkcTags, TkcBegun.
-/
import Derived.Test.YtidfcajhmldieaaGreatDoorBackBaseP23
/-
  Contracts of startTag and endTag of package tokens.
-/
namespace Go.Proofs.YtidfcajhmldieaaGreatDoor.Tkc
open Go.RowKit Go.Proofs.YtidfcajhmldieaaGreatDoor.Oct Go.Proofs.YtidfcajhmldieaaGreatDoor.Utf Go.Proofs.YtidfcajhmldieaaGreatDoor.Crf Go.Proofs.YtidfcajhmldieaaGreatDoor.Tab Go.Proofs.YtidfcajhmldieaaGreatDoor.Tok

theorem raw_c (s : List UInt8) (w : World) :
    Calls Tryz.prog 32 #[.string (S s)] w fun e w' => e = .returned (.bool (decide (1 ≤ elemN s ∧ elemN s ≤ 3))) ∧ Below w.heap.size w w' := by
  have hel : ∀ w, Calls Tryz.prog 50 #[.string (S s)] w fun e w' => e = .returned (.int .i64 (elemN s : Nat)) ∧ Below w.heap.size w w' := fun w => element_c s w
  generalize elemN s = m at hel ⊢
  generalize S s = T at *
  by_cases h1 : m = 1
  · subst h1
    go_enter Tryz.func32, Tryz.ntmps32
    go_wp2_with (go_at_call 50; refine (hel _).mono ?_; rintro e w1 ⟨rfl, h1⟩)
    go_ret
    exact ⟨rfl, h1⟩
  · by_cases h2 : m = 2
    · subst h2
      go_enter Tryz.func32, Tryz.ntmps32
      go_wp2_with (go_at_call 50; refine (hel _).mono ?_; rintro e w1 ⟨rfl, h1⟩)
      go_ret
      exact ⟨rfl, h1⟩
    · by_cases h3 : m = 3
      · subst h3
        go_enter Tryz.func32, Tryz.ntmps32
        go_wp2_with (go_at_call 50; refine (hel _).mono ?_; rintro e w1 ⟨rfl, h1⟩)
        go_ret
        exact ⟨rfl, h1⟩
      · have hd : decide (1 ≤ m ∧ m ≤ 3) = false := decide_eq_false (by omega)
        rw [hd]
        obtain ⟨i, hi⟩ : ∃ i : Int, i = (m : Int) := ⟨_, rfl⟩
        rw [← hi] at hel
        have b1 : (i == 1) = false := by rw [beq_eq_false_iff_ne]; omega
        have b2 : (i == 2) = false := by rw [beq_eq_false_iff_ne]; omega
        have b3 : (i == 3) = false := by rw [beq_eq_false_iff_ne]; omega
        clear hd hi h1 h2 h3
        go_enter Tryz.func32, Tryz.ntmps32
        go_wp2_with (go_at_call 50; refine (hel _).mono ?_; rintro e w1 ⟨rfl, h1⟩)
        go_ret
        exact ⟨rfl, h1⟩
theorem own_less {w : World} {base b n size : Nat} {e : TypeId} {v : Value} {xs : List Value} (h : w.ownsRow base e size v n xs) (hb : b ≤ base) : w.ownsRow b e size v n xs := by
  refine ⟨h.1, ?_⟩
  rcases h.2 with hn | ⟨g, cap, cur, hv, hbg, rest⟩
  · exact .inl hn
  · exact .inr ⟨g, cap, cur, hv, Nat.le_trans hb hbg, rest⟩
theorem Went.of_many {R : Nat} {l : List UInt8} {k : Nat} {w w' : World} {qs : List (Tk × Value)} {m : Nat} (hd : DataMid l m m (qs.map Prod.fst)) (hn : 4096 < qs.length) (hb : Below R w w') : Went R l k w (Fault 3) w' := by
  refine .many rfl ?_ hb
  have := mid_len hd
  rw [List.length_map] at this
  exact Nat.lt_of_lt_of_le hn this
set_option maxHeartbeats 4000000 in
set_option maxRecDepth 100000 in
theorem endTag_c (R : Nat) (l : List UInt8) (hl : l.length ≤ 65536) (k : Nat) (hk : k + 2 < l.length) (v : Value) (ps : List (Tk × Value)) (w : World) (h : RdT R l k v ps w) (hn : ps.length ≤ 4096)
    (hc : l[k + 1] = 47) (hb : letB l[k + 2] = true) (ho : OpenAt l k (ps.map Prod.fst)) :
    Calls Tryz.prog 38 #[.pointer (some ⟨R, 0, none⟩)] w (Went R l k w) := by
  obtain ⟨r0, e0, hs, hg, hout, htx⟩ := open_endTag hk hc hb ho
  have T1 := h.keep (Keeps.set _ _) (h.box.at_ (k + 2))
  have hB1 : Below R w (w.setCell ⟨R, 1, none⟩ (.int .i64 ((k + 2 : Nat) : Int))) := (Keeps.set w _).below h.low
  have c1 : w.cell? ⟨R, 1, none⟩ = some (.int .i64 (k : Int)) := (h.box.cell 1).trans rfl
  have z1 := h.box.froz 1
  have i0 : (k : Int) ≤ 65536 := by omega
  have htag := tag_c R l hl v _ (k + 2) r0 2 T1.box (by omega) (by omega) hs hg
  have H1 := Lib.hid (And.intro T1 hB1)
  have HR := Lib.hid (And.intro e0 (And.intro hout htx))
  have HLow := h.low
  clear h T1 hB1 e0 hout htx hs hg hc hb ho
  have hcast : ((k + 2 : Nat) : Int) = (k : Int) + 2 := by omega
  rw [hcast] at htag H1
  go_enter Tryz.func38, Tryz.ntmps38
  go_wp2_with fail
  refine htag.mono ?_
  clear htag
  generalize w.setCell ⟨R, 1, none⟩ (.int .i64 ((k : Int) + 2)) = w1 at H1 ⊢
  intro e2 w2 ht
  cases ht with
  | none he box keeps te =>
    subst he
    have HB := Lib.hid (H1.out.2.trans (keeps.below H1.out.1.low))
    have HT := Lib.hid (H1.out.1.keep keeps box)
    have HA := Lib.hid ((Below.refl w2.heap.size w2).alloc (Nat.le_refl _) (.cells zeroT 34))
    have HN : Hid (DataMid l l.length l.length (ps.map Prod.fst)) := data_none (HR.out.1.trans (te.trans HR.out.2.1))
    clear box keeps te
    go_wp2_with fail
    go_end0
    exact .done rfl l.length v ps (HT.out.grow HA.out) (Nat.le_refl _) (by omega) hn HN.out (HB.out.trans (HA.out.mono HT.out.low))
  | ended k' nm va al cl he hk' hk0 box att keeps te =>
    subst he
    obtain ⟨vp, vc, hva⟩ := own_shape att
    subst hva
    have hb2 := H1.out.2.trans (keeps.below H1.out.1.low)
    have T2 := H1.out.1.keep keeps box
    have hd := end_end HR.out.1 HR.out.2.1 HR.out.2.2 te
    have ha : Below w2.heap.size w2 (w2.alloc (.cells (tagC nm (.slice vp al.length vc) cl) 34)) := (Below.refl _ w2).alloc (Nat.le_refl _) _
    have T3 := T2.grow ha
    have hb3 := hb2.trans (ha.mono T2.low)
    have x1 : (w2.alloc (.cells (tagC nm (.slice vp al.length vc) cl) 34)).cell? ⟨w2.heap.size, 1, none⟩ = some (.string (S nm)) := (cell_of_row _ _ 1 _ _ _ (heap_alloc_new w2 _)).trans rfl
    have htell := tell_c R l k' v ps _ T3 ⟨2, nm, [], [], false⟩ (.slice none 0 0) (World.ownsRow_nil _ _ _ _) (nil_sep _) hn
    have H3 := Lib.hid (And.intro T3 (And.intro hb3 hd))
    clear box att keeps te T2 T3 hb2 hb3 ha hd
    go_wp2_with fail
    refine htell.mono ?_
    clear htell
    generalize w2.alloc (.cells (tagC nm (.slice vp al.length vc) cl) 34) = w3 at H3 ⊢
    intro e4 w4 ht
    cases ht with
    | many he hn4 hb4 =>
      subst he
      exact ⟨rfl, Went.of_many (qs := ps ++ [(⟨2, nm, [], [], false⟩, .slice none 0 0)]) (by rw [List.map_append]; exact H3.out.2.2) hn4 (H3.out.2.1.trans hb4)⟩
    | done he hn4 v4 h4 hm4 =>
      subst he
      have H4 := Lib.hid (And.intro h4 (H3.out.2.1.trans (hm4.below H3.out.1.low (own_ge H3.out.1.out))))
      clear h4 hm4
      go_wp2_with fail
      go_end0
      exact .done rfl k' v4 _ H4.out.1 hk' (by omega) hn4 (by rw [List.map_append]; exact H3.out.2.2) H4.out.2
set_option maxHeartbeats 4000000 in
set_option maxRecDepth 100000 in
theorem startTag_c (R : Nat) (l : List UInt8) (hl : l.length ≤ 65536) (k : Nat) (hk : k + 1 < l.length) (v : Value) (ps : List (Tk × Value)) (w : World) (h : RdT R l k v ps w) (hn : ps.length ≤ 4096)
    (hb : letB l[k + 1] = true) (ho : OpenAt l k (ps.map Prod.fst)) :
    Calls Tryz.prog 37 #[.pointer (some ⟨R, 0, none⟩)] w (Went R l k w) := by
  obtain ⟨r0, e0, hs, hg, hout, htx⟩ := open_start hk hb ho
  have T1 := h.keep (Keeps.set _ _) (h.box.at_ (k + 1))
  have hB1 : Below R w (w.setCell ⟨R, 1, none⟩ (.int .i64 ((k + 1 : Nat) : Int))) := (Keeps.set w _).below h.low
  have c1 : w.cell? ⟨R, 1, none⟩ = some (.int .i64 (k : Int)) := (h.box.cell 1).trans rfl
  have z1 := h.box.froz 1
  have i0 : (k : Int) ≤ 65536 := by omega
  have htag := tag_c R l hl v _ (k + 1) r0 1 T1.box (by omega) (by omega) hs hg
  have H1 := Lib.hid (And.intro T1 hB1)
  have HR := Lib.hid (And.intro e0 (And.intro hout htx))
  have HLow := h.low
  clear h T1 hB1 e0 hout htx hs hg hb ho
  have hcast : ((k + 1 : Nat) : Int) = (k : Int) + 1 := by omega
  rw [hcast] at htag H1
  go_enter Tryz.func37, Tryz.ntmps37
  go_wp2_with fail
  refine htag.mono ?_
  clear htag
  generalize w.setCell ⟨R, 1, none⟩ (.int .i64 ((k : Int) + 1)) = w1 at H1 ⊢
  intro e2 w2 ht
  cases ht with
  | none he box keeps te =>
    subst he
    have HB := Lib.hid (H1.out.2.trans (keeps.below H1.out.1.low))
    have HT := Lib.hid (H1.out.1.keep keeps box)
    have HA := Lib.hid ((Below.refl w2.heap.size w2).alloc (Nat.le_refl _) (.cells zeroT 34))
    have HN : Hid (DataMid l l.length l.length (ps.map Prod.fst)) := data_none (HR.out.1.trans (te.trans HR.out.2.1))
    clear box keeps te
    go_wp2_with fail
    go_end0
    exact .done rfl l.length v ps (HT.out.grow HA.out) (Nat.le_refl _) (by omega) hn HN.out (HB.out.trans (HA.out.mono HT.out.low))
  | ended k' nm va al cl he hk' hk0 box att keeps te =>
    subst he
    obtain ⟨vp, vc, hva⟩ := own_shape att
    subst hva
    have hb2 := H1.out.2.trans (keeps.below H1.out.1.low)
    have T2 := H1.out.1.keep keeps box
    have hd := end_start HR.out.1 HR.out.2.1 HR.out.2.2 te
    have hvl := own_lt T2.out
    have hvl1 := own_lt H1.out.1.out
    have hlow1 := H1.out.1.low
    have hsep : Tok.Sep (.slice vp al.length vc) v := fun g hg hv => by
      have h1 := own_ge att g hg
      have h2 := hvl1 g hv
      omega
    have hRa : R + 1 ≤ w1.heap.size + 5 := by omega
    -- the box of the tag, its kind 1
    have ha : Below w2.heap.size w2 (w2.alloc (.cells #[.int .i64 1, .string (S nm), .string ⟨#[]⟩, .slice vp al.length vc, .bool cl] 34)) := (Below.refl _ w2).alloc (Nat.le_refl _) _
    have hbox := heap_alloc_new w2 (.cells #[.int .i64 1, .string (S nm), .string ⟨#[]⟩, .slice vp al.length vc, .bool cl] 34)
    have y0 : (w2.alloc (.cells (tagC nm (.slice vp al.length vc) cl) 34)).cell? ⟨w2.heap.size, 0, none⟩ = some (.int .i64 0) := (cell_of_row _ _ 0 _ _ _ (heap_alloc_new w2 _)).trans rfl
    have y1 := frozen_of_row _ w2.heap.size 0 _ _ (heap_alloc_new w2 (.cells (tagC nm (.slice vp al.length vc) cl) 34))
    have T3 := T2.grow ha
    have hb3 := hb2.trans (ha.mono T2.low)
    have hN2 : w2.heap.size < (w2.alloc (.cells #[.int .i64 1, .string (S nm), .string ⟨#[]⟩, .slice vp al.length vc, .bool cl] 34)).heap.size := (Array.getElem?_eq_some_iff.1 hbox).1
    have x0 := (cell_of_row _ w2.heap.size 0 _ _ _ hbox).trans (rfl : _ = some (Value.int .i64 1))
    have x1 := (cell_of_row _ w2.heap.size 1 _ _ _ hbox).trans (rfl : _ = some (Value.string (S nm)))
    have x2 := (cell_of_row _ w2.heap.size 2 _ _ _ hbox).trans (rfl : _ = some (Value.string ⟨#[]⟩))
    have x3 := (cell_of_row _ w2.heap.size 3 _ _ _ hbox).trans (rfl : _ = some (Value.slice vp al.length vc))
    have x4 := (cell_of_row _ w2.heap.size 4 _ _ _ hbox).trans (rfl : _ = some (Value.bool cl))
    have hat3 := own_less (own_same att fun g _ hg => ha.block g (own_lt att g hg)) hRa
    have htell := tell_c R l k' v ps _ T3 ⟨1, nm, [], al, cl⟩ (.slice vp al.length vc) hat3 hsep hn
    have hNR : w2.heap.size ≠ R := by have := T2.box.lt; omega
    have hNv : v.ownBlock ≠ some w2.heap.size := fun e => by have := hvl _ e; omega
    have H3 := Lib.hid (And.intro T3 (And.intro hb3 (And.intro hd (And.intro hbox hN2))))
    clear box att keeps te T2 T3 hb2 hb3 ha hd hat3 hsep hbox hN2
    go_wp2_with fail
    refine htell.mono ?_
    clear htell x0 x1 x2 x3 x4 y0 y1
    generalize w2.alloc (.cells #[.int .i64 1, .string (S nm), .string ⟨#[]⟩, .slice vp al.length vc, .bool cl] 34) = w3 at H3 ⊢
    intro e4 w4 ht
    cases ht with
    | many he hn4 hb4 =>
      subst he
      refine ⟨rfl, .many rfl ?_ (H3.out.2.1.trans hb4)⟩
      have hdd := H3.out.2.2.1
      split at hdd
      · have := raw_len hdd
        rw [List.length_append, List.length_map] at this
        rw [List.length_append] at hn4
        exact Nat.lt_of_lt_of_le hn4 this
      · have := mid_len hdd
        rw [List.length_append, List.length_map] at this
        rw [List.length_append] at hn4
        exact Nat.lt_of_lt_of_le hn4 this
    | done he hn4 v4 h4 hm4 =>
      subst he
      have hbox4 := (hm4.block w2.heap.size H3.out.2.2.2.2 hNR hNv).trans H3.out.2.2.2.1
      have q1 := (cell_of_row _ w2.heap.size 1 _ _ _ hbox4).trans (rfl : _ = some (Value.string (S nm)))
      have hN4 : w2.heap.size < w4.heap.size := (Array.getElem?_eq_some_iff.1 hbox4).1
      have hb4 := H3.out.2.1.trans (hm4.below H3.out.1.low (own_ge H3.out.1.out))
      have hraw := raw_c nm w4
      by_cases hw : 1 ≤ elemN nm ∧ elemN nm ≤ 3
      · rw [decide_eq_true hw] at hraw
        have hdd := H3.out.2.2.1
        rw [if_pos hw] at hdd
        have HQ : Hid (∀ W, Below w4.heap.size w4 W → W.cell? ⟨w2.heap.size, 1, none⟩ = some (.string (S nm)) ∧ Calls Tryz.prog 57 #[.pointer (some ⟨R, 0, none⟩), .string (S nm)] W (Went R l (k' - 1) W)) := fun W hW =>
          ⟨(hW.cell (p := ⟨w2.heap.size, 1, none⟩) hN4).trans q1, rawText_c R l hl k' hk' (by omega) v4 _ W (h4.grow hW) hn4 nm hw (by rw [List.map_append]; exact hdd)⟩
        have HB4 := Lib.hid (And.intro hb4 h4.low)
        clear h4 hm4 hbox4 hdd hb4
        go_wp2_with (go_at_call 32; refine hraw.mono ?_; rintro e5 w5 ⟨rfl, h5⟩; obtain ⟨q5, hrt⟩ := HQ.out w5 h5; have HB5 := Lib.hid (HB4.out.1.trans (h5.mono HB4.out.2)); clear h5)
        refine hrt.mono ?_
        clear hrt
        intro e6 w6 ht
        cases ht with
        | many he hn6 hb6 =>
          subst he
          exact ⟨rfl, .many rfl hn6 (HB5.out.trans hb6)⟩
        | done he k6 v6 ps6 h6 hk6 hk60 hn6 hd6 hb6 =>
          subst he
          have H6 := Lib.hid (And.intro h6 (And.intro hd6 (HB5.out.trans hb6)))
          clear h6 hd6 hb6
          go_wp2_with fail
          go_end0
          exact .done rfl k6 v6 ps6 H6.out.1 hk6 (by omega) hn6 H6.out.2.1 H6.out.2.2
      · rw [decide_eq_false hw] at hraw
        have hdd := H3.out.2.2.1
        rw [if_neg hw] at hdd
        have H4 := Lib.hid (And.intro h4 (And.intro hb4 hdd))
        clear h4 hm4 hbox4 hdd hb4
        go_wp2_with (go_at_call 32; refine hraw.mono ?_; rintro e5 w5 ⟨rfl, h5⟩; have H5 := Lib.hid h5; clear h5)
        go_end0
        exact .done rfl k' v4 _ (H4.out.1.grow H5.out) hk' (by omega) hn4 (by rw [List.map_append]; exact H4.out.2.2) (H4.out.2.1.trans (H5.out.mono H4.out.1.low))
end Go.Proofs.YtidfcajhmldieaaGreatDoor.Tkc

/-
  Contract of begun of package tokens: what reads that which begins at a place.
-/
namespace Go.Proofs.YtidfcajhmldieaaGreatDoor.Tkc
open Go.RowKit Go.Proofs.YtidfcajhmldieaaGreatDoor.Oct Go.Proofs.YtidfcajhmldieaaGreatDoor.Utf Go.Proofs.YtidfcajhmldieaaGreatDoor.Crf Go.Proofs.YtidfcajhmldieaaGreatDoor.Tab Go.Proofs.YtidfcajhmldieaaGreatDoor.Tok

theorem pre_at {l p : List UInt8} {k i : Nat} {c : UInt8} (h : Lib.hasPrefix (l.drop k) p = true) (hc : p[i]? = some c) : ∃ hk : k + i < l.length, l[k + i] = c := by
  unfold Lib.hasPrefix at h
  obtain ⟨z, hz⟩ := List.isPrefixOf_iff_prefix.1 h
  have e : (l.drop k)[i]? = some c := by
    rw [← hz, List.getElem?_append_left (List.getElem?_eq_some_iff.1 hc).1]
    exact hc
  rw [List.getElem?_drop] at e
  exact List.getElem?_eq_some_iff.1 e
/-- What begins with the sign and a letter. -/
def opensB (x p : List UInt8) : Bool := Lib.hasPrefix x p && match x[p.length]? with
  | some c => letB c
  | none => false
theorem opensB_at {l p : List UInt8} {k : Nat} (h : opensB (l.drop k) p = true) : Lib.hasPrefix (l.drop k) p = true ∧ ∃ hk : k + p.length < l.length, letB l[k + p.length] = true := by
  unfold opensB at h
  rw [Bool.and_eq_true] at h
  refine ⟨h.1, ?_⟩
  have h2 := h.2
  rw [List.getElem?_drop] at h2
  by_cases hk : k + p.length < l.length
  · rw [List.getElem?_eq_getElem hk] at h2
    exact ⟨hk, h2⟩
  · rw [List.getElem?_eq_none (by omega)] at h2
    cases h2
theorem opensB_no {l p : List UInt8} {k : Nat} (h : opensB (l.drop k) p = false) (hp : Lib.hasPrefix (l.drop k) p = true) (hk : k + p.length < l.length) : letB l[k + p.length] = false := by
  unfold opensB at h
  rw [hp, List.getElem?_drop, List.getElem?_eq_getElem hk] at h
  exact h
/-- A function value that reads what begins at k. -/
def Reads (R : Nat) (l : List UInt8) (k g : Nat) : Prop :=
  (∀ args w, (callFunc g args).run Tryz.prog w = .ok (.enter g args) w) ∧
  ∀ W v ps, RdT R l k v ps W → ps.length ≤ 4096 → OpenAt l k (ps.map Prod.fst) → MaxAt W → Calls Tryz.prog g #[.pointer (some ⟨R, 0, none⟩)] W (Went R l k W)
theorem reads_start {R : Nat} {l : List UInt8} {k : Nat} (hl : l.length ≤ 65536) (hk : k + 1 < l.length) (hb : letB l[k + 1] = true) : Reads R l k 37 :=
  ⟨enters_of Tryz.func37 (by kernel_rfl) rfl, fun W v ps h hn ho _ => startTag_c R l hl k hk v ps W h hn hb ho⟩
theorem reads_end {R : Nat} {l : List UInt8} {k : Nat} (hl : l.length ≤ 65536) (hk : k + 2 < l.length) (hc : l[k + 1] = 47) (hb : letB l[k + 2] = true) : Reads R l k 38 :=
  ⟨enters_of Tryz.func38 (by kernel_rfl) rfl, fun W v ps h hn ho _ => endTag_c R l hl k hk v ps W h hn hc hb ho⟩
theorem reads_com {R : Nat} {l : List UInt8} {k : Nat} (hl : l.length ≤ 65536) (hk : k + 3 < l.length) (hp : [60, 33, 45, 45].isPrefixOf (l.drop k) = true) : Reads R l k 39 :=
  ⟨enters_of Tryz.func39 (by kernel_rfl) rfl, fun W v ps h hn ho hM => comment_c R l hl k hk v ps W h hn hM hp ho⟩
theorem reads_bog {R : Nat} {l : List UInt8} {k : Nat} (hl : l.length ≤ 65536) (hk : k + 1 < l.length) (h0 : l[k] = 60)
    (hc : l[k + 1] = 33 ∧ [45, 45].isPrefixOf (l.drop (k + 2)) = false ∨ l[k + 1] = 63 ∨ (l[k + 1] = 47 ∧ ∃ h2 : k + 2 < l.length, letB l[k + 2] = false)) : Reads R l k 40 :=
  ⟨enters_of Tryz.func40 (by kernel_rfl) rfl, fun W v ps h hn ho hM => bogus_c R l hl k hk v ps W h hn hM h0 hc ho⟩

set_option maxHeartbeats 2000000 in
theorem opens_c (x p : List UInt8) (w : World) :
    Calls Tryz.prog 36 #[.string (S x), .string (S p)] w fun e w' => e = .returned (.bool (opensB x p)) ∧ w' = w := by
  have hcp := fun w => Tryz.strings_CutPrefix (S x) (S p) w
  rw [list_S, list_S] at hcp
  unfold opensB
  cases hp : Lib.hasPrefix x p with
  | false =>
    rw [hp] at hcp
    show Calls _ _ _ _ fun e w' => e = .returned (.bool false) ∧ w' = w
    generalize (⟨(Lib.trimPrefix x p).toArray⟩ : ByteArray) = Z at hcp
    generalize S x = X at *
    generalize S p = P at *
    go_enter Tryz.func36, Tryz.ntmps36
    go_wp2_with (go_at_call 54; refine (hcp _).mono ?_; rintro e w1 ⟨rfl, rfl⟩)
    go_ret
    exact ⟨rfl, rfl⟩
  | true =>
    rw [hp] at hcp
    have ht : (⟨(Lib.trimPrefix x p).toArray⟩ : ByteArray) = S (x.drop p.length) := by
      unfold Lib.trimPrefix
      rw [hp]
      rfl
    rw [ht] at hcp
    by_cases hl : p.length < x.length
    · rw [List.getElem?_eq_getElem hl]
      show Calls _ _ _ _ fun e w' => e = .returned (.bool (true && letB x[p.length])) ∧ w' = w
      obtain ⟨c, hcc⟩ : ∃ c, c = x[p.length] := ⟨_, rfl⟩
      rw [← hcc]
      have hd : x.drop p.length = c :: x.drop (p.length + 1) := by rw [hcc]; exact List.drop_eq_getElem_cons hl
      have hle : ∀ w, Calls Tryz.prog 55 #[.int .u8 (c.toNat : Int)] w fun e w' => e = .returned (.bool (letB c)) ∧ w = w' := fun w => letter_c (c.toNat : Int) w (by omega) (by have := c.toNat_lt; omega)
      obtain ⟨Z, hZ⟩ : ∃ Z, Z = S (x.drop p.length) := ⟨_, rfl⟩
      have hne : (Z.toList == []) = false := by
        rw [beq_eq_false_iff_ne, hZ]
        intro e
        rw [ByteArray.toList_eq, list_S, hd] at e
        cases e
      have hz0 : 0 < Z.size := by rw [hZ, size_S, hd]; simp
      have hzi : (0 : Int) < (Z.size : Int) := by omega
      have hat : ∀ h : 0 < Z.size, Z[0]'h = c := by
        subst hZ
        intro h
        have h0 : 0 < (x.drop p.length).length := by rw [hd]; simp
        rw [at_T (x.drop p.length) 0 h0]
        simp [hcc]
      have hbyte : ((c.toNat : Int)) ≤ 255 := by have := c.toNat_lt; omega
      rw [← hZ] at hcp
      clear hZ hd ht hcc hp
      generalize letB c = b at hle ⊢
      generalize S x = X at *
      generalize S p = P at *
      go_enter Tryz.func36, Tryz.ntmps36
      go_wp2_with (first
        | (go_at_call 54; refine (hcp _).mono ?_; rintro e w1 ⟨rfl, rfl⟩)
        | (go_at_call 55; refine (hle _).mono ?_; rintro e w2 ⟨rfl, rfl⟩))
      go_ret
      exact ⟨rfl, rfl⟩
    · rw [List.getElem?_eq_none (by omega)]
      show Calls _ _ _ _ fun e w' => e = .returned (.bool false) ∧ w' = w
      have hd : x.drop p.length = [] := List.drop_eq_nil_of_le (by omega)
      rw [hd] at hcp
      generalize S x = X at *
      generalize S p = P at *
      go_enter Tryz.func36, Tryz.ntmps36
      go_wp2_with (go_at_call 54; refine (hcp _).mono ?_; rintro e w1 ⟨rfl, rfl⟩)
      go_ret
      exact ⟨rfl, rfl⟩
theorem begins_c (x p : List UInt8) (b : Nat) (w : World) (hb : w.cell? ⟨b, 0, none⟩ = some (.string (S x))) :
    Calls Tryz.prog 34 #[.string (S p), .pointer (some ⟨b, 0, none⟩)] w fun e w' => e = .returned (.bool (Lib.hasPrefix x p)) ∧ w' = w := by
  have h := Tryz.strings_HasPrefix (S x) (S p) w
  rw [list_S, list_S] at h
  generalize Lib.hasPrefix x p = q at h ⊢
  generalize S x = X at *
  generalize S p = P at *
  go_enter Tryz.func34, Tryz.ntmps34
  go_wp2_with (go_at_call 35; refine h.mono ?_; rintro e w1 ⟨rfl, rfl⟩)
  go_ret
  exact ⟨rfl, rfl⟩
theorem enter_begins : ∀ args w, (callFunc 34 args).run Tryz.prog w = .ok (.enter 34 args) w := enters_of Tryz.func34 (by kernel_rfl) rfl
end Go.Proofs.YtidfcajhmldieaaGreatDoor.Tkc
