/-
  Contracts of mayBe, Check and mixes: what they answer of a token that may be written.
-/
import Derived.Test.YtidfcajhmldieaaGreatDoorTkwMay
namespace Go.Proofs.YtidfcajhmldieaaGreatDoor.Tkw
open Go.RowKit Go.Proofs.YtidfcajhmldieaaGreatDoor.Oct Go.Proofs.YtidfcajhmldieaaGreatDoor.Utf Go.Proofs.YtidfcajhmldieaaGreatDoor.Tok

/-- What is asked of a token's texts and lists: that they are of a size that all calls bear. -/
structure Fits (t : Tk) : Prop where
  n : t.n.length ≤ 2147483648
  x : t.x.length ≤ 2147483648
  al : t.a.length ≤ 2147483648
  a : ∀ a ∈ t.a, a.n.length ≤ 2147483648 ∧ a.v.length ≤ 2147483648
/-- May a token of its kind be. -/
def goodT (t : Tk) : Bool := if t.k < 3 then okTag t else if t.k = 3 then okText t else okCom t
theorem good_check {t : Tk} (h1 : ¬ t.k < 1) (h2 : ¬ 4 < t.k) (h : goodT t = true) : checkT t = 0 := by
  unfold checkT
  unfold goodT at h
  rw [if_neg (by omega), if_pos h]
theorem good1 {t : Tk} (hk : t.k = 1) (hx : t.x = []) (ht : tagB t.n = true) (ha : ∀ a ∈ t.a, attB a = true) : goodT t = true := by
  unfold goodT okTag
  have h := tag_word ht
  rw [if_pos (by omega), h, hx, hk]
  simp only [List.isEmpty_nil, Bool.true_and, decide_true, Bool.true_or]
  exact List.all_eq_true.2 fun a hm => att_ok (ha a hm)
theorem good2 {t : Tk} (hk : t.k = 2) (hx : t.x = []) (ht : tagB t.n = true) (ha : t.a = []) (hc : t.c = false) : goodT t = true := by
  unfold goodT okTag
  have h := tag_word ht
  rw [if_pos (by omega), h, hx, ha, hc]
  simp
theorem good3 {t : Tk} (hk : t.k = 3) (hn : t.n = []) (ha : t.a = []) (hc : t.c = false) (hx : t.x ≠ []) (hr : rep t.x = t.x) : goodT t = true := by
  unfold goodT okText okRest
  rw [if_neg (by omega), if_pos hk, hn, ha, hc, decide_eq_true hr]
  cases h : t.x with
  | nil => exact absurd h hx
  | cons c y => rfl
theorem good4 {t : Tk} (hk : t.k = 4) (hn : t.n = []) (ha : t.a = []) (hc : t.c = false) (hx : comB t.x = true) : goodT t = true := by
  unfold goodT okCom okRest
  rw [if_neg (by omega), if_neg (by omega), hn, ha, hc, com_ok hx]
  rfl
theorem empty_t (l : List UInt8) : ((S l).toList == []) = decide (l = []) := by
  rw [ByteArray.toList_eq, list_S, Bool.eq_iff_iff]
  simp
/-- The world in which a token that came in lies in a box of its own. -/
abbrev tkW (w : World) (k : Int) (N X : ByteArray) (va : Value) (c : Bool) : World := w.alloc (.cells #[.int .i64 k, .string N, .string X, va, .bool c] 34)
theorem tkW_cells {w W : World} {k : Int} {N X : ByteArray} {va : Value} {c : Bool} (hb : Below (tkW w k N X va c).heap.size (tkW w k N X va c) W) :
    W.cell? ⟨w.heap.size, 0, none⟩ = some (.int .i64 k) ∧ W.cell? ⟨w.heap.size, 1, none⟩ = some (.string N) ∧ W.cell? ⟨w.heap.size, 2, none⟩ = some (.string X) ∧ W.cell? ⟨w.heap.size, 3, none⟩ = some va ∧ W.cell? ⟨w.heap.size, 4, none⟩ = some (.bool c) := by
  have h : W.heap[w.heap.size]? = some (.cells #[.int .i64 k, .string N, .string X, va, .bool c] 34 (0, 0)) := (hb.block _ (by simp)).trans (heap_alloc_new w _)
  exact ⟨(cell_of_row W _ 0 _ _ _ h).trans rfl, (cell_of_row W _ 1 _ _ _ h).trans rfl, (cell_of_row W _ 2 _ _ _ h).trans rfl, (cell_of_row W _ 3 _ _ _ h).trans rfl, (cell_of_row W _ 4 _ _ _ h).trans rfl⟩
theorem tkW_below (w : World) (k : Int) (N X : ByteArray) (va : Value) (c : Bool) : Below w.heap.size w (tkW w k N X va c) := (Below.refl _ w).alloc (Nat.le_refl _) _

/-- Yes is told only if it is so. -/
def YesIf (e : Ending) (P : Prop) : Prop := ∃ b, e = .returned (.bool b) ∧ (b = true → P)
theorem atIn_up {w W : World} {v : Value} {al : List At} (h : AtIn w v al) (hb : Below w.heap.size w W) : AtIn W v al := by
  obtain ⟨p, cap, h1, h2⟩ := h
  exact ⟨p, cap, h1, fun hl => by
    obtain ⟨b, o, h3, h4⟩ := h2 hl
    exact ⟨b, o, h3, fun i hi => ⟨some_keep (h4 i hi).1 hb, some_keep (h4 i hi).2 hb⟩⟩⟩
set_option maxHeartbeats 4000000 in
set_option maxRecDepth 100000 in
theorem mayBe_1 (n x : List UInt8) (al : List At) (c : Bool) (va : Value) (w : World) (ha : AtIn w va al) (hf : Fits ⟨1, n, x, al, c⟩) (hT : Tabs w) (hM : Tkc.MaxAt w) :
    Calls Tryz.prog 30 #[.agg #[.int .i64 1, .string (S n), .string (S x), va, .bool c]] w fun e w' => YesIf e (goodT ⟨1, n, x, al, c⟩ = true) ∧ Below w.heap.size w w' := by
  have hb0 := tkW_below w 1 (S n) (S x) va c
  have HB := Lib.hid (fun W (h : Below (tkW w 1 (S n) (S x) va c).heap.size (tkW w 1 (S n) (S x) va c) W) => And.intro (hb0.trans (h.mono hb0.size)) (tkW_cells h))
  have htag := fun W => tagname_c (S n) (by rw [size_S]; have := hf.n; simp only at this; omega) W
  rw [list_S] at htag
  have hrep := fun W (h : Below w.heap.size w W) => repaired_c (S x) (by rw [size_S]; have := hf.x; simp only at this; omega) W (hT.kept h)
  rw [list_S] at hrep
  have hcom := fun W (h : Below w.heap.size w W) => comment_c x (by have := hf.x; simp only at this; omega) W (hM.kept h)
  have hany := fun W (h : Below w.heap.size w W) => any_c al va W (atIn_up ha h) (by have := hf.al; simp only at this; omega) (fun a hm => by have := hf.a a hm; omega) (hT.kept h)
  have en := empty_t n
  have ex := empty_t x
  have G := Lib.hid (@good1 ⟨1, n, x, al, c⟩ rfl)
  obtain ⟨p, cap, rfl, _⟩ := ha
  have HA := Lib.hid hany
  have HR := Lib.hid hrep
  have HC := Lib.hid hcom
  clear hany hrep hcom hT hM hf
  generalize hL : al.length = L at HB HA hb0 ⊢
  have HL := Lib.hid hL
  clear hL
  generalize S x = X at HB hb0 HR HC ex ⊢
  generalize S n = N at HB hb0 htag en ⊢
  by_cases hx : x = []
  · rw [decide_eq_true hx] at ex
    have ex2 : X.toList.isEmpty = true := by rw [← ex]; cases X.toList <;> rfl
    have HX := Lib.hid hx
    clear hx
    rcases Nat.eq_zero_or_pos L with rfl | hp
    · have HLN := Lib.hid (List.length_eq_zero_iff.1 HL.out)
      cases hg : tagB n with
      | true =>
        rw [hg] at htag
        have HGG := Lib.hid hg
        clear hg
        go_enter Tryz.func30, Tryz.ntmps30
        go_wp2_with (first
            | (go_at_call 43; refine (htag _).mono ?_; rintro e1 w1 ⟨rfl, h1⟩; obtain ⟨b1, c0, c1, c2, c3, c4⟩ := HB.out w1 h1)
            | (go_at_call 44; refine (HA.out _ b1).mono ?_; rintro e2 w2 ⟨⟨bb, rfl, hbb⟩, b2⟩)
            | (go_at_call 47; refine (HR.out _ hb0).mono ?_; rintro e2 w2 ⟨rfl, b2⟩)
            | (go_at_call 48; first | (refine (HC.out _ b1).mono ?_; rintro e2 w2 ⟨rfl, rfl⟩) | (refine (HC.out _ hb0).mono ?_; rintro e2 w2 ⟨rfl, rfl⟩)))
        go_ret
        exact ⟨⟨_, rfl, fun hr => G.out HX.out HGG.out (hbb (by simpa using hr))⟩, b1.trans (b2.mono b1.size)⟩
      | false =>
        rw [hg] at htag
        clear hg
        go_enter Tryz.func30, Tryz.ntmps30
        go_wp2_with (first
            | (go_at_call 43; refine (htag _).mono ?_; rintro e1 w1 ⟨rfl, h1⟩; obtain ⟨b1, c0, c1, c2, c3, c4⟩ := HB.out w1 h1)
            | (go_at_call 44; refine (HA.out _ b1).mono ?_; rintro e2 w2 ⟨⟨bb, rfl, hbb⟩, b2⟩)
            | (go_at_call 47; refine (HR.out _ hb0).mono ?_; rintro e2 w2 ⟨rfl, b2⟩)
            | (go_at_call 48; first | (refine (HC.out _ b1).mono ?_; rintro e2 w2 ⟨rfl, rfl⟩) | (refine (HC.out _ hb0).mono ?_; rintro e2 w2 ⟨rfl, rfl⟩)))
        go_ret
        exact ⟨⟨_, rfl, fun hr => absurd hr (by simp)⟩, b1⟩
    · have hz2 : ¬ ((L : Int) = 0) := by omega
      have hz : ((L : Int) == 0) = false := by rw [beq_eq_false_iff_ne]; exact hz2
      have hz3 : ¬ (L = 0) := by omega
      clear hp
      cases hg : tagB n with
      | true =>
        rw [hg] at htag
        have HGG := Lib.hid hg
        clear hg
        go_enter Tryz.func30, Tryz.ntmps30
        go_wp2_with (first
            | (go_at_call 43; refine (htag _).mono ?_; rintro e1 w1 ⟨rfl, h1⟩; obtain ⟨b1, c0, c1, c2, c3, c4⟩ := HB.out w1 h1)
            | (go_at_call 44; refine (HA.out _ b1).mono ?_; rintro e2 w2 ⟨⟨bb, rfl, hbb⟩, b2⟩)
            | (go_at_call 47; refine (HR.out _ hb0).mono ?_; rintro e2 w2 ⟨rfl, b2⟩)
            | (go_at_call 48; first | (refine (HC.out _ b1).mono ?_; rintro e2 w2 ⟨rfl, rfl⟩) | (refine (HC.out _ hb0).mono ?_; rintro e2 w2 ⟨rfl, rfl⟩)))
        go_ret
        exact ⟨⟨_, rfl, fun hr => G.out HX.out HGG.out (hbb (by simpa using hr))⟩, b1.trans (b2.mono b1.size)⟩
      | false =>
        rw [hg] at htag
        clear hg
        go_enter Tryz.func30, Tryz.ntmps30
        go_wp2_with (first
            | (go_at_call 43; refine (htag _).mono ?_; rintro e1 w1 ⟨rfl, h1⟩; obtain ⟨b1, c0, c1, c2, c3, c4⟩ := HB.out w1 h1)
            | (go_at_call 44; refine (HA.out _ b1).mono ?_; rintro e2 w2 ⟨⟨bb, rfl, hbb⟩, b2⟩)
            | (go_at_call 47; refine (HR.out _ hb0).mono ?_; rintro e2 w2 ⟨rfl, b2⟩)
            | (go_at_call 48; first | (refine (HC.out _ b1).mono ?_; rintro e2 w2 ⟨rfl, rfl⟩) | (refine (HC.out _ hb0).mono ?_; rintro e2 w2 ⟨rfl, rfl⟩)))
        go_ret
        exact ⟨⟨_, rfl, fun hr => absurd hr (by simp)⟩, b1⟩
  · rw [decide_eq_false hx] at ex
    have ex2 : X.toList.isEmpty = false := by rw [← ex]; cases X.toList <;> rfl
    have HX := Lib.hid hx
    clear hx
    rcases Nat.eq_zero_or_pos L with rfl | hp
    · have HLN := Lib.hid (List.length_eq_zero_iff.1 HL.out)
      go_enter Tryz.func30, Tryz.ntmps30
      go_wp2_with (first
          | (go_at_call 43; refine (htag _).mono ?_; rintro e1 w1 ⟨rfl, h1⟩; obtain ⟨b1, c0, c1, c2, c3, c4⟩ := HB.out w1 h1)
          | (go_at_call 44; refine (HA.out _ b1).mono ?_; rintro e2 w2 ⟨⟨bb, rfl, hbb⟩, b2⟩)
          | (go_at_call 47; refine (HR.out _ hb0).mono ?_; rintro e2 w2 ⟨rfl, b2⟩)
          | (go_at_call 48; first | (refine (HC.out _ b1).mono ?_; rintro e2 w2 ⟨rfl, rfl⟩) | (refine (HC.out _ hb0).mono ?_; rintro e2 w2 ⟨rfl, rfl⟩)))
      go_ret
      exact ⟨⟨_, rfl, fun hr => absurd hr (by simp)⟩, hb0⟩
    · have hz2 : ¬ ((L : Int) = 0) := by omega
      have hz : ((L : Int) == 0) = false := by rw [beq_eq_false_iff_ne]; exact hz2
      have hz3 : ¬ (L = 0) := by omega
      clear hp
      go_enter Tryz.func30, Tryz.ntmps30
      go_wp2_with (first
          | (go_at_call 43; refine (htag _).mono ?_; rintro e1 w1 ⟨rfl, h1⟩; obtain ⟨b1, c0, c1, c2, c3, c4⟩ := HB.out w1 h1)
          | (go_at_call 44; refine (HA.out _ b1).mono ?_; rintro e2 w2 ⟨⟨bb, rfl, hbb⟩, b2⟩)
          | (go_at_call 47; refine (HR.out _ hb0).mono ?_; rintro e2 w2 ⟨rfl, b2⟩)
          | (go_at_call 48; first | (refine (HC.out _ b1).mono ?_; rintro e2 w2 ⟨rfl, rfl⟩) | (refine (HC.out _ hb0).mono ?_; rintro e2 w2 ⟨rfl, rfl⟩)))
      go_ret
      exact ⟨⟨_, rfl, fun hr => absurd hr (by simp)⟩, hb0⟩
set_option maxHeartbeats 4000000 in
set_option maxRecDepth 100000 in
theorem mayBe_2 (n x : List UInt8) (al : List At) (c : Bool) (va : Value) (w : World) (ha : AtIn w va al) (hf : Fits ⟨2, n, x, al, c⟩) (hT : Tabs w) (hM : Tkc.MaxAt w) :
    Calls Tryz.prog 30 #[.agg #[.int .i64 2, .string (S n), .string (S x), va, .bool c]] w fun e w' => YesIf e (goodT ⟨2, n, x, al, c⟩ = true) ∧ Below w.heap.size w w' := by
  have hb0 := tkW_below w 2 (S n) (S x) va c
  have HB := Lib.hid (fun W (h : Below (tkW w 2 (S n) (S x) va c).heap.size (tkW w 2 (S n) (S x) va c) W) => And.intro (hb0.trans (h.mono hb0.size)) (tkW_cells h))
  have htag := fun W => tagname_c (S n) (by rw [size_S]; have := hf.n; simp only at this; omega) W
  rw [list_S] at htag
  have hrep := fun W (h : Below w.heap.size w W) => repaired_c (S x) (by rw [size_S]; have := hf.x; simp only at this; omega) W (hT.kept h)
  rw [list_S] at hrep
  have hcom := fun W (h : Below w.heap.size w W) => comment_c x (by have := hf.x; simp only at this; omega) W (hM.kept h)
  have hany := fun W (h : Below w.heap.size w W) => any_c al va W (atIn_up ha h) (by have := hf.al; simp only at this; omega) (fun a hm => by have := hf.a a hm; omega) (hT.kept h)
  have en := empty_t n
  have ex := empty_t x
  have G := Lib.hid (@good2 ⟨2, n, x, al, c⟩ rfl)
  obtain ⟨p, cap, rfl, _⟩ := ha
  have HA := Lib.hid hany
  have HR := Lib.hid hrep
  have HC := Lib.hid hcom
  clear hany hrep hcom hT hM hf
  generalize hL : al.length = L at HB HA hb0 ⊢
  have HL := Lib.hid hL
  clear hL
  generalize S x = X at HB hb0 HR HC ex ⊢
  generalize S n = N at HB hb0 htag en ⊢
  by_cases hx : x = []
  · rw [decide_eq_true hx] at ex
    have ex2 : X.toList.isEmpty = true := by rw [← ex]; cases X.toList <;> rfl
    have HX := Lib.hid hx
    clear hx
    rcases Nat.eq_zero_or_pos L with rfl | hp
    · have HLN := Lib.hid (List.length_eq_zero_iff.1 HL.out)
      cases hg : tagB n with
      | true =>
        rw [hg] at htag
        have HGG := Lib.hid hg
        clear hg
        cases c with
        | true =>
          go_enter Tryz.func30, Tryz.ntmps30
          go_wp2_with (first
              | (go_at_call 43; refine (htag _).mono ?_; rintro e1 w1 ⟨rfl, h1⟩; obtain ⟨b1, c0, c1, c2, c3, c4⟩ := HB.out w1 h1)
              | (go_at_call 44; refine (HA.out _ b1).mono ?_; rintro e2 w2 ⟨⟨bb, rfl, hbb⟩, b2⟩)
              | (go_at_call 47; refine (HR.out _ hb0).mono ?_; rintro e2 w2 ⟨rfl, b2⟩)
              | (go_at_call 48; first | (refine (HC.out _ b1).mono ?_; rintro e2 w2 ⟨rfl, rfl⟩) | (refine (HC.out _ hb0).mono ?_; rintro e2 w2 ⟨rfl, rfl⟩)))
          go_ret
          exact ⟨⟨_, rfl, fun hr => absurd hr (by simp)⟩, b1⟩
        | false =>
          go_enter Tryz.func30, Tryz.ntmps30
          go_wp2_with (first
              | (go_at_call 43; refine (htag _).mono ?_; rintro e1 w1 ⟨rfl, h1⟩; obtain ⟨b1, c0, c1, c2, c3, c4⟩ := HB.out w1 h1)
              | (go_at_call 44; refine (HA.out _ b1).mono ?_; rintro e2 w2 ⟨⟨bb, rfl, hbb⟩, b2⟩)
              | (go_at_call 47; refine (HR.out _ hb0).mono ?_; rintro e2 w2 ⟨rfl, b2⟩)
              | (go_at_call 48; first | (refine (HC.out _ b1).mono ?_; rintro e2 w2 ⟨rfl, rfl⟩) | (refine (HC.out _ hb0).mono ?_; rintro e2 w2 ⟨rfl, rfl⟩)))
          go_ret
          exact ⟨⟨_, rfl, fun hr => G.out HX.out HGG.out HLN.out (by trivial)⟩, b1⟩
      | false =>
        rw [hg] at htag
        clear hg
        go_enter Tryz.func30, Tryz.ntmps30
        go_wp2_with (first
            | (go_at_call 43; refine (htag _).mono ?_; rintro e1 w1 ⟨rfl, h1⟩; obtain ⟨b1, c0, c1, c2, c3, c4⟩ := HB.out w1 h1)
            | (go_at_call 44; refine (HA.out _ b1).mono ?_; rintro e2 w2 ⟨⟨bb, rfl, hbb⟩, b2⟩)
            | (go_at_call 47; refine (HR.out _ hb0).mono ?_; rintro e2 w2 ⟨rfl, b2⟩)
            | (go_at_call 48; first | (refine (HC.out _ b1).mono ?_; rintro e2 w2 ⟨rfl, rfl⟩) | (refine (HC.out _ hb0).mono ?_; rintro e2 w2 ⟨rfl, rfl⟩)))
        go_ret
        exact ⟨⟨_, rfl, fun hr => absurd hr (by simp)⟩, b1⟩
    · have hz2 : ¬ ((L : Int) = 0) := by omega
      have hz : ((L : Int) == 0) = false := by rw [beq_eq_false_iff_ne]; exact hz2
      have hz3 : ¬ (L = 0) := by omega
      clear hp
      cases hg : tagB n with
      | true =>
        rw [hg] at htag
        have HGG := Lib.hid hg
        clear hg
        go_enter Tryz.func30, Tryz.ntmps30
        go_wp2_with (first
            | (go_at_call 43; refine (htag _).mono ?_; rintro e1 w1 ⟨rfl, h1⟩; obtain ⟨b1, c0, c1, c2, c3, c4⟩ := HB.out w1 h1)
            | (go_at_call 44; refine (HA.out _ b1).mono ?_; rintro e2 w2 ⟨⟨bb, rfl, hbb⟩, b2⟩)
            | (go_at_call 47; refine (HR.out _ hb0).mono ?_; rintro e2 w2 ⟨rfl, b2⟩)
            | (go_at_call 48; first | (refine (HC.out _ b1).mono ?_; rintro e2 w2 ⟨rfl, rfl⟩) | (refine (HC.out _ hb0).mono ?_; rintro e2 w2 ⟨rfl, rfl⟩)))
        go_ret
        exact ⟨⟨_, rfl, fun hr => absurd hr (by simp)⟩, b1⟩
      | false =>
        rw [hg] at htag
        clear hg
        go_enter Tryz.func30, Tryz.ntmps30
        go_wp2_with (first
            | (go_at_call 43; refine (htag _).mono ?_; rintro e1 w1 ⟨rfl, h1⟩; obtain ⟨b1, c0, c1, c2, c3, c4⟩ := HB.out w1 h1)
            | (go_at_call 44; refine (HA.out _ b1).mono ?_; rintro e2 w2 ⟨⟨bb, rfl, hbb⟩, b2⟩)
            | (go_at_call 47; refine (HR.out _ hb0).mono ?_; rintro e2 w2 ⟨rfl, b2⟩)
            | (go_at_call 48; first | (refine (HC.out _ b1).mono ?_; rintro e2 w2 ⟨rfl, rfl⟩) | (refine (HC.out _ hb0).mono ?_; rintro e2 w2 ⟨rfl, rfl⟩)))
        go_ret
        exact ⟨⟨_, rfl, fun hr => absurd hr (by simp)⟩, b1⟩
  · rw [decide_eq_false hx] at ex
    have ex2 : X.toList.isEmpty = false := by rw [← ex]; cases X.toList <;> rfl
    have HX := Lib.hid hx
    clear hx
    rcases Nat.eq_zero_or_pos L with rfl | hp
    · have HLN := Lib.hid (List.length_eq_zero_iff.1 HL.out)
      go_enter Tryz.func30, Tryz.ntmps30
      go_wp2_with (first
          | (go_at_call 43; refine (htag _).mono ?_; rintro e1 w1 ⟨rfl, h1⟩; obtain ⟨b1, c0, c1, c2, c3, c4⟩ := HB.out w1 h1)
          | (go_at_call 44; refine (HA.out _ b1).mono ?_; rintro e2 w2 ⟨⟨bb, rfl, hbb⟩, b2⟩)
          | (go_at_call 47; refine (HR.out _ hb0).mono ?_; rintro e2 w2 ⟨rfl, b2⟩)
          | (go_at_call 48; first | (refine (HC.out _ b1).mono ?_; rintro e2 w2 ⟨rfl, rfl⟩) | (refine (HC.out _ hb0).mono ?_; rintro e2 w2 ⟨rfl, rfl⟩)))
      go_ret
      exact ⟨⟨_, rfl, fun hr => absurd hr (by simp)⟩, hb0⟩
    · have hz2 : ¬ ((L : Int) = 0) := by omega
      have hz : ((L : Int) == 0) = false := by rw [beq_eq_false_iff_ne]; exact hz2
      have hz3 : ¬ (L = 0) := by omega
      clear hp
      go_enter Tryz.func30, Tryz.ntmps30
      go_wp2_with (first
          | (go_at_call 43; refine (htag _).mono ?_; rintro e1 w1 ⟨rfl, h1⟩; obtain ⟨b1, c0, c1, c2, c3, c4⟩ := HB.out w1 h1)
          | (go_at_call 44; refine (HA.out _ b1).mono ?_; rintro e2 w2 ⟨⟨bb, rfl, hbb⟩, b2⟩)
          | (go_at_call 47; refine (HR.out _ hb0).mono ?_; rintro e2 w2 ⟨rfl, b2⟩)
          | (go_at_call 48; first | (refine (HC.out _ b1).mono ?_; rintro e2 w2 ⟨rfl, rfl⟩) | (refine (HC.out _ hb0).mono ?_; rintro e2 w2 ⟨rfl, rfl⟩)))
      go_ret
      exact ⟨⟨_, rfl, fun hr => absurd hr (by simp)⟩, hb0⟩
set_option maxHeartbeats 4000000 in
set_option maxRecDepth 100000 in
theorem mayBe_3 (n x : List UInt8) (al : List At) (c : Bool) (va : Value) (w : World) (ha : AtIn w va al) (hf : Fits ⟨3, n, x, al, c⟩) (hT : Tabs w) (hM : Tkc.MaxAt w) :
    Calls Tryz.prog 30 #[.agg #[.int .i64 3, .string (S n), .string (S x), va, .bool c]] w fun e w' => YesIf e (goodT ⟨3, n, x, al, c⟩ = true) ∧ Below w.heap.size w w' := by
  have hb0 := tkW_below w 3 (S n) (S x) va c
  have HB := Lib.hid (fun W (h : Below (tkW w 3 (S n) (S x) va c).heap.size (tkW w 3 (S n) (S x) va c) W) => And.intro (hb0.trans (h.mono hb0.size)) (tkW_cells h))
  have htag := fun W => tagname_c (S n) (by rw [size_S]; have := hf.n; simp only at this; omega) W
  rw [list_S] at htag
  have hrep := fun W (h : Below w.heap.size w W) => repaired_c (S x) (by rw [size_S]; have := hf.x; simp only at this; omega) W (hT.kept h)
  rw [list_S] at hrep
  have hcom := fun W (h : Below w.heap.size w W) => comment_c x (by have := hf.x; simp only at this; omega) W (hM.kept h)
  have hany := fun W (h : Below w.heap.size w W) => any_c al va W (atIn_up ha h) (by have := hf.al; simp only at this; omega) (fun a hm => by have := hf.a a hm; omega) (hT.kept h)
  have en := empty_t n
  have ex := empty_t x
  have G := Lib.hid (@good3 ⟨3, n, x, al, c⟩ rfl)
  obtain ⟨p, cap, rfl, _⟩ := ha
  have HA := Lib.hid hany
  have HR := Lib.hid hrep
  have HC := Lib.hid hcom
  clear hany hrep hcom hT hM hf
  generalize hL : al.length = L at HB HA hb0 ⊢
  have HL := Lib.hid hL
  clear hL
  generalize S x = X at HB hb0 HR HC ex ⊢
  generalize S n = N at HB hb0 htag en ⊢
  by_cases hx : x = []
  · rw [decide_eq_true hx] at ex
    have ex2 : X.toList.isEmpty = true := by rw [← ex]; cases X.toList <;> rfl
    have HX := Lib.hid hx
    clear hx
    rcases Nat.eq_zero_or_pos L with rfl | hp
    · have HLN := Lib.hid (List.length_eq_zero_iff.1 HL.out)
      by_cases hn : n = []
      · rw [decide_eq_true hn] at en
        have en2 : N.toList.isEmpty = true := by rw [← en]; cases N.toList <;> rfl
        have HNN := Lib.hid hn
        clear hn
        cases c with
        | true =>
          go_enter Tryz.func30, Tryz.ntmps30
          go_wp2_with (first
              | (go_at_call 43; refine (htag _).mono ?_; rintro e1 w1 ⟨rfl, h1⟩; obtain ⟨b1, c0, c1, c2, c3, c4⟩ := HB.out w1 h1)
              | (go_at_call 44; refine (HA.out _ b1).mono ?_; rintro e2 w2 ⟨⟨bb, rfl, hbb⟩, b2⟩)
              | (go_at_call 47; refine (HR.out _ hb0).mono ?_; rintro e2 w2 ⟨rfl, b2⟩)
              | (go_at_call 48; first | (refine (HC.out _ b1).mono ?_; rintro e2 w2 ⟨rfl, rfl⟩) | (refine (HC.out _ hb0).mono ?_; rintro e2 w2 ⟨rfl, rfl⟩)))
          go_ret
          exact ⟨⟨_, rfl, fun hr => absurd hr (by simp)⟩, b1⟩
        | false =>
          go_enter Tryz.func30, Tryz.ntmps30
          go_wp2_with (first
              | (go_at_call 43; refine (htag _).mono ?_; rintro e1 w1 ⟨rfl, h1⟩; obtain ⟨b1, c0, c1, c2, c3, c4⟩ := HB.out w1 h1)
              | (go_at_call 44; refine (HA.out _ b1).mono ?_; rintro e2 w2 ⟨⟨bb, rfl, hbb⟩, b2⟩)
              | (go_at_call 47; refine (HR.out _ hb0).mono ?_; rintro e2 w2 ⟨rfl, b2⟩)
              | (go_at_call 48; first | (refine (HC.out _ b1).mono ?_; rintro e2 w2 ⟨rfl, rfl⟩) | (refine (HC.out _ hb0).mono ?_; rintro e2 w2 ⟨rfl, rfl⟩)))
          go_ret
          exact ⟨⟨_, rfl, fun hr => absurd hr (by simp)⟩, b1⟩
      · rw [decide_eq_false hn] at en
        have en2 : N.toList.isEmpty = false := by rw [← en]; cases N.toList <;> rfl
        clear hn
        go_enter Tryz.func30, Tryz.ntmps30
        go_wp2_with (first
            | (go_at_call 43; refine (htag _).mono ?_; rintro e1 w1 ⟨rfl, h1⟩; obtain ⟨b1, c0, c1, c2, c3, c4⟩ := HB.out w1 h1)
            | (go_at_call 44; refine (HA.out _ b1).mono ?_; rintro e2 w2 ⟨⟨bb, rfl, hbb⟩, b2⟩)
            | (go_at_call 47; refine (HR.out _ hb0).mono ?_; rintro e2 w2 ⟨rfl, b2⟩)
            | (go_at_call 48; first | (refine (HC.out _ b1).mono ?_; rintro e2 w2 ⟨rfl, rfl⟩) | (refine (HC.out _ hb0).mono ?_; rintro e2 w2 ⟨rfl, rfl⟩)))
        go_ret
        exact ⟨⟨_, rfl, fun hr => absurd hr (by simp)⟩, b1⟩
    · have hz2 : ¬ ((L : Int) = 0) := by omega
      have hz : ((L : Int) == 0) = false := by rw [beq_eq_false_iff_ne]; exact hz2
      have hz3 : ¬ (L = 0) := by omega
      clear hp
      by_cases hn : n = []
      · rw [decide_eq_true hn] at en
        have en2 : N.toList.isEmpty = true := by rw [← en]; cases N.toList <;> rfl
        have HNN := Lib.hid hn
        clear hn
        go_enter Tryz.func30, Tryz.ntmps30
        go_wp2_with (first
            | (go_at_call 43; refine (htag _).mono ?_; rintro e1 w1 ⟨rfl, h1⟩; obtain ⟨b1, c0, c1, c2, c3, c4⟩ := HB.out w1 h1)
            | (go_at_call 44; refine (HA.out _ b1).mono ?_; rintro e2 w2 ⟨⟨bb, rfl, hbb⟩, b2⟩)
            | (go_at_call 47; refine (HR.out _ hb0).mono ?_; rintro e2 w2 ⟨rfl, b2⟩)
            | (go_at_call 48; first | (refine (HC.out _ b1).mono ?_; rintro e2 w2 ⟨rfl, rfl⟩) | (refine (HC.out _ hb0).mono ?_; rintro e2 w2 ⟨rfl, rfl⟩)))
        go_ret
        exact ⟨⟨_, rfl, fun hr => absurd hr (by simp)⟩, b1⟩
      · rw [decide_eq_false hn] at en
        have en2 : N.toList.isEmpty = false := by rw [← en]; cases N.toList <;> rfl
        clear hn
        go_enter Tryz.func30, Tryz.ntmps30
        go_wp2_with (first
            | (go_at_call 43; refine (htag _).mono ?_; rintro e1 w1 ⟨rfl, h1⟩; obtain ⟨b1, c0, c1, c2, c3, c4⟩ := HB.out w1 h1)
            | (go_at_call 44; refine (HA.out _ b1).mono ?_; rintro e2 w2 ⟨⟨bb, rfl, hbb⟩, b2⟩)
            | (go_at_call 47; refine (HR.out _ hb0).mono ?_; rintro e2 w2 ⟨rfl, b2⟩)
            | (go_at_call 48; first | (refine (HC.out _ b1).mono ?_; rintro e2 w2 ⟨rfl, rfl⟩) | (refine (HC.out _ hb0).mono ?_; rintro e2 w2 ⟨rfl, rfl⟩)))
        go_ret
        exact ⟨⟨_, rfl, fun hr => absurd hr (by simp)⟩, b1⟩
  · rw [decide_eq_false hx] at ex
    have ex2 : X.toList.isEmpty = false := by rw [← ex]; cases X.toList <;> rfl
    have HX := Lib.hid hx
    clear hx
    rcases Nat.eq_zero_or_pos L with rfl | hp
    · have HLN := Lib.hid (List.length_eq_zero_iff.1 HL.out)
      by_cases hn : n = []
      · rw [decide_eq_true hn] at en
        have en2 : N.toList.isEmpty = true := by rw [← en]; cases N.toList <;> rfl
        have HNN := Lib.hid hn
        clear hn
        cases c with
        | true =>
          go_enter Tryz.func30, Tryz.ntmps30
          go_wp2_with (first
              | (go_at_call 43; refine (htag _).mono ?_; rintro e1 w1 ⟨rfl, h1⟩; obtain ⟨b1, c0, c1, c2, c3, c4⟩ := HB.out w1 h1)
              | (go_at_call 44; refine (HA.out _ b1).mono ?_; rintro e2 w2 ⟨⟨bb, rfl, hbb⟩, b2⟩)
              | (go_at_call 47; refine (HR.out _ hb0).mono ?_; rintro e2 w2 ⟨rfl, b2⟩)
              | (go_at_call 48; first | (refine (HC.out _ b1).mono ?_; rintro e2 w2 ⟨rfl, rfl⟩) | (refine (HC.out _ hb0).mono ?_; rintro e2 w2 ⟨rfl, rfl⟩)))
          go_ret
          exact ⟨⟨_, rfl, fun hr => absurd hr (by simp)⟩, hb0⟩
        | false =>
          go_enter Tryz.func30, Tryz.ntmps30
          go_wp2_with (first
              | (go_at_call 43; refine (htag _).mono ?_; rintro e1 w1 ⟨rfl, h1⟩; obtain ⟨b1, c0, c1, c2, c3, c4⟩ := HB.out w1 h1)
              | (go_at_call 44; refine (HA.out _ b1).mono ?_; rintro e2 w2 ⟨⟨bb, rfl, hbb⟩, b2⟩)
              | (go_at_call 47; refine (HR.out _ hb0).mono ?_; rintro e2 w2 ⟨rfl, b2⟩)
              | (go_at_call 48; first | (refine (HC.out _ b1).mono ?_; rintro e2 w2 ⟨rfl, rfl⟩) | (refine (HC.out _ hb0).mono ?_; rintro e2 w2 ⟨rfl, rfl⟩)))
          go_ret
          exact ⟨⟨_, rfl, fun hr => G.out HNN.out HLN.out (by trivial) HX.out (by simpa using hr)⟩, hb0.trans (b2.mono hb0.size)⟩
      · rw [decide_eq_false hn] at en
        have en2 : N.toList.isEmpty = false := by rw [← en]; cases N.toList <;> rfl
        clear hn
        go_enter Tryz.func30, Tryz.ntmps30
        go_wp2_with (first
            | (go_at_call 43; refine (htag _).mono ?_; rintro e1 w1 ⟨rfl, h1⟩; obtain ⟨b1, c0, c1, c2, c3, c4⟩ := HB.out w1 h1)
            | (go_at_call 44; refine (HA.out _ b1).mono ?_; rintro e2 w2 ⟨⟨bb, rfl, hbb⟩, b2⟩)
            | (go_at_call 47; refine (HR.out _ hb0).mono ?_; rintro e2 w2 ⟨rfl, b2⟩)
            | (go_at_call 48; first | (refine (HC.out _ b1).mono ?_; rintro e2 w2 ⟨rfl, rfl⟩) | (refine (HC.out _ hb0).mono ?_; rintro e2 w2 ⟨rfl, rfl⟩)))
        go_ret
        exact ⟨⟨_, rfl, fun hr => absurd hr (by simp)⟩, hb0⟩
    · have hz2 : ¬ ((L : Int) = 0) := by omega
      have hz : ((L : Int) == 0) = false := by rw [beq_eq_false_iff_ne]; exact hz2
      have hz3 : ¬ (L = 0) := by omega
      clear hp
      by_cases hn : n = []
      · rw [decide_eq_true hn] at en
        have en2 : N.toList.isEmpty = true := by rw [← en]; cases N.toList <;> rfl
        have HNN := Lib.hid hn
        clear hn
        go_enter Tryz.func30, Tryz.ntmps30
        go_wp2_with (first
            | (go_at_call 43; refine (htag _).mono ?_; rintro e1 w1 ⟨rfl, h1⟩; obtain ⟨b1, c0, c1, c2, c3, c4⟩ := HB.out w1 h1)
            | (go_at_call 44; refine (HA.out _ b1).mono ?_; rintro e2 w2 ⟨⟨bb, rfl, hbb⟩, b2⟩)
            | (go_at_call 47; refine (HR.out _ hb0).mono ?_; rintro e2 w2 ⟨rfl, b2⟩)
            | (go_at_call 48; first | (refine (HC.out _ b1).mono ?_; rintro e2 w2 ⟨rfl, rfl⟩) | (refine (HC.out _ hb0).mono ?_; rintro e2 w2 ⟨rfl, rfl⟩)))
        go_ret
        exact ⟨⟨_, rfl, fun hr => absurd hr (by simp)⟩, hb0⟩
      · rw [decide_eq_false hn] at en
        have en2 : N.toList.isEmpty = false := by rw [← en]; cases N.toList <;> rfl
        clear hn
        go_enter Tryz.func30, Tryz.ntmps30
        go_wp2_with (first
            | (go_at_call 43; refine (htag _).mono ?_; rintro e1 w1 ⟨rfl, h1⟩; obtain ⟨b1, c0, c1, c2, c3, c4⟩ := HB.out w1 h1)
            | (go_at_call 44; refine (HA.out _ b1).mono ?_; rintro e2 w2 ⟨⟨bb, rfl, hbb⟩, b2⟩)
            | (go_at_call 47; refine (HR.out _ hb0).mono ?_; rintro e2 w2 ⟨rfl, b2⟩)
            | (go_at_call 48; first | (refine (HC.out _ b1).mono ?_; rintro e2 w2 ⟨rfl, rfl⟩) | (refine (HC.out _ hb0).mono ?_; rintro e2 w2 ⟨rfl, rfl⟩)))
        go_ret
        exact ⟨⟨_, rfl, fun hr => absurd hr (by simp)⟩, hb0⟩
set_option maxHeartbeats 4000000 in
set_option maxRecDepth 100000 in
theorem mayBe_4 (n x : List UInt8) (al : List At) (c : Bool) (va : Value) (w : World) (ha : AtIn w va al) (hf : Fits ⟨4, n, x, al, c⟩) (hT : Tabs w) (hM : Tkc.MaxAt w) :
    Calls Tryz.prog 30 #[.agg #[.int .i64 4, .string (S n), .string (S x), va, .bool c]] w fun e w' => YesIf e (goodT ⟨4, n, x, al, c⟩ = true) ∧ Below w.heap.size w w' := by
  have hb0 := tkW_below w 4 (S n) (S x) va c
  have HB := Lib.hid (fun W (h : Below (tkW w 4 (S n) (S x) va c).heap.size (tkW w 4 (S n) (S x) va c) W) => And.intro (hb0.trans (h.mono hb0.size)) (tkW_cells h))
  have htag := fun W => tagname_c (S n) (by rw [size_S]; have := hf.n; simp only at this; omega) W
  rw [list_S] at htag
  have hrep := fun W (h : Below w.heap.size w W) => repaired_c (S x) (by rw [size_S]; have := hf.x; simp only at this; omega) W (hT.kept h)
  rw [list_S] at hrep
  have hcom := fun W (h : Below w.heap.size w W) => comment_c x (by have := hf.x; simp only at this; omega) W (hM.kept h)
  have hany := fun W (h : Below w.heap.size w W) => any_c al va W (atIn_up ha h) (by have := hf.al; simp only at this; omega) (fun a hm => by have := hf.a a hm; omega) (hT.kept h)
  have en := empty_t n
  have ex := empty_t x
  have G := Lib.hid (@good4 ⟨4, n, x, al, c⟩ rfl)
  obtain ⟨p, cap, rfl, _⟩ := ha
  have HA := Lib.hid hany
  have HR := Lib.hid hrep
  have HC := Lib.hid hcom
  clear hany hrep hcom hT hM hf
  generalize hL : al.length = L at HB HA hb0 ⊢
  have HL := Lib.hid hL
  clear hL
  generalize S x = X at HB hb0 HR HC ex ⊢
  generalize S n = N at HB hb0 htag en ⊢
  by_cases hx : x = []
  · rw [decide_eq_true hx] at ex
    have ex2 : X.toList.isEmpty = true := by rw [← ex]; cases X.toList <;> rfl
    have HX := Lib.hid hx
    clear hx
    rcases Nat.eq_zero_or_pos L with rfl | hp
    · have HLN := Lib.hid (List.length_eq_zero_iff.1 HL.out)
      by_cases hn : n = []
      · rw [decide_eq_true hn] at en
        have en2 : N.toList.isEmpty = true := by rw [← en]; cases N.toList <;> rfl
        have HNN := Lib.hid hn
        clear hn
        cases c with
        | true =>
          go_enter Tryz.func30, Tryz.ntmps30
          go_wp2_with (first
              | (go_at_call 43; refine (htag _).mono ?_; rintro e1 w1 ⟨rfl, h1⟩; obtain ⟨b1, c0, c1, c2, c3, c4⟩ := HB.out w1 h1)
              | (go_at_call 44; refine (HA.out _ b1).mono ?_; rintro e2 w2 ⟨⟨bb, rfl, hbb⟩, b2⟩)
              | (go_at_call 47; refine (HR.out _ hb0).mono ?_; rintro e2 w2 ⟨rfl, b2⟩)
              | (go_at_call 48; first | (refine (HC.out _ b1).mono ?_; rintro e2 w2 ⟨rfl, rfl⟩) | (refine (HC.out _ hb0).mono ?_; rintro e2 w2 ⟨rfl, rfl⟩)))
          go_ret
          exact ⟨⟨_, rfl, fun hr => absurd hr (by simp)⟩, b1⟩
        | false =>
          go_enter Tryz.func30, Tryz.ntmps30
          go_wp2_with (first
              | (go_at_call 43; refine (htag _).mono ?_; rintro e1 w1 ⟨rfl, h1⟩; obtain ⟨b1, c0, c1, c2, c3, c4⟩ := HB.out w1 h1)
              | (go_at_call 44; refine (HA.out _ b1).mono ?_; rintro e2 w2 ⟨⟨bb, rfl, hbb⟩, b2⟩)
              | (go_at_call 47; refine (HR.out _ hb0).mono ?_; rintro e2 w2 ⟨rfl, b2⟩)
              | (go_at_call 48; first | (refine (HC.out _ b1).mono ?_; rintro e2 w2 ⟨rfl, rfl⟩) | (refine (HC.out _ hb0).mono ?_; rintro e2 w2 ⟨rfl, rfl⟩)))
          go_ret
          exact ⟨⟨_, rfl, fun hr => G.out HNN.out HLN.out (by trivial) hr⟩, b1⟩
      · rw [decide_eq_false hn] at en
        have en2 : N.toList.isEmpty = false := by rw [← en]; cases N.toList <;> rfl
        clear hn
        go_enter Tryz.func30, Tryz.ntmps30
        go_wp2_with (first
            | (go_at_call 43; refine (htag _).mono ?_; rintro e1 w1 ⟨rfl, h1⟩; obtain ⟨b1, c0, c1, c2, c3, c4⟩ := HB.out w1 h1)
            | (go_at_call 44; refine (HA.out _ b1).mono ?_; rintro e2 w2 ⟨⟨bb, rfl, hbb⟩, b2⟩)
            | (go_at_call 47; refine (HR.out _ hb0).mono ?_; rintro e2 w2 ⟨rfl, b2⟩)
            | (go_at_call 48; first | (refine (HC.out _ b1).mono ?_; rintro e2 w2 ⟨rfl, rfl⟩) | (refine (HC.out _ hb0).mono ?_; rintro e2 w2 ⟨rfl, rfl⟩)))
        go_ret
        exact ⟨⟨_, rfl, fun hr => absurd hr (by simp)⟩, b1⟩
    · have hz2 : ¬ ((L : Int) = 0) := by omega
      have hz : ((L : Int) == 0) = false := by rw [beq_eq_false_iff_ne]; exact hz2
      have hz3 : ¬ (L = 0) := by omega
      clear hp
      by_cases hn : n = []
      · rw [decide_eq_true hn] at en
        have en2 : N.toList.isEmpty = true := by rw [← en]; cases N.toList <;> rfl
        have HNN := Lib.hid hn
        clear hn
        go_enter Tryz.func30, Tryz.ntmps30
        go_wp2_with (first
            | (go_at_call 43; refine (htag _).mono ?_; rintro e1 w1 ⟨rfl, h1⟩; obtain ⟨b1, c0, c1, c2, c3, c4⟩ := HB.out w1 h1)
            | (go_at_call 44; refine (HA.out _ b1).mono ?_; rintro e2 w2 ⟨⟨bb, rfl, hbb⟩, b2⟩)
            | (go_at_call 47; refine (HR.out _ hb0).mono ?_; rintro e2 w2 ⟨rfl, b2⟩)
            | (go_at_call 48; first | (refine (HC.out _ b1).mono ?_; rintro e2 w2 ⟨rfl, rfl⟩) | (refine (HC.out _ hb0).mono ?_; rintro e2 w2 ⟨rfl, rfl⟩)))
        go_ret
        exact ⟨⟨_, rfl, fun hr => absurd hr (by simp)⟩, b1⟩
      · rw [decide_eq_false hn] at en
        have en2 : N.toList.isEmpty = false := by rw [← en]; cases N.toList <;> rfl
        clear hn
        go_enter Tryz.func30, Tryz.ntmps30
        go_wp2_with (first
            | (go_at_call 43; refine (htag _).mono ?_; rintro e1 w1 ⟨rfl, h1⟩; obtain ⟨b1, c0, c1, c2, c3, c4⟩ := HB.out w1 h1)
            | (go_at_call 44; refine (HA.out _ b1).mono ?_; rintro e2 w2 ⟨⟨bb, rfl, hbb⟩, b2⟩)
            | (go_at_call 47; refine (HR.out _ hb0).mono ?_; rintro e2 w2 ⟨rfl, b2⟩)
            | (go_at_call 48; first | (refine (HC.out _ b1).mono ?_; rintro e2 w2 ⟨rfl, rfl⟩) | (refine (HC.out _ hb0).mono ?_; rintro e2 w2 ⟨rfl, rfl⟩)))
        go_ret
        exact ⟨⟨_, rfl, fun hr => absurd hr (by simp)⟩, b1⟩
  · rw [decide_eq_false hx] at ex
    have ex2 : X.toList.isEmpty = false := by rw [← ex]; cases X.toList <;> rfl
    have HX := Lib.hid hx
    clear hx
    rcases Nat.eq_zero_or_pos L with rfl | hp
    · have HLN := Lib.hid (List.length_eq_zero_iff.1 HL.out)
      by_cases hn : n = []
      · rw [decide_eq_true hn] at en
        have en2 : N.toList.isEmpty = true := by rw [← en]; cases N.toList <;> rfl
        have HNN := Lib.hid hn
        clear hn
        cases c with
        | true =>
          go_enter Tryz.func30, Tryz.ntmps30
          go_wp2_with (first
              | (go_at_call 43; refine (htag _).mono ?_; rintro e1 w1 ⟨rfl, h1⟩; obtain ⟨b1, c0, c1, c2, c3, c4⟩ := HB.out w1 h1)
              | (go_at_call 44; refine (HA.out _ b1).mono ?_; rintro e2 w2 ⟨⟨bb, rfl, hbb⟩, b2⟩)
              | (go_at_call 47; refine (HR.out _ hb0).mono ?_; rintro e2 w2 ⟨rfl, b2⟩)
              | (go_at_call 48; first | (refine (HC.out _ b1).mono ?_; rintro e2 w2 ⟨rfl, rfl⟩) | (refine (HC.out _ hb0).mono ?_; rintro e2 w2 ⟨rfl, rfl⟩)))
          go_ret
          exact ⟨⟨_, rfl, fun hr => absurd hr (by simp)⟩, hb0⟩
        | false =>
          go_enter Tryz.func30, Tryz.ntmps30
          go_wp2_with (first
              | (go_at_call 43; refine (htag _).mono ?_; rintro e1 w1 ⟨rfl, h1⟩; obtain ⟨b1, c0, c1, c2, c3, c4⟩ := HB.out w1 h1)
              | (go_at_call 44; refine (HA.out _ b1).mono ?_; rintro e2 w2 ⟨⟨bb, rfl, hbb⟩, b2⟩)
              | (go_at_call 47; refine (HR.out _ hb0).mono ?_; rintro e2 w2 ⟨rfl, b2⟩)
              | (go_at_call 48; first | (refine (HC.out _ b1).mono ?_; rintro e2 w2 ⟨rfl, rfl⟩) | (refine (HC.out _ hb0).mono ?_; rintro e2 w2 ⟨rfl, rfl⟩)))
          go_ret
          exact ⟨⟨_, rfl, fun hr => G.out HNN.out HLN.out (by trivial) hr⟩, hb0⟩
      · rw [decide_eq_false hn] at en
        have en2 : N.toList.isEmpty = false := by rw [← en]; cases N.toList <;> rfl
        clear hn
        go_enter Tryz.func30, Tryz.ntmps30
        go_wp2_with (first
            | (go_at_call 43; refine (htag _).mono ?_; rintro e1 w1 ⟨rfl, h1⟩; obtain ⟨b1, c0, c1, c2, c3, c4⟩ := HB.out w1 h1)
            | (go_at_call 44; refine (HA.out _ b1).mono ?_; rintro e2 w2 ⟨⟨bb, rfl, hbb⟩, b2⟩)
            | (go_at_call 47; refine (HR.out _ hb0).mono ?_; rintro e2 w2 ⟨rfl, b2⟩)
            | (go_at_call 48; first | (refine (HC.out _ b1).mono ?_; rintro e2 w2 ⟨rfl, rfl⟩) | (refine (HC.out _ hb0).mono ?_; rintro e2 w2 ⟨rfl, rfl⟩)))
        go_ret
        exact ⟨⟨_, rfl, fun hr => absurd hr (by simp)⟩, hb0⟩
    · have hz2 : ¬ ((L : Int) = 0) := by omega
      have hz : ((L : Int) == 0) = false := by rw [beq_eq_false_iff_ne]; exact hz2
      have hz3 : ¬ (L = 0) := by omega
      clear hp
      by_cases hn : n = []
      · rw [decide_eq_true hn] at en
        have en2 : N.toList.isEmpty = true := by rw [← en]; cases N.toList <;> rfl
        have HNN := Lib.hid hn
        clear hn
        go_enter Tryz.func30, Tryz.ntmps30
        go_wp2_with (first
            | (go_at_call 43; refine (htag _).mono ?_; rintro e1 w1 ⟨rfl, h1⟩; obtain ⟨b1, c0, c1, c2, c3, c4⟩ := HB.out w1 h1)
            | (go_at_call 44; refine (HA.out _ b1).mono ?_; rintro e2 w2 ⟨⟨bb, rfl, hbb⟩, b2⟩)
            | (go_at_call 47; refine (HR.out _ hb0).mono ?_; rintro e2 w2 ⟨rfl, b2⟩)
            | (go_at_call 48; first | (refine (HC.out _ b1).mono ?_; rintro e2 w2 ⟨rfl, rfl⟩) | (refine (HC.out _ hb0).mono ?_; rintro e2 w2 ⟨rfl, rfl⟩)))
        go_ret
        exact ⟨⟨_, rfl, fun hr => absurd hr (by simp)⟩, hb0⟩
      · rw [decide_eq_false hn] at en
        have en2 : N.toList.isEmpty = false := by rw [← en]; cases N.toList <;> rfl
        clear hn
        go_enter Tryz.func30, Tryz.ntmps30
        go_wp2_with (first
            | (go_at_call 43; refine (htag _).mono ?_; rintro e1 w1 ⟨rfl, h1⟩; obtain ⟨b1, c0, c1, c2, c3, c4⟩ := HB.out w1 h1)
            | (go_at_call 44; refine (HA.out _ b1).mono ?_; rintro e2 w2 ⟨⟨bb, rfl, hbb⟩, b2⟩)
            | (go_at_call 47; refine (HR.out _ hb0).mono ?_; rintro e2 w2 ⟨rfl, b2⟩)
            | (go_at_call 48; first | (refine (HC.out _ b1).mono ?_; rintro e2 w2 ⟨rfl, rfl⟩) | (refine (HC.out _ hb0).mono ?_; rintro e2 w2 ⟨rfl, rfl⟩)))
        go_ret
        exact ⟨⟨_, rfl, fun hr => absurd hr (by simp)⟩, hb0⟩

/-! ### mayBe, Check -/
theorem mayBe_c (t : Tk) (va : Value) (w : World) (ha : AtIn w va t.a) (hf : Fits t) (hk : t.k = 1 ∨ t.k = 2 ∨ t.k = 3 ∨ t.k = 4) (hT : Tabs w) (hM : Tkc.MaxAt w) :
    Calls Tryz.prog 30 #[tkV t va] w fun e w' => YesIf e (goodT t = true) ∧ Below w.heap.size w w' := by
  obtain ⟨k, n, x, al, c⟩ := t
  simp only at hk
  rcases hk with rfl | rfl | rfl | rfl
  · exact mayBe_1 n x al c va w ha hf hT hM
  · exact mayBe_2 n x al c va w ha hf hT hM
  · exact mayBe_3 n x al c va w ha hf hT hM
  · exact mayBe_4 n x al c va w ha hf hT hM
/-- None is told only if it is so. -/
def NoneIf (e : Ending) (P : Prop) : Prop := ∃ n : Int, e = .returned (.int .i64 n) ∧ (n = 0 → P)
set_option maxHeartbeats 2000000 in
set_option maxRecDepth 100000 in
theorem check_c (t : Tk) (va : Value) (w : World) (ha : AtIn w va t.a) (hf : Fits t) (hT : Tabs w) (hM : Tkc.MaxAt w) :
    Calls Tryz.prog 17 #[tkV t va] w fun e w' => NoneIf e (checkT t = 0) ∧ Below w.heap.size w w' := by
  have hb0 := tkW_below w t.k (S t.n) (S t.x) va t.c
  have HB := Lib.hid (fun W (h : Below (tkW w t.k (S t.n) (S t.x) va t.c).heap.size (tkW w t.k (S t.n) (S t.x) va t.c) W) => hb0.trans (h.mono hb0.size))
  have G : Hid (¬ t.k < 1 → ¬ 4 < t.k → goodT t = true → checkT t = 0) := good_check
  have hmay := fun hk => mayBe_c t va _ (atIn_up ha hb0) hf hk (hT.kept hb0) (hM.kept hb0)
  obtain ⟨p, cap, rfl, _⟩ := ha
  clear hf hT hM
  obtain ⟨k, n, x, al, c⟩ := t
  simp only at hmay G hb0 HB ⊢
  by_cases h1 : k < 1
  · have hd : decide (k < 1) = true := decide_eq_true h1
    go_enter Tryz.func17, Tryz.ntmps17
    go_wp2_with fail
    go_ret
    exact ⟨⟨_, rfl, fun h => absurd h (by decide)⟩, hb0⟩
  · by_cases h2 : 4 < k
    · have hd : decide (k < 1) = false := decide_eq_false h1
      have hd2 : decide (4 < k) = true := decide_eq_true h2
      go_enter Tryz.func17, Tryz.ntmps17
      go_wp2_with fail
      go_ret
      exact ⟨⟨_, rfl, fun h => absurd h (by decide)⟩, hb0⟩
    · have hd : decide (k < 1) = false := decide_eq_false h1
      have hd2 : decide (4 < k) = false := decide_eq_false h2
      have hc := hmay (by omega)
      have HG := Lib.hid (G.out h1 h2)
      clear hmay G
      go_enter Tryz.func17, Tryz.ntmps17
      go_wp2_with fail
      refine hc.mono ?_
      clear hc
      rintro e w1 ⟨⟨b, rfl, hb⟩, hb1⟩
      have H1 := Lib.hid (And.intro hb (HB.out _ hb1))
      clear hb hb1
      cases b with
      | true =>
        go_wp2_with fail
        go_ret
        exact ⟨⟨_, rfl, fun _ => HG.out (H1.out.1 (by trivial))⟩, H1.out.2⟩
      | false =>
        go_wp2_with fail
        go_ret
        exact ⟨⟨_, rfl, fun h => absurd h (by decide)⟩, H1.out.2⟩
end Go.Proofs.YtidfcajhmldieaaGreatDoor.Tkw
