/-
  Part 29: TkcTokens, TkcAlive, TokText, Bytes, RefTexts.
-/
import Derived.Test.YtidfcajhmldieaaGreatOwnBaseP28
import Derived.Test.YtidfcajhmldieaaGreatOwnBaseP17
import Derived.Test.YtidfcajhmldieaaGreatOwnBaseP10
import Derived.Lib.BufferRead
import Derived.Test.YtidfcajhmldieaaGreatOwnBaseP11
/-
  Contract of Tokens of package tokens, at every text.
-/
namespace Go.Proofs.YtidfcajhmldieaaGreat.Tkc
open Go.RowKit Go.Proofs.YtidfcajhmldieaaGreat.Oct Go.Proofs.YtidfcajhmldieaaGreat.Utf Go.Proofs.YtidfcajhmldieaaGreat.Crf Go.Proofs.YtidfcajhmldieaaGreat.Tab Go.Proofs.YtidfcajhmldieaaGreat.Tok

/-- A list of tokens in memory, of the call's own, each with its attributes. -/
def ToksM (B : Nat) (w : World) (v : Value) (ts : List Tk) : Prop := ∃ ps : List (Tk × Value), ts = ps.map Prod.fst ∧ TkR B w v ps ∧ ∀ p ∈ ps, AtR B w p.2 p.1.a
/-- What Tokens answers: that the text is too long, that its tokens are too many, or they. -/
def TokTo (B : Nat) (l : List UInt8) (e : Ending) (w : World) : Prop :=
  if 65536 < l.length then e = .returned (.tuple #[.slice none 0 0, .int .i64 5])
  else if 4096 < (tokL l).length then e = .returned (.tuple #[.slice none 0 0, .int .i64 3])
  else ∃ v, e = .returned (.tuple #[v, .int .i64 0]) ∧ ToksM B w v (tokL l)
theorem enter_toks : ∀ args w, (callFunc 10 args).run Tryz.prog w = .ok (.enter 10 args) w := enters_of Tryz.func10 (by kernel_rfl) rfl
set_option maxHeartbeats 2000000 in
set_option maxRecDepth 100000 in
theorem toks1_c (l : List UInt8) (hl : l.length ≤ 65536) (sb : Nat) (w : World) (hs : w.cell? ⟨sb, 0, none⟩ = some (.string (S l))) (hM : MaxAt w) (hRM : 0 < w.heap.size) :
    Calls Tryz.prog 10 #[.pointer (some ⟨sb, 0, none⟩)] w fun e W => Below w.heap.size w W ∧ ((∃ n, e = Fault n ∧ (n = 3 ∧ 4096 < (tokL l).length)) ∨ ∃ v, e = .returned v ∧ (ToksM w.heap.size W v (tokL l) ∧ (tokL l).length ≤ 4096)) := by
  have hb : Below w.heap.size w (w.alloc (.cells (boxT l 0 (.slice none 0 0)) 39)) := (Below.refl _ w).alloc (Nat.le_refl _) _
  have hall := all_c w.heap.size l hl (w.alloc (.cells (boxT l 0 (.slice none 0 0)) 39)) ⟨heap_alloc_new w _, World.ownsRow_nil _ _ _ _, (fun p hp => nomatch hp), (fun p hp => nomatch hp)⟩ (hM.kept hb) hRM
  have HB := Lib.hid hb
  clear hb hM hRM
  go_enter Tryz.func10, Tryz.ntmps10
  go_wp2_with fail
  refine hall.mono ?_
  clear hall
  generalize w.alloc (.cells (boxT l 0 (.slice none 0 0)) 39) = w1 at HB ⊢
  intro e2 w2 ht
  cases ht with
  | many he hn hb2 =>
    subst he
    exact ⟨rfl, HB.out.trans hb2, .inl ⟨3, rfl, rfl, hn⟩⟩
  | done he k v ps h hn hd hb2 =>
    subst he
    have c2 : w2.cell? ⟨w.heap.size, 2, none⟩ = some v := (h.box.cell 2).trans rfl
    have H2 := Lib.hid (And.intro h (HB.out.trans hb2))
    clear h hb2
    go_wp2_with fail
    go_ret
    refine ⟨H2.out.2, .inr ⟨v, rfl, ⟨ps, hd.symm, own_less H2.out.1.out (Nat.le_succ _), fun p hp => own_less (H2.out.1.ats p hp) (Nat.le_succ _)⟩, ?_⟩⟩
    rw [← hd, List.length_map]
    exact hn
set_option maxHeartbeats 2000000 in
set_option maxRecDepth 100000 in
theorem toks_c (l : List UInt8) (w : World) (hM : MaxAt w) :
    Calls Tryz.prog 5 #[.string (S l)] w fun e w' => TokTo w.heap.size l e w' ∧ Below w.heap.size w w' := by
  have hsz : ((S l).size : Int) = (l.length : Int) := by rw [size_S]
  unfold TokTo
  by_cases hl : 65536 < l.length
  · simp only [if_pos hl]
    have hli : 65536 < (l.length : Int) := by omega
    have hd : decide (65536 < (l.length : Int)) = true := decide_eq_true hli
    clear hl hM
    generalize S l = L at *
    go_enter Tryz.func5, Tryz.ntmps5
    go_wp2_with fail
    go_ret2
    exact ⟨rfl, (Below.refl _ _).alloc (Nat.le_refl _) _⟩
  · simp only [if_neg hl]
    have hli : ¬ (65536 < (l.length : Int)) := by omega
    have hd : decide (65536 < (l.length : Int)) = false := decide_eq_false hli
    have hb1 : Below w.heap.size w (w.alloc (.cells #[.string (S l)] 9)) := (Below.refl _ w).alloc (Nat.le_refl _) _
    have hs1 : (w.alloc (.cells #[.string (S l)] 9)).heap.size = w.heap.size + 1 := Array.size_push _
    have hx1 : (w.alloc (.cells #[.string (S l)] 9)).cell? ⟨w.heap.size, 0, none⟩ = some (.string (S l)) := (cell_of_row _ _ 0 _ _ _ (heap_alloc_new w _)).trans rfl
    have hM1 := hM.kept hb1
    have hlt0 : 0 < w.heap.size := by
      obtain ⟨m, hm⟩ := hM
      exact World.block_lt_of_cell? _ _ hm
    have HW := Lib.hid (And.intro hb1 hs1)
    obtain ⟨w1, hw1⟩ : ∃ w1, w1 = w.alloc (.cells #[.string (S l)] 9) := ⟨_, rfl⟩
    rw [← hw1] at hb1 hs1 hx1 hM1 HW
    have hb2 : Below w1.heap.size w1 (errBox w1) := (Below.refl _ w1).alloc (Nat.le_refl _) _
    have hs2 : (errBox w1).heap.size = w1.heap.size + 1 := Array.size_push _
    have hc := caught_any 10 #[.pointer (some ⟨w.heap.size, 0, none⟩)] w1 (fun n _ => n = 3 ∧ 4096 < (tokL l).length) (fun v W => ToksM (errBox w1).heap.size W v (tokL l) ∧ (tokL l).length ≤ 4096) enter_toks
      (toks1_c l (by omega) w.heap.size (errBox w1) ((hb2.cell (p := ⟨w.heap.size, 0, none⟩) (by rw [hs1]; exact Nat.lt_succ_self _)).trans hx1) (hM1.kept hb2) (by omega))
    have HS2 := Lib.hid hs2
    rw [hw1] at hc
    clear hb1 hs1 hx1 hM1 hb2 hs2 hl hM
    generalize S l = L at *
    go_enter Tryz.func5, Tryz.ntmps5
    go_wp2_with fail
    refine hc.mono ?_
    clear hc
    rw [← hw1]
    rintro e2 w2 ⟨W, hbW, hW, (⟨n, rfl, rfl, hn⟩ | ⟨v, rfl, ⟨ps, hts, hro, hat⟩, hn⟩)⟩
    · have hb := HW.out.1.trans (hbW.mono (by rw [HW.out.2]; omega))
      clear hbW hW hw1
      go_wp2_with fail
      go_ret2
      exact ⟨rfl, hb⟩
    · have hb := HW.out.1.trans (hbW.mono (by rw [HW.out.2]; omega))
      have hm : ToksM w.heap.size w2 v (tokL l) := by
        have h2 : w1.heap.size + 1 ≤ (errBox w1).heap.size := by rw [HS2.out]; omega
        have h3 : w.heap.size ≤ (errBox w1).heap.size := by rw [HS2.out, HW.out.2]; omega
        refine ⟨ps, hts, own_less (own_same hro fun k hk he => hW k (Nat.le_trans h2 hk) (own_lt hro k he)) h3, fun p hp => own_less (own_same (hat p hp) fun k hk he => hW k (Nat.le_trans h2 hk) (own_lt (hat p hp) k he)) h3⟩
      clear hbW hW hw1 hts hro hat
      go_wp2_with fail
      go_ret2
      exact ⟨⟨v, rfl, hm⟩, hb⟩
end Go.Proofs.YtidfcajhmldieaaGreat.Tkc

/-
  A list of tokens as the laws of layer 12 read it; the page's example.
-/
namespace Go.Proofs.YtidfcajhmldieaaGreat.Tkc
open Go.RowKit Go.Proofs.YtidfcajhmldieaaGreat.Oct Go.Proofs.YtidfcajhmldieaaGreat.Utf Go.Proofs.YtidfcajhmldieaaGreat.Crf Go.Proofs.YtidfcajhmldieaaGreat.Tab Go.Proofs.YtidfcajhmldieaaGreat.Tok

theorem flat_cell {α : Type} (f : α → List Value) (m : Nat) (hf : ∀ x, (f x).length = m) (l : List α) : ∀ (i : Nat) (h : i < l.length) (j : Nat), j < m → (l.flatMap f)[i * m + j]? = (f l[i])[j]? := by
  induction l with
  | nil => intro i h; exact absurd h (Nat.not_lt_zero _)
  | cons x t ih =>
    intro i h j hj
    rw [List.flatMap_cons]
    cases i with
    | zero =>
      rw [Nat.zero_mul, Nat.zero_add, List.getElem?_append_left (by rw [hf]; exact hj)]
      rfl
    | succ i =>
      rw [List.getElem?_append_right (by rw [hf, Nat.succ_mul]; omega)]
      have e : (i + 1) * m + j - (f x).length = i * m + j := by rw [hf, Nat.succ_mul]; omega
      rw [e]
      exact ih i (by simpa using h) j hj
/-- A row that is not empty: its block, and its cells. -/
theorem own_cells {w : World} {B size n : Nat} {e : TypeId} {v : Value} {xs : List Value} (h : w.ownsRow B e size v n xs) (hn : 0 < n) : ∃ g cap, v = .slice (some ⟨g, 0, none⟩) n cap ∧ B ≤ g ∧ ∀ j u, xs[j]? = some u → w.cell? ⟨g, j, none⟩ = some u := by
  rcases h.2 with ⟨rfl, h0⟩ | ⟨g, cap, cur, rfl, hb, hg, rest⟩
  · omega
  · refine ⟨g, cap, rfl, hb, fun j u hu => ?_⟩
    have hlt : j < xs.length := (List.getElem?_eq_some_iff.1 hu).1
    rw [h.cellAt j (by rw [← h.1]; exact hlt)]
    exact hu
/-- A token of a list as it is read: its five cells. -/
structure TkAt (w : World) (g i : Nat) (t : Tk) (va : Value) : Prop where
  k : w.cell? ⟨g, i * 5, none⟩ = some (.int .i64 t.k)
  n : w.cell? ⟨g, i * 5 + 1, none⟩ = some (.string (S t.n))
  x : w.cell? ⟨g, i * 5 + 2, none⟩ = some (.string (S t.x))
  a : w.cell? ⟨g, i * 5 + 3, none⟩ = some va
  c : w.cell? ⟨g, i * 5 + 4, none⟩ = some (.bool t.c)
theorem TkAt.keep {w w' : World} {g i : Nat} {t : Tk} {va : Value} (h : TkAt w g i t va) (hb : Below w.heap.size w w') : TkAt w' g i t va :=
  ⟨(hb.cell (World.block_lt_of_cell? _ _ h.k)).trans h.k, (hb.cell (World.block_lt_of_cell? _ _ h.n)).trans h.n, (hb.cell (World.block_lt_of_cell? _ _ h.x)).trans h.x, (hb.cell (World.block_lt_of_cell? _ _ h.a)).trans h.a, (hb.cell (World.block_lt_of_cell? _ _ h.c)).trans h.c⟩
theorem toks_at {B : Nat} {w : World} {v : Value} {ts : List Tk} (h : ToksM B w v ts) (hn : 0 < ts.length) : ∃ g cap, v = .slice (some ⟨g, 0, none⟩) ts.length cap ∧ B ≤ g ∧ ∀ i (hi : i < ts.length), ∃ va, TkAt w g i ts[i] va ∧ AtR B w va ts[i].a := by
  obtain ⟨ps, rfl, ho, ha⟩ := h
  rw [List.length_map] at hn
  obtain ⟨g, cap, hv, hB, hc⟩ := own_cells ho hn
  refine ⟨g, cap, by rw [List.length_map]; exact hv, hB, fun i hi => ?_⟩
  have hi' : i < ps.length := by rw [List.length_map] at hi; exact hi
  have e := fun j (hj : j < 5) => flat_cell tkCs 5 (fun _ => rfl) ps i hi' j hj
  have em : (ps.map Prod.fst)[i] = ps[i].1 := List.getElem_map _
  rw [em]
  exact ⟨ps[i].2, ⟨hc _ _ (e 0 (by decide)), hc _ _ (e 1 (by decide)), hc _ _ (e 2 (by decide)), hc _ _ (e 3 (by decide)), hc _ _ (e 4 (by decide))⟩, ha _ (List.getElem_mem hi')⟩
theorem num_c (n : Int) (w : World) : Calls Tryz.prog 8 #[.int .i64 n] w fun e w' => e = .returned (.int .i64 n) ∧ w = w' := by
  go_enter Tryz.func8, Tryz.ntmps8
  go_wp2
  go_ret
  exact ⟨rfl, rfl⟩
theorem tok_alive : tokL [60, 112, 62, 97] = [⟨1, [112], [], [], false⟩, txTk [97]] := by decide +kernel
set_option maxRecDepth 100000 in
theorem alive_c (w : World) (hM : MaxAt w) : Calls Tryz.prog 4 #[] w fun e w' => e = .returned (.bool true) ∧ Below w.heap.size w w' := by
  have h1 := toks_c [60, 112, 62, 97] w hM
  have hn := num_c
  clear hM
  go_enter Tryz.func4, Tryz.ntmps4
  go_wp2_with fail
  refine h1.mono ?_
  clear h1
  rintro e w1 ⟨ht, hb1⟩
  unfold TokTo at ht
  rw [if_neg (by decide), tok_alive, if_neg (by decide)] at ht
  obtain ⟨v, rfl, hv⟩ := ht
  obtain ⟨g, cap, rfl, _, hat⟩ := toks_at hv (by decide)
  obtain ⟨va, h0, _⟩ := hat 0 (by decide)
  obtain ⟨vb, h1, _⟩ := hat 1 (by decide)
  have c1 : w1.cell? ⟨g, 1, none⟩ = some (.string ⟨#[112]⟩) := h0.n
  have c2 : w1.cell? ⟨g, 7, none⟩ = some (.string ⟨#[97]⟩) := h1.x
  clear hv hat h0 h1
  go_wp2_with (go_at_call 8; refine (hn _ _).mono ?_; rintro e2 w2 ⟨rfl, rfl⟩)
  go_ret
  exact ⟨rfl, hb1⟩
end Go.Proofs.YtidfcajhmldieaaGreat.Tkc

/-
  Contract of the page's reader's text: what was gathered, told.
-/
namespace Go.Proofs.YtidfcajhmldieaaGreat.Tok
open Go.RowKit Go.Proofs.YtidfcajhmldieaaGreat.Oct Go.Proofs.YtidfcajhmldieaaGreat.Utf Go.Proofs.YtidfcajhmldieaaGreat.Crf Go.Proofs.YtidfcajhmldieaaGreat.Tab Go.Proofs.YtidfcajhmldieaaGreat.Mem

set_option maxHeartbeats 2000000 in
set_option maxRecDepth 100000 in
theorem text_some (d : Bool) (x : List UInt8) (R : Nat) (l : List UInt8) (r : Rd) (vo vt va : Value) (ps : List (Tk × Value)) (w : World) (h : RdW R l r vo vt va ps w) (hl : r.tx.length ≤ 134217728) (ho : ps.length ≤ 134217728)
    (hd : (if d then decL' r.tx else r.tx) = x) (hx : x ≠ []) :
    Calls Tryz.prog 15 #[.pointer (some ⟨R, 0, none⟩), .bool d] w fun e w' => e = .returned (.tuple #[]) ∧ RdM R l (textR d r) w' ∧ Below R w w' := by
  have c3 : w.cell? ⟨R, 3, none⟩ = some vt := (h.cell 3).trans rfl
  have hcv := conv_own h.txt
  have hdc := fun w => rDecode_c r.tx hl w
  have HW := Lib.hid h
  have HE : Hid (textR d r = { r with out := r.out ++ [txTk x], tx := [] }) := by
    show _ = _
    unfold textR
    rw [hd, if_neg hx]
  obtain ⟨i0, hi, hz0, hz1, hz2⟩ := info_parts info_tok
  have hne : ((S x).toList == []) = false := by
    rw [beq_eq_false_iff_ne]
    intro e
    apply hx
    rw [ByteArray.toList_eq, list_S] at e
    exact e
  have hR : R ≤ w.heap.size := Nat.le_of_lt h.lt
  have HCell : Hid (∀ (w : World) (X : ByteArray), X = S x → ∀ j u, (tkCs (txTk x, .slice none 0 0))[j]? = some u → (w.alloc (.cells #[.int .i64 3, .string ⟨#[]⟩, .string X, .slice none 0 0, .bool false] 29)).cell? ((⟨w.heap.size, 0, none⟩ : Addr).add j) = some u) := fun w X hX j u hj => by
    subst hX
    exact push_cells (cs := tkCs (txTk x, .slice none 0 0)) j u hj
  have HOne := Lib.hid (push_tok (p := (txTk x, .slice none 0 0)) rfl)
  clear h hx
  cases d with
  | true =>
    have hd2 : decL' r.tx = x := hd
    rw [hd2] at hdc
    clear hd hd2
    obtain ⟨X, hX⟩ : ∃ X, X = S x := ⟨_, rfl⟩
    have HX := Lib.hid hX
    rw [← hX] at hdc hne
    clear hX
    generalize S r.tx = T at hcv hdc
    go_enter Tryz.func15, Tryz.ntmps15
    go_wp2_with fail
    refine (hdc _).mono ?_
    rintro e w1 ⟨rfl, hb1⟩
    have HW1 := Lib.hid (HW.out.keep hb1)
    have HB1 := Lib.hid (hb1.mono hR)
    have c1 : w1.cell? ⟨R, 1, none⟩ = some vo := (HW1.out.cell 1).trans rfl
    have hR1 : R + 1 ≤ w1.heap.size := HW1.out.lt
    clear hb1 hdc hcv c3
    go_wp2_with (at_builtin; refine wpList_append_own_at _ rfl _ _ 23 rfl (R + 1) 29 i0 _ 5 72 Tryz.underlying23 hi hz0 hz1 hz2 rfl (by decide) _ _ _ rfl (HW1.out.out.alloc _) ⟨w1.heap.size, 0, none⟩ 1 1 (tkCs (txTk x, .slice none 0 0)) rfl rfl (HCell.out _ _ HX.out) HOne.out (by unfold maxLen; omega) (by omega) (by simp; omega) ?_)
    intro v' w3 hown hg _ hat
    obtain ⟨h3, hb3, c4, z4⟩ := HW1.out.push (txTk x, .slice none 0 0) (World.ownsRow_nil _ _ _ _) ⟨nil_sep _, nil_sep _, nil_sep _⟩ _ hown hg hat
    obtain ⟨vp, vj, vc, rfl⟩ := own_slice hown
    have c5 := (h3.cell 3).trans rfl
    have z5 := h3.froz 3
    have H3 := Lib.hid h3
    have HB3 := Lib.hid (HB1.out.trans hb3)
    clear hown hg hat h3 hb3
    go_wp2_with fail
    go_end0
    exact ⟨rfl, ⟨_, _, _, _, by rw [HE.out]; exact H3.out.clear⟩, below_set _ HB3.out⟩
  | false =>
    have hd2 : r.tx = x := hd
    clear hd hdc
    obtain ⟨X, hX⟩ : ∃ X, X = S r.tx := ⟨_, rfl⟩
    have HX : Hid (X = S x) := by show X = S x; rw [hX, hd2]
    rw [hd2] at hX
    rw [hd2, ← hX] at hcv
    rw [← hX] at hne
    clear hX hd2
    have c1 : w.cell? ⟨R, 1, none⟩ = some vo := (HW.out.cell 1).trans rfl
    have hR1 : R + 1 ≤ w.heap.size := HW.out.lt
    go_enter Tryz.func15, Tryz.ntmps15
    go_wp2_with (at_builtin; refine wpList_append_own_at _ rfl _ _ 23 rfl (R + 1) 29 i0 _ 5 72 Tryz.underlying23 hi hz0 hz1 hz2 rfl (by decide) _ _ _ rfl (HW.out.out.alloc _) ⟨w.heap.size, 0, none⟩ 1 1 (tkCs (txTk x, .slice none 0 0)) rfl rfl (HCell.out _ _ HX.out) HOne.out (by unfold maxLen; omega) (by omega) (by simp; omega) ?_)
    intro v' w3 hown hg _ hat
    obtain ⟨h3, hb3, c4, z4⟩ := HW.out.push (txTk x, .slice none 0 0) (World.ownsRow_nil _ _ _ _) ⟨nil_sep _, nil_sep _, nil_sep _⟩ _ hown hg hat
    obtain ⟨vp, vj, vc, rfl⟩ := own_slice hown
    have c5 := (h3.cell 3).trans rfl
    have z5 := h3.froz 3
    have H3 := Lib.hid h3
    have HB3 := Lib.hid hb3
    clear hown hg hat h3 hb3
    go_wp2_with fail
    go_end0
    exact ⟨rfl, ⟨_, _, _, _, by rw [HE.out]; exact H3.out.clear⟩, below_set _ HB3.out⟩
set_option maxRecDepth 100000 in
theorem text_none (d : Bool) (R : Nat) (l : List UInt8) (r : Rd) (vo vt va : Value) (ps : List (Tk × Value)) (w : World) (h : RdW R l r vo vt va ps w) (hl : r.tx.length ≤ 134217728)
    (hd : (if d then decL' r.tx else r.tx) = []) :
    Calls Tryz.prog 15 #[.pointer (some ⟨R, 0, none⟩), .bool d] w fun e w' => e = .returned (.tuple #[]) ∧ RdM R l (textR d r) w' ∧ Below R w w' := by
  have c3 : w.cell? ⟨R, 3, none⟩ = some vt := (h.cell 3).trans rfl
  have z3 := h.froz 3
  have hcv := conv_own h.txt
  have hdc := fun w => rDecode_c r.tx hl w
  have HW := Lib.hid h
  have HE : Hid (textR d r = { r with tx := [] }) := by
    show _ = _
    unfold textR
    rw [hd, if_pos rfl]
  have hR : R ≤ w.heap.size := Nat.le_of_lt h.lt
  clear h
  cases d with
  | true =>
    have hd2 : decL' r.tx = [] := hd
    rw [hd2] at hdc
    clear hd hd2
    generalize S r.tx = T at hcv hdc
    go_enter Tryz.func15, Tryz.ntmps15
    go_wp2_with fail
    refine (hdc _).mono ?_
    rintro e w1 ⟨rfl, hb1⟩
    have HW1 := Lib.hid (HW.out.keep hb1)
    have HB1 := Lib.hid (hb1.mono hR)
    have c4 : w1.cell? ⟨R, 3, none⟩ = some vt := (HW1.out.cell 3).trans rfl
    have z4 := HW1.out.froz 3
    clear hb1 hdc hcv c3 z3
    go_wp2_with fail
    go_end0
    exact ⟨rfl, ⟨_, _, _, _, by rw [HE.out]; exact HW1.out.clear⟩, below_set _ HB1.out⟩
  | false =>
    have hd2 : r.tx = [] := hd
    rw [hd2] at hcv
    clear hd hd2 hdc
    go_enter Tryz.func15, Tryz.ntmps15
    go_wp2_with fail
    go_end0
    exact ⟨rfl, ⟨_, _, _, _, by rw [HE.out]; exact HW.out.clear⟩, below_set _ (Below.refl _ _)⟩
/-- Contract of text. -/
theorem rtext_c (d : Bool) (R : Nat) (l : List UInt8) (r : Rd) (w : World) (h : RdM R l r w) (hl : r.tx.length ≤ 134217728) (ho : r.out.length ≤ 134217728) :
    Calls Tryz.prog 15 #[.pointer (some ⟨R, 0, none⟩), .bool d] w fun e w' => e = .returned (.tuple #[]) ∧ RdM R l (textR d r) w' ∧ Below R w w' := by
  obtain ⟨vo, vt, va, ps, h⟩ := h
  have hp : ps.length ≤ 134217728 := by have := congrArg List.length h.outs; rw [List.length_map] at this; omega
  by_cases hx : (if d then decL' r.tx else r.tx) = []
  · exact text_none d R l r vo vt va ps w h hl hx
  · exact text_some d _ R l r vo vt va ps w h hl hp rfl hx
end Go.Proofs.YtidfcajhmldieaaGreat.Tok

/-
  Octets in memory: a slice of octets that the call itself made; what it is as a text.
-/
namespace Go.Proofs.YtidfcajhmldieaaGreat.Oct
open Go.RowKit

/-- An octet's value. -/
abbrev bv (c : UInt8) : Value := .int .u8 (c.toNat : Int)

/-- 'string(b)' of a slice of the call's own that holds the octets l, nil or not. -/
theorem conv_own {w : World} {base n : Nat} {v : Value} {l : List UInt8} (h : w.ownsRow base 5 1 v n (l.map bv)) :
    (convert 42 9 v).run Tryz.prog w = .ok (.string (S l)) w := by
  have hn : l.length = n := by simpa using h.1
  rcases h.2 with ⟨rfl, hz⟩ | ⟨g, cap, cur, rfl, hg, hh, hnc, hcm, hcs, htk⟩
  · have hl : l = [] := List.eq_nil_of_length_eq_zero (by omega)
    subst hl
    exact Lib.run_convert_nil_bytes w _ _ 5 0 Tryz.underlying42 Tryz.underlying5 Tryz.underlying9
  · subst hn
    exact run_convert_bytes_back w _ _ 5 ⟨g, 0, none⟩ cap l Tryz.underlying42 Tryz.underlying5 Tryz.underlying9
      (fun j hj => by
        have h1 := h.cellAt j (by omega)
        rw [Addr.add_lit, Nat.zero_add, h1]
        simp [hj])

/-- The cells of the first k octets of l. -/
def cellsTo (l : List UInt8) (k : Nat) : List Value := (l.take k).map bv
theorem cellsTo_all (l : List UInt8) (k : Nat) (h : l.length ≤ k) : cellsTo l k = l.map bv := by unfold cellsTo; rw [List.take_of_length_le h]
theorem cellsTo_succ (l : List UInt8) (k : Nat) (c : UInt8) (h : l[k]? = some c) : cellsTo l k ++ [bv c] = cellsTo l (k + 1) := by
  unfold cellsTo
  rw [List.take_add_one, h]
  simp

theorem own_base {w : World} {base n : Nat} {e : TypeId} {v : Value} {xs : List Value} (h : w.ownsRow base e 1 v n xs) : ∀ k, v.ownBlock = some k → base ≤ k := by
  intro k hk
  rcases h.2 with ⟨rfl, _⟩ | ⟨g, cap, cur, rfl, hg, _⟩
  · simp [Value.ownBlock] at hk
  · simp [Value.ownBlock] at hk; omega

/-- The new octet's cell, as an append of one octet asks for it. -/
theorem push_cell {w : World} {x : Int} {c : UInt8} (h : x = (c.toNat : Int)) (j : Nat) (u : Value) (hj : [bv c][j]? = some u) :
    (w.alloc (.cells #[.int .u8 x] 5)).cell? ((⟨w.heap.size, 0, none⟩ : Addr).add j) = some u := by
  subst h
  match j, hj with
  | 0, hj => simp at hj; subst hj; simp [Addr.add]
theorem push_one {c : UInt8} (u : Value) (hu : u ∈ [bv c]) : u.oneCell' = true := by simp at hu; subst hu; rfl

/-- Behind an append of one octet. -/
theorem push_own {w wr w1 : World} {B k : Nat} {v v' : Value} {l : List UInt8} {c : UInt8} {o : Obj} (hrow : wr.ownsRow B 5 1 v k (cellsTo l k)) (hbel : Below B w wr) (hB : B ≤ wr.heap.size)
    (hown : w1.ownsRow B 5 1 v' (k + 1) (cellsTo l k ++ [bv c])) (hgrow : (wr.alloc o).grownBy w1 v.ownBlock) (hl : l[k]? = some c) :
    w1.ownsRow B 5 1 v' (k + 1) (cellsTo l (k + 1)) ∧ Below B w w1 :=
  ⟨cellsTo_succ l k c hl ▸ hown, (hbel.alloc hB _).grown hgrow (by simp; omega) (own_base hrow)⟩
end Go.Proofs.YtidfcajhmldieaaGreat.Oct

/-
  Contracts of the page's answers on texts: small and great letters.
-/
namespace Go.Proofs.YtidfcajhmldieaaGreat.Oct
open Go.RowKit

theorem map_get (s : ByteArray) (k : Nat) (f : UInt8 → UInt8) (h : k < s.size) : (s.data.toList.map f)[k]? = some (f s[k]) := by
  rw [List.getElem?_map, List.getElem?_eq_getElem (by rw [size_list]; exact h)]
  rfl

set_option maxHeartbeats 1000000 in
set_option maxRecDepth 100000 in
theorem rlower_c (s : ByteArray) (w : World) (hs : s.size ≤ 140737488351232) :
    Calls Tryz.prog 29 #[.string s] w fun e w' => e = .returned (.string (S (s.data.toList.map low))) ∧ Below w.heap.size w w' := by
  obtain ⟨i0, hi, hz0, hz1, hz2⟩ := info_parts info_u8
  go_enter Tryz.func29, Tryz.ntmps29
  go_wp2
  go_loopw [3, 4, 5] (fun v i _ wr => ∃ k : Nat, k ≤ s.size ∧ i = .int .i64 k ∧ Hid (wr.ownsRow w.heap.size 5 1 v k (cellsTo (s.data.toList.map low) k)) ∧ Hid (Below w.heap.size w wr)) (fun _ i _ _ => s.size - (intOf i).toNat)
  case atStart => exact ⟨0, Nat.zero_le _, rfl, World.ownsRow_nil _ _ _ _, Below.refl _ _⟩
  case round =>
    obtain ⟨k, hk, rfl, hrow, hbel⟩ := hrel
    by_cases hlt : k < s.size
    · have hb1 : (s[k].toNat : Int) ≤ 255 := by have := s[k].toNat_lt; omega
      have hB : w.heap.size ≤ wr.heap.size := hbel.out.size
      have hL : Hid ((s.data.toList.map low)[k]? = some (low s[k])) := map_get s k low hlt
      have hN : Hid (((low s[k]).toNat : Int) = lowI (s[k].toNat : Int)) := low_toNat _
      by_cases hg : (65 : Int) ≤ (s[k].toNat : Int) ∧ (s[k].toNat : Int) ≤ 90
      · obtain ⟨hg1, hg2⟩ := hg
        have hx : Hid ((s[k].toNat : Int) - 65 + 97 = ((low s[k]).toNat : Int)) := by show _ = _; rw [hN.out, lowI, if_pos ⟨hg1, hg2⟩]; omega
        go_wp2_with (at_builtin; refine wpList_append_own _ rfl _ _ 42 rfl w.heap.size 5 i0 (.int .u8 0) 1 1 Tryz.underlying42 hi hz0 hz1 hz2 rfl (by decide) _ _ _ rfl (hrow.out.alloc _) ⟨wr.heap.size, 0, none⟩ 1 1 [bv (low s[k])] rfl rfl (push_cell hx.out) push_one (by unfold maxLen; omega) (by omega) (by simp; omega) ?_)
        intro v' w1 hown' hgrow _
        obtain ⟨ho, hb⟩ := push_own hrow.out hbel.out hB hown' hgrow hL.out
        clear hown' hgrow hrow hbel
        have HO := Lib.hid ho
        have HB := Lib.hid hb
        clear ho hb
        go_wp2
        go_roundw
        case rel => exact ⟨k + 1, by omega, by go_num, HO, HB⟩
        case measure => simp [intOf]; omega
      · have hx : Hid ((s[k].toNat : Int) = ((low s[k]).toNat : Int)) := by show _ = _; rw [hN.out, lowI, if_neg hg]
        rcases (show (s[k].toNat : Int) < 65 ∨ 90 < (s[k].toNat : Int) by omega) with hg1 | hg1
        · have hdb : decide ((65 : Int) ≤ (s[k].toNat : Int)) = false := by simp; omega
          clear hg
          go_wp2_with (at_builtin; refine wpList_append_own _ rfl _ _ 42 rfl w.heap.size 5 i0 (.int .u8 0) 1 1 Tryz.underlying42 hi hz0 hz1 hz2 rfl (by decide) _ _ _ rfl (hrow.out.alloc _) ⟨wr.heap.size, 0, none⟩ 1 1 [bv (low s[k])] rfl rfl (push_cell hx.out) push_one (by unfold maxLen; omega) (by omega) (by simp; omega) ?_)
          intro v' w1 hown' hgrow _
          obtain ⟨ho, hb⟩ := push_own hrow.out hbel.out hB hown' hgrow hL.out
          clear hown' hgrow hrow hbel
          have HO := Lib.hid ho
          have HB := Lib.hid hb
          clear ho hb
          go_wp2
          go_roundw
          case rel => exact ⟨k + 1, by omega, by go_num, HO, HB⟩
          case measure => simp [intOf]; omega
        · have hda : (65 : Int) ≤ (s[k].toNat : Int) := by omega
          clear hg
          go_wp2_with (at_builtin; refine wpList_append_own _ rfl _ _ 42 rfl w.heap.size 5 i0 (.int .u8 0) 1 1 Tryz.underlying42 hi hz0 hz1 hz2 rfl (by decide) _ _ _ rfl (hrow.out.alloc _) ⟨wr.heap.size, 0, none⟩ 1 1 [bv (low s[k])] rfl rfl (push_cell hx.out) push_one (by unfold maxLen; omega) (by omega) (by simp; omega) ?_)
          intro v' w1 hown' hgrow _
          obtain ⟨ho, hb⟩ := push_own hrow.out hbel.out hB hown' hgrow hL.out
          clear hown' hgrow hrow hbel
          have HO := Lib.hid ho
          have HB := Lib.hid hb
          clear ho hb
          go_wp2
          go_roundw
          case rel => exact ⟨k + 1, by omega, by go_num, HO, HB⟩
          case measure => simp [intOf]; omega
    · have hcv := conv_own (cellsTo_all (s.data.toList.map low) k (by rw [List.length_map, size_list]; omega) ▸ hrow.out)
      clear hrow
      go_wp2
      go_ret
      exact ⟨rfl, hbel.out⟩

end Go.Proofs.YtidfcajhmldieaaGreat.Oct
