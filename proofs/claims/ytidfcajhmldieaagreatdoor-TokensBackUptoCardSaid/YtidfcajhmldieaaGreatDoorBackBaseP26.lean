/-
  Part 26: TkcTokens, TkcAlive.
-/
import Derived.Test.YtidfcajhmldieaaGreatDoorBackBaseP25
/-
  Contract of Tokens of package tokens, at every text.
-/
namespace Go.Proofs.YtidfcajhmldieaaGreatDoor.Tkc
open Go.RowKit Go.Proofs.YtidfcajhmldieaaGreatDoor.Oct Go.Proofs.YtidfcajhmldieaaGreatDoor.Utf Go.Proofs.YtidfcajhmldieaaGreatDoor.Crf Go.Proofs.YtidfcajhmldieaaGreatDoor.Tab Go.Proofs.YtidfcajhmldieaaGreatDoor.Tok

/-- A list of tokens in memory, of the call's own, each with its attributes. -/
def ToksM (B : Nat) (w : World) (v : Value) (ts : List Tk) : Prop := ∃ ps : List (Tk × Value), ts = ps.map Prod.fst ∧ TkR B w v ps ∧ ∀ p ∈ ps, AtR B w p.2 p.1.a
/-- What Tokens answers: that the text is too long, that its tokens are too many, or they. -/
def TokTo (B : Nat) (l : List UInt8) (e : Ending) (w : World) : Prop :=
  if 65536 < l.length then e = .returned (.tuple #[.slice none 0 0, .int .i64 5])
  else if 4096 < (tokL l).length then e = .returned (.tuple #[.slice none 0 0, .int .i64 3])
  else ∃ v, e = .returned (.tuple #[v, .int .i64 0]) ∧ ToksM B w v (tokL l)
theorem enter_toks : ∀ args w, (callFunc 13 args).run Tryz.prog w = .ok (.enter 13 args) w := enters_of Tryz.func13 (by kernel_rfl) rfl
set_option maxHeartbeats 2000000 in
set_option maxRecDepth 100000 in
theorem toks1_c (l : List UInt8) (hl : l.length ≤ 65536) (sb : Nat) (w : World) (hs : w.cell? ⟨sb, 0, none⟩ = some (.string (S l))) (hM : MaxAt w) (hRM : 0 < w.heap.size) :
    Calls Tryz.prog 13 #[.pointer (some ⟨sb, 0, none⟩)] w fun e W => Below w.heap.size w W ∧ ((∃ n, e = Fault n ∧ (n = 3 ∧ 4096 < (tokL l).length)) ∨ ∃ v, e = .returned v ∧ (ToksM w.heap.size W v (tokL l) ∧ (tokL l).length ≤ 4096)) := by
  have hb : Below w.heap.size w (w.alloc (.cells (boxT l 0 (.slice none 0 0)) 40)) := (Below.refl _ w).alloc (Nat.le_refl _) _
  have hall := all_c w.heap.size l hl (w.alloc (.cells (boxT l 0 (.slice none 0 0)) 40)) ⟨heap_alloc_new w _, World.ownsRow_nil _ _ _ _, (fun p hp => nomatch hp), (fun p hp => nomatch hp)⟩ (hM.kept hb) hRM
  have HB := Lib.hid hb
  clear hb hM hRM
  go_enter Tryz.func13, Tryz.ntmps13
  go_wp2_with fail
  refine hall.mono ?_
  clear hall
  generalize w.alloc (.cells (boxT l 0 (.slice none 0 0)) 40) = w1 at HB ⊢
  intro e2 w2 ht
  cases ht with
  | many he hn hb2 =>
    subst he
    exact ⟨rfl, HB.out.trans hb2, .inl ⟨3, rfl, rfl, hn⟩⟩
  | done he k v ps h hn hd hb2 =>
    subst he
    have c2 : w2.cell? ⟨w.heap.size, 2, none⟩ = some v := (h.box.cell 2).trans rfl
    have H2 := Lib.hid (And.intro h (HB.out.trans hb2))
    clear h hb2
    go_wp2_with fail
    go_ret
    refine ⟨H2.out.2, .inr ⟨v, rfl, ⟨ps, hd.symm, own_less H2.out.1.out (Nat.le_succ _), fun p hp => own_less (H2.out.1.ats p hp) (Nat.le_succ _)⟩, ?_⟩⟩
    rw [← hd, List.length_map]
    exact hn
set_option maxHeartbeats 2000000 in
set_option maxRecDepth 100000 in
theorem toks_c (l : List UInt8) (w : World) (hM : MaxAt w) :
    Calls Tryz.prog 7 #[.string (S l)] w fun e w' => TokTo w.heap.size l e w' ∧ Below w.heap.size w w' := by
  have hsz : ((S l).size : Int) = (l.length : Int) := by rw [size_S]
  unfold TokTo
  by_cases hl : 65536 < l.length
  · simp only [if_pos hl]
    have hli : 65536 < (l.length : Int) := by omega
    have hd : decide (65536 < (l.length : Int)) = true := decide_eq_true hli
    clear hl hM
    generalize S l = L at *
    go_enter Tryz.func7, Tryz.ntmps7
    go_wp2_with fail
    go_ret2
    exact ⟨rfl, (Below.refl _ _).alloc (Nat.le_refl _) _⟩
  · simp only [if_neg hl]
    have hli : ¬ (65536 < (l.length : Int)) := by omega
    have hd : decide (65536 < (l.length : Int)) = false := decide_eq_false hli
    have hb1 : Below w.heap.size w (w.alloc (.cells #[.string (S l)] 9)) := (Below.refl _ w).alloc (Nat.le_refl _) _
    have hs1 : (w.alloc (.cells #[.string (S l)] 9)).heap.size = w.heap.size + 1 := Array.size_push _
    have hx1 : (w.alloc (.cells #[.string (S l)] 9)).cell? ⟨w.heap.size, 0, none⟩ = some (.string (S l)) := (cell_of_row _ _ 0 _ _ _ (heap_alloc_new w _)).trans rfl
    have hM1 := hM.kept hb1
    have hlt0 : 0 < w.heap.size := by
      obtain ⟨m, hm⟩ := hM
      exact World.block_lt_of_cell? _ _ hm
    have HW := Lib.hid (And.intro hb1 hs1)
    obtain ⟨w1, hw1⟩ : ∃ w1, w1 = w.alloc (.cells #[.string (S l)] 9) := ⟨_, rfl⟩
    rw [← hw1] at hb1 hs1 hx1 hM1 HW
    have hb2 : Below w1.heap.size w1 (errBox w1) := (Below.refl _ w1).alloc (Nat.le_refl _) _
    have hs2 : (errBox w1).heap.size = w1.heap.size + 1 := Array.size_push _
    have hc := caught_any 13 #[.pointer (some ⟨w.heap.size, 0, none⟩)] w1 (fun n _ => n = 3 ∧ 4096 < (tokL l).length) (fun v W => ToksM (errBox w1).heap.size W v (tokL l) ∧ (tokL l).length ≤ 4096) enter_toks
      (toks1_c l (by omega) w.heap.size (errBox w1) ((hb2.cell (p := ⟨w.heap.size, 0, none⟩) (by rw [hs1]; exact Nat.lt_succ_self _)).trans hx1) (hM1.kept hb2) (by omega))
    have HS2 := Lib.hid hs2
    rw [hw1] at hc
    clear hb1 hs1 hx1 hM1 hb2 hs2 hl hM
    generalize S l = L at *
    go_enter Tryz.func7, Tryz.ntmps7
    go_wp2_with fail
    refine hc.mono ?_
    clear hc
    rw [← hw1]
    rintro e2 w2 ⟨W, hbW, hW, (⟨n, rfl, rfl, hn⟩ | ⟨v, rfl, ⟨ps, hts, hro, hat⟩, hn⟩)⟩
    · have hb := HW.out.1.trans (hbW.mono (by rw [HW.out.2]; omega))
      clear hbW hW hw1
      go_wp2_with fail
      go_ret2
      exact ⟨rfl, hb⟩
    · have hb := HW.out.1.trans (hbW.mono (by rw [HW.out.2]; omega))
      have hm : ToksM w.heap.size w2 v (tokL l) := by
        have h2 : w1.heap.size + 1 ≤ (errBox w1).heap.size := by rw [HS2.out]; omega
        have h3 : w.heap.size ≤ (errBox w1).heap.size := by rw [HS2.out, HW.out.2]; omega
        refine ⟨ps, hts, own_less (own_same hro fun k hk he => hW k (Nat.le_trans h2 hk) (own_lt hro k he)) h3, fun p hp => own_less (own_same (hat p hp) fun k hk he => hW k (Nat.le_trans h2 hk) (own_lt (hat p hp) k he)) h3⟩
      clear hbW hW hw1 hts hro hat
      go_wp2_with fail
      go_ret2
      exact ⟨⟨v, rfl, hm⟩, hb⟩
end Go.Proofs.YtidfcajhmldieaaGreatDoor.Tkc

/-
  A list of tokens as the laws of layer 12 read it; the page's example.
-/
namespace Go.Proofs.YtidfcajhmldieaaGreatDoor.Tkc
open Go.RowKit Go.Proofs.YtidfcajhmldieaaGreatDoor.Oct Go.Proofs.YtidfcajhmldieaaGreatDoor.Utf Go.Proofs.YtidfcajhmldieaaGreatDoor.Crf Go.Proofs.YtidfcajhmldieaaGreatDoor.Tab Go.Proofs.YtidfcajhmldieaaGreatDoor.Tok

theorem flat_cell {α : Type} (f : α → List Value) (m : Nat) (hf : ∀ x, (f x).length = m) (l : List α) : ∀ (i : Nat) (h : i < l.length) (j : Nat), j < m → (l.flatMap f)[i * m + j]? = (f l[i])[j]? := by
  induction l with
  | nil => intro i h; exact absurd h (Nat.not_lt_zero _)
  | cons x t ih =>
    intro i h j hj
    rw [List.flatMap_cons]
    cases i with
    | zero =>
      rw [Nat.zero_mul, Nat.zero_add, List.getElem?_append_left (by rw [hf]; exact hj)]
      rfl
    | succ i =>
      rw [List.getElem?_append_right (by rw [hf, Nat.succ_mul]; omega)]
      have e : (i + 1) * m + j - (f x).length = i * m + j := by rw [hf, Nat.succ_mul]; omega
      rw [e]
      exact ih i (by simpa using h) j hj
/-- A row that is not empty: its block, and its cells. -/
theorem own_cells {w : World} {B size n : Nat} {e : TypeId} {v : Value} {xs : List Value} (h : w.ownsRow B e size v n xs) (hn : 0 < n) : ∃ g cap, v = .slice (some ⟨g, 0, none⟩) n cap ∧ B ≤ g ∧ ∀ j u, xs[j]? = some u → w.cell? ⟨g, j, none⟩ = some u := by
  rcases h.2 with ⟨rfl, h0⟩ | ⟨g, cap, cur, rfl, hb, hg, rest⟩
  · omega
  · refine ⟨g, cap, rfl, hb, fun j u hu => ?_⟩
    have hlt : j < xs.length := (List.getElem?_eq_some_iff.1 hu).1
    rw [h.cellAt j (by rw [← h.1]; exact hlt)]
    exact hu
/-- A token of a list as it is read: its five cells. -/
structure TkAt (w : World) (g i : Nat) (t : Tk) (va : Value) : Prop where
  k : w.cell? ⟨g, i * 5, none⟩ = some (.int .i64 t.k)
  n : w.cell? ⟨g, i * 5 + 1, none⟩ = some (.string (S t.n))
  x : w.cell? ⟨g, i * 5 + 2, none⟩ = some (.string (S t.x))
  a : w.cell? ⟨g, i * 5 + 3, none⟩ = some va
  c : w.cell? ⟨g, i * 5 + 4, none⟩ = some (.bool t.c)
theorem TkAt.keep {w w' : World} {g i : Nat} {t : Tk} {va : Value} (h : TkAt w g i t va) (hb : Below w.heap.size w w') : TkAt w' g i t va :=
  ⟨(hb.cell (World.block_lt_of_cell? _ _ h.k)).trans h.k, (hb.cell (World.block_lt_of_cell? _ _ h.n)).trans h.n, (hb.cell (World.block_lt_of_cell? _ _ h.x)).trans h.x, (hb.cell (World.block_lt_of_cell? _ _ h.a)).trans h.a, (hb.cell (World.block_lt_of_cell? _ _ h.c)).trans h.c⟩
theorem toks_at {B : Nat} {w : World} {v : Value} {ts : List Tk} (h : ToksM B w v ts) (hn : 0 < ts.length) : ∃ g cap, v = .slice (some ⟨g, 0, none⟩) ts.length cap ∧ B ≤ g ∧ ∀ i (hi : i < ts.length), ∃ va, TkAt w g i ts[i] va ∧ AtR B w va ts[i].a := by
  obtain ⟨ps, rfl, ho, ha⟩ := h
  rw [List.length_map] at hn
  obtain ⟨g, cap, hv, hB, hc⟩ := own_cells ho hn
  refine ⟨g, cap, by rw [List.length_map]; exact hv, hB, fun i hi => ?_⟩
  have hi' : i < ps.length := by rw [List.length_map] at hi; exact hi
  have e := fun j (hj : j < 5) => flat_cell tkCs 5 (fun _ => rfl) ps i hi' j hj
  have em : (ps.map Prod.fst)[i] = ps[i].1 := List.getElem_map _
  rw [em]
  exact ⟨ps[i].2, ⟨hc _ _ (e 0 (by decide)), hc _ _ (e 1 (by decide)), hc _ _ (e 2 (by decide)), hc _ _ (e 3 (by decide)), hc _ _ (e 4 (by decide))⟩, ha _ (List.getElem_mem hi')⟩
theorem num_c (n : Int) (w : World) : Calls Tryz.prog 6 #[.int .i64 n] w fun e w' => e = .returned (.int .i64 n) ∧ w = w' := by
  go_enter Tryz.func6, Tryz.ntmps6
  go_wp2
  go_ret
  exact ⟨rfl, rfl⟩
theorem tok_alive : tokL [60, 112, 62, 97] = [⟨1, [112], [], [], false⟩, txTk [97]] := by decide +kernel
set_option maxRecDepth 100000 in
theorem alive_c (w : World) (hM : MaxAt w) : Calls Tryz.prog 4 #[] w fun e w' => e = .returned (.bool true) ∧ Below w.heap.size w w' := by
  have h1 := toks_c [60, 112, 62, 97] w hM
  have hn := num_c
  clear hM
  go_enter Tryz.func4, Tryz.ntmps4
  go_wp2_with fail
  refine h1.mono ?_
  clear h1
  rintro e w1 ⟨ht, hb1⟩
  unfold TokTo at ht
  rw [if_neg (by decide), tok_alive, if_neg (by decide)] at ht
  obtain ⟨v, rfl, hv⟩ := ht
  obtain ⟨g, cap, rfl, _, hat⟩ := toks_at hv (by decide)
  obtain ⟨va, h0, _⟩ := hat 0 (by decide)
  obtain ⟨vb, h1, _⟩ := hat 1 (by decide)
  have c1 : w1.cell? ⟨g, 1, none⟩ = some (.string ⟨#[112]⟩) := h0.n
  have c2 : w1.cell? ⟨g, 7, none⟩ = some (.string ⟨#[97]⟩) := h1.x
  clear hv hat h0 h1
  go_wp2_with (go_at_call 6; refine (hn _ _).mono ?_; rintro e2 w2 ⟨rfl, rfl⟩)
  go_ret
  exact ⟨rfl, hb1⟩
end Go.Proofs.YtidfcajhmldieaaGreatDoor.Tkc
