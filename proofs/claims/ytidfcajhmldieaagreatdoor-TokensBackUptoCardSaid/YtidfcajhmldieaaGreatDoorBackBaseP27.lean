/-
  Part 27: TokSame, RowKit, UtfLaid.
-/
import Derived.Test.YtidfcajhmldieaaGreatDoorBackBaseP15
import Derived.Deep.RegionHeld3
import Derived.Test.YtidfcajhmldieaaGreatDoorRows
import Derived.WalkKit
import Derived.ProofKit
import Derived.OpenShut
import Derived.JoinedCond
import Derived.SizedLaws
import Derived.Test.YtidfcajhmldieaaGreatDoorCards
import Derived.Test.YtidfcajhmldieaaGreatDoorTie
import Derived.Test.YtidfcajhmldieaaGreatDoorBackBaseP10
import Derived.Lib.LaidU8
import Derived.Deep.DeepHandedRow
/-
  Contracts of the page's Same and SameAll: lists of tokens in memory, held against one another.
-/
namespace Go.Proofs.YtidfcajhmldieaaGreatDoor.Tok
open Go.RowKit Go.Proofs.YtidfcajhmldieaaGreatDoor.Oct Go.Proofs.YtidfcajhmldieaaGreatDoor.Utf Go.Proofs.YtidfcajhmldieaaGreatDoor.Crf Go.Proofs.YtidfcajhmldieaaGreatDoor.Tab Go.Proofs.YtidfcajhmldieaaGreatDoor.Mem

/-- A list of attributes that lies in memory, to be read. -/
def AtIn (w : World) (v : Value) (al : List At) : Prop := ∃ p cap, v = .slice p al.length cap ∧ (0 < al.length → ∃ b o, p = some ⟨b, o, none⟩ ∧
  ∀ i (h : i < al.length), w.cell? ⟨b, o + i * 2, none⟩ = some (.string (S al[i].n)) ∧ w.cell? ⟨b, o + i * 2 + 1, none⟩ = some (.string (S al[i].v)))
/-- A list of tokens that lies in memory, to be read. -/
def TkIn (w : World) (v : Value) (ts : List Tk) : Prop := ∃ p cap, v = .slice p ts.length cap ∧ (0 < ts.length → ∃ b o, p = some ⟨b, o, none⟩ ∧
  ∀ i (h : i < ts.length), ∃ va, AtIn w va ts[i].a ∧ w.cell? ⟨b, o + i * 5, none⟩ = some (.int .i64 ts[i].k) ∧ w.cell? ⟨b, o + i * 5 + 1, none⟩ = some (.string (S ts[i].n)) ∧ w.cell? ⟨b, o + i * 5 + 2, none⟩ = some (.string (S ts[i].x)) ∧ w.cell? ⟨b, o + i * 5 + 3, none⟩ = some va ∧ w.cell? ⟨b, o + i * 5 + 4, none⟩ = some (.bool ts[i].c))
theorem eqT (a b : List UInt8) : ((S a).toList == (S b).toList) = decide (a = b) := by
  rw [ByteArray.toList_eq, ByteArray.toList_eq, list_S, list_S]
  by_cases h : a = b
  · rw [h]; simp
  · rw [decide_eq_false h, beq_eq_false_iff_ne]; exact h
theorem some_keep {w W : World} {a : Addr} {v : Value} (h : w.cell? a = some v) (hb : Below w.heap.size w W) : W.cell? a = some v := by
  rw [hb.cell (World.block_lt_of_cell? w a h)]
  exact h
theorem drewT {B : Nat} {a w : World} (h : Below B a w) (q : Nat) : Below B a (w.drewN q) := ⟨h.os, h.tape, h.output, h.size, h.block⟩
abbrev tkV (t : Tk) (va : Value) : Value := .agg #[.int .i64 t.k, .string (S t.n), .string (S t.x), va, .bool t.c]
/-- The world in which the two tokens that came in lie in boxes of their own. -/
abbrev twoW (w : World) (k k' : Int) (n n' x x' : List UInt8) (va vb : Value) (c c' : Bool) : World :=
  (w.alloc (.cells #[.int .i64 k, .string (S n), .string (S x), va, .bool c] 34)).alloc (.cells #[.int .i64 k', .string (S n'), .string (S x'), vb, .bool c'] 34)
theorem two_below (w : World) (k k' : Int) (n n' x x' : List UInt8) (va vb : Value) (c c' : Bool) : Below w.heap.size w (twoW w k k' n n' x x' va vb c c') :=
  ((Below.refl _ w).alloc (Nat.le_refl _) _).alloc (by simp) _
theorem two_cells {w W : World} {k k' : Int} {n n' x x' : List UInt8} {va vb : Value} {c c' : Bool} (hb : Below (twoW w k k' n n' x x' va vb c c').heap.size (twoW w k k' n n' x x' va vb c c') W) :
    W.cell? ⟨w.heap.size, 3, none⟩ = some va ∧ W.cell? ⟨w.heap.size + 1, 3, none⟩ = some vb := by
  constructor
  · refine some_keep ?_ hb
    simp
  · refine some_keep ?_ hb
    simp

set_option maxHeartbeats 4000000 in
set_option maxRecDepth 100000 in
theorem same_k (k k' : Int) (n n' x x' : List UInt8) (al bl : List At) (c c' : Bool) (va vb : Value) (w : World) (ha : AtIn w va al) (hb : AtIn w vb bl) (h : ¬ k = k') :
    Calls Tryz.prog 15 #[tkV ⟨k, n, x, al, c⟩ va, tkV ⟨k', n', x', bl, c'⟩ vb] w fun e w' => e = .returned (.bool false) ∧ Below w.heap.size w w' := by
  obtain ⟨pa, ca, rfl, ha⟩ := ha
  obtain ⟨pb, cb, rfl, hb⟩ := hb
  clear ha hb
  have hq : (k == k') = false := by rw [beq_eq_false_iff_ne]; exact h
  go_enter Tryz.func15, Tryz.ntmps15
  go_wp2_with fail
  go_ret
  exact ⟨rfl, two_below _ _ _ _ _ _ _ _ _ _ _⟩
set_option maxHeartbeats 4000000 in
set_option maxRecDepth 100000 in
theorem same_n (k k' : Int) (n n' x x' : List UInt8) (al bl : List At) (c c' : Bool) (va vb : Value) (w : World) (ha : AtIn w va al) (hb : AtIn w vb bl) (hk : k = k') (h : ¬ n = n') :
    Calls Tryz.prog 15 #[tkV ⟨k, n, x, al, c⟩ va, tkV ⟨k', n', x', bl, c'⟩ vb] w fun e w' => e = .returned (.bool false) ∧ Below w.heap.size w w' := by
  obtain ⟨pa, ca, rfl, ha⟩ := ha
  obtain ⟨pb, cb, rfl, hb⟩ := hb
  clear ha hb
  subst hk
  have hq : (n == n') = false := by rw [beq_eq_false_iff_ne]; exact h
  go_enter Tryz.func15, Tryz.ntmps15
  go_wp2_with fail
  go_ret
  exact ⟨rfl, two_below _ _ _ _ _ _ _ _ _ _ _⟩
set_option maxHeartbeats 4000000 in
set_option maxRecDepth 100000 in
theorem same_x (k k' : Int) (n n' x x' : List UInt8) (al bl : List At) (c c' : Bool) (va vb : Value) (w : World) (ha : AtIn w va al) (hb : AtIn w vb bl) (hk : k = k') (hn : n = n') (h : ¬ x = x') :
    Calls Tryz.prog 15 #[tkV ⟨k, n, x, al, c⟩ va, tkV ⟨k', n', x', bl, c'⟩ vb] w fun e w' => e = .returned (.bool false) ∧ Below w.heap.size w w' := by
  obtain ⟨pa, ca, rfl, ha⟩ := ha
  obtain ⟨pb, cb, rfl, hb⟩ := hb
  clear ha hb
  subst hk
  subst hn
  have hq : (x == x') = false := by rw [beq_eq_false_iff_ne]; exact h
  go_enter Tryz.func15, Tryz.ntmps15
  go_wp2_with fail
  go_ret
  exact ⟨rfl, two_below _ _ _ _ _ _ _ _ _ _ _⟩
set_option maxHeartbeats 4000000 in
set_option maxRecDepth 100000 in
theorem same_c (k k' : Int) (n n' x x' : List UInt8) (al bl : List At) (c c' : Bool) (va vb : Value) (w : World) (ha : AtIn w va al) (hb : AtIn w vb bl) (hk : k = k') (hn : n = n') (hx : x = x') (h : ¬ c = c') :
    Calls Tryz.prog 15 #[tkV ⟨k, n, x, al, c⟩ va, tkV ⟨k', n', x', bl, c'⟩ vb] w fun e w' => e = .returned (.bool false) ∧ Below w.heap.size w w' := by
  obtain ⟨pa, ca, rfl, ha⟩ := ha
  obtain ⟨pb, cb, rfl, hb⟩ := hb
  clear ha hb
  subst hk
  subst hn
  subst hx
  have hq : (c == c') = false := by rw [beq_eq_false_iff_ne]; exact h
  go_enter Tryz.func15, Tryz.ntmps15
  go_wp2_with fail
  go_ret
  exact ⟨rfl, two_below _ _ _ _ _ _ _ _ _ _ _⟩
set_option maxHeartbeats 4000000 in
set_option maxRecDepth 100000 in
theorem same_l (k k' : Int) (n n' x x' : List UInt8) (al bl : List At) (c c' : Bool) (va vb : Value) (w : World) (ha : AtIn w va al) (hb : AtIn w vb bl) (hk : k = k') (hn : n = n') (hx : x = x') (hc : c = c') (hl : ¬ al.length = bl.length) :
    Calls Tryz.prog 15 #[tkV ⟨k, n, x, al, c⟩ va, tkV ⟨k', n', x', bl, c'⟩ vb] w fun e w' => e = .returned (.bool false) ∧ Below w.heap.size w w' := by
  obtain ⟨pa, ca, rfl, ha⟩ := ha
  obtain ⟨pb, cb, rfl, hb⟩ := hb
  clear ha hb
  subst hk
  subst hn
  subst hx
  subst hc
  have h : ¬ ((al.length : Int) = (bl.length : Int)) := by omega
  have hq : ((al.length : Int) == (bl.length : Int)) = false := by rw [beq_eq_false_iff_ne]; exact h
  go_enter Tryz.func15, Tryz.ntmps15
  go_wp2_with fail
  go_ret
  exact ⟨rfl, two_below _ _ _ _ _ _ _ _ _ _ _⟩
set_option maxHeartbeats 4000000 in
set_option maxRecDepth 100000 in
theorem same_rest (k : Int) (n x : List UInt8) (al bl : List At) (c : Bool) (va vb : Value) (w : World) (ha : AtIn w va al) (hb : AtIn w vb bl) (hl : al.length = bl.length) (hs : al.length ≤ 9223372036854775807) :
    Calls Tryz.prog 15 #[tkV ⟨k, n, x, al, c⟩ va, tkV ⟨k, n, x, bl, c⟩ vb] w fun e w' => e = .returned (.bool (decide (al = bl))) ∧ Below w.heap.size w w' := by
  obtain ⟨pa, ca, rfl, ha⟩ := ha
  obtain ⟨pb, cb, rfl, hb⟩ := hb
  obtain ⟨N, hN⟩ : ∃ N, al.length = N := ⟨_, rfl⟩
  have hM : bl.length = N := by omega
  have HN := Lib.hid (And.intro hN hM)
  have hs2 : (N : Int) ≤ 9223372036854775807 := by omega
  have hcells : ∀ W, Below (twoW w k k n n x x (.slice pa N ca) (.slice pb N cb) c c).heap.size (twoW w k k n n x x (.slice pa N ca) (.slice pb N cb) c c) W → Below w.heap.size w W ∧ W.cell? ⟨w.heap.size, 3, none⟩ = some (.slice pa N ca) ∧ W.cell? ⟨w.heap.size + 1, 3, none⟩ = some (.slice pb N cb) := fun W h =>
    ⟨(two_below _ _ _ _ _ _ _ _ _ _ _).trans (h.mono (two_below _ _ _ _ _ _ _ _ _ _ _).size), two_cells h⟩
  have HC := Lib.hid hcells
  have HA := Lib.hid ha
  have HBB := Lib.hid hb
  clear ha hb hl hs hcells
  rw [hN, hM]
  clear hN hM
  go_enter Tryz.func15, Tryz.ntmps15
  go_wp2_with fail
  go_loopw [5] (fun i wr => ∃ j : Nat, j ≤ N ∧ i = .int .i64 j ∧ Hid (∀ q (h1 : q < al.length) (h2 : q < bl.length), q < j → al[q] = bl[q]) ∧ Hid (Below (twoW w k k n n x x (.slice pa N ca) (.slice pb N cb) c c).heap.size (twoW w k k n n x x (.slice pa N ca) (.slice pb N cb) c c) wr)) (fun i _ => N - (intOf i).toNat)
  case atStart => exact ⟨0, Nat.zero_le _, rfl, fun q _ _ h => absurd h (Nat.not_lt_zero _), Below.refl _ _⟩
  case round =>
    obtain ⟨j, hj, rfl, heq, hbw⟩ := hrel
    obtain ⟨b0, d0, d1⟩ := HC.out wr hbw.out
    by_cases hlt : j < N
    · have h1 : j < al.length := by have := HN.out; omega
      have h2 : j < bl.length := by have := HN.out; omega
      obtain ⟨ba, oa, rfl, hca⟩ := HA.out (by omega)
      obtain ⟨bb, ob, rfl, hcb⟩ := HBB.out (by omega)
      have y0 := some_keep (hca j h1).1 b0
      have y1 := some_keep (hca j h1).2 b0
      have z0 := some_keep (hcb j h2).1 b0
      have z1 := some_keep (hcb j h2).2 b0
      have i0 : (0 : Int) ≤ (j : Int) := by omega
      have i1 : (j : Int) < (N : Int) := by omega
      have hnx : Hid (al[j] = bl[j] → ∀ q (h1 : q < al.length) (h2 : q < bl.length), q < j + 1 → al[q] = bl[q]) := fun e q g1 g2 hq => by
        rcases Nat.lt_or_ge q j with h | h
        · exact heq.out q g1 g2 h
        · obtain rfl : q = j := by omega
          exact e
      clear hca hcb b0
      by_cases hE : al[j] = bl[j]
      · have HNX := Lib.hid (hnx.out hE)
        rw [← hE] at z0 z1
        clear hnx hE
        generalize al[j] = a at *
        go_wp2_with fail
        go_quiet (fail)
        rename_i nq _
        have HB2 := Lib.hid (drewT hbw.out nq)
        generalize wr.drewN nq = wd at HB2
        go_wp2_with fail
        go_roundw
        case rel => exact ⟨j + 1, by omega, by go_num, HNX, HB2⟩
        case measure => simp [intOf]; omega
      · have hD : decide (al = bl) = false := decide_eq_false (fun e => hE (by subst e; rfl))
        have HD := Lib.hid hD
        clear hnx hD
        generalize al[j] = a at *
        generalize bl[j] = b at *
        have hE2 : ¬ a.n = b.n ∨ (a.n = b.n ∧ ¬ a.v = b.v) := by
          by_cases h1 : a.n = b.n
          · exact .inr ⟨h1, fun e2 => hE (by cases a; cases b; cases h1; cases e2; rfl)⟩
          · exact .inl h1
        clear hE
        obtain ⟨an, av⟩ := a
        obtain ⟨bn, bv⟩ := b
        rcases hE2 with h | ⟨h0, h⟩
        · have h : ¬ an = bn := h
          have hq : (an == bn) = false := by rw [beq_eq_false_iff_ne]; exact h
          go_wp2_with fail
          go_quiet (fail)
          rename_i nq _
          have HB2 := Lib.hid (drewT hbw.out nq)
          generalize wr.drewN nq = wd at HB2
          go_wp2_with fail
          go_ret
          exact ⟨ret_bool HD.out.symm, (HC.out _ HB2.out).1⟩
        · have h0 : an = bn := h0
          have h : ¬ av = bv := h
          have hq : (av == bv) = false := by rw [beq_eq_false_iff_ne]; exact h
          subst h0
          go_wp2_with fail
          go_quiet (fail)
          rename_i nq _
          have HB2 := Lib.hid (drewT hbw.out nq)
          generalize wr.drewN nq = wd at HB2
          go_wp2_with fail
          go_ret
          exact ⟨ret_bool HD.out.symm, (HC.out _ HB2.out).1⟩
    · have hje : j = N := by omega
      have hab : al = bl := List.ext_getElem (by have := HN.out; omega) (fun q g1 g2 => heq.out q g1 g2 (by have := HN.out; omega))
      have HD : Hid (decide (al = bl) = true) := decide_eq_true hab
      clear hab
      subst hje
      go_wp2_with fail
      go_ret
      exact ⟨ret_bool HD.out.symm, b0⟩
/-- Contract of Same. -/
theorem rsame_c (a b : Tk) (va vb : Value) (w : World) (ha : AtIn w va a.a) (hb : AtIn w vb b.a) (hs : a.a.length ≤ 9223372036854775807) :
    Calls Tryz.prog 15 #[tkV a va, tkV b vb] w fun e w' => e = .returned (.bool (decide (a = b))) ∧ Below w.heap.size w w' := by
  obtain ⟨k, n, x, al, c⟩ := a
  obtain ⟨k', n', x', bl, c'⟩ := b
  have hne : ∀ {P : Prop} [Decidable P], ¬ P → decide P = false := fun h => decide_eq_false h
  by_cases hk : k = k'
  · by_cases hn : n = n'
    · by_cases hx : x = x'
      · by_cases hc : c = c'
        · by_cases hl : al.length = bl.length
          · subst hk; subst hn; subst hx; subst hc
            have h := same_rest k n x al bl c va vb w ha hb hl hs
            have e : decide ((⟨k, n, x, al, c⟩ : Tk) = ⟨k, n, x, bl, c⟩) = decide (al = bl) := by
              rw [Bool.eq_iff_iff]; simp
            rw [e]
            exact h
          · rw [hne (fun e => hl (by injection e with _ _ _ e _; rw [e]))]
            exact same_l k k' n n' x x' al bl c c' va vb w ha hb hk hn hx hc hl
        · rw [hne (fun e => hc (by injection e))]
          exact same_c k k' n n' x x' al bl c c' va vb w ha hb hk hn hx hc
      · rw [hne (fun e => hx (by injection e))]
        exact same_x k k' n n' x x' al bl c c' va vb w ha hb hk hn hx
    · rw [hne (fun e => hn (by injection e))]
      exact same_n k k' n n' x x' al bl c c' va vb w ha hb hk hn
  · rw [hne (fun e => hk (by injection e))]
    exact same_k k k' n n' x x' al bl c c' va vb w ha hb hk

theorem atIn_keep {w W : World} {v : Value} {al : List At} (h : AtIn w v al) (hb : Below w.heap.size w W) : AtIn W v al := by
  obtain ⟨p, cap, h1, h2⟩ := h
  refine ⟨p, cap, h1, fun hl => ?_⟩
  obtain ⟨b, o, h3, h4⟩ := h2 hl
  exact ⟨b, o, h3, fun i hi => ⟨some_keep (h4 i hi).1 hb, some_keep (h4 i hi).2 hb⟩⟩
set_option maxHeartbeats 4000000 in
set_option maxRecDepth 100000 in
theorem all_rest (ts us : List Tk) (va vb : Value) (w : World) (ha : TkIn w va ts) (hb : TkIn w vb us) (hl : ts.length = us.length) (hs : ts.length ≤ 9223372036854775807) (hm : ∀ t ∈ ts, t.a.length ≤ 9223372036854775807) :
    Calls Tryz.prog 8 #[va, vb] w fun e w' => e = .returned (.bool (decide (ts = us))) ∧ Below w.heap.size w w' := by
  obtain ⟨pa, ca, rfl, ha⟩ := ha
  obtain ⟨pb, cb, rfl, hb⟩ := hb
  obtain ⟨N, hN⟩ : ∃ N, ts.length = N := ⟨_, rfl⟩
  have hM : us.length = N := by omega
  have HN := Lib.hid (And.intro hN hM)
  have hs2 : (N : Int) ≤ 9223372036854775807 := by omega
  have HA := Lib.hid ha
  have HBB := Lib.hid hb
  have HS := Lib.hid hm
  clear ha hb hl hs hm
  rw [hN, hM]
  clear hN hM
  go_enter Tryz.func8, Tryz.ntmps8
  go_wp2_with fail
  go_loopw [5] (fun i wr => ∃ j : Nat, j ≤ N ∧ i = .int .i64 j ∧ Hid (∀ q (h1 : q < ts.length) (h2 : q < us.length), q < j → ts[q] = us[q]) ∧ Hid (Below w.heap.size w wr)) (fun i _ => N - (intOf i).toNat)
  case atStart => exact ⟨0, Nat.zero_le _, rfl, fun q _ _ h => absurd h (Nat.not_lt_zero _), Below.refl _ _⟩
  case round =>
    obtain ⟨j, hj, rfl, heq, hbw⟩ := hrel
    by_cases hlt : j < N
    · have h1 : j < ts.length := by have := HN.out; omega
      have h2 : j < us.length := by have := HN.out; omega
      obtain ⟨ba, oa, rfl, hca⟩ := HA.out (by omega)
      obtain ⟨bb, ob, rfl, hcb⟩ := HBB.out (by omega)
      obtain ⟨va, hva, x0, x1, x2, x3, x4⟩ := hca j h1
      obtain ⟨vb, hvb, z0, z1, z2, z3, z4⟩ := hcb j h2
      have b0 : Below w.heap.size w wr.drew := hbw.out.drew
      have hsz := HS.out ts[j] (List.getElem_mem h1)
      have y0 := some_keep x0 b0
      have y1 := some_keep x1 b0
      have y2 := some_keep x2 b0
      have y3 := some_keep x3 b0
      have y4 := some_keep x4 b0
      have y5 := some_keep z0 b0
      have y6 := some_keep z1 b0
      have y7 := some_keep z2 b0
      have y8 := some_keep z3 b0
      have y9 := some_keep z4 b0
      have i0 : (0 : Int) ≤ (j : Int) := by omega
      have i1 : (j : Int) < (N : Int) := by omega
      have hnx : Hid (ts[j] = us[j] → ∀ q (h1 : q < ts.length) (h2 : q < us.length), q < j + 1 → ts[q] = us[q]) := fun e q g1 g2 hq => by
        rcases Nat.lt_or_ge q j with h | h
        · exact heq.out q g1 g2 h
        · obtain rfl : q = j := by omega
          exact e
      have hcall := rsame_c ts[j] us[j] va vb wr.drew (atIn_keep hva b0) (atIn_keep hvb b0) hsz
      have HDF := Lib.hid (fun (hE : ¬ ts[j] = us[j]) => (decide_eq_false (fun e => hE (by subst e; rfl)) : decide (ts = us) = false))
      clear hca hcb x0 x1 x2 x3 x4 z0 z1 z2 z3 z4 hva hvb hsz
      by_cases hE : ts[j] = us[j]
      · have HNX := Lib.hid (hnx.out hE)
        rw [decide_eq_true hE] at hcall
        clear hnx hE HDF
        generalize ts[j] = a at *
        generalize us[j] = b at *
        obtain ⟨ak, an, ax, aa, ac⟩ := a
        obtain ⟨bk, bn, bx, bl, bc⟩ := b
        go_wp2_with fail
        go_region_held3 (fun w' => w'.cell? ⟨ba, oa + j * 5, none⟩ = some (.int .i64 ak) ∧ w'.cell? ⟨ba, oa + j * 5 + 1, none⟩ = some (.string (S an)) ∧ w'.cell? ⟨ba, oa + j * 5 + 2, none⟩ = some (.string (S ax)) ∧ w'.cell? ⟨ba, oa + j * 5 + 3, none⟩ = some va ∧ w'.cell? ⟨ba, oa + j * 5 + 4, none⟩ = some (.bool ac) ∧ w'.cell? ⟨bb, ob + j * 5, none⟩ = some (.int .i64 bk) ∧ w'.cell? ⟨bb, ob + j * 5 + 1, none⟩ = some (.string (S bn)) ∧ w'.cell? ⟨bb, ob + j * 5 + 2, none⟩ = some (.string (S bx)) ∧ w'.cell? ⟨bb, ob + j * 5 + 3, none⟩ = some vb ∧ w'.cell? ⟨bb, ob + j * 5 + 4, none⟩ = some (.bool bc))
          (first | with_reducible exact ⟨y0, y1, y2, y3, y4, y5, y6, y7, y8, y9⟩ | with_reducible exact ⟨u0, u1, u2, u3, u4, u5, u6, u7, u8, u9⟩)
          (first
            | (go_at_call 15; refine hcall.mono ?_; rintro e w1 ⟨rfl, hb1⟩; have u0 := some_keep y0 hb1; have u1 := some_keep y1 hb1; have u2 := some_keep y2 hb1; have u3 := some_keep y3 hb1; have u4 := some_keep y4 hb1; have u5 := some_keep y5 hb1; have u6 := some_keep y6 hb1; have u7 := some_keep y7 hb1; have u8 := some_keep y8 hb1; have u9 := some_keep y9 hb1; have HB2 := Lib.hid (b0.trans (hb1.mono b0.size)); clear hb1))
        go_wp2_with fail
        go_roundw
        case rel => exact ⟨j + 1, by omega, by go_num, HNX, HB2⟩
        case measure => simp [intOf]; omega
      · have HD := Lib.hid (HDF.out hE)
        rw [decide_eq_false hE] at hcall
        clear hnx hE HDF
        generalize ts[j] = a at *
        generalize us[j] = b at *
        obtain ⟨ak, an, ax, aa, ac⟩ := a
        obtain ⟨bk, bn, bx, bl, bc⟩ := b
        go_wp2_with fail
        go_region_held3 (fun w' => w'.cell? ⟨ba, oa + j * 5, none⟩ = some (.int .i64 ak) ∧ w'.cell? ⟨ba, oa + j * 5 + 1, none⟩ = some (.string (S an)) ∧ w'.cell? ⟨ba, oa + j * 5 + 2, none⟩ = some (.string (S ax)) ∧ w'.cell? ⟨ba, oa + j * 5 + 3, none⟩ = some va ∧ w'.cell? ⟨ba, oa + j * 5 + 4, none⟩ = some (.bool ac) ∧ w'.cell? ⟨bb, ob + j * 5, none⟩ = some (.int .i64 bk) ∧ w'.cell? ⟨bb, ob + j * 5 + 1, none⟩ = some (.string (S bn)) ∧ w'.cell? ⟨bb, ob + j * 5 + 2, none⟩ = some (.string (S bx)) ∧ w'.cell? ⟨bb, ob + j * 5 + 3, none⟩ = some vb ∧ w'.cell? ⟨bb, ob + j * 5 + 4, none⟩ = some (.bool bc))
          (first | with_reducible exact ⟨y0, y1, y2, y3, y4, y5, y6, y7, y8, y9⟩ | with_reducible exact ⟨u0, u1, u2, u3, u4, u5, u6, u7, u8, u9⟩)
          (first
            | (go_at_call 15; refine hcall.mono ?_; rintro e w1 ⟨rfl, hb1⟩; have u0 := some_keep y0 hb1; have u1 := some_keep y1 hb1; have u2 := some_keep y2 hb1; have u3 := some_keep y3 hb1; have u4 := some_keep y4 hb1; have u5 := some_keep y5 hb1; have u6 := some_keep y6 hb1; have u7 := some_keep y7 hb1; have u8 := some_keep y8 hb1; have u9 := some_keep y9 hb1; have HB2 := Lib.hid (b0.trans (hb1.mono b0.size)); clear hb1))
        go_wp2_with fail
        go_ret
        exact ⟨ret_bool HD.out.symm, HB2.out⟩
    · have hje : j = N := by omega
      have hab : ts = us := List.ext_getElem (by have := HN.out; omega) (fun q g1 g2 => heq.out q g1 g2 (by have := HN.out; omega))
      have HD : Hid (decide (ts = us) = true) := decide_eq_true hab
      clear hab
      subst hje
      go_wp2_with fail
      go_ret
      exact ⟨ret_bool HD.out.symm, hbw.out⟩
set_option maxRecDepth 100000 in
theorem all_len (ts us : List Tk) (va vb : Value) (w : World) (ha : TkIn w va ts) (hb : TkIn w vb us) (hl : ¬ ts.length = us.length) :
    Calls Tryz.prog 8 #[va, vb] w fun e w' => e = .returned (.bool false) ∧ Below w.heap.size w w' := by
  obtain ⟨pa, ca, rfl, _⟩ := ha
  obtain ⟨pb, cb, rfl, _⟩ := hb
  have h : ¬ ((ts.length : Int) = (us.length : Int)) := by omega
  clear hl
  go_enter Tryz.func8, Tryz.ntmps8
  go_wp2_with fail
  go_ret
  exact ⟨rfl, Below.refl _ _⟩
/-- Contract of SameAll. -/
theorem rsameAll_c (ts us : List Tk) (va vb : Value) (w : World) (ha : TkIn w va ts) (hb : TkIn w vb us) (hs : ts.length ≤ 9223372036854775807) (hm : ∀ t ∈ ts, t.a.length ≤ 9223372036854775807) :
    Calls Tryz.prog 8 #[va, vb] w fun e w' => e = .returned (.bool (decide (ts = us))) ∧ Below w.heap.size w w' := by
  by_cases hl : ts.length = us.length
  · exact all_rest ts us va vb w ha hb hl hs hm
  · rw [decide_eq_false (fun e => hl (by rw [e]))]
    exact all_len ts us va vb w ha hb hl
end Go.Proofs.YtidfcajhmldieaaGreatDoor.Tok

/-
  The last step of a law's row where the call leaves a world in which all that lay before lies unturned, the arguments are plain values (numbers, truths, texts), and the answer is the truth.
-/
namespace Go.Proofs.YtidfcajhmldieaaGreatDoor.Kit
open Go.ChangeShapes Go.WideShapes Go.ChangeAt Go.RowKit
variable {H : Type} {enc : TypeId × Value → H} {P : Program}

theorem own : ownKnob Tryz.prog.godebug = none := by kernel_rfl

/-- Arguments without places: what is asked of the world behind the call is that nothing older has turned. -/
theorem post_plain {f : Func} {s : ChangeSpec} {apart fresh handsOn again : Bool} {W W' : World} {args : Array Value} {v : Value} {ds gs : List (DataW H)}
    (hW : DataW.Whole enc P f.params.toList s.vars apart W args.toList ds gs [])
    (hres : ∀ (b : Nat) (sp : Nat → Bool) (hd : Bool), DataW.TrodAll enc P W' b sp hd f.resultTypes.toList (v.resultList f.resultTypes.size) (s.fn H (ds ++ gs)).results [])
    (hargs : ∀ sp : Nat → Bool, DataW.TrodAll enc P W' 0 sp true f.params.toList args.toList (s.fn H (ds ++ gs)).args [])
    (hvars : ∀ sp : Nat → Bool, DataW.TrodVars enc P W' sp s.vars (s.fn H (ds ++ gs)).vars [])
    (hb : Below W.heap.size W W')
    (hok : ∀ (j : Nat) (t : TypeId) (r : Value), f.resultTypes[j]? = some t → (v.resultList f.resultTypes.size)[j]? = some r → Value.okWide P W' .any 0 t r) :
    s.post enc P f apart fresh handsOn again W args v W' :=
  ⟨ds, gs, [], [], [], [], hW, hres _ _ _, hargs _, hvars _, hb.frame _, fun _ =>
    ⟨hok, _, _, [], ⟨[], [], trodAll_append (hargs _) (hres _ _ _), hvars _, rfl, fun _ _ h => by simp at h, fun _ => by simp⟩, fun _ h => by simp at h⟩⟩
end Go.Proofs.YtidfcajhmldieaaGreatDoor.Kit

/-
  What a row that lists Go's own two tables of characters' first octets gives: the tables, as they lie in memory; and a world that holds them.
-/
namespace Go.Proofs.YtidfcajhmldieaaGreatDoor.Laid
open Go.ChangeShapes Go.WideShapes Go.ChangeAt Go.RowKit

abbrev list : List (String × DataW Unit) := [("unicode/utf8.acceptRanges", Rows.laid_unicode_utf8_acceptRanges), ("unicode/utf8.first", Rows.laid_unicode_utf8_first)]
set_option maxRecDepth 100000 in
theorem first_eq : Rows.laid_unicode_utf8_first = Lib.firstData := by kernel_rfl
theorem accept_eq : (Rows.laid_unicode_utf8_acceptRanges : DataW Unit) = Lib.acceptData := by kernel_rfl

theorem tabs {W : World} (h : laidMetH Tryz.prog list W) : Utf.Tabs W := by
  have h' : laidMet Tryz.prog list W := h
  have h3 := Lib.laidMet.reads h' (n := "unicode/utf8.first") (d := Rows.laid_unicode_utf8_first) (.tail _ (.head _))
  have h4 := Lib.laidMet.reads h' (n := "unicode/utf8.acceptRanges") (d := Rows.laid_unicode_utf8_acceptRanges) (.head _)
  rw [first_eq] at h3
  rw [accept_eq] at h4
  exact utf8Tabs_of_reads (ρ := Tryz.lays260_ren) Tryz.lays260 ⟨by kernel_rfl, by kernel_rfl, by kernel_rfl, by kernel_rfl, by kernel_rfl, by kernel_rfl, by kernel_rfl⟩ h3 h4

/-- A world that holds the two tables. -/
noncomputable def laidWorld (os : Os) : World :=
  { World.holding Tryz.prog os ⟨#[], #[], []⟩ with heap := (((World.holding Tryz.prog os ⟨#[], #[], []⟩).heap.modify 1 fun
      | .cells _ t frozen => .cells (Lib.firstTab.map fun z => Value.int .u8 z).toArray t frozen
      | o => o).modify 2 fun
      | .cells _ t frozen => .cells ((List.range 16).flatMap fun i => [Value.int .u8 (Lib.accLo i), Value.int .u8 (Lib.accHi i)]).toArray t frozen
      | o => o) }
set_option maxRecDepth 100000 in
theorem laid_met (os : Os) (args : Array Value) : laidMet Tryz.prog list ((laidWorld os).forCall (fun _ _ => 0) ⟨#[], args, []⟩).memory :=
  laidMet_of_run' 8 (by kernel_rfl) (by kernel_rfl)
end Go.Proofs.YtidfcajhmldieaaGreatDoor.Laid
