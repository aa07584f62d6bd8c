/-
  Part 8: LitAll, LitPlain, LitReads, RowKit, UtfLaid.
-/
import Derived.Test.YtamenccdnobjkaaGreatDoorLitReadsCardP7
import Derived.Test.YtamenccdnobjkaaGreatDoorRows
import Derived.WalkKit
import Derived.ProofKit
import Derived.OpenShut
import Derived.JoinedCond
import Derived.SizedLaws
import Derived.Test.YtamenccdnobjkaaGreatDoorCards
import Derived.Test.YtamenccdnobjkaaGreatDoorTie
import Derived.Test.YtamenccdnobjkaaGreatDoorLitReadsCardP2
import Derived.Lib.LaidU8
import Derived.Deep.DeepHandedRow
/-
  Contracts of the page's Literal and Plain at every value that reads as a tree.
-/
namespace Go.Proofs.YtamenccdnobjkaaGreatDoor.Lit
open Go.RowKit Go.Proofs.YtamenccdnobjkaaGreatDoor.Oct Go.Proofs.YtamenccdnobjkaaGreatDoor.Num Go.Proofs.YtamenccdnobjkaaGreatDoor.Utf Go.Proofs.YtamenccdnobjkaaGreatDoor.Val Go.Proofs.YtamenccdnobjkaaGreatDoor.Mem

def gI : Value → Int
  | .int _ k => k
  | _ => 0
def gS : Value → ByteArray
  | .string s => s
  | _ => ⟨#[]⟩
def gP : Value → Option Addr
  | .slice p _ _ => p
  | _ => none
def gA : Value → Nat
  | .slice _ a _ => a
  | _ => 0
def gB : Value → Nat
  | .slice _ _ b => b
  | _ => 0
theorem forms {C : Cond} {w : World} {u0 u1 u2 u3 u4 : Value} {x : V} (h : Holds C w (.agg #[u0, u1, u2, u3, u4]) x) : u0 = .int .i64 (gI u0) ∧ u1 = .int .i64 (gI u1) ∧ u2 = .string (gS u2) ∧ u3 = .slice (gP u3) (gA u3) (gB u3) ∧ u4 = .slice (gP u4) (gA u4) (gB u4) := by
  obtain ⟨k, n, s, p, a, b, q, c, d, rfl, rfl, rfl, rfl, rfl⟩ := parts5 h
  exact ⟨rfl, rfl, rfl, rfl, rfl⟩

set_option maxHeartbeats 4000000 in
set_option maxRecDepth 100000 in
theorem rlit_c (N : Nat) (w : World) {a : Value} {x : V} (ha : Holds (Old N) w a x) : ∀ (W : World), N ≤ W.heap.size → Below N w W → (litL x).length ≤ 4398046511104 →
    Calls Tryz.prog 9 #[a] W fun e W' => e = .returned (.string (S (litL x))) ∧ Kept W W' := by
  induction ha with
  | mk k n s p cap K l ks bl off c hr hp hc hK hl ih =>
    intro W hN hW hlen
    obtain ⟨q, qc, qb, qo, rfl, ⟨hq1, -⟩, hq2, hq3⟩ := hK
    have hb0 : ∀ o, Below W.heap.size W (W.alloc o) := fun o => (Below.refl _ W).alloc (Nat.le_refl _) _
    by_cases h012 : k = 0 ∨ k = 1 ∨ k = 2
    · obtain ⟨t, ht, F⟩ : ∃ t, ((k = 0 ∧ t = [110, 117, 108, 108]) ∨ (k = 1 ∧ t = [102, 97, 108, 115, 101]) ∨ (k = 2 ∧ t = [116, 114, 117, 101])) ∧ Hid (litL (.mk k n s l ks) = t) := by
        rcases h012 with rfl | rfl | rfl
        · exact ⟨_, .inl ⟨rfl, rfl⟩, by show _ = _; simp [litL]⟩
        · exact ⟨_, .inr (.inl ⟨rfl, rfl⟩), by show _ = _; simp [litL]⟩
        · exact ⟨_, .inr (.inr ⟨rfl, rfl⟩), by show _ = _; simp [litL]⟩
      have hc9 := kindPrint_c k t ht (W.alloc (.cells #[.int .i64 k, .int .i64 n, .string s, .slice p l.length cap, .slice q ks.length qc] 26))
      have HB0 := Lib.hid hb0
      clear hp hc hl ih hq2 hq3 hr hlen hb0 ht
      rw [F.out]
      clear F
      generalize S t = T at hc9
      rcases h012 with rfl | rfl | rfl
      all_goals
        go_enter Tryz.func9, Tryz.ntmps9
        go_wp2_with (go_at_call 19; refine hc9.mono ?_; rintro e w1 ⟨rfl, h1⟩)
        go_ret
        exact ⟨rfl, kept_trans (HB0.out _) h1⟩
    · by_cases h3 : k = 3
      · subst h3
        have hpz : (S (printL n)).size ≤ 20 := by
          have := lowL_len (u := n.natAbs) (by omega)
          rw [← decL_len] at this
          rw [size_S]
          unfold printL
          split
          · simp; omega
          · omega
        have hpr := rprint_c n (W.alloc (.cells #[.int .i64 3, .int .i64 n, .string s, .slice p l.length cap, .slice q ks.length qc] 26)) hr.2.2.1 hr.2.2.2.1
        have HB0 := Lib.hid hb0
        by_cases hneg : n < 0
        · have F : Hid ((⟨#[32]⟩ : ByteArray) ++ S (printL n) = S (litL (.mk 3 n s l ks))) := by
            show _ = _
            rw [show (⟨#[32]⟩ : ByteArray) = S [32] from rfl, S_append]
            simp [litL, hneg]
          clear hp hc hl ih hq2 hq3 hr hlen hb0 h012
          rw [← F.out]
          clear F
          generalize S (printL n) = T at hpr hpz
          have s1 : (⟨#[32]⟩ : ByteArray).size = 1 := rfl
          go_enter Tryz.func9, Tryz.ntmps9
          go_wp2_with (go_at_call 20; refine hpr.mono ?_; rintro e w1 ⟨rfl, rfl⟩)
          go_ret
          exact ⟨rfl, HB0.out _⟩
        · have F : Hid (S (printL n) = S (litL (.mk 3 n s l ks))) := by
            show _ = _
            simp [litL, hneg]
          clear hp hc hl ih hq2 hq3 hr hlen hb0 h012
          rw [← F.out]
          clear F
          generalize S (printL n) = T at hpr hpz
          go_enter Tryz.func9, Tryz.ntmps9
          go_wp2_with (go_at_call 20; refine hpr.mono ?_; rintro e w1 ⟨rfl, rfl⟩)
          go_ret
          exact ⟨rfl, HB0.out _⟩
      · have pre : (0 < l.length → p = some ⟨bl, off, none⟩ ∧ bl < W.heap.size) ∧ (0 < ks.length → q = some ⟨qb, qo, none⟩ ∧ qb < W.heap.size) :=
          ⟨fun h => ⟨(hp h).1, Nat.lt_of_lt_of_le (hp h).2 hN⟩, fun h => ⟨(hq2 h).1, Nat.lt_of_lt_of_le (hq2 h).2 hN⟩⟩
        have cells : ∀ i, i < l.length → W.cell? ⟨bl, off + i * 5, none⟩ = some (.int .i64 (gI (c i 0))) ∧ W.cell? ⟨bl, off + i * 5 + 1, none⟩ = some (.int .i64 (gI (c i 1))) ∧ W.cell? ⟨bl, off + i * 5 + 2, none⟩ = some (.string (gS (c i 2))) ∧ W.cell? ⟨bl, off + i * 5 + 3, none⟩ = some (.slice (gP (c i 3)) (gA (c i 3)) (gB (c i 3))) ∧ W.cell? ⟨bl, off + i * 5 + 4, none⟩ = some (.slice (gP (c i 4)) (gA (c i 4)) (gB (c i 4))) := fun i hi => by
          obtain ⟨f0, f1, f2, f3, f4⟩ := forms (hl i hi)
          have hcs : ∀ t, t < 5 → W.cell? ⟨bl, off + (i * 5 + t), none⟩ = some (c i t) := fun t ht => by rw [hW.cell (p := ⟨bl, off + (i * 5 + t), none⟩) (show bl < N from (hp (by omega)).2)]; exact hc i t hi ht
          exact ⟨(hcs 0 (by omega)).trans (congrArg some f0), (hcs 1 (by omega)).trans (congrArg some f1), (hcs 2 (by omega)).trans (congrArg some f2), (hcs 3 (by omega)).trans (congrArg some f3), (hcs 4 (by omega)).trans (congrArg some f4)⟩
        have keys : ∀ i (h : i < ks.length), W.cell? ⟨qb, qo + i, none⟩ = some (.string ks[i]) := fun i hi => by
          rw [hW.cell (p := ⟨qb, qo + i, none⟩) (show qb < N from (hq2 (by omega)).2)]
          exact hq3 i hi
        have inner : ∀ i (h : i < l.length) (X : World), Below W.heap.size W X → (litL l[i]).length ≤ 4398046511104 → Calls Tryz.prog 9 #[.agg #[.int .i64 (gI (c i 0)), .int .i64 (gI (c i 1)), .string (gS (c i 2)), .slice (gP (c i 3)) (gA (c i 3)) (gB (c i 3)), .slice (gP (c i 4)) (gA (c i 4)) (gB (c i 4))]] X fun e X' => e = .returned (.string (S (litL l[i]))) ∧ Kept X X' := fun i h X hX hz => by
          obtain ⟨f0, f1, f2, f3, f4⟩ := forms (hl i h)
          rw [← f0, ← f1, ← f2, ← f3, ← f4]
          exact ih i h X (Nat.le_trans hN hX.size) (hW.trans (hX.mono hN)) hz
        by_cases h5 : k = 5
        · subst h5
          have e : litL (.mk 5 n s l ks) = brackL 91 93 (joinK false ks (litAll l) (litAll l).length) := by simp [litL]
          rw [e] at hlen ⊢
          rw [brackL_len] at hlen
          exact rlit_5 n s p cap q qc l ks bl off qb qo _ _ _ _ _ _ _ _ _ W (by omega) hr.2.2.2.2.2 hq1 pre.1 pre.2 cells keys inner
        · by_cases h6 : k = 6
          · subst h6
            have e : litL (.mk 6 n s l ks) = brackL 123 125 (joinK true ks (litAll l) (litAll l).length) := by simp [litL]
            rw [e] at hlen ⊢
            rw [brackL_len] at hlen
            exact rlit_6 n s p cap q qc l ks bl off qb qo _ _ _ _ _ _ _ _ _ W (by omega) hr.2.2.2.2.2 hq1 pre.1 pre.2 cells keys inner
          · have e : litL (.mk k n s l ks) = quoteL s := by
              have : k ≠ 0 ∧ k ≠ 1 ∧ k ≠ 2 := by omega
              simp [litL, this, h3, h5, h6]
            rw [e] at hlen ⊢
            have hq := quote_c s (W.alloc (.cells #[.int .i64 k, .int .i64 n, .string s, .slice p l.length cap, .slice q ks.length qc] 26)) hlen
            have HB0 := Lib.hid hb0
            have d0 : (k == 0) = false := by simp; omega
            have d1 : (k == 1) = false := by simp; omega
            have d2 : (k == 2) = false := by simp; omega
            have d3 : (k == 3) = false := by simp; omega
            have d5 : (k == 5) = false := by simp; omega
            have d6 : (k == 6) = false := by simp; omega
            clear hp hc hl ih hq2 hq3 hr hlen hb0 h012 h3 h5 h6 pre cells keys inner e
            generalize S (quoteL s) = T at hq
            go_enter Tryz.func9, Tryz.ntmps9
            go_wp2_with (go_at_call 21; refine hq.mono ?_; rintro e w1 ⟨rfl, h1⟩)
            go_ret
            exact ⟨rfl, kept_trans (HB0.out _) h1⟩
end Go.Proofs.YtamenccdnobjkaaGreatDoor.Lit

/-
  Contract of the page's Plain at every value that reads as a tree.
-/
namespace Go.Proofs.YtamenccdnobjkaaGreatDoor.Lit
open Go.RowKit Go.Proofs.YtamenccdnobjkaaGreatDoor.Oct Go.Proofs.YtamenccdnobjkaaGreatDoor.Num Go.Proofs.YtamenccdnobjkaaGreatDoor.Utf Go.Proofs.YtamenccdnobjkaaGreatDoor.Val Go.Proofs.YtamenccdnobjkaaGreatDoor.Mem

set_option maxHeartbeats 4000000 in
set_option maxRecDepth 100000 in
theorem rplain_c (N : Nat) (w : World) {a : Value} {x : V} (ha : Holds (Old N) w a x) : ∀ (W : World), N ≤ W.heap.size → Below N w W →
    Calls Tryz.prog 10 #[a] W fun e W' => e = .returned (.bool (plainV x)) ∧ Kept W W' := by
  induction ha with
  | mk k n s p cap K l ks bl off c hr hp hc hK hl ih =>
    intro W hN hW
    obtain ⟨q, qc, qb, qo, rfl, -, -, -⟩ := hK
    have E : Hid (plainV (.mk k n s l ks) = (l.all plainV && decide (k < 7))) := by show _ = _; rw [plainV, plainAll_eq]
    obtain ⟨W1, hW1⟩ : ∃ W1, W1 = W.alloc (.cells #[.int .i64 k, .int .i64 n, .string s, .slice p l.length cap, .slice q ks.length qc] 26) := ⟨_, rfl⟩
    have hWX : ∀ X, Kept W1 X → Below W.heap.size W X := fun X hX => (hW1 ▸ ((Below.refl _ W).alloc (Nat.le_refl _) _)).trans (hX.mono (by rw [hW1]; simp))
    have HBX : Hid (∀ X, Kept W1 X → X.cell? ⟨W.heap.size, 0, none⟩ = some (.int .i64 k) ∧ X.cell? ⟨W.heap.size, 3, none⟩ = some (.slice p l.length cap)) := fun X hX => by
      have e : X.heap[W.heap.size]? = some (.cells #[.int .i64 k, .int .i64 n, .string s, .slice p l.length cap, .slice q ks.length qc] 26 (0, 0)) := (hX.block _ (by rw [hW1]; simp)).trans (by rw [hW1]; exact heap_alloc_new W _)
      exact ⟨cell_of_row X _ 0 _ _ _ e, cell_of_row X _ 3 _ _ _ e⟩
    have HE : Hid (∀ X, Kept W1 X → ∀ j (h : j < l.length),
        (X.cell? ⟨bl, off + j * 5, none⟩ = some (.int .i64 (gI (c j 0))) ∧ X.cell? ⟨bl, off + j * 5 + 1, none⟩ = some (.int .i64 (gI (c j 1))) ∧ X.cell? ⟨bl, off + j * 5 + 2, none⟩ = some (.string (gS (c j 2))) ∧ X.cell? ⟨bl, off + j * 5 + 3, none⟩ = some (.slice (gP (c j 3)) (gA (c j 3)) (gB (c j 3))) ∧ X.cell? ⟨bl, off + j * 5 + 4, none⟩ = some (.slice (gP (c j 4)) (gA (c j 4)) (gB (c j 4)))) ∧
        Calls Tryz.prog 10 #[.agg #[.int .i64 (gI (c j 0)), .int .i64 (gI (c j 1)), .string (gS (c j 2)), .slice (gP (c j 3)) (gA (c j 3)) (gB (c j 3)), .slice (gP (c j 4)) (gA (c j 4)) (gB (c j 4))]] X fun e X' => e = .returned (.bool (plainV l[j])) ∧ Kept X X') := fun X hX j h => by
      obtain ⟨f0, f1, f2, f3, f4⟩ := forms (hl j h)
      have hwX : Below N w X := hW.trans ((hWX X hX).mono hN)
      have hcs : ∀ t, t < 5 → X.cell? ⟨bl, off + (j * 5 + t), none⟩ = some (c j t) := fun t ht => by rw [hwX.cell (p := ⟨bl, off + (j * 5 + t), none⟩) (show bl < N from (hp (by omega)).2)]; exact hc j t h ht
      refine ⟨⟨(hcs 0 (by omega)).trans (congrArg some f0), (hcs 1 (by omega)).trans (congrArg some f1), (hcs 2 (by omega)).trans (congrArg some f2), (hcs 3 (by omega)).trans (congrArg some f3), (hcs 4 (by omega)).trans (congrArg some f4)⟩, ?_⟩
      rw [← f0, ← f1, ← f2, ← f3, ← f4]
      exact ih j h X (Nat.le_trans hN (hWX X hX).size) hwX
    have HP := Lib.hid hp
    have HW := Lib.hid hWX
    have HR := Lib.hid hr
    have hl80 : l.length * 80 ≤ 140737488351232 := hr.2.2.2.2.2
    clear hp hc hl ih hWX hr
    go_enter Tryz.func10, Tryz.ntmps10
    go_wp2_with fail
    rw [← hW1]
    clear hW1
    go_loopw [3] (fun i wr => ∃ j : Nat, j ≤ l.length ∧ i = .int .i64 j ∧ Hid ((l.take j).all plainV = true) ∧ Hid (Kept W1 wr)) (fun i _ => l.length - (intOf i).toNat)
    case atStart => exact ⟨0, Nat.zero_le _, rfl, rfl, Below.refl _ _⟩
    case round =>
      obtain ⟨j, hj, rfl, hall, hb⟩ := hrel
      obtain ⟨x0, x3⟩ := HBX.out wr hb.out
      by_cases hlt : j < l.length
      · obtain ⟨⟨e0, e1, e2, e3, e4⟩, hcall⟩ := HE.out wr hb.out j hlt
        obtain ⟨rfl, -⟩ := HP.out (by omega)
        have h1 : (0 : Int) ≤ (j : Int) := by omega
        have h2 : (j : Int) < (l.length : Int) := by omega
        cases hq : plainV l[j] with
        | true =>
          rw [hq] at hcall
          have F : Hid ((l.take (j + 1)).all plainV = true) := by
            show _ = _
            rw [List.take_succ_eq_append_getElem hlt, List.all_append, hall.out]
            simp [hq]
          clear hq
          go_wp2_with (go_at_call 10; refine hcall.mono ?_; rintro e Z ⟨rfl, hZ⟩)
          go_roundw
          case rel => exact ⟨j + 1, by omega, by go_num, F, kept_trans hb.out hZ⟩
          case measure => simp [intOf]; omega
        | false =>
          rw [hq] at hcall
          have F : Hid (plainV (.mk k n s l ks) = false) := by
            show _ = _
            rw [E.out]
            have : l.all plainV = false := by
              rw [Bool.eq_false_iff]
              intro h
              have := List.all_eq_true.1 h l[j] (List.getElem_mem _)
              rw [hq] at this
              cases this
            rw [this]; rfl
          clear hq
          go_wp2_with (go_at_call 10; refine hcall.mono ?_; rintro e Z ⟨rfl, hZ⟩)
          go_ret
          exact ⟨by rw [F.out]; rfl, HW.out Z (kept_trans hb.out hZ)⟩
      · have hjl : j = l.length := by omega
        have F : Hid (plainV (.mk k n s l ks) = decide (k < 7)) := by
          show _ = _
          rw [E.out]
          have := hall.out
          rw [hjl, List.take_length] at this
          rw [this, Bool.true_and]
        subst hjl
        go_wp2
        go_ret
        exact ⟨by rw [F.out]; rfl, HW.out wr hb.out⟩
end Go.Proofs.YtamenccdnobjkaaGreatDoor.Lit

/-
  The law LiteralReads, out of the contracts of the calls that it makes.
-/
namespace Go.Proofs.YtamenccdnobjkaaGreatDoor.Rd
open Go.RowKit Go.Proofs.YtamenccdnobjkaaGreatDoor.Oct Go.Proofs.YtamenccdnobjkaaGreatDoor.Val Go.Proofs.YtamenccdnobjkaaGreatDoor.Tl Go.Proofs.YtamenccdnobjkaaGreatDoor.Lit Go.Proofs.YtamenccdnobjkaaGreatDoor.Utf Go.Proofs.YtamenccdnobjkaaGreatDoor.Mem

set_option maxHeartbeats 8000000 in
set_option maxRecDepth 100000 in
theorem law_reads (W : World) (s : ByteArray) (hs : s.size ≤ 274877906944) (hT : TabN W.heap.size W) :
    Calls Tryz.prog 3 #[.string s] W fun e W' => e = .returned (.bool true) ∧ Below W.heap.size W W' := by
  obtain ⟨l, rfl⟩ : ∃ l, s = S l := ⟨s.data.toList, (S_list s).symm⟩
  have hl : l.length ≤ 274877906944 := by rw [← size_S]; exact hs
  have HT := Lib.hid hT
  have HL := Lib.hid hl
  have hal := lalive_c W hT
  have hn := lnum_c
  clear hs hT hl
  go_enter Tryz.func3, Tryz.ntmps3
  go_wp2_with fail
  refine hal.mono ?_
  rintro e w1 ⟨rfl, hb1⟩
  clear hal
  have hr1 := read_c w1 l HL.out (fun X hX => HT.out X (hb1.trans (hX.mono hb1.size)))
  have B1 := Lib.hid hb1
  clear hb1
  go_wp2_with fail
  refine hr1.mono ?_
  clear hr1
  rintro e w2 ⟨hb2, hg⟩
  have hbW : Below W.heap.size W w2 := B1.out.trans (hb2.mono B1.out.size)
  rcases hg with ⟨rfl, -⟩ | ⟨rfl, -⟩ | ⟨⟨v0, v1, v2, v3, v4⟩, x, d, rfl, h1, h2, h3⟩
  · have HB := Lib.hid (hbW.alloc hbW.size (.cells #[.int .i64 0, .int .i64 0, .string ⟨#[]⟩, .slice none 0 0, .slice none 0 0] 26))
    clear hb2 hbW
    go_wp2_with (first | (go_at_call 8; refine (hn _ _).mono ?_; rintro e2 W2 ⟨rfl, rfl⟩))
    try (go_quiet ((go_at_call 8; exact Calls.quiet_of_same (hn _ _))))
    go_wp2
    go_ret
    exact ⟨rfl, HB.out⟩
  · have HB := Lib.hid (hbW.alloc hbW.size (.cells #[.int .i64 0, .int .i64 0, .string ⟨#[]⟩, .slice none 0 0, .slice none 0 0] 26))
    clear hb2 hbW
    go_wp2_with (first | (go_at_call 8; refine (hn _ _).mono ?_; rintro e2 W2 ⟨rfl, rfl⟩))
    try (go_quiet ((go_at_call 8; exact Calls.quiet_of_same (hn _ _))))
    go_wp2
    go_ret
    exact ⟨rfl, HB.out⟩
  · obtain ⟨k2, n2, t2, p2, m2, a2, q2, c2, d2, rfl, rfl, rfl, rfl, rfl⟩ := holds_parts h3
    obtain ⟨hpl, hlit⟩ := read_lit h1
    have O3 : Holds (Old w2.heap.size) w2 (.agg #[.int .i64 k2, .int .i64 n2, .string t2, .slice p2 m2 a2, .slice q2 c2 d2]) x := h3.frame (fun _ _ _ _ _ => rfl) (fun _ _ _ _ h => h.lt)
    have hcl := fun W' (hW : Below w2.heap.size w2 W') => rlit_c w2.heap.size w2 O3 W' hW.size hW (by rw [hlit]; have := HL.out; omega)
    have hcp := fun W' (hW : Below w2.heap.size w2 W') => rplain_c w2.heap.size w2 O3 W' hW.size hW
    rw [hlit] at hcl
    rw [hpl] at hcp
    obtain ⟨w3, hw3⟩ : ∃ w3, w3 = w2.alloc (.cells #[.int .i64 k2, .int .i64 n2, .string t2, .slice p2 m2 a2, .slice q2 c2 d2] 26) := ⟨_, rfl⟩
    have hb3 : Below w2.heap.size w2 w3 := by rw [hw3]; exact (Below.refl _ w2).alloc (Nat.le_refl _) _
    have D3 : w3.heap[w2.heap.size]? = some (.cells #[.int .i64 k2, .int .i64 n2, .string t2, .slice p2 m2 a2, .slice q2 c2 d2] 26 (0, 0)) := by rw [hw3]; exact heap_alloc_new w2 _
    have hcl3 := hcl w3 hb3
    have HC := Lib.hid (And.intro hcp (And.intro hb3 (And.intro D3 hbW)))
    have HW3 := Lib.hid hw3
    rw [hw3] at hcl3
    have hll : ((S l).size : Int) = (l.length : Int) := by rw [size_S]
    have hbe : ((S l).toList == (S l).toList) = true := by simp
    clear h1 h2 h3 hb2 hbW O3 hcl hcp hb3 D3 hw3 hlit hpl
    generalize hSl : S l = sl at hcl3 hll hbe
    clear hSl
    go_wp2_with (first | (go_at_call 8; refine (hn _ _).mono ?_; rintro e2 W2 ⟨rfl, rfl⟩))
    refine hcl3.mono ?_
    clear hcl3
    rintro e4 w4 ⟨rfl, h4⟩
    rw [← HW3.out] at h4
    have hb4 : Below w2.heap.size w2 w4 := HC.out.2.1.trans (h4.mono HC.out.2.1.size)
    obtain ⟨y0, y1, y2, y3, y4⟩ := five5 ((h4.block _ (Array.getElem?_eq_some_iff.1 HC.out.2.2.1).1).trans HC.out.2.2.1)
    have hcp4 := HC.out.1 w4 hb4
    have HB4 := Lib.hid (HC.out.2.2.2.trans (hb4.mono HC.out.2.2.2.size))
    clear h4 hb4
    go_wp2_with fail
    refine hcp4.mono ?_
    rintro e5 w5 ⟨rfl, h5⟩
    go_wp2_with fail
    go_ret
    exact ⟨rfl, HB4.out.trans (h5.mono HB4.out.size)⟩
end Go.Proofs.YtamenccdnobjkaaGreatDoor.Rd

/-
  The last step of a law's row where the call leaves a world in which all that lay before lies unturned, the arguments are plain values (numbers, truths, texts), and the answer is the truth.
-/
namespace Go.Proofs.YtamenccdnobjkaaGreatDoor.Kit
open Go.ChangeShapes Go.WideShapes Go.ChangeAt Go.RowKit
variable {H : Type} {enc : TypeId × Value → H} {P : Program}

theorem own : ownKnob Tryz.prog.godebug = none := by kernel_rfl

/-- Arguments without places: what is asked of the world behind the call is that nothing older has turned. -/
theorem post_plain {f : Func} {s : ChangeSpec} {apart fresh handsOn again : Bool} {W W' : World} {args : Array Value} {v : Value} {ds gs : List (DataW H)}
    (hW : DataW.Whole enc P f.params.toList s.vars apart W args.toList ds gs [])
    (hres : ∀ (b : Nat) (sp : Nat → Bool) (hd : Bool), DataW.TrodAll enc P W' b sp hd f.resultTypes.toList (v.resultList f.resultTypes.size) (s.fn H (ds ++ gs)).results [])
    (hargs : ∀ sp : Nat → Bool, DataW.TrodAll enc P W' 0 sp true f.params.toList args.toList (s.fn H (ds ++ gs)).args [])
    (hvars : ∀ sp : Nat → Bool, DataW.TrodVars enc P W' sp s.vars (s.fn H (ds ++ gs)).vars [])
    (hb : Below W.heap.size W W')
    (hok : ∀ (j : Nat) (t : TypeId) (r : Value), f.resultTypes[j]? = some t → (v.resultList f.resultTypes.size)[j]? = some r → Value.okWide P W' .any 0 t r) :
    s.post enc P f apart fresh handsOn again W args v W' :=
  ⟨ds, gs, [], [], [], [], hW, hres _ _ _, hargs _, hvars _, hb.frame _, fun _ =>
    ⟨hok, _, _, [], ⟨[], [], trodAll_append (hargs _) (hres _ _ _), hvars _, rfl, fun _ _ h => by simp at h, fun _ => by simp⟩, fun _ h => by simp at h⟩⟩
end Go.Proofs.YtamenccdnobjkaaGreatDoor.Kit

/-
  What a row that lists Go's own two tables of characters' first octets gives: the tables, as they lie in memory; and a world that holds them.
-/
namespace Go.Proofs.YtamenccdnobjkaaGreatDoor.Laid
open Go.ChangeShapes Go.WideShapes Go.ChangeAt Go.RowKit

abbrev list : List (String × DataW Unit) := [("unicode/utf8.acceptRanges", Rows.laid_unicode_utf8_acceptRanges), ("unicode/utf8.first", Rows.laid_unicode_utf8_first)]
set_option maxRecDepth 100000 in
theorem first_eq : Rows.laid_unicode_utf8_first = Lib.firstData := by kernel_rfl
theorem accept_eq : (Rows.laid_unicode_utf8_acceptRanges : DataW Unit) = Lib.acceptData := by kernel_rfl

theorem tabs {W : World} (h : laidMetH Tryz.prog list W) : Utf.Tabs W := by
  have h' : laidMet Tryz.prog list W := h
  have h3 := Lib.laidMet.reads h' (n := "unicode/utf8.first") (d := Rows.laid_unicode_utf8_first) (.tail _ (.head _))
  have h4 := Lib.laidMet.reads h' (n := "unicode/utf8.acceptRanges") (d := Rows.laid_unicode_utf8_acceptRanges) (.head _)
  rw [first_eq] at h3
  rw [accept_eq] at h4
  exact utf8Tabs_of_reads (ρ := Tryz.lays260_ren) Tryz.lays260 ⟨by kernel_rfl, by kernel_rfl, by kernel_rfl, by kernel_rfl, by kernel_rfl, by kernel_rfl, by kernel_rfl⟩ h3 h4

/-- A world that holds the two tables. -/
noncomputable def laidWorld (os : Os) : World :=
  { World.holding Tryz.prog os ⟨#[], #[], []⟩ with heap := (((World.holding Tryz.prog os ⟨#[], #[], []⟩).heap.modify 1 fun
      | .cells _ t frozen => .cells (Lib.firstTab.map fun z => Value.int .u8 z).toArray t frozen
      | o => o).modify 2 fun
      | .cells _ t frozen => .cells ((List.range 16).flatMap fun i => [Value.int .u8 (Lib.accLo i), Value.int .u8 (Lib.accHi i)]).toArray t frozen
      | o => o) }
set_option maxRecDepth 100000 in
theorem laid_met (os : Os) (args : Array Value) : laidMet Tryz.prog list ((laidWorld os).forCall (fun _ _ => 0) ⟨#[], args, []⟩).memory :=
  laidMet_of_run' 8 (by kernel_rfl) (by kernel_rfl)
end Go.Proofs.YtamenccdnobjkaaGreatDoor.Laid
