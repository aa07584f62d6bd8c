/-
  Contract of SpoilValue, the walk.
-/
import Derived.Test.YtcheiombgnabaaaValSpoil
namespace Go.Proofs.Ytcheiombgnabaaa.Val
open Go.RowKit Go.Proofs.Ytcheiombgnabaaa.Oct

/-- What lies between two rounds: the box, the blocks that are told, what is not told. -/
def SpoilAt (S T : Nat → Nat → Prop) (W W1 : World) (cs : Array Value) (wr : World) : Prop := wr.heap[W.heap.size]? = some (.cells cs 25 (0, 0)) ∧ Ty S T wr ∧ Spoilt S T W1 wr

theorem cell_row {w : World} {g i : Nat} {cs : Array Value} {t : TypeId} {v : Value} (h : w.heap[g]? = some (.cells cs t (0, 0))) (hv : cs[i]? = some v) : w.cell? ⟨g, i, none⟩ = some v := (cell_of_row w g i cs t (0, 0) h).trans hv

set_option maxHeartbeats 4000000 in
set_option maxRecDepth 100000 in
theorem spoil_c (S T : Nat → Nat → Prop) (d : Nat) (hd : d ≤ 1000) : ∀ (k n : Int) (s : ByteArray) (L K : Value) (W : World), OkS S L → OkS T K → Ty S T W →
    Calls Try.prog 10 #[.agg #[.int .i64 k, .int .i64 n, .string s, L, K], .int .i64 (d : Int)] W fun e W' => (∃ u, e = .returned u) ∧ Ty S T W' ∧ Spoilt S T W W' := by
  induction d using Nat.strongRecOn with
  | ind d ih =>
    intro k n s L K W hL hK hW
    obtain ⟨p, m, cap, b, rfl, hm, hp⟩ := hL
    obtain ⟨q, m2, cap2, b2, rfl, hm2, hq⟩ := hK
    have HIH := Lib.hid ih
    have hlt : ∀ b, ((∃ m, S b m) ∨ ∃ m, T b m) → b < W.heap.size := fun b h => hW.lt h
    have h0 : SpoilAt S T W (W.alloc (.cells #[.int .i64 k, .int .i64 n, .string s, .slice p m cap, .slice q m2 cap2] 25)) #[.int .i64 k, .int .i64 n, .string s, .slice p m cap, .slice q m2 cap2] (W.alloc (.cells #[.int .i64 k, .int .i64 n, .string s, .slice p m cap, .slice q m2 cap2] 25)) :=
      ⟨heap_alloc_new W _, hW.alloc _, .refl _⟩
    have hS1 : Spoilt S T W (W.alloc (.cells #[.int .i64 k, .int .i64 n, .string s, .slice p m cap, .slice q m2 cap2] 25)) := .of_below ((Below.refl _ W).alloc (Nat.le_refl _) _)
    have H0 := Lib.hid h0
    have HS1 := Lib.hid (And.intro hS1 hlt)
    have HPQ := Lib.hid (And.intro hp hq)
    clear h0 hS1 hlt hp hq ih hW
    go_enter Try.func10, Try.ntmps10
    go_wp2_with fail
    generalize hW1 : W.alloc (.cells #[.int .i64 k, .int .i64 n, .string s, .slice p m cap, .slice q m2 cap2] 25) = W1 at H0 HS1
    clear hW1
    go_loopw [4] (fun i wr => ∃ j : Nat, j ≤ m ∧ i = .int .i64 j ∧ Hid (SpoilAt S T W W1 #[.int .i64 k, .int .i64 n, .string s, .slice p m cap, .slice q m2 cap2] wr)) (fun i _ => m - (intOf i).toNat)
    case atStart => exact ⟨0, Nat.zero_le _, rfl, H0⟩
    case round =>
      clear H0
      obtain ⟨j, hj, rfl, hat⟩ := hrel
      have C3 : wr.cell? ⟨W.heap.size, 3, none⟩ = some (.slice p m cap) := cell_row hat.out.1 rfl
      by_cases hgo : j < m ∧ 0 < d
      · obtain ⟨hjm, hd0⟩ := hgo
        obtain ⟨rfl, hSb⟩ := HPQ.out.1 (by omega)
        obtain ⟨cur, g1, g2, g3⟩ := hat.out.2.1.vals b m hSb
        obtain ⟨k', n', s', L', K', f0, f1, f2, f3, f4, oL, oK⟩ := g3 j hjm
        have e0 : wr.cell? ⟨b, j * 5, none⟩ = some (.int .i64 k') := cell_row g1 f0
        have e1 : wr.cell? ⟨b, j * 5 + 1, none⟩ = some (.int .i64 n') := cell_row g1 f1
        have e2 : wr.cell? ⟨b, j * 5 + 2, none⟩ = some (.string s') := cell_row g1 f2
        have e3 : wr.cell? ⟨b, j * 5 + 3, none⟩ = some L' := cell_row g1 f3
        have e4 : wr.cell? ⟨b, j * 5 + 4, none⟩ = some K' := cell_row g1 f4
        have hcall := HIH.out (d - 1) (by omega) (by omega) k' n' s' L' K' wr oL oK hat.out.2.1
        rw [show ((d - 1 : Nat) : Int) = (d : Int) - 1 by omega] at hcall
        have h1 : (0 : Int) ≤ (j : Int) := by omega
        have h2 : (j : Int) < (m : Int) := by omega
        have h3 : (0 : Int) < (d : Int) := by omega
        have hbW : b < W.heap.size := HS1.out.2 b (.inl ⟨m, hSb⟩)
        clear g1 g2 g3 f0 f1 f2 f3 f4 oL oK
        go_wp2_with fail
        refine hcall.mono ?_
        rintro e w2 ⟨⟨u, rfl⟩, hT2, hS2⟩
        have hbox : w2.heap[W.heap.size]? = some (.cells #[.int .i64 k, .int .i64 n, .string s, .slice (some ⟨b, 0, none⟩) m cap, .slice q m2 cap2] 25 (0, 0)) := by
          rw [hS2.block _ (Array.getElem?_eq_some_iff.1 hat.out.1).1 (fun m' h => by have := HS1.out.2 _ (.inl ⟨m', h⟩); omega) (fun m' h => by have := HS1.out.2 _ (.inr ⟨m', h⟩); omega)]
          exact hat.out.1
        have D3 : w2.cell? ⟨W.heap.size, 3, none⟩ = some (.slice (some ⟨b, 0, none⟩) m cap) := cell_row hbox rfl
        obtain ⟨cur, g1, g2, g3⟩ := hT2.vals b m hSb
        obtain ⟨k2, n2, s2, L2, K2, f0, f1, f2, f3, f4, _⟩ := g3 j hjm
        have a0 : w2.cell? ⟨b, j * 5, none⟩ = some (.int .i64 k2) := cell_row g1 f0
        have a1 : w2.cell? ⟨b, j * 5 + 1, none⟩ = some (.int .i64 n2) := cell_row g1 f1
        have a2 : w2.cell? ⟨b, j * 5 + 2, none⟩ = some (.string s2) := cell_row g1 f2
        have a3 : w2.cell? ⟨b, j * 5 + 3, none⟩ = some L2 := cell_row g1 f3
        have a4 : w2.cell? ⟨b, j * 5 + 4, none⟩ = some K2 := cell_row g1 f4
        have z0 := frozen_of_row w2 b (j * 5) _ _ g1
        have z1 := frozen_of_row w2 b (j * 5 + 1) _ _ g1
        have z2 := frozen_of_row w2 b (j * 5 + 2) _ _ g1
        have z3 := frozen_of_row w2 b (j * 5 + 3) _ _ g1
        have z4 := frozen_of_row w2 b (j * 5 + 4) _ _ g1
        have HN : Hid (SpoilAt S T W W1 #[.int .i64 k, .int .i64 n, .string s, .slice (some ⟨b, 0, none⟩) m cap, .slice q m2 cap2] (over w2 b j)) := by
          refine ⟨?_, hT2.over hSb hjm, ?_⟩
          · unfold over
            have hne : W.heap.size ≠ b := by omega
            rw [heap_setCell_other _ _ _ _ hne, heap_setCell_other _ _ _ _ hne, heap_setCell_other _ _ _ _ hne, heap_setCell_other _ _ _ _ hne, heap_setCell_other _ _ _ _ hne]
            exact hbox
          · have hx : (∃ m, S b m) ∨ ∃ m, T b m := .inl ⟨m, hSb⟩
            exact (((((hat.out.2.2.trans hS2).setCell hx _).setCell hx _).setCell hx _).setCell hx _).setCell hx _
        clear hcall hbox hT2 hS2 g1 g2 g3 f0 f1 f2 f3 f4 e0 e1 e2 e3 e4 C3
        go_wp2_with fail
        go_roundw
        case rel => exact ⟨j + 1, by omega, by go_num, HN⟩
        case measure => simp [intOf]; omega
      · have hcase : (m : Int) ≤ (j : Int) ∨ ((j : Int) < (m : Int) ∧ (d : Int) ≤ 0) := by omega
        clear hgo
        rcases hcase with h1 | ⟨h1, h2⟩
        all_goals
          go_wp2_with fail
          clear C3
          go_loopw [5] (fun i wr => ∃ j2 : Nat, j2 ≤ m2 ∧ i = .int .i64 j2 ∧ Hid (SpoilAt S T W W1 #[.int .i64 k, .int .i64 n, .string s, .slice p m cap, .slice q m2 cap2] wr)) (fun i _ => m2 - (intOf i).toNat)
          case atStart => exact ⟨0, Nat.zero_le _, rfl, hat⟩
          case round =>
            clear hat
            obtain ⟨j2, hj2, rfl, hat2⟩ := hrel
            have C4 : wr.cell? ⟨W.heap.size, 4, none⟩ = some (.slice q m2 cap2) := cell_row hat2.out.1 rfl
            by_cases hjm2 : j2 < m2
            · obtain ⟨rfl, hTb⟩ := HPQ.out.2 (by omega)
              obtain ⟨cur, g1, g2⟩ := hat2.out.2.1.texts b2 m2 hTb
              have g3 : j2 < cur.size := by omega
              have a0 : wr.cell? ⟨b2, j2, none⟩ = some cur[j2] := cell_row g1 (Array.getElem?_eq_getElem g3)
              have z0 := frozen_of_row wr b2 j2 _ _ g1
              have hbW : b2 < W.heap.size := HS1.out.2 b2 (.inr ⟨m2, hTb⟩)
              generalize cur[j2] = old at a0
              have i1 : (0 : Int) ≤ (j2 : Int) := by omega
              have i2 : (j2 : Int) < (m2 : Int) := by omega
              have HN : Hid (SpoilAt S T W W1 #[.int .i64 k, .int .i64 n, .string s, .slice p m cap, .slice (some ⟨b2, 0, none⟩) m2 cap2] (wr.setCell ⟨b2, j2, none⟩ (.string ⟨#[115, 112, 111, 105, 108, 116]⟩))) := by
                refine ⟨?_, hat2.out.2.1.text hTb _, hat2.out.2.2.setCell (.inr ⟨m2, hTb⟩) _⟩
                have hne : W.heap.size ≠ b2 := by omega
                rw [heap_setCell_other _ _ _ _ hne]
                exact hat2.out.1
              clear g1 g2 g3
              go_wp2_with fail
              go_roundw
              case rel => exact ⟨j2 + 1, by omega, by go_num, HN⟩
              case measure => simp [intOf]; omega
            · go_wp2_with fail
              go_end0
              exact ⟨⟨_, rfl⟩, hat2.out.2.1, HS1.out.1.trans hat2.out.2.2⟩
end Go.Proofs.Ytcheiombgnabaaa.Val
