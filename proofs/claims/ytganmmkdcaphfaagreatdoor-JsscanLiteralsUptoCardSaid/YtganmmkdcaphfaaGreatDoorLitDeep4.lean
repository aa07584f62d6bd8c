/-
  Contract of the page's check at a list, and at one that stands too deep: it answers, and OK only if each value in it is OK.
-/
import Derived.Test.YtganmmkdcaphfaaGreatDoorJsBase
namespace Go.Proofs.YtganmmkdcaphfaaGreatDoor.Lit
open Go.RowKit Go.Proofs.YtganmmkdcaphfaaGreatDoor.Oct Go.Proofs.YtganmmkdcaphfaaGreatDoor.Num Go.Proofs.YtganmmkdcaphfaaGreatDoor.Utf Go.Proofs.YtganmmkdcaphfaaGreatDoor.Val Go.Proofs.YtganmmkdcaphfaaGreatDoor.Mem

/-- It answers a number, which is 0 only if P holds, and changes nothing older. -/
def Dep (P : Prop) (W : World) (e : Ending) (W' : World) : Prop := ∃ r : Int, e = .returned (.int .i64 r) ∧ (r = 0 → P) ∧ Kept W W'

theorem upto_succ {D : Nat → Prop} {j : Nat} (h : ∀ a, a < j → D a) (hj : D j) : ∀ a, a < j + 1 → D a := by
  intro a ha
  rcases Nat.lt_or_ge a j with g | g
  · exact h a g
  · have e : a = j := by omega
    rw [e]
    exact hj

theorem kept_five {W X : World} {c0 c1 c2 c3 c4 : Value} (h : Kept (W.alloc (.cells #[c0, c1, c2, c3, c4] 25)) X) :
    (X.cell? ⟨W.heap.size, 0, none⟩ = some c0 ∧ X.cell? ⟨W.heap.size, 1, none⟩ = some c1 ∧ X.cell? ⟨W.heap.size, 2, none⟩ = some c2 ∧ X.cell? ⟨W.heap.size, 3, none⟩ = some c3 ∧ X.cell? ⟨W.heap.size, 4, none⟩ = some c4) ∧ Kept W X := by
  have e : X.heap[W.heap.size]? = some (.cells #[c0, c1, c2, c3, c4] 25 (0, 0)) := (h.block _ (by simp)).trans (heap_alloc_new W _)
  exact ⟨⟨cell_of_row X _ 0 _ _ _ e, cell_of_row X _ 1 _ _ _ e, cell_of_row X _ 2 _ _ _ e, cell_of_row X _ 3 _ _ _ e, cell_of_row X _ 4 _ _ _ e⟩, ((Below.refl _ W).alloc (Nat.le_refl _) _).trans (h.mono (by simp))⟩

set_option maxHeartbeats 4000000 in
set_option maxRecDepth 100000 in
theorem deep_list (D : Nat → Prop) (n : Int) (s : ByteArray) (p : Option Addr) (cap : Nat) (q : Option Addr) (qc kl : Nat) (bl off m : Nat) (k1 n1 : Nat → Int) (s1 : Nat → ByteArray) (p1 q1 : Nat → Option Addr) (a1 b1 c1 d1 : Nat → Nat) (d : Nat) (hd : d < 16) (W : World) (hl80 : m * 80 ≤ 140737488351232) (hk16 : kl * 16 ≤ 140737488351232)
    (hp : 0 < m → p = some ⟨bl, off, none⟩)
    (hc : ∀ i, i < m → ∀ X, Kept W X → (X.cell? ⟨bl, off + i * 5, none⟩ = some (.int .i64 (k1 i)) ∧ X.cell? ⟨bl, off + i * 5 + 1, none⟩ = some (.int .i64 (n1 i)) ∧ X.cell? ⟨bl, off + i * 5 + 2, none⟩ = some (.string (s1 i)) ∧ X.cell? ⟨bl, off + i * 5 + 3, none⟩ = some (.slice (p1 i) (a1 i) (b1 i)) ∧ X.cell? ⟨bl, off + i * 5 + 4, none⟩ = some (.slice (q1 i) (c1 i) (d1 i))) ∧
      Calls Tryz.prog 13 #[.agg #[.int .i64 (k1 i), .int .i64 (n1 i), .string (s1 i), .slice (p1 i) (a1 i) (b1 i), .slice (q1 i) (c1 i) (d1 i)], .int .i64 ((d : Int) + 1)] X (Dep (D i) X)) :
    Calls Tryz.prog 13 #[.agg #[.int .i64 5, .int .i64 n, .string s, .slice p m cap, .slice q kl qc], .int .i64 (d : Int)] W (Dep (∀ i, i < m → D i) W) := by
  have HB0 := Lib.hid (fun o => (Below.refl W.heap.size W).alloc (Nat.le_refl _) o)
  have HP := Lib.hid hp
  have HC := Lib.hid hc
  have hd1 : ((d : Int) == 16) = false := by simp; omega
  clear hp hc
  rcases Nat.eq_zero_or_pos kl with rfl | hkl
  rotate_left
  · go_enter Tryz.func13, Tryz.ntmps13
    go_wp2
    all_goals (go_ret; exact ⟨_, rfl, fun h => absurd h (by decide), HB0.out _⟩)
  go_enter Tryz.func13, Tryz.ntmps13
  go_wp2
  all_goals first
    | (go_ret; exact ⟨_, rfl, fun h => absurd h (by decide), HB0.out _⟩)
    | skip
  all_goals
    go_loopw [7, 8] (fun i _ wr => ∃ j : Nat, j ≤ m ∧ i = .int .i64 j ∧ Hid (∀ a, a < j → D a) ∧ ∃ c0 c1 c2 c4 : Value, Hid (Kept (W.alloc (.cells #[c0, c1, c2, .slice p m cap, c4] 25)) wr)) (fun i _ _ => m - (intOf i).toNat)
    case atStart => exact ⟨0, Nat.zero_le _, rfl, fun a h => absurd h (Nat.not_lt_zero a), _, _, _, _, Below.refl _ _⟩
    case round =>
      obtain ⟨j, hj, rfl, hD, z0, z1, z2, z4, hb⟩ := hrel
      obtain ⟨⟨-, -, -, x3, -⟩, hW⟩ := kept_five hb.out
      by_cases hlt : j < m
      · obtain ⟨⟨e0, e1, e2, e3, e4⟩, hcall⟩ := HC.out j hlt wr hW
        obtain rfl := HP.out (by omega)
        have h1 : (0 : Int) ≤ (j : Int) := by omega
        have h2 : (j : Int) < (m : Int) := by omega
        have h3 : (d : Int) < 16 := by omega
        have HW := Lib.hid hW
        clear hW
        generalize k1 j = y0 at e0 hcall
        generalize n1 j = y1 at e1 hcall
        generalize s1 j = y2 at e2 hcall
        generalize p1 j = y3 at e3 hcall
        generalize a1 j = y3a at e3 hcall
        generalize b1 j = y3b at e3 hcall
        generalize q1 j = y4 at e4 hcall
        generalize c1 j = y4a at e4 hcall
        generalize d1 j = y4b at e4 hcall
        go_wp2_with fail
        refine hcall.mono ?_
        clear hcall
        rintro e Z ⟨r, rfl, hG, hZ⟩
        have HZ := Lib.hid hZ
        have HG := Lib.hid hG
        clear hZ hG
        by_cases hr0 : r = 0
        · subst hr0
          have HD := Lib.hid (HG.out rfl)
          clear HG
          go_wp2
          go_roundw
          case rel => exact ⟨j + 1, by omega, by go_num, upto_succ hD.out HD.out, z0, z1, z2, z4, kept_trans hb.out HZ.out⟩
          case measure => simp [intOf]; omega
        · have hrb : (r != 0) = true := by simp [hr0]
          have HR := Lib.hid hr0
          clear hr0
          go_wp2
          go_ret
          exact ⟨_, rfl, fun h => absurd h HR.out, kept_trans HW.out HZ.out⟩
      · have hjl : j = m := by omega
        subst hjl
        go_wp2
        go_ret
        exact ⟨_, rfl, fun _ => hD.out, hW⟩
set_option maxHeartbeats 4000000 in
set_option maxRecDepth 100000 in
theorem deep_deep (P : Prop) (k n : Int) (hk : k = 5 ∨ k = 6) (s : ByteArray) (p : Option Addr) (cap : Nat) (q : Option Addr) (qc kl m : Nat) (W : World) :
    Calls Tryz.prog 13 #[.agg #[.int .i64 k, .int .i64 n, .string s, .slice p m cap, .slice q kl qc], .int .i64 16] W (Dep P W) := by
  have HB0 := Lib.hid (fun o => (Below.refl W.heap.size W).alloc (Nat.le_refl _) o)
  rcases hk with rfl | rfl
  all_goals
    go_enter Tryz.func13, Tryz.ntmps13
    go_wp2
    go_ret
    exact ⟨_, rfl, fun h => absurd h (by decide), HB0.out _⟩

end Go.Proofs.YtganmmkdcaphfaaGreatDoor.Lit
