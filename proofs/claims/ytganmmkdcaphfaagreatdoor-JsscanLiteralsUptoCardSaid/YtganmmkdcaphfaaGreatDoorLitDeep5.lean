/-
  Contract of the page's check at a record: it answers, and OK only if each value in it is OK.
-/
import Derived.Test.YtganmmkdcaphfaaGreatDoorLitDeep4
namespace Go.Proofs.YtganmmkdcaphfaaGreatDoor.Lit
open Go.RowKit Go.Proofs.YtganmmkdcaphfaaGreatDoor.Oct Go.Proofs.YtganmmkdcaphfaaGreatDoor.Num Go.Proofs.YtganmmkdcaphfaaGreatDoor.Utf Go.Proofs.YtganmmkdcaphfaaGreatDoor.Val Go.Proofs.YtganmmkdcaphfaaGreatDoor.Mem

set_option maxHeartbeats 4000000 in
set_option maxRecDepth 100000 in
theorem deep_record (D : Nat → Prop) (n : Int) (s : ByteArray) (p : Option Addr) (cap : Nat) (q : Option Addr) (qc kl : Nat) (bl off m : Nat) (k1 n1 : Nat → Int) (s1 : Nat → ByteArray) (p1 q1 : Nat → Option Addr) (a1 b1 c1 d1 : Nat → Nat) (d : Nat) (hd : d < 16) (W : World) (hl80 : m * 80 ≤ 140737488351232) (hk16 : kl * 16 ≤ 140737488351232)
    (hris : ∀ o, Calls Tryz.prog 25 #[.slice q kl qc] (W.alloc o) fun e w' => ∃ b, e = .returned (.bool b) ∧ Kept (W.alloc o) w')
    (hp : 0 < m → p = some ⟨bl, off, none⟩)
    (hc : ∀ i, i < m → ∀ X, Kept W X → (X.cell? ⟨bl, off + i * 5, none⟩ = some (.int .i64 (k1 i)) ∧ X.cell? ⟨bl, off + i * 5 + 1, none⟩ = some (.int .i64 (n1 i)) ∧ X.cell? ⟨bl, off + i * 5 + 2, none⟩ = some (.string (s1 i)) ∧ X.cell? ⟨bl, off + i * 5 + 3, none⟩ = some (.slice (p1 i) (a1 i) (b1 i)) ∧ X.cell? ⟨bl, off + i * 5 + 4, none⟩ = some (.slice (q1 i) (c1 i) (d1 i))) ∧
      Calls Tryz.prog 13 #[.agg #[.int .i64 (k1 i), .int .i64 (n1 i), .string (s1 i), .slice (p1 i) (a1 i) (b1 i), .slice (q1 i) (c1 i) (d1 i)], .int .i64 ((d : Int) + 1)] X (Dep (D i) X)) :
    Calls Tryz.prog 13 #[.agg #[.int .i64 6, .int .i64 n, .string s, .slice p m cap, .slice q kl qc], .int .i64 (d : Int)] W (Dep (∀ i, i < m → D i) W) := by
  have HB0 := Lib.hid (fun o => (Below.refl W.heap.size W).alloc (Nat.le_refl _) o)
  have HP := Lib.hid hp
  have HC := Lib.hid hc
  have hd1 : ((d : Int) == 16) = false := by simp; omega
  clear hp hc
  by_cases hkl : kl = m
  rotate_left
  · have hkb : ((kl : Int) == (m : Int)) = false := by simp; omega
    clear hris
    go_enter Tryz.func13, Tryz.ntmps13
    go_wp2
    all_goals (go_ret; exact ⟨_, rfl, fun h => absurd h (by decide), HB0.out _⟩)
  subst hkl
  go_enter Tryz.func13, Tryz.ntmps13
  go_wp2_with fail
  all_goals first
    | (go_ret; exact ⟨_, rfl, fun h => absurd h (by decide), HB0.out _⟩)
    | skip
  all_goals
    refine (hris _).mono ?_
    rintro e X ⟨b, rfl, hX⟩
    have HX := Lib.hid hX
    clear hX hris
    cases b
    · go_wp2
      go_ret
      exact ⟨_, rfl, fun h => absurd h (by decide), (HB0.out _).trans (HX.out.mono (by simp))⟩
    go_wp2
    go_loopw [7, 8] (fun i _ wr => ∃ j : Nat, j ≤ kl ∧ i = .int .i64 j ∧ Hid (∀ a, a < j → D a) ∧ ∃ c0 c1 c2 c4 : Value, Hid (Kept (W.alloc (.cells #[c0, c1, c2, .slice p kl cap, c4] 25)) wr)) (fun i _ _ => kl - (intOf i).toNat)
    case atStart => exact ⟨0, Nat.zero_le _, rfl, fun a h => absurd h (Nat.not_lt_zero a), _, _, _, _, HX.out⟩
    case round =>
      obtain ⟨j, hj, rfl, hD, z0, z1, z2, z4, hb⟩ := hrel
      obtain ⟨⟨-, -, -, x3, -⟩, hW⟩ := kept_five hb.out
      by_cases hlt : j < kl
      · obtain ⟨⟨e0, e1, e2, e3, e4⟩, hcall⟩ := HC.out j hlt wr hW
        obtain rfl := HP.out (by omega)
        have h1 : (0 : Int) ≤ (j : Int) := by omega
        have h2 : (j : Int) < (kl : Int) := by omega
        have h3 : (d : Int) < 16 := by omega
        have HW := Lib.hid hW
        clear hW
        generalize k1 j = y0 at e0 hcall
        generalize n1 j = y1 at e1 hcall
        generalize s1 j = y2 at e2 hcall
        generalize p1 j = y3 at e3 hcall
        generalize a1 j = y3a at e3 hcall
        generalize b1 j = y3b at e3 hcall
        generalize q1 j = y4 at e4 hcall
        generalize c1 j = y4a at e4 hcall
        generalize d1 j = y4b at e4 hcall
        go_wp2_with fail
        refine hcall.mono ?_
        clear hcall
        rintro e Z ⟨r, rfl, hG, hZ⟩
        have HZ := Lib.hid hZ
        have HG := Lib.hid hG
        clear hZ hG
        by_cases hr0 : r = 0
        · subst hr0
          have HD := Lib.hid (HG.out rfl)
          clear HG
          go_wp2
          go_roundw
          case rel => exact ⟨j + 1, by omega, by go_num, upto_succ hD.out HD.out, z0, z1, z2, z4, kept_trans hb.out HZ.out⟩
          case measure => simp [intOf]; omega
        · have hrb : (r != 0) = true := by simp [hr0]
          have HR := Lib.hid hr0
          clear hr0
          go_wp2
          go_ret
          exact ⟨_, rfl, fun h => absurd h HR.out, kept_trans HW.out HZ.out⟩
      · have hjl   : j = kl := by omega
        subst hjl
        go_wp2
        go_ret
        exact ⟨_, rfl, fun _ => hD.out, hW⟩
end Go.Proofs.YtganmmkdcaphfaaGreatDoor.Lit
