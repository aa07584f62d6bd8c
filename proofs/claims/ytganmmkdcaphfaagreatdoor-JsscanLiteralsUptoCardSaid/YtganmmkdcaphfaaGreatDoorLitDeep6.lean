/-
  Contract of the page's Check at every value that reads as a tree: OK only if lists and records stand at most 16 deep.
-/
import Derived.Test.YtganmmkdcaphfaaGreatDoorLitDeep5
namespace Go.Proofs.YtganmmkdcaphfaaGreatDoor.Lit
open Go.RowKit Go.Proofs.YtganmmkdcaphfaaGreatDoor.Oct Go.Proofs.YtganmmkdcaphfaaGreatDoor.Num Go.Proofs.YtganmmkdcaphfaaGreatDoor.Utf Go.Proofs.YtganmmkdcaphfaaGreatDoor.Val Go.Proofs.YtganmmkdcaphfaaGreatDoor.Mem

/-- Lists and records stand at most 16 deep. -/
inductive Deep : Nat → V → Prop where
  | mk (d : Nat) (k n : Int) (s : ByteArray) (l : List V) (ks : List ByteArray) (hd : k = 5 ∨ k = 6 → d < 16) (hall : ∀ i (h : i < l.length), Deep (d + 1) l[i]) : Deep d (.mk k n s l ks)
theorem Good.deep {d : Nat} {x : V} (h : Good d x) : Deep d x := by
  induction h with
  | mk d k n s l ks hk hd hs hl hks hn hall ih => exact .mk d k n s l ks hd ih
theorem Checks.dep {d : Nat} {x : V} {W : World} {e : Ending} {W' : World} (h : Checks d x W e W') : Dep (Deep d x) W e W' := by
  obtain ⟨r, h1, h2, h3⟩ := h
  exact ⟨r, h1, fun h0 => (h2 h0).deep, h3⟩
theorem Dep.to {P Q : Prop} {W : World} {e : Ending} {W' : World} (h : Dep P W e W') (k : P → Q) : Dep Q W e W' := by
  obtain ⟨r, h1, h2, h3⟩ := h
  exact ⟨r, h1, fun h0 => k (h2 h0), h3⟩

theorem rdeep_go (N : Nat) (w : World) {a : Value} {x : V} (ha : Holds (Old N) w a x) : ∀ (d : Nat) (W : World), d ≤ 16 → N ≤ W.heap.size → Below N w W →
    Calls Tryz.prog 13 #[a, .int .i64 (d : Int)] W (Dep (Deep d x) W) := by
  induction ha with
  | mk k n s p cap K l ks bl off c hr hp hc hK hl ih =>
    intro d W hd hN hW
    obtain ⟨q, qc, qb, qo, rfl, hq1, hq2, hq3⟩ := hK
    by_cases h56 : k = 5 ∨ k = 6
    · by_cases hd16 : d = 16
      · subst hd16
        exact deep_deep _ k n h56 s p cap q qc ks.length l.length W
      · have cells : ∀ i, i < l.length → ∀ X, Kept W X → (X.cell? ⟨bl, off + i * 5, none⟩ = some (.int .i64 (gI (c i 0))) ∧ X.cell? ⟨bl, off + i * 5 + 1, none⟩ = some (.int .i64 (gI (c i 1))) ∧ X.cell? ⟨bl, off + i * 5 + 2, none⟩ = some (.string (gS (c i 2))) ∧ X.cell? ⟨bl, off + i * 5 + 3, none⟩ = some (.slice (gP (c i 3)) (gA (c i 3)) (gB (c i 3))) ∧ X.cell? ⟨bl, off + i * 5 + 4, none⟩ = some (.slice (gP (c i 4)) (gA (c i 4)) (gB (c i 4)))) ∧
            Calls Tryz.prog 13 #[.agg #[.int .i64 (gI (c i 0)), .int .i64 (gI (c i 1)), .string (gS (c i 2)), .slice (gP (c i 3)) (gA (c i 3)) (gB (c i 3)), .slice (gP (c i 4)) (gA (c i 4)) (gB (c i 4))], .int .i64 ((d : Int) + 1)] X (Dep (∀ h : i < l.length, Deep (d + 1) l[i]) X) := fun i hi X hX => by
          obtain ⟨f0, f1, f2, f3, f4⟩ := forms (hl i hi)
          have hwX : Below N w X := hW.trans (Below.mono hX hN)
          have hcs : ∀ t, t < 5 → X.cell? ⟨bl, off + (i * 5 + t), none⟩ = some (c i t) := fun t ht => by rw [hwX.cell (p := ⟨bl, off + (i * 5 + t), none⟩) (show bl < N from (hp (by omega)).2)]; exact hc i t hi ht
          refine ⟨⟨(hcs 0 (by omega)).trans (congrArg some f0), (hcs 1 (by omega)).trans (congrArg some f1), (hcs 2 (by omega)).trans (congrArg some f2), (hcs 3 (by omega)).trans (congrArg some f3), (hcs 4 (by omega)).trans (congrArg some f4)⟩, ?_⟩
          rw [← f0, ← f1, ← f2, ← f3, ← f4]
          exact (ih i hi (d + 1) X (by omega) (Nat.le_trans hN hX.size) hwX).mono fun e Z h => h.to fun g _ => g
        rcases h56 with rfl | rfl
        · exact (deep_list (fun i => ∀ h : i < l.length, Deep (d + 1) l[i]) n s p cap q qc ks.length bl off l.length _ _ _ _ _ _ _ _ _ d (by omega) W hr.2.2.2.2.2 hq1.1 (fun h => (hp h).1) cells).mono fun e Z h => h.to fun g => .mk d 5 n s l ks (fun _ => by omega) (fun i h => g i h h)
        · exact (deep_record (fun i => ∀ h : i < l.length, Deep (d + 1) l[i]) n s p cap q qc ks.length bl off l.length _ _ _ _ _ _ _ _ _ d (by omega) W hr.2.2.2.2.2 hq1.1
            (fun o => rising_c ks q qc qb qo (W.alloc o) hq1 (fun h => ⟨(hq2 h).1, by have := (hq2 h).2; simp; exact Nat.lt_succ_of_lt (Nat.lt_of_lt_of_le this hN)⟩) (fun i h => by
              have hb : Below N w (W.alloc o) := hW.trans (((Below.refl _ W).alloc (Nat.le_refl _) o).mono hN)
              rw [hb.cell (p := ⟨qb, qo + i, none⟩) (show qb < N from (hq2 (by omega)).2)]
              exact hq3 i h))
            (fun h => (hp h).1) cells).mono fun e Z h => h.to fun g => .mk d 6 n s l ks (fun _ => by omega) (fun i h => g i h h)
    · by_cases h03 : k = 0 ∨ k = 1 ∨ k = 2 ∨ k = 3
      · exact (check_bare k n s p cap q qc l ks d W hr.2.2.2.2.2 hq1.1 hr.2.2.2.2.1 h03).mono fun e W' h => h.dep
      · by_cases h4 : k = 4 ∨ k = 7 ∨ k = 8 ∨ k = 9 ∨ k = 10 ∨ k = 11
        · exact (check_text k n s p cap q qc l ks d W hr.2.2.2.2.2 hq1.1 hr.2.2.2.2.1 h4).mono fun e W' h => h.dep
        · exact (check_out k n s p cap q qc l ks d W hr.2.2.2.2.2 (by omega)).mono fun e W' h => h.dep

theorem rDeep_c (N : Nat) (w : World) (u0 u1 u2 u3 u4 : Value) (hone : ∀ u ∈ [u0, u1, u2, u3, u4], u.oneCell' = true) {x : V} (ha : Holds (Old N) w (.agg #[u0, u1, u2, u3, u4]) x) (W : World) (hN : N ≤ W.heap.size) (hW : Below N w W) :
    Calls Tryz.prog 8 #[.agg #[u0, u1, u2, u3, u4]] W (Dep (Deep 0 x) W) := by
  have h0 := fun X (hX : Below W.heap.size W X) => rdeep_go N w ha 0 X (by omega) (Nat.le_trans hN hX.size) (hW.trans (hX.mono hN))
  have hb0 : Below W.heap.size W (W.alloc (.cells #[u0, u1, u2, u3, u4] 25)) := (Below.refl _ W).alloc (Nat.le_refl _) _
  have h00 := h0 _ hb0
  have HB0 := Lib.hid hb0
  obtain ⟨o0, o1, o2, o3, o4⟩ : u0.oneCell' = true ∧ u1.oneCell' = true ∧ u2.oneCell' = true ∧ u3.oneCell' = true ∧ u4.oneCell' = true := by
    refine ⟨hone _ (by simp), hone _ (by simp), hone _ (by simp), hone _ (by simp), hone _ (by simp)⟩
  clear h0 hone ha hb0
  go_enter Tryz.func8, Tryz.ntmps8
  go_wp2_with (go_at_call 13; refine h00.mono ?_; rintro e X ⟨r, rfl, hG, hX⟩)
  go_ret
  exact ⟨r, rfl, hG, HB0.out.trans (Below.mono hX HB0.out.size)⟩
end Go.Proofs.YtganmmkdcaphfaaGreatDoor.Lit
