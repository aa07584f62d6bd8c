/-
  Contracts of values.cloned at values and of values.Clone: the walks.
-/
import Derived.Test.YtcheiombgnabaaaValClone2
namespace Go.Proofs.Ytcheiombgnabaaa.Val
open Go.RowKit Go.Proofs.Ytcheiombgnabaaa.Oct

set_option maxHeartbeats 4000000 in
set_option maxRecDepth 100000 in
theorem clonedVals_c (l : List V) (p : Option Addr) (cap bl off : Nat) (c : Nat → Nat → Value) (w : World) {C : Cond} (hl : ∀ i (h : i < l.length), Holds C w (.agg #[c i 0, c i 1, c i 2, c i 3, c i 4]) l[i]) (hlen : l.length * 80 ≤ 140737488351232)
    (hp : 0 < l.length → p = some ⟨bl, off, none⟩ ∧ bl < w.heap.size) (hc : ∀ i j, i < l.length → j < 5 → w.cell? ⟨bl, off + (i * 5 + j), none⟩ = some (c i j))
    (ih : ∀ i (h : i < l.length) (W : World), Below w.heap.size w W → Calls Try.prog 7 #[.agg #[c i 0, c i 1, c i 2, c i 3, c i 4]] W (Owned l[i] W)) :
    Calls Try.prog 24 #[.slice p l.length cap, .func (.func 7) #[] #[]] w fun e w' => ∃ v, e = .returned v ∧ Vals (Mine w.heap.size w') w' v l ∧ Below w.heap.size w w' := by
  cases p with
  | none =>
    have h0 : l = [] := by
      cases l with
      | nil => rfl
      | cons a t => have := (hp (by simp)).1; cases this
    subst h0
    clear hp hc ih hl
    have hnil := eql_nil w none 0 cap Try.underlying22
    go_enter Try.func24, Try.ntmps24
    go_wp2
    go_ret
    exact ⟨_, rfl, ⟨none, 0, 0, 0, fun _ _ => undef, rfl, fun h => absurd h (by simp), fun i j h => absurd h (by simp), fun i h => absurd h (by simp)⟩, Below.refl _ _⟩
  | some a =>
    obtain ⟨i0, hi, hz0, hz1, hz2⟩ := info_parts info_value
    have e7 := enter_vclone
    have HQ := Lib.hid (And.intro hp (And.intro hc (And.intro ih hl)))
    clear hp hc ih hl
    obtain ⟨n, hn⟩ : ∃ n, l.length = n := ⟨_, rfl⟩
    rw [hn] at hlen ⊢
    have hnil := eql_nil w (some a) n cap Try.underlying22
    go_enter Try.func24, Try.ntmps24
    go_wp2_with (at_make; refine wpList_make_full _ rfl _ _ 22 rfl w.heap.size 25 i0 (.agg #[.int .i64 0, .int .i64 0, .string ⟨#[]⟩, .slice none 0 0, .slice none 0 0]) 5 Try.underlying22 hi hz0 hz1 .i64 .i64 (n : Int) (n : Int) n rfl rfl rfl rfl (by rw [hz2]; omega) (by unfold maxLen; omega) (Nat.le_refl _) ?_; intro w1 hown hgrow)
    have H1 := Lib.hid (And.intro hown hgrow)
    clear hown hgrow
    go_loopw [6, 7, 15] (fun _ _ i wr => ∃ k : Nat, k ≤ n ∧ i = .int .i64 k ∧ Hid (ClonedAt w l k wr)) (fun _ _ i _ => n - (intOf i).toNat)
    case atStart =>
      obtain ⟨hown, hgrow⟩ := H1.out
      refine ⟨0, Nat.zero_le _, rfl, List.replicate l.length zero5, by simp, ?_, fun i h => absurd h (by omega), ?_⟩
      · rw [← flat_zero, hn]
        exact hown
      · exact (Below.refl _ w).grown hgrow (Nat.le_refl _) (fun k hk => by cases hk)
    case round =>
      obtain ⟨k, hk, rfl, hat⟩ := hrel
      clear H1
      by_cases hlt : k < n
      · obtain ⟨hs1, hs2, hs3, hs4⟩ := HQ.out
        obtain ⟨ha, hqb⟩ := hs1 (by omega)
        cases ha
        have hkl : k < l.length := by omega
        have hbw : Below w.heap.size w wr := hat.out.choose_spec.2.2.2
        have hgs : w.heap.size < wr.heap.size := (hat.out.choose_spec.2.1.lt w.heap.size rfl).2
        have hcs : ∀ i, i < 5 → wr.cell? ⟨bl, off + (k * 5 + i), none⟩ = some (c k i) := fun i hi => by rw [hbw.cell (p := ⟨bl, off + (k * 5 + i), none⟩) hqb]; exact hs2 k i hkl hi
        have c0 : wr.cell? ⟨bl, off + k * 5, none⟩ = some (c k 0) := hcs 0 (by omega)
        have c1 : wr.cell? ⟨bl, off + k * 5 + 1, none⟩ = some (c k 1) := hcs 1 (by omega)
        have c2 : wr.cell? ⟨bl, off + k * 5 + 2, none⟩ = some (c k 2) := hcs 2 (by omega)
        have c3 : wr.cell? ⟨bl, off + k * 5 + 3, none⟩ = some (c k 3) := hcs 3 (by omega)
        have c4 : wr.cell? ⟨bl, off + k * 5 + 4, none⟩ = some (c k 4) := hcs 4 (by omega)
        have hs3k := hs3 k hkl
        obtain ⟨k1, n1, s1, p1, a1, b1, q1, r1, t1, y0, y1, y2, y3, y4⟩ := holds_parts (hs4 k hkl)
        rw [y0, y1, y2, y3, y4] at hs3k
        rw [y0] at c0
        rw [y1] at c1
        rw [y2] at c2
        rw [y3] at c3
        rw [y4] at c4
        have hcall := hs3k (wr.alloc (.cells #[.int .i64 k1, .int .i64 n1, .string s1, .slice p1 a1 b1, .slice q1 r1 t1] 25)) (hbw.alloc (by omega) _)
        have hst : ∀ w2, Below (wr.alloc (.cells #[.int .i64 k1, .int .i64 n1, .string s1, .slice p1 a1 b1, .slice q1 r1 t1] 25)).heap.size (wr.alloc (.cells #[.int .i64 k1, .int .i64 n1, .string s1, .slice p1 a1 b1, .slice q1 r1 t1] 25)) w2 → ∀ j, j < 5 → (∃ u, w2.cell? ⟨w.heap.size, k * 5 + j, none⟩ = some u) ∧ w2.frozen? ⟨w.heap.size, k * 5 + j, none⟩ = false := fun w2 h2 j hj => by
          obtain ⟨es, hes, hown, _⟩ := hat.out
          have h3 := own_kept (hown.alloc _) h2
          have h4 := h3.cellAt (k * 5 + j) (by omega)
          have : k * 5 + j < (flat es).length := by rw [flat_len, hes]; omega
          rw [List.getElem?_eq_getElem this] at h4
          exact ⟨⟨_, h4⟩, h3.frozenAt _⟩
        have HST := Lib.hid hst
        have h1 : (0 : Int) ≤ (k : Int) := by omega
        have h2 : (k : Int) < (n : Int) := by omega
        clear hst hs1 hs2 hs3 hs4 hs3k hcs hbw hgs y0 y1 y2 y3 y4
        go_wp2_with (go_at_fn 7; refine hcall.mono ?_; rintro e w2 ⟨v2, rfl, hA2, hb2⟩; obtain ⟨k2, n2, s2, p2, a2, b2, q2, r2, t2, rfl⟩ := holds_agg hA2; obtain ⟨⟨z0, x0⟩, f0⟩ := HST.out w2 hb2 0 (by omega); obtain ⟨⟨z1, x1⟩, f1⟩ := HST.out w2 hb2 1 (by omega); obtain ⟨⟨z2, x2⟩, f2⟩ := HST.out w2 hb2 2 (by omega); obtain ⟨⟨z3, x3⟩, f3⟩ := HST.out w2 hb2 3 (by omega); obtain ⟨⟨z4, x4⟩, f4⟩ := HST.out w2 hb2 4 (by omega); rw [Nat.add_zero] at x0 f0; have HN : Hid (ClonedAt w l (k + 1) (put5 w2 w.heap.size k (.int .i64 k2, .int .i64 n2, .string s2, .slice p2 a2 b2, .slice q2 r2 t2))) := cloned_next hat.out hkl hb2 hA2; clear hA2 hb2)
        go_roundw
        case rel => exact ⟨k + 1, by omega, by go_num, HN⟩
        case measure => simp [intOf]; omega
      · have hkn : k = n := by omega
        subst hkn
        go_wp2
        go_ret
        refine ⟨.slice (some ⟨w.heap.size, 0, none⟩) k k, rfl, ?_, hat.out.choose_spec.2.2.2⟩
        have h9 := hat.out
        rw [← hn] at h9 ⊢
        exact cloned_end h9
end Go.Proofs.Ytcheiombgnabaaa.Val
