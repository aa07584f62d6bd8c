/-
  Part 11: RdKey2.
-/
import Derived.Test.YtganmmkdcaphfaaGreatDoorJsBaseP10
import Derived.Deep.RegionHeld3
/-
  Contract of the reader's putKey, where something has begun.
-/
namespace Go.Proofs.YtganmmkdcaphfaaGreatDoor.Rd
open Go.RowKit Go.Proofs.YtganmmkdcaphfaaGreatDoor.Oct Go.Proofs.YtganmmkdcaphfaaGreatDoor.Val

theorem append_key {N : Nat} {w : World} {K : Value} {ks : List ByteArray} (key : ByteArray) (hN : N ≤ w.heap.size) (h : w.ownsRow N 9 1 K ks.length (ks.map Value.string)) (hn : ks.length + 1 ≤ 1099511627776) :
    ∃ g cap wB, (Builtin.append_ #[23, 23] 23 #[K, .slice (some ⟨w.heap.size, 0, none⟩) 1 1]).run Tryz.prog (w.alloc (.cells #[.string key] 9)) = .ok (.slice (some ⟨g, 0, none⟩) (ks.length + 1) cap) wB ∧
      wB.ownsRow N 9 1 (.slice (some ⟨g, 0, none⟩) (ks.length + 1) cap) (ks.length + 1) (ks.map Value.string ++ [.string key]) ∧ (w.alloc (.cells #[.string key] 9)).grownBy wB K.ownBlock ∧ (K.ownBlock = some g ∨ g = w.heap.size + 1) ∧ g < wB.heap.size := by
  obtain ⟨i0, hi, hz0, hz1, hz2⟩ := info_parts info_text
  exact run_append_lies (P := Tryz.prog) (w.alloc (.cells #[.string key] 9)) 23 23 N 9 i0 (.string ⟨#[]⟩) 1 16 Tryz.underlying23 hi hz0 hz1 hz2 rfl (by omega)
    K ks.length (ks.map Value.string) (h.alloc _) ⟨w.heap.size, 0, none⟩ 1 1 [.string key] rfl (World.news_of_block (heap_alloc_new w _)) (by intro u hu; simp at hu; rw [hu]; rfl) (by omega) (by unfold maxLen; omega) (by omega) (by simp; omega) _ (by simp)

theorem key_facts {N : Nat} {tag : Nat → Nat} {W wB : World} {R : Nat} {s : List UInt8} {fs : List Fr} {f : Fr} {deep : Nat} {ov : Value} {es : List E5} (h : RdAt N tag W R s (fs ++ [f]) deep ov es)
    {g0 cap0 : Nat} (hov : ov = .slice (some ⟨g0, 0, none⟩) (fs ++ [f]).length cap0) {L K : Value} {ys : List E5} {e : E5} (hf : FrAt N tag W fs.length f e L K ys) (he : ∀ h', es[fs.length]'h' = e) {o : Obj}
    (hg : (W.alloc o).grownBy wB K.ownBlock) : wB.cell? ⟨g0, fs.length * 5 + 4, none⟩ = some K ∧ wB.frozen? ⟨g0, fs.length * 5 + 4, none⟩ = false := by
  have hg0 : g0 < W.heap.size := (own_lt h.own (r := g0) (by rw [hov]; rfl)).2
  have hblk : wB.heap[g0]? = W.heap[g0]? := by
    rw [hg.block g0 (by simp; omega) (fun e => by have h1 := hf.kmark g0 e.symm; have h2 := h.omark g0 (by rw [hov]; rfl); omega), Go.heap_alloc_old _ _ hg0]
  have hown0 : wB.ownsRow N 25 5 ov (fs ++ [f]).length (flat es) := own_at h.own fun k hk => by
    rw [hov] at hk
    have : k = g0 := by injection hk with hk; exact hk.symm
    rw [this]; exact hblk
  refine ⟨?_, ?_⟩
  · rw [slot_at (es := es) (m := fs.length) (by rw [h.len]; simp) (by omega) hown0 (by rw [hov]; rfl) h.len ⟨cap0, hov⟩, he, hf.e]
    rfl
  · rw [hov] at hown0
    exact hown0.frozenAt _

set_option maxHeartbeats 4000000 in
set_option maxRecDepth 100000 in
theorem key_c (N : Nat) (tag : Nat → Nat) (w : World) (R : Nat) (s : List UInt8) (fs : List Fr) (f : Fr) (deep : Nat) (ov : Value) (es : List E5) (h : RdAt N tag w R s (fs ++ [f]) deep ov es) (key : ByteArray) (hkey : key.size ≤ 140737488351232)
    (hk : f.ks.length + 1 ≤ 1099511627776) (hm : fs.length + 1 ≤ 1099511627776) :
    Calls Tryz.prog 74 #[.pointer (some ⟨R, 0, none⟩), .string key] w (KeyTo N tag w R s fs f deep key) := by
  obtain ⟨g0, cap0, hov, hg3⟩ := h.row (by simp)
  have hlen : es.length = fs.length + 1 := by rw [h.len]; simp
  have hfl : (fs ++ [f]).length = fs.length + 1 := by simp
  have hfi : (fs ++ [f])[fs.length]'(by omega) = f := by simp
  obtain ⟨L, K, ys, hf⟩ := h.frs fs.length (by omega) (by omega)
  rw [hfi] at hf
  obtain ⟨lp, lc, hL⟩ := own_slice hf.rows
  obtain ⟨kp, kc, hK⟩ := own_slice hf.keys
  have c1 := h.rd.cell1
  rw [hov, hfl] at c1
  have hi := innermost_c R g0 fs.length cap0 (S s) (.int .i64 deep) w (by omega) (by have := h.rd; rw [hov, hfl] at this; exact this)
  have KW : Hid (∀ W, Below w.heap.size w W → RdAt N tag W R s (fs ++ [f]) deep ov es ∧ W.cell? ⟨g0, fs.length * 5, none⟩ = some (.int .i64 f.kind) ∧ W.cell? ⟨g0, fs.length * 5 + 3, none⟩ = some (.slice lp f.xs.length lc) ∧ W.cell? ⟨g0, fs.length * 5 + 4, none⟩ = some (.slice kp f.ks.length kc)) := fun W hb => by
    have hW := h.keep hb
    have sl : ∀ i, i < 5 → W.cell? ⟨g0, fs.length * 5 + i, none⟩ = (cells5 es[fs.length])[i]? := fun i hi => slot_at (es := es) (m := fs.length) (by omega) hi hW.own (by rw [hov]; rfl) (by rw [hlen, hfl]) ⟨cap0, hov⟩
    rw [hf.e, hL, hK] at sl
    exact ⟨hW, sl 0 (by omega), sl 3 (by omega), sl 4 (by omega)⟩
  have HB := Lib.hid (And.intro h (And.intro hf (And.intro hov (And.intro hL hK))))
  unfold KeyTo
  have hm0 : (0 : Int) < (fs.length : Int) + 1 := by omega
  clear h hf
  by_cases hc : f.kind = 6 ∧ f.ks.length = f.xs.length
  · simp only [if_pos hc]
    obtain ⟨hc1, hc2⟩ := hc
    rw [hc1, ← hc2] at KW
    have HC2 := Lib.hid hc2
    clear hc2
    · skip
      go_enter Tryz.func74, Tryz.ntmps74
      go_wp2_with (first
        | (go_at_call 57; refine (demand_yes _ _).mono ?_; rintro e w2 ⟨rfl, rfl⟩)
        | (go_at_call 69; refine hi.mono ?_; rintro e2 W2 ⟨rfl, h2⟩; obtain ⟨m1, x0, x3, x4⟩ := KW.out W2 h2; have H2 := Lib.hid (And.intro h2 m1); clear h2 m1))
      have x0' : W2.drew.cell? ⟨g0, fs.length * 5, none⟩ = some (.int .i64 6) := x0
      have x3' : W2.drew.cell? ⟨g0, fs.length * 5 + 3, none⟩ = some (.slice lp f.ks.length lc) := x3
      have x4' : W2.drew.cell? ⟨g0, fs.length * 5 + 4, none⟩ = some (.slice kp f.ks.length kc) := x4
      go_region_held3 (fun w' => w'.cell? ⟨g0, fs.length * 5, none⟩ = some (.int .i64 6) ∧ w'.cell? ⟨g0, fs.length * 5 + 3, none⟩ = some (.slice lp f.ks.length lc) ∧ w'.cell? ⟨g0, fs.length * 5 + 4, none⟩ = some (.slice kp f.ks.length kc))
        (first | with_reducible exact ⟨x0', x3', x4'⟩)
        (first
          | (go_at_call 57; refine (demand_yes _ _).mono ?_; rintro e4 W4 ⟨rfl, rfl⟩))
      have hd2 := H2.out.2.keep (Below.refl _ W2).drew
      obtain ⟨L', K', ys2, hf2⟩ := hd2.frs fs.length (by omega) (by omega)
      rw [hfi] at hf2
      have heL : L' = L ∧ K' = K := by
        have h1 := hf2.e.symm.trans HB.out.2.1.e
        simp only [Prod.mk.injEq, true_and] at h1
        exact h1
      obtain ⟨rfl, rfl⟩ := heL
      obtain ⟨g, cp, wB, hr, hownB, hgB, hatB, hltB⟩ := append_key key hd2.size hf2.keys hk
      obtain ⟨v4, r4⟩ := key_facts hd2 hov hf2 (fun _ => rfl) hgB
      rw [hK] at hr v4
      have HY := Lib.hid (And.intro hd2 (And.intro hf2 (And.intro hownB (And.intro hgB (And.intro hatB hltB)))))
      clear hd2 hf2 hownB hgB hatB hltB x0 x3 x4 hi c1
      go_wp2_with (at_builtin; refine wpList_append_run rfl (.tmp 37) (.tmp 39) 23 rfl _ _ _ rfl rfl hr ?_)
      go_end0
      exact ⟨rfl, key_done ((Kp.of H2.out.1).trans (Kp.of (Below.refl _ W2).drew)) HY.out.1 hov HY.out.2.1 (fun _ => rfl) hkey HY.out.2.2.1 HY.out.2.2.2.1 HY.out.2.2.2.2.1 HY.out.2.2.2.2.2 rfl⟩
  · simp only [if_neg hc]
    generalize f.kind = kd at KW hc
    generalize f.ks.length = nk at KW hc
    generalize f.xs.length = nx at KW hc
    by_cases h6 : kd = 6
    · subst h6
      have he : ((nk : Int) == (nx : Int)) = false := by simp; omega
      go_enter Tryz.func74, Tryz.ntmps74
      go_wp2_with (first
        | (go_at_call 57; refine (demand_yes _ _).mono ?_; rintro e w2 ⟨rfl, rfl⟩)
        | (go_at_call 69; refine hi.mono ?_; rintro e2 W2 ⟨rfl, h2⟩; obtain ⟨m1, x0, x3, x4⟩ := KW.out W2 h2; have H2 := Lib.hid (And.intro h2 m1); clear h2 m1))
      refine wp_region_held_drew (S := (fun w' => w'.cell? ⟨g0, fs.length * 5, none⟩ = some (.int .i64 6) ∧ w'.cell? ⟨g0, fs.length * 5 + 3, none⟩ = some (.slice lp nx lc) ∧ w'.cell? ⟨g0, fs.length * 5 + 4, none⟩ = some (.slice kp nk kc))) (by kernel_rfl) ⟨x0, x3, x4⟩ (fun hHeld => ?_)
      refine wpAnyH_take (i := 0) (v := ?_) rfl (by kernel_rfl) (by kernel_rfl) (by kernel_rfl) (fun _ _ _ h => h) (Or.inl ⟨by rfl, ?_⟩) (by assumption) ?_
      rotate_left
      · intro w hSw
        try dsimp only at hSw
        go_simp
        try with_reducible rfl
      (try simp only [List.getElem_toArray]); (try simp only [List.getElem_cons_succ]); (try simp only [List.getElem_cons_zero]); (try simp only [Act.put]); (try simp only [List.setIfInBounds_toArray]); (try simp only [List.set_cons_succ]); (try simp only [List.set_cons_zero])
      refine wpAnyH_take (i := 1) (v := ?_) rfl (by kernel_rfl) (by kernel_rfl) (by kernel_rfl) (fun _ _ _ h => h) (Or.inl ⟨by rfl, ?_⟩) (by assumption) ?_
      rotate_left
      · intro w hSw
        try dsimp only at hSw
        go_simp
        try with_reducible rfl
      (try simp only [List.getElem_toArray]); (try simp only [List.getElem_cons_succ]); (try simp only [List.getElem_cons_zero]); (try simp only [Act.put]); (try simp only [List.setIfInBounds_toArray]); (try simp only [List.set_cons_succ]); (try simp only [List.set_cons_zero])
      refine wpAnyH_take (i := 2) (v := ?_) rfl (by kernel_rfl) (by kernel_rfl) (by kernel_rfl) (fun _ _ _ h => h) (Or.inl ⟨by rfl, ?_⟩) (by assumption) ?_
      rotate_left
      · intro w hSw
        try dsimp only at hSw
        go_simp
        try with_reducible rfl
      (try simp only [List.getElem_toArray]); (try simp only [List.getElem_cons_succ]); (try simp only [List.getElem_cons_zero]); (try simp only [Act.put]); (try simp only [List.setIfInBounds_toArray]); (try simp only [List.set_cons_succ]); (try simp only [List.set_cons_zero])
      refine wpAnyH_take (i := 3) (v := ?_) rfl (by kernel_rfl) (by kernel_rfl) (by kernel_rfl) (fun _ _ _ h => h) (Or.inl ⟨by rfl, ?_⟩) (by assumption) ?_
      rotate_left
      · intro w hSw
        try dsimp only at hSw
        go_simp
        try with_reducible rfl
      (try simp only [List.getElem_toArray]); (try simp only [List.getElem_cons_succ]); (try simp only [List.getElem_cons_zero]); (try simp only [Act.put]); (try simp only [List.setIfInBounds_toArray]); (try simp only [List.set_cons_succ]); (try simp only [List.set_cons_zero])
      refine wpAnyH_take (i := 4) (v := ?_) rfl (by kernel_rfl) (by kernel_rfl) (by kernel_rfl) (fun _ _ _ h => h) (Or.inl ⟨by rfl, ?_⟩) (by assumption) ?_
      rotate_left
      · intro w hSw
        try dsimp only at hSw
        go_simp
        try with_reducible rfl
      (try simp only [List.getElem_toArray]); (try simp only [List.getElem_cons_succ]); (try simp only [List.getElem_cons_zero]); (try simp only [Act.put]); (try simp only [List.setIfInBounds_toArray]); (try simp only [List.set_cons_succ]); (try simp only [List.set_cons_zero])
      refine wpAnyH_take (i := 5) (v := ?_) rfl (by kernel_rfl) (by kernel_rfl) (by kernel_rfl) (fun _ _ _ h => h) (Or.inl ⟨by rfl, ?_⟩) (by assumption) ?_
      rotate_left
      · intro w hSw
        try dsimp only at hSw
        go_simp
        try with_reducible rfl
      (try simp only [List.getElem_toArray]); (try simp only [List.getElem_cons_succ]); (try simp only [List.getElem_cons_zero]); (try simp only [Act.put]); (try simp only [List.setIfInBounds_toArray]); (try simp only [List.set_cons_succ]); (try simp only [List.set_cons_zero])
      refine wpAnyH_take (i := 6) (v := ?_) rfl (by kernel_rfl) (by kernel_rfl) (by kernel_rfl) (fun _ _ _ h => h) (Or.inl ⟨by rfl, ?_⟩) (by assumption) ?_
      rotate_left
      · intro w hSw
        try dsimp only at hSw
        go_simp
        try with_reducible rfl
      (try simp only [List.getElem_toArray]); (try simp only [List.getElem_cons_succ]); (try simp only [List.getElem_cons_zero]); (try simp only [Act.put]); (try simp only [List.setIfInBounds_toArray]); (try simp only [List.set_cons_succ]); (try simp only [List.set_cons_zero])
      refine wpAnyH_take (i := 7) (v := ?_) rfl (by kernel_rfl) (by kernel_rfl) (by kernel_rfl) (fun _ _ _ h => h) (Or.inl ⟨by rfl, ?_⟩) (by assumption) ?_
      rotate_left
      · intro w hSw
        try dsimp only at hSw
        go_simp
        try with_reducible rfl
      (try simp only [List.getElem_toArray]); (try simp only [List.getElem_cons_succ]); (try simp only [List.getElem_cons_zero]); (try simp only [Act.put]); (try simp only [List.setIfInBounds_toArray]); (try simp only [List.set_cons_succ]); (try simp only [List.set_cons_zero])
      refine wpAnyH_take (i := 8) (v := ?_) rfl (by kernel_rfl) (by kernel_rfl) (by kernel_rfl) (fun _ _ _ h => h) (Or.inl ⟨by rfl, ?_⟩) (by assumption) ?_
      rotate_left
      · intro w hSw
        try dsimp only at hSw
        go_simp
        try with_reducible rfl
      (try simp only [List.getElem_toArray]); (try simp only [List.getElem_cons_succ]); (try simp only [List.getElem_cons_zero]); (try simp only [Act.put]); (try simp only [List.setIfInBounds_toArray]); (try simp only [List.set_cons_succ]); (try simp only [List.set_cons_zero])
      refine wpAnyH_take (i := 9) (v := ?_) rfl (by kernel_rfl) (by kernel_rfl) (by kernel_rfl) (fun _ _ _ h => h) (Or.inl ⟨by rfl, ?_⟩) (by assumption) ?_
      rotate_left
      · intro w hSw
        try dsimp only at hSw
        go_simp
        try with_reducible rfl
      (try simp only [List.getElem_toArray]); (try simp only [List.getElem_cons_succ]); (try simp only [List.getElem_cons_zero]); (try simp only [Act.put]); (try simp only [List.setIfInBounds_toArray]); (try simp only [List.set_cons_succ]); (try simp only [List.set_cons_zero])
      refine wpAnyH_take (i := 10) (v := ?_) rfl (by kernel_rfl) (by kernel_rfl) (by kernel_rfl) (fun _ _ _ h => h) (Or.inl ⟨by rfl, ?_⟩) (by assumption) ?_
      rotate_left
      · intro w hSw
        try dsimp only at hSw
        go_simp
        try with_reducible rfl
      (try simp only [List.getElem_toArray]); (try simp only [List.getElem_cons_succ]); (try simp only [List.getElem_cons_zero]); (try simp only [Act.put]); (try simp only [List.setIfInBounds_toArray]); (try simp only [List.set_cons_succ]); (try simp only [List.set_cons_zero])
      refine wpAnyH_take (i := 11) (v := ?_) rfl (by kernel_rfl) (by kernel_rfl) (by kernel_rfl) (fun _ _ _ h => h) (Or.inl ⟨by rfl, ?_⟩) (by assumption) ?_
      rotate_left
      · intro w hSw
        try dsimp only at hSw
        go_simp
        try with_reducible rfl
      (try simp only [List.getElem_toArray]); (try simp only [List.getElem_cons_succ]); (try simp only [List.getElem_cons_zero]); (try simp only [Act.put]); (try simp only [List.setIfInBounds_toArray]); (try simp only [List.set_cons_succ]); (try simp only [List.set_cons_zero])
      refine wpAnyH_take (i := 12) (v := ?_) rfl (by kernel_rfl) (by kernel_rfl) (by kernel_rfl) (fun _ _ _ h => h) (Or.inl ⟨by rfl, ?_⟩) (by assumption) ?_
      rotate_left
      · intro w hSw
        try dsimp only at hSw
        go_simp
        try with_reducible rfl
      (try simp only [List.getElem_toArray]); (try simp only [List.getElem_cons_succ]); (try simp only [List.getElem_cons_zero]); (try simp only [Act.put]); (try simp only [List.setIfInBounds_toArray]); (try simp only [List.set_cons_succ]); (try simp only [List.set_cons_zero])
      refine wpAnyH_take (i := 13) (v := ?_) rfl (by kernel_rfl) (by kernel_rfl) (by kernel_rfl) (fun _ _ _ h => h) (Or.inl ⟨by rfl, ?_⟩) (by assumption) ?_
      rotate_left
      · intro w hSw
        try dsimp only at hSw
        go_simp
        try with_reducible rfl
      (try simp only [List.getElem_toArray]); (try simp only [List.getElem_cons_succ]); (try simp only [List.getElem_cons_zero]); (try simp only [Act.put]); (try simp only [List.setIfInBounds_toArray]); (try simp only [List.set_cons_succ]); (try simp only [List.set_cons_zero])
      refine wpAnyH_take (i := 14) (v := ?_) rfl (by kernel_rfl) (by kernel_rfl) (by kernel_rfl) (fun _ _ _ h => h) (Or.inl ⟨by rfl, ?_⟩) (by assumption) ?_
      rotate_left
      · intro w hSw
        try dsimp only at hSw
        go_simp
        try with_reducible rfl
      (try simp only [List.getElem_toArray]); (try simp only [List.getElem_cons_succ]); (try simp only [List.getElem_cons_zero]); (try simp only [Act.put]); (try simp only [List.setIfInBounds_toArray]); (try simp only [List.set_cons_succ]); (try simp only [List.set_cons_zero])
      refine wpAnyH_take (i := 15) (v := ?_) rfl (by kernel_rfl) (by kernel_rfl) (by kernel_rfl) (fun _ _ _ h => h) (Or.inl ⟨by rfl, ?_⟩) (by assumption) ?_
      rotate_left
      · intro w hSw
        try dsimp only at hSw
        go_simp
        try with_reducible rfl
      (try simp only [List.getElem_toArray]); (try simp only [List.getElem_cons_succ]); (try simp only [List.getElem_cons_zero]); (try simp only [Act.put]); (try simp only [List.setIfInBounds_toArray]); (try simp only [List.set_cons_succ]); (try simp only [List.set_cons_zero])
      refine wpAnyH_take (i := 16) (v := ?_) rfl (by kernel_rfl) (by kernel_rfl) (by kernel_rfl) (fun _ _ _ h => h) (Or.inl ⟨by rfl, ?_⟩) (by assumption) ?_
      rotate_left
      · intro w hSw
        try dsimp only at hSw
        go_simp
        try with_reducible rfl
      (try simp only [List.getElem_toArray]); (try simp only [List.getElem_cons_succ]); (try simp only [List.getElem_cons_zero]); (try simp only [Act.put]); (try simp only [List.setIfInBounds_toArray]); (try simp only [List.set_cons_succ]); (try simp only [List.set_cons_zero])
      refine wpAnyH_take (i := 17) (v := ?_) rfl (by kernel_rfl) (by kernel_rfl) (by kernel_rfl) (fun _ _ _ h => h) (Or.inl ⟨by rfl, ?_⟩) (by assumption) ?_
      rotate_left
      · intro w hSw
        try dsimp only at hSw
        go_simp
        try with_reducible rfl
      (try simp only [List.getElem_toArray]); (try simp only [List.getElem_cons_succ]); (try simp only [List.getElem_cons_zero]); (try simp only [Act.put]); (try simp only [List.setIfInBounds_toArray]); (try simp only [List.set_cons_succ]); (try simp only [List.set_cons_zero])
      refine wpAnyH_ready (rs := [18]) (by kernel_rfl) (by simp) ?_
      refine AllReadyH.cons rfl (fun K hK => ?_) AllReadyH.nil
      go_simp
      refine (demand_no _ _).mono ?_
      rintro e4 W4 ⟨rfl, rfl⟩
      exact ⟨rfl, rfl, Kp.of (H2.out.1.trans ((Below.refl _ W2).drew.mono H2.out.1.size))⟩
    · have he : (kd == 6) = false := by simpa using h6
      go_enter Tryz.func74, Tryz.ntmps74
      go_wp2_with (first
        | (go_at_call 57; refine (demand_yes _ _).mono ?_; rintro e w2 ⟨rfl, rfl⟩)
        | (go_at_call 69; refine hi.mono ?_; rintro e2 W2 ⟨rfl, h2⟩; obtain ⟨m1, x0, x3, x4⟩ := KW.out W2 h2; have H2 := Lib.hid (And.intro h2 m1); clear h2 m1))
      refine wp_region_held_drew (S := (fun w' => w'.cell? ⟨g0, fs.length * 5, none⟩ = some (.int .i64 kd) ∧ w'.cell? ⟨g0, fs.length * 5 + 3, none⟩ = some (.slice lp nx lc) ∧ w'.cell? ⟨g0, fs.length * 5 + 4, none⟩ = some (.slice kp nk kc))) (by kernel_rfl) ⟨x0, x3, x4⟩ (fun hHeld => ?_)
      refine wpAnyH_take (i := 0) (v := ?_) rfl (by kernel_rfl) (by kernel_rfl) (by kernel_rfl) (fun _ _ _ h => h) (Or.inl ⟨by rfl, ?_⟩) (by assumption) ?_
      rotate_left
      · intro w hSw
        try dsimp only at hSw
        go_simp
        try with_reducible rfl
      (try simp only [List.getElem_toArray]); (try simp only [List.getElem_cons_succ]); (try simp only [List.getElem_cons_zero]); (try simp only [Act.put]); (try simp only [List.setIfInBounds_toArray]); (try simp only [List.set_cons_succ]); (try simp only [List.set_cons_zero])
      refine wpAnyH_take (i := 1) (v := ?_) rfl (by kernel_rfl) (by kernel_rfl) (by kernel_rfl) (fun _ _ _ h => h) (Or.inl ⟨by rfl, ?_⟩) (by assumption) ?_
      rotate_left
      · intro w hSw
        try dsimp only at hSw
        go_simp
        try with_reducible rfl
      (try simp only [List.getElem_toArray]); (try simp only [List.getElem_cons_succ]); (try simp only [List.getElem_cons_zero]); (try simp only [Act.put]); (try simp only [List.setIfInBounds_toArray]); (try simp only [List.set_cons_succ]); (try simp only [List.set_cons_zero])
      refine wpAnyH_take (i := 2) (v := ?_) rfl (by kernel_rfl) (by kernel_rfl) (by kernel_rfl) (fun _ _ _ h => h) (Or.inl ⟨by rfl, ?_⟩) (by assumption) ?_
      rotate_left
      · intro w hSw
        try dsimp only at hSw
        go_simp
        try with_reducible rfl
      (try simp only [List.getElem_toArray]); (try simp only [List.getElem_cons_succ]); (try simp only [List.getElem_cons_zero]); (try simp only [Act.put]); (try simp only [List.setIfInBounds_toArray]); (try simp only [List.set_cons_succ]); (try simp only [List.set_cons_zero])
      refine wpAnyH_take (i := 3) (v := ?_) rfl (by kernel_rfl) (by kernel_rfl) (by kernel_rfl) (fun _ _ _ h => h) (Or.inl ⟨by rfl, ?_⟩) (by assumption) ?_
      rotate_left
      · intro w hSw
        try dsimp only at hSw
        go_simp
        try with_reducible rfl
      (try simp only [List.getElem_toArray]); (try simp only [List.getElem_cons_succ]); (try simp only [List.getElem_cons_zero]); (try simp only [Act.put]); (try simp only [List.setIfInBounds_toArray]); (try simp only [List.set_cons_succ]); (try simp only [List.set_cons_zero])
      refine wpAnyH_take (i := 4) (v := ?_) rfl (by kernel_rfl) (by kernel_rfl) (by kernel_rfl) (fun _ _ _ h => h) (Or.inl ⟨by rfl, ?_⟩) (by assumption) ?_
      rotate_left
      · intro w hSw
        try dsimp only at hSw
        go_simp
        try with_reducible rfl
      (try simp only [List.getElem_toArray]); (try simp only [List.getElem_cons_succ]); (try simp only [List.getElem_cons_zero]); (try simp only [Act.put]); (try simp only [List.setIfInBounds_toArray]); (try simp only [List.set_cons_succ]); (try simp only [List.set_cons_zero])
      refine wpAnyH_take (i := 5) (v := ?_) rfl (by kernel_rfl) (by kernel_rfl) (by kernel_rfl) (fun _ _ _ h => h) (Or.inl ⟨by rfl, ?_⟩) (by assumption) ?_
      rotate_left
      · intro w hSw
        try dsimp only at hSw
        go_simp
        try with_reducible rfl
      (try simp only [List.getElem_toArray]); (try simp only [List.getElem_cons_succ]); (try simp only [List.getElem_cons_zero]); (try simp only [Act.put]); (try simp only [List.setIfInBounds_toArray]); (try simp only [List.set_cons_succ]); (try simp only [List.set_cons_zero])
      refine wpAnyH_take (i := 6) (v := undef) rfl (by kernel_rfl) (by kernel_rfl) (by kernel_rfl) (fun _ _ _ h => h) (Or.inr ⟨by rfl, rfl⟩) (by assumption) ?_
      (try simp only [List.getElem_toArray]); (try simp only [List.getElem_cons_succ]); (try simp only [List.getElem_cons_zero]); (try simp only [Act.put]); (try simp only [List.setIfInBounds_toArray]); (try simp only [List.set_cons_succ]); (try simp only [List.set_cons_zero])
      refine wpAnyH_take (i := 7) (v := undef) rfl (by kernel_rfl) (by kernel_rfl) (by kernel_rfl) (fun _ _ _ h => h) (Or.inr ⟨by rfl, rfl⟩) (by assumption) ?_
      (try simp only [List.getElem_toArray]); (try simp only [List.getElem_cons_succ]); (try simp only [List.getElem_cons_zero]); (try simp only [Act.put]); (try simp only [List.setIfInBounds_toArray]); (try simp only [List.set_cons_succ]); (try simp only [List.set_cons_zero])
      refine wpAnyH_take (i := 8) (v := undef) rfl (by kernel_rfl) (by kernel_rfl) (by kernel_rfl) (fun _ _ _ h => h) (Or.inr ⟨by rfl, rfl⟩) (by assumption) ?_
      (try simp only [List.getElem_toArray]); (try simp only [List.getElem_cons_succ]); (try simp only [List.getElem_cons_zero]); (try simp only [Act.put]); (try simp only [List.setIfInBounds_toArray]); (try simp only [List.set_cons_succ]); (try simp only [List.set_cons_zero])
      refine wpAnyH_take (i := 9) (v := undef) rfl (by kernel_rfl) (by kernel_rfl) (by kernel_rfl) (fun _ _ _ h => h) (Or.inr ⟨by rfl, rfl⟩) (by assumption) ?_
      (try simp only [List.getElem_toArray]); (try simp only [List.getElem_cons_succ]); (try simp only [List.getElem_cons_zero]); (try simp only [Act.put]); (try simp only [List.setIfInBounds_toArray]); (try simp only [List.set_cons_succ]); (try simp only [List.set_cons_zero])
      refine wpAnyH_take (i := 10) (v := undef) rfl (by kernel_rfl) (by kernel_rfl) (by kernel_rfl) (fun _ _ _ h => h) (Or.inr ⟨by rfl, rfl⟩) (by assumption) ?_
      (try simp only [List.getElem_toArray]); (try simp only [List.getElem_cons_succ]); (try simp only [List.getElem_cons_zero]); (try simp only [Act.put]); (try simp only [List.setIfInBounds_toArray]); (try simp only [List.set_cons_succ]); (try simp only [List.set_cons_zero])
      refine wpAnyH_take (i := 11) (v := undef) rfl (by kernel_rfl) (by kernel_rfl) (by kernel_rfl) (fun _ _ _ h => h) (Or.inr ⟨by rfl, rfl⟩) (by assumption) ?_
      (try simp only [List.getElem_toArray]); (try simp only [List.getElem_cons_succ]); (try simp only [List.getElem_cons_zero]); (try simp only [Act.put]); (try simp only [List.setIfInBounds_toArray]); (try simp only [List.set_cons_succ]); (try simp only [List.set_cons_zero])
      refine wpAnyH_take (i := 12) (v := undef) rfl (by kernel_rfl) (by kernel_rfl) (by kernel_rfl) (fun _ _ _ h => h) (Or.inr ⟨by rfl, rfl⟩) (by assumption) ?_
      (try simp only [List.getElem_toArray]); (try simp only [List.getElem_cons_succ]); (try simp only [List.getElem_cons_zero]); (try simp only [Act.put]); (try simp only [List.setIfInBounds_toArray]); (try simp only [List.set_cons_succ]); (try simp only [List.set_cons_zero])
      refine wpAnyH_take (i := 13) (v := undef) rfl (by kernel_rfl) (by kernel_rfl) (by kernel_rfl) (fun _ _ _ h => h) (Or.inr ⟨by rfl, rfl⟩) (by assumption) ?_
      (try simp only [List.getElem_toArray]); (try simp only [List.getElem_cons_succ]); (try simp only [List.getElem_cons_zero]); (try simp only [Act.put]); (try simp only [List.setIfInBounds_toArray]); (try simp only [List.set_cons_succ]); (try simp only [List.set_cons_zero])
      refine wpAnyH_take (i := 14) (v := undef) rfl (by kernel_rfl) (by kernel_rfl) (by kernel_rfl) (fun _ _ _ h => h) (Or.inr ⟨by rfl, rfl⟩) (by assumption) ?_
      (try simp only [List.getElem_toArray]); (try simp only [List.getElem_cons_succ]); (try simp only [List.getElem_cons_zero]); (try simp only [Act.put]); (try simp only [List.setIfInBounds_toArray]); (try simp only [List.set_cons_succ]); (try simp only [List.set_cons_zero])
      refine wpAnyH_take (i := 15) (v := undef) rfl (by kernel_rfl) (by kernel_rfl) (by kernel_rfl) (fun _ _ _ h => h) (Or.inr ⟨by rfl, rfl⟩) (by assumption) ?_
      (try simp only [List.getElem_toArray]); (try simp only [List.getElem_cons_succ]); (try simp only [List.getElem_cons_zero]); (try simp only [Act.put]); (try simp only [List.setIfInBounds_toArray]); (try simp only [List.set_cons_succ]); (try simp only [List.set_cons_zero])
      refine wpAnyH_take (i := 16) (v := undef) rfl (by kernel_rfl) (by kernel_rfl) (by kernel_rfl) (fun _ _ _ h => h) (Or.inr ⟨by rfl, rfl⟩) (by assumption) ?_
      (try simp only [List.getElem_toArray]); (try simp only [List.getElem_cons_succ]); (try simp only [List.getElem_cons_zero]); (try simp only [Act.put]); (try simp only [List.setIfInBounds_toArray]); (try simp only [List.set_cons_succ]); (try simp only [List.set_cons_zero])
      refine wpAnyH_take (i := 17) (v := ?_) rfl (by kernel_rfl) (by kernel_rfl) (by kernel_rfl) (fun _ _ _ h => h) (Or.inl ⟨by rfl, ?_⟩) (by assumption) ?_
      rotate_left
      · intro w hSw
        try dsimp only at hSw
        go_simp
        try with_reducible rfl
      (try simp only [List.getElem_toArray]); (try simp only [List.getElem_cons_succ]); (try simp only [List.getElem_cons_zero]); (try simp only [Act.put]); (try simp only [List.setIfInBounds_toArray]); (try simp only [List.set_cons_succ]); (try simp only [List.set_cons_zero])
      refine wpAnyH_ready (rs := [18]) (by kernel_rfl) (by simp) ?_
      refine AllReadyH.cons rfl (fun K hK => ?_) AllReadyH.nil
      go_simp
      refine (demand_no _ _).mono ?_
      rintro e4 W4 ⟨rfl, rfl⟩
      exact ⟨rfl, rfl, Kp.of (H2.out.1.trans ((Below.refl _ W2).drew.mono H2.out.1.size))⟩
end Go.Proofs.YtganmmkdcaphfaaGreatDoor.Rd
