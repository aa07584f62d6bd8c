/-
  Contracts of values.cloned, at texts and at values, and of values.Clone: a value in memory of its own, which reads as the same tree.
-/
import Derived.Test.YtcheiombgnabaaaValOwn
import Derived.Test.YtcheiombgnabaaaShelf
import Derived.Deep.RegionHeld3
namespace Go.Proofs.Ytcheiombgnabaaa.Val
open Go.RowKit Go.Proofs.Ytcheiombgnabaaa.Oct

theorem enter_sclone : ∀ args w, (callFunc 23 args).run Try.prog w = .ok (.enter 23 args) w := enters_of Try.func23 (by kernel_rfl) rfl
theorem enter_lclone : ∀ args w, (callFunc 35 args).run Try.prog w = .ok (.enter 35 args) w := enters_of Try.func35 (by kernel_rfl) rfl
theorem enter_vclone : ∀ args w, (callFunc 7 args).run Try.prog w = .ok (.enter 7 args) w := enters_of Try.func7 (by kernel_rfl) rfl

/-- A slice held against nil. -/
theorem eql_nil {t e : TypeId} (w : World) (a : Option Addr) (l c : Nat) (h : Try.prog.underlying t = some (.slice e)) : (binOp .eql t (.slice a l c) (.slice none 0 0)).run Try.prog w = .ok (.bool a.isNone) w := by
  have hd : ∀ d : Nat, (Op.equalIn (d + 1) t (.slice a l c) (.slice none 0 0)).run Try.prog w = .ok a.isNone w := fun d => by
    cases a <;> simp [Op.equalIn, run_underlying h]
  simp only [binOp]
  simp [Op.equal, Op.maxDepth, hd 9999]

theorem sclone_c (s : ByteArray) (w : World) (hs : s.size ≤ 140737488351232) :
    Calls Try.prog 23 #[.string s] w fun e w' => e = .returned (.string s) ∧ Below w.heap.size w w' := by
  have e35 := enter_lclone
  go_enter Try.func23, Try.ntmps23
  go_wp2_with (go_at_fn 35; refine (Try.stringslite_Clone s _ (by omega)).mono ?_; rintro e w1 ⟨rfl, hb⟩)
  go_ret
  exact ⟨rfl, hb⟩

/-- The cells behind k rounds. -/
def textsAt (ks : List ByteArray) (k : Nat) : List Value := (ks.take k).map Value.string ++ List.replicate (ks.length - k) (Value.string ⟨#[]⟩)
theorem textsAt_zero (ks : List ByteArray) : textsAt ks 0 = List.replicate ks.length (Value.string ⟨#[]⟩) := by simp [textsAt]
theorem textsAt_succ (ks : List ByteArray) (k : Nat) (h : k < ks.length) : (textsAt ks k).set k (Value.string ks[k]) = textsAt ks (k + 1) := by
  unfold textsAt
  have e : ks.length - k = (ks.length - (k + 1)) + 1 := by omega
  rw [e, List.replicate_succ, List.set_append_right _ _ (by simp; omega)]
  have e2 : k - ((ks.take k).map Value.string).length = 0 := by simp; omega
  rw [e2, List.set_cons_zero, List.take_succ_eq_append_getElem h, List.map_append, List.map_singleton, List.append_assoc, List.singleton_append]
theorem textsAt_at (ks : List ByteArray) (k : Nat) (h : k < ks.length) : (textsAt ks k)[k]? = some (Value.string ⟨#[]⟩) := by
  unfold textsAt
  rw [List.getElem?_append_right (by simp; omega), List.getElem?_replicate, if_pos (by simp; omega)]
theorem textsAt_full (ks : List ByteArray) (j : Nat) (h : j < ks.length) : (textsAt ks ks.length)[j]? = some (Value.string ks[j]) := by
  simp [textsAt, h]

set_option maxHeartbeats 2000000 in
theorem clonedTexts_c (ks : List ByteArray) (q : Option Addr) (qc qb qo : Nat) (w : World) (hq1 : ks.length * 16 ≤ 140737488351232 ∧ ∀ s ∈ ks, s.size ≤ 140737488351232)
    (hq2 : 0 < ks.length → q = some ⟨qb, qo, none⟩ ∧ qb < w.heap.size) (hq3 : ∀ i (h : i < ks.length), w.cell? ⟨qb, qo + i, none⟩ = some (.string ks[i])) :
    Calls Try.prog 25 #[.slice q ks.length qc, .func (.func 23) #[] #[]] w fun e w' => ∃ v, e = .returned v ∧ Texts (Mine w.heap.size w') w' v ks ∧ Below w.heap.size w w' := by
  cases q with
  | none =>
    have h0 : ks = [] := by
      cases ks with
      | nil => rfl
      | cons a t => have := (hq2 (by simp)).1; cases this
    subst h0
    clear hq1 hq2 hq3
    have hnil := eql_nil w none 0 qc Try.underlying23
    go_enter Try.func25, Try.ntmps25
    go_wp2
    go_ret
    exact ⟨_, rfl, ⟨none, 0, 0, 0, rfl, by simp, fun h => absurd h (by simp), fun i h => absurd h (by simp)⟩, Below.refl _ _⟩
  | some a =>
    obtain ⟨i0, hi, hz0, hz1, hz2⟩ := info_parts info_text
    have e23 := enter_sclone
    have hb1 : ks.length * 16 ≤ 140737488351232 := hq1.1
    have HQ := Lib.hid (And.intro hq1 (And.intro hq2 hq3))
    clear hq1 hq2 hq3
    obtain ⟨n, hn⟩ : ∃ n, ks.length = n := ⟨_, rfl⟩
    rw [hn] at hb1 ⊢
    have hnil := eql_nil w (some a) n qc Try.underlying23
    go_enter Try.func25, Try.ntmps25
    go_wp2_with (at_make; refine wpList_make_full _ rfl _ _ 23 rfl w.heap.size 9 i0 (.string ⟨#[]⟩) 1 Try.underlying23 hi hz0 hz1 .i64 .i64 (n : Int) (n : Int) n rfl rfl rfl rfl (by rw [hz2]; omega) (by unfold maxLen; omega) (Nat.le_refl _) ?_; intro w1 hown hgrow)
    have H1 := Lib.hid (And.intro hown hgrow)
    clear hown hgrow
    go_loopw [6, 7, 15] (fun _ _ i wr => ∃ k : Nat, k ≤ n ∧ i = .int .i64 k ∧ Hid (wr.ownsRow w.heap.size 9 1 (.slice (some ⟨w.heap.size, 0, none⟩) n n) n (textsAt ks k)) ∧ Hid (Below w.heap.size w wr)) (fun _ _ i _ => n - (intOf i).toNat)
    case atStart =>
      obtain ⟨hown, hgrow⟩ := H1.out
      refine ⟨0, Nat.zero_le _, rfl, ?_, ?_⟩
      · rw [textsAt_zero, hn, ← toList_madeCells_one]
        have h : w1.ownsRow w.heap.size 9 1 (.slice (some ⟨w.heap.size, 0, none⟩) n n) n (madeCells #[Value.string ⟨#[]⟩] n).toList := by simpa [Value.cells] using hown
        exact h
      · exact (Below.refl _ w).grown hgrow (Nat.le_refl _) (fun k hk => by cases hk)
    case round =>
      obtain ⟨k, hk, rfl, hrow, hbel⟩ := hrel
      clear H1
      by_cases hlt : k < n
      · obtain ⟨hs1, hs2, hs3⟩ := HQ.out
        obtain ⟨ha, hqb⟩ := hs2 (by omega)
        cases ha
        have hcx : wr.cell? ⟨qb, qo + k, none⟩ = some (.string (ks[k]'(by omega))) := by rw [hbel.out.cell (p := ⟨qb, qo + k, none⟩) hqb]; exact hs3 k (by omega)
        have hcall := sclone_c (ks[k]'(by omega)) wr (hs1.2 _ (List.getElem_mem _))
        have hst : ∀ w2, Below wr.heap.size wr w2 → w2.cell? ⟨w.heap.size, k, none⟩ = some (.string ⟨#[]⟩) ∧ w2.frozen? ⟨w.heap.size, k, none⟩ = false := fun w2 h2 => by
          have h3 := own_kept hrow.out h2
          exact ⟨(h3.cellAt k (by omega)).trans (textsAt_at ks k (by omega)), h3.frozenAt k⟩
        have HST := Lib.hid hst
        obtain ⟨t, ht⟩ : ∃ t, ks[k]'(by omega) = t := ⟨_, rfl⟩
        rw [ht] at hcx hcall
        have h1 : (0 : Int) ≤ (k : Int) := by omega
        have h2 : (k : Int) < (n : Int) := by omega
        clear hst hs1 hs2 hs3
        go_wp2_with (go_at_fn 23; refine hcall.mono ?_; rintro e w2 ⟨rfl, hb2⟩; obtain ⟨x1, x2⟩ := HST.out w2 hb2)
        go_roundw
        case rel =>
          have st := (own_kept hrow.out hb2).stored k (Value.string t)
          refine ⟨k + 1, by omega, by go_num, ?_, ?_⟩
          · rw [← textsAt_succ ks k (by omega), ht]; exact st.1
          · exact (hbel.out.trans (hb2.mono (by have := hbel.out.size; omega))).setCell (by simp) _
        case measure => simp [intOf]; omega
      · have hkn : k = n := by omega
        subst hkn
        go_wp2
        go_ret
        refine ⟨.slice (some ⟨w.heap.size, 0, none⟩) k k, rfl, ⟨some ⟨w.heap.size, 0, none⟩, k, w.heap.size, 0, by rw [hn], HQ.out.1, fun _ => ⟨rfl, Nat.le_refl _, rfl, ?_⟩, fun i hi => ?_⟩, hbel.out⟩
        · rcases hrow.out.2 with ⟨h, _⟩ | ⟨g2, cap2, cur, hv, hb2, hh, _⟩
          · cases h
          · have e1 : g2 = w.heap.size := by simp at hv; omega
            subst e1
            exact ⟨cur, hh⟩
        · have h1 := hrow.out.cellAt i (by omega)
          rw [← hn, textsAt_full ks i hi] at h1
          rw [Nat.zero_add]
          exact h1
end Go.Proofs.Ytcheiombgnabaaa.Val
