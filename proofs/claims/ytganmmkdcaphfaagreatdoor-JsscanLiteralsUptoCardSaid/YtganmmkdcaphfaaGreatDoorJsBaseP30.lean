/-
  Part 30: LitCheck, LitCheck2, LitCheck3.
-/
import Derived.Test.YtganmmkdcaphfaaGreatDoorJsBaseP29
import Derived.Deep.QuietTactic
import Derived.BigQuiet
import Derived.Laws.Cover1
/-
  Contract of the page's Rising, as far as it is wanted: it answers, and changes nothing older.
-/
namespace Go.Proofs.YtganmmkdcaphfaaGreatDoor.Lit
open Go.RowKit Go.Proofs.YtganmmkdcaphfaaGreatDoor.Oct Go.Proofs.YtganmmkdcaphfaaGreatDoor.Num Go.Proofs.YtganmmkdcaphfaaGreatDoor.Utf Go.Proofs.YtganmmkdcaphfaaGreatDoor.Val Go.Proofs.YtganmmkdcaphfaaGreatDoor.Mem

theorem quiet_same' {P : Program} {f : FuncId} {args : Array Value} {w : World} {n : Nat} {v : Value}
    (h : Calls P f args (w.drewN n) fun e w' => e = .returned v ∧ w.drewN n = w') : Calls P f args (w.drewN n) fun e w'' => e = .returned v ∧ ∃ m, w'' = w.drewN m :=
  h.mono fun _ _ ⟨he, hm⟩ => ⟨he, n, hm.symm⟩

set_option maxHeartbeats 4000000 in
set_option maxRecDepth 100000 in
theorem rising_c (ks : List ByteArray) (q : Option Addr) (qc qb qo : Nat) (W : World) (hq1 : ks.length * 16 ≤ 140737488351232 ∧ ∀ s ∈ ks, s.size ≤ 140737488351232)
    (hq2 : 0 < ks.length → q = some ⟨qb, qo, none⟩ ∧ qb < W.heap.size) (hq3 : ∀ i (h : i < ks.length), W.cell? ⟨qb, qo + i, none⟩ = some (.string ks[i])) :
    Calls Tryz.prog 25 #[.slice q ks.length qc] W fun e w' => ∃ b, e = .returned (.bool b) ∧ Kept W w' := by
  have hn : ks.length * 16 ≤ 140737488351232 := hq1.1
  have HC : Hid (∀ X, Kept W X → ∀ i (h : i < ks.length), X.cell? ⟨qb, qo + i, none⟩ = some (.string ks[i])) := fun X hX i h => (hX.cell (p := ⟨qb, qo + i, none⟩) (hq2 (by omega)).2).trans (hq3 i h)
  have HQ := Lib.hid hq2
  have HS := Lib.hid hq1.2
  clear hq1 hq2 hq3
  go_enter Tryz.func25, Tryz.ntmps25
  go_wp2_with fail
  go_loopw [3] (fun i wr => ∃ j : Nat, j ≤ ks.length ∧ i = .int .i64 j ∧ Hid (Kept W wr)) (fun i _ => ks.length - (intOf i).toNat)
  case atStart => exact ⟨0, Nat.zero_le _, rfl, Below.refl _ _⟩
  case round =>
    obtain ⟨j, hj, rfl, hb⟩ := hrel
    by_cases hlt : j < ks.length
    · obtain ⟨rfl, -⟩ := HQ.out (by omega)
      have e0 := HC.out wr hb.out j hlt
      have hnm : ∀ n, Calls Tryz.prog 43 #[.string ks[j]] (wr.drewN n) fun e w' => e = .returned (.bool (nameB ks[j].data.toList)) ∧ wr.drewN n = w' := fun n => rname_c ks[j] _ (by have := HS.out ks[j] (List.getElem_mem _); omega)
      have h1 : (0 : Int) ≤ (j : Int) := by omega
      have h2 : (j : Int) < (ks.length : Int) := by omega
      cases hq : nameB ks[j].data.toList with
      | false =>
        simp only [hq] at hnm
        clear hq
        generalize ks[j] = key at e0 hnm
        go_wp2_with fail
        go_quiet ((go_at_call 43; exact quiet_same' (hnm _)))
        rename_i nq _
        go_wp2
        go_ret
        exact ⟨_, rfl, Go.Proofs.YtganmmkdcaphfaaGreatDoor.Utf.below_drewN hb.out _⟩
      | true =>
        simp only [hq] at hnm
        clear hq
        by_cases hj0 : j = 0
        · subst hj0
          have d0 : decide ((0 : Int) < ((0 : Nat) : Int)) = false := by decide
          rw [Nat.add_zero] at e0
          generalize ks[0] = key at e0 hnm
          go_wp2_with fail
          go_quiet ((go_at_call 43; exact quiet_same' (hnm _)))
          rename_i nq _
          go_wp2
          go_roundw
          case rel => exact ⟨0 + 1, by omega, by go_num, Go.Proofs.YtganmmkdcaphfaaGreatDoor.Utf.below_drewN hb.out _⟩
          case measure => simp [intOf]; omega
        · obtain ⟨m, rfl⟩ : ∃ m, j = m + 1 := ⟨j - 1, by omega⟩
          have e1 := HC.out wr hb.out m (by omega)
          have h3 : (m : Int) < (ks.length : Int) := by omega
          have h4 : (0 : Int) ≤ (m : Int) := by omega
          have h5 : (m : Int) + 1 < (ks.length : Int) := by omega
          have h6 : (0 : Int) ≤ (m : Int) + 1 := by omega
          obtain ⟨key, hkey⟩ : ∃ key, ks[m + 1]'hlt = key := ⟨_, rfl⟩
          obtain ⟨prev, hprev⟩ : ∃ prev, ks[m]'(by omega) = prev := ⟨_, rfl⟩
          rw [hkey] at e0 hnm
          rw [hprev] at e1
          have hw : IntKind.i64.wrap (m : Int) = (m : Int) := by rw [IntKind.wrap_i64]; omega
          clear hkey hprev h1 h2
          go_wp2_with fail
          go_quiet ((go_at_call 43; exact quiet_same' (hnm _)))
          rename_i nq _
          go_wp2
          · go_ret
            exact ⟨_, rfl, Go.Proofs.YtganmmkdcaphfaaGreatDoor.Utf.below_drewN hb.out _⟩
          · exact ⟨⟨m + 1 + 1, by omega, by go_num, Go.Proofs.YtganmmkdcaphfaaGreatDoor.Utf.below_drewN hb.out _⟩, by simp [intOf]; omega⟩
    · go_wp2
      go_ret
      exact ⟨_, rfl, hb.out⟩
end Go.Proofs.YtganmmkdcaphfaaGreatDoor.Lit

/-
  Contract of the page's check at what is neither a list nor a record, as far as it is wanted.
-/
namespace Go.Proofs.YtganmmkdcaphfaaGreatDoor.Lit
open Go.RowKit Go.Proofs.YtganmmkdcaphfaaGreatDoor.Oct Go.Proofs.YtganmmkdcaphfaaGreatDoor.Num Go.Proofs.YtganmmkdcaphfaaGreatDoor.Utf Go.Proofs.YtganmmkdcaphfaaGreatDoor.Val Go.Proofs.YtganmmkdcaphfaaGreatDoor.Mem

/-- What is wanted of a value that may be: lists and records stand at most 16 deep, texts and lists are not too long. -/
inductive Good : Nat → V → Prop where
  | mk (d : Nat) (k n : Int) (s : ByteArray) (l : List V) (ks : List ByteArray) (hk : 0 ≤ k ∧ k ≤ 11) (hd : k = 5 ∨ k = 6 → d < 16) (hs : s.size ≤ 4096) (hl : l.length ≤ 1024) (hks : ks.length ≤ 1024) (hn : ¬ (k = 5 ∨ k = 6) → l = [])
      (hall : ∀ i (h : i < l.length), Good (d + 1) l[i]) : Good d (.mk k n s l ks)

/-- What check leaves. -/
def Checks (d : Nat) (x : V) (W : World) (e : Ending) (W' : World) : Prop := ∃ r : Int, e = .returned (.int .i64 r) ∧ (r = 0 → Good d x) ∧ Kept W W'

set_option maxHeartbeats 16000000 in
set_option maxRecDepth 100000 in
theorem check_bare (k n : Int) (s : ByteArray) (p : Option Addr) (cap : Nat) (q : Option Addr) (qc : Nat) (l : List V) (ks : List ByteArray) (d : Nat) (W : World) (hl80 : l.length * 80 ≤ 140737488351232) (hk16 : ks.length * 16 ≤ 140737488351232) (hs47 : s.size ≤ 140737488351232)
    (hk : k = 0 ∨ k = 1 ∨ k = 2 ∨ k = 3) :
    Calls Tryz.prog 13 #[.agg #[.int .i64 k, .int .i64 n, .string s, .slice p l.length cap, .slice q ks.length qc], .int .i64 (d : Int)] W (Checks d (.mk k n s l ks) W) := by
  have HB0 := Lib.hid (fun o => (Below.refl W.heap.size W).alloc (Nat.le_refl _) o)
  cases l with
  | nil =>
    have HG : Hid (s.size ≤ 4096 → ks.length ≤ 1024 → Good d (.mk k n s [] ks)) := fun h1 h3 =>
      .mk d k n s [] ks (by omega) (fun h => by omega) h1 (by simp) h3 (fun _ => rfl) (fun i h => absurd h (by simp))
    rcases hk with rfl | rfl | rfl | rfl
    all_goals
      go_enter Tryz.func13, Tryz.ntmps13
      go_wp2
      all_goals first
        | (go_ret; exact ⟨_, rfl, fun h => absurd h (by decide), HB0.out _⟩)
        | skip
      all_goals
        have h1 : s.size ≤ 4096 := by omega
        have h2 : ks.length ≤ 1024 := by omega
        have G := Lib.hid (HG.out h1 h2)
        go_loopw [7, 8] (fun i _ wr => ∃ c0 c1 c2 c4 : Value, i = .int .i64 0 ∧ wr = W.alloc (.cells #[c0, c1, c2, .slice p 0 cap, c4] 25)) (fun _ _ _ => 0)
        case atStart => exact ⟨_, _, _, _, rfl, rfl⟩
        case round =>
          obtain ⟨c0, c1, c2, c4, rfl, rfl⟩ := hrel
          go_wp2
          go_ret
          exact ⟨0, rfl, fun _ => G.out, HB0.out _⟩
  | cons x l =>
    rw [List.length_cons] at hl80 ⊢
    rcases hk with rfl | rfl | rfl | rfl
    all_goals
      go_enter Tryz.func13, Tryz.ntmps13
      go_wp2
      all_goals (go_ret; exact ⟨_, rfl, fun h => absurd h (by decide), HB0.out _⟩)

set_option maxHeartbeats 16000000 in
set_option maxRecDepth 100000 in
theorem check_text (k n : Int) (s : ByteArray) (p : Option Addr) (cap : Nat) (q : Option Addr) (qc : Nat) (l : List V) (ks : List ByteArray) (d : Nat) (W : World) (hl80 : l.length * 80 ≤ 140737488351232) (hk16 : ks.length * 16 ≤ 140737488351232) (hs47 : s.size ≤ 140737488351232)
    (hk : k = 4 ∨ k = 7 ∨ k = 8 ∨ k = 9 ∨ k = 10 ∨ k = 11) :
    Calls Tryz.prog 13 #[.agg #[.int .i64 k, .int .i64 n, .string s, .slice p l.length cap, .slice q ks.length qc], .int .i64 (d : Int)] W (Checks d (.mk k n s l ks) W) := by
  have HB0 := Lib.hid (fun o => (Below.refl W.heap.size W).alloc (Nat.le_refl _) o)
  cases l with
  | nil =>
    have HG : Hid (s.size ≤ 4096 → ks.length ≤ 1024 → Good d (.mk k n s [] ks)) := fun h1 h3 =>
      .mk d k n s [] ks (by omega) (fun h => by omega) h1 (by simp) h3 (fun _ => rfl) (fun i h => absurd h (by simp))
    rcases hk with rfl | rfl | rfl | rfl | rfl | rfl
    all_goals
      go_enter Tryz.func13, Tryz.ntmps13
      go_wp2
      all_goals first
        | (go_ret; exact ⟨_, rfl, fun h => absurd h (by decide), HB0.out _⟩)
        | skip
      all_goals
        have h1 : s.size ≤ 4096 := by omega
        have h2 : ks.length ≤ 1024 := by omega
        have G := Lib.hid (HG.out h1 h2)
        go_loopw [7, 8] (fun i _ wr => ∃ c0 c1 c2 c4 : Value, i = .int .i64 0 ∧ wr = W.alloc (.cells #[c0, c1, c2, .slice p 0 cap, c4] 25)) (fun _ _ _ => 0)
        case atStart => exact ⟨_, _, _, _, rfl, rfl⟩
        case round =>
          obtain ⟨c0, c1, c2, c4, rfl, rfl⟩ := hrel
          go_wp2
          go_ret
          exact ⟨0, rfl, fun _ => G.out, HB0.out _⟩
  | cons x l =>
    rw [List.length_cons] at hl80 ⊢
    rcases hk with rfl | rfl | rfl | rfl | rfl | rfl
    all_goals
      go_enter Tryz.func13, Tryz.ntmps13
      go_wp2
      all_goals (go_ret; exact ⟨_, rfl, fun h => absurd h (by decide), HB0.out _⟩)

end Go.Proofs.YtganmmkdcaphfaaGreatDoor.Lit

/-
  Contract of the page's check at a Kind that is none, as far as it is wanted.
-/
namespace Go.Proofs.YtganmmkdcaphfaaGreatDoor.Lit
open Go.RowKit Go.Proofs.YtganmmkdcaphfaaGreatDoor.Oct Go.Proofs.YtganmmkdcaphfaaGreatDoor.Num Go.Proofs.YtganmmkdcaphfaaGreatDoor.Utf Go.Proofs.YtganmmkdcaphfaaGreatDoor.Val Go.Proofs.YtganmmkdcaphfaaGreatDoor.Mem

set_option maxHeartbeats 16000000 in
set_option maxRecDepth 100000 in
theorem check_out (k n : Int) (s : ByteArray) (p : Option Addr) (cap : Nat) (q : Option Addr) (qc : Nat) (l : List V) (ks : List ByteArray) (d : Nat) (W : World) (hl80 : l.length * 80 ≤ 140737488351232)
    (hk : k < 0 ∨ 11 < k) :
    Calls Tryz.prog 13 #[.agg #[.int .i64 k, .int .i64 n, .string s, .slice p l.length cap, .slice q ks.length qc], .int .i64 (d : Int)] W (Checks d (.mk k n s l ks) W) := by
  have HB0 := Lib.hid (fun o => (Below.refl W.heap.size W).alloc (Nat.le_refl _) o)
  have d4 : (k == 4) = false := by simp; omega
  have d5 : (k == 5) = false := by simp; omega
  have d6 : (k == 6) = false := by simp; omega
  rcases hk with hk | hk
  · have d7 : decide (7 ≤ k) = false := by simp; omega
    have d0 : decide (k < 0) = true := by simp; omega
    go_enter Tryz.func13, Tryz.ntmps13
    go_wp2
    all_goals (go_ret; exact ⟨_, rfl, fun h => absurd h (by decide), HB0.out _⟩)
  · have d7 : decide (7 ≤ k) = true := by simp; omega
    have d0 : decide (k < 0) = false := by simp; omega
    have d11 : decide (11 < k) = true := by simp; omega
    go_enter Tryz.func13, Tryz.ntmps13
    go_wp2
    all_goals (go_ret; exact ⟨_, rfl, fun h => absurd h (by decide), HB0.out _⟩)

theorem kept_box {W X : World} {c0 c1 c2 c3 c4 : Value} (h : Kept (W.alloc (.cells #[c0, c1, c2, c3, c4] 25)) X) :
    (X.cell? ⟨W.heap.size, 0, none⟩ = some c0 ∧ X.cell? ⟨W.heap.size, 1, none⟩ = some c1 ∧ X.cell? ⟨W.heap.size, 2, none⟩ = some c2 ∧ X.cell? ⟨W.heap.size, 3, none⟩ = some c3 ∧ X.cell? ⟨W.heap.size, 4, none⟩ = some c4) ∧ Kept W X := by
  have e : X.heap[W.heap.size]? = some (.cells #[c0, c1, c2, c3, c4] 25 (0, 0)) := (h.block _ (by simp)).trans (heap_alloc_new W _)
  exact ⟨⟨cell_of_row X _ 0 _ _ _ e, cell_of_row X _ 1 _ _ _ e, cell_of_row X _ 2 _ _ _ e, cell_of_row X _ 3 _ _ _ e, cell_of_row X _ 4 _ _ _ e⟩, ((Below.refl _ W).alloc (Nat.le_refl _) _).trans (h.mono (by simp))⟩
end Go.Proofs.YtganmmkdcaphfaaGreatDoor.Lit
