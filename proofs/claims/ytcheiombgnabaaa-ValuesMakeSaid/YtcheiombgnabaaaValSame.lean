/-
  Contract of the page's Same, at two values that read as one tree: true; all older memory lies as it lay.
-/
import Derived.Test.YtcheiombgnabaaaValTree
import Derived.Deep.QuietTactic
import Derived.BigQuiet
import Derived.StillTailTactics
import Derived.WalkSmall
namespace Go.Proofs.Ytcheiombgnabaaa.Val
open Go.RowKit Go.Proofs.Ytcheiombgnabaaa.Oct

theorem Holds.cases {C : Cond} {w : World} {v : Value} {k n : Int} {s : ByteArray} {l : List V} {ks : List ByteArray} (h : Holds C w v (.mk k n s l ks)) :
    ∃ (p : Option Addr) (cap : Nat) (K : Value) (b off : Nat) (c : Nat → Nat → Value), v = .agg #[.int .i64 k, .int .i64 n, .string s, .slice p l.length cap, K] ∧
      (0 < l.length → p = some ⟨b, off, none⟩ ∧ C false b off l.length) ∧ (∀ i j, i < l.length → j < 5 → w.cell? ⟨b, off + (i * 5 + j), none⟩ = some (c i j)) ∧ Texts C w K ks ∧
      ∀ i (h : i < l.length), Holds C w (.agg #[c i 0, c i 1, c i 2, c i 3, c i 4]) l[i] := by
  cases h with
  | mk _ _ _ p cap K _ _ b off c hr hp hc hK hl => exact ⟨p, cap, K, b, off, c, rfl, hp, hc, hK, hl⟩

set_option maxHeartbeats 2000000 in
set_option maxRecDepth 100000 in
theorem same_c (N : Nat) (w : World) {a : Value} {x : V} (ha : Holds (Old N) w a x) : ∀ (b : Value) (_ : Holds (Old N) w b x) (W : World), N ≤ W.heap.size → Below N w W →
    Calls Try.prog 13 #[a, b] W fun e W' => e = .returned (.bool true) ∧ Below W.heap.size W W' := by
  induction ha with
  | mk k n s p cap K l ks bl off c hr hp hc hK hl ih =>
    intro v hv W hN hW
    obtain ⟨p', cap', K', bl', off', c', rfl, hp', hc', hK', hl'⟩ := hv.cases
    obtain ⟨q, qc, qb, qo, rfl, ⟨hq1, -⟩, hq2, hq3⟩ := hK
    obtain ⟨q', qc', qb', qo', rfl, ⟨hq1', -⟩, hq2', hq3'⟩ := hK'
    have es : (s.toList == s.toList) = true := by simp
    go_enter Try.func13, Try.ntmps13
    go_wp2_with fail
    generalize hW2 : ((W.alloc (.cells #[.int .i64 k, .int .i64 n, .string s, .slice p l.length cap, .slice q ks.length qc] 25)).alloc (.cells #[.int .i64 k, .int .i64 n, .string s, .slice p' l.length cap', .slice q' ks.length qc'] 25)) = W2
    have B2 : Below W.heap.size W W2 := by rw [← hW2]; exact ((Below.refl _ W).alloc (Nat.le_refl _) _).alloc (by simp) _
    have Z2 : W2.heap.size = W.heap.size + 2 := by rw [← hW2]; simp
    have A3 : W2.cell? ⟨W.heap.size, 3, none⟩ = some (.slice p l.length cap) := by rw [← hW2]; simp
    have A4 : W2.cell? ⟨W.heap.size, 4, none⟩ = some (.slice q ks.length qc) := by rw [← hW2]; simp
    have A3' : W2.cell? ⟨W.heap.size + 1, 3, none⟩ = some (.slice p' l.length cap') := by rw [← hW2]; simp
    have A4' : W2.cell? ⟨W.heap.size + 1, 4, none⟩ = some (.slice q' ks.length qc') := by rw [← hW2]; simp
    have HF := Lib.hid (And.intro B2 (And.intro Z2 (And.intro A3 (And.intro A4 (And.intro A3' A4')))))
    clear hW2 B2 Z2 A3 A4 A3' A4'
    have HG := Lib.hid (And.intro hN hW)
    have HKS := Lib.hid (And.intro hq2 (And.intro hq3 (And.intro hq2' hq3')))
    have HLS := Lib.hid (And.intro hp (And.intro hc (And.intro hl (And.intro hp' (And.intro hc' hl')))))
    have HIH := Lib.hid ih
    clear hN hW hq2 hq3 hq2' hq3' hp hc hl hp' hc' hl' ih hv
    obtain ⟨hr1, hr2, hr3, hr4, hr5, hr6⟩ := hr
    go_loopw [5] (fun i wr => ∃ j : Nat, j ≤ ks.length ∧ i = .int .i64 j ∧ Hid (Below W2.heap.size W2 wr)) (fun i _ => ks.length - (intOf i).toNat)
    case atStart => exact ⟨0, Nat.zero_le _, rfl, Below.refl _ _⟩
    case round =>
      obtain ⟨j, hj, rfl, hwr⟩ := hrel
      have Z2 := HF.out.2.1
      have C4 : wr.cell? ⟨W.heap.size, 4, none⟩ = some (.slice q ks.length qc) := by rw [hwr.out.cell (by show W.heap.size < _; omega)]; exact HF.out.2.2.2.1
      have C4' : wr.cell? ⟨W.heap.size + 1, 4, none⟩ = some (.slice q' ks.length qc') := by rw [hwr.out.cell (by show W.heap.size + 1 < _; omega)]; exact HF.out.2.2.2.2.2
      clear Z2
      by_cases hlt : j < ks.length
      · obtain ⟨⟨rfl, hx⟩, hk1, ⟨⟨rfl, hx'⟩, hk2⟩⟩ : (q = some ⟨qb, qo, none⟩ ∧ qb < N) ∧ wr.cell? ⟨qb, qo + j, none⟩ = some (.string ks[j]) ∧ (q' = some ⟨qb', qo', none⟩ ∧ qb' < N) ∧ wr.cell? ⟨qb', qo' + j, none⟩ = some (.string ks[j]) := by
          have n0 : 0 < ks.length := by omega
          have g := fun (b o : Nat) (hb : b < N) => (hwr.out.cell (p := ⟨b, o, none⟩) (show b < _ by have := HG.out.1; have := HF.out.1.size; omega)).trans ((HF.out.1.cell (p := ⟨b, o, none⟩) (show b < _ by have := HG.out.1; omega)).trans (HG.out.2.cell (p := ⟨b, o, none⟩) (show b < _ from hb)))
          refine ⟨HKS.out.1 n0, ?_, HKS.out.2.2.1 n0, ?_⟩
          · rw [g _ _ (HKS.out.1 n0).2]; exact HKS.out.2.1 j hlt
          · rw [g _ _ (HKS.out.2.2.1 n0).2]; exact HKS.out.2.2.2 j hlt
        have es2 : (ks[j].toList == ks[j].toList) = true := by simp
        generalize ks[j] = key at hk1 hk2 es2
        have h1 : (0 : Int) ≤ (j : Int) := by omega
        have h2 : (j : Int) < (ks.length : Int) := by omega
        go_wp2_with fail
        go_quiet (fail)
        go_wp2_with fail
        go_roundw
        case rel => exact ⟨j + 1, by omega, by go_num, below_drewN hwr.out _⟩
        case measure => simp [intOf]; omega
      · go_wp2_with fail
        clear C4 C4'
        go_loopw [6] (fun i wr => ∃ j : Nat, j ≤ l.length ∧ i = .int .i64 j ∧ Hid (Below W2.heap.size W2 wr)) (fun i _ => l.length - (intOf i).toNat)
        case atStart => exact ⟨0, Nat.zero_le _, rfl, hwr⟩
        case round =>
          clear hwr
          obtain ⟨m, hm, rfl, hwr2⟩ := hrel
          have Z2 := HF.out.2.1
          have C3 : wr.cell? ⟨W.heap.size, 3, none⟩ = some (.slice p l.length cap) := by rw [hwr2.out.cell (by show W.heap.size < _; omega)]; exact HF.out.2.2.1
          have C3' : wr.cell? ⟨W.heap.size + 1, 3, none⟩ = some (.slice p' l.length cap') := by rw [hwr2.out.cell (by show W.heap.size + 1 < _; omega)]; exact HF.out.2.2.2.2.1
          clear Z2
          by_cases hlm : m < l.length
          · have n0 : 0 < l.length := by omega
            obtain ⟨rfl, hbN⟩ := HLS.out.1 n0
            obtain ⟨rfl, hbN'⟩ := HLS.out.2.2.2.1 n0
            have g := fun (b o : Nat) (hb : b < N) => (hwr2.out.cell (p := ⟨b, o, none⟩) (show b < _ by have := HG.out.1; have := HF.out.1.size; omega)).trans ((HF.out.1.cell (p := ⟨b, o, none⟩) (show b < _ by have := HG.out.1; omega)).trans (HG.out.2.cell (p := ⟨b, o, none⟩) (show b < _ from hb)))
            have hcs : ∀ j, j < 5 → wr.cell? ⟨bl, off + (m * 5 + j), none⟩ = some (c m j) := fun j hj => by rw [g _ _ hbN]; exact HLS.out.2.1 m j hlm hj
            have hcs' : ∀ j, j < 5 → wr.cell? ⟨bl', off' + (m * 5 + j), none⟩ = some (c' m j) := fun j hj => by rw [g _ _ hbN']; exact HLS.out.2.2.2.2.1 m j hlm hj
            have e0 : wr.cell? ⟨bl, off + m * 5, none⟩ = some (c m 0) := hcs 0 (by omega)
            have e1 : wr.cell? ⟨bl, off + m * 5 + 1, none⟩ = some (c m 1) := hcs 1 (by omega)
            have e2 : wr.cell? ⟨bl, off + m * 5 + 2, none⟩ = some (c m 2) := hcs 2 (by omega)
            have e3 : wr.cell? ⟨bl, off + m * 5 + 3, none⟩ = some (c m 3) := hcs 3 (by omega)
            have e4 : wr.cell? ⟨bl, off + m * 5 + 4, none⟩ = some (c m 4) := hcs 4 (by omega)
            have f0 : wr.cell? ⟨bl', off' + m * 5, none⟩ = some (c' m 0) := hcs' 0 (by omega)
            have f1 : wr.cell? ⟨bl', off' + m * 5 + 1, none⟩ = some (c' m 1) := hcs' 1 (by omega)
            have f2 : wr.cell? ⟨bl', off' + m * 5 + 2, none⟩ = some (c' m 2) := hcs' 2 (by omega)
            have f3 : wr.cell? ⟨bl', off' + m * 5 + 3, none⟩ = some (c' m 3) := hcs' 3 (by omega)
            have f4 : wr.cell? ⟨bl', off' + m * 5 + 4, none⟩ = some (c' m 4) := hcs' 4 (by omega)
            have hcall : ∀ W', Below wr.heap.size wr W' → Calls Try.prog 13 #[.agg #[c m 0, c m 1, c m 2, c m 3, c m 4], .agg #[c' m 0, c' m 1, c' m 2, c' m 3, c' m 4]] W' fun e W'' => e = .returned (.bool true) ∧ Below W'.heap.size W' W'' := fun W' hb' =>
              HIH.out m hlm _ (HLS.out.2.2.2.2.2 m hlm) W' (by have := HG.out.1; have := HF.out.1.size; have := hwr2.out.size; have := hb'.size; omega)
                (HG.out.2.trans ((HF.out.1.mono HG.out.1).trans ((hwr2.out.mono (by have := HG.out.1; have := HF.out.1.size; omega)).trans (hb'.mono (by have := HG.out.1; have := HF.out.1.size; have := hwr2.out.size; omega)))))
            clear hcs hcs' g
            have h1 : (0 : Int) ≤ (m : Int) := by omega
            have h2 : (m : Int) < (l.length : Int) := by omega
            go_wp2_with fail
            go_still_tail 10, (by kernel_rfl)
            change wpList _ _ _ _ _ wr.drew
            have hdr : Below wr.heap.size wr wr.drew := (Below.refl _ wr).drew
            have hsd : wr.drew.heap.size = wr.heap.size := rfl
            have hc2 := hcall wr.drew hdr
            rw [hsd] at hc2
            generalize wr.drew = wd at hdr hc2
            clear hcall hsd
            go_wp2_with fail
            refine hc2.mono ?_
            rintro e w' ⟨rfl, hb'⟩
            clear hc2 e0 e1 e2 e3 e4 f0 f1 f2 f3 f4 C3 C3'
            have HN : Hid (Below W2.heap.size W2 w') := hwr2.out.trans ((hdr.mono hwr2.out.size).trans (hb'.mono hwr2.out.size))
            clear hb' hdr
            go_wp2_with fail
            go_roundw
            case rel => exact ⟨m + 1, by omega, by go_num, HN⟩
            case measure => simp [intOf]; omega
          · go_wp2_with fail
            go_ret
            exact ⟨rfl, HF.out.1.trans (hwr2.out.mono HF.out.1.size)⟩
end Go.Proofs.Ytcheiombgnabaaa.Val
