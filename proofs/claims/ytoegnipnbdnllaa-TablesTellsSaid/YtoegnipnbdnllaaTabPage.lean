/-
  Contracts of the page's Elements, Element, Attribute and Void.
-/
import Derived.Test.YtoegnipnbdnllaaTabPure
import Derived.Test.YtoegnipnbdnllaaProg
import Derived.Lib.Hide
import Derived.Deep.QuietTactic
import Derived.BigQuiet
import Derived.Lib.Strings
namespace Go.Proofs.Ytoegnipnbdnllaa.Tab
open Go.RowKit Go.Proofs.Ytoegnipnbdnllaa.Oct

theorem eqT (a b : List UInt8) : ((S a).toList == (S b).toList) = decide (a = b) := by
  rw [ByteArray.toList_eq, ByteArray.toList_eq, list_S, list_S, Bool.eq_iff_iff]
  simp
theorem eqTL (a b : List UInt8) : ((S a).toList == b) = decide (a = b) := by
  rw [ByteArray.toList_eq, list_S, Bool.eq_iff_iff]
  simp
/-- A list of texts that lies in a block. -/
def Texts (g : Nat) (ls : List (List UInt8)) (w : World) : Prop := ∀ j, (h : j < ls.length) → w.cell? ⟨g, j, none⟩ = some (.string (S ls[j]))

set_option maxHeartbeats 1000000 in
theorem rone_c (ls : List (List UInt8)) (hl : ls.length ≤ 1000) (g cap : Nat) (s : List UInt8) (w : World) (h : Texts g ls w) :
    Calls Try.prog 23 #[.slice (some ⟨g, 0, none⟩) ls.length cap, .string (S s)] w fun e w' => e = .returned (.bool (inL ls s)) ∧ w = w' := by
  have H := Lib.hid h
  clear h
  have HE := Lib.hid (fun a => eqT a s)
  generalize S s = T at HE
  have hli : (ls.length : Int) ≤ 1000 := by omega
  go_enter Try.func23, Try.ntmps23
  go_wp2_with fail
  go_loop [5] (fun i => ∃ k : Nat, k ≤ ls.length ∧ i = .int .i64 k ∧ Hid (∀ j, (h : j < ls.length) → j < k → ls[j] ≠ s)) (fun i => ls.length - (intOf i).toNat)
  case atStart => exact ⟨0, Nat.zero_le _, rfl, fun j _ h => absurd h (by omega)⟩
  case round =>
    obtain ⟨k, hk, rfl, hno⟩ := hrel
    by_cases hlt : k < ls.length
    · have hc := H.out k hlt
      have he := HE.out ls[k]
      have i0 : (0 : Int) ≤ (k : Int) := by omega
      have i1 : (k : Int) < (ls.length : Int) := by omega
      by_cases hq : ls[k] = s
      · have HR : Hid (inL ls s = true) := in_yes hlt hq
        rw [decide_eq_true hq] at he
        clear hq
        generalize S ls[k] = X at hc he
        go_wp2_with fail
        go_ret
        exact ⟨ret_bool HR.out.symm, rfl⟩
      · have HN : Hid (∀ j, (h : j < ls.length) → j < k + 1 → ls[j] ≠ s) := fun j h hj => by
          rcases Nat.lt_or_ge j k with h2 | h2
          · exact hno.out j h h2
          · obtain rfl : j = k := by omega
            exact hq
        rw [decide_eq_false hq] at he
        clear hq
        generalize S ls[k] = X at hc he
        go_wp2_with fail
        go_round
        case rel => exact ⟨k + 1, by omega, by go_num, HN⟩
        case measure => simp [intOf]; omega
    · have HR : Hid (inL ls s = false) := in_no fun j h => hno.out j h (by omega)
      go_wp2_with fail
      go_ret
      exact ⟨ret_bool HR.out.symm, rfl⟩

theorem laid_texts (ls : List (List UInt8)) (w : World) : Texts w.heap.size ls (w.alloc (.cells (ls.map (fun l => Value.string (S l))).toArray 9)) := by
  intro j h
  have hh : (w.alloc (.cells (ls.map (fun l => Value.string (S l))).toArray 9)).heap[w.heap.size]? = some (.cells (ls.map (fun l => Value.string (S l))).toArray 9 (0, 0)) := heap_alloc_new w _
  unfold World.cell?
  rw [hh]
  simp [h]

theorem rElements_c (w : World) :
    Calls Try.prog 14 #[] w fun e w' => e = .returned (.slice (some ⟨w.heap.size, 0, none⟩) 10 10) ∧ Texts w.heap.size elsL w' ∧ Below w.heap.size w w' := by
  go_enter Try.func14, Try.ntmps14
  go_wp2_with fail
  go_ret
  exact ⟨rfl, laid_texts elsL w, (Below.refl _ w).alloc (Nat.le_refl _) _⟩

theorem rVoid_c (s : List UInt8) (w : World) :
    Calls Try.prog 11 #[.string (S s)] w fun e w' => e = .returned (.bool (voidB s)) ∧ Below w.heap.size w w' := by
  have E : Hid (voidB s = inL voidsL s) := rfl
  go_enter Try.func11, Try.ntmps11
  go_wp2_with fail
  refine (rone_c voidsL (by decide) w.heap.size 14 s _ (laid_texts voidsL w)).mono ?_
  rintro e w1 ⟨rfl, rfl⟩
  go_wp2_with fail
  go_ret
  exact ⟨ret_bool E.out.symm, (Below.refl _ w).alloc (Nat.le_refl _) _⟩

set_option maxHeartbeats 1000000 in
theorem rElement_c (s : List UInt8) (w : World) :
    Calls Try.prog 7 #[.string (S s)] w fun e w' => e = .returned (.int .i64 (elemN s : Nat)) ∧ Below w.heap.size w w' := by
  have hel := rElements_c w
  have HE := Lib.hid (fun a => eqT a s)
  have HP : Hid (∀ k, (hk : k < elsL.length) → (∀ j, (h : j < elsL.length) → j < k → elsL[j] ≠ s) → elsL[k] = s → elemN s = codeN k) := fun k hk hn he => by
    unfold elemN
    rw [place_some hk hn he]
  have HQ : Hid ((∀ k, (h : k < elsL.length) → elsL[k] ≠ s) → elemN s = 0) := fun h => by
    unfold elemN
    rw [place_none h]
  generalize elemN s = ans at HP HQ ⊢
  generalize S s = T at HE
  go_enter Try.func7, Try.ntmps7
  go_wp2_with fail
  refine hel.mono ?_
  rintro e w1 ⟨rfl, ht, hb1⟩
  have H := Lib.hid ht
  have HB := Lib.hid hb1
  clear ht hb1 hel
  go_wp2_with fail
  go_loop [4] (fun i => ∃ k : Nat, k ≤ 10 ∧ i = .int .i64 k ∧ Hid (∀ j, (h : j < elsL.length) → j < k → elsL[j] ≠ s)) (fun i => 10 - (intOf i).toNat)
  case atStart => exact ⟨0, Nat.zero_le _, rfl, fun j _ h => absurd h (by omega)⟩
  case round =>
    obtain ⟨k, hk, rfl, hno⟩ := hrel
    by_cases hlt : k < 10
    · have hlt2 : k < elsL.length := hlt
      have hc := H.out k hlt2
      have he := HE.out elsL[k]
      have hp := HP.out k hlt2 hno.out
      have i0 : (0 : Int) ≤ (k : Int) := by omega
      have i1 : (k : Int) < 10 := by omega
      obtain ⟨x, hx⟩ : ∃ x, x = elsL[k] := ⟨_, rfl⟩
      rw [← hx] at hc he hp
      have HX := Lib.hid hx
      clear hx
      by_cases hq : x = s
      · have HR := Lib.hid (hp hq)
        rw [decide_eq_true hq] at he
        clear hq hp
        generalize S x = X at hc he
        go_wp2_with fail
        all_goals go_ret
        all_goals refine ⟨ret_int ?_, HB.out⟩
        all_goals (rw [HR.out]; unfold codeN; repeat' split)
        all_goals omega
      · have HN : Hid (∀ j, (h : j < elsL.length) → j < k + 1 → elsL[j] ≠ s) := fun j h hj => by
          rcases Nat.lt_or_ge j k with h2 | h2
          · exact hno.out j h h2
          · obtain rfl : j = k := by omega
            rw [← HX.out]; exact hq
        rw [decide_eq_false hq] at he
        clear hq hp
        generalize S x = X at hc he
        go_wp2_with fail
        go_round
        case rel => exact ⟨k + 1, by omega, by go_num, HN⟩
        case measure => simp [intOf]; omega
    · have HR := Lib.hid (HQ.out fun j h => hno.out j h (by have : j < 10 := h; omega))
      go_wp2_with fail
      go_ret
      exact ⟨ret_int (by rw [HR.out]; rfl), HB.out⟩

set_option maxHeartbeats 2000000 in
theorem same_texts (ls : List (List UInt8)) (hl : ls.length ≤ 1000) (g g' cap cap' : Nat) (w : World) (h : Texts g ls w) (h' : Texts g' ls w) :
    Calls Try.prog 12 #[.slice (some ⟨g, 0, none⟩) ls.length cap, .slice (some ⟨g', 0, none⟩) ls.length cap'] w fun e w' => e = .returned (.bool true) ∧ Below w.heap.size w w' := by
  have H := Lib.hid h
  have H' := Lib.hid h'
  clear h h'
  obtain ⟨n, hn⟩ : ∃ n, n = ls.length := ⟨_, rfl⟩
  rw [← hn] at hl ⊢
  have HN := Lib.hid hn
  clear hn
  go_enter Try.func12, Try.ntmps12
  go_wp2
  go_loopw [5] (fun i wr => ∃ k : Nat, k ≤ n ∧ i = .int .i64 k ∧ Hid (Below w.heap.size w wr)) (fun i _ => n - (intOf i).toNat)
  case atStart => exact ⟨0, Nat.zero_le _, rfl, Below.refl _ _⟩
  case round =>
    obtain ⟨k, hk, rfl, hb⟩ := hrel
    by_cases hlt : k < n
    · have hlt2 : k < ls.length := by rw [← HN.out]; exact hlt
      have c1 : wr.cell? ⟨g, k, none⟩ = some (.string (S ls[k])) := by rw [hb.out.cell (World.block_lt_of_cell? w _ (H.out k hlt2))]; exact H.out k hlt2
      have c2 : wr.cell? ⟨g', k, none⟩ = some (.string (S ls[k])) := by rw [hb.out.cell (World.block_lt_of_cell? w _ (H'.out k hlt2))]; exact H'.out k hlt2
      generalize S ls[k] = X at c1 c2
      have hx : (X.toList == X.toList) = true := by simp
      have i1 : (0 : Int) ≤ (k : Int) := by omega
      have i2 : (k : Int) < (n : Int) := by omega
      go_wp2
      go_quiet (fail)
      rename_i nq _
      have hb2 := Lib.hid ((⟨hb.out.os, hb.out.tape, hb.out.output, hb.out.size, hb.out.block⟩ : Below w.heap.size w (wr.drewN nq)))
      clear c1 c2
      go_wp2
      go_roundw
      case rel => exact ⟨k + 1, by omega, by go_num, hb2⟩
      case measure => simp [intOf]; omega
    · go_wp2
      go_ret
      exact ⟨rfl, hb.out⟩

/-- Contract of the page's Begins. -/
theorem rpre_c (p l : List UInt8) (w : World) :
    Calls Try.prog 24 #[.string (S p), .string (S l)] w fun e w' => e = .returned (.bool (preL p l)) ∧ w = w' := by
  have z1 : ((S p).size : Int) = (p.length : Int) := by rw [size_S]
  have z2 : ((S l).size : Int) = (l.length : Int) := by rw [size_S]
  by_cases h : p.length ≤ l.length
  · have hcut : (S l).extract 0 p.length = S (l.take p.length) := by rw [Lib.extract_eq]; simp [S]
    have HE : Hid (preL p l = ((S (l.take p.length)).toList == (S p).toList)) := by
      show _ = _
      rw [eqT]
      unfold preL
      rw [Bool.eq_iff_iff, decide_eq_true_eq, decide_eq_true_eq, List.prefix_iff_eq_take]
      exact eq_comm
    generalize S (l.take p.length) = T at hcut HE
    generalize S p = P at z1 HE
    generalize S l = L at z2 hcut
    have h1 : (p.length : Int) ≤ (l.length : Int) := by omega
    have h2 : (0 : Int) ≤ (p.length : Int) := by omega
    go_enter Try.func24, Try.ntmps24
    go_wp2
    go_ret
    exact ⟨by rw [HE.out]; rfl, rfl⟩
  · have HE : Hid (preL p l = false) := decide_eq_false fun hp => h hp.length_le
    generalize S p = P at z1
    generalize S l = L at z2
    have h1 : decide ((p.length : Int) ≤ (l.length : Int)) = false := decide_eq_false (by omega)
    have h2 : decide (p.length ≤ l.length) = false := decide_eq_false h
    go_enter Try.func24, Try.ntmps24
    go_wp2
    go_ret
    exact ⟨by rw [HE.out]; rfl, rfl⟩

set_option maxHeartbeats 2000000 in
set_option maxRecDepth 100000 in
theorem rAttribute_c (elem attr : List UInt8) (w : World) :
    Calls Try.prog 9 #[.string (S elem), .string (S attr)] w fun e w' => e = .returned (.int .i64 (attrN elem attr : Nat)) ∧ Below w.heap.size w w' := by
  have h1 := fun w => rone_c urlsL (by decide) w.heap.size 10 attr _ (laid_texts urlsL w)
  have h2 := fun (W : World) (n : Nat) (hn : W.heap.size = n) => rone_c nosL (by decide) n 4 attr (W.alloc (.cells (nosL.map (fun l => Value.string (S l))).toArray 9)) (hn ▸ laid_texts nosL W)
  have h3 := fun w => rpre_c onL attr w
  have h4 := fun w => rpre_c xmlnsL attr w
  have e1 : ((S attr).toList == [100, 97, 116, 97]) = decide (attr = dataL) := eqTL attr dataL
  have e2 : ((S elem).toList == [111, 98, 106, 101, 99, 116]) = decide (elem = objectL) := eqTL elem objectL
  have e3 : ((S attr).toList == [115, 116, 121, 108, 101]) = decide (attr = styleL) := eqTL attr styleL
  have e4 : ((S attr).toList == []) = decide (attr = []) := eqTL attr []
  have E : Hid (attrN elem attr = if inL urlsL attr = true ∨ (decide (attr = dataL) = true ∧ decide (elem = objectL) = true) then 1 else if preL onL attr = true then 2 else if decide (attr = styleL) = true then 3
    else if decide (attr = []) = true ∨ inL nosL attr = true ∨ preL xmlnsL attr = true then 4 else 0) := by
    show _ = _
    unfold attrN
    simp only [decide_eq_true_eq]
  generalize inL urlsL attr = b1 at h1 E
  generalize inL nosL attr = b7 at h2 E
  generalize preL onL attr = b4 at h3 E
  generalize preL xmlnsL attr = b8 at h4 E
  generalize decide (attr = dataL) = b2 at e1 E
  generalize decide (elem = objectL) = b3 at e2 E
  generalize decide (attr = styleL) = b5 at e3 E
  generalize decide (attr = []) = b6 at e4 E
  generalize attrN elem attr = ans at E ⊢
  generalize S attr = T at h1 h2 h3 h4 e1 e3 e4
  generalize S elem = U at e2
  cases b1 with
  | true =>
    go_enter Try.func9, Try.ntmps9
    go_wp2_with fail
    refine (h1 w).mono ?_
    rintro e w1 ⟨rfl, rfl⟩
    go_wp2_with fail
    go_ret
    exact ⟨ret_int (by rw [E.out]; rfl), (Below.refl _ w).alloc (Nat.le_refl _) _⟩
  | false =>
    cases b2 with
    | true =>
      cases b3 with
      | true =>
        go_enter Try.func9, Try.ntmps9
        go_wp2_with fail
        refine (h1 w).mono ?_
        rintro e w1 ⟨rfl, rfl⟩
        go_wp2_with fail
        go_ret
        exact ⟨ret_int (by rw [E.out]; rfl), (Below.refl _ w).alloc (Nat.le_refl _) _⟩
      | false =>
        cases b4 with
        | true =>
          go_enter Try.func9, Try.ntmps9
          go_wp2_with fail
          refine (h1 w).mono ?_
          rintro e w1 ⟨rfl, rfl⟩
          go_wp2_with fail
          refine (h3 _).mono ?_
          rintro e w2 ⟨rfl, rfl⟩
          go_wp2_with fail
          go_ret
          exact ⟨ret_int (by rw [E.out]; rfl), (Below.refl _ w).alloc (Nat.le_refl _) _⟩
        | false =>
          cases b5 with
          | true =>
            go_enter Try.func9, Try.ntmps9
            go_wp2_with fail
            refine (h1 w).mono ?_
            rintro e w1 ⟨rfl, rfl⟩
            go_wp2_with fail
            refine (h3 _).mono ?_
            rintro e w2 ⟨rfl, rfl⟩
            go_wp2_with fail
            go_ret
            exact ⟨ret_int (by rw [E.out]; rfl), (Below.refl _ w).alloc (Nat.le_refl _) _⟩
          | false =>
            cases b6 with
            | true =>
              go_enter Try.func9, Try.ntmps9
              go_wp2_with fail
              refine (h1 w).mono ?_
              rintro e w1 ⟨rfl, rfl⟩
              go_wp2_with fail
              refine (h3 _).mono ?_
              rintro e w2 ⟨rfl, rfl⟩
              go_wp2_with fail
              go_ret
              exact ⟨ret_int (by rw [E.out]; rfl), (Below.refl _ w).alloc (Nat.le_refl _) _⟩
            | false =>
              cases b7 with
              | true =>
                go_enter Try.func9, Try.ntmps9
                go_wp2_with fail
                refine (h1 w).mono ?_
                rintro e w1 ⟨rfl, rfl⟩
                go_wp2_with fail
                refine (h3 _).mono ?_
                rintro e w2 ⟨rfl, rfl⟩
                go_wp2_with fail
                refine (h2 _ _ (by simp)).mono ?_
                rintro e w3 ⟨rfl, rfl⟩
                go_wp2_with fail
                go_ret
                exact ⟨ret_int (by rw [E.out]; rfl), ((Below.refl _ w).alloc (Nat.le_refl _) _).alloc (by simp) _⟩
              | false =>
                cases b8 with
                | true =>
                  go_enter Try.func9, Try.ntmps9
                  go_wp2_with fail
                  refine (h1 w).mono ?_
                  rintro e w1 ⟨rfl, rfl⟩
                  go_wp2_with fail
                  refine (h3 _).mono ?_
                  rintro e w2 ⟨rfl, rfl⟩
                  go_wp2_with fail
                  refine (h2 _ _ (by simp)).mono ?_
                  rintro e w3 ⟨rfl, rfl⟩
                  go_wp2_with fail
                  refine (h4 _).mono ?_
                  rintro e w4 ⟨rfl, rfl⟩
                  go_wp2_with fail
                  go_ret
                  exact ⟨ret_int (by rw [E.out]; rfl), ((Below.refl _ w).alloc (Nat.le_refl _) _).alloc (by simp) _⟩
                | false =>
                  go_enter Try.func9, Try.ntmps9
                  go_wp2_with fail
                  refine (h1 w).mono ?_
                  rintro e w1 ⟨rfl, rfl⟩
                  go_wp2_with fail
                  refine (h3 _).mono ?_
                  rintro e w2 ⟨rfl, rfl⟩
                  go_wp2_with fail
                  refine (h2 _ _ (by simp)).mono ?_
                  rintro e w3 ⟨rfl, rfl⟩
                  go_wp2_with fail
                  refine (h4 _).mono ?_
                  rintro e w4 ⟨rfl, rfl⟩
                  go_wp2_with fail
                  go_ret
                  exact ⟨ret_int (by rw [E.out]; rfl), ((Below.refl _ w).alloc (Nat.le_refl _) _).alloc (by simp) _⟩
    | false =>
      cases b4 with
      | true =>
        go_enter Try.func9, Try.ntmps9
        go_wp2_with fail
        refine (h1 w).mono ?_
        rintro e w1 ⟨rfl, rfl⟩
        go_wp2_with fail
        refine (h3 _).mono ?_
        rintro e w2 ⟨rfl, rfl⟩
        go_wp2_with fail
        go_ret
        exact ⟨ret_int (by rw [E.out]; rfl), (Below.refl _ w).alloc (Nat.le_refl _) _⟩
      | false =>
        cases b5 with
        | true =>
          go_enter Try.func9, Try.ntmps9
          go_wp2_with fail
          refine (h1 w).mono ?_
          rintro e w1 ⟨rfl, rfl⟩
          go_wp2_with fail
          refine (h3 _).mono ?_
          rintro e w2 ⟨rfl, rfl⟩
          go_wp2_with fail
          go_ret
          exact ⟨ret_int (by rw [E.out]; rfl), (Below.refl _ w).alloc (Nat.le_refl _) _⟩
        | false =>
          cases b6 with
          | true =>
            go_enter Try.func9, Try.ntmps9
            go_wp2_with fail
            refine (h1 w).mono ?_
            rintro e w1 ⟨rfl, rfl⟩
            go_wp2_with fail
            refine (h3 _).mono ?_
            rintro e w2 ⟨rfl, rfl⟩
            go_wp2_with fail
            go_ret
            exact ⟨ret_int (by rw [E.out]; rfl), (Below.refl _ w).alloc (Nat.le_refl _) _⟩
          | false =>
            cases b7 with
            | true =>
              go_enter Try.func9, Try.ntmps9
              go_wp2_with fail
              refine (h1 w).mono ?_
              rintro e w1 ⟨rfl, rfl⟩
              go_wp2_with fail
              refine (h3 _).mono ?_
              rintro e w2 ⟨rfl, rfl⟩
              go_wp2_with fail
              refine (h2 _ _ (by simp)).mono ?_
              rintro e w3 ⟨rfl, rfl⟩
              go_wp2_with fail
              go_ret
              exact ⟨ret_int (by rw [E.out]; rfl), ((Below.refl _ w).alloc (Nat.le_refl _) _).alloc (by simp) _⟩
            | false =>
              cases b8 with
              | true =>
                go_enter Try.func9, Try.ntmps9
                go_wp2_with fail
                refine (h1 w).mono ?_
                rintro e w1 ⟨rfl, rfl⟩
                go_wp2_with fail
                refine (h3 _).mono ?_
                rintro e w2 ⟨rfl, rfl⟩
                go_wp2_with fail
                refine (h2 _ _ (by simp)).mono ?_
                rintro e w3 ⟨rfl, rfl⟩
                go_wp2_with fail
                refine (h4 _).mono ?_
                rintro e w4 ⟨rfl, rfl⟩
                go_wp2_with fail
                go_ret
                exact ⟨ret_int (by rw [E.out]; rfl), ((Below.refl _ w).alloc (Nat.le_refl _) _).alloc (by simp) _⟩
              | false =>
                go_enter Try.func9, Try.ntmps9
                go_wp2_with fail
                refine (h1 w).mono ?_
                rintro e w1 ⟨rfl, rfl⟩
                go_wp2_with fail
                refine (h3 _).mono ?_
                rintro e w2 ⟨rfl, rfl⟩
                go_wp2_with fail
                refine (h2 _ _ (by simp)).mono ?_
                rintro e w3 ⟨rfl, rfl⟩
                go_wp2_with fail
                refine (h4 _).mono ?_
                rintro e w4 ⟨rfl, rfl⟩
                go_wp2_with fail
                go_ret
                exact ⟨ret_int (by rw [E.out]; rfl), ((Below.refl _ w).alloc (Nat.le_refl _) _).alloc (by simp) _⟩
end Go.Proofs.Ytoegnipnbdnllaa.Tab
