/-
  Contracts of the page's answers on names, on how a text begins, and on trimmed texts.
-/
import Derived.Test.YtnfpgfpendflnaaRefTexts
namespace Go.Proofs.Ytnfpgfpendflnaa.Oct
open Go.RowKit

/-- May the octet at place k stand there in a name? -/
def okAt (s : ByteArray) (k : Nat) : Bool := nameI ((at' s k).toNat : Int) && (k != 0 || !digitI ((at' s k).toNat : Int))

theorem nameB_eq (s : ByteArray) : nameB s.data.toList = (decide (1 ≤ s.size ∧ s.size ≤ 32) && (List.range s.size).all (okAt s)) := by
  unfold nameB
  rw [size_list, ← all_at, at_zero]
  by_cases h : 1 ≤ s.size ∧ s.size ≤ 32
  · rw [decide_eq_true h, Bool.true_and, Bool.true_and, Bool.eq_iff_iff]
    simp only [Bool.and_eq_true, List.all_eq_true, List.mem_range, okAt, Bool.or_eq_true, bne_iff_ne, Bool.not_eq_true']
    constructor
    · rintro ⟨h0, h1⟩ k hk
      refine ⟨h1 k hk, ?_⟩
      by_cases e : k = 0
      · subst e; exact Or.inr h0
      · exact Or.inl e
    · intro H
      refine ⟨?_, fun k hk => (H k hk).1⟩
      rcases (H 0 (by omega)).2 with e | e
      · exact absurd rfl e
      · exact e
  · rw [decide_eq_false h]; rfl

theorem nameB_bad (s : ByteArray) (k : Nat) (hk : k < s.size) (h : okAt s k = false) : nameB s.data.toList = false := by
  rw [nameB_eq]
  have : (List.range s.size).all (okAt s) = false := by
    rw [Bool.eq_false_iff]
    intro H
    have := List.all_eq_true.1 H k (by simpa using hk)
    rw [h] at this
    cases this
  rw [this, Bool.and_false]

theorem nameB_good (s : ByteArray) (h : ∀ k, k < s.size → okAt s k = true) : nameB s.data.toList = decide (1 ≤ s.size ∧ s.size ≤ 32) := by
  rw [nameB_eq]
  have : (List.range s.size).all (okAt s) = true := List.all_eq_true.2 fun k hk => h k (by simpa using hk)
  rw [this, Bool.and_true]

set_option maxHeartbeats 2000000 in
theorem rname_c (s : ByteArray) (w : World) (hs : s.size ≤ 9223372036854775807) :
    Calls Try.prog 16 #[.string s] w fun e w' => e = .returned (.bool (nameB s.data.toList)) ∧ w = w' := by
  go_enter Try.func16, Try.ntmps16
  go_wp2
  go_loop [3] (fun i => ∃ k : Nat, k ≤ s.size ∧ i = .int .i64 k ∧ Hid (∀ j, j < k → okAt s j = true)) (fun i => s.size - (intOf i).toNat)
  case atStart => exact ⟨0, Nat.zero_le _, rfl, fun j hj => absurd hj (Nat.not_lt_zero _)⟩
  case round =>
    obtain ⟨k, hk, rfl, hok⟩ := hrel
    by_cases hlt : k < s.size
    · have hb1 : (s[k].toNat : Int) ≤ 255 := by have := s[k].toNat_lt; omega
      have hE : Hid (okAt s k = (nameI (s[k].toNat : Int) && (k != 0 || !digitI (s[k].toNat : Int)))) := by show _ = _; unfold okAt; rw [← at_eq s k hlt]
      have hl := fun w => rletter_c (s[k].toNat : Int) w (by omega) (by omega)
      have hd := fun w => rdigit_c (s[k].toNat : Int) w (by omega) (by omega)
      have next : okAt s k = true → ∀ j, j < k + 1 → okAt s j = true := fun h j hj => by
        by_cases e : j = k
        · rw [e]; exact h
        · exact hok.out j (by omega)
      have NX := Lib.hid next
      clear next
      cases hL : letterI (s[k].toNat : Int) with
      | true =>
        simp only [hL] at hl
        have hF : Hid (okAt s k = true) := by
          show _ = _
          rw [hE.out]
          unfold letterI at hL
          have hL' := of_decide_eq_true hL
          rw [nameI, digitI, decide_eq_true (by omega), decide_eq_false (by omega)]
          simp
        clear hL hE
        go_wp2_with (go_at_call 10; refine (hl _).mono ?_; rintro e w' ⟨rfl, rfl⟩)
        go_round
        case rel => exact ⟨k + 1, by omega, by go_num, NX.out hF.out⟩
        case measure => simp [intOf]; omega
      | false =>
        simp only [hL] at hl
        have hL' := of_decide_eq_false hL
        by_cases h95 : (s[k].toNat : Int) = 95
        · have hF : Hid (okAt s k = true) := by
            show _ = _
            rw [hE.out, nameI, digitI, decide_eq_true (by omega), decide_eq_false (by omega)]
            simp
          have h95b : ((s[k].toNat : Int) != 95) = false := by simp [h95]
          clear hL hE hL' h95
          go_wp2_with (go_at_call 10; refine (hl _).mono ?_; rintro e w' ⟨rfl, rfl⟩)
          go_round
          case rel => exact ⟨k + 1, by omega, by go_num, NX.out hF.out⟩
          case measure => simp [intOf]; omega
        · have h95b : ((s[k].toNat : Int) != 95) = true := by simp [h95]
          by_cases h0 : k = 0
          · have hF : Hid (okAt s k = false) := by
              show _ = _
              have hk0 : (k != 0) = false := by simp [h0]
              rw [hE.out, hk0, Bool.false_or, Bool.and_eq_false_iff]
              by_cases hdd : (48 : Int) ≤ (s[k].toNat : Int) ∧ (s[k].toNat : Int) ≤ 57
              · right; rw [digitI, decide_eq_true hdd]; rfl
              · left; rw [nameI, decide_eq_false (by omega)]
            have h0b : ((k : Int) == 0) = true := by simp [h0]
            clear hL hE hL' h95 h0
            go_wp2_with (go_at_call 10; refine (hl _).mono ?_; rintro e w' ⟨rfl, rfl⟩)
            go_ret
            exact ⟨ret_bool (nameB_bad s k hlt hF.out).symm, rfl⟩
          · have h0b : ((k : Int) == 0) = false := by simp; omega
            cases hD : digitI (s[k].toNat : Int) with
            | true =>
              simp only [hD] at hd
              have hF : Hid (okAt s k = true) := by
                show _ = _
                have hD' := of_decide_eq_true hD
                rw [hE.out, nameI, decide_eq_true (by omega)]
                simp [h0]
              clear hL hE hL' h95 h0 hD
              go_wp2_with (first
                | (go_at_call 10; refine (hl _).mono ?_; rintro e w' ⟨rfl, rfl⟩)
                | (go_at_call 36; refine (hd _).mono ?_; rintro e w' ⟨rfl, rfl⟩))
              go_round
              case rel => exact ⟨k + 1, by omega, by go_num, NX.out hF.out⟩
              case measure => simp [intOf]; omega
            | false =>
              simp only [hD] at hd
              have hF : Hid (okAt s k = false) := by
                show _ = _
                have hD' := of_decide_eq_false hD
                rw [hE.out, nameI, decide_eq_false (by omega)]
                rfl
              clear hL hE hL' h95 h0 hD
              go_wp2_with (first
                | (go_at_call 10; refine (hl _).mono ?_; rintro e w' ⟨rfl, rfl⟩)
                | (go_at_call 36; refine (hd _).mono ?_; rintro e w' ⟨rfl, rfl⟩))
              go_ret
              exact ⟨ret_bool (nameB_bad s k hlt hF.out).symm, rfl⟩
    · have hfin : Hid (nameB s.data.toList = decide (1 ≤ s.size ∧ s.size ≤ 32)) := nameB_good s (fun j hj => hok.out j (by omega))
      go_wp2
      all_goals go_ret
      all_goals (refine ⟨ret_bool ?_, rfl⟩; rw [hfin.out, Bool.eq_iff_iff]; simp; try omega)

/-- Does p begin s? -/
def beginsB (p s : List UInt8) : Bool := decide (p.length ≤ s.length) && (s.take p.length == p)

theorem rbegins_c (p s : ByteArray) (w : World) :
    Calls Try.prog 38 #[.string p, .string s] w fun e w' => e = .returned (.bool (beginsB p.data.toList s.data.toList)) ∧ w = w' := by
  by_cases hl : p.size ≤ s.size
  · have hx : Hid (beginsB p.data.toList s.data.toList = ((s.extract 0 p.size).toList == p.toList)) := by
      show _ = _
      unfold beginsB
      rw [size_list, size_list, decide_eq_true hl, Bool.true_and, ByteArray.toList_eq, ByteArray.toList_eq, Lib.extract_data, List.drop_zero, Nat.sub_zero]
    go_enter Try.func38, Try.ntmps38
    go_wp2
    go_ret
    exact ⟨ret_bool hx.out.symm, rfl⟩
  · have hl' : decide ((p.size : Int) ≤ (s.size : Int)) = false := by simp; omega
    have hx : Hid (beginsB p.data.toList s.data.toList = false) := by
      show _ = _
      unfold beginsB
      rw [size_list, size_list, decide_eq_false hl, Bool.false_and]
    go_enter Try.func38, Try.ntmps38
    go_wp2
    go_ret
    exact ⟨ret_bool hx.out.symm, rfl⟩

theorem starts_begins (s p : List UInt8) : beginsB (p.map low) (s.map low) = startsB s p := by
  unfold beginsB startsB
  simp only [List.length_map]

theorem rstarts_c (s p : ByteArray) (w : World) (hs : s.size ≤ 140737488351232) (hp : p.size ≤ 140737488351232) :
    Calls Try.prog 18 #[.string s, .string p] w fun e w' => e = .returned (.bool (startsB s.data.toList p.data.toList)) ∧ Below w.heap.size w w' := by
  have h1 := fun w => rlower_c p w hp
  have h2 := fun w => rlower_c s w hs
  have h3 := fun w => rbegins_c (S (p.data.toList.map low)) (S (s.data.toList.map low)) w
  have hx : Hid (beginsB (S (p.data.toList.map low)).data.toList (S (s.data.toList.map low)).data.toList = startsB s.data.toList p.data.toList) := by
    show _ = _
    rw [list_S, list_S, starts_begins]
  generalize beginsB (S (p.data.toList.map low)).data.toList (S (s.data.toList.map low)).data.toList = r at h3 hx
  generalize S (p.data.toList.map low) = x at h1 h3
  generalize S (s.data.toList.map low) = y at h2 h3
  go_enter Try.func18, Try.ntmps18
  go_wp2_with fail
  refine (h1 w).mono ?_
  rintro e w1 ⟨rfl, hb1⟩
  go_wp2_with fail
  refine (h2 w1).mono ?_
  rintro e w2 ⟨rfl, hb2⟩
  go_wp2_with fail
  refine (h3 w2).mono ?_
  rintro e w3 ⟨rfl, rfl⟩
  go_wp2_with fail
  go_ret
  exact ⟨ret_bool hx.out, hb1.trans (hb2.mono hb1.size)⟩

theorem dropWhile_at (q : UInt8 → Bool) (l : List UInt8) (a : Nat) (h1 : ∀ j, j < a → ∀ c, l[j]? = some c → q c = true) (h2 : ∀ c, l[a]? = some c → q c = false) : l.dropWhile q = l.drop a := by
  induction l generalizing a with
  | nil => simp
  | cons c l ih =>
    cases a with
    | zero =>
      have := h2 c (by simp)
      simp [this]
    | succ a =>
      have h0 := h1 0 (by omega) c (by simp)
      simp only [List.dropWhile_cons, h0, if_true, List.drop_succ_cons]
      exact ih a (fun j hj c' hc => h1 (j + 1) (by omega) c' (by simpa using hc)) (fun c' hc => h2 c' (by simpa using hc))

/-- What two places tell of a trimmed text. -/
theorem trim_at (l : List UInt8) (a b : Nat) (hab : a ≤ b) (hb : b ≤ l.length) (h1 : ∀ j, j < a → ∀ c, l[j]? = some c → bl c = true) (h2 : a < l.length → ∀ c, l[a]? = some c → bl c = false)
    (h3 : ∀ j, b ≤ j → ∀ c, l[j]? = some c → bl c = true) (h4 : a < b → ∀ c, l[b - 1]? = some c → bl c = false) : (l.drop a).take (b - a) = trimL l := by
  unfold trimL
  have e1 : l.dropWhile bl = l.drop a := dropWhile_at bl l a h1 (fun c hc => by
    by_cases h : a < l.length
    · exact h2 h c hc
    · rw [List.getElem?_eq_none (by omega)] at hc; cases hc)
  rw [e1]
  have hr : ∀ j, (l.drop a).reverse[j]? = if j < l.length - a then l[l.length - 1 - j]? else none := by
    intro j
    by_cases hj : j < l.length - a
    · rw [if_pos hj, List.getElem?_reverse (by rw [List.length_drop]; exact hj), List.length_drop, List.getElem?_drop]
      congr 1
      omega
    · rw [if_neg hj, List.getElem?_eq_none (by rw [List.length_reverse, List.length_drop]; omega)]
  have e2 : (l.drop a).reverse.dropWhile bl = (l.drop a).reverse.drop (l.length - b) := dropWhile_at bl _ _ (fun j hj c hc => by
    rw [hr] at hc
    split at hc
    · exact h3 _ (by omega) c hc
    · cases hc) (fun c hc => by
    rw [hr] at hc
    split at hc
    · have e : l.length - 1 - (l.length - b) = b - 1 := by omega
      rw [e] at hc
      exact h4 (by omega) c hc
    · cases hc)
  rw [e2, List.reverse_drop, List.reverse_reverse, List.length_reverse, List.length_drop]
  congr 1
  omega

theorem get_at (s : ByteArray) (k : Nat) (h : k < s.size) : s.data.toList[k]? = some s[k] := by
  rw [List.getElem?_eq_getElem (by rw [size_list]; exact h)]; rfl

set_option maxHeartbeats 2000000 in
theorem rtrim_c (s : ByteArray) (w : World) (hs : s.size ≤ 9223372036854775807) :
    Calls Try.prog 20 #[.string s] w fun e w' => e = .returned (.string (S (trimL s.data.toList))) ∧ w = w' := by
  go_enter Try.func20, Try.ntmps20
  go_wp2
  go_loop [3] (fun i => ∃ k : Nat, k ≤ s.size ∧ i = .int .i64 k ∧ Hid (∀ j, j < k → ∀ c, s.data.toList[j]? = some c → bl c = true)) (fun i => s.size - (intOf i).toNat)
  case atStart => exact ⟨0, Nat.zero_le _, rfl, fun j hj => absurd hj (Nat.not_lt_zero _)⟩
  case round =>
    obtain ⟨a, ha, rfl, hA⟩ := hrel
    by_cases hT : ∃ h : a < s.size, blankI (s[a].toNat : Int) = true
    · obtain ⟨hlt, hB⟩ := hT
      have hb1 : (s[a].toNat : Int) ≤ 255 := by have := s[a].toNat_lt; omega
      have hbk := fun w => rblank_c (s[a].toNat : Int) w (by omega) (by omega)
      have HG := Lib.hid (get_at s a hlt)
      simp only [hB] at hbk
      have hF : Hid (bl s[a] = true) := hB
      clear hB
      go_wp2_with (go_at_call 8; refine (hbk _).mono ?_; rintro e w' ⟨rfl, rfl⟩)
      go_round
      case rel =>
        refine ⟨a + 1, by omega, by go_num, fun j hj c hc => ?_⟩
        by_cases e : j = a
        · subst e; rw [HG.out] at hc; injection hc with hc; rw [← hc]; exact hF.out
        · exact hA.out j (by omega) c hc
      case measure => simp [intOf]; omega
    · have hE : Hid (a < s.size → ∀ c, s.data.toList[a]? = some c → bl c = false) := by
        intro hlt c hc
        rw [get_at s a hlt] at hc
        injection hc with hc
        subst hc
        cases hB : bl s[a] with
        | false => rfl
        | true => exact absurd ⟨hlt, hB⟩ hT
      have hbk := fun (h : a < s.size) w => rblank_c (s[a].toNat : Int) w (by omega) (by have := s[a].toNat_lt; omega)
      have hBf : Hid (∀ h : a < s.size, blankI (s[a].toNat : Int) = false) := by
        intro h
        cases hB : blankI (s[a].toNat : Int) with
        | false => rfl
        | true => exact absurd ⟨h, hB⟩ hT
      clear hT
      by_cases hlt : a < s.size
      have hbk1 := hbk hlt
      simp only [hBf.out hlt] at hbk1
      go_wp2_with (go_at_call 8; refine (hbk1 _).mono ?_; rintro e w' ⟨rfl, rfl⟩)
      clear hbk1
      rotate_left
      go_wp2
      all_goals
        clear hbk
        go_loop [4] (fun i => ∃ m : Nat, a ≤ m ∧ m ≤ s.size ∧ i = .int .i64 m ∧ Hid (∀ j, m ≤ j → ∀ c, s.data.toList[j]? = some c → bl c = true)) (fun i => (intOf i).toNat)
        case atStart => exact ⟨s.size, by omega, Nat.le_refl _, rfl, fun j hj c hc => by rw [List.getElem?_eq_none (by rw [size_list]; exact hj)] at hc; cases hc⟩
        case round =>
          obtain ⟨m, ham, hm, rfl, hM⟩ := hrel
          have hin : a < m → m - 1 < s.size := fun h => by omega
          by_cases hT : ∃ h : a < m, blankI ((s[m - 1]'(hin h)).toNat : Int) = true
          · obtain ⟨hlt2, hB⟩ := hT
            try (exfalso; omega)
            all_goals
              have hm1 : m - 1 < s.size := by omega
              have hb1 : (s[m - 1].toNat : Int) ≤ 255 := by have := s[m - 1].toNat_lt; omega
              have hbk := fun w => rblank_c (s[m - 1].toNat : Int) w (by omega) (by omega)
              have HG := Lib.hid (get_at s (m - 1) hm1)
              simp only [hB] at hbk
              have hF : Hid (bl s[m - 1] = true) := hB
              clear hB hin
              go_wp2_with (go_at_call 8; refine (hbk _).mono ?_; rintro e w' ⟨rfl, rfl⟩)
              go_round
              case rel =>
                refine ⟨m - 1, by omega, by omega, by congr 1; omega, fun j hj c hc => ?_⟩
                by_cases e : j = m - 1
                · subst e; rw [HG.out] at hc; injection hc with hc; rw [← hc]; exact hF.out
                · exact hM.out j (by omega) c hc
              case measure => simp [intOf]; omega
          · have hfin : Hid (S (trimL s.data.toList) = s.extract a m) := by
              show _ = _
              rw [← S_list (s.extract a m), Lib.extract_data, trim_at s.data.toList a m ham (by rw [size_list]; exact hm) hA.out (fun h => hE.out (by rw [← size_list]; exact h)) hM.out]
              intro h c hc
              rw [get_at s (m - 1) (hin h)] at hc
              injection hc with hc
              subst hc
              cases hB : bl (s[m - 1]'(hin h)) with
              | false => rfl
              | true => exact absurd ⟨h, hB⟩ hT
            by_cases hlt2 : a < m
            · try (exfalso; omega)
              all_goals
                have hm1 : m - 1 < s.size := by omega
                have hbk := fun w => rblank_c (s[m - 1].toNat : Int) w (by omega) (by have := s[m - 1].toNat_lt; omega)
                have hBf : blankI (s[m - 1].toNat : Int) = false := by
                  cases hB : blankI (s[m - 1].toNat : Int) with
                  | false => rfl
                  | true => exact absurd ⟨hlt2, hB⟩ hT
                simp only [hBf] at hbk
                clear hT hBf hin
                go_wp2_with (go_at_call 8; refine (hbk _).mono ?_; rintro e w' ⟨rfl, rfl⟩)
                go_ret
                exact ⟨congrArg (fun x => Ending.returned (.string x)) hfin.out.symm, rfl⟩
            · clear hT hin
              go_wp2
              go_ret
              exact ⟨congrArg (fun x => Ending.returned (.string x)) hfin.out.symm, rfl⟩

end Go.Proofs.Ytnfpgfpendflnaa.Oct
