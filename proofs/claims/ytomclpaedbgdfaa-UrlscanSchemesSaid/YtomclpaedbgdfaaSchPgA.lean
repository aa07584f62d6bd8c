/-
  Contracts of the page's Scheme and Allowed.
-/
import Derived.Test.YtomclpaedbgdfaaRefTexts
import Derived.Test.YtomclpaedbgdfaaSchPure
namespace Go.Proofs.Ytomclpaedbgdfaa.Sch
open Go.RowKit Go.Proofs.Ytomclpaedbgdfaa.Oct Go.Proofs.Ytomclpaedbgdfaa.Utf Go.Proofs.Ytomclpaedbgdfaa.Pct

theorem cutTo (s : ByteArray) (n : Nat) : s.extract 0 n = S (s.data.toList.take n) := by
  rw [Lib.extract_eq]; simp [S]
theorem at_S' (l : List UInt8) (k : Nat) (h : k < l.length) : (S l)[k]'(by rw [size_S]; exact h) = l[k] := by
  rw [ByteArray.getElem_eq_getElem_data]; simp
theorem oct_ne {c : UInt8} {n : Nat} (h : c ≠ n.toUInt8) (hn : n < 256) : ((c.toNat : Int) == (n : Int)) = false := by
  rw [beq_eq_false_iff_ne]
  intro e
  apply h
  apply UInt8.toNat_inj.1
  rw [Nat.toUInt8_eq, UInt8.toNat_ofNat_of_lt' (by show n < 256; exact hn)]
  omega

set_option maxHeartbeats 1000000 in
set_option maxRecDepth 100000 in
theorem rScheme_c (l : List UInt8) (hl : l.length ≤ 140737488351232) (w : World) :
    Calls Try.prog 8 #[.string (S l)] w fun e w' => e = .returned (.tuple #[.string (S (schemeL l).1), .bool (schemeL l).2]) ∧ Below w.heap.size w w' := by
  have hsz : ((S l).size : Int) = (l.length : Int) := by rw [size_S]
  have HOne := Lib.hid (fun k (h : k < l.length) => at_S' l k h)
  have HTo := Lib.hid (fun k => (cutTo (S l) k).trans (by rw [list_S] : S ((S l).data.toList.take k) = S (l.take k)))
  have HLow := Lib.hid (fun k w => (by have h := rlower_c (S (l.take k)) w (by rw [size_S, List.length_take]; omega); rw [list_S] at h; exact h : Calls Try.prog 12 #[.string (S (l.take k))] w fun e w' => e = .returned (.string (S ((l.take k).map low))) ∧ Below w.heap.size w w'))
  have hli : (l.length : Int) ≤ 140737488351232 := by omega
  go_enter Try.func8, Try.ntmps8
  go_wp2_with fail
  go_loopw [4] (fun i wr => ∃ k : Nat, k ≤ l.length ∧ i = .int .i64 k ∧ Hid (∀ c ∈ l.take k, isM c = false) ∧ w = wr) (fun i _ => l.length - (intOf i).toNat)
  case atStart => exact ⟨0, Nat.zero_le _, rfl, (fun c hc => by cases hc), rfl⟩
  case round =>
    obtain ⟨k, hk, rfl, hno, rfl⟩ := hrel
    by_cases hlt : k < l.length
    · have h1 := HOne.out k hlt
      have hto := HTo.out k
      have hlow := HLow.out k w
      rw [← hto] at hlow
      have HS : Hid (l = l.take k ++ l[k] :: l.drop (k + 1)) := by
        show _ = _
        rw [← List.drop_eq_getElem_cons hlt, List.take_append_drop]
      have HT : Hid (l.take (k + 1) = l.take k ++ [l[k]]) := List.take_succ_eq_append_getElem hlt
      have j0 : (0 : Int) ≤ (k : Int) := by omega
      have j1 : (k : Int) < (l.length : Int) := by omega
      have j2 : (k : Int) ≤ (l.length : Int) := by omega
      generalize l[k] = c at h1 HS HT
      have hcb : (c.toNat : Int) ≤ 255 := by have := c.toNat_lt; omega
      by_cases h58 : c = 58
      · have E : Hid (schemeL l = ((l.take k).map low, true)) := by
          show _ = _
          have h := HS.out
          rw [h58] at h
          conv => lhs; rw [h]
          exact scheme_at _ _ hno.out
        have hb : ((c.toNat : Int) == 58) = true := by rw [h58]; rfl
        clear h58 HS HT hto
        generalize (l.take k).map low = Lw at hlow E
        go_wp2_with (first | (go_at_call 12; refine hlow.mono ?_; rintro e w2 ⟨rfl, hb2⟩))
        go_ret2
        exact ⟨by rw [E.out]; rfl, hb2⟩
      · have hb : ((c.toNat : Int) == 58) = false := oct_ne (n := 58) h58 (by decide)
        by_cases hm : c = 47 ∨ c = 63 ∨ c = 35
        · have E : Hid (schemeL l = ([], false)) := by
            show _ = _
            conv => lhs; rw [HS.out]
            exact hidden _ _ _ hno.out hm
          clear HS HT hto hlow
          rcases hm with h | h | h
          · have hb47 : ((c.toNat : Int) == 47) = true := by rw [h]; rfl
            clear h h58
            go_wp2_with fail
            go_ret2
            exact ⟨by rw [E.out]; rfl, Below.refl _ _⟩
          · have hb63 : ((c.toNat : Int) == 63) = true := by rw [h]; rfl
            have hb47 : ((c.toNat : Int) == 47) = false := by rw [h]; rfl
            clear h h58
            go_wp2_with fail
            go_ret2
            exact ⟨by rw [E.out]; rfl, Below.refl _ _⟩
          · have hb35 : ((c.toNat : Int) == 35) = true := by rw [h]; rfl
            have hb47 : ((c.toNat : Int) == 47) = false := by rw [h]; rfl
            have hb63 : ((c.toNat : Int) == 63) = false := by rw [h]; rfl
            clear h h58
            go_wp2_with fail
            go_ret2
            exact ⟨by rw [E.out]; rfl, Below.refl _ _⟩
        · have hb47 : ((c.toNat : Int) == 47) = false := oct_ne (n := 47) (fun h => hm (.inl h)) (by decide)
          have hb63 : ((c.toNat : Int) == 63) = false := oct_ne (n := 63) (fun h => hm (.inr (.inl h))) (by decide)
          have hb35 : ((c.toNat : Int) == 35) = false := oct_ne (n := 35) (fun h => hm (.inr (.inr h))) (by decide)
          have HN : Hid (∀ d ∈ l.take (k + 1), isM d = false) := by
            show ∀ d ∈ l.take (k + 1), isM d = false
            rw [HT.out]
            intro d hd
            rcases List.mem_append.1 hd with hd | hd
            · exact hno.out d hd
            · rw [List.mem_singleton] at hd
              subst hd
              refine decide_eq_false ?_
              rintro (h | h)
              · exact h58 h
              · exact hm h
          clear h58 hm HS HT hto hlow
          go_wp2_with fail
          go_roundw
          case rel => exact ⟨k + 1, by omega, by go_num, HN, trivial⟩
          case measure => simp [intOf]; omega
    · have hkl : k = l.length := by omega
      subst hkl
      have E : Hid (schemeL l = ([], false)) := by
        show _ = _
        have h := hno.out
        rw [List.take_length] at h
        exact scheme_none (by rw [marks_none h]; simp)
      go_wp2_with fail
      go_ret2
      exact ⟨by rw [E.out]; rfl, Below.refl _ _⟩

theorem eqL (a b : List UInt8) : ((S a).toList == b) = decide (a = b) := by
  rw [ByteArray.toList_eq, list_S, Bool.eq_iff_iff]
  simp
theorem rAllowed_c (l : List UInt8) (w : World) :
    Calls Try.prog 9 #[.string (S l)] w fun e w' => e = .returned (.bool (allowL l)) ∧ w = w' := by
  have e1 : ((S l).toList == [104, 116, 116, 112]) = decide (l = httpL) := eqL l httpL
  have e2 : ((S l).toList == [104, 116, 116, 112, 115]) = decide (l = httpsL) := eqL l httpsL
  have e3 : ((S l).toList == [109, 97, 105, 108, 116, 111]) = decide (l = mailtoL) := eqL l mailtoL
  have E : Hid (allowL l = (decide (l = httpL) || (decide (l = httpsL) || decide (l = mailtoL)))) := by
    show _ = _
    unfold allowL
    rw [Bool.eq_iff_iff]
    simp
  generalize decide (l = httpL) = b1 at e1 E
  generalize decide (l = httpsL) = b2 at e2 E
  generalize decide (l = mailtoL) = b3 at e3 E
  generalize allowL l = ans at E ⊢
  generalize S l = T at e1 e2 e3
  go_enter Try.func9, Try.ntmps9
  go_wp2_with fail
  all_goals go_ret
  all_goals refine ⟨ret_bool ?_, rfl⟩
  all_goals (rw [E.out]; clear e1 e2 e3 E; cases b1 <;> cases b2 <;> simp_all)

end Go.Proofs.Ytomclpaedbgdfaa.Sch
