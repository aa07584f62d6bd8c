/-
  Contracts of the page's Unreserved, Reserved and coded.
-/
import Derived.Test.YtjchebnjbfhooaaDoorCrfRun
import Derived.Test.YtjchebnjbfhooaaDoorPctPure
namespace Go.Proofs.YtjchebnjbfhooaaDoor.Pct
open Go.RowKit Go.Proofs.YtjchebnjbfhooaaDoor.Oct

theorem runreserved_c (n : Int) (w : World) (h0 : 0 ≤ n) (h1 : n ≤ 255) :
    Calls Tryd.prog 35 #[.int .u8 n] w fun e w' => e = .returned (.bool (unrI n)) ∧ w = w' := by
  have hl := rletter_c n w h0 h1
  have hd := rdigit_c n w h0 h1
  cases hq1 : letterI n with
  | true =>
    have E : Hid (unrI n = true) := by show _ = _; unfold unrI; rw [hq1]; rfl
    rw [hq1] at hl
    clear hq1
    go_enter Tryd.func35, Tryd.ntmps35
    go_wp2_with (first | (go_at_call 55; refine hl.mono ?_; rintro e w' ⟨rfl, rfl⟩))
    go_ret
    exact ⟨ret_bool E.out.symm, rfl⟩
  | false =>
    rw [hq1] at hl
    cases hq2 : digitI n with
    | true =>
      have E : Hid (unrI n = true) := by show _ = _; unfold unrI; rw [hq1, hq2]; rfl
      rw [hq2] at hd
      clear hq1 hq2
      go_enter Tryd.func35, Tryd.ntmps35
      go_wp2_with (first
        | (go_at_call 55; refine hl.mono ?_; rintro e w' ⟨rfl, rfl⟩)
        | (go_at_call 56; refine hd.mono ?_; rintro e w' ⟨rfl, rfl⟩))
      go_ret
      exact ⟨ret_bool E.out.symm, rfl⟩
    | false =>
      have E : Hid (unrI n = decide (n = 45 ∨ n = 46 ∨ n = 95 ∨ n = 126)) := by show _ = _; unfold unrI; rw [hq1, hq2]; rfl
      rw [hq2] at hd
      clear hq1 hq2
      go_enter Tryd.func35, Tryd.ntmps35
      go_wp2_with (first
        | (go_at_call 55; refine hl.mono ?_; rintro e w' ⟨rfl, rfl⟩)
        | (go_at_call 56; refine hd.mono ?_; rintro e w' ⟨rfl, rfl⟩))
      all_goals go_ret
      all_goals (refine ⟨ret_bool ?_, rfl⟩; rw [E.out, Bool.eq_iff_iff]; simp; try omega)

abbrev resL : List UInt8 := [33, 35, 36, 38, 42, 43, 44, 47, 58, 59, 61, 63, 64, 91, 93]
theorem res_has (c : UInt8) : Crf.hasB resL c = res c := by
  have h1 : ∀ c : Fin 256, Crf.hasB resL (UInt8.ofNat c.val) = res (UInt8.ofNat c.val) := by decide +kernel
  have h2 := h1 ⟨c.toNat, c.toNat_lt⟩
  simp only [UInt8.ofNat_toNat] at h2
  exact h2
theorem rreserved_c (c : UInt8) (w : World) :
    Calls Tryd.prog 36 #[.int .u8 (c.toNat : Int)] w fun e w' => e = .returned (.bool (res c)) ∧ w = w' := by
  have hh : Calls Tryd.prog 57 #[.string ⟨#[33, 35, 36, 38, 42, 43, 44, 47, 58, 59, 61, 63, 64, 91, 93]⟩, .int .u8 (c.toNat : Int)] w fun e w' => e = .returned (.bool (Crf.hasB resL c)) ∧ w = w' := Crf.rhas_c (S resL) c (by decide) w
  rw [res_has] at hh
  generalize res c = b at hh
  generalize (c.toNat : Int) = n at hh
  go_enter Tryd.func36, Tryd.ntmps36
  go_wp2_with fail
  refine hh.mono ?_
  rintro e w' ⟨rfl, rfl⟩
  go_wp2_with fail
  go_ret
  exact ⟨rfl, rfl⟩

/-- Two digits stand behind a sign just if it is told with them. -/
theorem run_two (t : List UInt8) : decide (2 ≤ Crf.runN 16 t) = ((headL (37 :: t)).2 == 3) := by
  have dg : ∀ c, Crf.digB 16 c = decide (0 ≤ hc c) := fun c => by
    have h1 : ∀ c : Fin 256, Crf.digB 16 (UInt8.ofNat c.val) = decide (0 ≤ hc (UInt8.ofNat c.val)) := by decide +kernel
    have h2 := h1 ⟨c.toNat, c.toNat_lt⟩
    simp only [UInt8.ofNat_toNat] at h2
    exact h2
  match t with
  | [] => rfl
  | [a] =>
    rw [head_short [a] (by simp)]
    have := Crf.runN_le 16 [a]
    refine decide_eq_false ?_
    simp only [List.length_singleton] at this
    omega
  | a :: b :: t =>
    cases h : two a b with
    | true =>
      have h2 := of_decide_eq_true h
      rw [head_two a b t h]
      refine decide_eq_true ?_
      unfold Crf.runN
      rw [List.takeWhile_cons_of_pos (by rw [dg]; exact decide_eq_true h2.1), List.takeWhile_cons_of_pos (by rw [dg]; exact decide_eq_true h2.2)]
      simp
    | false =>
      have h2 := of_decide_eq_false h
      rw [head_bad a b t h]
      refine decide_eq_false ?_
      unfold Crf.runN
      by_cases ha : 0 ≤ hc a
      · have hb : ¬ 0 ≤ hc b := fun hb => h2 ⟨ha, hb⟩
        rw [List.takeWhile_cons_of_pos (by rw [dg]; exact decide_eq_true ha), List.takeWhile_cons_of_neg (by rw [dg]; simpa using hb)]
        simp
      · rw [List.takeWhile_cons_of_neg (by rw [dg]; simpa using ha)]
        simp

theorem rcoded_c (l : List UInt8) (hl : l.length ≤ 2305843009213693952) (k : Nat) (hk : k < l.length) (w : World) :
    Calls Tryd.prog 37 #[.string (S l), .int .i64 (k : Int)] w fun e w' => e = .returned (.bool ((headL (l.drop k)).2 == 3)) ∧ w = w' := by
  have hsz : ((S l).size : Int) = (l.length : Int) := by rw [size_S]
  have h1 : (S l)[k]'(by rw [size_S]; exact hk) = l[k] := by rw [ByteArray.getElem_eq_getElem_data]; simp
  have i0 : (0 : Int) ≤ (k : Int) := by omega
  have i1 : (k : Int) < (l.length : Int) := by omega
  have hd : l.drop k = l[k] :: l.drop (k + 1) := List.drop_eq_getElem_cons hk
  by_cases hc : l[k] = 37
  · by_cases h2 : k + 2 < l.length
    · have hr := Crf.rrun_c (S l) (k + 1) true (by rw [size_S]; omega) (by rw [size_S]; exact hl) w
      rw [list_S, if_pos rfl] at hr
      have E : Hid (((headL (l.drop k)).2 == 3) = decide (2 ≤ (Crf.runN 16 (l.drop (k + 1)) : Int))) := by
        show _ = _
        rw [hd, hc, ← run_two, Bool.eq_iff_iff, decide_eq_true_eq, decide_eq_true_eq]
        omega
      have e1 : ((k + 1 : Nat) : Int) = (k : Int) + 1 := by omega
      rw [e1] at hr
      have hi2 : (k : Int) + 2 < (l.length : Int) := by omega
      have hli : (l.length : Int) ≤ 2305843009213693952 := by omega
      rw [hc] at h1
      clear hd hc
      generalize ((headL (l.drop k)).2 == 3) = ans at E ⊢
      generalize (Crf.runN 16 (l.drop (k + 1)) : Nat) = n at hr E
      go_enter Tryd.func37, Tryd.ntmps37
      go_wp2_with (first | (go_at_call 58; refine hr.mono ?_; rintro e w' ⟨rfl, rfl⟩))
      go_ret
      exact ⟨ret_bool (by rw [E.out]), rfl⟩
    · have E : Hid (((headL (l.drop k)).2 == 3) = false) := by
        show _ = _
        rw [hd, hc, head_short _ (by rw [List.length_drop]; omega)]
        rfl
      have hi2 : decide ((k : Int) + 2 < (l.length : Int)) = false := decide_eq_false (by omega)
      have hli : (l.length : Int) ≤ 2305843009213693952 := by omega
      rw [hc] at h1
      clear hd hc
      generalize ((headL (l.drop k)).2 == 3) = ans at E ⊢
      go_enter Tryd.func37, Tryd.ntmps37
      go_wp2_with fail
      go_ret
      exact ⟨ret_bool E.out.symm, rfl⟩
  · have E : Hid (((headL (l.drop k)).2 == 3) = false) := by
      show _ = _
      rw [hd, head_other _ _ hc]
      rfl
    have hb : ((l[k].toNat : Int) == 37) = false := by
      rw [beq_eq_false_iff_ne]
      intro e
      exact hc (UInt8.toNat_inj.1 (by show l[k].toNat = 37; omega))
    generalize ((headL (l.drop k)).2 == 3) = ans at E ⊢
    clear hd hc
    generalize l[k] = c at h1 hb
    go_enter Tryd.func37, Tryd.ntmps37
    go_wp2_with fail
    go_ret
    exact ⟨ret_bool E.out.symm, rfl⟩
end Go.Proofs.YtjchebnjbfhooaaDoor.Pct
