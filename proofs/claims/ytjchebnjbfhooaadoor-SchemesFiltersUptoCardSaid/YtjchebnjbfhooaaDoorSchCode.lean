/-
  Contracts of Scheme, Allowed, Marker and Filter of package schemes.
-/
import Derived.Test.YtjchebnjbfhooaaDoorSchRune
import Derived.Test.YtjchebnjbfhooaaDoorPctCalls
import Derived.Test.YtjchebnjbfhooaaDoorOctTexts
namespace Go.Proofs.YtjchebnjbfhooaaDoor.Sch
open Go.RowKit Go.Proofs.YtjchebnjbfhooaaDoor.Oct Go.Proofs.YtjchebnjbfhooaaDoor.Utf Go.Proofs.YtjchebnjbfhooaaDoor.Pct

theorem sclone_c (s : ByteArray) (hs : s.size ≤ 140737488351232) (w : World) :
    Calls Tryd.prog 17 #[.string s] w fun e w' => e = .returned (.string s) ∧ Below w.heap.size w w' := by
  go_enter Tryd.func17, Tryd.ntmps17
  go_wp2_with (go_at_call 24; refine (Tryd.stringslite_Clone _ _ (by omega)).mono ?_; rintro e w' ⟨rfl, hb⟩)
  go_ret
  exact ⟨rfl, hb⟩

set_option maxRecDepth 100000 in
/-- Contract of Scheme: the text may be longer than what stands ahead of the end. -/
theorem scheme_g (l : List UInt8) (hl : l.length ≤ 4611686018427387904) (hsl : ∀ k, schL l = some k → k ≤ 140737488351232) (w : World) :
    Calls Tryd.prog 6 #[.string (S l)] w fun e w' => e = .returned (.tuple #[.string (S (schemeL l).1), .bool (schemeL l).2]) ∧ Below w.heap.size w w' := by
  have hsz : ((S l).size : Int) = (l.length : Int) := by rw [size_S]
  rcases first_m l with h | ⟨k, hk, h1, h2⟩
  · have hf := fun w => find_none l h w
    have E : Hid (schemeL l = ([], false)) := by
      show _ = _
      have h3 := noM_take h
      rw [List.take_length] at h3
      exact scheme_none (by rw [marks_none h3]; simp)
    clear hl h hsl
    generalize S l = L at hf hsz
    go_enter Tryd.func6, Tryd.ntmps6
    go_wp2_with (first | (go_at_call 14; refine (hf _).mono ?_; rintro e w2 ⟨rfl, hb2⟩))
    go_ret2
    exact ⟨by rw [E.out]; rfl, hb2⟩
  · have hf := fun w => find_some l k hk h1 h2 w
    have hone := at_S' l k hk
    have hto := (cutTo (S l) k).trans (by rw [list_S] : S ((S l).data.toList.take k) = S (l.take k))
    have HS : l = l.take k ++ l[k] :: l.drop (k + 1) := by rw [← List.drop_eq_getElem_cons hk, List.take_append_drop]
    have hno := noM_take h1
    have j0 : (0 : Int) ≤ (k : Int) := by omega
    have j1 : (k : Int) < (l.length : Int) := by omega
    have j2 : (k : Int) ≤ (l.length : Int) := by omega
    have jn : ¬ ((k : Int) < 0) := by omega
    by_cases h58 : l[k] = 58
    · have hkk : k ≤ 140737488351232 := by
        refine hsl k ?_
        rw [h58] at HS
        rw [HS, sch_at _ _ hno, List.length_take]
        congr 1
        omega
      have hlow := fun w => lower_c (S (l.take k)) w (by rw [size_S, List.length_take]; omega)
      simp only at hlow
      have hcl := fun w => sclone_c (S ((l.take k).map low)) (by rw [size_S, List.length_map, List.length_take]; omega) w
      have E : Hid (schemeL l = ((l.take k).map low, true)) := by
        show _ = _
        rw [h58] at HS
        conv => lhs; rw [HS]
        exact scheme_at _ _ hno
      have hb : (((l[k]).toNat : Int) != 58) = false := by rw [h58]; rfl
      clear h58 h1 HS h2 hno
      generalize l[k] = c at hone hb
      simp only [← hto] at hlow
      clear hto
      have hli : (l.length : Int) ≤ 4611686018427387904 := by omega
      generalize (l.take k).map low = M at hlow hcl E
      clear hl hsl
      go_enter Tryd.func6, Tryd.ntmps6
      go_wp2_with (first
        | (go_at_call 14; refine (hf _).mono ?_; rintro e w2 ⟨rfl, hb2⟩))
      refine (hlow _).mono ?_
      rintro e w3 ⟨rfl, hb3⟩
      have B3 := Lib.hid (hb2.trans (hb3.mono hb2.size))
      clear hb2 hb3 hf hlow
      go_wp2_with (first
        | (go_at_call 17; refine (hcl _).mono ?_; rintro e w4 ⟨rfl, hb4⟩))
      go_ret2
      exact ⟨by rw [E.out]; rfl, B3.out.trans (hb4.mono B3.out.size)⟩
    · have hm : l[k] = 47 ∨ l[k] = 63 ∨ l[k] = 35 := by
        rcases of_decide_eq_true h2 with h | h
        · exact absurd h h58
        · exact h
      have E : Hid (schemeL l = ([], false)) := by
        show _ = _
        conv => lhs; rw [HS]
        exact hidden _ _ _ hno hm
      have hb : (((l[k]).toNat : Int) != 58) = true := by
        rcases hm with h | h | h <;> rw [h] <;> rfl
      have hli : (l.length : Int) ≤ 4611686018427387904 := by omega
      clear h58 h1 HS h2 hno hm hto
      generalize l[k] = c at hone hb
      clear hl hsl
      go_enter Tryd.func6, Tryd.ntmps6
      go_wp2_with (first
        | (go_at_call 14; refine (hf _).mono ?_; rintro e w2 ⟨rfl, hb2⟩))
      go_ret2
      exact ⟨by rw [E.out]; rfl, hb2⟩

theorem scheme_c (l : List UInt8) (hl : l.length ≤ 140737488351232) (w : World) :
    Calls Tryd.prog 6 #[.string (S l)] w fun e w' => e = .returned (.tuple #[.string (S (schemeL l).1), .bool (schemeL l).2]) ∧ Below w.heap.size w w' :=
  scheme_g l (by omega) (fun k h => by have := sch_le h; omega) w

theorem allowed_c (l : List UInt8) (w : World) :
    Calls Tryd.prog 8 #[.string (S l)] w fun e w' => e = .returned (.bool (allowL l)) ∧ w = w' := by
  have e1 : ((S l).toList == [104, 116, 116, 112]) = decide (l = httpL) := eqL l httpL
  have e2 : ((S l).toList == [104, 116, 116, 112, 115]) = decide (l = httpsL) := eqL l httpsL
  have e3 : ((S l).toList == [109, 97, 105, 108, 116, 111]) = decide (l = mailtoL) := eqL l mailtoL
  have E : Hid (allowL l = (decide (l = httpL) || (decide (l = httpsL) || decide (l = mailtoL)))) := by
    show _ = _
    unfold allowL
    rw [Bool.eq_iff_iff]
    simp
  generalize decide (l = httpL) = b1 at e1 E
  generalize decide (l = httpsL) = b2 at e2 E
  generalize decide (l = mailtoL) = b3 at e3 E
  generalize allowL l = ans at E ⊢
  generalize S l = T at e1 e2 e3
  cases b1 with
  | true =>
    go_enter Tryd.func8, Tryd.ntmps8
    go_wp2_with fail
    go_ret
    exact ⟨ret_bool (by rw [E.out]; rfl), rfl⟩
  | false =>
    cases b2 with
    | true =>
      go_enter Tryd.func8, Tryd.ntmps8
      go_wp2_with fail
      go_ret
      exact ⟨ret_bool (by rw [E.out]; rfl), rfl⟩
    | false =>
      cases b3 with
      | true =>
        go_enter Tryd.func8, Tryd.ntmps8
        go_wp2_with fail
        go_ret
        exact ⟨ret_bool (by rw [E.out]; rfl), rfl⟩
      | false =>
        go_enter Tryd.func8, Tryd.ntmps8
        go_wp2_with fail
        go_ret
        exact ⟨ret_bool (by rw [E.out]; rfl), rfl⟩

theorem marker_c (w : World) :
    Calls Tryd.prog 12 #[] w fun e w' => e = .returned (.string (S markL)) ∧ Below w.heap.size w w' := by
  have hcl := fun w => sclone_c (S markL) (by decide) w
  go_enter Tryd.func12, Tryd.ntmps12
  go_wp2_with (first | (go_at_call 17; refine (hcl _).mono ?_; rintro e w2 ⟨rfl, hb2⟩))
  go_ret
  exact ⟨rfl, hb2⟩

set_option maxHeartbeats 1000000 in
set_option maxRecDepth 100000 in
theorem filter_c (s : ByteArray) (hs : s.size ≤ 1099511627776) (w : World) (hT : Tabs w) :
    Calls Tryd.prog 10 #[.string s] w fun e w' => e = .returned (.string (S (filtL s.data.toList))) ∧ Below w.heap.size w w' := by
  have h1 : Calls Tryd.prog 6 #[.string s] w fun e w' => e = .returned (.tuple #[.string (S (schemeL s.data.toList).1), .bool (schemeL s.data.toList).2]) ∧ Below w.heap.size w w' := by
    have h := scheme_c s.data.toList (by rw [size_list]; omega) w
    rw [S_list] at h
    exact h
  have h2 := fun w => allowed_c (schemeL s.data.toList).1 w
  have H3 := Lib.hid (fun W (h : Below w.heap.size w W) => normal_c s hs W (hT.kept h))
  have h4 := marker_c
  have E : Hid (filtL s.data.toList = if (schemeL s.data.toList).2 = true ∧ allowL (schemeL s.data.toList).1 = false then markL else norL (rep s.data.toList)) := rfl
  generalize norL (rep s.data.toList) = N at H3 E
  generalize filtL s.data.toList = ans at E ⊢
  generalize (schemeL s.data.toList).2 = is at h1 E
  generalize (schemeL s.data.toList).1 = t at h1 h2 E
  generalize allowL t = al at h2 E
  generalize S t = T at h1 h2
  clear hT hs
  cases is with
  | false =>
    have E2 : Hid (ans = N) := by show _ = _; rw [E.out, if_neg (by simp)]
    clear h2
    go_enter Tryd.func10, Tryd.ntmps10
    go_wp2_with fail
    refine h1.mono ?_
    rintro e w1 ⟨rfl, hb1⟩
    have B1 := Lib.hid hb1
    have h3 := H3.out w1 hb1
    clear hb1
    go_wp2_with fail
    refine h3.mono ?_
    rintro e w2 ⟨rfl, hb2⟩
    go_wp2_with fail
    go_ret
    exact ⟨by rw [E2.out]; rfl, B1.out.trans (hb2.mono B1.out.size)⟩
  | true =>
    cases al with
    | false =>
      have E2 : Hid (ans = markL) := by show _ = _; rw [E.out, if_pos (by simp)]
      clear H3
      go_enter Tryd.func10, Tryd.ntmps10
      go_wp2_with fail
      refine h1.mono ?_
      rintro e w1 ⟨rfl, hb1⟩
      have B1 := Lib.hid hb1
      clear hb1
      go_wp2_with (first
        | (go_at_call 8; refine (h2 _).mono ?_; rintro e w2 ⟨rfl, rfl⟩)
        | (go_at_call 12; refine (h4 _).mono ?_; rintro e w3 ⟨rfl, hb3⟩))
      go_ret
      exact ⟨by rw [E2.out]; rfl, B1.out.trans (hb3.mono B1.out.size)⟩
    | true =>
      have E2 : Hid (ans = N) := by show _ = _; rw [E.out, if_neg (by simp)]
      go_enter Tryd.func10, Tryd.ntmps10
      go_wp2_with fail
      refine h1.mono ?_
      rintro e w1 ⟨rfl, hb1⟩
      have B1 := Lib.hid hb1
      have h3 := H3.out w1 hb1
      clear hb1
      go_wp2_with (first | (go_at_call 8; refine (h2 _).mono ?_; rintro e w2 ⟨rfl, rfl⟩))
      refine h3.mono ?_
      rintro e w3 ⟨rfl, hb3⟩
      go_wp2_with fail
      go_ret
      exact ⟨by rw [E2.out]; rfl, B1.out.trans (hb3.mono B1.out.size)⟩
end Go.Proofs.YtjchebnjbfhooaaDoor.Sch
