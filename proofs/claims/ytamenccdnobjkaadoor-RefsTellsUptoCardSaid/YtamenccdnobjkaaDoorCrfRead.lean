/-
  Contracts of read, One and Unfinished of package refs.
-/
import Derived.Test.YtamenccdnobjkaaDoorCrfStands
namespace Go.Proofs.YtamenccdnobjkaaDoor.Crf
open Go.RowKit Go.Proofs.YtamenccdnobjkaaDoor.Oct Go.Proofs.YtamenccdnobjkaaDoor.Num Go.Proofs.YtamenccdnobjkaaDoor.Utf
open Go.Lib (encodeRune)

theorem amp_head (l : List UInt8) : Lib.hasPrefix l [38] = decide (l.head? = some 38) := by
  cases l with
  | nil => rfl
  | cons a l =>
    by_cases h : a = 38
    · subst h; rfl
    · simp [Lib.hasPrefix, List.isPrefixOf, h, Ne.symm h]
theorem amp_trim (l : List UInt8) : Lib.trimPrefix l [38] = if l.head? = some 38 then l.tail else l := by
  unfold Lib.trimPrefix
  rw [amp_head]
  by_cases h : l.head? = some 38
  · simp [h]
  · simp [h]
theorem cutAmp_c (l : List UInt8) (w : World) : Calls Tryd.prog 32 #[.string (S l), .string ⟨#[38]⟩] w fun e w' => e = .returned (.tuple #[.string (S (if l.head? = some 38 then l.tail else l)), .bool (decide (l.head? = some 38))]) ∧ w' = w := by
  have := Tryd.strings_CutPrefix (S l) (S [38]) w
  rw [list_S, list_S, amp_head, amp_trim] at this
  exact this

/-- What read makes of what stands behind the & (r: at most ten octets). -/
def oneR (r : List UInt8) : List UInt8 × Nat := if 59 ∈ r ∧ refR (innerOf r) ≠ [] then (refR (innerOf r), (innerOf r).length + 2) else ([], 0)
theorem one_amp {l : List UInt8} (h : l.head? = some 38) : oneL l = oneR (l.tail.take 10) := by
  cases l with
  | nil => cases h
  | cons a t =>
    rw [List.head?_cons] at h
    injection h with h
    subst h
    rfl

set_option maxHeartbeats 4000000 in
set_option maxRecDepth 100000 in
/-- What stands behind the cut at the &: whatever begins. -/
theorem read_c (l : List UInt8) (hl : l.length ≤ 4611686018427387904) (w : World) :
    Calls Tryd.prog 23 #[.string (S l)] w fun e w' => e = .returned (.tuple #[.string (S (oneL l).1), .int .i64 ((oneL l).2 : Int)]) ∧ Below w.heap.size w w' := by
  obtain ⟨m, hm⟩ : ∃ m, m = min l.length 11 := ⟨_, rfl⟩
  have hcutS : (S l).extract 0 m = S (l.take m) := by rw [cutTo, list_S]
  have hmin : min ((S l).size : Int) 11 = (m : Int) := by rw [size_S, hm]; omega
  have hm0 : (0 : Int) ≤ (m : Int) := by omega
  have hm1 : (m : Int) ≤ ((S l).size : Int) := by rw [size_S]; omega
  have hcp := fun w => cutAmp_c (l.take m) w
  have hhd : (l.take m).head? = l.head? := by
    cases l with
    | nil => rw [List.take_nil]
    | cons a t =>
      have : m = (m - 1) + 1 := by rw [List.length_cons] at hm; omega
      rw [this, List.take_succ_cons]
      rfl
  rw [hhd] at hcp
  obtain ⟨r, hr⟩ : ∃ r, r = (if l.head? = some 38 then (l.take m).tail else l.take m) := ⟨_, rfl⟩
  rw [← hr] at hcp
  have hrl : r.length ≤ 11 := by
    rw [hr]
    split
    · rw [List.length_tail, List.length_take]; omega
    · rw [List.length_take]; omega
  have hO : Hid (l.head? = some 38 → oneL l = oneR r) := fun h => by
    have e : r = l.tail.take 10 := by
      rw [hr, if_pos h]
      cases l with
      | nil => cases h
      | cons a t =>
        rw [hm, List.length_cons, List.tail_cons]
        by_cases ht : t.length ≤ 10
        · rw [List.take_of_length_le (by rw [List.length_cons]; omega), List.take_of_length_le ht]; rfl
        · rw [show min (t.length + 1) 11 = 10 + 1 by omega, List.take_succ_cons]; rfl
    rw [one_amp h, e]
  have hO0 : Hid (l.head? ≠ some 38 → oneL l = ([], 0)) := one_none_head
  have HS := Lib.hid (fun i (h : i.length ≤ 11) w => stands_c i (by omega) w)
  have key : ∀ (i : List UInt8) (hi : i.length ≤ 11), Hid (∀ w, Calls Tryd.prog 39 #[.string (S i)] w fun e w' => e = .returned (.string (S (refR i))) ∧ Below w.heap.size w w') := fun i hi w => HS.out i hi w
  clear hhd hm hr
  generalize hL : S l = L at hcutS hmin hm1
  have HL := Lib.hid hL
  have hcutL := hcutS
  generalize l.take m = lm at hcutL hcutS hcp
  generalize S lm = LM at hcutL hcutS hcp
  clear hL hcutS
  -- is there an end
  by_cases h59 : 59 ∈ r
  · have hct := fun w => cut_yes r h59 (by omega) w
    have hil := inner_len r h59
    have hin := (key (innerOf r) (by omega)).out
    have hisz : ((S (innerOf r)).size : Int) = ((innerOf r).length : Int) := by rw [size_S]
    have hlen : ((innerOf r).length : Int) ≤ 11 := by omega
    have H59 := Lib.hid h59
    generalize S (r.drop ((innerOf r).length + 1)) = R2 at hct
    generalize hI : S (innerOf r) = I at hct hin hisz
    generalize hR : S r = R at hcp hct
    by_cases hok : l.head? = some 38
    · have hO1 : Hid (oneL l = oneR r) := hO.out hok
      rw [decide_eq_true hok] at hcp
      by_cases hst : refR (innerOf r) = []
      · have HE : Hid (oneL l = ([], 0)) := by
          show _ = _
          rw [hO1.out]; unfold oneR; rw [if_neg (fun h => h.2 hst)]
        rw [hst] at hin
        clear h59 hil hI hR hok hst hlen
        generalize (innerOf r).length = il at hisz
        go_enter Tryd.func23, Tryd.ntmps23
        go_wp2_with fail
        refine (hcp _).mono ?_
        rintro e w1 ⟨rfl, rfl⟩
        go_wp2_with fail
        refine (hct _).mono ?_
        rintro e w2 ⟨rfl, hb2⟩
        go_wp2_with fail
        refine (hin _).mono ?_
        rintro e w3 ⟨rfl, hb3⟩
        go_wp2_with fail
        go_ret2
        exact ⟨by rw [HE.out]; rfl, hb2.trans (hb3.mono hb2.size)⟩
      · have HE : Hid (oneL l = (refR (innerOf r), (innerOf r).length + 2)) := by
          show _ = _
          rw [hO1.out]; unfold oneR; rw [if_pos ⟨h59, hst⟩]
        have hne : (S (refR (innerOf r))).toList.isEmpty = false := by
          rw [ByteArray.toList_eq, list_S, List.isEmpty_eq_false_iff]; exact hst
        generalize hst2 : S (refR (innerOf r)) = ST at hin hne
        have HST := Lib.hid hst2
        clear h59 hil hI hR hok hst hst2
        generalize hilq : (innerOf r).length = il at hisz hlen
        have HIL := Lib.hid hilq
        clear hilq
        go_enter Tryd.func23, Tryd.ntmps23
        go_wp2_with fail
        refine (hcp _).mono ?_
        rintro e w1 ⟨rfl, rfl⟩
        go_wp2_with fail
        refine (hct _).mono ?_
        rintro e w2 ⟨rfl, hb2⟩
        go_wp2_with fail
        refine (hin _).mono ?_
        rintro e w3 ⟨rfl, hb3⟩
        go_wp2_with fail
        go_ret2
        refine ⟨?_, hb2.trans (hb3.mono hb2.size)⟩
        rw [HE.out, ← HST.out, HIL.out]
        exact congrArg (fun z => Ending.returned (.tuple #[.string (S (refR (innerOf r))), .int .i64 z])) (by omega : (1 : Int) + (il : Int) + 1 = ((il + 2 : Nat) : Int))
    · have HE : Hid (oneL l = ([], 0)) := hO0.out hok
      rw [decide_eq_false hok] at hcp
      generalize S (refR (innerOf r)) = ST at hin
      clear h59 hil hI hR hok hlen
      generalize (innerOf r).length = il at hisz
      go_enter Tryd.func23, Tryd.ntmps23
      go_wp2_with fail
      refine (hcp _).mono ?_
      rintro e w1 ⟨rfl, rfl⟩
      go_wp2_with fail
      refine (hct _).mono ?_
      rintro e w2 ⟨rfl, hb2⟩
      go_wp2_with fail
      refine (hin _).mono ?_
      rintro e w3 ⟨rfl, hb3⟩
      go_wp2_with fail
      go_ret2
      exact ⟨by rw [HE.out]; rfl, hb2.trans (hb3.mono hb2.size)⟩
  · have hct := fun w => cut_no r h59 w
    have hin := (key r hrl).out
    have HE : Hid (oneL l = ([], 0)) := by
      show _ = _
      by_cases hok : l.head? = some 38
      · rw [hO.out hok]; unfold oneR; rw [if_neg (fun h => h59 h.1)]
      · exact hO0.out hok
    generalize S (refR r) = ST at hin
    generalize S r = R at hcp hct hin
    clear h59
    cases hok : decide (l.head? = some 38) with
    | true =>
      rw [hok] at hcp
      clear hok
      go_enter Tryd.func23, Tryd.ntmps23
      go_wp2_with fail
      refine (hcp _).mono ?_
      rintro e w1 ⟨rfl, rfl⟩
      go_wp2_with fail
      refine (hct _).mono ?_
      rintro e w2 ⟨rfl, hb2⟩
      go_wp2_with fail
      refine (hin _).mono ?_
      rintro e w3 ⟨rfl, hb3⟩
      go_wp2_with fail
      go_ret2
      exact ⟨by rw [HE.out]; rfl, hb2.trans (hb3.mono hb2.size)⟩
    | false =>
      rw [hok] at hcp
      clear hok
      go_enter Tryd.func23, Tryd.ntmps23
      go_wp2_with fail
      refine (hcp _).mono ?_
      rintro e w1 ⟨rfl, rfl⟩
      go_wp2_with fail
      refine (hct _).mono ?_
      rintro e w2 ⟨rfl, hb2⟩
      go_wp2_with fail
      refine (hin _).mono ?_
      rintro e w3 ⟨rfl, hb3⟩
      go_wp2_with fail
      go_ret2
      exact ⟨by rw [HE.out]; rfl, hb2.trans (hb3.mono hb2.size)⟩

theorem stand_len (n : Nat) : (standL n).length ≤ 4 := by
  unfold standL
  split
  · exact (enc_len (n : Int)).2
  · simp
theorem ref_len (l : List UInt8) : (refR l).length ≤ 4 := by
  unfold refR
  split
  · rename_i h
    rcases name_cases h with rfl | rfl | rfl | rfl | rfl <;> decide
  · cases numR l with
    | none => simp
    | some q =>
      obtain ⟨n, d⟩ := q
      simp only
      split
      · simp
      · exact stand_len n
theorem one_slen (l : List UInt8) : (oneL l).1.length ≤ 4 := by
  by_cases h : (oneL l).2 = 0
  · rw [one_zero h]; simp
  · obtain ⟨i, t, _, _, e⟩ := one_some h
    rw [e]
    exact ref_len i

/-- Contract of One. -/
theorem one_c (l : List UInt8) (hl : l.length ≤ 4611686018427387904) (w : World) :
    Calls Tryd.prog 8 #[.string (S l)] w fun e w' => e = .returned (.tuple #[.string (S (oneL l).1), .int .i64 ((oneL l).2 : Int)]) ∧ Below w.heap.size w w' := by
  have hr := fun w => read_c l hl w
  have hcl := fun w => clone_c (S (oneL l).1) w (by rw [size_S]; have := one_slen l; omega)
  generalize S (oneL l).1 = R at hr hcl
  generalize ((oneL l).2 : Int) = n at hr
  generalize S l = L at hr
  go_enter Tryd.func8, Tryd.ntmps8
  go_wp2_with fail
  refine (hr _).mono ?_
  rintro e w1 ⟨rfl, hb1⟩
  go_wp2_with fail
  refine (hcl _).mono ?_
  rintro e w2 ⟨rfl, hb2⟩
  go_wp2_with fail
  go_ret2
  exact ⟨rfl, hb1.trans (hb2.mono hb1.size)⟩

/-- Contract of Unfinished. -/
theorem unf_c (l : List UInt8) (hl : l.length ≤ 4611686018427387904) (w : World) :
    Calls Tryd.prog 14 #[.string (S l)] w fun e w' => e = .returned (.bool (unfL l)) ∧ Below w.heap.size w w' := by
  have hcp := fun w => cutAmp_c l w
  by_cases hok : l.head? = some 38
  · obtain ⟨t, rfl⟩ : ∃ t, l = 38 :: t := by
      cases l with
      | nil => cases hok
      | cons a t => rw [List.head?_cons] at hok; injection hok with hok; subst hok; exact ⟨t, rfl⟩
    have e1 : (if (38 :: t).head? = some 38 then (38 :: t).tail else 38 :: t) = t := by simp
    rw [decide_eq_true hok, e1] at hcp
    have h1 := fun w => begName_c t w
    have h2 := fun w => begNumber_c t (by rw [List.length_cons] at hl; omega) w
    have HE : Hid (unfL (38 :: t) = (begName t || (numR t).isSome)) := rfl
    generalize S (38 :: t) = L at hcp
    generalize S t = T at hcp h1 h2
    clear hok e1
    cases hb : begName t with
    | true =>
      rw [hb] at h1 HE
      clear hb
      go_enter Tryd.func14, Tryd.ntmps14
      go_wp2_with fail
      refine (hcp _).mono ?_
      rintro e w1 ⟨rfl, rfl⟩
      go_wp2_with fail
      refine (h1 _).mono ?_
      rintro e w2 ⟨rfl, hb2⟩
      go_wp2_with fail
      go_ret
      exact ⟨by rw [HE.out]; rfl, hb2⟩
    | false =>
      rw [hb] at h1 HE
      clear hb
      generalize (numR t).isSome = q at h2 HE
      go_enter Tryd.func14, Tryd.ntmps14
      go_wp2_with fail
      refine (hcp _).mono ?_
      rintro e w1 ⟨rfl, rfl⟩
      go_wp2_with fail
      refine (h1 _).mono ?_
      rintro e w2 ⟨rfl, hb2⟩
      go_wp2_with fail
      refine (h2 _).mono ?_
      rintro e w3 ⟨rfl, hb3⟩
      go_wp2_with fail
      go_ret
      exact ⟨by rw [HE.out]; simp, hb2.trans (hb3.mono hb2.size)⟩
  · rw [decide_eq_false hok] at hcp
    have HE : Hid (unfL l = false) := by
      show _ = _
      unfold unfL
      split
      · simp at hok
      · rfl
    generalize S (if l.head? = some 38 then l.tail else l) = T at hcp
    generalize S l = L at hcp
    clear hok
    go_enter Tryd.func14, Tryd.ntmps14
    go_wp2_with fail
    refine (hcp _).mono ?_
    rintro e w1 ⟨rfl, rfl⟩
    go_wp2_with fail
    go_ret
    exact ⟨by rw [HE.out]; rfl, Below.refl _ _⟩
end Go.Proofs.YtamenccdnobjkaaDoor.Crf
