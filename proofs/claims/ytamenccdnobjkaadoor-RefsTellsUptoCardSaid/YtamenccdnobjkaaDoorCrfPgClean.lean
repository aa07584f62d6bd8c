/-
  Contract of the page's Clean.
-/
import Derived.Test.YtamenccdnobjkaaDoorCrfPgRow
namespace Go.Proofs.YtamenccdnobjkaaDoor.Crf
open Go.RowKit Go.Proofs.YtamenccdnobjkaaDoor.Oct Go.Proofs.YtamenccdnobjkaaDoor.Num Go.Proofs.YtamenccdnobjkaaDoor.Utf Go.Proofs.YtamenccdnobjkaaDoor.Mem
open Go.Lib (encodeRune)

/-- Contract of the page's Clean. -/
theorem rClean_c (s : ByteArray) (hs : s.size ≤ 4611686018427387904) (w : World) :
    Calls Tryd.prog 17 #[.string s] w fun e w' => e = .returned (.bool (cleanL s.data.toList)) ∧ w = w' := by
  have hh := fun c w => rhas_c s c hs w
  have h60 := fun w => hh 60 w
  have h62 := fun w => hh 62 w
  have h34 := fun w => hh 34 w
  have h39 := fun w => hh 39 w
  have HE : Hid (cleanL s.data.toList = (!hasB s.data.toList 60 && !hasB s.data.toList 62 && !hasB s.data.toList 34 && !hasB s.data.toList 39)) := by
    show _ = _
    generalize s.data.toList = l
    rw [Bool.eq_iff_iff]
    unfold cleanL hasB
    simp only [List.all_eq_true, Bool.and_eq_true, Bool.not_eq_true', Bool.or_eq_false_iff, beq_eq_false_iff_ne, List.contains_eq_mem, decide_eq_false_iff_not]
    constructor
    · intro h
      exact ⟨⟨⟨fun hm => (h _ hm).1.1.1 rfl, fun hm => (h _ hm).1.1.2 rfl⟩, fun hm => (h _ hm).1.2 rfl⟩, fun hm => (h _ hm).2 rfl⟩
    · rintro ⟨⟨⟨h1, h2⟩, h3⟩, h4⟩ x hx
      exact ⟨⟨⟨fun e => h1 (e ▸ hx), fun e => h2 (e ▸ hx)⟩, fun e => h3 (e ▸ hx)⟩, fun e => h4 (e ▸ hx)⟩
  clear hh
  have h60 : ∀ w : World, Calls Tryd.prog 36 #[.string s, .int .u8 60] w fun e w' => e = .returned (.bool (hasB s.data.toList 60)) ∧ w = w' := h60
  have h62 : ∀ w : World, Calls Tryd.prog 36 #[.string s, .int .u8 62] w fun e w' => e = .returned (.bool (hasB s.data.toList 62)) ∧ w = w' := h62
  have h34 : ∀ w : World, Calls Tryd.prog 36 #[.string s, .int .u8 34] w fun e w' => e = .returned (.bool (hasB s.data.toList 34)) ∧ w = w' := h34
  have h39 : ∀ w : World, Calls Tryd.prog 36 #[.string s, .int .u8 39] w fun e w' => e = .returned (.bool (hasB s.data.toList 39)) ∧ w = w' := h39
  generalize hasB s.data.toList 60 = b1 at h60 HE
  generalize hasB s.data.toList 62 = b2 at h62 HE
  generalize hasB s.data.toList 34 = b3 at h34 HE
  generalize hasB s.data.toList 39 = b4 at h39 HE
  cases b1 with
  | true =>
    go_enter Tryd.func17, Tryd.ntmps17
    go_wp2_with fail
    refine (h60 _).mono ?_
    rintro e w1 ⟨rfl, rfl⟩
    go_wp2_with fail
    go_ret
    exact ⟨by rw [HE.out]; rfl, rfl⟩
  | false =>
    cases b2 with
    | true =>
      go_enter Tryd.func17, Tryd.ntmps17
      go_wp2_with fail
      refine (h60 _).mono ?_
      rintro e w1 ⟨rfl, rfl⟩
      go_wp2_with fail
      refine (h62 _).mono ?_
      rintro e w2 ⟨rfl, rfl⟩
      go_wp2_with fail
      go_ret
      exact ⟨by rw [HE.out]; rfl, rfl⟩
    | false =>
      cases b3 with
      | true =>
        go_enter Tryd.func17, Tryd.ntmps17
        go_wp2_with fail
        refine (h60 _).mono ?_
        rintro e w1 ⟨rfl, rfl⟩
        go_wp2_with fail
        refine (h62 _).mono ?_
        rintro e w2 ⟨rfl, rfl⟩
        go_wp2_with fail
        refine (h34 _).mono ?_
        rintro e w3 ⟨rfl, rfl⟩
        go_wp2_with fail
        go_ret
        exact ⟨by rw [HE.out]; rfl, rfl⟩
      | false =>
        go_enter Tryd.func17, Tryd.ntmps17
        go_wp2_with fail
        refine (h60 _).mono ?_
        rintro e w1 ⟨rfl, rfl⟩
        go_wp2_with fail
        refine (h62 _).mono ?_
        rintro e w2 ⟨rfl, rfl⟩
        go_wp2_with fail
        refine (h34 _).mono ?_
        rintro e w3 ⟨rfl, rfl⟩
        go_wp2_with fail
        refine (h39 _).mono ?_
        rintro e w4 ⟨rfl, rfl⟩
        go_wp2_with fail
        go_ret
        exact ⟨by rw [HE.out]; simp, rfl⟩
end Go.Proofs.YtamenccdnobjkaaDoor.Crf
