/-
  Contracts of leads, grown and step of package urlscan.
-/
import Derived.Test.YtomclpaedbgdfaaSchCodA
import Derived.Test.YtomclpaedbgdfaaUscPure
namespace Go.Proofs.Ytomclpaedbgdfaa.Usc
open Go.RowKit Go.Proofs.Ytomclpaedbgdfaa.Oct Go.Proofs.Ytomclpaedbgdfaa.Utf Go.Proofs.Ytomclpaedbgdfaa.Pct Go.Proofs.Ytomclpaedbgdfaa.Sch

/-- Where an octet leads to from a part. -/
def leadU (part : Int) (l : List UInt8) (c : UInt8) : Int :=
  if c = 47 then 2 else if askB c = true then 3 else if c = 58 then (if allowL l = true then 2 else 5) else part

theorem leads_c (part : Int) (l : List UInt8) (c : UInt8) (w : World) :
    Calls Try.prog 13 #[.int .i64 part, .string (S l), .int .u8 (c.toNat : Int)] w fun e w' => e = .returned (.int .i64 (leadU part l c)) ∧ w = w' := by
  have ha := fun w => allowed_c l w
  have e1 : Hid (c = 47 → leadU part l c = 2) := fun h => by subst h; rfl
  have e2 : Hid (c = 63 → leadU part l c = 3) := fun h => by subst h; rfl
  have e3 : Hid (c = 35 → leadU part l c = 3) := fun h => by subst h; rfl
  have e4 : Hid (c = 58 → leadU part l c = if allowL l = true then 2 else 5) := fun h => by subst h; rfl
  have e5 : Hid (c ≠ 47 → c ≠ 63 → c ≠ 35 → c ≠ 58 → leadU part l c = part) := fun h1 h2 h3 h4 => by
    unfold leadU
    rw [if_neg h1, if_neg (by unfold askB; simp; exact ⟨h2, h3⟩), if_neg h4]
  have hcb : (c.toNat : Int) ≤ 255 := by have := c.toNat_lt; omega
  generalize leadU part l c = ans at e1 e2 e3 e4 e5 ⊢
  generalize allowL l = al at ha e4
  generalize S l = L at ha ⊢
  by_cases h47 : c = 47
  · have hb : ((c.toNat : Int) == 47) = true := by rw [h47]; rfl
    have E := Lib.hid (e1.out h47)
    clear h47 e1 e2 e3 e4 e5
    go_enter Try.func13, Try.ntmps13
    go_wp2_with fail
    go_ret
    exact ⟨by rw [E.out]; rfl, rfl⟩
  have b47 : ((c.toNat : Int) == 47) = false := oct_ne (n := 47) h47 (by decide)
  by_cases h63 : c = 63
  · have hb : ((c.toNat : Int) == 63) = true := by rw [h63]; rfl
    have E := Lib.hid (e2.out h63)
    clear h47 h63 e1 e2 e3 e4 e5
    go_enter Try.func13, Try.ntmps13
    go_wp2_with fail
    go_ret
    exact ⟨by rw [E.out]; rfl, rfl⟩
  have b63 : ((c.toNat : Int) == 63) = false := oct_ne (n := 63) h63 (by decide)
  by_cases h35 : c = 35
  · have hb : ((c.toNat : Int) == 35) = true := by rw [h35]; rfl
    have E := Lib.hid (e3.out h35)
    clear h47 h63 h35 e1 e2 e3 e4 e5
    go_enter Try.func13, Try.ntmps13
    go_wp2_with fail
    go_ret
    exact ⟨by rw [E.out]; rfl, rfl⟩
  have b35 : ((c.toNat : Int) == 35) = false := oct_ne (n := 35) h35 (by decide)
  by_cases h58 : c = 58
  · have hb : ((c.toNat : Int) == 58) = true := by rw [h58]; rfl
    have E := Lib.hid (e4.out h58)
    clear h47 h63 h35 h58 e1 e2 e3 e4 e5
    cases al with
    | true =>
      go_enter Try.func13, Try.ntmps13
      go_wp2_with (go_at_call 16; refine (ha _).mono ?_; rintro e w2 ⟨rfl, rfl⟩)
      go_ret
      exact ⟨by rw [E.out]; rfl, rfl⟩
    | false =>
      go_enter Try.func13, Try.ntmps13
      go_wp2_with (go_at_call 16; refine (ha _).mono ?_; rintro e w2 ⟨rfl, rfl⟩)
      go_ret
      exact ⟨by rw [E.out]; rfl, rfl⟩
  have b58 : ((c.toNat : Int) == 58) = false := oct_ne (n := 58) h58 (by decide)
  have E := Lib.hid (e5.out h47 h63 h35 h58)
  clear h47 h63 h35 h58 e1 e2 e3 e4 e5
  go_enter Try.func13, Try.ntmps13
  go_wp2_with fail
  go_ret
  exact ⟨by rw [E.out]; rfl, rfl⟩

theorem conv_one (w : World) (c : UInt8) : (convert 33 9 (.slice (some ⟨w.heap.size, 0, none⟩) 1 1)).run Try.prog (w.alloc (.cells #[.int .u8 (c.toNat : Int)] 5)) = .ok (.string (S [c])) (w.alloc (.cells #[.int .u8 (c.toNat : Int)] 5)) := by
  refine Oct.conv_own (base := w.heap.size) (n := 1) ?_
  exact ⟨rfl, .inr ⟨w.heap.size, 1, #[.int .u8 (c.toNat : Int)], rfl, Nat.le_refl _, heap_alloc_new w _, Nat.le_refl _, by decide, rfl, rfl⟩⟩
theorem grown_c (l : List UInt8) (c : UInt8) (hl : l.length ≤ 140737488351232) (w : World) :
    Calls Try.prog 14 #[.string (S l), .int .u8 (c.toNat : Int)] w fun e w' => e = .returned (.string (S (if l.length < 16 then l ++ [low c] else l))) ∧ Below w.heap.size w w' := by
  have hsz : ((S l).size : Int) = (l.length : Int) := by rw [size_S]
  by_cases hlt : l.length < 16
  · rw [if_pos hlt]
    have hz : ¬ ((16 : Int) ≤ (l.length : Int)) := by omega
    have hlow := fun w => lower_c (S [c]) w (by rw [size_S, List.length_singleton]; omega)
    rw [list_S] at hlow
    have hcv := conv_one w c
    have hlow : ∀ w, Calls Try.prog 17 #[.string (S [c])] w fun e w' => e = .returned (.string (S [low c])) ∧ Below w.heap.size w w' := hlow
    generalize S [c] = T at hcv hlow
    generalize (c.toNat : Int) = n at hcv ⊢
    have ha : S l ++ S [low c] = S (l ++ [low c]) := S_append l [low c]
    have z1 : (S l).size ≤ 16 := by rw [size_S]; omega
    have z2 : (S [low c]).size ≤ 1 := by rw [size_S]; simp
    generalize S (l ++ [low c]) = X at ha ⊢
    generalize S [low c] = Y at ha hlow z2
    generalize S l = L at ha hsz z1 ⊢
    go_enter Try.func14, Try.ntmps14
    go_wp2_with fail
    refine (hlow _).mono ?_
    rintro e w1 ⟨rfl, hb1⟩
    go_wp2_with fail
    go_ret
    exact ⟨rfl, ((Below.refl _ w).alloc (Nat.le_refl _) _).trans (hb1.mono (by simp))⟩
  · rw [if_neg hlt]
    have hz : ((16 : Int) ≤ (l.length : Int)) := by omega
    clear hlt hl
    generalize S l = L at hsz ⊢
    go_enter Try.func14, Try.ntmps14
    go_wp2_with fail
    go_ret
    exact ⟨rfl, Below.refl _ _⟩

theorem head_lead (l : List UInt8) (c : UInt8) : headU l c = if leadU 1 l c = 1 then (1, if l.length < 16 then l ++ [low c] else l) else (leadU 1 l c, []) := by
  unfold headU leadU
  by_cases h1 : c = 47
  · rw [if_pos h1, if_pos h1]; rfl
  rw [if_neg h1, if_neg h1]
  by_cases h2 : askB c = true
  · rw [if_pos h2, if_pos h2]; rfl
  rw [if_neg h2, if_neg h2]
  by_cases h3 : c = 58
  · rw [if_pos h3, if_pos h3]
    cases allowL l <;> rfl
  · rw [if_neg h3, if_neg h3, if_pos rfl]

theorem step1_c (l : List UInt8) (c : UInt8) (hl : l.length ≤ 140737488351232) (w : World) :
    Calls Try.prog 10 #[.int .i64 1, .string (S l), .int .u8 (c.toNat : Int)] w fun e w' => e = .returned (.tuple #[.int .i64 (headU l c).1, .string (S (headU l c).2)]) ∧ Below w.heap.size w w' := by
  have hld := fun w => leads_c 1 l c w
  have hgr := fun w => grown_c l c hl w
  have E := Lib.hid (head_lead l c)
  have hcb : (c.toNat : Int) ≤ 255 := by have := c.toNat_lt; omega
  generalize (c.toNat : Int) = n at hld hgr hcb ⊢
  generalize headU l c = ans at E ⊢
  generalize (if l.length < 16 then l ++ [low c] else l) = g at hgr E
  generalize leadU 1 l c = p at hld E
  generalize S l = L at hld hgr ⊢
  by_cases hp : p = 1
  · have E2 := Lib.hid (E.out.trans (if_pos hp))
    subst hp
    clear E
    go_enter Try.func10, Try.ntmps10
    go_wp2_with (go_at_call 13; refine (hld _).mono ?_; rintro e w2 ⟨rfl, rfl⟩)
    refine (hgr _).mono ?_
    rintro e w2 ⟨rfl, hb2⟩
    go_wp2_with fail
    go_ret2
    exact ⟨by rw [E2.out]; rfl, hb2⟩
  · have E2 := Lib.hid (E.out.trans (if_neg hp))
    have hb : (p != 1) = true := by simp [hp]
    clear E hp
    go_enter Try.func10, Try.ntmps10
    go_wp2_with (go_at_call 13; refine (hld _).mono ?_; rintro e w2 ⟨rfl, rfl⟩)
    go_ret2
    exact ⟨by rw [E2.out]; rfl, Below.refl _ _⟩

theorem step_c (p : Int) (l : List UInt8) (c : UInt8) (hl : l.length ≤ 140737488351232) (w : World) :
    Calls Try.prog 10 #[.int .i64 p, .string (S l), .int .u8 (c.toNat : Int)] w fun e w' => e = .returned (.tuple #[.int .i64 (stepU (p, l) c).1, .string (S (stepU (p, l) c).2)]) ∧ Below w.heap.size w w' := by
  have hcb : (c.toNat : Int) ≤ 255 := by have := c.toNat_lt; omega
  by_cases h1 : p = 1
  · subst h1; exact step1_c l c hl w
  by_cases h0 : p = 0
  · subst h0
    have hs := fun w => step1_c [] c (by simp) w
    rw [step_zero]
    generalize headU [] c = ans at hs ⊢
    have es : S [] = ⟨#[]⟩ := rfl
    rw [es] at hs
    generalize S ans.2 = X at hs ⊢
    generalize S l = L
    generalize ans.1 = q at hs ⊢
    generalize (c.toNat : Int) = n at hs hcb ⊢
    clear h1
    go_enter Try.func10, Try.ntmps10
    go_wp2_with fail
    refine (hs _).mono ?_
    rintro e w2 ⟨rfl, hb2⟩
    go_wp2_with fail
    go_ret2
    exact ⟨rfl, hb2⟩
  by_cases h2 : p = 2
  · subst h2
    clear h0 h1
    cases ha : askB c with
    | true =>
      have E : Hid (stepU (2, l) c = (3, [])) := by show (if askB c = true then ((3, []) : St) else (2, [])) = _; rw [ha]; rfl
      generalize stepU (2, l) c = ans at E ⊢
      generalize S l = L
      rcases of_decide_eq_true ha with h | h
      · have hb : ((c.toNat : Int) == 63) = true := by rw [h]; rfl
        clear ha h
        go_enter Try.func10, Try.ntmps10
        go_wp2_with fail
        go_ret2
        exact ⟨by rw [E.out]; rfl, Below.refl _ _⟩
      · have hb : ((c.toNat : Int) == 35) = true := by rw [h]; rfl
        have hb2 : ((c.toNat : Int) == 63) = false := by rw [h]; rfl
        clear ha h
        go_enter Try.func10, Try.ntmps10
        go_wp2_with fail
        go_ret2
        exact ⟨by rw [E.out]; rfl, Below.refl _ _⟩
    | false =>
      have E : Hid (stepU (2, l) c = (2, [])) := by show (if askB c = true then ((3, []) : St) else (2, [])) = _; rw [ha]; rfl
      generalize stepU (2, l) c = ans at E ⊢
      generalize S l = L
      have h := of_decide_eq_false ha
      have hb1 : ((c.toNat : Int) == 63) = false := oct_ne (n := 63) (fun e => h (.inl e)) (by decide)
      have hb2 : ((c.toNat : Int) == 35) = false := oct_ne (n := 35) (fun e => h (.inr e)) (by decide)
      clear ha h
      go_enter Try.func10, Try.ntmps10
      go_wp2_with fail
      go_ret2
      exact ⟨by rw [E.out]; rfl, Below.refl _ _⟩
  by_cases h3 : p = 3
  · subst h3
    have E : Hid (stepU (3, l) c = (3, [])) := rfl
    generalize stepU (3, l) c = ans at E ⊢
    generalize S l = L
    clear h0 h1 h2
    go_enter Try.func10, Try.ntmps10
    go_wp2_with fail
    go_ret2
    exact ⟨by rw [E.out]; rfl, Below.refl _ _⟩
  by_cases h4 : p = 4
  · subst h4
    have hld := fun w => leads_c 4 [] c w
    have es : S [] = ⟨#[]⟩ := rfl
    rw [es] at hld
    have E : Hid (stepU (4, l) c = (leadU 4 [] c, [])) := by
      show (if c = 47 then ((2, []) : St) else if askB c = true then (3, []) else if c = 58 then (5, []) else (4, [])) = (if c = 47 then 2 else if askB c = true then 3 else if c = 58 then (if allowL [] = true then 2 else 5) else 4, [])
      split
      · rfl
      · split
        · rfl
        · split <;> rfl
    generalize stepU (4, l) c = ans at E ⊢
    generalize leadU 4 [] c = q at hld E
    generalize (c.toNat : Int) = n at hld hcb ⊢
    generalize S l = L
    clear h0 h1 h2 h3
    go_enter Try.func10, Try.ntmps10
    go_wp2_with (go_at_call 13; refine (hld _).mono ?_; rintro e w2 ⟨rfl, rfl⟩)
    go_ret2
    exact ⟨by rw [E.out]; rfl, Below.refl _ _⟩
  have E : Hid (stepU (p, l) c = (5, [])) := by
    show (if p = 0 then headU [] c else if p = 1 then headU l c else if p = 2 then _ else if p = 3 then _ else if p = 4 then _ else ((5, []) : St)) = _
    rw [if_neg h0, if_neg h1, if_neg h2, if_neg h3, if_neg h4]
  have b0 : (p == 0) = false := by simp [h0]
  have b1 : (p == 1) = false := by simp [h1]
  have b2 : (p == 2) = false := by simp [h2]
  have b3 : (p == 3) = false := by simp [h3]
  have b4 : (p == 4) = false := by simp [h4]
  generalize stepU (p, l) c = ans at E ⊢
  generalize S l = L
  clear h0 h1 h2 h3 h4
  go_enter Try.func10, Try.ntmps10
  go_wp2_with fail
  go_ret2
  exact ⟨by rw [E.out]; rfl, Below.refl _ _⟩

theorem step_len (s : St) (c : UInt8) (h : s.2.length ≤ 16) : (stepU s c).2.length ≤ 16 := by
  have hh : ∀ l : List UInt8, l.length ≤ 16 → (headU l c).2.length ≤ 16 := by
    intro l hl
    unfold headU
    repeat' split
    all_goals (simp_all <;> omega)
  unfold stepU
  repeat' split
  all_goals first
    | exact hh _ (by simp)
    | exact hh _ h
    | simp
end Go.Proofs.Ytomclpaedbgdfaa.Usc
