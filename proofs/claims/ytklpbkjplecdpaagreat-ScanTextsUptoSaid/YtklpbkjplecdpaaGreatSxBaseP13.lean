/-
  Part 13: UscLeaf, JscStep.
-/
import Derived.Test.YtklpbkjplecdpaaGreatSxBaseP12
import Derived.Test.YtklpbkjplecdpaaGreatSxBaseP2
import Derived.Test.YtklpbkjplecdpaaGreatSxBaseP11
/-
  Contracts of leads, grown and step of package urlscan.
-/
namespace Go.Proofs.YtklpbkjplecdpaaGreat.Usc
open Go.RowKit Oct Utf Pct Sch

def leadU (part : Int) (l : List UInt8) (c : UInt8) : Int :=
  if c = 47 then 2 else if askB c = true then 3 else if c = 58 then (if allowL l = true then 2 else 5) else part

theorem leads_c (part : Int) (l : List UInt8) (c : UInt8) (w : World) :
    Calls Tryz.prog 146 #[.int .i64 part, .string (S l), .int .u8 (c.toNat : Int)] w fun e w' => e = .returned (.int .i64 (leadU part l c)) ∧ w = w' := by
  have ha := fun w => allowed_c l w
  have e1 : Hid (c = 47 → leadU part l c = 2) := fun h => by subst h; rfl
  have e2 : Hid (c = 63 → leadU part l c = 3) := fun h => by subst h; rfl
  have e3 : Hid (c = 35 → leadU part l c = 3) := fun h => by subst h; rfl
  have e4 : Hid (c = 58 → leadU part l c = if allowL l = true then 2 else 5) := fun h => by subst h; rfl
  have e5 : Hid (c ≠ 47 → c ≠ 63 → c ≠ 35 → c ≠ 58 → leadU part l c = part) := fun h1 h2 h3 h4 => by
    unfold leadU
    rw [if_neg h1, if_neg (by unfold askB; simp; exact ⟨h2, h3⟩), if_neg h4]
  have hcb : (c.toNat : Int) ≤ 255 := by have := c.toNat_lt; omega
  generalize leadU part l c = ans at e1 e2 e3 e4 e5 ⊢
  generalize allowL l = al at ha e4
  generalize S l = L at ha ⊢
  by_cases h47 : c = 47
  · have hb : ((c.toNat : Int) == 47) = true := by rw [h47]; rfl
    have E := Lib.hid (e1.out h47)
    clear h47 e1 e2 e3 e4 e5
    go_enter Tryz.func146, Tryz.ntmps146
    go_wp2_with fail
    go_ret
    exact ⟨by rw [E.out]; rfl, rfl⟩
  have b47 : ((c.toNat : Int) == 47) = false := oct_ne (n := 47) h47 (by decide)
  by_cases h63 : c = 63
  · have hb : ((c.toNat : Int) == 63) = true := by rw [h63]; rfl
    have E := Lib.hid (e2.out h63)
    clear h47 h63 e1 e2 e3 e4 e5
    go_enter Tryz.func146, Tryz.ntmps146
    go_wp2_with fail
    go_ret
    exact ⟨by rw [E.out]; rfl, rfl⟩
  have b63 : ((c.toNat : Int) == 63) = false := oct_ne (n := 63) h63 (by decide)
  by_cases h35 : c = 35
  · have hb : ((c.toNat : Int) == 35) = true := by rw [h35]; rfl
    have E := Lib.hid (e3.out h35)
    clear h47 h63 h35 e1 e2 e3 e4 e5
    go_enter Tryz.func146, Tryz.ntmps146
    go_wp2_with fail
    go_ret
    exact ⟨by rw [E.out]; rfl, rfl⟩
  have b35 : ((c.toNat : Int) == 35) = false := oct_ne (n := 35) h35 (by decide)
  by_cases h58 : c = 58
  · have hb : ((c.toNat : Int) == 58) = true := by rw [h58]; rfl
    have E := Lib.hid (e4.out h58)
    clear h47 h63 h35 h58 e1 e2 e3 e4 e5
    cases al with
    | true =>
      go_enter Tryz.func146, Tryz.ntmps146
      go_wp2_with (go_at_call 159; refine (ha _).mono ?_; rintro e w2 ⟨rfl, rfl⟩)
      go_ret
      exact ⟨by rw [E.out]; rfl, rfl⟩
    | false =>
      go_enter Tryz.func146, Tryz.ntmps146
      go_wp2_with (go_at_call 159; refine (ha _).mono ?_; rintro e w2 ⟨rfl, rfl⟩)
      go_ret
      exact ⟨by rw [E.out]; rfl, rfl⟩
  have b58 : ((c.toNat : Int) == 58) = false := oct_ne (n := 58) h58 (by decide)
  have E := Lib.hid (e5.out h47 h63 h35 h58)
  clear h47 h63 h35 h58 e1 e2 e3 e4 e5
  go_enter Tryz.func146, Tryz.ntmps146
  go_wp2_with fail
  go_ret
  exact ⟨by rw [E.out]; rfl, rfl⟩

theorem conv_one (w : World) (c : UInt8) : (convert 49 9 (.slice (some ⟨w.heap.size, 0, none⟩) 1 1)).run Tryz.prog (w.alloc (.cells #[.int .u8 (c.toNat : Int)] 5)) = .ok (.string (S [c])) (w.alloc (.cells #[.int .u8 (c.toNat : Int)] 5)) := by
  refine Oct.conv_own (base := w.heap.size) (n := 1) ?_
  exact ⟨rfl, .inr ⟨w.heap.size, 1, #[.int .u8 (c.toNat : Int)], rfl, Nat.le_refl _, heap_alloc_new w _, Nat.le_refl _, by decide, rfl, rfl⟩⟩
theorem grown_c (l : List UInt8) (c : UInt8) (hl : l.length ≤ 140737488351232) (w : World) :
    Calls Tryz.prog 147 #[.string (S l), .int .u8 (c.toNat : Int)] w fun e w' => e = .returned (.string (S (if l.length < 16 then l ++ [low c] else l))) ∧ Below w.heap.size w w' := by
  have hsz : ((S l).size : Int) = (l.length : Int) := by rw [size_S]
  by_cases hlt : l.length < 16
  · rw [if_pos hlt]
    have hz : ¬ ((16 : Int) ≤ (l.length : Int)) := by omega
    have hlow := fun w => lower_c (S [c]) w (by rw [size_S, List.length_singleton]; omega)
    rw [list_S] at hlow
    have hcv := conv_one w c
    have hlow : ∀ w, Calls Tryz.prog 89 #[.string (S [c])] w fun e w' => e = .returned (.string (S [low c])) ∧ Below w.heap.size w w' := hlow
    generalize S [c] = T at hcv hlow
    generalize (c.toNat : Int) = n at hcv ⊢
    have ha : S l ++ S [low c] = S (l ++ [low c]) := S_append l [low c]
    have z1 : (S l).size ≤ 16 := by rw [size_S]; omega
    have z2 : (S [low c]).size ≤ 1 := by rw [size_S]; simp
    generalize S (l ++ [low c]) = X at ha ⊢
    generalize S [low c] = Y at ha hlow z2
    generalize S l = L at ha hsz z1 ⊢
    go_enter Tryz.func147, Tryz.ntmps147
    go_wp2_with fail
    refine (hlow _).mono ?_
    rintro e w1 ⟨rfl, hb1⟩
    go_wp2_with fail
    go_ret
    exact ⟨rfl, ((Below.refl _ w).alloc (Nat.le_refl _) _).trans (hb1.mono (by simp))⟩
  · rw [if_neg hlt]
    have hz : ((16 : Int) ≤ (l.length : Int)) := by omega
    clear hlt hl
    generalize S l = L at hsz ⊢
    go_enter Tryz.func147, Tryz.ntmps147
    go_wp2_with fail
    go_ret
    exact ⟨rfl, Below.refl _ _⟩

theorem head_lead (l : List UInt8) (c : UInt8) : headU l c = if leadU 1 l c = 1 then (1, if l.length < 16 then l ++ [low c] else l) else (leadU 1 l c, []) := by
  unfold headU leadU
  by_cases h1 : c = 47
  · rw [if_pos h1, if_pos h1]; rfl
  rw [if_neg h1, if_neg h1]
  by_cases h2 : askB c = true
  · rw [if_pos h2, if_pos h2]; rfl
  rw [if_neg h2, if_neg h2]
  by_cases h3 : c = 58
  · rw [if_pos h3, if_pos h3]
    cases allowL l <;> rfl
  · rw [if_neg h3, if_neg h3, if_pos rfl]

theorem step1_c (l : List UInt8) (c : UInt8) (hl : l.length ≤ 140737488351232) (w : World) :
    Calls Tryz.prog 138 #[.int .i64 1, .string (S l), .int .u8 (c.toNat : Int)] w fun e w' => e = .returned (.tuple #[.int .i64 (headU l c).1, .string (S (headU l c).2)]) ∧ Below w.heap.size w w' := by
  have hld := fun w => leads_c 1 l c w
  have hgr := fun w => grown_c l c hl w
  have E := Lib.hid (head_lead l c)
  have hcb : (c.toNat : Int) ≤ 255 := by have := c.toNat_lt; omega
  generalize (c.toNat : Int) = n at hld hgr hcb ⊢
  generalize headU l c = ans at E ⊢
  generalize (if l.length < 16 then l ++ [low c] else l) = g at hgr E
  generalize leadU 1 l c = p at hld E
  generalize S l = L at hld hgr ⊢
  by_cases hp : p = 1
  · have E2 := Lib.hid (E.out.trans (if_pos hp))
    subst hp
    clear E
    go_enter Tryz.func138, Tryz.ntmps138
    go_wp2_with (go_at_call 146; refine (hld _).mono ?_; rintro e w2 ⟨rfl, rfl⟩)
    refine (hgr _).mono ?_
    rintro e w2 ⟨rfl, hb2⟩
    go_wp2_with fail
    go_ret2
    exact ⟨by rw [E2.out]; rfl, hb2⟩
  · have E2 := Lib.hid (E.out.trans (if_neg hp))
    have hb : (p != 1) = true := by simp [hp]
    clear E hp
    go_enter Tryz.func138, Tryz.ntmps138
    go_wp2_with (go_at_call 146; refine (hld _).mono ?_; rintro e w2 ⟨rfl, rfl⟩)
    go_ret2
    exact ⟨by rw [E2.out]; rfl, Below.refl _ _⟩

theorem step_c (p : Int) (l : List UInt8) (c : UInt8) (hl : l.length ≤ 140737488351232) (w : World) :
    Calls Tryz.prog 138 #[.int .i64 p, .string (S l), .int .u8 (c.toNat : Int)] w fun e w' => e = .returned (.tuple #[.int .i64 (stepU (p, l) c).1, .string (S (stepU (p, l) c).2)]) ∧ Below w.heap.size w w' := by
  have hcb : (c.toNat : Int) ≤ 255 := by have := c.toNat_lt; omega
  by_cases h1 : p = 1
  · subst h1; exact step1_c l c hl w
  by_cases h0 : p = 0
  · subst h0
    have hs := fun w => step1_c [] c (by simp) w
    rw [step_zero]
    generalize headU [] c = ans at hs ⊢
    have es : S [] = ⟨#[]⟩ := rfl
    rw [es] at hs
    generalize S ans.2 = X at hs ⊢
    generalize S l = L
    generalize ans.1 = q at hs ⊢
    generalize (c.toNat : Int) = n at hs hcb ⊢
    clear h1
    go_enter Tryz.func138, Tryz.ntmps138
    go_wp2_with fail
    refine (hs _).mono ?_
    rintro e w2 ⟨rfl, hb2⟩
    go_wp2_with fail
    go_ret2
    exact ⟨rfl, hb2⟩
  by_cases h2 : p = 2
  · subst h2
    clear h0 h1
    cases ha : askB c with
    | true =>
      have E : Hid (stepU (2, l) c = (3, [])) := by show (if askB c = true then ((3, []) : St) else (2, [])) = _; rw [ha]; rfl
      generalize stepU (2, l) c = ans at E ⊢
      generalize S l = L
      rcases of_decide_eq_true ha with h | h
      · have hb : ((c.toNat : Int) == 63) = true := by rw [h]; rfl
        clear ha h
        go_enter Tryz.func138, Tryz.ntmps138
        go_wp2_with fail
        go_ret2
        exact ⟨by rw [E.out]; rfl, Below.refl _ _⟩
      · have hb : ((c.toNat : Int) == 35) = true := by rw [h]; rfl
        have hb2 : ((c.toNat : Int) == 63) = false := by rw [h]; rfl
        clear ha h
        go_enter Tryz.func138, Tryz.ntmps138
        go_wp2_with fail
        go_ret2
        exact ⟨by rw [E.out]; rfl, Below.refl _ _⟩
    | false =>
      have E : Hid (stepU (2, l) c = (2, [])) := by show (if askB c = true then ((3, []) : St) else (2, [])) = _; rw [ha]; rfl
      generalize stepU (2, l) c = ans at E ⊢
      generalize S l = L
      have h := of_decide_eq_false ha
      have hb1 : ((c.toNat : Int) == 63) = false := oct_ne (n := 63) (fun e => h (.inl e)) (by decide)
      have hb2 : ((c.toNat : Int) == 35) = false := oct_ne (n := 35) (fun e => h (.inr e)) (by decide)
      clear ha h
      go_enter Tryz.func138, Tryz.ntmps138
      go_wp2_with fail
      go_ret2
      exact ⟨by rw [E.out]; rfl, Below.refl _ _⟩
  by_cases h3 : p = 3
  · subst h3
    have E : Hid (stepU (3, l) c = (3, [])) := rfl
    generalize stepU (3, l) c = ans at E ⊢
    generalize S l = L
    clear h0 h1 h2
    go_enter Tryz.func138, Tryz.ntmps138
    go_wp2_with fail
    go_ret2
    exact ⟨by rw [E.out]; rfl, Below.refl _ _⟩
  by_cases h4 : p = 4
  · subst h4
    have hld := fun w => leads_c 4 [] c w
    have es : S [] = ⟨#[]⟩ := rfl
    rw [es] at hld
    have E : Hid (stepU (4, l) c = (leadU 4 [] c, [])) := by
      show (if c = 47 then ((2, []) : St) else if askB c = true then (3, []) else if c = 58 then (5, []) else (4, [])) = (if c = 47 then 2 else if askB c = true then 3 else if c = 58 then (if allowL [] = true then 2 else 5) else 4, [])
      split
      · rfl
      · split
        · rfl
        · split <;> rfl
    generalize stepU (4, l) c = ans at E ⊢
    generalize leadU 4 [] c = q at hld E
    generalize (c.toNat : Int) = n at hld hcb ⊢
    generalize S l = L
    clear h0 h1 h2 h3
    go_enter Tryz.func138, Tryz.ntmps138
    go_wp2_with (go_at_call 146; refine (hld _).mono ?_; rintro e w2 ⟨rfl, rfl⟩)
    go_ret2
    exact ⟨by rw [E.out]; rfl, Below.refl _ _⟩
  have E : Hid (stepU (p, l) c = (5, [])) := by
    show (if p = 0 then headU [] c else if p = 1 then headU l c else if p = 2 then _ else if p = 3 then _ else if p = 4 then _ else ((5, []) : St)) = _
    rw [if_neg h0, if_neg h1, if_neg h2, if_neg h3, if_neg h4]
  have b0 : (p == 0) = false := by simp [h0]
  have b1 : (p == 1) = false := by simp [h1]
  have b2 : (p == 2) = false := by simp [h2]
  have b3 : (p == 3) = false := by simp [h3]
  have b4 : (p == 4) = false := by simp [h4]
  generalize stepU (p, l) c = ans at E ⊢
  generalize S l = L
  clear h0 h1 h2 h3 h4
  go_enter Tryz.func138, Tryz.ntmps138
  go_wp2_with fail
  go_ret2
  exact ⟨by rw [E.out]; rfl, Below.refl _ _⟩

theorem step_len (s : St) (c : UInt8) (h : s.2.length ≤ 16) : (stepU s c).2.length ≤ 16 := by
  have hh : ∀ l : List UInt8, l.length ≤ 16 → (headU l c).2.length ≤ 16 := by
    intro l hl
    unfold headU
    repeat' split
    all_goals (simp_all <;> omega)
  unfold stepU
  repeat' split
  all_goals first
    | exact hh _ (by simp)
    | exact hh _ h
    | simp
end Go.Proofs.YtklpbkjplecdpaaGreat.Usc

/-
  Contracts of within, inCode, behindSlash and step of package jsscan.
-/
namespace Go.Proofs.YtklpbkjplecdpaaGreat.Jsc
open Go.RowKit Oct Utf

theorem ret_part {a b : Int} (h : a = b) : Ending.returned (.int .i64 a) = .returned (.int .i64 b) := by rw [h]

theorem enter_w1 : ∀ args w, (callFunc 165 args).run Tryz.prog w = .ok (.enter 165 args) w := enters_of Tryz.func165 (by kernel_rfl) rfl
theorem enter_w2 : ∀ args w, (callFunc 167 args).run Tryz.prog w = .ok (.enter 167 args) w := enters_of Tryz.func167 (by kernel_rfl) rfl
theorem enter_w3 : ∀ args w, (callFunc 169 args).run Tryz.prog w = .ok (.enter 169 args) w := enters_of Tryz.func169 (by kernel_rfl) rfl
theorem enter_w4 : ∀ args w, (callFunc 170 args).run Tryz.prog w = .ok (.enter 170 args) w := enters_of Tryz.func170 (by kernel_rfl) rfl
theorem w1_c (n : Int) (b : Nat) (w : World) (hc : w.cell? ⟨b, 0, none⟩ = some (.int .u8 n)) : Calls Tryz.prog 165 #[.pointer (some ⟨b, 0, none⟩)] w fun e w' => e = .returned (.int .i64 (if n = 34 then 1 else 2)) ∧ w = w' := by
  have hu := upTo_c 34 n 2 1
  generalize (if n = 34 then (1 : Int) else 2) = r at hu ⊢
  go_enter Tryz.func165, Tryz.ntmps165
  go_wp2_with (go_at_call 166; refine (hu _).mono ?_; rintro e w' ⟨rfl, rfl⟩)
  go_ret
  exact ⟨rfl, rfl⟩
theorem w2_c (n : Int) (b : Nat) (w : World) (hc : w.cell? ⟨b, 0, none⟩ = some (.int .u8 n)) : Calls Tryz.prog 167 #[.pointer (some ⟨b, 0, none⟩)] w fun e w' => e = .returned (.int .i64 (if n = 39 then 1 else 3)) ∧ w = w' := by
  have hu := upTo_c 39 n 3 1
  generalize (if n = 39 then (1 : Int) else 3) = r at hu ⊢
  go_enter Tryz.func167, Tryz.ntmps167
  go_wp2_with (go_at_call 166; refine (hu _).mono ?_; rintro e w' ⟨rfl, rfl⟩)
  go_ret
  exact ⟨rfl, rfl⟩
theorem w4_c (n : Int) (b : Nat) (w : World) (hc : w.cell? ⟨b, 0, none⟩ = some (.int .u8 n)) : Calls Tryz.prog 170 #[.pointer (some ⟨b, 0, none⟩)] w fun e w' => e = .returned (.int .i64 (if n = 93 then 9 else 11)) ∧ w = w' := by
  have hu := upTo_c 93 n 11 9
  generalize (if n = 93 then (9 : Int) else 11) = r at hu ⊢
  go_enter Tryz.func170, Tryz.ntmps170
  go_wp2_with (go_at_call 166; refine (hu _).mono ?_; rintro e w' ⟨rfl, rfl⟩)
  go_ret
  exact ⟨rfl, rfl⟩
theorem w3_c (n : Int) (b : Nat) (w : World) (hc : w.cell? ⟨b, 0, none⟩ = some (.int .u8 n)) : Calls Tryz.prog 169 #[.pointer (some ⟨b, 0, none⟩)] w fun e w' => e = .returned (.int .i64 (if n = 91 then 11 else if n = 47 then 1 else 9)) ∧ w = w' := by
  have hu := upTo_c 47 n 9 1
  generalize (if n = 47 then (1 : Int) else 9) = r at hu ⊢
  by_cases h : n = 91
  · rw [if_pos h]
    subst h
    clear hu
    go_enter Tryz.func169, Tryz.ntmps169
    go_wp2_with fail
    go_ret
    exact ⟨rfl, rfl⟩
  · rw [if_neg h]
    have hb : (n == 91) = false := by rw [beq_eq_false_iff_ne]; exact h
    clear h
    go_enter Tryz.func169, Tryz.ntmps169
    go_wp2_with (go_at_call 166; refine (hu _).mono ?_; rintro e w' ⟨rfl, rfl⟩)
    go_ret
    exact ⟨rfl, rfl⟩
theorem within2_c (n : Int) (w : World) : Calls Tryz.prog 152 #[.int .i64 2, .int .u8 n] w fun e w' => e = .returned (.int .i64 (inLineI n 4 (if n = 34 then 1 else 2))) ∧ Below w.heap.size w w' := by
  have hb0 := (Below.refl _ w).alloc (Nat.le_refl _) (.cells #[.int .u8 n] 5)
  have hc : (w.alloc (.cells #[.int .u8 n] 5)).cell? ⟨w.heap.size, 0, none⟩ = some (.int .u8 n) := cell_of_row _ _ 0 _ _ _ (heap_alloc_new w _)
  have hw := inLine_c n 4 _ 165 w.heap.size _ enter_w1 (w1_c n w.heap.size _ hc)
  generalize inLineI n 4 (if n = 34 then 1 else 2) = r at hw ⊢
  have HB := Lib.hid hb0
  clear hb0 hc
  go_enter Tryz.func152, Tryz.ntmps152
  go_wp2_with (go_at_call 164; refine hw.mono ?_; rintro e w' ⟨rfl, rfl⟩)
  go_ret
  exact ⟨rfl, HB.out⟩
theorem within3_c (n : Int) (w : World) : Calls Tryz.prog 152 #[.int .i64 3, .int .u8 n] w fun e w' => e = .returned (.int .i64 (inLineI n 5 (if n = 39 then 1 else 3))) ∧ Below w.heap.size w w' := by
  have hb0 := (Below.refl _ w).alloc (Nat.le_refl _) (.cells #[.int .u8 n] 5)
  have hc : (w.alloc (.cells #[.int .u8 n] 5)).cell? ⟨w.heap.size, 0, none⟩ = some (.int .u8 n) := cell_of_row _ _ 0 _ _ _ (heap_alloc_new w _)
  have hw := inLine_c n 5 _ 167 w.heap.size _ enter_w2 (w2_c n w.heap.size _ hc)
  generalize inLineI n 5 (if n = 39 then 1 else 3) = r at hw ⊢
  have HB := Lib.hid hb0
  clear hb0 hc
  go_enter Tryz.func152, Tryz.ntmps152
  go_wp2_with (go_at_call 164; refine hw.mono ?_; rintro e w' ⟨rfl, rfl⟩)
  go_ret
  exact ⟨rfl, HB.out⟩
theorem within9_c (n : Int) (w : World) : Calls Tryz.prog 152 #[.int .i64 9, .int .u8 n] w fun e w' => e = .returned (.int .i64 (inLineI n 10 (if n = 91 then 11 else if n = 47 then 1 else 9))) ∧ Below w.heap.size w w' := by
  have hb0 := (Below.refl _ w).alloc (Nat.le_refl _) (.cells #[.int .u8 n] 5)
  have hc : (w.alloc (.cells #[.int .u8 n] 5)).cell? ⟨w.heap.size, 0, none⟩ = some (.int .u8 n) := cell_of_row _ _ 0 _ _ _ (heap_alloc_new w _)
  have hw := inLine_c n 10 _ 169 w.heap.size _ enter_w3 (w3_c n w.heap.size _ hc)
  generalize inLineI n 10 (if n = 91 then 11 else if n = 47 then 1 else 9) = r at hw ⊢
  have HB := Lib.hid hb0
  clear hb0 hc
  go_enter Tryz.func152, Tryz.ntmps152
  go_wp2_with (go_at_call 164; refine hw.mono ?_; rintro e w' ⟨rfl, rfl⟩)
  go_ret
  exact ⟨rfl, HB.out⟩
theorem within11_c (n : Int) (w : World) : Calls Tryz.prog 152 #[.int .i64 11, .int .u8 n] w fun e w' => e = .returned (.int .i64 (inLineI n 12 (if n = 93 then 9 else 11))) ∧ Below w.heap.size w w' := by
  have hb0 := (Below.refl _ w).alloc (Nat.le_refl _) (.cells #[.int .u8 n] 5)
  have hc : (w.alloc (.cells #[.int .u8 n] 5)).cell? ⟨w.heap.size, 0, none⟩ = some (.int .u8 n) := cell_of_row _ _ 0 _ _ _ (heap_alloc_new w _)
  have hw := inLine_c n 12 _ 170 w.heap.size _ enter_w4 (w4_c n w.heap.size _ hc)
  generalize inLineI n 12 (if n = 93 then 9 else 11) = r at hw ⊢
  have HB := Lib.hid hb0
  clear hb0 hc
  go_enter Tryz.func152, Tryz.ntmps152
  go_wp2_with (go_at_call 164; refine hw.mono ?_; rintro e w' ⟨rfl, rfl⟩)
  go_ret
  exact ⟨rfl, HB.out⟩
theorem within4_c (n : Int) (w : World) : Calls Tryz.prog 152 #[.int .i64 4, .int .u8 n] w fun e w' => e = .returned (.int .i64 (2)) ∧ Below w.heap.size w w' := by
  have hb0 := (Below.refl _ w).alloc (Nat.le_refl _) (.cells #[.int .u8 n] 5)
  have HB := Lib.hid hb0
  clear hb0
  go_enter Tryz.func152, Tryz.ntmps152
  go_wp2_with fail
  go_ret
  exact ⟨rfl, HB.out⟩
theorem within5_c (n : Int) (w : World) : Calls Tryz.prog 152 #[.int .i64 5, .int .u8 n] w fun e w' => e = .returned (.int .i64 (3)) ∧ Below w.heap.size w w' := by
  have hb0 := (Below.refl _ w).alloc (Nat.le_refl _) (.cells #[.int .u8 n] 5)
  have HB := Lib.hid hb0
  clear hb0
  go_enter Tryz.func152, Tryz.ntmps152
  go_wp2_with fail
  go_ret
  exact ⟨rfl, HB.out⟩
theorem within10_c (n : Int) (w : World) : Calls Tryz.prog 152 #[.int .i64 10, .int .u8 n] w fun e w' => e = .returned (.int .i64 (9)) ∧ Below w.heap.size w w' := by
  have hb0 := (Below.refl _ w).alloc (Nat.le_refl _) (.cells #[.int .u8 n] 5)
  have HB := Lib.hid hb0
  clear hb0
  go_enter Tryz.func152, Tryz.ntmps152
  go_wp2_with fail
  go_ret
  exact ⟨rfl, HB.out⟩
theorem within12_c (n : Int) (w : World) : Calls Tryz.prog 152 #[.int .i64 12, .int .u8 n] w fun e w' => e = .returned (.int .i64 (11)) ∧ Below w.heap.size w w' := by
  have hb0 := (Below.refl _ w).alloc (Nat.le_refl _) (.cells #[.int .u8 n] 5)
  have HB := Lib.hid hb0
  clear hb0
  go_enter Tryz.func152, Tryz.ntmps152
  go_wp2_with fail
  go_ret
  exact ⟨rfl, HB.out⟩
theorem within6_c (n : Int) (w : World) : Calls Tryz.prog 152 #[.int .i64 6, .int .u8 n] w fun e w' => e = .returned (.int .i64 (if lineI n = true then 0 else 6)) ∧ Below w.heap.size w w' := by
  have hb0 := (Below.refl _ w).alloc (Nat.le_refl _) (.cells #[.int .u8 n] 5)
  have hn := newline_c n
  have HB := Lib.hid hb0
  clear hb0
  cases hl : lineI n with
  | true =>
    rw [hl] at hn
    rw [if_pos rfl]
    go_enter Tryz.func152, Tryz.ntmps152
    go_wp2_with (go_at_call 168; refine (hn _).mono ?_; rintro e w' ⟨rfl, rfl⟩)
    go_ret
    exact ⟨rfl, HB.out⟩
  | false =>
    rw [hl] at hn
    rw [if_neg (by simp)]
    go_enter Tryz.func152, Tryz.ntmps152
    go_wp2_with (go_at_call 168; refine (hn _).mono ?_; rintro e w' ⟨rfl, rfl⟩)
    go_ret
    exact ⟨rfl, HB.out⟩
theorem within7_c (n : Int) (w : World) : Calls Tryz.prog 152 #[.int .i64 7, .int .u8 n] w fun e w' => e = .returned (.int .i64 (if n = 42 then 8 else 7)) ∧ Below w.heap.size w w' := by
  have hb0 := (Below.refl _ w).alloc (Nat.le_refl _) (.cells #[.int .u8 n] 5)
  have hu := upTo_c 42 n 7 8
  generalize (if n = 42 then (8 : Int) else 7) = r at hu ⊢
  have HB := Lib.hid hb0
  clear hb0
  go_enter Tryz.func152, Tryz.ntmps152
  go_wp2_with (go_at_call 166; refine (hu _).mono ?_; rintro e w' ⟨rfl, rfl⟩)
  go_ret
  exact ⟨rfl, HB.out⟩
theorem within8_c (n : Int) (w : World) : Calls Tryz.prog 152 #[.int .i64 8, .int .u8 n] w fun e w' => e = .returned (.int .i64 (if n = 47 then 0 else if n = 42 then 8 else 7)) ∧ Below w.heap.size w w' := by
  have hb0 := (Below.refl _ w).alloc (Nat.le_refl _) (.cells #[.int .u8 n] 5)
  have h7 := within7_c n (w.alloc (.cells #[.int .u8 n] 5))
  generalize (if n = 42 then (8 : Int) else 7) = r at h7 ⊢
  have HB := Lib.hid hb0
  clear hb0
  by_cases h : n = 47
  · rw [if_pos h]
    subst h
    clear h7
    go_enter Tryz.func152, Tryz.ntmps152
    go_wp2_with fail
    go_ret
    exact ⟨rfl, HB.out⟩
  · rw [if_neg h]
    have hb : (n == 47) = false := by rw [beq_eq_false_iff_ne]; exact h
    clear h
    go_enter Tryz.func152, Tryz.ntmps152
    go_wp2_with (go_at_call 152; refine h7.mono ?_; rintro e w' ⟨rfl, hb7⟩)
    go_ret
    exact ⟨rfl, HB.out.trans (hb7.mono HB.out.size)⟩
theorem within_other (p n : Int) (hp : p < 2 ∨ 12 < p) (w : World) : Calls Tryz.prog 152 #[.int .i64 p, .int .u8 n] w fun e w' => e = .returned (.int .i64 15) ∧ Below w.heap.size w w' := by
  have HB := Lib.hid ((Below.refl _ w).alloc (Nat.le_refl _) (.cells #[.int .u8 n] 5))
  have p2 : (p == 2) = false := by rw [beq_eq_false_iff_ne]; omega
  have p3 : (p == 3) = false := by rw [beq_eq_false_iff_ne]; omega
  have p4 : (p == 4) = false := by rw [beq_eq_false_iff_ne]; omega
  have p5 : (p == 5) = false := by rw [beq_eq_false_iff_ne]; omega
  have p6 : (p == 6) = false := by rw [beq_eq_false_iff_ne]; omega
  have p7 : (p == 7) = false := by rw [beq_eq_false_iff_ne]; omega
  have p8 : (p == 8) = false := by rw [beq_eq_false_iff_ne]; omega
  have p9 : (p == 9) = false := by rw [beq_eq_false_iff_ne]; omega
  have p10 : (p == 10) = false := by rw [beq_eq_false_iff_ne]; omega
  have p11 : (p == 11) = false := by rw [beq_eq_false_iff_ne]; omega
  have p12 : (p == 12) = false := by rw [beq_eq_false_iff_ne]; omega
  clear hp
  go_enter Tryz.func152, Tryz.ntmps152
  go_wp2_with fail
  go_ret
  exact ⟨rfl, HB.out⟩

theorem code_word (p : Int) (l : List UInt8) (c : UInt8) (h : wordB c = true) : codeJ p l c = (1, if l.length < 16 then l ++ [c] else l) := by
  unfold codeJ
  rw [if_pos h]
theorem code_mark (p : Int) (hp : p = 0 ∨ p = 1) (l : List UInt8) (c : UInt8) (h : wordB c = false) : codeJ p l c = (markI (if keyB l = true then 0 else p) (c.toNat : Int), []) := by
  have H : ∀ k : Fin 256, ∀ b : Bool, ∀ z : Bool, wordB (UInt8.ofNat k.val) = false →
      (if blankB (UInt8.ofNat k.val) then (if b then 0 else if z then 0 else 1, ([] : List UInt8)) else if UInt8.ofNat k.val = 34 then (2, []) else if UInt8.ofNat k.val = 39 then (3, []) else if UInt8.ofNat k.val = 96 then (15, [])
        else if UInt8.ofNat k.val = 47 then (13 + (if b then 0 else if z then 0 else 1), []) else if UInt8.ofNat k.val = 41 ∨ UInt8.ofNat k.val = 93 ∨ UInt8.ofNat k.val = 125 then (1, []) else (0, []) : St) = (markI (if b then 0 else if z then 0 else 1) ((UInt8.ofNat k.val).toNat : Int), []) := by decide +kernel
  have Hc := H ⟨c.toNat, c.toNat_lt⟩ (keyB l) (decide (p = 0)) (by simpa using h)
  simp only [UInt8.ofNat_toNat] at Hc
  have ep : (if decide (p = 0) = true then (0 : Int) else 1) = p := by
    rcases hp with rfl | rfl <;> rfl
  rw [ep] at Hc
  unfold codeJ
  rw [if_neg (by rw [h]; simp)]
  exact Hc
theorem inCode_c (p : Int) (hp : p = 0 ∨ p = 1) (l : List UInt8) (c : UInt8) (w : World) :
    Calls Tryz.prog 148 #[.int .i64 p, .string (S l), .int .u8 (c.toNat : Int)] w fun e w' => e = .returned (.tuple #[.int .i64 (codeJ p l c).1, .string (S (codeJ p l c).2)]) ∧ Below w.heap.size w w' := by
  have hcb : (c.toNat : Int) ≤ 255 := by have := c.toNat_lt; omega
  have hw := inWord_c (c.toNat : Int) w (by omega) hcb
  rw [word_oct] at hw
  cases hb : wordB c with
  | true =>
    rw [hb] at hw
    have hg := fun w => grown_c l c w
    have E := Lib.hid (code_word p l c hb)
    generalize codeJ p l c = ans at E ⊢
    generalize (if l.length < 16 then l ++ [c] else l) = g at hg E
    generalize S l = L at hg ⊢
    generalize (c.toNat : Int) = n at hw hg ⊢
    clear hb hcb hp
    go_enter Tryz.func148, Tryz.ntmps148
    go_wp2_with (first | (go_at_call 160; refine hw.mono ?_; rintro e w' ⟨rfl, rfl⟩) | (go_at_call 161; refine (hg _).mono ?_; rintro e w' ⟨rfl, hbg⟩))
    go_ret2
    exact ⟨by rw [E.out]; rfl, hbg⟩
  | false =>
    rw [hb] at hw
    have ha := ahead_c l w
    have E := Lib.hid (code_mark p hp l c hb)
    generalize codeJ p l c = ans at E ⊢
    generalize keyB l = k at ha E
    have hm := fun q w => mark_c q (c.toNat : Int) w
    generalize (c.toNat : Int) = n at hw E hm ⊢
    generalize S l = L at ha ⊢
    clear hb hcb hp
    cases k with
    | true =>
      have hm := hm 0
      have E2 : Hid (ans = (markI 0 n, [])) := E.out
      generalize markI 0 n = r at hm E2
      clear E
      go_enter Tryz.func148, Tryz.ntmps148
      go_wp2_with (first | (go_at_call 160; refine hw.mono ?_; rintro e w' ⟨rfl, rfl⟩) | (go_at_call 162; refine ha.mono ?_; rintro e w' ⟨rfl, rfl⟩) | (go_at_call 163; refine (hm _).mono ?_; rintro e w' ⟨rfl, rfl⟩))
      go_ret2
      exact ⟨by rw [E2.out]; rfl, Below.refl _ _⟩
    | false =>
      have hm := hm p
      have E2 : Hid (ans = (markI p n, [])) := E.out
      generalize markI p n = r at hm E2
      clear E
      go_enter Tryz.func148, Tryz.ntmps148
      go_wp2_with (first | (go_at_call 160; refine hw.mono ?_; rintro e w' ⟨rfl, rfl⟩) | (go_at_call 162; refine ha.mono ?_; rintro e w' ⟨rfl, rfl⟩) | (go_at_call 163; refine (hm _).mono ?_; rintro e w' ⟨rfl, rfl⟩))
      go_ret2
      exact ⟨by rw [E2.out]; rfl, Below.refl _ _⟩

theorem slash_c (n r : Int) (X : ByteArray) (g b : Nat) (w : World) (eg : ∀ args w, (callFunc g args).run Tryz.prog w = .ok (.enter g args) w)
    (hg : Calls Tryz.prog g #[.pointer (some ⟨b, 0, none⟩)] w fun e w' => e = .returned (.tuple #[.int .i64 r, .string X]) ∧ Below w.heap.size w w') :
    Calls Tryz.prog 149 #[.int .u8 n, .func (.func g) #[] #[.pointer (some ⟨b, 0, none⟩)]] w fun e w' => e = .returned (if n = 47 then .tuple #[.int .i64 6, .string ⟨#[]⟩] else if n = 42 then .tuple #[.int .i64 7, .string ⟨#[]⟩] else .tuple #[.int .i64 r, .string X]) ∧ Below w.heap.size w w' := by
  by_cases h1 : n = 47
  · rw [if_pos h1]
    subst h1
    clear hg
    go_enter Tryz.func149, Tryz.ntmps149
    go_wp2_with fail
    go_ret2
    exact ⟨rfl, Below.refl _ _⟩
  rw [if_neg h1]
  have b1 : (n == 47) = false := by rw [beq_eq_false_iff_ne]; exact h1
  by_cases h2 : n = 42
  · rw [if_pos h2]
    subst h2
    clear hg h1
    go_enter Tryz.func149, Tryz.ntmps149
    go_wp2_with fail
    go_ret2
    exact ⟨rfl, Below.refl _ _⟩
  rw [if_neg h2]
  have b2 : (n == 42) = false := by rw [beq_eq_false_iff_ne]; exact h2
  clear h1 h2
  go_enter Tryz.func149, Tryz.ntmps149
  go_wp2_with (go_at_fn g; refine hg.mono ?_; rintro e w' ⟨rfl, hbg⟩)
  go_ret2
  exact ⟨rfl, hbg⟩

theorem step_code (p : Int) (hp : p = 0 ∨ p = 1) (l : List UInt8) (c : UInt8) (w : World) :
    Calls Tryz.prog 139 #[.int .i64 p, .string (S l), .int .u8 (c.toNat : Int)] w fun e w' => e = .returned (.tuple #[.int .i64 (codeJ p l c).1, .string (S (codeJ p l c).2)]) ∧ Below w.heap.size w w' := by
  have hi := fun w => inCode_c p hp l c w
  generalize codeJ p l c = ans at hi ⊢
  generalize S ans.2 = X at hi ⊢
  generalize ans.1 = q at hi ⊢
  generalize S l = L at hi ⊢
  generalize (c.toNat : Int) = n at hi ⊢
  have HB := Lib.hid ((Below.refl _ w).alloc (Nat.le_refl _) (.cells #[.int .u8 n] 5))
  rcases hp with rfl | rfl
  all_goals
    go_enter Tryz.func139, Tryz.ntmps139
    go_wp2_with (go_at_call 148; refine (hi _).mono ?_; rintro e w' ⟨rfl, hb⟩)
    go_ret2
    exact ⟨rfl, HB.out.trans (hb.mono HB.out.size)⟩
theorem step_in (p r : Int) (hp : p ≠ 0) (hp1 : p ≠ 1) (hp13 : p ≠ 13) (hp14 : p ≠ 14) (L : ByteArray) (n : Int) (hw : ∀ w, Calls Tryz.prog 152 #[.int .i64 p, .int .u8 n] w fun e w' => e = .returned (.int .i64 r) ∧ Below w.heap.size w w') (w : World) :
    Calls Tryz.prog 139 #[.int .i64 p, .string L, .int .u8 n] w fun e w' => e = .returned (.tuple #[.int .i64 r, .string (S [])]) ∧ Below w.heap.size w w' := by
  have HB := Lib.hid ((Below.refl _ w).alloc (Nat.le_refl _) (.cells #[.int .u8 n] 5))
  have b0 : (p == 0) = false := by rw [beq_eq_false_iff_ne]; exact hp
  have b1 : (p == 1) = false := by rw [beq_eq_false_iff_ne]; exact hp1
  have b13 : (p == 13) = false := by rw [beq_eq_false_iff_ne]; exact hp13
  have b14 : (p == 14) = false := by rw [beq_eq_false_iff_ne]; exact hp14
  clear hp hp1 hp13 hp14
  go_enter Tryz.func139, Tryz.ntmps139
  go_wp2_with (go_at_call 152; refine (hw _).mono ?_; rintro e w' ⟨rfl, hb⟩)
  go_ret2
  exact ⟨rfl, HB.out.trans (hb.mono HB.out.size)⟩
theorem enter_s1 : ∀ args w, (callFunc 150 args).run Tryz.prog w = .ok (.enter 150 args) w := enters_of Tryz.func150 (by kernel_rfl) rfl
theorem enter_s2 : ∀ args w, (callFunc 151 args).run Tryz.prog w = .ok (.enter 151 args) w := enters_of Tryz.func151 (by kernel_rfl) rfl
theorem s1_c (n r : Int) (X : ByteArray) (b : Nat) (w : World) (hc : w.cell? ⟨b, 0, none⟩ = some (.int .u8 n)) (hs : ∀ w, Calls Tryz.prog 139 #[.int .i64 9, .string ⟨#[]⟩, .int .u8 n] w fun e w' => e = .returned (.tuple #[.int .i64 r, .string X]) ∧ Below w.heap.size w w') :
    Calls Tryz.prog 150 #[.pointer (some ⟨b, 0, none⟩)] w fun e w' => e = .returned (.tuple #[.int .i64 r, .string X]) ∧ Below w.heap.size w w' := by
  go_enter Tryz.func150, Tryz.ntmps150
  go_wp2_with (go_at_call 139; refine (hs _).mono ?_; rintro e w' ⟨rfl, hb⟩)
  go_ret2
  exact ⟨rfl, hb⟩
theorem s2_c (n r : Int) (X : ByteArray) (b : Nat) (w : World) (hc : w.cell? ⟨b, 0, none⟩ = some (.int .u8 n)) (hs : ∀ w, Calls Tryz.prog 139 #[.int .i64 0, .string ⟨#[]⟩, .int .u8 n] w fun e w' => e = .returned (.tuple #[.int .i64 r, .string X]) ∧ Below w.heap.size w w') :
    Calls Tryz.prog 151 #[.pointer (some ⟨b, 0, none⟩)] w fun e w' => e = .returned (.tuple #[.int .i64 r, .string X]) ∧ Below w.heap.size w w' := by
  go_enter Tryz.func151, Tryz.ntmps151
  go_wp2_with (go_at_call 139; refine (hs _).mono ?_; rintro e w' ⟨rfl, hb⟩)
  go_ret2
  exact ⟨rfl, hb⟩
theorem slash_ans (c : UInt8) (r : Int) (X : List UInt8) : (if (c.toNat : Int) = 47 then Value.tuple #[.int .i64 6, .string ⟨#[]⟩] else if (c.toNat : Int) = 42 then .tuple #[.int .i64 7, .string ⟨#[]⟩] else .tuple #[.int .i64 r, .string (S X)]) =
    .tuple #[.int .i64 (if c = 47 then ((6, []) : St) else if c = 42 then (7, []) else (r, X)).1, .string (S (if c = 47 then ((6, []) : St) else if c = 42 then (7, []) else (r, X)).2)] := by
  have h1 : (c.toNat : Int) = 47 ↔ c = 47 := ⟨fun h => UInt8.toNat_inj.1 (show c.toNat = 47 by omega), fun h => by rw [h]; rfl⟩
  have h2 : (c.toNat : Int) = 42 ↔ c = 42 := ⟨fun h => UInt8.toNat_inj.1 (show c.toNat = 42 by omega), fun h => by rw [h]; rfl⟩
  by_cases h47 : c = 47
  · rw [if_pos (h1.2 h47), if_pos h47]
  · rw [if_neg (fun h => h47 (h1.1 h)), if_neg h47]
    by_cases h42 : c = 42
    · rw [if_pos (h2.2 h42), if_pos h42]
    · rw [if_neg (fun h => h42 (h2.1 h)), if_neg h42]
theorem step13_c (l : List UInt8) (c : UInt8) (r : Int) (X : List UInt8) (hs : ∀ w, Calls Tryz.prog 139 #[.int .i64 9, .string ⟨#[]⟩, .int .u8 (c.toNat : Int)] w fun e w' => e = .returned (.tuple #[.int .i64 r, .string (S X)]) ∧ Below w.heap.size w w') (w : World) :
    Calls Tryz.prog 139 #[.int .i64 13, .string (S l), .int .u8 (c.toNat : Int)] w fun e w' => e = .returned (.tuple #[.int .i64 (if c = 47 then ((6, []) : St) else if c = 42 then (7, []) else (r, X)).1, .string (S (if c = 47 then ((6, []) : St) else if c = 42 then (7, []) else (r, X)).2)]) ∧ Below w.heap.size w w' := by
  have HB := Lib.hid ((Below.refl _ w).alloc (Nat.le_refl _) (.cells #[.int .u8 (c.toNat : Int)] 5))
  have hc : (w.alloc (.cells #[.int .u8 (c.toNat : Int)] 5)).cell? ⟨w.heap.size, 0, none⟩ = some (.int .u8 (c.toNat : Int)) := cell_of_row _ _ 0 _ _ _ (heap_alloc_new w _)
  have hb := slash_c (c.toNat : Int) r (S X) 150 w.heap.size _ enter_s1 (s1_c _ r (S X) w.heap.size _ hc hs)
  rw [slash_ans c r X] at hb
  generalize (if c = 47 then ((6, []) : St) else if c = 42 then (7, []) else (r, X)) = ans at hb ⊢
  generalize S ans.2 = Y at hb ⊢
  generalize ans.1 = q at hb ⊢
  generalize S l = L
  clear hc hs
  generalize (c.toNat : Int) = n at hb HB ⊢
  go_enter Tryz.func139, Tryz.ntmps139
  go_wp2_with (go_at_call 149; refine hb.mono ?_; rintro e w' ⟨rfl, hb2⟩)
  go_ret2
  exact ⟨rfl, HB.out.trans (hb2.mono HB.out.size)⟩
theorem step14_c (l : List UInt8) (c : UInt8) (r : Int) (X : List UInt8) (hs : ∀ w, Calls Tryz.prog 139 #[.int .i64 0, .string ⟨#[]⟩, .int .u8 (c.toNat : Int)] w fun e w' => e = .returned (.tuple #[.int .i64 r, .string (S X)]) ∧ Below w.heap.size w w') (w : World) :
    Calls Tryz.prog 139 #[.int .i64 14, .string (S l), .int .u8 (c.toNat : Int)] w fun e w' => e = .returned (.tuple #[.int .i64 (if c = 47 then ((6, []) : St) else if c = 42 then (7, []) else (r, X)).1, .string (S (if c = 47 then ((6, []) : St) else if c = 42 then (7, []) else (r, X)).2)]) ∧ Below w.heap.size w w' := by
  have HB := Lib.hid ((Below.refl _ w).alloc (Nat.le_refl _) (.cells #[.int .u8 (c.toNat : Int)] 5))
  have hc : (w.alloc (.cells #[.int .u8 (c.toNat : Int)] 5)).cell? ⟨w.heap.size, 0, none⟩ = some (.int .u8 (c.toNat : Int)) := cell_of_row _ _ 0 _ _ _ (heap_alloc_new w _)
  have hb := slash_c (c.toNat : Int) r (S X) 151 w.heap.size _ enter_s2 (s2_c _ r (S X) w.heap.size _ hc hs)
  rw [slash_ans c r X] at hb
  generalize (if c = 47 then ((6, []) : St) else if c = 42 then (7, []) else (r, X)) = ans at hb ⊢
  generalize S ans.2 = Y at hb ⊢
  generalize ans.1 = q at hb ⊢
  generalize S l = L
  clear hc hs
  generalize (c.toNat : Int) = n at hb HB ⊢
  go_enter Tryz.func139, Tryz.ntmps139
  go_wp2_with (go_at_call 149; refine hb.mono ?_; rintro e w' ⟨rfl, hb2⟩)
  go_ret2
  exact ⟨rfl, HB.out.trans (hb2.mono HB.out.size)⟩

def inI (p n : Int) : Int :=
  if p = 2 then inLineI n 4 (if n = 34 then 1 else 2) else if p = 3 then inLineI n 5 (if n = 39 then 1 else 3) else if p = 4 then 2 else if p = 5 then 3
  else if p = 6 then (if lineI n = true then 0 else 6) else if p = 7 then (if n = 42 then 8 else 7) else if p = 8 then (if n = 47 then 0 else if n = 42 then 8 else 7)
  else if p = 9 then inLineI n 10 (if n = 91 then 11 else if n = 47 then 1 else 9) else if p = 10 then 9 else if p = 11 then inLineI n 12 (if n = 93 then 9 else 11) else if p = 12 then 11 else 15
theorem within_c (p n : Int) (w : World) : Calls Tryz.prog 152 #[.int .i64 p, .int .u8 n] w fun e w' => e = .returned (.int .i64 (inI p n)) ∧ Below w.heap.size w w' := by
  by_cases h2 : p = 2
  · subst h2; exact within2_c n w
  by_cases h3 : p = 3
  · subst h3; exact within3_c n w
  by_cases h4 : p = 4
  · subst h4; exact within4_c n w
  by_cases h5 : p = 5
  · subst h5; exact within5_c n w
  by_cases h6 : p = 6
  · subst h6; exact within6_c n w
  by_cases h7 : p = 7
  · subst h7; exact within7_c n w
  by_cases h8 : p = 8
  · subst h8; exact within8_c n w
  by_cases h9 : p = 9
  · subst h9; exact within9_c n w
  by_cases h10 : p = 10
  · subst h10; exact within10_c n w
  by_cases h11 : p = 11
  · subst h11; exact within11_c n w
  by_cases h12 : p = 12
  · subst h12; exact within12_c n w
  have e : inI p n = 15 := by
    unfold inI
    rw [if_neg h2, if_neg h3, if_neg h4, if_neg h5, if_neg h6, if_neg h7, if_neg h8, if_neg h9, if_neg h10, if_neg h11, if_neg h12]
  rw [e]
  exact within_other p n (by omega) w
theorem step_plain : ∀ p : Fin 13, 2 ≤ p.val → ∀ k : Fin 256, stepJ ((p.val : Int), []) (UInt8.ofNat k.val) = (inI (p.val : Int) ((UInt8.ofNat k.val).toNat : Int), []) := by decide +kernel
theorem step_word (p : Int) (h0 : p ≠ 0) (h1 : p ≠ 1) (l : List UInt8) (c : UInt8) : stepJ (p, l) c = stepJ (p, []) c := by
  unfold stepJ
  simp only [h0, h1, or_self, if_false]
theorem step_inI (p : Int) (h0 : p ≠ 0) (h1 : p ≠ 1) (h13 : p ≠ 13) (h14 : p ≠ 14) (l : List UInt8) (c : UInt8) : stepJ (p, l) c = (inI p (c.toNat : Int), []) := by
  rw [step_word p h0 h1]
  by_cases h : 2 ≤ p ∧ p ≤ 12
  · have H := step_plain ⟨p.toNat, by omega⟩ (by show 2 ≤ p.toNat; omega) ⟨c.toNat, c.toNat_lt⟩
    have ep : ((p.toNat : Nat) : Int) = p := by omega
    simp only [UInt8.ofNat_toNat, ep] at H
    exact H
  · have e : inI p (c.toNat : Int) = 15 := by
      unfold inI
      rw [if_neg (by omega), if_neg (by omega), if_neg (by omega), if_neg (by omega), if_neg (by omega), if_neg (by omega), if_neg (by omega), if_neg (by omega), if_neg (by omega), if_neg (by omega), if_neg (by omega)]
    rw [e]
    show (if p = 0 ∨ p = 1 then _ else if p = 2 then _ else if p = 3 then _ else if p = 4 then _ else if p = 5 then _ else if p = 6 then _ else if p = 7 then _ else if p = 8 then _ else if p = 9 then _ else if p = 10 then _ else if p = 11 then _ else if p = 12 then _ else if p = 13 then _ else if p = 14 then _ else ((15, []) : St)) = _
    rw [if_neg (by omega), if_neg (by omega), if_neg (by omega), if_neg (by omega), if_neg (by omega), if_neg (by omega), if_neg (by omega), if_neg (by omega), if_neg (by omega), if_neg (by omega), if_neg (by omega), if_neg (by omega), if_neg h13, if_neg h14]

theorem step_c (p : Int) (l : List UInt8) (c : UInt8) (w : World) :
    Calls Tryz.prog 139 #[.int .i64 p, .string (S l), .int .u8 (c.toNat : Int)] w fun e w' => e = .returned (.tuple #[.int .i64 (stepJ (p, l) c).1, .string (S (stepJ (p, l) c).2)]) ∧ Below w.heap.size w w' := by
  by_cases h01 : p = 0 ∨ p = 1
  · have e : stepJ (p, l) c = codeJ p l c := by unfold stepJ; simp only [h01, if_true]
    rw [e]
    exact step_code p h01 l c w
  have h0 : p ≠ 0 := fun h => h01 (.inl h)
  have h1 : p ≠ 1 := fun h => h01 (.inr h)
  by_cases h13 : p = 13
  · subst h13
    have e9 : stepJ (9, []) c = (inI 9 (c.toNat : Int), []) := step_inI 9 (by decide) (by decide) (by decide) (by decide) [] c
    have e : stepJ (13, l) c = if c = 47 then (6, []) else if c = 42 then (7, []) else stepJ (9, []) c := rfl
    rw [e, e9]
    exact step13_c l c _ [] (fun w => step_in 9 _ (by decide) (by decide) (by decide) (by decide) ⟨#[]⟩ _ (fun w => within_c 9 _ w) w) w
  by_cases h14 : p = 14
  · subst h14
    have e : stepJ (14, l) c = if c = 47 then (6, []) else if c = 42 then (7, []) else ((codeJ 0 [] c).1, (codeJ 0 [] c).2) := rfl
    rw [e]
    exact step14_c l c _ _ (fun w => step_code 0 (.inl rfl) [] c w) w
  have e : stepJ (p, l) c = (inI p (c.toNat : Int), []) := step_inI p h0 h1 h13 h14 l c
  rw [e]
  exact step_in p _ h0 h1 h13 h14 (S l) _ (fun w => within_c p _ w) w
end Go.Proofs.YtklpbkjplecdpaaGreat.Jsc
