/-
  Part 24: ScwHole, ScwEq, PgHex.
-/
import Derived.Test.YtklpbkjplecdpaaGreatSxBaseP23
import Derived.Laws.StructEq
import Derived.Test.YtklpbkjplecdpaaGreatSxBaseP1
import Derived.Test.YtklpbkjplecdpaaGreatProg
import Derived.Lib.Hide
/-
  Contract of Hole of package scan, at every state that octets make.
-/
namespace Go.Proofs.YtklpbkjplecdpaaGreat.Scw
open Go.RowKit Oct Crf Scn Tab Tok

def urlH (s : Sc) : Sc × Nat := if s.n = 0 then ({ s with n := 4, w := [] }, 4) else if s.n = 2 then ({ s with w := [] }, 5) else if s.n = 3 then ({ s with w := [] }, 6) else ({ s with w := [] }, 0)
def jsH (first : Nat) (s : Sc) : Sc × Nat := if s.n = 0 ∨ s.n = 1 then ({ s with n := 1, w := [] }, first) else if s.n = 2 ∨ s.n = 3 then ({ s with w := [] }, first + 1) else ({ s with w := [] }, 0)
def csH (kind : Nat) (s : Sc) : Sc × Nat := if s.n = 0 then ({ s with w := [63] }, kind) else ({ s with w := [] }, 0)
def valH (s : Sc) : Sc × Nat := if endE s.e = true then (s, 0) else if rulN s = 0 then (s, 3) else if rulN s = 1 then urlH s else if rulN s = 2 then jsH 9 s else if rulN s = 3 then csH 12 s else (s, 0)
def passH (s : Sc) : Sc × Nat :=
  if s.p ≠ [] ∨ s.r ≠ [] then (s, 0) else if s.k = 0 then (s, 1) else if s.k = 17 then (s, 2) else if s.k = 9 then valH s else if s.k = 18 then csH 11 s else if s.k = 19 then jsH 7 s else (s, 0)
def PassTo (R : Nat) (T : TypeId) (tl : List Value) (w : World) (x : Sc × Nat) (e : Ending) (w' : World) : Prop := e = .returned (.int .i64 (x.2 : Int)) ∧ Wk R T tl x.1 w' ∧ Keeps R w w'

theorem counted_c (f n : Int) (hf : 0 ≤ f ∧ f ≤ 100) (hn : 0 ≤ n ∧ n ≤ 100) (w : World) : Calls Tryz.prog 97 #[.int .i64 f, .int .i64 n] w fun e w' => e = .returned (.int .i64 (if n = 0 then 0 else f + n - 1)) ∧ w = w' := by
  by_cases h : n = 0
  · subst h
    rw [if_pos rfl]
    go_enter Tryz.func97, Tryz.ntmps97
    go_wp2_with fail
    go_ret
    exact ⟨rfl, rfl⟩
  · rw [if_neg h]
    have b : (n == 0) = false := by rw [beq_eq_false_iff_ne]; exact h
    clear h
    go_enter Tryz.func97, Tryz.ntmps97
    go_wp2_with fail
    go_ret
    exact ⟨rfl, rfl⟩

theorem uhole_c (p : Int) (w : World) : Calls Tryz.prog 115 #[.int .i64 p] w fun e w' => e = .returned (.tuple #[.int .i64 (if p = 0 then 4 else p), .int .i64 (if p = 0 then 1 else if p = 2 then 2 else if p = 3 then 3 else 0)]) ∧ w = w' := by
  by_cases h0 : p = 0
  · subst h0
    go_enter Tryz.func115, Tryz.ntmps115
    go_wp2_with fail
    go_ret2
    exact ⟨rfl, rfl⟩
  by_cases h2 : p = 2
  · subst h2
    go_enter Tryz.func115, Tryz.ntmps115
    go_wp2_with fail
    go_ret2
    exact ⟨rfl, rfl⟩
  by_cases h3 : p = 3
  · subst h3
    go_enter Tryz.func115, Tryz.ntmps115
    go_wp2_with fail
    go_ret2
    exact ⟨rfl, rfl⟩
  rw [if_neg h0, if_neg h0, if_neg h2, if_neg h3]
  have b0 : (p == 0) = false := by rw [beq_eq_false_iff_ne]; exact h0
  have b2 : (p == 2) = false := by rw [beq_eq_false_iff_ne]; exact h2
  have b3 : (p == 3) = false := by rw [beq_eq_false_iff_ne]; exact h3
  clear h0 h2 h3
  go_enter Tryz.func115, Tryz.ntmps115
  go_wp2_with fail
  go_ret2
  exact ⟨rfl, rfl⟩
theorem jhole_c (p : Int) (X : ByteArray) (w : World) : Calls Tryz.prog 96 #[.int .i64 p, .string X] w fun e w' => e = .returned (.tuple #[.int .i64 (if p = 0 ∨ p = 1 then 1 else p), .int .i64 (if p = 0 ∨ p = 1 then 1 else if p = 2 ∨ p = 3 then 2 else 0)]) ∧ w = w' := by
  by_cases h0 : p = 0
  · subst h0
    go_enter Tryz.func96, Tryz.ntmps96
    go_wp2_with fail
    go_ret2
    exact ⟨rfl, rfl⟩
  by_cases h1 : p = 1
  · subst h1
    go_enter Tryz.func96, Tryz.ntmps96
    go_wp2_with fail
    go_ret2
    exact ⟨rfl, rfl⟩
  by_cases h2 : p = 2
  · subst h2
    go_enter Tryz.func96, Tryz.ntmps96
    go_wp2_with fail
    go_ret2
    exact ⟨rfl, rfl⟩
  by_cases h3 : p = 3
  · subst h3
    go_enter Tryz.func96, Tryz.ntmps96
    go_wp2_with fail
    go_ret2
    exact ⟨rfl, rfl⟩
  rw [if_neg (by omega), if_neg (by omega), if_neg (by omega)]
  have b0 : (p == 0) = false := by rw [beq_eq_false_iff_ne]; exact h0
  have b1 : (p == 1) = false := by rw [beq_eq_false_iff_ne]; exact h1
  have b2 : (p == 2) = false := by rw [beq_eq_false_iff_ne]; exact h2
  have b3 : (p == 3) = false := by rw [beq_eq_false_iff_ne]; exact h3
  clear h0 h1 h2 h3
  go_enter Tryz.func96, Tryz.ntmps96
  go_wp2_with fail
  go_ret2
  exact ⟨rfl, rfl⟩
theorem chole_c (p : Int) (w : World) : Calls Tryz.prog 95 #[.int .i64 p] w fun e w' => e = .returned (.tuple #[.int .i64 p, .string (S (if p = 0 then [63] else [])), .bool (decide (p = 0))]) ∧ Below w.heap.size w w' := by
  have hc := fun w => clone_c ⟨#[63]⟩ w (by decide)
  by_cases h0 : p = 0
  · subst h0
    go_enter Tryz.func95, Tryz.ntmps95
    go_wp2_with fail
    refine (hc _).mono ?_
    rintro e w1 ⟨rfl, hb1⟩
    have B1 := Lib.hid hb1
    clear hb1 hc
    go_wp2_with fail
    go_ret3
    exact ⟨rfl, B1.out⟩
  · rw [if_neg h0, decide_eq_false h0]
    have b0 : (p == 0) = false := by rw [beq_eq_false_iff_ne]; exact h0
    clear h0 hc
    go_enter Tryz.func95, Tryz.ntmps95
    go_wp2_with fail
    go_ret3
    exact ⟨rfl, Below.refl _ _⟩
set_option maxHeartbeats 1000000 in
set_option maxRecDepth 100000 in
theorem passInURL_c (R : Nat) (T : TypeId) (tl : List Value) (s : Sc) (w : World) (h : Wk R T tl s w) :
    Calls Tryz.prog 94 #[.pointer (some ⟨R, 0, none⟩)] w (PassTo R T tl w (urlH s)) := by
  have hu := uhole_c s.n w
  have HX : Hid (∀ W, Below w.heap.size w W → W.cell? ⟨R, 6, none⟩ = some (.int .i64 s.n) ∧ W.cell? ⟨R, 7, none⟩ = some (.string (S s.w)) ∧ W.frozen? ⟨R, 6, none⟩ = false ∧ W.frozen? ⟨R, 7, none⟩ = false) := fun W hb => by
    have g := h.keep hb
    exact ⟨g.cells.2.2.2.2.2.2.1, g.cells.2.2.2.2.2.2.2, g.froz.2.2.2.2.2.2.1, g.froz.2.2.2.2.2.2.2⟩
  have fin : Hid (∀ W (p : Int) (X : List UInt8), Below w.heap.size w W → Wk R T tl { s with n := p, w := X } ((W.setCell ⟨R, 6, none⟩ (.int .i64 p)).setCell ⟨R, 7, none⟩ (.string (S X))) ∧ Keeps R w ((W.setCell ⟨R, 6, none⟩ (.int .i64 p)).setCell ⟨R, 7, none⟩ (.string (S X)))) := fun W p X hb => by
    have h8 := heap_setCell_same _ R 7 _ _ (.string (S X)) (heap_setCell_same _ R 6 _ _ (.int .i64 p) (h.keep hb))
    simp only [List.setIfInBounds_toArray, List.set_cons_zero, List.set_cons_succ] at h8
    exact ⟨h8, ((Keeps.of hb).trans (Keeps.set W _)).trans (Keeps.set _ _)⟩
  obtain ⟨x6, x7, z6, z7⟩ := HX.out w (Below.refl _ w)
  clear h
  have key : Hid (((urlH s).2 : Int) = (if (if s.n = 0 then (1 : Int) else if s.n = 2 then 2 else if s.n = 3 then 3 else 0) = 0 then 0 else 4 + (if s.n = 0 then (1 : Int) else if s.n = 2 then 2 else if s.n = 3 then 3 else 0) - 1) ∧ (urlH s).1 = { s with n := if s.n = 0 then 4 else s.n, w := [] }) := by
    show _ ∧ _
    unfold urlH
    by_cases h0 : s.n = 0
    · simp [h0]
    · by_cases h2 : s.n = 2
      · simp [h2]
      · by_cases h3 : s.n = 3
        · simp [h3]
        · simp [h0, h2, h3]
  have hr : 0 ≤ (if s.n = 0 then (1 : Int) else if s.n = 2 then 2 else if s.n = 3 then 3 else 0) ∧ (if s.n = 0 then (1 : Int) else if s.n = 2 then 2 else if s.n = 3 then 3 else 0) ≤ 100 := by
    repeat' split
    all_goals omega
  have hct := fun w => counted_c 4 _ (by decide) hr w
  generalize (if s.n = 0 then (1 : Int) else if s.n = 2 then 2 else if s.n = 3 then 3 else 0) = K at hu key hct
  generalize (if s.n = 0 then (4 : Int) else s.n) = P at hu key
  generalize (if K = 0 then (0 : Int) else 4 + K - 1) = V at key hct
  clear hr
  go_enter Tryz.func94, Tryz.ntmps94
  go_wp2_with fail
  refine hu.mono ?_
  rintro e w1 ⟨rfl, rfl⟩
  clear hu
  go_wp2_with fail
  refine (hct _).mono ?_
  rintro e w2 ⟨rfl, rfl⟩
  go_wp2_with fail
  go_ret
  have q := fin.out w P [] (Below.refl _ w)
  rw [← key.out.2] at q
  exact ⟨by rw [key.out.1]; rfl, q.1, q.2⟩
set_option maxHeartbeats 1000000 in
set_option maxRecDepth 100000 in
theorem passInScript_c (f : Nat) (fI : Int) (hfI : fI = (f : Int)) (hf : f ≤ 50) (R : Nat) (T : TypeId) (tl : List Value) (s : Sc) (w : World) (h : Wk R T tl s w) :
    Calls Tryz.prog 64 #[.pointer (some ⟨R, 0, none⟩), .int .i64 fI] w (PassTo R T tl w (jsH f s)) := by
  have hu := fun w => jhole_c s.n (S s.w) w
  have HX : Hid (∀ W, Below w.heap.size w W → W.cell? ⟨R, 6, none⟩ = some (.int .i64 s.n) ∧ W.cell? ⟨R, 7, none⟩ = some (.string (S s.w)) ∧ W.frozen? ⟨R, 6, none⟩ = false ∧ W.frozen? ⟨R, 7, none⟩ = false) := fun W hb => by
    have g := h.keep hb
    exact ⟨g.cells.2.2.2.2.2.2.1, g.cells.2.2.2.2.2.2.2, g.froz.2.2.2.2.2.2.1, g.froz.2.2.2.2.2.2.2⟩
  have fin : Hid (∀ W (p : Int) (X : List UInt8), Below w.heap.size w W → Wk R T tl { s with n := p, w := X } ((W.setCell ⟨R, 6, none⟩ (.int .i64 p)).setCell ⟨R, 7, none⟩ (.string (S X))) ∧ Keeps R w ((W.setCell ⟨R, 6, none⟩ (.int .i64 p)).setCell ⟨R, 7, none⟩ (.string (S X)))) := fun W p X hb => by
    have h8 := heap_setCell_same _ R 7 _ _ (.string (S X)) (heap_setCell_same _ R 6 _ _ (.int .i64 p) (h.keep hb))
    simp only [List.setIfInBounds_toArray, List.set_cons_zero, List.set_cons_succ] at h8
    exact ⟨h8, ((Keeps.of hb).trans (Keeps.set W _)).trans (Keeps.set _ _)⟩
  obtain ⟨x6, x7, z6, z7⟩ := HX.out w (Below.refl _ w)
  clear h
  have key : Hid (((jsH f s).2 : Int) = (if (if s.n = 0 ∨ s.n = 1 then (1 : Int) else if s.n = 2 ∨ s.n = 3 then 2 else 0) = 0 then 0 else fI + (if s.n = 0 ∨ s.n = 1 then (1 : Int) else if s.n = 2 ∨ s.n = 3 then 2 else 0) - 1) ∧ (jsH f s).1 = { s with n := if s.n = 0 ∨ s.n = 1 then 1 else s.n, w := [] }) := by
    show _ ∧ _
    unfold jsH
    by_cases h0 : s.n = 0 ∨ s.n = 1
    · simp only [if_pos h0]; constructor <;> first | trivial | (simp; omega)
    · by_cases h2 : s.n = 2 ∨ s.n = 3
      · simp only [if_neg h0, if_pos h2]; constructor <;> first | trivial | (simp; omega)
      · simp only [if_neg h0, if_neg h2]; constructor <;> first | trivial | rfl
  have hr : 0 ≤ (if s.n = 0 ∨ s.n = 1 then (1 : Int) else if s.n = 2 ∨ s.n = 3 then 2 else 0) ∧ (if s.n = 0 ∨ s.n = 1 then (1 : Int) else if s.n = 2 ∨ s.n = 3 then 2 else 0) ≤ 100 := by
    repeat' split
    all_goals omega
  have hct := fun w => counted_c fI _ (by omega) hr w
  generalize (if s.n = 0 ∨ s.n = 1 then (1 : Int) else if s.n = 2 ∨ s.n = 3 then 2 else 0) = K at hu key hct
  generalize (if s.n = 0 ∨ s.n = 1 then (1 : Int) else s.n) = P at hu key
  generalize (if K = 0 then (0 : Int) else fI + K - 1) = V at key hct
  clear hr hfI hf
  go_enter Tryz.func64, Tryz.ntmps64
  go_wp2_with fail
  go_quiet ((go_at_call 96; exact quiet_same (hu _)))
  have B1 := Lib.hid (Oct.below_drewN (Below.refl w.heap.size w) nq)
  obtain ⟨x6', x7', z6', z7'⟩ := HX.out _ B1.out
  generalize w.drewN nq = w1 at B1 x6' x7' z6' z7' ⊢
  clear hu x6 x7 z6 z7
  go_wp2_with fail
  refine (hct _).mono ?_
  rintro e w2 ⟨rfl, rfl⟩
  go_wp2_with fail
  go_ret
  have q := fin.out w1 P [] B1.out
  rw [← key.out.2] at q
  exact ⟨by rw [key.out.1]; rfl, q.1, q.2⟩
set_option maxHeartbeats 1000000 in
set_option maxRecDepth 100000 in
theorem passInStyle_c (f : Nat) (fI : Int) (hfI : fI = (f : Int)) (R : Nat) (T : TypeId) (tl : List Value) (s : Sc) (w : World) (h : Wk R T tl s w) :
    Calls Tryz.prog 63 #[.pointer (some ⟨R, 0, none⟩), .int .i64 fI] w (PassTo R T tl w (csH f s)) := by
  have hu := chole_c s.n w
  have HX : Hid (∀ W, Below w.heap.size w W → W.cell? ⟨R, 6, none⟩ = some (.int .i64 s.n) ∧ W.cell? ⟨R, 7, none⟩ = some (.string (S s.w)) ∧ W.frozen? ⟨R, 6, none⟩ = false ∧ W.frozen? ⟨R, 7, none⟩ = false) := fun W hb => by
    have g := h.keep hb
    exact ⟨g.cells.2.2.2.2.2.2.1, g.cells.2.2.2.2.2.2.2, g.froz.2.2.2.2.2.2.1, g.froz.2.2.2.2.2.2.2⟩
  have fin : Hid (∀ W (p : Int) (X : List UInt8), Below w.heap.size w W → Wk R T tl { s with n := p, w := X } ((W.setCell ⟨R, 6, none⟩ (.int .i64 p)).setCell ⟨R, 7, none⟩ (.string (S X))) ∧ Keeps R w ((W.setCell ⟨R, 6, none⟩ (.int .i64 p)).setCell ⟨R, 7, none⟩ (.string (S X)))) := fun W p X hb => by
    have h8 := heap_setCell_same _ R 7 _ _ (.string (S X)) (heap_setCell_same _ R 6 _ _ (.int .i64 p) (h.keep hb))
    simp only [List.setIfInBounds_toArray, List.set_cons_zero, List.set_cons_succ] at h8
    exact ⟨h8, ((Keeps.of hb).trans (Keeps.set W _)).trans (Keeps.set _ _)⟩
  obtain ⟨x6, x7, z6, z7⟩ := HX.out w (Below.refl _ w)
  clear h
  have key : Hid (((csH f s).2 : Int) = (if decide (s.n = 0) = true then fI else 0) ∧ (csH f s).1 = { s with n := s.n, w := if s.n = 0 then [63] else [] }) := by
    show _ ∧ _
    unfold csH
    by_cases h0 : s.n = 0
    · simp [h0, hfI]
    · simp [h0]
  generalize (if s.n = 0 then ([63] : List UInt8) else []) = P at hu key
  generalize decide (s.n = 0) = b at hu key
  clear hfI
  cases b with
  | true =>
    go_enter Tryz.func63, Tryz.ntmps63
    go_wp2_with fail
    refine hu.mono ?_
    rintro e w1 ⟨rfl, hb1⟩
    obtain ⟨x6', x7', z6', z7'⟩ := HX.out w1 hb1
    have B1 := Lib.hid hb1
    clear hu hb1 x6 x7 z6 z7
    go_wp2_with fail
    go_ret
    have q := fin.out w1 s.n P B1.out
    rw [← key.out.2] at q
    exact ⟨by rw [key.out.1]; rfl, q.1, q.2⟩
  | false =>
    go_enter Tryz.func63, Tryz.ntmps63
    go_wp2_with fail
    refine hu.mono ?_
    rintro e w1 ⟨rfl, hb1⟩
    obtain ⟨x6', x7', z6', z7'⟩ := HX.out w1 hb1
    have B1 := Lib.hid hb1
    clear hu hb1 x6 x7 z6 z7
    go_wp2_with fail
    go_ret
    have q := fin.out w1 s.n P B1.out
    rw [← key.out.2] at q
    exact ⟨by rw [key.out.1]; rfl, q.1, q.2⟩
set_option maxHeartbeats 1000000 in
set_option maxRecDepth 100000 in
theorem passInValue_c (R : Nat) (T : TypeId) (tl : List Value) (s : Sc) (w : World) (h : Wk R T tl s w) :
    Calls Tryz.prog 62 #[.pointer (some ⟨R, 0, none⟩)] w (PassTo R T tl w (valH s)) := by
  have hi := inEndTag_c s.e R T tl _ _ _ _ _ _ _ w h
  have hr := rules_c s.e s.a R T tl (s.k : Int) s.d (S s.p) (S s.r) s.n (S s.w) w h
  rw [rul_nat] at hr
  have HK : Hid (∀ W, Below w.heap.size w W → Wk R T tl s W) := fun W hb => h.keep hb
  have HU : Hid (∀ W, Wk R T tl s W → Calls Tryz.prog 94 #[.pointer (some ⟨R, 0, none⟩)] W (PassTo R T tl W (urlH s))) := fun W g => passInURL_c R T tl s W g
  have HJ : Hid (∀ W, Wk R T tl s W → Calls Tryz.prog 64 #[.pointer (some ⟨R, 0, none⟩), .int .i64 9] W (PassTo R T tl W (jsH 9 s))) := fun W g => passInScript_c 9 9 rfl (by decide) R T tl s W g
  have HC : Hid (∀ W, Wk R T tl s W → Calls Tryz.prog 63 #[.pointer (some ⟨R, 0, none⟩), .int .i64 12] W (PassTo R T tl W (csH 12 s))) := fun W g => passInStyle_c 12 12 rfl R T tl s W g
  have HW := Lib.hid h
  have E : Hid (valH s = if endE s.e = true then (s, 0) else if rulN s = 0 then (s, 3) else if rulN s = 1 then urlH s else if rulN s = 2 then jsH 9 s else if rulN s = 3 then csH 12 s else (s, 0)) := by show _ = _; rfl
  clear h
  generalize valH s = x at E ⊢
  generalize rulN s = m at hr E
  generalize endE s.e = b at hi E
  have E := E.out
  have e0 : ((m : Int) == 0) = decide (m = 0) := by rw [Bool.eq_iff_iff, beq_iff_eq, decide_eq_true_iff]; omega
  have e1 : ((m : Int) == 1) = decide (m = 1) := by rw [Bool.eq_iff_iff, beq_iff_eq, decide_eq_true_iff]; omega
  have e2 : ((m : Int) == 2) = decide (m = 2) := by rw [Bool.eq_iff_iff, beq_iff_eq, decide_eq_true_iff]; omega
  have e3 : ((m : Int) == 3) = decide (m = 3) := by rw [Bool.eq_iff_iff, beq_iff_eq, decide_eq_true_iff]; omega
  cases b with
  | true =>
    rw [if_pos rfl] at E
    subst E
    clear hr e0 e1 e2 e3
    go_enter Tryz.func62, Tryz.ntmps62
    go_wp2_with fail
    refine hi.mono ?_
    rintro e w1 ⟨rfl, rfl⟩
    go_wp2_with fail
    go_ret
    exact ⟨rfl, HW.out, Keeps.refl R w⟩
  | false =>
    rw [if_neg (by decide)] at E
    by_cases h0 : m = 0
    · rw [if_pos h0] at E
      rw [decide_eq_true h0] at e0
      subst E
      clear h0 e1 e2 e3
      generalize (m : Int) = M at *
      go_enter Tryz.func62, Tryz.ntmps62
      go_wp2_with fail
      refine hi.mono ?_
      rintro e w1 ⟨rfl, rfl⟩
      clear hi
      go_wp2_with fail
      refine hr.mono ?_
      rintro e w3 ⟨rfl, hb3⟩
      have B3 := Lib.hid hb3
      clear hb3 hr
      go_wp2_with fail
      go_ret
      exact ⟨rfl, HK.out _ B3.out, Keeps.of B3.out⟩
    rw [if_neg h0] at E
    rw [decide_eq_false h0] at e0
    by_cases h1 : m = 1
    · rw [if_pos h1] at E
      rw [decide_eq_true h1] at e1
      subst E
      clear h0 h1 e2 e3
      generalize (m : Int) = M at *
      go_enter Tryz.func62, Tryz.ntmps62
      go_wp2_with fail
      refine hi.mono ?_
      rintro e w1 ⟨rfl, rfl⟩
      clear hi
      go_wp2_with fail
      refine hr.mono ?_
      rintro e w3 ⟨rfl, hb3⟩
      have B3 := Lib.hid hb3
      clear hb3 hr
      go_wp2_with fail
      refine (HU.out _ (HK.out _ B3.out)).mono ?_
      rintro e w2 ⟨rfl, hw, hk⟩
      have K2 := Lib.hid (And.intro hw ((Keeps.of B3.out).trans hk))
      clear hw hk
      go_wp2_with fail
      go_ret
      exact ⟨rfl, K2.out.1, K2.out.2⟩
    rw [if_neg h1] at E
    rw [decide_eq_false h1] at e1
    by_cases h2 : m = 2
    · rw [if_pos h2] at E
      rw [decide_eq_true h2] at e2
      subst E
      clear h0 h1 h2 e3
      generalize (m : Int) = M at *
      go_enter Tryz.func62, Tryz.ntmps62
      go_wp2_with fail
      refine hi.mono ?_
      rintro e w1 ⟨rfl, rfl⟩
      clear hi
      go_wp2_with fail
      refine hr.mono ?_
      rintro e w3 ⟨rfl, hb3⟩
      have B3 := Lib.hid hb3
      clear hb3 hr
      go_wp2_with fail
      refine (HJ.out _ (HK.out _ B3.out)).mono ?_
      rintro e w2 ⟨rfl, hw, hk⟩
      have K2 := Lib.hid (And.intro hw ((Keeps.of B3.out).trans hk))
      clear hw hk
      go_wp2_with fail
      go_ret
      exact ⟨rfl, K2.out.1, K2.out.2⟩
    rw [if_neg h2] at E
    rw [decide_eq_false h2] at e2
    by_cases h3 : m = 3
    · rw [if_pos h3] at E
      rw [decide_eq_true h3] at e3
      subst E
      clear h0 h1 h2 h3
      generalize (m : Int) = M at *
      go_enter Tryz.func62, Tryz.ntmps62
      go_wp2_with fail
      refine hi.mono ?_
      rintro e w1 ⟨rfl, rfl⟩
      clear hi
      go_wp2_with fail
      refine hr.mono ?_
      rintro e w3 ⟨rfl, hb3⟩
      have B3 := Lib.hid hb3
      clear hb3 hr
      go_wp2_with fail
      refine (HC.out _ (HK.out _ B3.out)).mono ?_
      rintro e w2 ⟨rfl, hw, hk⟩
      have K2 := Lib.hid (And.intro hw ((Keeps.of B3.out).trans hk))
      clear hw hk
      go_wp2_with fail
      go_ret
      exact ⟨rfl, K2.out.1, K2.out.2⟩
    rw [if_neg h3] at E
    rw [decide_eq_false h3] at e3
    subst E
    clear h0 h1 h2 h3
    generalize (m : Int) = M at *
    go_enter Tryz.func62, Tryz.ntmps62
    go_wp2_with fail
    refine hi.mono ?_
    rintro e w1 ⟨rfl, rfl⟩
    clear hi
    go_wp2_with fail
    refine hr.mono ?_
    rintro e w3 ⟨rfl, hb3⟩
    have B3 := Lib.hid hb3
    clear hb3 hr
    go_wp2_with fail
    go_ret
    exact ⟨rfl, HK.out _ B3.out, Keeps.of B3.out⟩
set_option maxHeartbeats 1000000 in
set_option maxRecDepth 100000 in
theorem passAction_c (R : Nat) (T : TypeId) (tl : List Value) (s : Sc) (w : World) (h : Wk R T tl s w) :
    Calls Tryz.prog 30 #[.pointer (some ⟨R, 0, none⟩)] w (PassTo R T tl w (passH s)) := by
  obtain ⟨c0, c1, c2, c3, c4, c5, c6, c7⟩ := h.cells
  have qp : ((S s.p).toList == []) = decide (s.p = []) := eqT _ _
  have qr : ((S s.r).toList == []) = decide (s.r = []) := eqT _ _
  have hv := passInValue_c R T tl s w h
  have hc := passInStyle_c 11 11 rfl R T tl s w h
  have hj := passInScript_c 7 7 rfl (by decide) R T tl s w h
  have HW := Lib.hid h
  have E : Hid (passH s = if s.p ≠ [] ∨ s.r ≠ [] then (s, 0) else if s.k = 0 then (s, 1) else if s.k = 17 then (s, 2) else if s.k = 9 then valH s else if s.k = 18 then csH 11 s else if s.k = 19 then jsH 7 s else (s, 0)) := by show _ = _; rfl
  have e0 : ((s.k : Int) == 0) = decide (s.k = 0) := by rw [Bool.eq_iff_iff, beq_iff_eq, decide_eq_true_iff]; omega
  have e17 : ((s.k : Int) == 17) = decide (s.k = 17) := by rw [Bool.eq_iff_iff, beq_iff_eq, decide_eq_true_iff]; omega
  have e9 : ((s.k : Int) == 9) = decide (s.k = 9) := by rw [Bool.eq_iff_iff, beq_iff_eq, decide_eq_true_iff]; omega
  have e18 : ((s.k : Int) == 18) = decide (s.k = 18) := by rw [Bool.eq_iff_iff, beq_iff_eq, decide_eq_true_iff]; omega
  have e19 : ((s.k : Int) == 19) = decide (s.k = 19) := by rw [Bool.eq_iff_iff, beq_iff_eq, decide_eq_true_iff]; omega
  clear h
  generalize passH s = x at E ⊢
  generalize S s.p = X at *
  generalize S s.r = Y at *
  generalize (s.k : Int) = KI at *
  have E := E.out
  by_cases hp : s.p = []
  · rw [decide_eq_true hp] at qp
    by_cases hr : s.r = []
    · rw [decide_eq_true hr] at qr
      rw [if_neg (fun g => g.elim (fun q => q hp) (fun q => q hr))] at E
      clear hp hr
      by_cases h0 : s.k = 0
      · rw [if_pos h0] at E
        rw [decide_eq_true h0] at e0
        subst E
        clear h0 e17 e9 e18 e19 hv hc hj
        go_enter Tryz.func30, Tryz.ntmps30
        go_wp2_with fail
        go_ret
        exact ⟨rfl, HW.out, Keeps.refl R w⟩
      rw [if_neg h0] at E
      rw [decide_eq_false h0] at e0
      by_cases h17 : s.k = 17
      · rw [if_pos h17] at E
        rw [decide_eq_true h17] at e17
        subst E
        clear h0 h17 e9 e18 e19 hv hc hj
        go_enter Tryz.func30, Tryz.ntmps30
        go_wp2_with fail
        go_ret
        exact ⟨rfl, HW.out, Keeps.refl R w⟩
      rw [if_neg h17] at E
      rw [decide_eq_false h17] at e17
      by_cases h9 : s.k = 9
      · rw [if_pos h9] at E
        rw [decide_eq_true h9] at e9
        subst E
        clear h0 h17 h9 e18 e19 hc hj
        go_enter Tryz.func30, Tryz.ntmps30
        go_wp2_with fail
        refine hv.mono ?_
        rintro e w2 ⟨rfl, hw, hk⟩
        have K2 := Lib.hid (And.intro hw ((Keeps.refl R w).trans hk))
        clear hw hk
        go_wp2_with fail
        go_ret
        exact ⟨rfl, K2.out.1, K2.out.2⟩
      rw [if_neg h9] at E
      rw [decide_eq_false h9] at e9
      by_cases h18 : s.k = 18
      · rw [if_pos h18] at E
        rw [decide_eq_true h18] at e18
        subst E
        clear h0 h17 h9 h18 e19 hv hj
        go_enter Tryz.func30, Tryz.ntmps30
        go_wp2_with fail
        refine hc.mono ?_
        rintro e w2 ⟨rfl, hw, hk⟩
        have K2 := Lib.hid (And.intro hw ((Keeps.refl R w).trans hk))
        clear hw hk
        go_wp2_with fail
        go_ret
        exact ⟨rfl, K2.out.1, K2.out.2⟩
      rw [if_neg h18] at E
      rw [decide_eq_false h18] at e18
      by_cases h19 : s.k = 19
      · rw [if_pos h19] at E
        rw [decide_eq_true h19] at e19
        subst E
        clear h0 h17 h9 h18 h19 hv hc
        go_enter Tryz.func30, Tryz.ntmps30
        go_wp2_with fail
        refine hj.mono ?_
        rintro e w2 ⟨rfl, hw, hk⟩
        have K2 := Lib.hid (And.intro hw ((Keeps.refl R w).trans hk))
        clear hw hk
        go_wp2_with fail
        go_ret
        exact ⟨rfl, K2.out.1, K2.out.2⟩
      rw [if_neg h19] at E
      rw [decide_eq_false h19] at e19
      subst E
      clear h0 h17 h9 h18 h19 hv hc hj
      go_enter Tryz.func30, Tryz.ntmps30
      go_wp2_with fail
      go_ret
      exact ⟨rfl, HW.out, Keeps.refl R w⟩
    · rw [decide_eq_false hr] at qr
      rw [if_pos (.inr hr)] at E
      subst E
      clear hp hr e0 e17 e9 e18 e19 hv hc hj
      go_enter Tryz.func30, Tryz.ntmps30
      go_wp2_with fail
      go_ret
      exact ⟨rfl, HW.out, Keeps.refl R w⟩
  · rw [decide_eq_false hp] at qp
    rw [if_pos (.inl hp)] at E
    subst E
    clear hp qr e0 e17 e9 e18 e19 hv hc hj
    go_enter Tryz.func30, Tryz.ntmps30
    go_wp2_with fail
    go_ret
    exact ⟨rfl, HW.out, Keeps.refl R w⟩

theorem met_checkS {s : Sc} (h : Met s) : checkS s = 0 := by
  have h1 := h.k
  have h2 := h.e2
  have h3 := h.a2
  have h4 := h.p2
  have h5 := h.r2
  have h6 := h.w
  have h7 := h.n1
  have h8 := h.n2
  unfold checkS
  rw [if_neg (by omega), if_neg (by omega), if_neg (by omega), if_neg, if_neg, if_neg]
  · rintro ⟨g, g1 | g1⟩
    · exact g1 (h.l g).1
    · exact g1 (h.l g).2
  · rintro (⟨g1, g2, g3⟩ | ⟨g1, g2⟩)
    · rcases h.d with ⟨_, q | q⟩ | ⟨q, _⟩
      · exact g2 q
      · exact g3 q
      · exact q g1
    · rcases h.d with ⟨q, _⟩ | ⟨_, q⟩
      · exact g1 q
      · exact g2 q
  · rintro (⟨g1, g2⟩ | ⟨g1, g2⟩ | ⟨g1, g2⟩ | ⟨g1, g2⟩)
    · rcases h.e1 with q | q
      · rw [g1] at q; cases q
      · exact g2 q
    · rcases h.a1 with q | q
      · rw [g1] at q; cases q
      · exact g2 q
    · rcases h.p1 with q | q
      · omega
      · exact g2 q
    · rcases h.r1 with q | q
      · rw [g1] at q; cases q
      · exact g2 q
theorem attr_le (e a : List UInt8) : attrN e a ≤ 4 := by
  unfold attrN
  repeat' split
  all_goals omega
theorem hole_pass {s : Sc} (h : Met s) : holeS s = if (passH s).2 = 0 then .error 91 else .ok (passH s) := by
  unfold holeS passH
  rw [met_checkS h, if_neg (by simp)]
  by_cases hpr : s.p ≠ [] ∨ s.r ≠ []
  · rw [if_pos hpr, if_pos hpr]; rfl
  rw [if_neg hpr, if_neg hpr]
  by_cases h0 : s.k = 0
  · rw [if_pos h0, if_pos h0]; rfl
  rw [if_neg h0, if_neg h0]
  by_cases h17 : s.k = 17
  · rw [if_pos h17, if_pos h17]; rfl
  rw [if_neg h17, if_neg h17]
  have keyU : ∀ t : Sc, langN t = 1 → langHole t = if (urlH t).2 = 0 then .error 91 else .ok (urlH t) := fun t ht => by
    unfold langHole urlH
    rw [if_pos ht]
    by_cases q0 : t.n = 0
    · rw [if_pos q0, if_pos q0]; rfl
    rw [if_neg q0, if_neg q0]
    by_cases q2 : t.n = 2
    · rw [if_pos q2, if_pos q2]; rfl
    rw [if_neg q2, if_neg q2]
    by_cases q3 : t.n = 3
    · rw [if_pos q3, if_pos q3]; rfl
    rw [if_neg q3, if_neg q3]; rfl
  have keyJ : ∀ (t : Sc) (f : Nat), 0 < f → langN t = 2 → (if t.k = 9 then 9 else 7) = f → langHole t = if (jsH f t).2 = 0 then .error 91 else .ok (jsH f t) := fun t f hf0 ht hf => by
    unfold langHole jsH
    rw [ht, if_neg (by decide), if_pos rfl]
    have hf2 : (if t.k = 9 then 10 else 8) = f + 1 := by
      rw [← hf]; split <;> rfl
    rw [hf, hf2]
    by_cases q0 : t.n = 0 ∨ t.n = 1
    · rw [if_pos q0, if_pos q0, if_neg (by show ¬ f = 0; omega)]
    rw [if_neg q0, if_neg q0]
    by_cases q2 : t.n = 2 ∨ t.n = 3
    · rw [if_pos q2, if_pos q2, if_neg (by show ¬ f + 1 = 0; omega)]
    rw [if_neg q2, if_neg q2]; rfl
  have keyC : ∀ (t : Sc) (f : Nat), 0 < f → langN t = 3 → (if t.k = 9 then 12 else 11) = f → langHole t = if (csH f t).2 = 0 then .error 91 else .ok (csH f t) := fun t f hf0 ht hf => by
    unfold langHole csH
    rw [ht, if_neg (by decide), if_neg (by decide), if_pos rfl, hf]
    by_cases q0 : t.n = 0
    · rw [if_pos q0, if_pos q0, if_neg (by show ¬ f = 0; omega)]
    rw [if_neg q0, if_neg q0]; rfl
  by_cases h9 : s.k = 9
  · have hru : rulN s = attK s := by unfold rulN; rw [if_neg (by omega), if_neg (by omega)]
    have hla : langN s = if attK s < 4 then attK s else 0 := by unfold langN; rw [if_neg (by omega), if_neg (by omega), if_pos (.inl h9)]
    rw [if_pos h9]
    unfold valH
    rw [hru]
    cases hE : endE s.e with
    | true =>
      have ha : attK s = 0 := by unfold attK; rw [if_pos (.inr hE)]
      rw [if_neg (by rintro ⟨_, _, q⟩; cases q), if_pos (.inl h9), if_pos rfl]
      unfold langHole
      rw [hla, ha]
      rfl
    | false =>
      have hle : attK s ≤ 4 := by
        unfold attK
        split
        · omega
        · exact attr_le _ _
      rw [if_neg (show ¬ false = true by decide)]
      by_cases a0 : attK s = 0
      · rw [if_pos ⟨h9, a0, rfl⟩, if_pos a0]; rfl
      rw [if_neg (fun g => a0 g.2.1), if_neg a0, if_pos (.inl h9)]
      by_cases a1 : attK s = 1
      · rw [if_pos a1]
        exact keyU s (by rw [hla, a1]; rfl)
      rw [if_neg a1]
      by_cases a2 : attK s = 2
      · rw [if_pos a2]
        exact keyJ s 9 (by decide) (by rw [hla, a2]; rfl) (if_pos h9)
      rw [if_neg a2]
      by_cases a3 : attK s = 3
      · rw [if_pos a3]
        exact keyC s 12 (by decide) (by rw [hla, a3]; rfl) (if_pos h9)
      rw [if_neg a3]
      have a4 : attK s = 4 := by omega
      unfold langHole
      rw [hla, a4]
      rfl
  rw [if_neg (fun g => h9 g.1), if_neg h9]
  by_cases h18 : s.k = 18
  · rw [if_pos (.inr (.inl h18)), if_pos h18]
    exact keyC s 11 (by decide) (by unfold langN; rw [if_pos h18]) (if_neg h9)
  rw [if_neg h18]
  by_cases h19 : s.k = 19
  · rw [if_pos (.inr (.inr h19)), if_pos h19]
    exact keyJ s 7 (by decide) (by unfold langN; rw [if_neg h18, if_pos h19]) (if_neg h9)
  rw [if_neg h19, if_neg (by rintro (g | g | g); exact h9 g; exact h18 g; exact h19 g)]
  rfl

def holeV (s : Sc) : Value := .tuple (match holeS s with | .ok p => #[stA p.1, .int .i64 (p.2 : Int), .int .i64 0] | .error _ => #[zeroV, .int .i64 0, .int .i64 91])
theorem pass_same (s : Sc) : (passH s).1.e = s.e ∧ (passH s).1.a = s.a ∧ (passH s).1.p = s.p ∧ (passH s).1.r = s.r ∧ ((passH s).1.w = s.w ∨ (passH s).1.w.length ≤ 1) := by
  have hu : (urlH s).1.e = s.e ∧ (urlH s).1.a = s.a ∧ (urlH s).1.p = s.p ∧ (urlH s).1.r = s.r ∧ ((urlH s).1.w = s.w ∨ (urlH s).1.w.length ≤ 1) := by
    unfold urlH
    repeat' split
    all_goals exact ⟨rfl, rfl, rfl, rfl, .inr (by simp)⟩
  have hj : ∀ f, (jsH f s).1.e = s.e ∧ (jsH f s).1.a = s.a ∧ (jsH f s).1.p = s.p ∧ (jsH f s).1.r = s.r ∧ ((jsH f s).1.w = s.w ∨ (jsH f s).1.w.length ≤ 1) := fun f => by
    unfold jsH
    repeat' split
    all_goals exact ⟨rfl, rfl, rfl, rfl, .inr (by simp)⟩
  have hc : ∀ f, (csH f s).1.e = s.e ∧ (csH f s).1.a = s.a ∧ (csH f s).1.p = s.p ∧ (csH f s).1.r = s.r ∧ ((csH f s).1.w = s.w ∨ (csH f s).1.w.length ≤ 1) := fun f => by
    unfold csH
    repeat' split
    all_goals exact ⟨rfl, rfl, rfl, rfl, .inr (by simp)⟩
  have hn : s.e = s.e ∧ s.a = s.a ∧ s.p = s.p ∧ s.r = s.r ∧ (s.w = s.w ∨ s.w.length ≤ 1) := ⟨rfl, rfl, rfl, rfl, .inl rfl⟩
  unfold passH valH
  repeat' split
  all_goals first | exact hn | exact hu | exact hj _ | exact hc _
structure Hb (s : Sc) (w Y : World) : Prop where
  low : Below w.heap.size w Y
  st : Pl w.heap.size 24 [] (s.k : Int) (S s.e) (S s.a) (s.d.toNat : Int) (S s.p) (S s.r) s.n (S s.w) Y
  res : Pl (w.heap.size + 1) 24 [] 0 ⟨#[]⟩ ⟨#[]⟩ 0 ⟨#[]⟩ ⟨#[]⟩ 0 ⟨#[]⟩ Y
theorem Hb.keeps {s : Sc} {w Y Z : World} (h : Hb s w Y) {pb : Nat} (hp : w.heap.size + 1 < pb) (hk : Keeps pb Y Z) : Hb s w Z := by
  have hs := h.low.size
  have h1 := h.st.lt
  have h2 := h.res.lt
  exact ⟨⟨hk.os.trans h.low.os, hk.tape.trans h.low.tape, hk.output.trans h.low.output, Nat.le_trans hs hk.size, fun b hb => (hk.block b (by omega) (by omega)).trans (h.low.block b hb)⟩, (hk.block _ h1 (by omega)).trans h.st, (hk.block _ h2 (by omega)).trans h.res⟩
theorem Hb.grow {s : Sc} {w Y Z : World} (h : Hb s w Y) (hb : Below Y.heap.size Y Z) : Hb s w Z :=
  ⟨h.low.trans (hb.mono h.low.size), h.st.keep hb, h.res.keep hb⟩
theorem hb_new (s : Sc) (w : World) : Hb s w ((w.alloc (.cells #[.int .i64 (s.k : Int), .string (S s.e), .string (S s.a), .int .u8 (s.d.toNat : Int), .string (S s.p), .string (S s.r), .int .i64 s.n, .string (S s.w)] 24)).alloc (.cells zeroRow 24)) := by
  have b1 : Below w.heap.size w (w.alloc (.cells #[.int .i64 (s.k : Int), .string (S s.e), .string (S s.a), .int .u8 (s.d.toNat : Int), .string (S s.p), .string (S s.r), .int .i64 s.n, .string (S s.w)] 24)) := (Below.refl _ w).alloc (Nat.le_refl _) _
  have s1 : (w.alloc (.cells #[.int .i64 (s.k : Int), .string (S s.e), .string (S s.a), .int .u8 (s.d.toNat : Int), .string (S s.p), .string (S s.r), .int .i64 s.n, .string (S s.w)] 24)).heap.size = w.heap.size + 1 := Array.size_push _
  have n1 := heap_alloc_new w (.cells #[.int .i64 (s.k : Int), .string (S s.e), .string (S s.a), .int .u8 (s.d.toNat : Int), .string (S s.p), .string (S s.r), .int .i64 s.n, .string (S s.w)] 24)
  generalize w.alloc (.cells #[.int .i64 (s.k : Int), .string (S s.e), .string (S s.a), .int .u8 (s.d.toNat : Int), .string (S s.p), .string (S s.r), .int .i64 s.n, .string (S s.w)] 24) = w1 at b1 s1 n1 ⊢
  have b2 := (Below.refl w1.heap.size w1).alloc (Nat.le_refl _) (.cells zeroRow 24)
  have n2 := heap_alloc_new w1 (.cells zeroRow 24)
  generalize w1.alloc (.cells zeroRow 24) = w2 at b2 n2 ⊢
  rw [s1] at n2
  exact ⟨b1.trans (b2.mono b1.size), (b2.block _ (by omega)).trans n1, n2⟩
theorem hb_fin {s : Sc} {w Z : World} (h : Hb s w Z) (k : Int) (E A : ByteArray) (d : Int) (Q F : ByteArray) (n : Int) (W : ByteArray) :
    Below w.heap.size w (put8 Z (w.heap.size + 1) (.int .i64 k) (.string E) (.string A) (.int .u8 d) (.string Q) (.string F) (.int .i64 n) (.string W)) ∧
    Pl (w.heap.size + 1) 24 [] k E A d Q F n W (put8 Z (w.heap.size + 1) (.int .i64 k) (.string E) (.string A) (.int .u8 d) (.string Q) (.string F) (.int .i64 n) (.string W)) := by
  have h1 := put8_pl h.res k E A d Q F n W
  have hk := put8_keeps (Keeps.refl (w.heap.size + 1) Z) (.int .i64 k) (.string E) (.string A) (.int .u8 d) (.string Q) (.string F) (.int .i64 n) (.string W)
  have hs := h.low.size
  exact ⟨⟨hk.os.trans h.low.os, hk.tape.trans h.low.tape, hk.output.trans h.low.output, Nat.le_trans hs hk.size, fun b hb => (hk.block b (by omega) (by omega)).trans (h.low.block b hb)⟩, h1⟩
set_option maxHeartbeats 1000000 in
set_option maxRecDepth 100000 in
theorem hole_c (s : Sc) (hs : Scn.Reach s) (w : World) :
    Calls Tryz.prog 16 #[stA s] w fun e w' => e = .returned (holeV s) ∧ Below w.heap.size w w' := by
  have hck := fun w => marks_c s hs.met w
  have HN := Lib.hid (hb_new s w)
  have HP : Hid (∀ Y, Hb s w Y → Calls Tryz.prog 30 #[.pointer (some ⟨Y.heap.size, 0, none⟩)] (Y.alloc (.cells #[.int .i64 (s.k : Int), .string (S s.e), .string (S s.a), .int .u8 (s.d.toNat : Int), .string (S s.p), .string (S s.r), .int .i64 s.n, .string (S s.w)] 45)) fun e w' =>
      e = .returned (.int .i64 ((passH s).2 : Int)) ∧ Wk Y.heap.size 45 [] (passH s).1 w' ∧ Hb s w w') := by
    intro Y hY
    have n1 := heap_alloc_new Y (.cells #[.int .i64 (s.k : Int), .string (S s.e), .string (S s.a), .int .u8 (s.d.toNat : Int), .string (S s.p), .string (S s.r), .int .i64 s.n, .string (S s.w)] 45)
    have hY1 := hY.grow ((Below.refl _ Y).alloc (Nat.le_refl _) (.cells #[.int .i64 (s.k : Int), .string (S s.e), .string (S s.a), .int .u8 (s.d.toNat : Int), .string (S s.p), .string (S s.r), .int .i64 s.n, .string (S s.w)] 45))
    have hlt := hY.res.lt
    refine (passAction_c Y.heap.size 45 [] s _ n1).mono ?_
    rintro e Z ⟨he, hw, hk⟩
    exact ⟨he, hw, hY1.keeps hlt hk⟩
  have HC : Hid (∀ pb Y, Wk pb 45 [] (passH s).1 Y → Calls Tryz.prog 24 #[.pointer (some ⟨pb, 0, none⟩)] Y fun e w' => e = .returned (stA (passH s).1) ∧ Below Y.heap.size Y w') := fun pb Y g => by
    have hm := hs.met
    have q1 := hm.e2
    have q2 := hm.a2
    have q3 := hm.p2
    have q4 := hm.r2
    have q5 := hm.w
    obtain ⟨r1, r2, r3, r4, r5⟩ := pass_same s
    have r6 : (passH s).1.w.length ≤ 16 := by
      rcases r5 with r | r
      · rw [r]; exact q5
      · omega
    exact copied_c _ _ _ _ _ _ _ _ _ _ _ Y g (by rw [size_S, r1]; omega) (by rw [size_S, r2]; omega) (by rw [size_S, r3]; omega) (by rw [size_S, r4]; omega) (by rw [size_S]; omega)
  have E : Hid (holeV s = if (passH s).2 = 0 then .tuple #[zeroV, .int .i64 0, .int .i64 91] else .tuple #[stA (passH s).1, .int .i64 ((passH s).2 : Int), .int .i64 0]) := by
    show _ = _
    unfold holeV
    rw [hole_pass hs.met]
    by_cases h0 : (passH s).2 = 0
    · rw [if_pos h0, if_pos h0]
    · rw [if_neg h0, if_neg h0]
  clear hs
  generalize holeV s = res at E ⊢
  generalize passH s = x at HP HC E
  obtain ⟨u, n⟩ := x
  have E := E.out
  by_cases hn0 : n = 0
  · subst hn0
    have ER : Hid (res = .tuple #[zeroV, .int .i64 0, .int .i64 91]) := E
    clear E HC
    go_enter Tryz.func16, Tryz.ntmps16
    go_wp2_with fail
    refine (hck _).mono ?_
    rintro e w1 ⟨rfl, hb1⟩
    have B1 := Lib.hid (HN.out.grow hb1)
    obtain ⟨b0, b1, b2, b3, b4, b5, b6, b7⟩ := B1.out.st.cells
    have hl1 := B1.out.st.lt
    clear hb1 hck HN
    go_wp2_with fail
    refine (HP.out _ B1.out).mono ?_
    rintro e w2 ⟨rfl, hw, hh⟩
    have B2 := Lib.hid hh
    obtain ⟨a0, a1, a2, a3, a4, a5, a6, a7⟩ := hh.res.cells
    obtain ⟨z0, z1, z2, z3, z4, z5, z6, z7⟩ := hh.res.froz
    have fin := Lib.hid (hb_fin hh 0 ⟨#[]⟩ ⟨#[]⟩ 0 ⟨#[]⟩ ⟨#[]⟩ 0 ⟨#[]⟩)
    clear hw hh b0 b1 b2 b3 b4 b5 b6 b7
    go_wp2_with fail
    obtain ⟨g0, g1, g2, g3, g4, g5, g6, g7⟩ := fin.out.2.cells
    unfold put8 at g0 g1 g2 g3 g4 g5 g6 g7
    refine bodyPost_ret (v := .tuple #[zeroV, .int .i64 0, .int .i64 91]) (by simp [results, Tryz.results16, go_sem, g0, g1, g2, g3, g4, g5, g6, g7]) rfl ?_
    exact ⟨by rw [ER.out], fin.out.1⟩
  · have ER : Hid (res = .tuple #[stA u, .int .i64 (n : Int), .int .i64 0]) := by rw [if_neg hn0] at E; exact E
    have bn : ((n : Int) == 0) = false := by rw [beq_eq_false_iff_ne]; omega
    clear E hn0
    go_enter Tryz.func16, Tryz.ntmps16
    go_wp2_with fail
    refine (hck _).mono ?_
    rintro e w1 ⟨rfl, hb1⟩
    have B1 := Lib.hid (HN.out.grow hb1)
    obtain ⟨b0, b1, b2, b3, b4, b5, b6, b7⟩ := B1.out.st.cells
    have hl1 := B1.out.st.lt
    clear hb1 hck HN
    go_wp2_with fail
    refine (HP.out _ B1.out).mono ?_
    rintro e w2 ⟨rfl, hw, hh⟩
    have B2 := Lib.hid hh
    have hc := HC.out _ _ hw
    clear hw hh b0 b1 b2 b3 b4 b5 b6 b7
    go_wp2_with fail
    refine hc.mono ?_
    rintro e w3 ⟨rfl, hb3⟩
    have hh3 := B2.out.grow hb3
    obtain ⟨a0, a1, a2, a3, a4, a5, a6, a7⟩ := hh3.res.cells
    obtain ⟨z0, z1, z2, z3, z4, z5, z6, z7⟩ := hh3.res.froz
    have fin := Lib.hid (hb_fin hh3 (u.k : Int) (S u.e) (S u.a) (u.d.toNat : Int) (S u.p) (S u.r) u.n (S u.w))
    clear hh3 hb3 hc
    go_wp2_with fail
    obtain ⟨g0, g1, g2, g3, g4, g5, g6, g7⟩ := fin.out.2.cells
    unfold put8 at g0 g1 g2 g3 g4 g5 g6 g7
    refine bodyPost_ret (v := .tuple #[stA u, .int .i64 (n : Int), .int .i64 0]) (by simp [results, Tryz.results16, go_sem, g0, g1, g2, g3, g4, g5, g6, g7]) rfl ?_
    exact ⟨by rw [ER.out], fin.out.1⟩
theorem ends_w (k : Int) (E A : ByteArray) (d : UInt8) (P F : ByteArray) (n : Int) (W : ByteArray) (x y : Bool) (hx : (k == 0) = x) (hy : (F.toList == []) = y) (w : World) :
    Calls Tryz.prog 12 #[stV k E A d P F n W] w fun e w' => e = .returned (.bool (x && y)) ∧ Below w.heap.size w w' := by
  cases x with
  | true =>
    cases y with
    | true =>
      go_enter Tryz.func12, Tryz.ntmps12
      go_wp2_with fail
      go_ret
      exact ⟨rfl, (Below.refl _ w).alloc (Nat.le_refl _) _⟩
    | false =>
      go_enter Tryz.func12, Tryz.ntmps12
      go_wp2_with fail
      go_ret
      exact ⟨rfl, (Below.refl _ w).alloc (Nat.le_refl _) _⟩
  | false =>
    go_enter Tryz.func12, Tryz.ntmps12
    go_wp2_with fail
    go_ret
    exact ⟨rfl, (Below.refl _ w).alloc (Nat.le_refl _) _⟩
theorem ends_c (s : Sc) (w : World) : Calls Tryz.prog 12 #[stA s] w fun e w' => e = .returned (.bool (decide (s.k = 0 ∧ s.r = []))) ∧ Below w.heap.size w w' := by
  have e0 : ((s.k : Int) == 0) = decide (s.k = 0) := by rw [Bool.eq_iff_iff, beq_iff_eq, decide_eq_true_iff]; omega
  have q := ends_w (s.k : Int) (S s.e) (S s.a) s.d (S s.p) (S s.r) s.n (S s.w) _ _ e0 (eqT _ _) w
  have e : (decide (s.k = 0) && decide (s.r = [])) = decide (s.k = 0 ∧ s.r = []) := by simp
  rw [e] at q
  exact q
end Go.Proofs.YtklpbkjplecdpaaGreat.Scw

/-
  Two states held against each other, as one truth.
-/
namespace Go.Proofs.YtklpbkjplecdpaaGreat.Scw
open Go.RowKit Oct Scn

def eq8 (k : Int) (E A : ByteArray) (d : Int) (P R : ByteArray) (n : Int) (W : ByteArray) (k' : Int) (E' A' : ByteArray) (d' : Int) (P' R' : ByteArray) (n' : Int) (W' : ByteArray) : Bool :=
  decide (k = k' ∧ E = E' ∧ A = A' ∧ d = d' ∧ P = P' ∧ R = R' ∧ n = n' ∧ W = W')
theorem str_eq (a b : ByteArray) : (a.toList == b.toList) = decide (a = b) := by
  rw [ByteArray.toList_eq, ByteArray.toList_eq, Bool.eq_iff_iff, beq_iff_eq, decide_eq_true_iff]
  exact ⟨fun h => by rw [← S_list a, ← S_list b, h], fun h => by rw [h]⟩
theorem eql_st (k : Int) (E A : ByteArray) (d : Int) (P R : ByteArray) (n : Int) (W : ByteArray) (k' : Int) (E' A' : ByteArray) (d' : Int) (P' R' : ByteArray) (n' : Int) (W' : ByteArray) (w : World) :
    (Op.equalIn 10000 24 (.agg #[.int .i64 k, .string E, .string A, .int .u8 d, .string P, .string R, .int .i64 n, .string W]) (.agg #[.int .i64 k', .string E', .string A', .int .u8 d', .string P', .string R', .int .i64 n', .string W'])).run Tryz.prog w
      = .ok (eq8 k E A d P R n W k' E' A' d' P' R' n' W') w := by
  have fs : Tryz.prog.underlying 24 = some (.struct (Tryz.prog.fieldsOf 24)) := by kernel_rfl
  rw [run_equalIn_agg (P := Tryz.prog) w 9999 24 _ _ fs (by kernel_rfl)]
  unfold eq8
  by_cases h0 : k = k'
  · by_cases h1 : E = E'
    · by_cases h2 : A = A'
      · by_cases h3 : d = d'
        · by_cases h4 : P = P'
          · by_cases h5 : R = R'
            · by_cases h6 : n = n'
              · by_cases h7 : W = W'
                · simp [go_sem, h0, h1, h2, h3, h4, h5, h6, h7]
                · simp [go_sem, h0, h1, h2, h3, h4, h5, h6, h7, str_eq]
              · simp [go_sem, h0, h1, h2, h3, h4, h5, h6, str_eq]
            · simp [go_sem, h0, h1, h2, h3, h4, h5, str_eq]
          · simp [go_sem, h0, h1, h2, h3, h4, str_eq]
        · simp [go_sem, h0, h1, h2, h3, str_eq]
      · simp [go_sem, h0, h1, h2, str_eq]
    · simp [go_sem, h0, h1, str_eq]
  · simp [go_sem, h0, str_eq]
theorem bin_eq (k : Int) (E A : ByteArray) (d : Int) (P R : ByteArray) (n : Int) (W : ByteArray) (k' : Int) (E' A' : ByteArray) (d' : Int) (P' R' : ByteArray) (n' : Int) (W' : ByteArray) (w : World) :
    (binOp .eql 24 (.agg #[.int .i64 k, .string E, .string A, .int .u8 d, .string P, .string R, .int .i64 n, .string W]) (.agg #[.int .i64 k', .string E', .string A', .int .u8 d', .string P', .string R', .int .i64 n', .string W'])).run Tryz.prog w
      = .ok (.bool (eq8 k E A d P R n W k' E' A' d' P' R' n' W')) w := by
  rw [run_eql_struct, eql_st]
  rfl
theorem bin_ne (k : Int) (E A : ByteArray) (d : Int) (P R : ByteArray) (n : Int) (W : ByteArray) (k' : Int) (E' A' : ByteArray) (d' : Int) (P' R' : ByteArray) (n' : Int) (W' : ByteArray) (w : World) :
    (binOp .neq 24 (.agg #[.int .i64 k, .string E, .string A, .int .u8 d, .string P, .string R, .int .i64 n, .string W]) (.agg #[.int .i64 k', .string E', .string A', .int .u8 d', .string P', .string R', .int .i64 n', .string W'])).run Tryz.prog w
      = .ok (.bool (!eq8 k E A d P R n W k' E' A' d' P' R' n' W')) w := by
  rw [run_neq_struct, eql_st]
  rfl

end Go.Proofs.YtklpbkjplecdpaaGreat.Scw

/-
  Contract of the page's Hex: the lowest digits of base 16, in two's complement; it changes nothing.
-/
namespace Go.Proofs.YtklpbkjplecdpaaGreat.Oct
open Go.RowKit

end Go.Proofs.YtklpbkjplecdpaaGreat.Oct
