/-
  Contracts of mixes, and of what puts octets into the builder as long as there is room.
-/
import Derived.Test.YtidfcajhmldieaaGreatDoorTkwCheck
namespace Go.Proofs.YtidfcajhmldieaaGreatDoor.Tkw
open Go.RowKit Go.Proofs.YtidfcajhmldieaaGreatDoor.Oct Go.Proofs.YtidfcajhmldieaaGreatDoor.Utf Go.Proofs.YtidfcajhmldieaaGreatDoor.Tok Go.Proofs.YtidfcajhmldieaaGreatDoor.Crf

/-- No is told only if it is so. -/
def NoIf (e : Ending) (P : Prop) : Prop := ∃ b, e = .returned (.bool b) ∧ (b = false → P)
/-- What is asked of a token behind the one ahead, whose kind is pk. -/
def Clean (t : Tk) (i : Nat) (pk : Int) : Prop := ¬ (t.k = 1 ∧ 1 ≤ Tab.elemN t.n ∧ Tab.elemN t.n ≤ 3) ∧ (t.k = 3 → 0 < i → pk ≠ 3)
set_option maxHeartbeats 2000000 in
set_option maxRecDepth 100000 in
theorem mixes_c (t : Tk) (va : Value) (i : Nat) (hi : i ≤ 1152921504606846976) (p : Option Addr) (cap : Nat) (pk : Int) (w : World) (ha : AtIn w va t.a)
    (hp : ∀ j, i = j + 1 → ∃ b o, p = some ⟨b, o, none⟩ ∧ w.cell? ⟨b, o + j * 5, none⟩ = some (.int .i64 pk)) :
    Calls Tryz.prog 22 #[.slice p i cap, tkV t va] w fun e w' => NoIf e (Clean t i pk) ∧ Below w.heap.size w w' := by
  have hb0 := tkW_below w t.k (S t.n) (S t.x) va t.c
  have HB := Lib.hid (fun W (h : Below (tkW w t.k (S t.n) (S t.x) va t.c).heap.size (tkW w t.k (S t.n) (S t.x) va t.c) W) => hb0.trans (h.mono hb0.size))
  have hraw := fun W => Tkc.raw_c t.n W
  obtain ⟨pa, ca, rfl, _⟩ := ha
  obtain ⟨k, n, x, al, c⟩ := t
  simp only at hraw hb0 HB ⊢
  by_cases h1 : k = 1
  · subst h1
    have HD : Hid (∀ b, b = decide (1 ≤ Tab.elemN n ∧ Tab.elemN n ≤ 3) → b = false → Clean ⟨1, n, x, al, c⟩ i pk) := fun b hb hf => by
      rw [hf] at hb
      refine ⟨fun h => absurd (decide_eq_true h.2) (by rw [← hb]; simp), fun h => absurd h (by simp)⟩
    obtain ⟨b, hbb⟩ : ∃ b, b = decide (1 ≤ Tab.elemN n ∧ Tab.elemN n ≤ 3) := ⟨_, rfl⟩
    have HE := Lib.hid (HD.out b hbb)
    rw [← hbb] at hraw
    clear hbb HD hp
    go_enter Tryz.func22, Tryz.ntmps22
    go_wp2_with (go_at_call 32; refine (hraw _).mono ?_; rintro e1 w1 ⟨rfl, hb1⟩; have H1 := Lib.hid (HB.out _ hb1); clear hb1)
    go_ret
    exact ⟨⟨_, rfl, HE.out⟩, H1.out⟩
  · have e1 : (k == 1) = false := by rw [beq_eq_false_iff_ne]; exact h1
    by_cases h3 : k = 3
    · subst h3
      cases i with
      | zero =>
        have HE : Hid (Clean ⟨3, n, x, al, c⟩ 0 pk) := ⟨fun h => absurd h.1 (by simp), fun _ h => absurd h (Nat.lt_irrefl _)⟩
        go_enter Tryz.func22, Tryz.ntmps22
        go_wp2_with fail
        go_ret
        exact ⟨⟨_, rfl, fun _ => HE.out⟩, hb0⟩
      | succ j =>
        obtain ⟨b, o, rfl, hc⟩ := hp j rfl
        have hc1 := some_keep hc hb0
        have HE : Hid ((pk == 3) = false → Clean ⟨3, n, x, al, c⟩ (j + 1) pk) := fun h => ⟨fun h => absurd h.1 (by simp), fun _ _ he => by rw [he] at h; cases h⟩
        have j1 : ((j + 1 : Nat) : Int) - 1 = (j : Int) := by omega
        have j0 : (0 : Int) ≤ (j : Int) := by omega
        have j2 : (0 : Int) < ((j + 1 : Nat) : Int) := by omega
        have j3 : (j : Int) < ((j + 1 : Nat) : Int) := by omega
        have j4 : ((j + 1 : Nat) : Int) ≤ 1152921504606846976 := by omega
        have HN : Hid (∃ m, m = j + 1) := ⟨_, rfl⟩
        clear hp hc h1
        generalize j + 1 = m at *
        go_enter Tryz.func22, Tryz.ntmps22
        go_wp2_with fail
        go_ret
        exact ⟨⟨_, rfl, HE.out⟩, hb0⟩
    · have e3 : (k == 3) = false := by rw [beq_eq_false_iff_ne]; exact h3
      have HE : Hid (Clean ⟨k, n, x, al, c⟩ i pk) := ⟨fun h => h1 h.1, fun h => absurd h h3⟩
      clear h1 h3 hp
      go_enter Tryz.func22, Tryz.ntmps22
      go_wp2_with fail
      go_ret
      exact ⟨⟨_, rfl, fun _ => HE.out⟩, hb0⟩

/-! ### The builder -/
theorem len_c (B b : Nat) (l : List UInt8) (w : World) (h : Has B b l w) (hl : l.length ≤ 1152921504606846976) :
    Calls Tryz.prog 20 #[.pointer (some ⟨b, 0, none⟩)] w fun e w' => e = .returned (.int .i64 (l.length : Int)) ∧ w = w' := by
  have hc : ∃ p c, w.cell? ⟨b, 1, none⟩ = some (.slice p l.length c) := by
    have one : ∀ q, Lib.BuilderAt 51 5 B b q (Lib.byteCells l) w → ∃ p c, w.cell? ⟨b, 1, none⟩ = some (.slice p l.length c) := fun q h => by
      obtain ⟨h1, v, h2, h3, h4⟩ := h
      obtain ⟨p, c, rfl⟩ := Tkc.own_shape h3
      rw [Lib.byteCells_length] at h2
      exact ⟨p, c, (cell_of_row w b 1 _ _ _ h2).trans rfl⟩
    rcases h with h | h
    · exact one _ h
    · exact one _ h
  obtain ⟨p, c, hc⟩ := hc
  have hli : (l.length : Int) ≤ 1152921504606846976 := by omega
  clear h hl
  go_enter Tryz.func20, Tryz.ntmps20
  go_wp2
  go_ret
  exact ⟨rfl, rfl⟩
/-- What was put: it stands behind what stood; all else but the builder's own stays. -/
structure PutOk (B b : Nat) (l t : List UInt8) (w w' : World) : Prop where
  below : Below B w w'
  len : l.length + t.length ≤ 65536
  has : Has B b (l ++ t) w'
  others : Build.Others b w w'
/-- What puts octets leaves: they stand behind those that stood, or there was no room. -/
def PutTo (B b : Nat) (l t : List UInt8) (w : World) (e : Ending) (w' : World) : Prop :=
  (e = .returned (.tuple #[]) ∧ PutOk B b l t w w') ∨ (e = Tkc.Fault 5 ∧ Below B w w')
theorem PutOk.trans {B b : Nat} {l t u : List UInt8} {w w1 w2 : World} (h : PutOk B b l t w w1) (k : PutOk B b (l ++ t) u w1 w2) : PutOk B b l (t ++ u) w w2 where
  below := h.below.trans k.below
  len := by have := k.len; rw [List.length_append] at this ⊢; omega
  has := by rw [← List.append_assoc]; exact k.has
  others := h.others.trans k.others
theorem PutOk.next {B b : Nat} {l t u : List UInt8} {w w1 w2 : World} {e : Ending} (h : PutOk B b l t w w1) (k : PutTo B b (l ++ t) u w1 e w2) : PutTo B b l (t ++ u) w e w2 := by
  rcases k with ⟨he, k⟩ | ⟨he, k⟩
  · exact .inl ⟨he, h.trans k⟩
  · exact .inr ⟨he, h.below.trans k⟩
theorem PutOk.quiet {B b : Nat} {l : List UInt8} {w w1 : World} (h : Has B b l w) (hl : l.length ≤ 65536) (hb : Below w.heap.size w w1) : PutOk B b l [] w w1 where
  below := hb.mono (by have := has_lt h; omega)
  len := by simpa using hl
  has := by rw [List.append_nil]; exact has_below h hb
  others := (Lib.OthersKept.refl _ _ w).below hb
theorem PutOk.later {B b : Nat} {l t : List UInt8} {w w1 w2 : World} (h : PutOk B b l t w w1) (hb : Below w1.heap.size w1 w2) : PutOk B b l t w w2 := by
  have k := h.trans (PutOk.quiet h.has (by rw [List.length_append]; exact h.len) hb)
  rw [List.append_nil] at k
  exact k
abbrev putV (b : Nat) : Value := .func (.func 19) #[] #[.pointer (some ⟨b, 0, none⟩)]
theorem enter_put : ∀ args w, (callFunc 19 args).run Tryz.prog w = .ok (.enter 19 args) w := enters_of Tryz.func19 (by kernel_rfl) rfl
set_option maxHeartbeats 2000000 in
theorem put1_c (B b : Nat) (l t : List UInt8) (w : World) (h : Has B b l w) (hl : l.length ≤ 65536) (ht : t.length ≤ 140000000000) :
    Calls Tryz.prog 19 #[.string (S t), .pointer (some ⟨b, 0, none⟩)] w (PutTo B b l t w) := by
  have hlen := len_c B b l w h (by omega)
  have hput : Calls Tryz.prog 21 #[.pointer (some ⟨b, 0, none⟩), .string (S t)] w fun e w' => e = .returned (.tuple #[.int .i64 (S t).size, .nilIface]) ∧ Has B b (l ++ t) w' ∧ Below B w w' ∧ Build.Others b w w' := by
    have hc := Build.write_c B b (Lib.byteCells l) (S t) w h (by rw [Lib.byteCells_length, size_S]; omega) (by have := has_lt h; omega)
    rw [Lib.strCells_eq, ← Lib.byteCells_append, list_S] at hc
    exact hc
  have hyes := Tkc.demand_yes 5
  have hno := Tkc.demand_no 5
  have hsz : ((S t).size : Int) = (t.length : Int) := by rw [size_S]
  have hli : (l.length : Int) ≤ 65536 := by omega
  have hti : (t.length : Int) ≤ 140000000000 := by omega
  have hti0 : (0 : Int) ≤ (t.length : Int) := by omega
  have hB := (has_lt h)
  have HBB : Hid (Below B w w) := Below.refl _ _
  by_cases hr : l.length + t.length ≤ 65536
  · have hd : decide ((t.length : Int) ≤ 65536 - (l.length : Int)) = true := decide_eq_true (by omega)
    have HR := Lib.hid hr
    clear h hl ht hr hB
    generalize S t = T at *
    go_enter Tryz.func19, Tryz.ntmps19
    go_wp2_with (first
      | (go_at_call 20; refine hlen.mono ?_; rintro e1 w1 ⟨rfl, rfl⟩)
      | (go_at_call 18; refine (hyes _).mono ?_; rintro e2 w2 ⟨rfl, rfl⟩)
      | (go_at_call 21; refine hput.mono ?_; rintro e3 w3 ⟨rfl, h3, b3, o3⟩; have H3 := Lib.hid (And.intro h3 (And.intro b3 o3)); clear h3 b3 o3))
    go_end0
    exact .inl ⟨rfl, H3.out.2.1, HR.out, H3.out.1, H3.out.2.2⟩
  · have hd : decide ((t.length : Int) ≤ 65536 - (l.length : Int)) = false := decide_eq_false (by omega)
    clear h hl ht hr hB hput
    generalize S t = T at *
    go_enter Tryz.func19, Tryz.ntmps19
    go_wp2_with (first
      | (go_at_call 20; refine hlen.mono ?_; rintro e1 w1 ⟨rfl, rfl⟩)
      | (go_at_call 18; refine (hno _).mono ?_; rintro e2 w2 ⟨rfl, rfl⟩))
    exact ⟨rfl, .inr ⟨rfl, HBB.out⟩⟩
end Go.Proofs.YtidfcajhmldieaaGreatDoor.Tkw
