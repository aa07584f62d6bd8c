/-
  Contracts of plain, Plain, Marker and Filter of package csstext.
-/
import Derived.Test.YtnmjgokcodbgeaaCssPure
import Derived.Test.YtnmjgokcodbgeaaUtfAt
import Derived.Test.YtnmjgokcodbgeaaOctTexts
import Derived.Shelf.Strings.FuncGrows
import Derived.Lib.IndexMore
namespace Go.Proofs.Ytnmjgokcodbgeaa.Css
open Go.RowKit Go.Proofs.Ytnmjgokcodbgeaa.Oct Go.Proofs.Ytnmjgokcodbgeaa.Utf

/-! ### Plain facts: which rune is bad, where the first bad one is found; a text within another one -/
theorem sign_table : ∀ k : Fin 256, decide (0 ≤ Lib.indexByte [32, 46, 44, 37, 35, 43, 45] (k.val : Int).toNat.toUInt8) = decide ((k.val : Int) = 32 ∨ (k.val : Int) = 46 ∨ (k.val : Int) = 44 ∨ (k.val : Int) = 37 ∨ (k.val : Int) = 35 ∨ (k.val : Int) = 43 ∨ (k.val : Int) = 45) := by decide +kernel
def badR (r : Nat) : Bool := !okI (r : Int)
theorem bad_high (r : Nat) (h : 128 ≤ r) : badR r = true := by
  unfold badR okI letterI digitI
  simp
  omega
theorem bad_oct (c : UInt8) : badR c.toNat = !okC c := rfl
theorem idx_bad (l : List UInt8) : ∀ g p, l.length ≤ p + g → p ≤ l.length → decide (0 ≤ Lib.idxFuncFrom badR true (S l) g p) = !(l.drop p).all okC := by
  intro g
  induction g with
  | zero =>
    intro p hg hp
    obtain rfl : p = l.length := by omega
    rw [List.drop_length]
    rfl
  | succ g ih =>
    intro p hg hp
    unfold Lib.idxFuncFrom
    rw [size_S]
    by_cases hlt : p < l.length
    · rw [if_pos hlt]
      have hd : l.drop p = l[p] :: l.drop (p + 1) := List.drop_eq_getElem_cons hlt
      by_cases hx : l[p].toNat < 128
      · rw [decode_low l p hlt hx]
        show decide (0 ≤ if badR l[p].toNat = true then _ else _) = _
        rw [hd, List.all_cons, bad_oct]
        cases hm : okC l[p] with
        | true => rw [if_neg (by simp)]; exact ih (p + 1) (by omega) (by omega)
        | false => rw [if_pos (by simp)]; simp
      · obtain ⟨r, k, hdec, hr0, hr1, hrc, hk1, hkl, hall⟩ := decode_high l p hlt (by omega)
        rw [hdec]
        show decide (0 ≤ if badR r = true then _ else _) = _
        have h2 : okC l[p] = false := by
          have := bad_high l[p].toNat (by omega)
          rw [bad_oct] at this
          simpa using this
        rw [bad_high r hr0, if_pos rfl, hd, List.all_cons, h2]
        simp
    · rw [if_neg hlt]
      obtain rfl : p = l.length := by omega
      rw [List.drop_length]
      rfl
theorem idx_all (l : List UInt8) : decide (0 ≤ Lib.idxFunc badR true (S l)) = !l.all okC := by
  have h := idx_bad l (S l).size 0 (by rw [size_S]; omega) (Nat.zero_le _)
  rw [List.drop_zero] at h
  exact h
theorem index_sub (p : List UInt8) : ∀ l, decide (0 ≤ Lib.index l p) = hasSub p l
  | [] => by cases p <;> rfl
  | c :: t => by
    have ih := index_sub p t
    have hge := Lib.index_ge t p
    unfold Lib.index
    show _ = (p.isPrefixOf (c :: t) || hasSub p t)
    rw [← ih]
    cases hp : p.isPrefixOf (c :: t) with
    | true => simp
    | false =>
      rw [if_neg (by simp)]
      by_cases h1 : Lib.index t p = -1
      · rw [h1]; rfl
      · rw [if_neg (by simpa using h1)]
        rw [Bool.eq_iff_iff]
        simp
        omega

/-! ### The code -/
theorem eqL (a b : List UInt8) : ((S a).toList == b) = decide (a = b) := by
  rw [ByteArray.toList_eq, list_S, Bool.eq_iff_iff]
  simp
/-- The library's variable that strings.Index reads holds some number. -/
def MaxAt (w : World) : Prop := ∃ m, w.cell? ⟨0, 0, none⟩ = some (.int .i64 m)
theorem MaxAt.kept {w w' : World} (h : MaxAt w) (hb : Below w.heap.size w w') : MaxAt w' := by
  obtain ⟨m, hm⟩ := h
  exact ⟨m, (hb.cell (World.block_lt_of_cell? _ _ hm)).trans hm⟩

theorem plain1_c (n : Int) (w : World) (h0 : 0 ≤ n) (h1 : n ≤ 1114111) :
    Calls Try.prog 12 #[.int .i32 n] w fun e w' => e = .returned (.bool (okI n)) ∧ w = w' := by
  by_cases h : n ≤ 255
  · have T := sign_table ⟨n.toNat, by omega⟩
    rw [show ((⟨n.toNat, by omega⟩ : Fin 256).val : Int) = n from Int.toNat_of_nonneg h0] at T
    have hw : IntKind.u8.wrap n = n := by rw [IntKind.wrap_u8]; omega
    have hw2 : IntKind.i32.wrap n = n := by rw [IntKind.wrap_i32]; omega
    have HT := Lib.hid T
    clear T h1
    go_enter Try.func12, Try.ntmps12
    go_wp2_with (first
      | (go_at_call 17; refine (letter_c n _ h0 h).mono ?_; rintro e w' ⟨rfl, rfl⟩)
      | (go_at_call 18; refine (Try.strings_IndexByte _ _ _).mono ?_; rintro e w' ⟨rfl, rfl⟩))
    all_goals go_ret
    all_goals refine ⟨ret_bool ?_, rfl⟩
    all_goals have E : decide (0 ≤ Lib.indexByte [32, 46, 44, 37, 35, 43, 45] (UInt8.ofNat n.toNat)) = decide (n = 32 ∨ n = 46 ∨ n = 44 ∨ n = 37 ∨ n = 35 ∨ n = 43 ∨ n = 45) := HT.out
    all_goals (rw [Bool.eq_iff_iff]; simp [E, letterI, digitI, okI] at *; try omega)
  · have E : Hid (okI n = false) := by
      show _ = _
      unfold okI letterI digitI
      simp
      omega
    have hne : (IntKind.u8.wrap n == n) = false := by
      rw [beq_eq_false_iff_ne, IntKind.wrap_u8]
      omega
    have hw2 : IntKind.i32.wrap (IntKind.u8.wrap n) = IntKind.u8.wrap n := by
      rw [IntKind.wrap_i32, IntKind.wrap_u8]
      omega
    have hne2 : ¬ n % 256 = n := by omega
    clear h h1 h0
    go_enter Try.func12, Try.ntmps12
    go_wp2_with fail
    go_ret
    exact ⟨ret_bool E.out.symm, rfl⟩

theorem enter_bad : ∀ args w, (callFunc 11 args).run Try.prog w = .ok (.enter 11 args) w := enters_of Try.func11 (by kernel_rfl) rfl
theorem bad_c (r : Nat) (h : r ≤ 1114111) (w : World) :
    Calls Try.prog 11 #[.int .i32 (r : Int)] w fun e w' => e = .returned (.bool (badR r)) ∧ Below w.heap.size w w' := by
  have hx := fun w => plain1_c (r : Int) w (by omega) (by omega)
  have E : Hid (badR r = !okI (r : Int)) := by show _ = _; rfl
  generalize badR r = b at E ⊢
  generalize okI (r : Int) = o at hx E
  generalize (r : Int) = R at hx ⊢
  go_enter Try.func11, Try.ntmps11
  go_wp2_with (first | (go_at_call 12; refine (hx _).mono ?_; rintro e w' ⟨rfl, rfl⟩))
  go_ret
  exact ⟨ret_bool E.out.symm, Below.refl _ _⟩
theorem any_bad (l : List UInt8) (w : World) :
    Calls Try.prog 10 #[.string (S l), .func (.func 11) #[] #[]] w fun e w' => e = .returned (.bool (!l.all okC)) ∧ Below w.heap.size w w' := by
  have h := Try.strings_ContainsFunc_grows 11 #[] enter_bad badR (S l) w (fun W x hx _ => bad_c x hx W)
  rw [idx_all] at h
  exact h
theorem sub_c (l p : List UInt8) (hl : l.length ≤ 4096) (w : World) (hM : MaxAt w) :
    Calls Try.prog 14 #[.string (S l), .string (S p)] w fun e w' => e = .returned (.bool (hasSub p l)) ∧ w = w' := by
  obtain ⟨m, hm⟩ := hM
  have h := Try.strings_Contains (S l) (S p) m w (by rw [size_S]; omega) hm
  rw [list_S, list_S] at h
  have e : Lib.contains l p = hasSub p l := index_sub p l
  rw [e] at h
  refine h.mono ?_
  rintro e w' ⟨rfl, rfl⟩
  exact ⟨rfl, rfl⟩

/-- Contract of Plain. -/
theorem plain_c (l : List UInt8) (hl : l.length ≤ 4611686018427387904) (w : World) (hM : MaxAt w) :
    Calls Try.prog 6 #[.string (S l)] w fun e w' => e = .returned (.bool (plainB l)) ∧ Below w.heap.size w w' := by
  have hsz : ((S l).size : Int) = (l.length : Int) := by rw [size_S]
  by_cases h1 : l.length ≤ 4096
  · have hc := fun w => any_bad l w
    have hi : (l.length : Int) ≤ 4096 := by omega
    have E : Hid (plainB l = (l.all okC && !hasSub expL (l.map low) && !hasSub urlL (l.map low))) := by
      show _ = _
      unfold plainB
      rw [decide_eq_true h1, Bool.true_and]
    have hlow := fun w => lower_c (S l) w (by rw [size_S]; omega)
    rw [list_S] at hlow
    have hx : ∀ W, Below w.heap.size w W → Calls Try.prog 14 #[.string (S (l.map low)), .string (S expL)] W fun e w' => e = .returned (.bool (hasSub expL (l.map low))) ∧ W = w' :=
      fun W hb => sub_c _ _ (by rw [List.length_map]; exact h1) W (hM.kept hb)
    have hu : ∀ W, Below w.heap.size w W → Calls Try.prog 14 #[.string (S (l.map low)), .string (S urlL)] W fun e w' => e = .returned (.bool (hasSub urlL (l.map low))) ∧ W = w' :=
      fun W hb => sub_c _ _ (by rw [List.length_map]; exact h1) W (hM.kept hb)
    have HX := Lib.hid hx
    have HU := Lib.hid hu
    clear hx hu h1 hM
    generalize plainB l = ans at E ⊢
    generalize l.all okC = b1 at hc E
    generalize hasSub expL (l.map low) = b2 at HX E
    generalize hasSub urlL (l.map low) = b3 at HU E
    generalize S (l.map low) = LO at hlow HX HU
    generalize S l = L at *
    cases b1 with
    | false =>
      go_enter Try.func6, Try.ntmps6
      go_wp2_with (first | (go_at_call 10; refine (hc _).mono ?_; rintro e w2 ⟨rfl, hb2⟩))
      go_ret
      exact ⟨ret_bool (by rw [E.out]; rfl), hb2⟩
    | true =>
      go_enter Try.func6, Try.ntmps6
      go_wp2_with (first | (go_at_call 10; refine (hc _).mono ?_; rintro e w2 ⟨rfl, hb2⟩))
      refine (hlow _).mono ?_
      rintro e w3 ⟨rfl, hb3⟩
      have B3 := Lib.hid (hb2.trans (hb3.mono hb2.size))
      have cx := HX.out _ B3.out
      have cu := HU.out _ B3.out
      clear hlow HX HU hb2 hb3 hc
      go_wp2_with fail
      refine cx.mono ?_
      rintro e w4 ⟨rfl, rfl⟩
      clear cx
      cases b2 with
      | true =>
        go_wp2_with fail
        go_ret
        exact ⟨ret_bool (by rw [E.out]; rfl), B3.out⟩
      | false =>
        go_wp2_with fail
        refine cu.mono ?_
        rintro e w5 ⟨rfl, rfl⟩
        go_wp2_with fail
        go_ret
        exact ⟨ret_bool (by rw [E.out]; rfl), B3.out⟩
  · have hi : (4096 : Int) < (l.length : Int) := by omega
    have E : Hid (plainB l = false) := by
      show _ = _
      unfold plainB
      rw [decide_eq_false h1]
      rfl
    have hli : (l.length : Int) ≤ 4611686018427387904 := by omega
    clear h1 hM hl
    generalize S l = L at *
    go_enter Try.func6, Try.ntmps6
    go_wp2_with fail
    go_ret
    exact ⟨ret_bool E.out.symm, Below.refl _ _⟩

theorem cclone_c (s : ByteArray) (hs : s.size ≤ 140737488351232) (w : World) :
    Calls Try.prog 9 #[.string s] w fun e w' => e = .returned (.string s) ∧ Below w.heap.size w w' := by
  go_enter Try.func9, Try.ntmps9
  go_wp2_with (go_at_call 15; refine (Try.stringslite_Clone _ _ (by omega)).mono ?_; rintro e w' ⟨rfl, hb⟩)
  go_ret
  exact ⟨rfl, hb⟩
theorem marker_c (w : World) :
    Calls Try.prog 8 #[] w fun e w' => e = .returned (.string (S markC)) ∧ Below w.heap.size w w' := by
  have hcl := fun w => cclone_c (S markC) (by decide) w
  go_enter Try.func8, Try.ntmps8
  go_wp2_with (first | (go_at_call 9; refine (hcl _).mono ?_; rintro e w2 ⟨rfl, hb2⟩))
  go_ret
  exact ⟨rfl, hb2⟩
theorem plain_len {l : List UInt8} (h : plainB l = true) : l.length ≤ 4096 := by
  unfold plainB at h
  simp only [Bool.and_eq_true, decide_eq_true_eq] at h
  exact h.1.1.1
theorem filter_c (l : List UInt8) (hl : l.length ≤ 4611686018427387904) (w : World) (hM : MaxAt w) :
    Calls Try.prog 5 #[.string (S l)] w fun e w' => e = .returned (.string (S (filtC l))) ∧ Below w.heap.size w w' := by
  have hp := plain_c l hl w hM
  have hm := marker_c
  cases h : plainB l with
  | true =>
    have hcl := fun w => cclone_c (S l) (by rw [size_S]; have := plain_len h; omega) w
    have e : filtC l = l := by unfold filtC; rw [if_pos h]
    rw [h] at hp
    rw [e]
    clear e h hM hl hm
    generalize S l = L at *
    go_enter Try.func5, Try.ntmps5
    go_wp2_with fail
    refine hp.mono ?_
    rintro e w2 ⟨rfl, hb2⟩
    go_wp2_with (first | (go_at_call 9; refine (hcl _).mono ?_; rintro e w3 ⟨rfl, hb3⟩))
    go_ret
    exact ⟨rfl, hb2.trans (hb3.mono hb2.size)⟩
  | false =>
    have e : filtC l = markC := by unfold filtC; rw [if_neg (by rw [h]; simp)]
    rw [h] at hp
    rw [e]
    clear e h hM hl
    generalize S l = L at *
    go_enter Try.func5, Try.ntmps5
    go_wp2_with fail
    refine hp.mono ?_
    rintro e w2 ⟨rfl, hb2⟩
    go_wp2_with (first | (go_at_call 8; refine (hm _).mono ?_; rintro e w3 ⟨rfl, hb3⟩))
    go_ret
    exact ⟨rfl, hb2.trans (hb3.mono hb2.size)⟩
end Go.Proofs.Ytnmjgokcodbgeaa.Css
