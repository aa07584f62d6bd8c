/-
  Contracts of strings.IndexRune and ContainsRune at a text whose octets are all below 128, at any rune; of Safe's closure, and of Safe at texts of such octets that are all safe.
-/
import Derived.Test.YtppclkecfggkiaaDoorJstPure
import Derived.Test.YtppclkecfggkiaaDoorUtfLeaves
import Derived.Shelf.Strings.FuncGrows
import Derived.Laws.Runes
import Derived.Lib.RuneCountTail
import Derived.WalkMore
namespace Go.Proofs.YtppclkecfggkiaaDoor.Jst
open Go.RowKit Go.Proofs.YtppclkecfggkiaaDoor.Oct Go.Proofs.YtppclkecfggkiaaDoor.Utf
open Go.Lib (encodeRune)

/-- A text of octets below 128. -/
def Low (s : ByteArray) : Prop := ∀ i (h : i < s.size), (s[i]'h).toNat < 128
theorem drewJ {B : Nat} {a w : World} (h : Below B a w) (q : Nat) : Below B a (w.drewN q) := ⟨h.os, h.tape, h.output, h.size, h.block⟩
theorem low_no (c : UInt8) (h : 128 ≤ c.toNat) : ∀ l : List UInt8, (∀ x ∈ l, x.toNat < 128) → Lib.indexByte l c = -1
  | [], _ => rfl
  | x :: l, hl => by
    have hx := hl x (by simp)
    have hne : (x == c) = false := by
      rw [beq_eq_false_iff_ne]
      rintro rfl
      omega
    have ih := low_no c h l (fun y hy => hl y (by simp [hy]))
    unfold Lib.indexByte
    rw [hne, ih]
    rfl
theorem low_from {s : ByteArray} (hL : Low s) (k : Nat) : ∀ x ∈ (s.extract k s.size).data.toList, x.toNat < 128 := by
  have e : (s.extract k s.size).data.toList = s.data.toList.drop k := by
    rw [Lib.extract_eq, List.take_of_length_le (by rw [List.length_drop, size_list]; omega)]
  rw [e]
  intro x hx
  obtain ⟨i, hi, rfl⟩ := List.mem_iff_getElem.1 (List.mem_of_mem_drop hx)
  have h2 := hL i (by rw [← size_list]; exact hi)
  rw [ByteArray.getElem_eq_getElem_data] at h2
  simpa using h2

set_option maxHeartbeats 4000000 in
set_option maxRecDepth 100000 in
/-- The replacement character is not among them. -/
theorem rune_bad (s : ByteArray) (hL : Low s) (w : World) : Calls Tryd.prog 39 #[.string s, .int .i32 65533] w fun e w' => e = .returned (.int .i64 (-1)) ∧ Below w.heap.size w w' := by
  have nx := Lib.hid (fun (i : Nat) (h : i < s.size) (w : World) (ty : TypeId) => run_next_ascii (P := Tryd.prog) w s i ty h (hL i h))
  have ne := Lib.hid (fun (i : Nat) (h : ¬ i < s.size) (w : World) (ty : TypeId) => run_next_end (P := Tryd.prog) w s i ty h)
  have hb := Lib.hid (fun (i : Nat) (h : i < s.size) => hL i h)
  clear hL
  go_enter Tryd.func39, Tryd.ntmps39
  go_wp2_with fail
  go_loopg [5, 6] s.size (fun g _ _ wx => ∃ i : Nat, i + g = s.size ∧ wx = w.iter s i)
  case atStart => exact ⟨0, by omega, rfl⟩
  case round =>
    obtain ⟨i, hig, rfl⟩ := hrel
    by_cases hlt : i < s.size
    · obtain ⟨g, rfl⟩ : ∃ g, gk = g + 1 := ⟨gk - 1, by omega⟩
      have n0 := nx.out i hlt
      have h8 := hb.out i hlt
      generalize s[i] = c at n0 h8
      have hne : ((c.toNat : Int) == 65533) = false := by simp; omega
      clear h8
      go_wp2_with fail
      go_roundg g
      case measure => omega
      case rel => exact ⟨i + 1, by omega, rfl⟩
    · have n1 := ne.out i hlt
      go_wp2_with fail
      go_ret
      exact ⟨rfl, (Below.refl _ w).alloc (Nat.le_refl _) _⟩

theorem byList (e : ByteArray) (l : List UInt8) (h : e.data.toList = l) : e = S l := by rw [← h, S_list]
theorem sizeTwo {e : ByteArray} (h : e.size = 2) : ∃ a b, e = S [a, b] := by
  rw [← size_list] at h
  match hl : e.data.toList, h with
  | [a, b], _ => exact ⟨a, b, byList e _ hl⟩
theorem sizeThree {e : ByteArray} (h : e.size = 3) : ∃ a b c, e = S [a, b, c] := by
  rw [← size_list] at h
  match hl : e.data.toList, h with
  | [a, b, c], _ => exact ⟨a, b, c, byList e _ hl⟩
theorem sizeFour {e : ByteArray} (h : e.size = 4) : ∃ a b c d, e = S [a, b, c, d] := by
  rw [← size_list] at h
  match hl : e.data.toList, h with
  | [a, b, c, d], _ => exact ⟨a, b, c, d, byList e _ hl⟩
theorem uInt32 : (Tryd.prog.underlying 21).isSome = true := by kernel_rfl
theorem validChar (r : Nat) (h : isChar (r : Int)) : Utf8.valid (r : Int) = true := by
  rw [validRune_eq]
  unfold validRune
  exact decide_eq_true h

set_option maxHeartbeats 4000000 in
set_option maxRecDepth 100000 in
/-- A rune above 127 is not among them. -/
theorem rune_high (s : ByteArray) (hL : Low s) (h4 : 4 ≤ s.size) (hs : s.size ≤ 65536) (r : Nat) (h0 : 128 ≤ r) (h1 : r ≤ 1114111) (hc : isChar (r : Int)) (hne : r ≠ 65533) (w : World) :
    Calls Tryd.prog 39 #[.string s, .int .i32 (r : Int)] w fun e w' => e = .returned (.int .i64 (-1)) ∧ Below w.heap.size w w' := by
  obtain ⟨e1, e2, e3⟩ := encode_facts (r : Int) (validChar r hc) (by omega)
  have hv := Tryd.utf8_ValidRune (r : Int) w
  have hvr : Lib.validRune (r : Int) = true := by
    have := validChar r hc
    rw [validRune_eq] at this
    exact this
  rw [hvr] at hv
  have hne' : ((r : Int) == 65533) = false := by simp; omega
  have hi0 : (0 : Int) ≤ (r : Int) := by omega
  have hi1 : (128 : Int) ≤ (r : Int) := by omega
  have hcv := fun w => run_convert_int_string (P := Tryd.prog) w 21 9 .i32 (r : Int) uInt32 Tryd.underlying9
  generalize Utf8.encode (r : Int) = E at e1 e2 e3 hcv
  clear hvr hc h0 h1 hne
  have hzi : (4 : Int) ≤ (s.size : Int) := by omega
  have hzj : (s.size : Int) ≤ 65536 := by omega
  have hE : ∃ (k : Nat) (c : UInt8), (k = 1 ∨ k = 2 ∨ k = 3) ∧ (E.size : Int) = (k : Int) + 1 ∧ 128 ≤ c.toNat ∧ ∃ h : k < E.size, E[k] = c := by
    have hk : E.size - 1 < E.size := by omega
    exact ⟨E.size - 1, E[E.size - 1], by omega, by omega, e3 (by omega), hk, rfl⟩
  clear e1 e2 e3
  obtain ⟨k, c, hk, hkz, hcc, hkE, hEc⟩ := hE
  generalize (r : Int) = R at *
  have hx : ∀ w, Calls Tryd.prog 33 #[.string (s.extract (k + 1) s.size), .int .u8 (c.toNat : Int)] w fun e w' => e = .returned (.int .i64 (-1)) ∧ w' = w := fun w => by
    have := Tryd.strings_IndexByte (s.extract (k + 1) s.size) (c.toNat : Int) w
    rwa [show ((c.toNat : Int)).toNat.toUInt8 = c by simp, low_no c hcc _ (low_from hL (k + 1))] at this
  have hks : k < s.size := by omega
  have hsk := hL k hks
  have n1 : (((s[k]'hks).toNat : Int) != (c.toNat : Int)) = true := by simp; omega
  have v1 : IntKind.i64.wrap ((k : Int) + 1) = (k : Int) + 1 := by rw [IntKind.wrap_i64]; omega
  clear hsk hL hcc
  have k0 : (0 : Int) ≤ (k : Int) := by omega
  have k3 : (k : Int) ≤ 3 := by omega
  have kt : ((k : Int) + 1).toNat = k + 1 := by omega
  have kl : (k : Int) < (s.size : Int) := by omega
  have kl2 : (k : Int) + 1 ≤ (s.size : Int) := by omega
  have kl3 : ¬ ((s.size : Int) ≤ (k : Int)) := by omega
  clear hk
  go_enter Tryd.func39, Tryd.ntmps39
  go_wp2_with (first | (go_at_call 51; refine hv.mono ?_; rintro e w' ⟨rfl, rfl⟩))
  go_step3
  go_wp2_with fail
  go_loop [9, 10] (fun i f => i = .int .i64 (k : Int) ∧ f = .int .i64 0) (fun _ _ => 0)
  case atStart => exact ⟨by go_num, rfl⟩
  case round =>
    obtain ⟨rfl, rfl⟩ := hrel
    go_wp2_with fail
    go_step3
    go_wp2_with fail
    go_quiet (fail)
    rename_i nq _
    have hD := Lib.hid (drewJ (Below.refl w'.heap.size w') nq)
    generalize w'.drewN nq = wd at hD
    go_wp2_with fail
    go_quiet ((go_at_call 33; exact Calls.quiet_of_same (hx _)))
    go_wp2_with fail
    rw [Exit.noGoto_ret]
    go_wp2_with fail
    rw [Exit.noGoto_ret]
    go_wp2_with fail
    go_ret
    exact ⟨rfl, drewJ hD.out _⟩

set_option maxRecDepth 100000 in
/-- A number that is no character is not among them. -/
theorem rune_none (s : ByteArray) (r : Nat) (h0 : 128 ≤ r) (h1 : r ≤ 1114111) (hc : ¬ isChar (r : Int)) (w : World) :
    Calls Tryd.prog 39 #[.string s, .int .i32 (r : Int)] w fun e w' => e = .returned (.int .i64 (-1)) ∧ Below w.heap.size w w' := by
  have hv := Tryd.utf8_ValidRune (r : Int) w
  have hvr : Lib.validRune (r : Int) = false := by
    unfold Lib.validRune
    exact decide_eq_false hc
  rw [hvr] at hv
  have hne : r ≠ 65533 := by
    rintro rfl
    exact hc (by decide)
  have hne' : ((r : Int) == 65533) = false := by simp; omega
  have hi0 : (0 : Int) ≤ (r : Int) := by omega
  have hi1 : (128 : Int) ≤ (r : Int) := by omega
  clear hvr hc h0 h1 hne
  generalize (r : Int) = R at *
  go_enter Tryd.func39, Tryd.ntmps39
  go_wp2_with (first | (go_at_call 51; refine hv.mono ?_; rintro e w' ⟨rfl, rfl⟩))
  go_ret
  exact ⟨rfl, Below.refl _ _⟩
theorem rune_any (s : ByteArray) (hL : Low s) (h4 : 4 ≤ s.size) (hs : s.size ≤ 65536) (r : Nat) (h0 : 128 ≤ r) (h1 : r ≤ 1114111) (w : World) :
    Calls Tryd.prog 39 #[.string s, .int .i32 (r : Int)] w fun e w' => e = .returned (.int .i64 (-1)) ∧ Below w.heap.size w w' := by
  by_cases hc : isChar (r : Int)
  · by_cases hne : r = 65533
    · subst hne
      exact rune_bad s hL w
    · exact rune_high s hL h4 hs r h0 h1 hc hne w
  · exact rune_none s r h0 h1 hc w
/-- Whether a rune is among the octets of such a text. -/
def amongR (s : ByteArray) (r : Nat) : Bool := decide (r < 128) && decide ((0 : Int) ≤ Lib.indexByte s.data.toList (r : Int).toNat.toUInt8)
theorem containsRune_c (s : ByteArray) (hL : Low s) (h4 : 4 ≤ s.size) (hs : s.size ≤ 65536) (r : Nat) (h : r ≤ 1114111) (w : World) :
    Calls Tryd.prog 27 #[.string s, .int .i32 (r : Int)] w fun e w' => e = .returned (.bool (amongR s r)) ∧ Below w.heap.size w w' := by
  unfold amongR
  by_cases hl : r < 128
  · refine (Tryd.strings_ContainsRune_ascii s (r : Int) w (by omega) (by omega)).mono ?_
    rintro e w' ⟨rfl, rfl⟩
    rw [decide_eq_true hl, Bool.true_and]
    exact ⟨rfl, Below.refl _ _⟩
  · have hx := fun w => rune_any s hL h4 hs r (by omega) h w
    rw [decide_eq_false hl, Bool.false_and]
    clear hl h hL h4 hs
    generalize (r : Int) = R at *
    go_enter Tryd.func27, Tryd.ntmps27
    go_wp2_with (first | (go_at_call 39; refine (hx _).mono ?_; rintro e w' ⟨rfl, hb⟩))
    go_ret
    exact ⟨rfl, hb⟩

/-! ### Safe -/
abbrev unsafeB : ByteArray := ⟨#[60, 62, 38, 39, 34, 47, 33, 45, 96, 10, 13, 0]⟩
theorem unsafe_low : Low unsafeB := by
  intro i h
  have h1 : ∀ i : Fin 12, (unsafeB[i.val]'(show i.val < unsafeB.size from i.isLt)).toNat < 128 := by decide +kernel
  exact h1 ⟨i, h⟩
theorem among_oct : ∀ k : Fin 128, amongR unsafeB k.val = !safeO (UInt8.ofNat k.val) := by decide +kernel
theorem enter_safe : ∀ args w, (callFunc 26 args).run Tryd.prog w = .ok (.enter 26 args) w := enters_of Tryd.func26 (by kernel_rfl) rfl
theorem safe1_c (r : Nat) (h : r ≤ 1114111) (w : World) :
    Calls Tryd.prog 26 #[.int .i32 (r : Int)] w fun e w' => e = .returned (.bool (amongR unsafeB r)) ∧ Below w.heap.size w w' := by
  have hx := fun w => containsRune_c unsafeB unsafe_low (by decide) (by decide) r h w
  generalize amongR unsafeB r = ans at hx ⊢
  clear h
  generalize (r : Int) = R at *
  go_enter Tryd.func26, Tryd.ntmps26
  go_wp2_with (first | (go_at_call 27; refine (hx _).mono ?_; rintro e w' ⟨rfl, hb2⟩))
  go_ret
  exact ⟨rfl, hb2⟩
theorem idx_none (l : List UInt8) (hl : ∀ i (h : i < l.length), l[i].toNat < 128 ∧ safeO l[i] = true) :
    ∀ g p, Lib.idxFuncFrom (amongR unsafeB) true (S l) g p = -1 := by
  intro g
  induction g with
  | zero => intro p; rfl
  | succ g ih =>
    intro p
    unfold Lib.idxFuncFrom
    by_cases hlt : p < (S l).size
    · rw [if_pos hlt]
      have hpl : p < l.length := by rw [size_S] at hlt; exact hlt
      obtain ⟨h1, h2⟩ := hl p hpl
      have e : (S l)[p] = l[p] := by rw [ByteArray.getElem_eq_getElem_data]; simp
      rw [decode_ascii (S l) p hlt (by rw [e]; exact h1)]
      have h3 := among_oct ⟨(S l)[p].toNat, by rw [e]; exact h1⟩
      rw [show (UInt8.ofNat (S l)[p].toNat) = l[p] by rw [e]; simp, h2] at h3
      show (if amongR unsafeB (S l)[p].toNat = true then _ else _) = _
      rw [h3]
      exact ih (p + 1)
    · rw [if_neg hlt]

/-- A text of octets below 128 that are all safe is safe. -/
theorem safe_c (l : List UInt8) (hl : ∀ i (h : i < l.length), l[i].toNat < 128 ∧ safeO l[i] = true) (w : World) :
    Calls Tryd.prog 10 #[.string (S l)] w fun e w' => e = .returned (.bool true) ∧ Below w.heap.size w w' := by
  have h := fun w => Tryd.strings_ContainsFunc_grows 26 #[] enter_safe (amongR unsafeB) (S l) w (fun W x hx _ => safe1_c x hx W)
  have e : Lib.idxFunc (amongR unsafeB) true (S l) = -1 := idx_none l hl _ _
  rw [e] at h
  have h2 : ∀ w, Calls Tryd.prog 25 #[.string (S l), .func (.func 26) #[] #[]] w fun e w' => e = .returned (.bool false) ∧ Below w.heap.size w w' := h
  clear h e hl
  generalize S l = L at *
  go_enter Tryd.func10, Tryd.ntmps10
  go_wp2_with (first | (go_at_call 25; refine (h2 _).mono ?_; rintro e w' ⟨rfl, hb⟩))
  go_ret
  exact ⟨rfl, hb⟩
end Go.Proofs.YtppclkecfggkiaaDoor.Jst
