/-
  Contracts of strings.IndexRune and ContainsRune at the three octets behind which no scheme stands, at any rune; and of the closure that looks for the end.
-/
import Derived.Test.YtjchebnjbfhooaaDoorSchPage
import Derived.Shelf.Strings.FuncGrows
import Derived.Laws.Runes
import Derived.Lib.RuneCountTail
import Derived.Lib.OthersKept
import Derived.WalkMore
namespace Go.Proofs.YtjchebnjbfhooaaDoor.Sch
open Go.RowKit Go.Proofs.YtjchebnjbfhooaaDoor.Oct Go.Proofs.YtjchebnjbfhooaaDoor.Utf Go.Proofs.YtjchebnjbfhooaaDoor.Pct
open Go.Lib (encodeRune)

abbrev three : ByteArray := ⟨#[47, 63, 35]⟩

/-! ### What a text reads at a place -/
theorem cutOn (s : ByteArray) (n : Nat) : s.extract n s.size = S (s.data.toList.drop n) := by
  rw [Lib.extract_eq, List.take_of_length_le (by rw [List.length_drop, size_list]; omega)]
theorem drewB {B : Nat} {a w : World} (h : Below B a w) (q : Nat) : Below B a (w.drewN q) := ⟨h.os, h.tape, h.output, h.size, h.block⟩
theorem decode_head (c : Int) (hc : isChar c) (t : List UInt8) : Utf8.decode (S (encodeRune c ++ t)) 0 = (c.toNat, (encodeRune c).length) := by
  have hl := (enc_len c).1
  have hg := go_dec (S (encodeRune c ++ t))
  rw [list_S, dec_enc _ hc] at hg
  have hz : ¬ (S (encodeRune c ++ t)).size = 0 := by rw [size_S, List.length_append]; omega
  have hD : Lib.decodeGo (S (encodeRune c ++ t)) = Utf8.decode (S (encodeRune c ++ t)) 0 := by
    unfold Lib.decodeGo
    rw [if_neg hz]
  rw [hD] at hg
  clear hD hz
  generalize Utf8.decode (S (encodeRune c ++ t)) 0 = d at hg ⊢
  generalize (encodeRune c).length = m at hg ⊢
  obtain ⟨r, k⟩ := d
  by_cases hh : r = 65533 ∧ k ≤ 1
  · rw [if_pos hh] at hg
    have h1 : c = -1 := congrArg Prod.fst hg
    unfold isChar at hc
    omega
  · rw [if_neg hh] at hg
    have h1 : c = (r : Int) := congrArg Prod.fst hg
    have h2 : m = k := congrArg Prod.snd hg
    rw [h1, h2]
    rfl
theorem decode_bad (l : List UInt8) (hl : l ≠ []) (h : dec l = (-1, 1)) : Utf8.decode (S l) 0 = (65533, 1) := by
  have hg := go_dec (S l)
  rw [list_S, h] at hg
  have hz : ¬ (S l).size = 0 := by rw [size_S]; have := List.length_pos_iff.2 hl; omega
  have hD : Lib.decodeGo (S l) = Utf8.decode (S l) 0 := by
    unfold Lib.decodeGo
    rw [if_neg hz]
  rw [hD] at hg
  clear hD hz
  generalize Utf8.decode (S l) 0 = d at hg ⊢
  obtain ⟨r, k⟩ := d
  by_cases hh : r = 65533 ∧ k ≤ 1
  · rw [if_pos hh] at hg
    have h2 : 1 = k := congrArg Prod.snd hg
    rw [hh.1, ← h2]
  · rw [if_neg hh] at hg
    have h1 : (-1 : Int) = (r : Int) := congrArg Prod.fst hg
    omega
theorem enc_high (c : Int) (hc : isChar c) (h : 128 ≤ c) : ∀ b ∈ encodeRune c, 128 ≤ b.toNat := by
  obtain ⟨n, rfl, hn⟩ := isChar_nat hc
  rw [enc_eq n hn]
  intro b hb
  obtain ⟨k, hk, rfl⟩ := List.mem_map.1 hb
  have hk2 : 128 ≤ k ∧ k < 256 := by
    unfold isChar at hn
    unfold encN at hk
    rw [if_neg (by omega)] at hk
    split at hk
    · simp at hk; omega
    · split at hk
      · simp at hk; omega
      · simp at hk; omega
  rw [u8 k hk2.2]
  exact hk2.1
theorem enc_low (c : Int) (hc : isChar c) (h : c < 128) : ∃ b : UInt8, encodeRune c = [b] ∧ (b.toNat : Int) = c := by
  obtain ⟨n, rfl, hn⟩ := isChar_nat hc
  rw [enc_eq n hn]
  unfold encN
  rw [if_pos (by omega)]
  exact ⟨n.toUInt8, rfl, by rw [u8 n (by omega)]⟩

/-- At an octet above 127: the rune is above it too, and so is every octet that it takes. -/
theorem decode_high (l : List UInt8) (p : Nat) (hp : p < l.length) (h : 128 ≤ l[p].toNat) :
    ∃ (r k : Nat), Utf8.decode (S l) p = (r, k) ∧ 128 ≤ r ∧ r ≤ 1114111 ∧ isChar (r : Int) ∧ 1 ≤ k ∧ p + k ≤ l.length ∧ ∀ j (_ : p ≤ j) (_ : j < p + k) (hl : j < l.length), 128 ≤ l[j].toNat := by
  have h1 := Lib.tail_decode (S l) p 0
  rw [Nat.add_zero, cutOn, list_S] at h1
  have hne : l.drop p ≠ [] := by
    intro e
    have := congrArg List.length e
    rw [List.length_drop, List.length_nil] at this
    omega
  have hd : l.drop p = l[p] :: l.drop (p + 1) := List.drop_eq_getElem_cons hp
  rcases dec_cases (l.drop p) hne with hb | ⟨c, t, hc, e⟩
  · rw [decode_bad _ hne hb] at h1
    exact ⟨65533, 1, h1.symm, by decide, by decide, by decide, by decide, by omega, fun j h2 h3 h4 => by
      obtain rfl : j = p := by omega
      exact h⟩
  · rw [e, decode_head c hc t] at h1
    have hlen := enc_len c
    have hle : p + (encodeRune c).length ≤ l.length := by
      have := congrArg List.length e
      rw [List.length_drop, List.length_append] at this
      omega
    have h128 : 128 ≤ c := by
      rcases Int.lt_or_le c 128 with hlt | hge
      · exfalso
        obtain ⟨b, hb, hbc⟩ := enc_low c hc hlt
        rw [hb, hd] at e
        injection e with e1 _
        rw [e1] at h
        omega
      · exact hge
    have hct : ((c.toNat : Nat) : Int) = c := Int.toNat_of_nonneg (by omega)
    refine ⟨c.toNat, (encodeRune c).length, h1.symm, by omega, ?_, by rw [hct]; exact hc, hlen.1, hle, fun j h2 h3 h4 => ?_⟩
    · unfold isChar at hc; omega
    · have hj : l[j] ∈ encodeRune c := by
        have h5 : (l.drop p)[j - p]'(by rw [List.length_drop]; omega) = l[j] := by
          rw [List.getElem_drop]
          congr 1
          omega
        rw [← h5]
        have h6 : (l.drop p)[j - p]'(by rw [List.length_drop]; omega) = (encodeRune c)[j - p]'(by omega) := by
          have := List.getElem_of_eq e (i := j - p) (by rw [List.length_drop]; omega)
          rw [this, List.getElem_append_left (by omega)]
        rw [h6]
        exact List.getElem_mem _
      exact enc_high c hc h128 _ hj
theorem valid_char (r : Nat) (h : isChar (r : Int)) : Utf8.valid (r : Int) = true := by
  rw [validRune_eq]
  unfold validRune
  exact decide_eq_true h

/-! ### IndexRune at a rune above 127 -/
theorem high_no (c : UInt8) (h : 128 ≤ c.toNat) (l : List UInt8) (hl : l = [35] ∨ l = []) : Lib.indexByte l c = -1 := by
  rcases hl with rfl | rfl
  · have hc : ((35 : UInt8) == c) = false := by
      rw [beq_eq_false_iff_ne]
      rintro rfl
      exact absurd h (by decide)
    simp [Lib.indexByte, hc]
  · rfl

set_option maxHeartbeats 4000000 in
set_option maxRecDepth 100000 in
/-- The replacement character is not among the three. -/
theorem rune_bad (w : World) : Calls Tryd.prog 23 #[.string three, .int .i32 65533] w fun e w' => e = .returned (.int .i64 (-1)) ∧ Below w.heap.size w w' := by
  have n0 : ∀ (w : World) (ty : TypeId), (Instr.next (.pointer (some ⟨w.heap.size, 0, none⟩)) true ty).run Tryd.prog (w.iter three 0) = .ok (.tuple #[.bool true, .int .i64 0, .int .i32 47]) (w.iter three 1) := fun w ty => run_next_ascii w three 0 ty (by decide) (by decide)
  have n1 : ∀ (w : World) (ty : TypeId), (Instr.next (.pointer (some ⟨w.heap.size, 0, none⟩)) true ty).run Tryd.prog (w.iter three 1) = .ok (.tuple #[.bool true, .int .i64 1, .int .i32 63]) (w.iter three 2) := fun w ty => run_next_ascii w three 1 ty (by decide) (by decide)
  have n2 : ∀ (w : World) (ty : TypeId), (Instr.next (.pointer (some ⟨w.heap.size, 0, none⟩)) true ty).run Tryd.prog (w.iter three 2) = .ok (.tuple #[.bool true, .int .i64 2, .int .i32 35]) (w.iter three 3) := fun w ty => run_next_ascii w three 2 ty (by decide) (by decide)
  have n3 : ∀ (w : World) (ty : TypeId), (Instr.next (.pointer (some ⟨w.heap.size, 0, none⟩)) true ty).run Tryd.prog (w.iter three 3) = .ok (.tuple #[.bool false]) (w.iter three 3) := fun w ty => run_next_end w three 3 ty (by decide)
  go_enter Tryd.func23, Tryd.ntmps23
  go_wp2_with fail
  go_loopg [5, 6] 3 (fun g _ _ wx => ∃ i : Nat, i + g = 3 ∧ wx = w.iter three i)
  case atStart => exact ⟨0, by omega, rfl⟩
  case round =>
    obtain ⟨i, hig, rfl⟩ := hrel
    match i, hig with
    | 0, hig =>
      obtain rfl : gk = 3 := by omega
      go_wp2_with fail
      go_roundg 2
      case measure => omega
      case rel => exact ⟨1, by omega, rfl⟩
    | 1, hig =>
      obtain rfl : gk = 2 := by omega
      go_wp2_with fail
      go_roundg 1
      case measure => omega
      case rel => exact ⟨2, by omega, rfl⟩
    | 2, hig =>
      obtain rfl : gk = 1 := by omega
      go_wp2_with fail
      go_roundg 0
      case measure => omega
      case rel => exact ⟨3, by omega, rfl⟩
    | 3, hig =>
      go_wp2_with fail
      go_ret
      exact ⟨rfl, (Below.refl _ w).alloc (Nat.le_refl _) _⟩
    | i + 4, hig => exact absurd hig (by omega)

theorem by_list (e : ByteArray) (l : List UInt8) (h : e.data.toList = l) : e = S l := by rw [← h, S_list]
theorem size_two {e : ByteArray} (h : e.size = 2) : ∃ a b, e = S [a, b] := by
  rw [← size_list] at h
  match hl : e.data.toList, h with
  | [a, b], _ => exact ⟨a, b, by_list e _ hl⟩
theorem size_three {e : ByteArray} (h : e.size = 3) : ∃ a b c, e = S [a, b, c] := by
  rw [← size_list] at h
  match hl : e.data.toList, h with
  | [a, b, c], _ => exact ⟨a, b, c, by_list e _ hl⟩
theorem size_four {e : ByteArray} (h : e.size = 4) : ∃ a b c d, e = S [a, b, c, d] := by
  rw [← size_list] at h
  match hl : e.data.toList, h with
  | [a, b, c, d], _ => exact ⟨a, b, c, d, by_list e _ hl⟩
theorem u_int32 : (Tryd.prog.underlying 21).isSome = true := by kernel_rfl
theorem cut1 : three.extract 2 3 = S [35] := by decide +kernel
theorem cut2 : three.extract 3 3 = S [] := by decide +kernel

set_option maxHeartbeats 4000000 in
set_option maxRecDepth 100000 in
/-- A rune above 127 is not among the three. -/
theorem rune_high (r : Nat) (h0 : 128 ≤ r) (h1 : r ≤ 1114111) (hc : isChar (r : Int)) (hne : r ≠ 65533) (w : World) :
    Calls Tryd.prog 23 #[.string three, .int .i32 (r : Int)] w fun e w' => e = .returned (.int .i64 (-1)) ∧ Below w.heap.size w w' := by
  obtain ⟨e1, e2, e3⟩ := encode_facts (r : Int) (valid_char r hc) (by omega)
  have hv := Tryd.utf8_ValidRune (r : Int) w
  have hvr : Lib.validRune (r : Int) = true := by
    have := valid_char r hc
    rw [validRune_eq] at this
    exact this
  rw [hvr] at hv
  have hne' : ((r : Int) == 65533) = false := by simp; omega
  have hi0 : (0 : Int) ≤ (r : Int) := by omega
  have hi1 : (128 : Int) ≤ (r : Int) := by omega
  have hcv := fun w => run_convert_int_string (P := Tryd.prog) w 21 9 .i32 (r : Int) u_int32 Tryd.underlying9
  generalize Utf8.encode (r : Int) = E at e1 e2 e3 hcv
  clear hvr hc h0 h1 hne
  have hE : (∃ a b, E = S [a, b] ∧ 128 ≤ b.toNat) ∨ (∃ a b c, E = S [a, b, c] ∧ 128 ≤ c.toNat) ∨ (∃ a b c d, E = S [a, b, c, d]) := by
    rcases (by omega : E.size = 2 ∨ E.size = 3 ∨ E.size = 4) with h | h | h
    · obtain ⟨a, b, rfl⟩ := size_two h
      exact .inl ⟨a, b, rfl, e3 (by show (1 : Nat) < 2; omega)⟩
    · obtain ⟨a, b, c, rfl⟩ := size_three h
      exact .inr (.inl ⟨a, b, c, rfl, e3 (by show (2 : Nat) < 3; omega)⟩)
    · obtain ⟨a, b, c, d, rfl⟩ := size_four h
      exact .inr (.inr ⟨a, b, c, d, rfl⟩)
  clear e1 e2 e3
  generalize (r : Int) = R at *
  rcases hE with ⟨a, b, rfl, hb⟩ | ⟨a, b, c, rfl, hb⟩ | ⟨a, b, c, d, rfl⟩
  · have hx : ∀ w, Calls Tryd.prog 39 #[.string (S [35]), .int .u8 (b.toNat : Int)] w fun e w' => e = .returned (.int .i64 (-1)) ∧ w' = w := fun w => by
      have := Tryd.strings_IndexByte (S [35]) (b.toNat : Int) w
      rw [list_S, show ((b.toNat : Int)).toNat.toUInt8 = b by simp, high_no b hb [35] (by simp)] at this
      exact this
    have hl : (128 : Int) ≤ (b.toNat : Int) := by omega
    go_enter Tryd.func23, Tryd.ntmps23
    go_wp2_with (first | (go_at_call 40; refine hv.mono ?_; rintro e w' ⟨rfl, rfl⟩))
    go_step3
    go_wp2_with fail
    go_loop [9, 10] (fun i f => i = .int .i64 1 ∧ f = .int .i64 0) (fun _ _ => 0)
    case atStart => exact ⟨rfl, rfl⟩
    case round =>
      obtain ⟨rfl, rfl⟩ := hrel
      go_wp2_with fail
      go_step3
      have c1 := cut1
      have z1 : three.size = 3 := rfl
      have v1 : IntKind.i64.wrap 2 = 2 := by decide
      have n1 : (((three[1]'(by decide)).toNat : Int) != (((S [a, b])[1]'(by show 1 < 2; omega)).toNat : Int)) = true := by
        show ((((63 : UInt8)).toNat : Int) != (b.toNat : Int)) = true
        have : (((63 : UInt8)).toNat : Int) = 63 := rfl
        rw [this]
        simp
        omega
      go_wp2_with fail
      go_quiet (fail)
      rename_i nq _
      have hD := Lib.hid (drewB (Below.refl w'.heap.size w') nq)
      generalize w'.drewN nq = wd at hD
      go_wp2_with fail
      go_quiet ((go_at_call 39; exact Calls.quiet_of_same (hx _)))
      go_wp2_with fail
      rw [Exit.noGoto_ret]
      go_wp2_with fail
      rw [Exit.noGoto_ret]
      go_wp2_with fail
      go_ret
      exact ⟨rfl, drewB hD.out _⟩
  · have hx : ∀ w, Calls Tryd.prog 39 #[.string (S []), .int .u8 (c.toNat : Int)] w fun e w' => e = .returned (.int .i64 (-1)) ∧ w' = w := fun w => by
      have := Tryd.strings_IndexByte (S []) (c.toNat : Int) w
      rw [list_S, show ((c.toNat : Int)).toNat.toUInt8 = c by simp, high_no c hb [] (by simp)] at this
      exact this
    have hl : (128 : Int) ≤ (c.toNat : Int) := by omega
    go_enter Tryd.func23, Tryd.ntmps23
    go_wp2_with (first | (go_at_call 40; refine hv.mono ?_; rintro e w' ⟨rfl, rfl⟩))
    go_step3
    go_wp2_with fail
    go_loop [9, 10] (fun i f => i = .int .i64 2 ∧ f = .int .i64 0) (fun _ _ => 0)
    case atStart => exact ⟨rfl, rfl⟩
    case round =>
      obtain ⟨rfl, rfl⟩ := hrel
      go_wp2_with fail
      go_step3
      have c2 := cut2
      have z2 : three.size = 3 := rfl
      have v2 : IntKind.i64.wrap 3 = 3 := by decide
      have n2 : (((three[2]'(by decide)).toNat : Int) != (((S [a, b, c])[2]'(by show 2 < 3; omega)).toNat : Int)) = true := by
        show ((((35 : UInt8)).toNat : Int) != (c.toNat : Int)) = true
        have : (((35 : UInt8)).toNat : Int) = 35 := rfl
        rw [this]
        simp
        omega
      go_wp2_with fail
      go_quiet (fail)
      rename_i nq _
      have hD := Lib.hid (drewB (Below.refl w'.heap.size w') nq)
      generalize w'.drewN nq = wd at hD
      go_wp2_with fail
      go_quiet ((go_at_call 39; exact Calls.quiet_of_same (hx _)))
      go_wp2_with fail
      rw [Exit.noGoto_ret]
      go_wp2_with fail
      rw [Exit.noGoto_ret]
      go_wp2_with fail
      go_ret
      exact ⟨rfl, drewB hD.out _⟩
  · have z3 : three.size = 3 := rfl
    go_enter Tryd.func23, Tryd.ntmps23
    go_wp2_with (first | (go_at_call 40; refine hv.mono ?_; rintro e w' ⟨rfl, rfl⟩))
    go_step3
    go_wp2_with fail
    go_loop [9, 10] (fun i f => i = .int .i64 3 ∧ f = .int .i64 0) (fun _ _ => 0)
    case atStart => exact ⟨rfl, rfl⟩
    case round =>
      obtain ⟨rfl, rfl⟩ := hrel
      go_wp2_with fail
      go_ret
      exact ⟨rfl, Below.refl _ _⟩

set_option maxRecDepth 100000 in
/-- A number that is no character is not among the three. -/
theorem rune_none (r : Nat) (h0 : 128 ≤ r) (h1 : r ≤ 1114111) (hc : ¬ isChar (r : Int)) (w : World) :
    Calls Tryd.prog 23 #[.string three, .int .i32 (r : Int)] w fun e w' => e = .returned (.int .i64 (-1)) ∧ Below w.heap.size w w' := by
  have hv := Tryd.utf8_ValidRune (r : Int) w
  have hvr : Lib.validRune (r : Int) = false := by
    unfold Lib.validRune
    exact decide_eq_false hc
  rw [hvr] at hv
  have hne : r ≠ 65533 := by
    rintro rfl
    exact hc (by decide)
  have hne' : ((r : Int) == 65533) = false := by simp; omega
  have hi0 : (0 : Int) ≤ (r : Int) := by omega
  have hi1 : (128 : Int) ≤ (r : Int) := by omega
  clear hvr hc h0 h1 hne
  generalize (r : Int) = R at *
  go_enter Tryd.func23, Tryd.ntmps23
  go_wp2_with (first | (go_at_call 40; refine hv.mono ?_; rintro e w' ⟨rfl, rfl⟩))
  go_ret
  exact ⟨rfl, Below.refl _ _⟩
theorem rune_any (r : Nat) (h0 : 128 ≤ r) (h1 : r ≤ 1114111) (w : World) :
    Calls Tryd.prog 23 #[.string three, .int .i32 (r : Int)] w fun e w' => e = .returned (.int .i64 (-1)) ∧ Below w.heap.size w w' := by
  by_cases hc : isChar (r : Int)
  · by_cases hne : r = 65533
    · subst hne
      exact rune_bad w
    · exact rune_high r h0 h1 hc hne w
  · exact rune_none r h0 h1 hc w

/-! ### ContainsRune, and the closure -/
def isR3 (r : Nat) : Bool := decide (r = 47 ∨ r = 63 ∨ r = 35)
def isR (r : Nat) : Bool := decide (r = 58) || isR3 r
theorem three_low : ∀ x : Fin 128, decide ((0 : Int) ≤ Lib.indexByte three.data.toList ((x.val : Int)).toNat.toUInt8) = isR3 x.val := by decide +kernel
theorem contains_c (r : Nat) (h : r ≤ 1114111) (w : World) :
    Calls Tryd.prog 16 #[.string three, .int .i32 (r : Int)] w fun e w' => e = .returned (.bool (isR3 r)) ∧ Below w.heap.size w w' := by
  by_cases hl : r < 128
  · refine (Tryd.strings_ContainsRune_ascii three (r : Int) w (by omega) (by omega)).mono ?_
    rintro e w' ⟨rfl, rfl⟩
    rw [three_low ⟨r, hl⟩]
    exact ⟨rfl, Below.refl _ _⟩
  · have hx := fun w => rune_any r (by omega) h w
    have e : isR3 r = false := decide_eq_false (by omega)
    rw [e]
    clear e hl h
    generalize (r : Int) = R at *
    go_enter Tryd.func16, Tryd.ntmps16
    go_wp2_with (first | (go_at_call 23; refine (hx _).mono ?_; rintro e w' ⟨rfl, hb⟩))
    go_ret
    exact ⟨rfl, hb⟩

theorem enter_end : ∀ args w, (callFunc 15 args).run Tryd.prog w = .ok (.enter 15 args) w := enters_of Tryd.func15 (by kernel_rfl) rfl
theorem end_c (r : Nat) (h : r ≤ 1114111) (w : World) :
    Calls Tryd.prog 15 #[.int .i32 (r : Int)] w fun e w' => e = .returned (.bool (isR r)) ∧ Below w.heap.size w w' := by
  have hx := fun w => contains_c r h w
  by_cases h58 : r = 58
  · subst h58
    go_enter Tryd.func15, Tryd.ntmps15
    go_wp2_with fail
    go_ret
    exact ⟨rfl, Below.refl _ _⟩
  · have hb : ((r : Int) == 58) = false := by simp; omega
    have E : Hid (isR r = isR3 r) := by show _ = _; unfold isR; rw [decide_eq_false h58]; rfl
    generalize isR r = ans at E ⊢
    generalize isR3 r = b3 at hx E
    clear h h58
    generalize (r : Int) = R at *
    go_enter Tryd.func15, Tryd.ntmps15
    go_wp2_with (first | (go_at_call 16; refine (hx _).mono ?_; rintro e w' ⟨rfl, hb2⟩))
    go_ret
    exact ⟨ret_bool E.out.symm, hb2⟩

/-! ### Where the closure finds a rune -/
theorem isR_oct (c : UInt8) : isR c.toNat = isM c := by
  have h : ∀ x : Fin 256, isR (UInt8.ofNat x.val).toNat = isM (UInt8.ofNat x.val) := by decide +kernel
  have h2 := h ⟨c.toNat, c.toNat_lt⟩
  simpa using h2
theorem isR_high (r : Nat) (h : 128 ≤ r) : isR r = false := by
  unfold isR isR3
  rw [decide_eq_false (by omega), decide_eq_false (by omega)]
  rfl
theorem isM_high (c : UInt8) (h : 128 ≤ c.toNat) : isM c = false := by rw [← isR_oct]; exact isR_high _ h
def NoM (l : List UInt8) (p : Nat) : Prop := ∀ j (hl : j < l.length), j < p → isM l[j] = false
theorem noM_take {l : List UInt8} {p : Nat} (h : NoM l p) : ∀ c ∈ l.take p, isM c = false := by
  intro c hc
  obtain ⟨j, hj, rfl⟩ := List.mem_iff_getElem.1 hc
  rw [List.length_take] at hj
  rw [List.getElem_take]
  exact h j (by omega) (by omega)
theorem decode_low (l : List UInt8) (p : Nat) (hp : p < l.length) (h : l[p].toNat < 128) : Utf8.decode (S l) p = (l[p].toNat, 1) := by
  have h1 := Lib.tail_decode (S l) p 0
  rw [Nat.add_zero, cutOn, list_S] at h1
  have hd : l.drop p = l[p] :: l.drop (p + 1) := List.drop_eq_getElem_cons hp
  have hch : isChar (l[p].toNat : Int) := .inl (by omega)
  have he := enc_small l[p] h
  have hh := decode_head (l[p].toNat : Int) hch (l.drop (p + 1))
  rw [he] at hh
  have e2 : S ([l[p]] ++ l.drop (p + 1)) = S (l.drop p) := by rw [hd]; rfl
  rw [e2] at hh
  exact h1.symm.trans hh
theorem idx_from (l : List UInt8) (ans : Int) (hn : NoM l l.length → ans = -1) (hs : ∀ k (hk : k < l.length), NoM l k → isM l[k] = true → ans = k) :
    ∀ g p, l.length ≤ p + g → p ≤ l.length → NoM l p → Lib.idxFuncFrom isR true (S l) g p = ans := by
  intro g
  induction g with
  | zero =>
    intro p hg hp hN
    obtain rfl : p = l.length := by omega
    exact (hn hN).symm
  | succ g ih =>
    intro p hg hp hN
    unfold Lib.idxFuncFrom
    rw [size_S]
    by_cases hlt : p < l.length
    · rw [if_pos hlt]
      by_cases hx : l[p].toNat < 128
      · rw [decode_low l p hlt hx]
        show (if isR l[p].toNat = true then _ else _) = _
        rw [isR_oct]
        cases hm : isM l[p] with
        | true => rw [if_pos rfl]; exact (hs p hlt hN hm).symm
        | false =>
          rw [if_neg (by simp)]
          refine ih (p + 1) (by omega) (by omega) fun j hl hj => ?_
          rcases Nat.lt_or_ge j p with h | h
          · exact hN j hl h
          · obtain rfl : j = p := by omega
            exact hm
      · obtain ⟨r, k, hdec, hr0, hr1, hrc, hk1, hkl, hall⟩ := decode_high l p hlt (by omega)
        rw [hdec]
        show (if isR r = true then _ else _) = _
        rw [isR_high r hr0, if_neg (by simp)]
        refine ih (p + k) (by omega) hkl fun j hl hj => ?_
        rcases Nat.lt_or_ge j p with h | h
        · exact hN j hl h
        · exact isM_high _ (hall j h hj hl)
    · rw [if_neg hlt]
      obtain rfl : p = l.length := by omega
      exact (hn hN).symm
theorem find_c (l : List UInt8) (ans : Int) (hn : NoM l l.length → ans = -1) (hs : ∀ k (hk : k < l.length), NoM l k → isM l[k] = true → ans = k) (w : World) :
    Calls Tryd.prog 14 #[.string (S l), .func (.func 15) #[] #[]] w fun e w' => e = .returned (.int .i64 ans) ∧ Below w.heap.size w w' := by
  have h := Tryd.strings_IndexFunc_grows 15 #[] enter_end isR (S l) w (fun W x hx _ => end_c x hx W)
  have e : Lib.idxFunc isR true (S l) = ans := idx_from l ans hn hs (S l).size 0 (by rw [size_S]; omega) (Nat.zero_le _) (fun j _ hj => by omega)
  rw [e] at h
  exact h
/-- Where the first of the four octets stands. -/
theorem first_m (l : List UInt8) : (NoM l l.length) ∨ ∃ k, ∃ hk : k < l.length, NoM l k ∧ isM l[k] = true := by
  induction l with
  | nil => exact .inl fun j hl _ => absurd hl (by simp)
  | cons c t ih =>
    cases hc : isM c with
    | true => exact .inr ⟨0, by simp, fun j _ hj => by omega, hc⟩
    | false =>
      rcases ih with h | ⟨k, hk, h1, h2⟩
      · refine .inl fun j hl hj => ?_
        cases j with
        | zero => exact hc
        | succ j => exact h j (by simpa using hl) (by simpa using hl)
      · refine .inr ⟨k + 1, by simpa using hk, fun j hl hj => ?_, h2⟩
        cases j with
        | zero => exact hc
        | succ j => exact h1 j (by simpa using hl) (by omega)
theorem m_unique {l : List UInt8} {k j : Nat} (hk : k < l.length) (hj : j < l.length) (h1 : NoM l k) (h2 : isM l[k] = true) (h3 : NoM l j) (h4 : isM l[j] = true) : k = j := by
  rcases Nat.lt_trichotomy k j with h | h | h
  · have := h3 k hk h; rw [h2] at this; cases this
  · exact h
  · have := h1 j hj h; rw [h4] at this; cases this
theorem find_none (l : List UInt8) (h : NoM l l.length) (w : World) :
    Calls Tryd.prog 14 #[.string (S l), .func (.func 15) #[] #[]] w fun e w' => e = .returned (.int .i64 (-1)) ∧ Below w.heap.size w w' :=
  find_c l (-1) (fun _ => rfl) (fun k hk _ hm => by have := h k hk hk; rw [hm] at this; cases this) w
theorem find_some (l : List UInt8) (k : Nat) (hk : k < l.length) (h : NoM l k) (hm : isM l[k] = true) (w : World) :
    Calls Tryd.prog 14 #[.string (S l), .func (.func 15) #[] #[]] w fun e w' => e = .returned (.int .i64 (k : Int)) ∧ Below w.heap.size w w' :=
  find_c l k (fun hN => by have := hN k hk hk; rw [hm] at this; cases this) (fun j hj h3 h4 => by rw [m_unique hk hj h hm h3 h4]) w
end Go.Proofs.YtjchebnjbfhooaaDoor.Sch
