/-
  Contracts of strings.IndexRune, IndexAny and ContainsAny at the four octets that end a text or a value, whatever text they are sought in; and of Clean of package refs.
-/
import Derived.Test.YtamenccdnobjkaaDoorCrfRead
import Derived.Laws.Runes
import Derived.Lib.RuneCountTail
import Derived.Lib.OthersKept
import Derived.WalkMore
import Derived.Shelf.Strings.IndexAnyAll
namespace Go.Proofs.YtamenccdnobjkaaDoor.Crf
open Go.RowKit Go.Proofs.YtamenccdnobjkaaDoor.Oct Go.Proofs.YtamenccdnobjkaaDoor.Num Go.Proofs.YtamenccdnobjkaaDoor.Utf
open Go.Lib (encodeRune)

abbrev four : ByteArray := ⟨#[60, 62, 34, 39]⟩
def isFour (c : UInt8) : Bool := c == 60 || c == 62 || c == 34 || c == 39

/-! ### What a text reads at a place -/
theorem decode_head (c : Int) (hc : isChar c) (t : List UInt8) : Utf8.decode (S (encodeRune c ++ t)) 0 = (c.toNat, (encodeRune c).length) := by
  have hl := (enc_len c).1
  have hg := go_dec (S (encodeRune c ++ t))
  rw [list_S, dec_enc _ hc] at hg
  have hz : ¬ (S (encodeRune c ++ t)).size = 0 := by rw [size_S, List.length_append]; omega
  have hD : Lib.decodeGo (S (encodeRune c ++ t)) = Utf8.decode (S (encodeRune c ++ t)) 0 := by
    unfold Lib.decodeGo
    rw [if_neg hz]
  rw [hD] at hg
  clear hD hz
  generalize Utf8.decode (S (encodeRune c ++ t)) 0 = d at hg ⊢
  generalize (encodeRune c).length = m at hg ⊢
  obtain ⟨r, k⟩ := d
  by_cases hh : r = 65533 ∧ k ≤ 1
  · rw [if_pos hh] at hg
    have h1 : c = -1 := congrArg Prod.fst hg
    unfold isChar at hc
    omega
  · rw [if_neg hh] at hg
    have h1 : c = (r : Int) := congrArg Prod.fst hg
    have h2 : m = k := congrArg Prod.snd hg
    rw [h1, h2]
    rfl
theorem decode_bad (l : List UInt8) (hl : l ≠ []) (h : dec l = (-1, 1)) : Utf8.decode (S l) 0 = (65533, 1) := by
  have hg := go_dec (S l)
  rw [list_S, h] at hg
  have hz : ¬ (S l).size = 0 := by rw [size_S]; have := List.length_pos_iff.2 hl; omega
  have hD : Lib.decodeGo (S l) = Utf8.decode (S l) 0 := by
    unfold Lib.decodeGo
    rw [if_neg hz]
  rw [hD] at hg
  clear hD hz
  generalize Utf8.decode (S l) 0 = d at hg ⊢
  obtain ⟨r, k⟩ := d
  by_cases hh : r = 65533 ∧ k ≤ 1
  · rw [if_pos hh] at hg
    have h2 : 1 = k := congrArg Prod.snd hg
    rw [hh.1, ← h2]
  · rw [if_neg hh] at hg
    have h1 : (-1 : Int) = (r : Int) := congrArg Prod.fst hg
    omega
/-- A character's octets above 127, if it is. -/
theorem enc_high (c : Int) (hc : isChar c) (h : 128 ≤ c) : ∀ b ∈ encodeRune c, 128 ≤ b.toNat := by
  obtain ⟨n, rfl, hn⟩ := isChar_nat hc
  rw [enc_eq n hn]
  intro b hb
  obtain ⟨k, hk, rfl⟩ := List.mem_map.1 hb
  have hk2 : 128 ≤ k ∧ k < 256 := by
    unfold isChar at hn
    unfold encN at hk
    rw [if_neg (by omega)] at hk
    split at hk
    · simp at hk; omega
    · split at hk
      · simp at hk; omega
      · simp at hk; omega
  rw [u8 k hk2.2]
  exact hk2.1
theorem enc_low (c : Int) (hc : isChar c) (h : c < 128) : ∃ b : UInt8, encodeRune c = [b] ∧ (b.toNat : Int) = c := by
  obtain ⟨n, rfl, hn⟩ := isChar_nat hc
  rw [enc_eq n hn]
  unfold encN
  rw [if_pos (by omega)]
  exact ⟨n.toUInt8, rfl, by rw [u8 n (by omega)]⟩

/-- At an octet above 127: the rune is above it too, and so is every octet that it takes. -/
theorem decode_high (l : List UInt8) (p : Nat) (hp : p < l.length) (h : 128 ≤ l[p].toNat) :
    ∃ (r k : Nat), Utf8.decode (S l) p = (r, k) ∧ 128 ≤ r ∧ r ≤ 1114111 ∧ isChar (r : Int) ∧ 1 ≤ k ∧ p + k ≤ l.length ∧ ∀ j (_ : p ≤ j) (_ : j < p + k) (hl : j < l.length), 128 ≤ l[j].toNat := by
  have h1 := Lib.tail_decode (S l) p 0
  rw [Nat.add_zero, cutFrom, list_S] at h1
  have hne : l.drop p ≠ [] := by
    intro e
    have := congrArg List.length e
    rw [List.length_drop, List.length_nil] at this
    omega
  have hd : l.drop p = l[p] :: l.drop (p + 1) := List.drop_eq_getElem_cons hp
  rcases dec_cases (l.drop p) hne with hb | ⟨c, t, hc, e⟩
  · rw [decode_bad _ hne hb] at h1
    exact ⟨65533, 1, h1.symm, by decide, by decide, by decide, by decide, by omega, fun j h2 h3 h4 => by
      obtain rfl : j = p := by omega
      exact h⟩
  · rw [e, decode_head c hc t] at h1
    have hlen := enc_len c
    have hle : p + (encodeRune c).length ≤ l.length := by
      have := congrArg List.length e
      rw [List.length_drop, List.length_append] at this
      omega
    have h128 : 128 ≤ c := by
      rcases Int.lt_or_le c 128 with hlt | hge
      · exfalso
        obtain ⟨b, hb, hbc⟩ := enc_low c hc hlt
        rw [hb, hd] at e
        injection e with e1 _
        rw [e1] at h
        omega
      · exact hge
    have hct : ((c.toNat : Nat) : Int) = c := Int.toNat_of_nonneg (by omega)
    refine ⟨c.toNat, (encodeRune c).length, h1.symm, by omega, ?_, by rw [hct]; exact hc, hlen.1, hle, fun j h2 h3 h4 => ?_⟩
    · unfold isChar at hc; omega
    · have hj : l[j] ∈ encodeRune c := by
        have h5 : (l.drop p)[j - p]'(by rw [List.length_drop]; omega) = l[j] := by
          rw [List.getElem_drop]
          congr 1
          omega
        rw [← h5]
        have h6 : (l.drop p)[j - p]'(by rw [List.length_drop]; omega) = (encodeRune c)[j - p]'(by omega) := by
          have := List.getElem_of_eq e (i := j - p) (by rw [List.length_drop]; omega)
          rw [this, List.getElem_append_left (by omega)]
        rw [h6]
        exact List.getElem_mem _
      exact enc_high c hc h128 _ hj

theorem valid_char (r : Nat) (h : isChar (r : Int)) : Utf8.valid (r : Int) = true := by
  rw [validRune_eq]
  unfold validRune
  exact decide_eq_true h

/-! ### IndexRune -/
theorem high_no (c : UInt8) (h : 128 ≤ c.toNat) (l : List UInt8) (hl : l = [34, 39] ∨ l = [39] ∨ l = []) : Lib.indexByte l c = -1 := by
  apply index_no
  intro hm
  have hc : ∀ d : UInt8, d.toNat < 128 → c ≠ d := fun d hd e => by rw [e] at h; omega
  rcases hl with rfl | rfl | rfl
  · simp only [List.mem_cons, List.not_mem_nil, or_false] at hm
    rcases hm with hm | hm
    · exact hc 34 (by decide) hm
    · exact hc 39 (by decide) hm
  · simp only [List.mem_cons, List.not_mem_nil, or_false] at hm
    exact hc 39 (by decide) hm
  · cases hm

set_option maxHeartbeats 4000000 in
set_option maxRecDepth 100000 in
/-- The replacement character is not among the four. -/
theorem rune_bad (w : World) : Calls Tryd.prog 62 #[.string four, .int .i32 65533] w fun e w' => e = .returned (.int .i64 (-1)) ∧ Below w.heap.size w w' := by
  have n0 : ∀ (w : World) (ty : TypeId), (Instr.next (.pointer (some ⟨w.heap.size, 0, none⟩)) true ty).run Tryd.prog (w.iter four 0) = .ok (.tuple #[.bool true, .int .i64 0, .int .i32 60]) (w.iter four 1) := fun w ty => run_next_ascii w four 0 ty (by decide) (by decide)
  have n1 : ∀ (w : World) (ty : TypeId), (Instr.next (.pointer (some ⟨w.heap.size, 0, none⟩)) true ty).run Tryd.prog (w.iter four 1) = .ok (.tuple #[.bool true, .int .i64 1, .int .i32 62]) (w.iter four 2) := fun w ty => run_next_ascii w four 1 ty (by decide) (by decide)
  have n2 : ∀ (w : World) (ty : TypeId), (Instr.next (.pointer (some ⟨w.heap.size, 0, none⟩)) true ty).run Tryd.prog (w.iter four 2) = .ok (.tuple #[.bool true, .int .i64 2, .int .i32 34]) (w.iter four 3) := fun w ty => run_next_ascii w four 2 ty (by decide) (by decide)
  have n3 : ∀ (w : World) (ty : TypeId), (Instr.next (.pointer (some ⟨w.heap.size, 0, none⟩)) true ty).run Tryd.prog (w.iter four 3) = .ok (.tuple #[.bool true, .int .i64 3, .int .i32 39]) (w.iter four 4) := fun w ty => run_next_ascii w four 3 ty (by decide) (by decide)
  have n4 : ∀ (w : World) (ty : TypeId), (Instr.next (.pointer (some ⟨w.heap.size, 0, none⟩)) true ty).run Tryd.prog (w.iter four 4) = .ok (.tuple #[.bool false]) (w.iter four 4) := fun w ty => run_next_end w four 4 ty (by decide)
  go_enter Tryd.func62, Tryd.ntmps62
  go_wp2_with fail
  go_loopg [5, 6] 4 (fun g _ _ wx => ∃ i : Nat, i + g = 4 ∧ wx = w.iter four i)
  case atStart => exact ⟨0, by omega, rfl⟩
  case round =>
    obtain ⟨i, hig, rfl⟩ := hrel
    match i, hig with
    | 0, hig =>
      obtain rfl : gk = 4 := by omega
      go_wp2_with fail
      go_roundg 3
      case measure => omega
      case rel => exact ⟨1, by omega, rfl⟩
    | 1, hig =>
      obtain rfl : gk = 3 := by omega
      go_wp2_with fail
      go_roundg 2
      case measure => omega
      case rel => exact ⟨2, by omega, rfl⟩
    | 2, hig =>
      obtain rfl : gk = 2 := by omega
      go_wp2_with fail
      go_roundg 1
      case measure => omega
      case rel => exact ⟨3, by omega, rfl⟩
    | 3, hig =>
      obtain rfl : gk = 1 := by omega
      go_wp2_with fail
      go_roundg 0
      case measure => omega
      case rel => exact ⟨4, by omega, rfl⟩
    | 4, hig =>
      go_wp2_with fail
      go_ret
      exact ⟨rfl, (Below.refl _ w).alloc (Nat.le_refl _) _⟩
    | i + 5, hig => exact absurd hig (by omega)

theorem by_list (e : ByteArray) (l : List UInt8) (h : e.data.toList = l) : e = S l := by rw [← h, S_list]
theorem size_two {e : ByteArray} (h : e.size = 2) : ∃ a b, e = S [a, b] := by
  rw [← size_list] at h
  match hl : e.data.toList, h with
  | [a, b], _ => exact ⟨a, b, by_list e _ hl⟩
theorem size_three {e : ByteArray} (h : e.size = 3) : ∃ a b c, e = S [a, b, c] := by
  rw [← size_list] at h
  match hl : e.data.toList, h with
  | [a, b, c], _ => exact ⟨a, b, c, by_list e _ hl⟩
theorem size_four {e : ByteArray} (h : e.size = 4) : ∃ a b c d, e = S [a, b, c, d] := by
  rw [← size_list] at h
  match hl : e.data.toList, h with
  | [a, b, c, d], _ => exact ⟨a, b, c, d, by_list e _ hl⟩

theorem u_int32 : (Tryd.prog.underlying 21).isSome = true := by kernel_rfl
theorem cut1 : four.extract 2 4 = S [34, 39] := by decide +kernel
theorem cut2 : four.extract 3 4 = S [39] := by decide +kernel
theorem cut3 : four.extract 4 4 = S [] := by decide +kernel

set_option maxHeartbeats 4000000 in
set_option maxRecDepth 100000 in
/-- A rune above 127 is not among the four. -/
theorem rune_high (r : Nat) (h0 : 128 ≤ r) (h1 : r ≤ 1114111) (hc : isChar (r : Int)) (hne : r ≠ 65533) (w : World) :
    Calls Tryd.prog 62 #[.string four, .int .i32 (r : Int)] w fun e w' => e = .returned (.int .i64 (-1)) ∧ Below w.heap.size w w' := by
  obtain ⟨e1, e2, e3⟩ := encode_facts (r : Int) (valid_char r hc) (by omega)
  have hv := Tryd.utf8_ValidRune (r : Int) w
  have hvr : Lib.validRune (r : Int) = true := by
    have := valid_char r hc
    rw [validRune_eq] at this
    exact this
  rw [hvr] at hv
  have hne' : ((r : Int) == 65533) = false := by simp; omega
  have hi0 : (0 : Int) ≤ (r : Int) := by omega
  have hi1 : (128 : Int) ≤ (r : Int) := by omega
  have hcv := fun w => run_convert_int_string (P := Tryd.prog) w 21 9 .i32 (r : Int) u_int32 Tryd.underlying9
  generalize Utf8.encode (r : Int) = E at e1 e2 e3 hcv
  clear hvr hc h0 h1 hne
  have hE : (∃ a b, E = S [a, b] ∧ 128 ≤ b.toNat) ∨ (∃ a b c, E = S [a, b, c] ∧ 128 ≤ c.toNat) ∨ (∃ a b c d, E = S [a, b, c, d] ∧ 128 ≤ d.toNat) := by
    rcases (by omega : E.size = 2 ∨ E.size = 3 ∨ E.size = 4) with h | h | h
    · obtain ⟨a, b, rfl⟩ := size_two h
      exact .inl ⟨a, b, rfl, e3 (by show (1 : Nat) < 2; omega)⟩
    · obtain ⟨a, b, c, rfl⟩ := size_three h
      exact .inr (.inl ⟨a, b, c, rfl, e3 (by show (2 : Nat) < 3; omega)⟩)
    · obtain ⟨a, b, c, d, rfl⟩ := size_four h
      exact .inr (.inr ⟨a, b, c, d, rfl, e3 (by show (3 : Nat) < 4; omega)⟩)
  clear e1 e2 e3
  generalize (r : Int) = R at *
  rcases hE with ⟨a, b, rfl, hb⟩ | ⟨a, b, c, rfl, hb⟩ | ⟨a, b, c, d, rfl, hb⟩
  · have hx : ∀ w, Calls Tryd.prog 76 #[.string (S [34, 39]), .int .u8 (b.toNat : Int)] w fun e w' => e = .returned (.int .i64 (-1)) ∧ w' = w := fun w => by
      have := Tryd.strings_IndexByte (S [34, 39]) (b.toNat : Int) w
      rw [list_S, show ((b.toNat : Int)).toNat.toUInt8 = b by simp, high_no b hb [34, 39] (by simp)] at this
      exact this
    have hl : (128 : Int) ≤ (b.toNat : Int) := by omega
    go_enter Tryd.func62, Tryd.ntmps62
    go_wp2_with (first | (go_at_call 77; refine hv.mono ?_; rintro e w' ⟨rfl, rfl⟩))
    go_step3
    go_wp2_with fail
    go_loop [9, 10] (fun i f => i = .int .i64 1 ∧ f = .int .i64 0) (fun _ _ => 0)
    case atStart => exact ⟨rfl, rfl⟩
    case round =>
      obtain ⟨rfl, rfl⟩ := hrel
      go_wp2_with fail
      go_step3
      have c1 := cut1
      have z1 : four.size = 4 := rfl
      have v1 : IntKind.i64.wrap 2 = 2 := by decide
      have n1 : (((four[1]'(by decide)).toNat : Int) != (((S [a, b])[1]'(by show 1 < 2; omega)).toNat : Int)) = true := by
        show ((((62 : UInt8)).toNat : Int) != (b.toNat : Int)) = true
        have : (((62 : UInt8)).toNat : Int) = 62 := rfl
        rw [this]
        simp
        omega
      go_wp2_with fail
      go_quiet (fail)
      rename_i nq _
      have hD := Lib.hid (below_drewN (Below.refl w'.heap.size w') nq)
      generalize w'.drewN nq = wd at hD
      go_wp2_with fail
      go_quiet ((go_at_call 76; exact Calls.quiet_of_same (hx _)))
      go_wp2_with fail
      rw [Exit.noGoto_ret]
      go_wp2_with fail
      rw [Exit.noGoto_ret]
      go_wp2_with fail
      go_ret
      exact ⟨rfl, below_drewN hD.out _⟩
  · have hx : ∀ w, Calls Tryd.prog 76 #[.string (S [39]), .int .u8 (c.toNat : Int)] w fun e w' => e = .returned (.int .i64 (-1)) ∧ w' = w := fun w => by
      have := Tryd.strings_IndexByte (S [39]) (c.toNat : Int) w
      rw [list_S, show ((c.toNat : Int)).toNat.toUInt8 = c by simp, high_no c hb [39] (by simp)] at this
      exact this
    have hl : (128 : Int) ≤ (c.toNat : Int) := by omega
    go_enter Tryd.func62, Tryd.ntmps62
    go_wp2_with (first | (go_at_call 77; refine hv.mono ?_; rintro e w' ⟨rfl, rfl⟩))
    go_step3
    go_wp2_with fail
    go_loop [9, 10] (fun i f => i = .int .i64 2 ∧ f = .int .i64 0) (fun _ _ => 0)
    case atStart => exact ⟨rfl, rfl⟩
    case round =>
      obtain ⟨rfl, rfl⟩ := hrel
      go_wp2_with fail
      go_step3
      have c2 := cut2
      have z2 : four.size = 4 := rfl
      have v2 : IntKind.i64.wrap 3 = 3 := by decide
      have n2 : (((four[2]'(by decide)).toNat : Int) != (((S [a, b, c])[2]'(by show 2 < 3; omega)).toNat : Int)) = true := by
        show ((((34 : UInt8)).toNat : Int) != (c.toNat : Int)) = true
        have : (((34 : UInt8)).toNat : Int) = 34 := rfl
        rw [this]
        simp
        omega
      go_wp2_with fail
      go_quiet (fail)
      rename_i nq _
      have hD := Lib.hid (below_drewN (Below.refl w'.heap.size w') nq)
      generalize w'.drewN nq = wd at hD
      go_wp2_with fail
      go_quiet ((go_at_call 76; exact Calls.quiet_of_same (hx _)))
      go_wp2_with fail
      rw [Exit.noGoto_ret]
      go_wp2_with fail
      rw [Exit.noGoto_ret]
      go_wp2_with fail
      go_ret
      exact ⟨rfl, below_drewN hD.out _⟩
  · have hx : ∀ w, Calls Tryd.prog 76 #[.string (S []), .int .u8 (d.toNat : Int)] w fun e w' => e = .returned (.int .i64 (-1)) ∧ w' = w := fun w => by
      have := Tryd.strings_IndexByte (S []) (d.toNat : Int) w
      rw [list_S, show ((d.toNat : Int)).toNat.toUInt8 = d by simp, high_no d hb [] (by simp)] at this
      exact this
    have hl : (128 : Int) ≤ (d.toNat : Int) := by omega
    go_enter Tryd.func62, Tryd.ntmps62
    go_wp2_with (first | (go_at_call 77; refine hv.mono ?_; rintro e w' ⟨rfl, rfl⟩))
    go_step3
    go_wp2_with fail
    go_loop [9, 10] (fun i f => i = .int .i64 3 ∧ f = .int .i64 0) (fun _ _ => 0)
    case atStart => exact ⟨rfl, rfl⟩
    case round =>
      obtain ⟨rfl, rfl⟩ := hrel
      go_wp2_with fail
      go_step3
      have c3 := cut3
      have z3 : four.size = 4 := rfl
      have v3 : IntKind.i64.wrap 4 = 4 := by decide
      have n3 : (((four[3]'(by decide)).toNat : Int) != (((S [a, b, c, d])[3]'(by show 3 < 4; omega)).toNat : Int)) = true := by
        show ((((39 : UInt8)).toNat : Int) != (d.toNat : Int)) = true
        have : (((39 : UInt8)).toNat : Int) = 39 := rfl
        rw [this]
        simp
        omega
      go_wp2_with fail
      go_quiet (fail)
      rename_i nq _
      have hD := Lib.hid (below_drewN (Below.refl w'.heap.size w') nq)
      generalize w'.drewN nq = wd at hD
      go_wp2_with fail
      go_quiet ((go_at_call 76; exact Calls.quiet_of_same (hx _)))
      go_wp2_with fail
      rw [Exit.noGoto_ret]
      go_wp2_with fail
      rw [Exit.noGoto_ret]
      go_wp2_with fail
      go_ret
      exact ⟨rfl, below_drewN hD.out _⟩
end Go.Proofs.YtamenccdnobjkaaDoor.Crf
