/-
  Contract of first of package jstext: what a text tells first, and how many octets of it tell that.
-/
import Derived.Test.YtppclkecfggkiaaDoorJstFirst
import Derived.Test.YtppclkecfggkiaaDoorPctCode
namespace Go.Proofs.YtppclkecfggkiaaDoor.Jst
open Go.RowKit Go.Proofs.YtppclkecfggkiaaDoor.Oct Go.Proofs.YtppclkecfggkiaaDoor.Utf
open Go.Proofs.YtppclkecfggkiaaDoor.Pct (cutFrom at_S)
open Go.Lib (encodeRune)

abbrev endsL : List UInt8 := [34, 39, 10, 13]
theorem ends_t : ∀ k : Fin 256, decide (0 ≤ Lib.indexByte endsL (UInt8.ofNat k.val)) = decide (UInt8.ofNat k.val = 10 ∨ UInt8.ofNat k.val = 13 ∨ UInt8.ofNat k.val = 34 ∨ UInt8.ofNat k.val = 39) := by decide +kernel
theorem ends_d (d : UInt8) : decide (0 ≤ Lib.indexByte endsL d) = decide (d = 10 ∨ d = 13 ∨ d = 34 ∨ d = 39) := by
  have h := ends_t ⟨d.toNat, d.toNat_lt⟩
  simpa using h

set_option maxRecDepth 100000 in
theorem first_other (c : UInt8) (t : List UInt8) (hc : c ≠ 92) (hn : t.length ≤ 140737488355328) (w : World) :
    Calls Tryd.prog 37 #[.string (S (c :: t))] w fun e w' => e = .returned (.tuple #[.string (S (headJ (c :: t)).1), .int .i64 ((headJ (c :: t)).2 : Int)]) ∧ Below w.heap.size w w' := by
  have hz : ((S (c :: t)).size : Int) = (t.length : Int) + 1 := by rw [size_S]; rfl
  have h0 : (S (c :: t))[0]'(by rw [size_S]; simp) = c := rfl
  have hx : (S (c :: t)).extract 0 1 = S [c] := by rw [cutOf]; rfl
  have hlu : (t.length : Int) ≤ 140737488355328 := by omega
  have hi := fun w => index_c endsL c w
  have he := ends_d c
  generalize Lib.indexByte endsL c = q at hi he
  rw [headJ_cons, if_neg hc]
  have hne : ((c.toNat : Int) != 92) = true := by
    rw [bne_iff_ne]
    intro e
    exact hc (UInt8.toNat_inj.1 (by show c.toNat = 92; omega))
  by_cases hv : c = 10 ∨ c = 13 ∨ c = 34 ∨ c = 39
  · rw [if_pos hv]
    have hq : 0 ≤ q := by rw [decide_eq_true hv] at he; exact of_decide_eq_true he
    clear he hv hc hx hn
    go_enter Tryd.func37, Tryd.ntmps37
    go_wp2_with (go_at_call 33; refine (hi _).mono ?_; rintro e w1 ⟨rfl, rfl⟩)
    go_ret2
    exact ⟨rfl, Below.refl _ _⟩
  · rw [if_neg hv]
    have hq : ¬ (0 ≤ q) := by rw [decide_eq_false hv] at he; exact of_decide_eq_false he
    clear he hv hc hn
    go_enter Tryd.func37, Tryd.ntmps37
    go_wp2_with (go_at_call 33; refine (hi _).mono ?_; rintro e w1 ⟨rfl, rfl⟩)
    go_ret2
    exact ⟨rfl, Below.refl _ _⟩

theorem mark_x : (S [92, 120] : ByteArray) = ⟨#[92, 120]⟩ := rfl
theorem mark_u : (S [92, 117] : ByteArray) = ⟨#[92, 117]⟩ := rfl
theorem numX_c (l : List UInt8) (hl : l.length ≤ 140737488355328) (w : World) :
    Calls Tryd.prog 46 #[.string (S l), .string ⟨#[92, 120]⟩, .int .i64 2] w fun e w' => e = .returned (.tuple #[.int .i64 (((numL l 120 2).getD 0 : Nat) : Int), .bool (numL l 120 2).isSome]) ∧ Below w.heap.size w w' :=
  number_c l hl 120 2 (by decide) (by decide) w
theorem numU_c (l : List UInt8) (hl : l.length ≤ 140737488355328) (w : World) :
    Calls Tryd.prog 46 #[.string (S l), .string ⟨#[92, 117]⟩, .int .i64 4] w fun e w' => e = .returned (.tuple #[.int .i64 (((uniAt l).getD 0 : Nat) : Int), .bool (uniAt l).isSome]) ∧ Below w.heap.size w w' := by
  have h := number_c l hl 117 4 (by decide) (by decide) w
  rw [num_u] at h
  exact h
theorem four_lt {l : List UInt8} {n : Nat} (h : four l = some n) : n < 65536 := by
  match l, h with
  | a :: b :: c :: d :: t, h =>
    have h' : (if Pct.two a b = true ∧ Pct.two c d = true then some ((((Pct.hc a).toNat * 16 + (Pct.hc b).toNat) * 16 + (Pct.hc c).toNat) * 16 + (Pct.hc d).toNat) else none) = some n := h
    by_cases h2 : Pct.two a b = true ∧ Pct.two c d = true
    · rw [if_pos h2] at h'
      have e := Option.some.inj h'
      have ha := Pct.hc_le a
      have hb := Pct.hc_le b
      have hc' := Pct.hc_le c
      have hd := Pct.hc_le d
      omega
    · rw [if_neg h2] at h'
      cases h'
theorem uni_lt {l : List UInt8} {n : Nat} (h : uniAt l = some n) : n < 65536 := by
  unfold uniAt at h
  split at h
  · exact four_lt h
  · cases h
theorem index_sign (w : World) : Calls Tryd.prog 33 #[.string (S endsL), .int .u8 92] w fun e w' => e = .returned (.int .i64 (-1)) ∧ w' = w := index_c endsL 92 w

set_option maxRecDepth 100000 in
theorem first_x (t : List UInt8) (n : Nat) (h : numL (92 :: t) 120 2 = some n) (hn : t.length ≤ 140737488355327) (w : World) :
    Calls Tryd.prog 37 #[.string (S (92 :: t))] w fun e w' => e = .returned (.tuple #[.string (S (lone n)), .int .i64 4]) ∧ Below w.heap.size w w' := by
  have hz : ((S (92 :: t)).size : Int) = (t.length : Int) + 1 := by rw [size_S]; rfl
  have h0p : 0 < (S (92 :: t)).size := by rw [size_S]; simp
  have h0 : (S (92 :: t))[0]'h0p = 92 := rfl
  have hlu : (t.length : Int) ≤ 140737488355328 := by omega
  have hi := index_sign
  have hx := fun w => numX_c (92 :: t) (by simp; omega) w
  rw [h] at hx
  have hx' : ∀ w, Calls Tryd.prog 46 #[.string (S (92 :: t)), .string ⟨#[92, 120]⟩, .int .i64 2] w fun e w' => e = .returned (.tuple #[.int .i64 (n : Int), .bool true]) ∧ Below w.heap.size w w' := hx
  have hch := Lib.hid (fun w => char_c n (by have := (head_x t n h).2; omega) w)
  clear hx h hn
  generalize S (lone n) = T at hch ⊢
  generalize (n : Int) = N at hx' hch
  generalize S (92 :: t) = L at *
  go_enter Tryd.func37, Tryd.ntmps37
  go_wp2_with (first
    | (go_at_call 33; refine (hi _).mono ?_; rintro e w1 ⟨rfl, rfl⟩)
    | (go_at_call 46; refine (hx' _).mono ?_; rintro e w2 ⟨rfl, hb2⟩; have HB2 := Lib.hid hb2; clear hb2)
    | (go_at_call 47; refine (hch.out _).mono ?_; rintro e w3 ⟨rfl, hb3⟩; have HB3 := Lib.hid hb3; clear hb3))
  go_ret2
  exact ⟨rfl, HB2.out.trans (HB3.out.mono HB2.out.size)⟩

set_option maxRecDepth 100000 in
theorem first_s (t : List UInt8) (h : numL (92 :: t) 120 2 = none) (hu : uniAt (92 :: t) = none) (hn : t.length ≤ 140737488355327) (w : World) :
    Calls Tryd.prog 37 #[.string (S (92 :: t))] w fun e w' => e = .returned (.tuple #[.string (S (slashS t).1), .int .i64 ((slashS t).2 : Int)]) ∧ Below w.heap.size w w' := by
  have hz : ((S (92 :: t)).size : Int) = (t.length : Int) + 1 := by rw [size_S]; rfl
  have h0p : 0 < (S (92 :: t)).size := by rw [size_S]; simp
  have h0 : (S (92 :: t))[0]'h0p = 92 := rfl
  have hlu : (t.length : Int) ≤ 140737488355328 := by omega
  have hi := index_sign
  have hx := fun w => numX_c (92 :: t) (by simp; omega) w
  rw [h] at hx
  have hx' : ∀ w, Calls Tryd.prog 46 #[.string (S (92 :: t)), .string ⟨#[92, 120]⟩, .int .i64 2] w fun e w' => e = .returned (.tuple #[.int .i64 0, .bool false]) ∧ Below w.heap.size w w' := hx
  have hy := fun w => numU_c (92 :: t) (by simp; omega) w
  rw [hu] at hy
  have hy' : ∀ w, Calls Tryd.prog 46 #[.string (S (92 :: t)), .string ⟨#[92, 117]⟩, .int .i64 4] w fun e w' => e = .returned (.tuple #[.int .i64 0, .bool false]) ∧ Below w.heap.size w w' := hy
  have hs := Lib.hid (fun w => short_c t (by omega) w)
  clear hx hy h hu hn
  generalize S (slashS t).1 = T at hs ⊢
  generalize ((slashS t).2 : Int) = N at hs ⊢
  generalize S (92 :: t) = L at *
  go_enter Tryd.func37, Tryd.ntmps37
  go_wp2_with (first
    | (go_at_call 33; refine (hi _).mono ?_; rintro e w1 ⟨rfl, rfl⟩)
    | (go_at_call 46; have _ := HB2; refine (hy' _).mono ?_; rintro e w3 ⟨rfl, hb3⟩; have HB3 := Lib.hid (HB2.out.trans (hb3.mono HB2.out.size)); clear hb3)
    | (go_at_call 46; refine (hx' _).mono ?_; rintro e w2 ⟨rfl, hb2⟩; have HB2 := Lib.hid hb2; clear hb2)
    | (go_at_call 48; refine (hs.out _).mono ?_; rintro e w4 ⟨rfl, hb4⟩; have HB4 := Lib.hid (HB3.out.trans (hb4.mono HB3.out.size)); clear hb4))
  go_ret2
  exact ⟨rfl, HB4.out⟩

set_option maxHeartbeats 1000000 in
set_option maxRecDepth 100000 in
/-- A unit alone. -/
theorem first_u (t : List UInt8) (n : Nat) (h : numL (92 :: t) 120 2 = none) (hu : uniAt (92 :: t) = some n)
    (hp : ∀ m, uniAt ((92 :: t).drop 6) = some m → ¬ ((55296 ≤ n ∧ n < 56320) ∧ (56320 ≤ m ∧ m < 57344))) (hn : t.length ≤ 140737488355327) (w : World) :
    Calls Tryd.prog 37 #[.string (S (92 :: t))] w fun e w' => e = .returned (.tuple #[.string (S (lone n)), .int .i64 6]) ∧ Below w.heap.size w w' := by
  have h6 := uni_len hu
  have hn16 := uni_lt hu
  have hz : ((S (92 :: t)).size : Int) = (t.length : Int) + 1 := by rw [size_S]; rfl
  have h0p : 0 < (S (92 :: t)).size := by rw [size_S]; simp
  have h0 : (S (92 :: t))[0]'h0p = 92 := rfl
  have hlu : (t.length : Int) ≤ 140737488355328 := by omega
  have hlo : (6 : Int) ≤ (t.length : Int) + 1 := by rw [List.length_cons] at h6; omega
  have hi := index_sign
  have hx := fun w => numX_c (92 :: t) (by simp; omega) w
  rw [h] at hx
  have hx' : ∀ w, Calls Tryd.prog 46 #[.string (S (92 :: t)), .string ⟨#[92, 120]⟩, .int .i64 2] w fun e w' => e = .returned (.tuple #[.int .i64 0, .bool false]) ∧ Below w.heap.size w w' := hx
  have hy := fun w => numU_c (92 :: t) (by simp; omega) w
  rw [hu] at hy
  have hy' : ∀ w, Calls Tryd.prog 46 #[.string (S (92 :: t)), .string ⟨#[92, 117]⟩, .int .i64 4] w fun e w' => e = .returned (.tuple #[.int .i64 (n : Int), .bool true]) ∧ Below w.heap.size w w' := hy
  have hd := fun w => numU_c ((92 :: t).drop 6) (by rw [List.length_drop, List.length_cons]; omega) w
  have hf : (S (92 :: t)).extract 6 (S (92 :: t)).size = S ((92 :: t).drop 6) := by
    rw [cutFrom, list_S]
  have hch := Lib.hid (fun w => char_c n (by omega) w)
  have hf1 := fun w => half_c n 55296 (by decide) w
  clear hx hy h hu hn h6
  generalize S (lone n) = T at hch ⊢
  cases hq : uniAt ((92 :: t).drop 6) with
  | none =>
    rw [hq, ← hf] at hd
    have hd' : ∀ w, Calls Tryd.prog 46 #[.string ((S (92 :: t)).extract 6 (S (92 :: t)).size), .string ⟨#[92, 117]⟩, .int .i64 4] w fun e w' => e = .returned (.tuple #[.int .i64 0, .bool false]) ∧ Below w.heap.size w w' := hd
    clear hd hp hq hf hf1 hn16
    generalize (n : Int) = N at *
    generalize S (92 :: t) = L at *
    go_enter Tryd.func37, Tryd.ntmps37
    go_wp2_with (first
      | (go_at_call 33; refine (hi _).mono ?_; rintro e w1 ⟨rfl, rfl⟩)
      | (go_at_call 46; have _ := HB3; refine (hd' _).mono ?_; rintro e w4 ⟨rfl, hb4⟩; have HB4 := Lib.hid (HB3.out.trans (hb4.mono HB3.out.size)); clear hb4)
      | (go_at_call 46; have _ := HB2; refine (hy' _).mono ?_; rintro e w3 ⟨rfl, hb3⟩; have HB3 := Lib.hid (HB2.out.trans (hb3.mono HB2.out.size)); clear hb3)
      | (go_at_call 46; refine (hx' _).mono ?_; rintro e w2 ⟨rfl, hb2⟩; have HB2 := Lib.hid hb2; clear hb2)
      | (go_at_call 47; refine (hch.out _).mono ?_; rintro e w5 ⟨rfl, hb5⟩; have HB5 := Lib.hid (HB4.out.trans (hb5.mono HB4.out.size)); clear hb5))
    go_ret2
    exact ⟨rfl, HB5.out⟩
  | some m =>
    rw [hq, ← hf] at hd
    have hd' : ∀ w, Calls Tryd.prog 46 #[.string ((S (92 :: t)).extract 6 (S (92 :: t)).size), .string ⟨#[92, 117]⟩, .int .i64 4] w fun e w' => e = .returned (.tuple #[.int .i64 (m : Int), .bool true]) ∧ Below w.heap.size w w' := hd
    have hf2 := fun w => half_c m 56320 (by decide) w
    have hp' := hp m hq
    clear hd hp hq hf hn16
    have hor : decide (55296 ≤ n ∧ n < 55296 + 1024) = false ∨ (decide (55296 ≤ n ∧ n < 55296 + 1024) = true ∧ decide (56320 ≤ m ∧ m < 56320 + 1024) = false) := by
      by_cases h1 : 55296 ≤ n ∧ n < 55296 + 1024
      · refine .inr ⟨decide_eq_true h1, decide_eq_false ?_⟩
        intro h2
        exact hp' ⟨h1, h2⟩
      · exact .inl (decide_eq_false h1)
    generalize decide (55296 ≤ n ∧ n < 55296 + 1024) = b1 at hf1 hor
    generalize decide (56320 ≤ m ∧ m < 56320 + 1024) = b2 at hf2 hor
    have hf1' : ∀ w, Calls Tryd.prog 49 #[.int .i64 (n : Int), .int .i64 55296] w fun e w' => e = .returned (.bool b1) ∧ w' = w := hf1
    have hf2' : ∀ w, Calls Tryd.prog 49 #[.int .i64 (m : Int), .int .i64 56320] w fun e w' => e = .returned (.bool b2) ∧ w' = w := hf2
    clear hf1 hf2 hp'
    generalize (n : Int) = N at hch hf1' hy'
    generalize (m : Int) = M at hd' hf2'
    rcases hor with rfl | ⟨rfl, rfl⟩
    · generalize S (92 :: t) = L at *
      go_enter Tryd.func37, Tryd.ntmps37
      go_wp2_with (first
        | (go_at_call 33; refine (hi _).mono ?_; rintro e w1 ⟨rfl, rfl⟩)
        | (go_at_call 46; have _ := HB3; refine (hd' _).mono ?_; rintro e w4 ⟨rfl, hb4⟩; have HB4 := Lib.hid (HB3.out.trans (hb4.mono HB3.out.size)); clear hb4)
        | (go_at_call 46; have _ := HB2; refine (hy' _).mono ?_; rintro e w3 ⟨rfl, hb3⟩; have HB3 := Lib.hid (HB2.out.trans (hb3.mono HB2.out.size)); clear hb3)
        | (go_at_call 46; refine (hx' _).mono ?_; rintro e w2 ⟨rfl, hb2⟩; have HB2 := Lib.hid hb2; clear hb2)
        | (go_at_call 49; refine (hf1' _).mono ?_; rintro e w5 ⟨rfl, rfl⟩)
        | (go_at_call 47; refine (hch.out _).mono ?_; rintro e w5 ⟨rfl, hb5⟩; have HB5 := Lib.hid (HB4.out.trans (hb5.mono HB4.out.size)); clear hb5))
      go_ret2
      exact ⟨rfl, HB5.out⟩
    · generalize S (92 :: t) = L at *
      go_enter Tryd.func37, Tryd.ntmps37
      go_wp2_with (first
        | (go_at_call 33; refine (hi _).mono ?_; rintro e w1 ⟨rfl, rfl⟩)
        | (go_at_call 46; have _ := HB3; refine (hd' _).mono ?_; rintro e w4 ⟨rfl, hb4⟩; have HB4 := Lib.hid (HB3.out.trans (hb4.mono HB3.out.size)); clear hb4)
        | (go_at_call 46; have _ := HB2; refine (hy' _).mono ?_; rintro e w3 ⟨rfl, hb3⟩; have HB3 := Lib.hid (HB2.out.trans (hb3.mono HB2.out.size)); clear hb3)
        | (go_at_call 46; refine (hx' _).mono ?_; rintro e w2 ⟨rfl, hb2⟩; have HB2 := Lib.hid hb2; clear hb2)
        | (go_at_call 49; have _ := HF1; refine (hf2' _).mono ?_; rintro e w5 ⟨rfl, rfl⟩)
        | (go_at_call 49; refine (hf1' _).mono ?_; rintro e w5 ⟨rfl, rfl⟩; have HF1 := Lib.hid True.intro)
        | (go_at_call 47; refine (hch.out _).mono ?_; rintro e w5 ⟨rfl, hb5⟩; have HB5 := Lib.hid (HB4.out.trans (hb5.mono HB4.out.size)); clear hb5))
      go_ret2
      exact ⟨rfl, HB5.out⟩

set_option maxHeartbeats 1000000 in
set_option maxRecDepth 100000 in
/-- A pair. -/
theorem first_p (t : List UInt8) (n m : Nat) (h : numL (92 :: t) 120 2 = none) (hu : uniAt (92 :: t) = some n) (hm : uniAt ((92 :: t).drop 6) = some m)
    (hp : (55296 ≤ n ∧ n < 56320) ∧ (56320 ≤ m ∧ m < 57344)) (hn : t.length ≤ 140737488355327) (w : World) :
    Calls Tryd.prog 37 #[.string (S (92 :: t))] w fun e w' => e = .returned (.tuple #[.string (S (lone (65536 + (n - 55296) * 1024 + (m - 56320)))), .int .i64 12]) ∧ Below w.heap.size w w' := by
  have h6 := uni_len hu
  have hz : ((S (92 :: t)).size : Int) = (t.length : Int) + 1 := by rw [size_S]; rfl
  have h0p : 0 < (S (92 :: t)).size := by rw [size_S]; simp
  have h0 : (S (92 :: t))[0]'h0p = 92 := rfl
  have hlu : (t.length : Int) ≤ 140737488355328 := by omega
  have hlo : (6 : Int) ≤ (t.length : Int) + 1 := by rw [List.length_cons] at h6; omega
  have hi := index_sign
  have hx := fun w => numX_c (92 :: t) (by simp; omega) w
  rw [h] at hx
  have hx' : ∀ w, Calls Tryd.prog 46 #[.string (S (92 :: t)), .string ⟨#[92, 120]⟩, .int .i64 2] w fun e w' => e = .returned (.tuple #[.int .i64 0, .bool false]) ∧ Below w.heap.size w w' := hx
  have hy := fun w => numU_c (92 :: t) (by simp; omega) w
  rw [hu] at hy
  have hy' : ∀ w, Calls Tryd.prog 46 #[.string (S (92 :: t)), .string ⟨#[92, 117]⟩, .int .i64 4] w fun e w' => e = .returned (.tuple #[.int .i64 (n : Int), .bool true]) ∧ Below w.heap.size w w' := hy
  have hd := fun w => numU_c ((92 :: t).drop 6) (by rw [List.length_drop, List.length_cons]; omega) w
  have hf : (S (92 :: t)).extract 6 (S (92 :: t)).size = S ((92 :: t).drop 6) := by
    rw [cutFrom, list_S]
  rw [hm, ← hf] at hd
  have hd' : ∀ w, Calls Tryd.prog 46 #[.string ((S (92 :: t)).extract 6 (S (92 :: t)).size), .string ⟨#[92, 117]⟩, .int .i64 4] w fun e w' => e = .returned (.tuple #[.int .i64 (m : Int), .bool true]) ∧ Below w.heap.size w w' := hd
  have hf1 := fun w => half_c n 55296 (by decide) w
  have hf2 := fun w => half_c m 56320 (by decide) w
  have e1 : decide (55296 ≤ n ∧ n < 55296 + 1024) = true := decide_eq_true hp.1
  have e2 : decide (56320 ≤ m ∧ m < 56320 + 1024) = true := decide_eq_true hp.2
  rw [e1] at hf1
  rw [e2] at hf2
  have hf1' : ∀ w, Calls Tryd.prog 49 #[.int .i64 (n : Int), .int .i64 55296] w fun e w' => e = .returned (.bool true) ∧ w' = w := hf1
  have hf2' : ∀ w, Calls Tryd.prog 49 #[.int .i64 (m : Int), .int .i64 56320] w fun e w' => e = .returned (.bool true) ∧ w' = w := hf2
  have hch := Lib.hid (fun (x : Int) (hxx : x = ((65536 + (n - 55296) * 1024 + (m - 56320) : Nat) : Int)) (w : World) => (hxx ▸ char_c (65536 + (n - 55296) * 1024 + (m - 56320)) (by omega) w : Calls Tryd.prog 47 #[.int .i64 x] w fun e w' => e = .returned (.string (S (lone (65536 + (n - 55296) * 1024 + (m - 56320))))) ∧ Below w.heap.size w w'))
  have hn0 : (55296 : Int) ≤ (n : Int) := by omega
  have hn1 : (n : Int) < 56320 := by omega
  have hm0 : (56320 : Int) ≤ (m : Int) := by omega
  have hm1 : (m : Int) < 57344 := by omega
  have he : Hid (((65536 + (n - 55296) * 1024 + (m - 56320) : Nat) : Int) = 65536 + ((n : Int) - 55296) * 1024 + (m : Int) - 56320) := by show _ = _; omega
  generalize S (lone (65536 + (n - 55296) * 1024 + (m - 56320))) = T at hch ⊢
  generalize ((65536 + (n - 55296) * 1024 + (m - 56320) : Nat) : Int) = X at hch he
  clear hx hy h hu hn h6 hd hf hf1 hf2 e1 e2 hp hm
  generalize (n : Int) = N at *
  generalize (m : Int) = M at *
  generalize S (92 :: t) = L at *
  go_enter Tryd.func37, Tryd.ntmps37
  go_wp2_with (first
    | (go_at_call 33; refine (hi _).mono ?_; rintro e w1 ⟨rfl, rfl⟩)
    | (go_at_call 46; have _ := HB3; refine (hd' _).mono ?_; rintro e w4 ⟨rfl, hb4⟩; have HB4 := Lib.hid (HB3.out.trans (hb4.mono HB3.out.size)); clear hb4)
    | (go_at_call 46; have _ := HB2; refine (hy' _).mono ?_; rintro e w3 ⟨rfl, hb3⟩; have HB3 := Lib.hid (HB2.out.trans (hb3.mono HB2.out.size)); clear hb3)
    | (go_at_call 46; refine (hx' _).mono ?_; rintro e w2 ⟨rfl, hb2⟩; have HB2 := Lib.hid hb2; clear hb2)
    | (go_at_call 49; have _ := HF1; refine (hf2' _).mono ?_; rintro e w5 ⟨rfl, rfl⟩)
    | (go_at_call 49; refine (hf1' _).mono ?_; rintro e w5 ⟨rfl, rfl⟩; have HF1 := Lib.hid True.intro)
    | (go_at_call 47; refine (hch.out _ (by have := he.out; omega) _).mono ?_; rintro e w5 ⟨rfl, hb5⟩; have HB5 := Lib.hid (HB4.out.trans (hb5.mono HB4.out.size)); clear hb5))
  go_ret2
  exact ⟨rfl, HB5.out⟩

theorem first_c (l : List UInt8) (hl : l ≠ []) (hn : l.length ≤ 140737488355328) (w : World) :
    Calls Tryd.prog 37 #[.string (S l)] w fun e w' => e = .returned (.tuple #[.string (S (headJ l).1), .int .i64 ((headJ l).2 : Int)]) ∧ Below w.heap.size w w' := by
  match l, hl, hn with
  | c :: t, _, hn =>
    rw [List.length_cons] at hn
    by_cases hc : c = 92
    · subst hc
      cases hx : numL (92 :: t) 120 2 with
      | some n =>
        rw [(head_x t n hx).1]
        exact first_x t n hx (by omega) w
      | none =>
        rw [head_u t hx]
        cases hu : uniAt (92 :: t) with
        | none => exact first_s t hx hu (by omega) w
        | some n =>
          cases hm : uniAt ((92 :: t).drop 6) with
          | none =>
            simp only
            exact first_u t n hx hu (fun m h => by rw [hm] at h; cases h) (by omega) w
          | some m =>
            simp only
            by_cases hp : (55296 ≤ n ∧ n < 56320) ∧ (56320 ≤ m ∧ m < 57344)
            · rw [if_pos hp]
              have h := first_p t n m hx hu hm hp (by omega) w
              generalize 65536 + (n - 55296) * 1024 + (m - 56320) = x at h ⊢
              exact h
            · rw [if_neg hp]
              exact first_u t n hx hu (fun m' h => by rw [hm] at h; cases h; exact hp) (by omega) w
    · exact first_other c t hc (by omega) w
/-- What is told is short. -/
theorem headJ_told (l : List UInt8) : (headJ l).1.length ≤ 4 * (headJ l).2 := by
  have hlone : ∀ n, (lone n).length ≤ 4 := fun n => by
    unfold lone
    split
    · exact (enc_len _).2
    · exact (enc_len _).2
  match l with
  | [] => exact Nat.zero_le _
  | c :: t =>
    by_cases hc : c = 92
    · subst hc
      cases hx : numL (92 :: t) 120 2 with
      | some n =>
        rw [(head_x t n hx).1]
        have := hlone n
        show (lone n).length ≤ 4 * 4
        omega
      | none =>
        rw [head_u t hx]
        cases hu : uniAt (92 :: t) with
        | none =>
          show (slashS t).1.length ≤ 4 * (slashS t).2
          match t with
          | [] => exact Nat.zero_le _
          | d :: u =>
            by_cases hv : d = 117 ∨ d = 120 ∨ digitI (d.toNat : Int) = true ∨ d = 10 ∨ d = 13
            · rw [show slashS (d :: u) = ([], 0) from if_pos hv]
              exact Nat.zero_le _
            · rw [show slashS (d :: u) = ([short d], 2) from if_neg hv]
              show 1 ≤ 4 * 2
              omega
        | some n =>
          have h1 := hlone n
          cases hm : uniAt ((92 :: t).drop 6) with
          | none => show (lone n).length ≤ 4 * 6; omega
          | some m =>
            simp only
            generalize 65536 + (n - 55296) * 1024 + (m - 56320) = x
            have h2 := hlone x
            split
            · show (lone x).length ≤ 4 * 12
              omega
            · show (lone n).length ≤ 4 * 6
              omega
    · rw [headJ_cons, if_neg hc]
      split
      · exact Nat.zero_le _
      · simp
end Go.Proofs.YtppclkecfggkiaaDoor.Jst
