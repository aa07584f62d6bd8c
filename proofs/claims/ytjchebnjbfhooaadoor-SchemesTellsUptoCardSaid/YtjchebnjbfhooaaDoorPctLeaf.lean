/-
  Contracts of Unreserved, Reserved and octet of package percent.
-/
import Derived.Test.YtjchebnjbfhooaaDoorPctPure
import Derived.Test.YtjchebnjbfhooaaDoorOctUnhex
namespace Go.Proofs.YtjchebnjbfhooaaDoor.Pct
open Go.RowKit Go.Proofs.YtjchebnjbfhooaaDoor.Oct

theorem unr_table : ∀ k : Fin 256, decide (0 ≤ Lib.indexByte [45, 46, 95, 126] (k.val : Int).toNat.toUInt8) = decide ((k.val : Int) = 45 ∨ (k.val : Int) = 46 ∨ (k.val : Int) = 95 ∨ (k.val : Int) = 126) := by decide +kernel
theorem res_table : ∀ k : Fin 256, decide (0 ≤ Lib.indexByte [33, 35, 36, 38, 42, 43, 44, 47, 58, 59, 61, 63, 64, 91, 93] (k.val : Int).toNat.toUInt8) = resI (k.val : Int) := by decide +kernel

theorem unreserved_c (n : Int) (w : World) (h0 : 0 ≤ n) (h1 : n ≤ 255) :
    Calls Tryd.prog 32 #[.int .u8 n] w fun e w' => e = .returned (.bool (unrI n)) ∧ w = w' := by
  have T := unr_table ⟨n.toNat, by omega⟩
  rw [show ((⟨n.toNat, by omega⟩ : Fin 256).val : Int) = n from Int.toNat_of_nonneg h0] at T
  have HT := Lib.hid T
  clear T
  go_enter Tryd.func32, Tryd.ntmps32
  go_wp2_with (first
    | (go_at_call 52; refine (letter_c n _ h0 h1).mono ?_; rintro e w' ⟨rfl, rfl⟩)
    | (go_at_call 39; refine (Tryd.strings_IndexByte _ _ _).mono ?_; rintro e w' ⟨rfl, rfl⟩))
  all_goals go_ret
  all_goals refine ⟨ret_bool ?_, rfl⟩
  all_goals have E : decide (0 ≤ Lib.indexByte [45, 46, 95, 126] (UInt8.ofNat n.toNat)) = decide (n = 45 ∨ n = 46 ∨ n = 95 ∨ n = 126) := HT.out
  all_goals (rw [Bool.eq_iff_iff]; simp [E, letterI, digitI, unrI] at *; try omega)

theorem reserved_c (n : Int) (w : World) (h0 : 0 ≤ n) (h1 : n ≤ 255) :
    Calls Tryd.prog 33 #[.int .u8 n] w fun e w' => e = .returned (.bool (resI n)) ∧ w = w' := by
  have T := res_table ⟨n.toNat, by omega⟩
  rw [show ((⟨n.toNat, by omega⟩ : Fin 256).val : Int) = n from Int.toNat_of_nonneg h0] at T
  have HT := Lib.hid T
  clear T
  go_enter Tryd.func33, Tryd.ntmps33
  go_wp2_with (go_at_call 39; refine (Tryd.strings_IndexByte _ _ _).mono ?_; rintro e w' ⟨rfl, rfl⟩)
  go_ret
  refine ⟨ret_bool ?_, rfl⟩
  rw [← HT.out]

theorem unhex_two (a b : UInt8) : unhexL [a, b] = if two a b = true then ((hc a).toNat * 16 + (hc b).toNat, 0) else (0, 33) := by
  have e1 : unhexL [a, b] = if [a, b].all (fun c => decide (0 ≤ hexC c)) then (valL [a, b], 0) else (0, 33) := by
    unfold unhexL
    rw [if_neg (by simp), if_neg (by simp)]
  have e2 : [a, b].all (fun c => decide (0 ≤ hexC c)) = two a b := by
    unfold two
    rw [Bool.eq_iff_iff]
    simp only [hexC, hc, List.all_cons, List.all_nil, Bool.and_true, Bool.and_eq_true]
    exact ⟨fun h => decide_eq_true ⟨of_decide_eq_true h.1, of_decide_eq_true h.2⟩, fun h => ⟨decide_eq_true (of_decide_eq_true h).1, decide_eq_true (of_decide_eq_true h).2⟩⟩
  have e3 : valL [a, b] = (hc a).toNat * 16 + (hc b).toNat := by simp [valL, hexC, hc]
  rw [e1, e2, e3]

theorem octet_other (c : UInt8) (t : List UInt8) (hc : c ≠ 37) (w : World) :
    Calls Tryd.prog 31 #[.string (S (c :: t))] w fun e w' => e = .returned (.tuple #[.int .u8 (c.toNat : Int), .int .i64 1]) ∧ Below w.heap.size w w' := by
  have hz : ((S (c :: t)).size : Int) = (t.length : Int) + 1 := by rw [size_S]; rfl
  have h0 : (S (c :: t))[0]'(by rw [size_S]; simp) = c := rfl
  have hb : ((c.toNat : Int) != 37) = true := by
    rw [bne_iff_ne]
    intro e
    exact hc (UInt8.toNat_inj.1 (by show c.toNat = 37; omega))
  clear hc
  go_enter Tryd.func31, Tryd.ntmps31
  go_wp2_with fail
  go_ret2
  exact ⟨rfl, Below.refl _ _⟩

theorem octet_short (t : List UInt8) (ht : t.length < 2) (w : World) :
    Calls Tryd.prog 31 #[.string (S (37 :: t))] w fun e w' => e = .returned (.tuple #[.int .u8 0, .int .i64 0]) ∧ Below w.heap.size w w' := by
  have hz : ((S (37 :: t)).size : Int) = (t.length : Int) + 1 := by rw [size_S]; rfl
  have h0 : (S (37 :: t))[0]'(by rw [size_S]; simp) = 37 := rfl
  have hi : (t.length : Int) + 1 < 3 := by omega
  clear ht
  go_enter Tryd.func31, Tryd.ntmps31
  go_wp2_with fail
  go_ret2
  exact ⟨rfl, Below.refl _ _⟩

theorem hc_le (c : UInt8) : hc c ≤ 15 := (hexI_range _).2

theorem octet_two (a b : UInt8) (t : List UInt8) (hn : t.length ≤ 140737488355328) (w : World) :
    Calls Tryd.prog 31 #[.string (S (37 :: a :: b :: t))] w fun e w' => e = .returned (.tuple #[.int .u8 (if two a b = true then ((oct2 a b).toNat : Int) else 0), .int .i64 (if two a b = true then 3 else 0)]) ∧ Below w.heap.size w w' := by
  have hz : ((S (37 :: a :: b :: t)).size : Int) = (t.length : Int) + 3 := by rw [size_S]; simp only [List.length_cons]; omega
  have hz0 : (t.length : Int) ≤ 140737488355328 := by omega
  have hz1 : ¬ ((t.length : Int) + 3 < 3) := by omega
  have h0 : (S (37 :: a :: b :: t))[0]'(by rw [size_S]; simp) = 37 := rfl
  have hx : (S (37 :: a :: b :: t)).extract 1 3 = S [a, b] := by rw [Lib.extract_eq]; rfl
  have hu := fun w => unhex_c (S [a, b]) w
  rw [list_S, unhex_two] at hu
  cases h2 : two a b with
  | true =>
    rw [h2] at hu
    have e1 : ((oct2 a b).toNat : Int) = (((hc a).toNat * 16 + (hc b).toNat : Nat) : Int) := by
      have ha := hc_le a
      have hb := hc_le b
      unfold oct2
      rw [Nat.toUInt8_eq, UInt8.toNat_ofNat_of_lt' (by show _ < 256; omega)]
    have e2 : (((hc a).toNat * 16 + (hc b).toNat : Nat) : Int) ≤ 255 := by
      have ha := hc_le a
      have hb := hc_le b
      omega
    simp only [if_true] at hu ⊢
    rw [e1]
    clear e1
    generalize (hc a).toNat * 16 + (hc b).toNat = v at hu e2
    clear h2 hn
    go_enter Tryd.func31, Tryd.ntmps31
    go_wp2_with (go_at_call 51; refine (hu _).mono ?_; rintro e w1 ⟨rfl, hb1⟩)
    go_ret2
    exact ⟨rfl, hb1⟩
  | false =>
    rw [h2] at hu
    clear h2 hn
    go_enter Tryd.func31, Tryd.ntmps31
    go_wp2_with (go_at_call 51; refine (hu _).mono ?_; rintro e w1 ⟨rfl, hb1⟩)
    go_ret2
    exact ⟨rfl, hb1⟩

theorem octet_c (l : List UInt8) (hl : l ≠ []) (hn : l.length ≤ 140737488355328) (w : World) :
    Calls Tryd.prog 31 #[.string (S l)] w fun e w' => e = .returned (.tuple #[.int .u8 ((headL l).1.toNat : Int), .int .i64 ((headL l).2 : Int)]) ∧ Below w.heap.size w w' := by
  match l, hl, hn with
  | c :: t, _, hn =>
    rw [List.length_cons] at hn
    by_cases h : c = 37
    · subst h
      match t, hn with
      | [], _ => exact octet_short [] (by decide) w
      | [a], _ => rw [head_short [a] (by simp)]; exact octet_short [a] (by simp) w
      | a :: b :: t, hn =>
        have hn' : t.length ≤ 140737488355328 := by simp only [List.length_cons] at hn; omega
        have h := octet_two a b t hn' w
        cases h2 : two a b with
        | true => rw [h2] at h; rw [head_two a b t h2]; exact h
        | false => rw [h2] at h; rw [head_bad a b t h2]; exact h
    · rw [head_other c t h]; exact octet_other c t h w
end Go.Proofs.YtjchebnjbfhooaaDoor.Pct
