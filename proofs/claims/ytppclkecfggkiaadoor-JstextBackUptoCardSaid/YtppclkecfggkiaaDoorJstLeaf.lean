/-
  Contracts of half, character, number, short and first of package jstext.
-/
import Derived.Test.YtppclkecfggkiaaDoorJstPure
import Derived.Test.YtppclkecfggkiaaDoorOctUnhex
import Derived.Test.YtppclkecfggkiaaDoorPctBuild
import Derived.Test.YtppclkecfggkiaaDoorUtfLeaves
namespace Go.Proofs.YtppclkecfggkiaaDoor.Jst
open Go.RowKit Go.Proofs.YtppclkecfggkiaaDoor.Oct Go.Proofs.YtppclkecfggkiaaDoor.Utf
open Go.Lib (encodeRune)

theorem cutOf (l : List UInt8) (a b : Nat) : (S l).extract a b = S ((l.drop a).take (b - a)) := by rw [Lib.extract_eq, list_S]

theorem half_c (u f : Nat) (hf : f ≤ 65536) (w : World) :
    Calls Tryd.prog 49 #[.int .i64 (u : Int), .int .i64 (f : Int)] w fun e w' => e = .returned (.bool (decide (f ≤ u ∧ u < f + 1024))) ∧ w' = w := by
  have E : Hid (decide (f ≤ u ∧ u < f + 1024) = (decide ((f : Int) ≤ (u : Int)) && decide ((u : Int) ≤ (f : Int) + 1023))) := by
    show _ = _
    rw [Bool.eq_iff_iff]; simp; omega
  generalize decide (f ≤ u ∧ u < f + 1024) = ans at E ⊢
  have hf' : (f : Int) ≤ 65536 := by omega
  have hf0 : (0 : Int) ≤ (f : Int) := by omega
  clear hf
  generalize (f : Int) = F at *
  generalize (u : Int) = U at *
  by_cases h : F ≤ U
  · go_enter Tryd.func49, Tryd.ntmps49
    go_wp2_with fail
    go_ret
    exact ⟨ret_bool (by rw [E.out, decide_eq_true h]; simp), rfl⟩
  · go_enter Tryd.func49, Tryd.ntmps49
    go_wp2_with fail
    go_ret
    exact ⟨ret_bool (by rw [E.out, decide_eq_false (by omega)]; rfl), rfl⟩

/-- A unit's text, or that of a pair: a half alone is none. -/
theorem char_c (n : Nat) (hn : n ≤ 1114111) (w : World) :
    Calls Tryd.prog 47 #[.int .i64 (n : Int)] w fun e w' => e = .returned (.string (S (lone n))) ∧ Below w.heap.size w w' := by
  unfold lone
  by_cases h : 55296 ≤ n ∧ n < 57344
  · rw [if_pos h]
    have he := encode_no (n : Int) w (decide_eq_false (by unfold isChar; omega))
    have hx : Hid ((⟨#[239, 191, 189]⟩ : ByteArray) = S (encodeRune 65533)) := by show _ = _; decide +kernel
    generalize S (encodeRune 65533) = T at hx ⊢
    clear h hn
    generalize (n : Int) = m at *
    go_enter Tryd.func47, Tryd.ntmps47
    go_wp2_with (go_at_call 58; refine he.mono ?_; rintro e w1 ⟨rfl, h1⟩)
    go_ret
    exact ⟨by rw [← hx.out]; rfl, h1⟩
  · rw [if_neg h]
    have he := encode_yes (n : Int) w (decide_eq_true (by unfold isChar; omega))
    generalize S (encodeRune (n : Int)) = T at he ⊢
    clear h hn
    generalize (n : Int) = m at *
    go_enter Tryd.func47, Tryd.ntmps47
    go_wp2_with (go_at_call 58; refine he.mono ?_; rintro e w1 ⟨rfl, h1⟩)
    go_ret
    exact ⟨rfl, h1⟩

/-! ### A number behind a mark -/
/-- What d digits behind the mark 92, m tell. -/
def numL (l : List UInt8) (m : UInt8) (d : Nat) : Option Nat :=
  if l.length < 2 + d ∨ l.take 2 ≠ [92, m] then none else if (unhexL ((l.drop 2).take d)).2 = 0 then some (unhexL ((l.drop 2).take d)).1 else none
theorem unhex_none' (t : List UInt8) (h : t ≠ []) (h8 : t.length ≤ 8) (hz : (unhexL t).2 ≠ 0) : unhexL t = (0, 33) := by
  unfold unhexL at hz ⊢
  rw [if_neg h, if_neg (by omega)] at hz ⊢
  split at hz
  · exact absurd rfl hz
  · rename_i hn
    rw [if_neg hn]

set_option maxRecDepth 100000 in
theorem number_c (l : List UInt8) (hl : l.length ≤ 140737488355328) (m : UInt8) (d : Nat) (hd : 0 < d) (hd8 : d ≤ 8) (w : World) :
    Calls Tryd.prog 46 #[.string (S l), .string (S [92, m]), .int .i64 (d : Int)] w fun e w' => e = .returned (.tuple #[.int .i64 (((numL l m d).getD 0 : Nat) : Int), .bool (numL l m d).isSome]) ∧ Below w.heap.size w w' := by
  have hz : ((S l).size : Int) = (l.length : Int) := by rw [size_S]
  have hm : ((S [92, m]).size : Int) = 2 := by rw [size_S]; rfl
  have hll : (l.length : Int) ≤ 140737488355328 := by omega
  have i0 : (0 : Int) < (d : Int) := by omega
  have i8 : (d : Int) ≤ 8 := by omega
  by_cases hs : l.length < 2 + d
  · have e : numL l m d = none := by unfold numL; rw [if_pos (.inl hs)]
    rw [e]
    have hs' : (l.length : Int) < 2 + (d : Int) := by omega
    clear e hs hl hd hd8
    generalize (d : Int) = D at *
    go_enter Tryd.func46, Tryd.ntmps46
    go_wp2_with fail
    go_ret2
    exact ⟨rfl, Below.refl _ _⟩
  · have hs' : ¬ ((l.length : Int) < 2 + (d : Int)) := by omega
    have hx := cutOf l 0 2
    rw [List.drop_zero, show 2 - 0 = 2 from rfl] at hx
    by_cases ht : l.take 2 = [92, m]
    · rw [ht] at hx
      have hy : (S l).extract 2 (2 + (d : Int)).toNat = S ((l.drop 2).take d) := by
        rw [cutOf, show (2 + (d : Int)).toNat - 2 = d by omega]
      have hu := fun w => unhex_c (S ((l.drop 2).take d)) w
      rw [list_S] at hu
      have hlen : ((l.drop 2).take d).length = d := by rw [List.length_take, List.length_drop]; omega
      have hN : numL l m d = if (unhexL ((l.drop 2).take d)).2 = 0 then some (unhexL ((l.drop 2).take d)).1 else none := by
        unfold numL
        rw [if_neg (by rintro (h | h); exact hs h; exact h ht)]
      have hbad := unhex_none' ((l.drop 2).take d) (by intro h; rw [h] at hlen; simp at hlen; omega) (by omega)
      generalize (l.drop 2).take d = t at hy hu hN hbad hlen
      have hq : ((S [92, m]).toList == (S [92, m]).toList) = true := by simp
      by_cases h0 : (unhexL t).2 = 0
      · rw [if_pos h0] at hN
        rw [hN]
        rw [h0] at hu
        generalize (unhexL t).1 = v at hu ⊢
        generalize S t = T at hy hu
        generalize S [92, m] = M at *
        clear hl hd hd8 ht hbad h0 hN hlen
        have hs2 : 2 + (d : Int) ≤ (l.length : Int) := by omega
        clear hs'
        have i2 : (2 : Int) ≤ 2 + (d : Int) := by omega
        have i3 : ¬ ((l.length : Int) < 2 + (d : Int)) := by omega
        generalize (d : Int) = D at i0 i8 hy hs2 i2 i3 ⊢
        go_enter Tryd.func46, Tryd.ntmps46
        go_wp2_with (go_at_call 57; refine (hu _).mono ?_; rintro e w1 ⟨rfl, hb1⟩)
        go_ret2
        exact ⟨rfl, hb1⟩
      · rw [if_neg h0] at hN
        rw [hN]
        rw [hbad h0] at hu
        generalize S t = T at hy hu
        generalize S [92, m] = M at *
        clear hl hd hd8 ht hbad h0 hN hlen
        have hs2 : 2 + (d : Int) ≤ (l.length : Int) := by omega
        clear hs'
        have i2 : (2 : Int) ≤ 2 + (d : Int) := by omega
        have i3 : ¬ ((l.length : Int) < 2 + (d : Int)) := by omega
        generalize (d : Int) = D at i0 i8 hy hs2 i2 i3 ⊢
        go_enter Tryd.func46, Tryd.ntmps46
        go_wp2_with (go_at_call 57; refine (hu _).mono ?_; rintro e w1 ⟨rfl, hb1⟩)
        go_ret2
        exact ⟨rfl, hb1⟩
    · have e : numL l m d = none := by unfold numL; rw [if_pos (.inr ht)]
      rw [e]
      have hq : ((S (l.take 2)).toList == (S [92, m]).toList) = false := by
        rw [ByteArray.toList_eq, ByteArray.toList_eq, list_S, list_S, beq_eq_false_iff_ne]
        exact ht
      generalize S (l.take 2) = X at hx hq
      generalize S [92, m] = M at *
      clear e hs hl hd hd8 ht
      generalize (d : Int) = D at *
      go_enter Tryd.func46, Tryd.ntmps46
      go_wp2_with fail
      go_ret2
      exact ⟨rfl, Below.refl _ _⟩
end Go.Proofs.YtppclkecfggkiaaDoor.Jst
