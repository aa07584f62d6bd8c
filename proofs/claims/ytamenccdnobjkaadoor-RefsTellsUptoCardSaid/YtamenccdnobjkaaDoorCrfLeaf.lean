/-
  Contracts of strings.Cut at one octet, of escaped, character and names of package refs.
-/
import Derived.Test.YtamenccdnobjkaaDoorCrfPure2
import Derived.Test.YtamenccdnobjkaaDoorUtfLeaves
import Derived.Test.YtamenccdnobjkaaDoorOctTrim
import Derived.Deep.QuietTactic
import Derived.BigQuiet
namespace Go.Proofs.YtamenccdnobjkaaDoor.Crf
open Go.RowKit Go.Proofs.YtamenccdnobjkaaDoor.Oct Go.Proofs.YtamenccdnobjkaaDoor.Num Go.Proofs.YtamenccdnobjkaaDoor.Utf
open Go.Lib (encodeRune)

theorem cutTo (s : ByteArray) (n : Nat) : s.extract 0 n = S (s.data.toList.take n) := by
  rw [Lib.extract_eq]; simp [S]
theorem cutFrom (s : ByteArray) (n : Nat) : s.extract n s.size = S (s.data.toList.drop n) := by
  rw [Lib.extract_eq, List.take_of_length_le (by rw [List.length_drop, size_list]; omega)]
theorem cutOne (l : List UInt8) (k : Nat) (h : k < l.length) : (S l).extract k (k + 1) = S [l[k]] := by
  rw [Lib.extract_eq]
  have e : (S l).data.toList = l := list_S l
  rw [e, show k + 1 - k = 1 by omega, List.drop_eq_getElem_cons h]
  rfl

theorem index_no (l : List UInt8) (c : UInt8) (h : c ∉ l) : Lib.indexByte l c = -1 := by
  induction l with
  | nil => rfl
  | cons a l ih =>
    have h1 : (a == c) = false := by
      rw [beq_eq_false_iff_ne]
      exact fun e => h (by rw [e]; simp)
    have h2 := ih (fun hm => h (List.mem_cons_of_mem _ hm))
    rw [Lib.indexByte, h1, h2]
    rfl
theorem index_at (l : List UInt8) (h : 59 ∈ l) : Lib.indexByte l 59 = ((innerOf l).length : Int) := by
  induction l with
  | nil => cases h
  | cons a l ih =>
    by_cases ha : a = 59
    · subst ha; rfl
    · have h1 : (a == 59) = false := by rw [beq_eq_false_iff_ne]; exact ha
      have h2 := ih (by rcases List.mem_cons.1 h with h | h; exact absurd h.symm ha; exact h)
      have h3 : innerOf (a :: l) = a :: innerOf l := by
        unfold innerOf
        rw [List.takeWhile_cons_of_pos (by simp [h1])]
      rw [Lib.indexByte, h1, h2, h3]
      have : (((innerOf l).length : Int) == -1) = false := by simp
      rw [this]
      simp
theorem inner_len (l : List UInt8) (h : 59 ∈ l) : (innerOf l).length + 1 ≤ l.length := by
  obtain ⟨t, ht⟩ := inner_split l h
  have := congrArg List.length ht
  rw [List.length_append, List.length_cons] at this
  omega
theorem inner_take (l : List UInt8) : l.take (innerOf l).length = innerOf l := by
  have h : innerOf l <+: l := List.takeWhile_prefix _
  exact (List.prefix_iff_eq_take.1 h).symm

theorem cut0_no (l : List UInt8) (h : 59 ∉ l) (w : World) :
    Calls Tryd.prog 53 #[.string (S l), .string (S [59])] w fun e w' => e = .returned (.tuple #[.string (S l), .string ⟨#[]⟩, .bool false]) ∧ w = w' := by
  have hc := Tryd.stringslite_Index_one (S l) 59 w
  rw [list_S, index_no l 59 h] at hc
  generalize S l = L at hc
  go_enter Tryd.func53, Tryd.ntmps53
  go_wp2_with (go_at_call 67; refine hc.mono ?_; rintro e w' ⟨rfl, rfl⟩)
  go_ret3
  exact ⟨rfl, rfl⟩
theorem cut0_yes (l : List UInt8) (h : 59 ∈ l) (hl : l.length ≤ 4611686018427387904) (w : World) :
    Calls Tryd.prog 53 #[.string (S l), .string (S [59])] w fun e w' => e = .returned (.tuple #[.string (S (innerOf l)), .string (S (l.drop ((innerOf l).length + 1))), .bool true]) ∧ Below w.heap.size w w' := by
  have hc := Tryd.stringslite_Index_one (S l) 59 w
  rw [list_S, index_at l h] at hc
  have hk := inner_len l h
  have e1 : (S l).extract 0 (innerOf l).length = S (innerOf l) := by rw [cutTo, list_S, inner_take]
  have e2 : (S l).extract ((innerOf l).length + 1) (S l).size = S (l.drop ((innerOf l).length + 1)) := by rw [cutFrom, list_S]
  generalize (innerOf l).length = k at hc hk e1 e2
  have hz : ((S l).size : Int) = (l.length : Int) := by rw [size_S]
  have hzn : (S l).size = l.length := size_S l
  rw [← e1, ← e2]
  have HE := Lib.hid (And.intro e1 e2)
  have h1 : (0 : Int) ≤ (k : Int) := by omega
  have h2 : (k : Int) ≤ ((S l).size : Int) := by omega
  have h3 : (k : Int) + 1 ≤ ((S l).size : Int) := by omega
  have h4 : IntKind.i64.wrap ((k : Int) + 1) = (k : Int) + 1 := by rw [IntKind.wrap_i64]; omega
  have h5 : (0 : Int) ≤ (k : Int) + 1 := by omega
  have h6 : ((k : Int) + 1).toNat = k + 1 := by omega
  clear e1 e2 hz hzn
  generalize S l = L at hc h2 h3 HE
  have H4 := Lib.hid h4
  clear h4
  go_enter Tryd.func53, Tryd.ntmps53
  go_wp2_with (go_at_call 67; refine hc.mono ?_; rintro e w' ⟨rfl, rfl⟩)
  have h4 := H4.out
  go_quiet (fail)
  rename_i nq _
  go_wp2
  go_ret3
  exact ⟨rfl, below_drewN (Below.refl _ _) nq⟩
theorem cut_no (l : List UInt8) (h : 59 ∉ l) (w : World) :
    Calls Tryd.prog 38 #[.string (S l), .string (S [59])] w fun e w' => e = .returned (.tuple #[.string (S l), .string ⟨#[]⟩, .bool false]) ∧ Below w.heap.size w w' := by
  have hc := cut0_no l h w
  generalize S l = L at hc
  go_enter Tryd.func38, Tryd.ntmps38
  go_wp2_with (go_at_call 53; refine hc.mono ?_; rintro e w' ⟨rfl, rfl⟩)
  go_ret3
  exact ⟨rfl, Below.refl _ _⟩
theorem cut_yes (l : List UInt8) (h : 59 ∈ l) (hl : l.length ≤ 4611686018427387904) (w : World) :
    Calls Tryd.prog 38 #[.string (S l), .string (S [59])] w fun e w' => e = .returned (.tuple #[.string (S (innerOf l)), .string (S (l.drop ((innerOf l).length + 1))), .bool true]) ∧ Below w.heap.size w w' := by
  have hc := cut0_yes l h hl w
  generalize S l = L at hc
  generalize S (innerOf l) = L1 at hc
  generalize S (l.drop ((innerOf l).length + 1)) = L2 at hc
  go_enter Tryd.func38, Tryd.ntmps38
  go_wp2_with (go_at_call 53; refine hc.mono ?_; rintro e w' ⟨rfl, hb⟩)
  go_ret3
  exact ⟨rfl, hb⟩

/-! ### escaped -/
theorem eqB (a b : List UInt8) : ((S a).toList == (S b).toList) = decide (a = b) := by
  rw [ByteArray.toList_eq, ByteArray.toList_eq, list_S, list_S]
  by_cases h : a = b
  · rw [h]; simp
  · rw [decide_eq_false h, beq_eq_false_iff_ne]; exact h
theorem eqL (a b : List UInt8) : ((S a).toList == b) = decide (a = b) := by
  rw [ByteArray.toList_eq, list_S]
  by_cases h : a = b
  · rw [h]; simp
  · rw [decide_eq_false h, beq_eq_false_iff_ne]; exact h
theorem eqB1 (c d : UInt8) {b : Bool} (h : decide (c = d) = b) : ((S [c]).toList == [d]) = b := by
  rw [← h, eqL]
  by_cases e : c = d <;> simp [e]

set_option maxHeartbeats 1000000 in
theorem escaped_c (c : UInt8) (w : World) :
    Calls Tryd.prog 30 #[.string (S [c])] w fun e w' => e = .returned (.string (S (escO c))) ∧ w = w' := by
  unfold escO
  by_cases h1 : c = 38
  · subst h1
    rw [if_pos rfl]
    go_enter Tryd.func30, Tryd.ntmps30
    go_wp2
    go_ret
    exact ⟨rfl, rfl⟩
  rw [if_neg h1]
  have f1 := eqB1 c 38 (decide_eq_false h1)
  by_cases h2 : c = 60
  · subst h2
    rw [if_pos rfl]
    go_enter Tryd.func30, Tryd.ntmps30
    go_wp2
    go_ret
    exact ⟨rfl, rfl⟩
  rw [if_neg h2]
  have f2 := eqB1 c 60 (decide_eq_false h2)
  by_cases h3 : c = 62
  · subst h3
    rw [if_pos rfl]
    go_enter Tryd.func30, Tryd.ntmps30
    go_wp2
    go_ret
    exact ⟨rfl, rfl⟩
  rw [if_neg h3]
  have f3 := eqB1 c 62 (decide_eq_false h3)
  by_cases h4 : c = 34
  · subst h4
    rw [if_pos rfl]
    go_enter Tryd.func30, Tryd.ntmps30
    go_wp2
    go_ret
    exact ⟨rfl, rfl⟩
  rw [if_neg h4]
  have f4 := eqB1 c 34 (decide_eq_false h4)
  by_cases h5 : c = 39
  · subst h5
    rw [if_pos rfl]
    go_enter Tryd.func30, Tryd.ntmps30
    go_wp2
    go_ret
    exact ⟨rfl, rfl⟩
  rw [if_neg h5]
  have f5 := eqB1 c 39 (decide_eq_false h5)
  by_cases h6 : c = 43
  · subst h6
    rw [if_pos rfl]
    go_enter Tryd.func30, Tryd.ntmps30
    go_wp2
    go_ret
    exact ⟨rfl, rfl⟩
  rw [if_neg h6]
  have f6 := eqB1 c 43 (decide_eq_false h6)
  generalize S [c] = T at f1 f2 f3 f4 f5 f6
  clear h1 h2 h3 h4 h5 h6
  go_enter Tryd.func30, Tryd.ntmps30
  go_wp2
  go_ret
  exact ⟨rfl, rfl⟩

/-! ### character -/
theorem character_c (n : Nat) (w : World) :
    Calls Tryd.prog 54 #[.int .i64 (n : Int)] w fun e w' => e = .returned (.string (S (standL n))) ∧ Below w.heap.size w w' := by
  unfold standL
  by_cases hc : isChar (n : Int)
  · have he := encode_yes (n : Int) w (decide_eq_true hc)
    by_cases h0 : n = 0
    · subst h0
      rw [if_neg (by simp)]
      generalize S (encodeRune ((0 : Nat) : Int)) = T at he
      have he' : Calls Tryd.prog 68 #[.int .i64 0] w fun e w' => e = .returned (.tuple #[.string T, .int .i64 0]) ∧ Below w.heap.size w w' := he
      clear he hc
      show Calls Tryd.prog 54 #[.int .i64 0] w _
      go_enter Tryd.func54, Tryd.ntmps54
      go_wp2_with (go_at_call 68; refine he'.mono ?_; rintro e w1 ⟨rfl, h1⟩)
      go_ret
      exact ⟨rfl, h1⟩
    · rw [if_pos ⟨hc, h0⟩]
      have hb : ((n : Int) == 0) = false := by simp; exact h0
      generalize S (encodeRune (n : Int)) = T at he
      clear hc h0
      generalize (n : Int) = m at he hb
      go_enter Tryd.func54, Tryd.ntmps54
      go_wp2_with (go_at_call 68; refine he.mono ?_; rintro e w1 ⟨rfl, h1⟩)
      go_ret
      exact ⟨rfl, h1⟩
  · have he := encode_no (n : Int) w (decide_eq_false hc)
    rw [if_neg (fun h => hc h.1)]
    clear hc
    generalize (n : Int) = m at he
    go_enter Tryd.func54, Tryd.ntmps54
    go_wp2_with (go_at_call 68; refine he.mono ?_; rintro e w1 ⟨rfl, h1⟩)
    go_ret
    exact ⟨rfl, h1⟩

/-! ### names -/
abbrev namesV : Value := .agg #[.string ⟨#[97, 109, 112]⟩, .string ⟨#[38]⟩, .string ⟨#[108, 116]⟩, .string ⟨#[60]⟩, .string ⟨#[103, 116]⟩, .string ⟨#[62]⟩, .string ⟨#[113, 117, 111, 116]⟩, .string ⟨#[34]⟩, .string ⟨#[97, 112, 111, 115]⟩, .string ⟨#[39]⟩]
theorem names_c (w : World) : Calls Tryd.prog 48 #[] w fun e w' => e = .returned namesV ∧ Below w.heap.size w w' := by
  go_enter Tryd.func48, Tryd.ntmps48
  go_wp2
  refine bodyPost_ret (v := namesV) (by simp [results, Tryd.results48, go_sem]) rfl ?_
  exact ⟨rfl, (Below.refl _ w).alloc (Nat.le_refl _) _⟩
end Go.Proofs.YtamenccdnobjkaaDoor.Crf
