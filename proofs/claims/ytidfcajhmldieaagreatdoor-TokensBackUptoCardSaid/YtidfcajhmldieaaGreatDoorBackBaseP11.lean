/-
  Part 11: OctTrim, CrfLeaf, OctHex, OctUnhex.
-/
import Derived.Test.YtidfcajhmldieaaGreatDoorBackBaseP10
import Derived.Test.YtidfcajhmldieaaGreatDoorBackBaseP8
import Derived.Deep.QuietTactic
import Derived.BigQuiet
import Derived.Test.YtidfcajhmldieaaGreatDoorBackBaseP1
/-
  Contracts of octets.Name, Starts and Trim: as plain functions of lists of octets.
-/
namespace Go.Proofs.YtidfcajhmldieaaGreatDoor.Oct
open Go.RowKit

theorem name_none (s : ByteArray) : (firstOf (fun k => !nameI ((at' s k).toNat : Int)) 0 s.size == s.size) = s.data.toList.all (fun c => nameI (c.toNat : Int)) := by
  rw [firstOf_all, ← all_at]
  simp


theorem name_c (s : ByteArray) (w : World) :
    Calls Tryz.prog 61 #[.string s] w fun e w' => e = .returned (.bool (nameB s.data.toList)) ∧ Below w.heap.size w w' := by
  by_cases h0 : s.size = 0
  · have hs : s = ⟨#[]⟩ := by
      apply ByteArray.ext
      exact Array.eq_empty_of_size_eq_zero h0
    subst hs
    go_enter Tryz.func61, Tryz.ntmps61
    go_wp2
    go_ret
    exact ⟨ret_bool (by simp [nameB]), (Below.refl _ w).alloc (Nat.le_refl _) _⟩
  · have he : s.data.toList.isEmpty = false := by
      rw [List.isEmpty_eq_false_iff]; intro h; apply h0; rw [← size_list, h]; rfl
    have he' : s.toList.isEmpty = false := by rw [ByteArray.toList_eq]; exact he
    by_cases h32 : 32 < s.size
    · go_enter Tryz.func61, Tryz.ntmps61
      go_wp2
      go_ret
      exact ⟨ret_bool (by unfold nameB; rw [size_list, decide_eq_false (by omega)]; rfl), (Below.refl _ w).alloc (Nat.le_refl _) _⟩
    · have hpos : 0 < s.size := by omega
      have hlen : s.size ≤ 32 := by omega
      have hat : Hid ((at' s 0) = s[0]) := (at_eq s 0 hpos).symm
      have hn := none_c s.size 92 #[.pointer (some ⟨w.heap.size, 0, none⟩)] (fun k => !nameI ((at' s k).toNat : Int)) (w.alloc (.cells #[.string s] 9)) (by omega) enter_name
        (fun k W hk hb => (name1_c s k w.heap.size W hk (by rw [hb.cell (by simp)]; simp)).mono fun _ _ ⟨he, hw⟩ => ⟨he, hw ▸ hb⟩)
      rw [name_none] at hn
      clear h0 h32
      have hfin : Hid (nameB s.data.toList = (!digitI (s[0].toNat : Int) && s.data.toList.all (fun c => nameI (c.toNat : Int)))) := by
        show _ = _
        unfold nameB
        rw [size_list, decide_eq_true (by omega), at_zero, hat.out]
        simp
      generalize s.data.toList.all (fun c => nameI (c.toNat : Int)) = r at hn hfin
      by_cases hd : (48 : Int) ≤ (s[0].toNat : Int) ∧ (s[0].toNat : Int) ≤ 57
      · obtain ⟨hd1, hd2⟩ := hd
        go_enter Tryz.func61, Tryz.ntmps61
        go_wp2
        go_ret
        exact ⟨ret_bool (by rw [hfin.out, digitI, decide_eq_true ⟨hd1, hd2⟩]; rfl), (Below.refl _ w).alloc (Nat.le_refl _) _⟩
      · have hw : decide ((48 : Int) ≤ (s[0].toNat : Int) ∧ (s[0].toNat : Int) ≤ 57) = false := decide_eq_false hd
        have hwi := within_c (s[0].toNat : Int) 48 57
        rw [hw] at hwi
        clear hw
        have HD := Lib.hid hd
        clear hd
        go_enter Tryz.func61, Tryz.ntmps61
        go_wp2_with (first
          | (go_at_call 75; refine (hwi _).mono ?_; rintro e w' ⟨rfl, rfl⟩)
          | (go_at_call 91; refine hn.mono ?_; rintro e w' ⟨rfl, hb⟩))
        go_ret
        exact ⟨ret_bool (by rw [hfin.out, digitI, decide_eq_false HD.out]; rfl), ((Below.refl _ w).alloc (Nat.le_refl _) _).trans (hb.mono (by simp))⟩

theorem starts_c (s p : ByteArray) (w : World) (hp : p.size ≤ 9223372036854775807) :
    Calls Tryz.prog 100 #[.string s, .string p] w fun e w' => e = .returned (.bool (startsB s.data.toList p.data.toList)) ∧ Below w.heap.size w w' := by
  by_cases hl : s.size < p.size
  · go_enter Tryz.func100, Tryz.ntmps100
    go_wp2
    go_ret
    exact ⟨ret_bool (by unfold startsB; rw [size_list, size_list, decide_eq_false (by omega)]; rfl), ((Below.refl _ w).alloc (Nat.le_refl _) _).alloc (by simp) _⟩
  · have hl' : p.size ≤ s.size := by omega
    have hn := none_c p.size 111 #[.pointer (some ⟨w.heap.size, 0, none⟩), .pointer (some ⟨w.heap.size + 1, 0, none⟩)] (fun k => low (at' s k) != low (at' p k))
      ((w.alloc (.cells #[.string s] 9)).alloc (.cells #[.string p] 9)) hp enter_starts
      (fun k W hk hb => (starts1_c s p k w.heap.size (w.heap.size + 1) W (by omega) hk (by rw [hb.cell (by simp; omega)]; simp) (by rw [hb.cell (by simp)]; simp)).mono
        fun _ _ ⟨he, q, hw⟩ => ⟨he, hw ▸ below_drewN hb q⟩)
    rw [starts_none s p hl'] at hn
    go_enter Tryz.func100, Tryz.ntmps100
    go_wp2_with (go_at_call 91; refine hn.mono ?_; rintro e w' ⟨rfl, hb⟩)
    go_ret
    exact ⟨rfl, (((Below.refl _ w).alloc (Nat.le_refl _) _).alloc (by simp) _).trans (hb.mono (by simp; omega))⟩

theorem clone_c (s : ByteArray) (w : World) (hs : s.size ≤ 281474976710656) :
    Calls Tryz.prog 59 #[.string s] w fun e w' => e = .returned (.string s) ∧ Below w.heap.size w w' := by
  go_enter Tryz.func59, Tryz.ntmps59
  go_wp2_with (go_at_call 87; refine (Tryz.stringslite_Clone _ _ hs).mono ?_; rintro e w' ⟨rfl, hb⟩)
  go_ret
  exact ⟨rfl, hb⟩

end Go.Proofs.YtidfcajhmldieaaGreatDoor.Oct

/-
  Contracts of strings.Cut at one octet, of escaped, character and names of package refs.
-/
namespace Go.Proofs.YtidfcajhmldieaaGreatDoor.Crf
open Go.RowKit Go.Proofs.YtidfcajhmldieaaGreatDoor.Oct Go.Proofs.YtidfcajhmldieaaGreatDoor.Num Go.Proofs.YtidfcajhmldieaaGreatDoor.Utf
open Go.Lib (encodeRune)

theorem cutTo (s : ByteArray) (n : Nat) : s.extract 0 n = S (s.data.toList.take n) := by
  rw [Lib.extract_eq]; simp [S]
theorem drewB {B : Nat} {a w : World} (h : Below B a w) (q : Nat) : Below B a (w.drewN q) := ⟨h.os, h.tape, h.output, h.size, h.block⟩
theorem cutFrom (s : ByteArray) (n : Nat) : s.extract n s.size = S (s.data.toList.drop n) := by
  rw [Lib.extract_eq, List.take_of_length_le (by rw [List.length_drop, size_list]; omega)]
theorem cutOne (l : List UInt8) (k : Nat) (h : k < l.length) : (S l).extract k (k + 1) = S [l[k]] := by
  rw [Lib.extract_eq]
  have e : (S l).data.toList = l := list_S l
  rw [e, show k + 1 - k = 1 by omega, List.drop_eq_getElem_cons h]
  rfl

theorem index_no (l : List UInt8) (c : UInt8) (h : c ∉ l) : Lib.indexByte l c = -1 := by
  induction l with
  | nil => rfl
  | cons a l ih =>
    have h1 : (a == c) = false := by
      rw [beq_eq_false_iff_ne]
      exact fun e => h (by rw [e]; simp)
    have h2 := ih (fun hm => h (List.mem_cons_of_mem _ hm))
    rw [Lib.indexByte, h1, h2]
    rfl
theorem index_at (l : List UInt8) (h : 59 ∈ l) : Lib.indexByte l 59 = ((innerOf l).length : Int) := by
  induction l with
  | nil => cases h
  | cons a l ih =>
    by_cases ha : a = 59
    · subst ha; rfl
    · have h1 : (a == 59) = false := by rw [beq_eq_false_iff_ne]; exact ha
      have h2 := ih (by rcases List.mem_cons.1 h with h | h; exact absurd h.symm ha; exact h)
      have h3 : innerOf (a :: l) = a :: innerOf l := by
        unfold innerOf
        rw [List.takeWhile_cons_of_pos (by simp [h1])]
      rw [Lib.indexByte, h1, h2, h3]
      have : (((innerOf l).length : Int) == -1) = false := by simp
      rw [this]
      simp
theorem inner_len (l : List UInt8) (h : 59 ∈ l) : (innerOf l).length + 1 ≤ l.length := by
  obtain ⟨t, ht⟩ := inner_split l h
  have := congrArg List.length ht
  rw [List.length_append, List.length_cons] at this
  omega
theorem inner_take (l : List UInt8) : l.take (innerOf l).length = innerOf l := by
  have h : innerOf l <+: l := List.takeWhile_prefix _
  exact (List.prefix_iff_eq_take.1 h).symm

theorem cut0_no (l : List UInt8) (h : 59 ∉ l) (w : World) :
    Calls Tryz.prog 86 #[.string (S l), .string (S [59])] w fun e w' => e = .returned (.tuple #[.string (S l), .string ⟨#[]⟩, .bool false]) ∧ w = w' := by
  have hc := Tryz.stringslite_Index_one (S l) 59 w
  rw [list_S, index_no l 59 h] at hc
  generalize S l = L at hc
  go_enter Tryz.func86, Tryz.ntmps86
  go_wp2_with (go_at_call 101; refine hc.mono ?_; rintro e w' ⟨rfl, rfl⟩)
  go_ret3
  exact ⟨rfl, rfl⟩
theorem cut0_yes (l : List UInt8) (h : 59 ∈ l) (hl : l.length ≤ 4611686018427387904) (w : World) :
    Calls Tryz.prog 86 #[.string (S l), .string (S [59])] w fun e w' => e = .returned (.tuple #[.string (S (innerOf l)), .string (S (l.drop ((innerOf l).length + 1))), .bool true]) ∧ Below w.heap.size w w' := by
  have hc := Tryz.stringslite_Index_one (S l) 59 w
  rw [list_S, index_at l h] at hc
  have hk := inner_len l h
  have e1 : (S l).extract 0 (innerOf l).length = S (innerOf l) := by rw [cutTo, list_S, inner_take]
  have e2 : (S l).extract ((innerOf l).length + 1) (S l).size = S (l.drop ((innerOf l).length + 1)) := by rw [cutFrom, list_S]
  generalize (innerOf l).length = k at hc hk e1 e2
  have hz : ((S l).size : Int) = (l.length : Int) := by rw [size_S]
  have hzn : (S l).size = l.length := size_S l
  rw [← e1, ← e2]
  have HE := Lib.hid (And.intro e1 e2)
  have h1 : (0 : Int) ≤ (k : Int) := by omega
  have h2 : (k : Int) ≤ ((S l).size : Int) := by omega
  have h3 : (k : Int) + 1 ≤ ((S l).size : Int) := by omega
  have h4 : IntKind.i64.wrap ((k : Int) + 1) = (k : Int) + 1 := by rw [IntKind.wrap_i64]; omega
  have h5 : (0 : Int) ≤ (k : Int) + 1 := by omega
  have h6 : ((k : Int) + 1).toNat = k + 1 := by omega
  clear e1 e2 hz hzn
  generalize S l = L at hc h2 h3 HE
  have H4 := Lib.hid h4
  clear h4
  go_enter Tryz.func86, Tryz.ntmps86
  go_wp2_with (go_at_call 101; refine hc.mono ?_; rintro e w' ⟨rfl, rfl⟩)
  have h4 := H4.out
  go_quiet (fail)
  rename_i nq _
  go_wp2
  go_ret3
  exact ⟨rfl, drewB (Below.refl _ _) nq⟩
theorem cut_no (l : List UInt8) (h : 59 ∉ l) (w : World) :
    Calls Tryz.prog 58 #[.string (S l), .string (S [59])] w fun e w' => e = .returned (.tuple #[.string (S l), .string ⟨#[]⟩, .bool false]) ∧ Below w.heap.size w w' := by
  have hc := cut0_no l h w
  generalize S l = L at hc
  go_enter Tryz.func58, Tryz.ntmps58
  go_wp2_with (go_at_call 86; refine hc.mono ?_; rintro e w' ⟨rfl, rfl⟩)
  go_ret3
  exact ⟨rfl, Below.refl _ _⟩
theorem cut_yes (l : List UInt8) (h : 59 ∈ l) (hl : l.length ≤ 4611686018427387904) (w : World) :
    Calls Tryz.prog 58 #[.string (S l), .string (S [59])] w fun e w' => e = .returned (.tuple #[.string (S (innerOf l)), .string (S (l.drop ((innerOf l).length + 1))), .bool true]) ∧ Below w.heap.size w w' := by
  have hc := cut0_yes l h hl w
  generalize S l = L at hc
  generalize S (innerOf l) = L1 at hc
  generalize S (l.drop ((innerOf l).length + 1)) = L2 at hc
  go_enter Tryz.func58, Tryz.ntmps58
  go_wp2_with (go_at_call 86; refine hc.mono ?_; rintro e w' ⟨rfl, hb⟩)
  go_ret3
  exact ⟨rfl, hb⟩

/-! ### escaped -/
theorem eqB (a b : List UInt8) : ((S a).toList == (S b).toList) = decide (a = b) := by
  rw [ByteArray.toList_eq, ByteArray.toList_eq, list_S, list_S]
  by_cases h : a = b
  · rw [h]; simp
  · rw [decide_eq_false h, beq_eq_false_iff_ne]; exact h
theorem eqL (a b : List UInt8) : ((S a).toList == b) = decide (a = b) := by
  rw [ByteArray.toList_eq, list_S]
  by_cases h : a = b
  · rw [h]; simp
  · rw [decide_eq_false h, beq_eq_false_iff_ne]; exact h
theorem eqB1 (c d : UInt8) {b : Bool} (h : decide (c = d) = b) : ((S [c]).toList == [d]) = b := by
  rw [← h, eqL]
  by_cases e : c = d <;> simp [e]

set_option maxHeartbeats 1000000 in
theorem escaped_c (c : UInt8) (w : World) :
    Calls Tryz.prog 52 #[.string (S [c])] w fun e w' => e = .returned (.string (S (escO c))) ∧ w = w' := by
  unfold escO
  by_cases h1 : c = 38
  · subst h1
    rw [if_pos rfl]
    go_enter Tryz.func52, Tryz.ntmps52
    go_wp2
    go_ret
    exact ⟨rfl, rfl⟩
  rw [if_neg h1]
  have f1 := eqB1 c 38 (decide_eq_false h1)
  by_cases h2 : c = 60
  · subst h2
    rw [if_pos rfl]
    go_enter Tryz.func52, Tryz.ntmps52
    go_wp2
    go_ret
    exact ⟨rfl, rfl⟩
  rw [if_neg h2]
  have f2 := eqB1 c 60 (decide_eq_false h2)
  by_cases h3 : c = 62
  · subst h3
    rw [if_pos rfl]
    go_enter Tryz.func52, Tryz.ntmps52
    go_wp2
    go_ret
    exact ⟨rfl, rfl⟩
  rw [if_neg h3]
  have f3 := eqB1 c 62 (decide_eq_false h3)
  by_cases h4 : c = 34
  · subst h4
    rw [if_pos rfl]
    go_enter Tryz.func52, Tryz.ntmps52
    go_wp2
    go_ret
    exact ⟨rfl, rfl⟩
  rw [if_neg h4]
  have f4 := eqB1 c 34 (decide_eq_false h4)
  by_cases h5 : c = 39
  · subst h5
    rw [if_pos rfl]
    go_enter Tryz.func52, Tryz.ntmps52
    go_wp2
    go_ret
    exact ⟨rfl, rfl⟩
  rw [if_neg h5]
  have f5 := eqB1 c 39 (decide_eq_false h5)
  by_cases h6 : c = 43
  · subst h6
    rw [if_pos rfl]
    go_enter Tryz.func52, Tryz.ntmps52
    go_wp2
    go_ret
    exact ⟨rfl, rfl⟩
  rw [if_neg h6]
  have f6 := eqB1 c 43 (decide_eq_false h6)
  generalize S [c] = T at f1 f2 f3 f4 f5 f6
  clear h1 h2 h3 h4 h5 h6
  go_enter Tryz.func52, Tryz.ntmps52
  go_wp2
  go_ret
  exact ⟨rfl, rfl⟩

/-! ### character -/
theorem character_c (n : Nat) (w : World) :
    Calls Tryz.prog 90 #[.int .i64 (n : Int)] w fun e w' => e = .returned (.string (S (standL n))) ∧ Below w.heap.size w w' := by
  unfold standL
  by_cases hc : isChar (n : Int)
  · have he := encode_yes (n : Int) w (decide_eq_true hc)
    by_cases h0 : n = 0
    · subst h0
      rw [if_neg (by simp)]
      generalize S (encodeRune ((0 : Nat) : Int)) = T at he
      have he' : Calls Tryz.prog 103 #[.int .i64 0] w fun e w' => e = .returned (.tuple #[.string T, .int .i64 0]) ∧ Below w.heap.size w w' := he
      clear he hc
      show Calls Tryz.prog 90 #[.int .i64 0] w _
      go_enter Tryz.func90, Tryz.ntmps90
      go_wp2_with (go_at_call 103; refine he'.mono ?_; rintro e w1 ⟨rfl, h1⟩)
      go_ret
      exact ⟨rfl, h1⟩
    · rw [if_pos ⟨hc, h0⟩]
      have hb : ((n : Int) == 0) = false := by simp; exact h0
      generalize S (encodeRune (n : Int)) = T at he
      clear hc h0
      generalize (n : Int) = m at he hb
      go_enter Tryz.func90, Tryz.ntmps90
      go_wp2_with (go_at_call 103; refine he.mono ?_; rintro e w1 ⟨rfl, h1⟩)
      go_ret
      exact ⟨rfl, h1⟩
  · have he := encode_no (n : Int) w (decide_eq_false hc)
    rw [if_neg (fun h => hc h.1)]
    clear hc
    generalize (n : Int) = m at he
    go_enter Tryz.func90, Tryz.ntmps90
    go_wp2_with (go_at_call 103; refine he.mono ?_; rintro e w1 ⟨rfl, h1⟩)
    go_ret
    exact ⟨rfl, h1⟩

/-! ### names -/
abbrev namesV : Value := .agg #[.string ⟨#[97, 109, 112]⟩, .string ⟨#[38]⟩, .string ⟨#[108, 116]⟩, .string ⟨#[60]⟩, .string ⟨#[103, 116]⟩, .string ⟨#[62]⟩, .string ⟨#[113, 117, 111, 116]⟩, .string ⟨#[34]⟩, .string ⟨#[97, 112, 111, 115]⟩, .string ⟨#[39]⟩]
theorem names_c (w : World) : Calls Tryz.prog 88 #[] w fun e w' => e = .returned namesV ∧ Below w.heap.size w w' := by
  go_enter Tryz.func88, Tryz.ntmps88
  go_wp2
  refine bodyPost_ret (v := namesV) (by simp [results, Tryz.results88, go_sem]) rfl ?_
  exact ⟨rfl, (Below.refl _ w).alloc (Nat.le_refl _) _⟩
end Go.Proofs.YtidfcajhmldieaaGreatDoor.Crf

/-
  Contract of octets.Hex: the lowest digits of base 16, in two's complement.
-/
namespace Go.Proofs.YtidfcajhmldieaaGreatDoor.Oct
open Go.RowKit

theorem wraps_u64 (n : Int) (h₀ : 0 ≤ n) (h₁ : n < 2 ^ 64) : IntKind.u64.wrap n = n := by rw [IntKind.wrap_u64]; omega
theorem and15 (m e : Nat) (hm : m < 18446744073709551616) : bits .and .u64 ((m : Int) / 2 ^ e) 15 = ((m / 2 ^ e % 16 : Nat) : Int) := by
  have e1 : ((m : Int) / 2 ^ e) = ((m / 2 ^ e : Nat) : Int) := by simp
  have hle : m / 2 ^ e ≤ m := Nat.div_le_self _ _
  rw [e1]
  generalize m / 2 ^ e = x at hle
  have h := bits_mask .u64 64 (by decide) wraps_u64 4 (by decide) (x : Int) (by omega) (by omega)
  have e2 : ((2 : Int) ^ 4 - 1) = 15 := by decide
  rw [e2] at h
  rw [h]
  omega

end Go.Proofs.YtidfcajhmldieaaGreatDoor.Oct

/-
  Contract of octets.Unhex: the number whose digits of base 16 a text is.
-/
namespace Go.Proofs.YtidfcajhmldieaaGreatDoor.Oct
open Go.RowKit

def hexC (c : UInt8) : Int := hexI (c.toNat : Int)
def valL (l : List UInt8) : Nat := l.foldl (fun n c => n * 16 + (hexC c).toNat) 0
/-- The number, and the error's. -/
def unhexL (l : List UInt8) : Nat × Nat :=
  if l = [] then (0, 8) else if 8 < l.length then (0, 5) else if l.all (fun c => decide (0 ≤ hexC c)) then (valL l, 0) else (0, 33)

theorem hexC_le (c : UInt8) : hexC c ≤ 15 := (hexI_range _).2
theorem valL_snoc (l : List UInt8) (c : UInt8) : valL (l ++ [c]) = valL l * 16 + (hexC c).toNat := by simp [valL]
theorem valL_lt (l : List UInt8) : valL l < 16 ^ l.length := by
  have gen : ∀ (l : List UInt8) (a e : Nat), a < 16 ^ e → l.foldl (fun n c => n * 16 + (hexC c).toNat) a < 16 ^ (e + l.length) := by
    intro l
    induction l with
    | nil => intro a e h; simpa using h
    | cons c l ih =>
      intro a e h
      have hc := hexC_le c
      have := ih (a * 16 + (hexC c).toNat) (e + 1) (by rw [Nat.pow_succ]; omega)
      rw [List.foldl_cons, List.length_cons, show e + (l.length + 1) = e + 1 + l.length by omega]
      exact this
  have := gen l 0 0 (by simp)
  simpa [valL] using this
theorem valL_le (l : List UInt8) (k : Nat) (h : k ≤ 7) : valL (l.take k) < 268435456 := by
  have h1 := valL_lt (l.take k)
  have h2 : (l.take k).length ≤ 7 := by rw [List.length_take]; omega
  have h3 : 16 ^ (l.take k).length ≤ 16 ^ 7 := Nat.pow_le_pow_right (by omega) h2
  omega
theorem take_at (s : ByteArray) (k : Nat) (h : k < s.size) : s.data.toList.take (k + 1) = s.data.toList.take k ++ [s[k]] := by
  rw [List.take_succ_eq_append_getElem (by rw [size_list]; exact h)]; rfl

theorem unhex_none (s : ByteArray) : (firstOf (fun k => decide (hexC (at' s k) < 0)) 0 s.size == s.size) = s.data.toList.all (fun c => decide (0 ≤ hexC c)) := by
  rw [firstOf_all, ← all_at]
  congr 1
  funext k
  rw [Bool.eq_iff_iff]; simp

theorem or_digit (x : Int) (y : Int) (h0 : 0 ≤ x) (h1 : x ≤ 268435456) (h2 : 0 ≤ y) (h3 : y ≤ 15) : bits .or .i64 (x * 16) y = x * 16 + y := by
  exact bits_join .i64 62 (by decide) (fun n h0 h1 => by rw [IntKind.wrap_i64]; omega) 4 (x * 16) y (by omega) (by omega) (by omega) h2 (by omega) (by omega)

theorem enter_unhex : ∀ args w, (callFunc 116 args).run Tryz.prog w = .ok (.enter 116 args) w := enters_of Tryz.func116 (by kernel_rfl) rfl

theorem unhex1_c (s : ByteArray) (k b : Nat) (w : World) (hk : k < s.size) (hc : w.cell? ⟨b, 0, none⟩ = some (.string s)) :
    Calls Tryz.prog 116 #[.int .i64 (k : Int), .pointer (some ⟨b, 0, none⟩)] w fun e w' => e = .returned (.bool (decide (hexC (at' s k) < 0))) ∧ w = w' := by
  have hb : (s[k].toNat : Int) ≤ 255 := by have := s[k].toNat_lt; omega
  have E : Hid ((at' s k) = s[k]) := (at_eq s k hk).symm
  go_enter Tryz.func116, Tryz.ntmps116
  go_wp2_with (go_at_call 117; refine (digitValue_c _ _ (by omega) (by omega)).mono ?_; rintro e w' ⟨rfl, rfl⟩)
  go_ret
  exact ⟨ret_bool (by rw [E.out]; rfl), rfl⟩

theorem unhex_c (s : ByteArray) (w : World) :
    Calls Tryz.prog 102 #[.string s] w fun e w' => e = .returned (.tuple #[.int .i64 ((unhexL s.data.toList).1 : Int), .int .i64 ((unhexL s.data.toList).2 : Int)]) ∧ Below w.heap.size w w' := by
  by_cases h0 : s.size = 0
  · have hs : s = ⟨#[]⟩ := by
      apply ByteArray.ext
      exact Array.eq_empty_of_size_eq_zero h0
    subst hs
    go_enter Tryz.func102, Tryz.ntmps102
    go_wp2
    go_ret2
    exact ⟨rfl, (Below.refl _ w).alloc (Nat.le_refl _) _⟩
  · have hne : s.data.toList ≠ [] := by intro h; apply h0; rw [← size_list, h]; rfl
    have he : s.data.toList.isEmpty = false := by rw [List.isEmpty_eq_false_iff]; exact hne
    have he' : s.toList.isEmpty = false := by rw [ByteArray.toList_eq]; exact he
    by_cases h8 : 8 < s.size
    · have F : Hid (unhexL s.data.toList = (0, 5)) := by
        show _ = _
        unfold unhexL
        rw [if_neg hne, if_pos (by rw [size_list]; exact h8)]
      clear hne
      go_enter Tryz.func102, Tryz.ntmps102
      go_wp2
      go_ret2
      exact ⟨by rw [F.out]; rfl, (Below.refl _ w).alloc (Nat.le_refl _) _⟩
    · have hlen : s.size ≤ 8 := by omega
      have hn := none_c s.size 116 #[.pointer (some ⟨w.heap.size, 0, none⟩)] (fun k => decide (hexC (at' s k) < 0)) (w.alloc (.cells #[.string s] 9)) (by omega) enter_unhex
        (fun k W hk hb => (unhex1_c s k w.heap.size W hk (by rw [hb.cell (by simp)]; simp)).mono fun _ _ ⟨he, hw⟩ => ⟨he, hw ▸ hb⟩)
      rw [unhex_none] at hn
      cases hall : s.data.toList.all (fun c => decide (0 ≤ hexC c)) with
      | false =>
        have F : Hid (unhexL s.data.toList = (0, 33)) := by
          show _ = _
          unfold unhexL
          rw [if_neg hne, if_neg (by rw [size_list]; exact h8), hall]
          rfl
        rw [hall] at hn
        clear hall hne h8 h0
        go_enter Tryz.func102, Tryz.ntmps102
        go_wp2_with (go_at_call 91; refine hn.mono ?_; rintro e w' ⟨rfl, hb⟩)
        go_ret2
        exact ⟨by rw [F.out]; rfl, ((Below.refl _ w).alloc (Nat.le_refl _) _).trans (hb.mono (by simp))⟩
      | true =>
        have F : Hid (unhexL s.data.toList = (valL s.data.toList, 0)) := by
          show _ = _
          unfold unhexL
          rw [if_neg hne, if_neg (by rw [size_list]; exact h8), hall]
          rfl
        rw [hall] at hn
        have HA := Lib.hid hall
        clear hall hne h8 h0
        go_enter Tryz.func102, Tryz.ntmps102
        go_wp2_with (go_at_call 91; refine hn.mono ?_; rintro e w1 ⟨rfl, hb⟩; have hc1 : w1.cell? ⟨w.heap.size, 0, none⟩ = some (.string s) := by (rw [hb.cell (by simp)]; simp))
        have hbw : Hid (Below w.heap.size w w1) := ((Below.refl _ w).alloc (Nat.le_refl _) _).trans (hb.mono (by simp))
        clear hn hb
        go_loop [4, 5, 21] (fun n _ i => ∃ k : Nat, k ≤ s.size ∧ i = .int .i64 k ∧ n = .int .i64 (valL (s.data.toList.take k) : Nat)) (fun _ _ i => s.size - (intOf i).toNat)
        case atStart => exact ⟨0, Nat.zero_le _, rfl, rfl⟩
        case round =>
          obtain ⟨k, hk, rfl, rfl⟩ := hrel
          by_cases hlt : k < s.size
          · have hv := valL_le s.data.toList k (by omega)
            have hb1 : (s[k].toNat : Int) ≤ 255 := by have := s[k].toNat_lt; omega
            have HV : Hid (valL (s.data.toList.take (k + 1)) = valL (s.data.toList.take k) * 16 + (hexC s[k]).toNat) := by show _ = _; rw [take_at s k hlt, valL_snoc]
            have hd := (hexI_range (s[k].toNat : Int)).2
            have hd0 : 0 ≤ hexI (s[k].toNat : Int) := by
              have := List.all_eq_true.1 HA.out s[k] (by rw [ByteArray.getElem_eq_getElem_data]; simp)
              exact of_decide_eq_true this
            have ho := or_digit (valL (s.data.toList.take k) : Nat) (hexI (s[k].toNat : Int)) (by omega) (by omega) hd0 hd
            generalize valL (s.data.toList.take k) = v at hv HV ho
            go_wp2_with (go_at_call 117; refine (digitValue_c _ _ (by omega) (by omega)).mono ?_; rintro e w' ⟨rfl, rfl⟩)
            go_round
            case rel =>
              refine ⟨k + 1, by omega, by go_num, ?_⟩
              rw [HV.out]
              congr 1
              unfold hexC
              omega
            case measure => simp [intOf]; omega
          · go_wp2
            go_ret2
            have hke : s.data.toList.take k = s.data.toList := List.take_of_length_le (by rw [size_list]; omega)
            exact ⟨by rw [F.out, hke]; rfl, hbw.out⟩

end Go.Proofs.YtidfcajhmldieaaGreatDoor.Oct
