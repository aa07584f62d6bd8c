/-
  Part 1: FindPure, FindPage, Bytes, RefTexts, TkcRawLaw.
-/
import Derived.Test.YtidfcajhmldieaaTokPlainAllP1
import Derived.Test.YtidfcajhmldieaaProg
import Derived.LoopTactic
import Derived.Lib.Hide
import Derived.Lib.Strings
import Derived.Test.YtidfcajhmldieaaTokPlainAllP3
import Derived.Lib.BufferRead
import Derived.Test.YtidfcajhmldieaaTokPlainAllP9
import Derived.Test.YtidfcajhmldieaaTokPlainAllP2
import Derived.Test.YtidfcajhmldieaaTokPlainAllP6
import Derived.BigQuiet
import Derived.Deep.RegionHeld3
/-
  Where a text first stands in another one, with no program.
-/
namespace Go.Proofs.Ytidfcajhmldieaa.Lex
open Go.Proofs.Ytidfcajhmldieaa.Oct

/-- The first place of a text in another one. -/
def findL (p : List UInt8) : List UInt8 → Option Nat
  | [] => if p.isEmpty then some 0 else none
  | c :: t => if p.isPrefixOf (c :: t) then some 0 else (findL p t).map (· + 1)
theorem find_some {p : List UInt8} {l : List UInt8} {n : Nat} (h : findL p l = some n) : p <+: l.drop n := by
  induction l generalizing n with
  | nil =>
    unfold findL at h
    split at h
    · rename_i q
      injection h with h
      subst h
      rw [List.isEmpty_iff.1 q]
      exact List.nil_prefix
    · cases h
  | cons c t ih =>
    unfold findL at h
    split at h
    · rename_i q
      injection h with h
      subst h
      exact List.isPrefixOf_iff_prefix.1 q
    · obtain ⟨m, hm, rfl⟩ := Option.map_eq_some_iff.1 h
      exact ih hm
theorem find_long {p : List UInt8} : ∀ {l : List UInt8}, l.length < p.length → findL p l = none
  | [], h => by
    unfold findL
    rw [if_neg (by cases p with
      | nil => exact absurd h (by simp)
      | cons c t => simp)]
  | c :: t, h => by
    unfold findL
    rw [if_neg (fun q => by have := (List.isPrefixOf_iff_prefix.1 q).length_le; omega), find_long (l := t) (by rw [List.length_cons] at h; omega)]
    rfl
theorem find_yes {p l : List UInt8} (h : p.isPrefixOf l = true) : findL p l = some 0 := by
  cases l with
  | nil =>
    have := List.isPrefixOf_iff_prefix.1 h
    unfold findL
    rw [if_pos (by simpa using this)]
  | cons c t =>
    unfold findL
    rw [if_pos h]
theorem find_no {p l : List UInt8} (h : p.isPrefixOf l = false) (hl : p.length ≤ l.length) : findL p l = (findL p (l.drop 1)).map (· + 1) := by
  cases l with
  | nil =>
    rw [List.length_nil, Nat.le_zero, List.length_eq_zero_iff] at hl
    subst hl
    simp at h
  | cons c t =>
    show findL p (c :: t) = (findL p t).map (· + 1)
    conv => lhs; unfold findL
    rw [if_neg (by rw [h]; simp)]
def findI (p l : List UInt8) : Int := match findL p l with
  | some n => (n : Int)
  | none => -1
end Go.Proofs.Ytidfcajhmldieaa.Lex

/-
  Contract of the page's Find: where a text first stands in another one.
-/
namespace Go.Proofs.Ytidfcajhmldieaa.Lex
open Go.RowKit Go.Proofs.Ytidfcajhmldieaa.Oct

theorem eqP (a b : List UInt8) : ((S a).toList == (S b).toList) = decide (a = b) := by
  rw [ByteArray.toList_eq, ByteArray.toList_eq, list_S, list_S]
  by_cases h : a = b
  · rw [h]; simp
  · rw [decide_eq_false h, beq_eq_false_iff_ne]; exact h
theorem pre_take (p l : List UInt8) : decide (l.take p.length = p) = p.isPrefixOf l := by
  rw [Bool.eq_iff_iff, decide_eq_true_eq, List.isPrefixOf_iff_prefix, List.prefix_iff_eq_take]
  exact eq_comm

set_option maxHeartbeats 1000000 in
theorem rfind_c (l p : List UInt8) (hl : l.length ≤ 140737488351240) (hp : p.length ≤ 140737488351232) (w : World) :
    Calls Try.prog 12 #[.string (S l), .string (S p)] w fun e w' => e = .returned (.int .i64 (findI p l)) ∧ w = w' := by
  have zl : ((S l).size : Int) = (l.length : Int) := by rw [size_S]
  have zp : ((S p).size : Int) = (p.length : Int) := by rw [size_S]
  have HC : Hid (∀ k : Nat, (S l).extract k (k + p.length) = S ((l.drop k).take p.length)) := by
    show ∀ k : Nat, _
    intro k
    rw [Lib.extract_eq, Nat.add_sub_cancel_left, list_S]
  have HE := Lib.hid (fun k : Nat => (eqP ((l.drop k).take p.length) p).trans (pre_take p (l.drop k)))
  have hli : (l.length : Int) ≤ 140737488351240 := by omega
  have hpi : (p.length : Int) ≤ 140737488351232 := by omega
  have hp0 : (0 : Int) ≤ (p.length : Int) := by omega
  generalize S l = L at *
  generalize S p = P at *
  go_enter Try.func12, Try.ntmps12
  go_wp2_with fail
  go_loop [5] (fun i => ∃ k : Nat, k ≤ l.length + 1 ∧ i = .int .i64 k ∧ Hid (0 < k → 0 < p.length) ∧ Hid (findL p l = (findL p (l.drop k)).map (· + k))) (fun i => l.length + 1 - (intOf i).toNat)
  case atStart => exact ⟨0, Nat.zero_le _, rfl, fun h => absurd h (by omega), by show _ = _; simp⟩
  case round =>
    obtain ⟨k, hk, rfl, hz, hr⟩ := hrel
    have i0 : (0 : Int) ≤ (k : Int) := by omega
    have i1 : (k : Int) ≤ 140737488351241 := by omega
    by_cases hlt : k + p.length ≤ l.length
    · have hc := HC.out k
      have he := HE.out k
      have i2 : (k : Int) + (p.length : Int) = ((k + p.length : Nat) : Int) := by omega
      have i3 : ((k + p.length : Nat) : Int) ≤ (l.length : Int) := by omega
      have i4 : (k : Int) ≤ ((k + p.length : Nat) : Int) := by omega
      have hle : p.length ≤ (l.drop k).length := by rw [List.length_drop]; omega
      cases hq : p.isPrefixOf (l.drop k) with
      | true =>
        have HR : Hid (findI p l = (k : Int)) := by
          show _ = _
          unfold findI
          rw [hr.out, find_yes hq]
          simp
        rw [hq] at he
        clear hq
        generalize S ((l.drop k).take p.length) = X at hc he
        generalize k + p.length = n at hc i2 i3 i4 hlt
        go_wp2_with fail
        go_ret
        exact ⟨ret_int HR.out.symm, rfl⟩
      | false =>
        have HN : Hid (findL p l = (findL p (l.drop (k + 1))).map (· + (k + 1))) := by
          show _ = _
          rw [hr.out, find_no hq hle, List.drop_drop, Option.map_map]
          congr 1
          funext x
          simp
          omega
        have HZ : Hid (0 < k + 1 → 0 < p.length) := fun _ => by
          cases p with
          | nil => simp at hq
          | cons c t => simp
        rw [hq] at he
        clear hq
        generalize S ((l.drop k).take p.length) = X at hc he
        generalize k + p.length = n at hc i2 i3 i4 hlt
        go_wp2_with fail
        go_round
        case rel => exact ⟨k + 1, by omega, by go_num, HZ, HN⟩
        case measure => simp [intOf]; omega
    · have HR : Hid (findI p l = -1) := by
        show _ = _
        unfold findI
        have h0 := hz.out
        rw [hr.out, find_long (by rw [List.length_drop]; omega)]
        rfl
      have i2 : (l.length : Int) < (k : Int) + (p.length : Int) := by omega
      go_wp2_with fail
      go_ret
      exact ⟨ret_int HR.out.symm, rfl⟩
end Go.Proofs.Ytidfcajhmldieaa.Lex

/-
  Octets in memory: a slice of octets that the call itself made; what it is as a text.
-/
namespace Go.Proofs.Ytidfcajhmldieaa.Oct
open Go.RowKit

/-- An octet's value. -/
abbrev bv (c : UInt8) : Value := .int .u8 (c.toNat : Int)

/-- 'string(b)' of a slice of the call's own that holds the octets l, nil or not. -/
theorem conv_own {w : World} {base n : Nat} {v : Value} {l : List UInt8} (h : w.ownsRow base 5 1 v n (l.map bv)) :
    (convert 39 9 v).run Try.prog w = .ok (.string (S l)) w := by
  have hn : l.length = n := by simpa using h.1
  rcases h.2 with ⟨rfl, hz⟩ | ⟨g, cap, cur, rfl, hg, hh, hnc, hcm, hcs, htk⟩
  · have hl : l = [] := List.eq_nil_of_length_eq_zero (by omega)
    subst hl
    exact Lib.run_convert_nil_bytes w _ _ 5 0 Try.underlying39 Try.underlying5 Try.underlying9
  · subst hn
    exact run_convert_bytes_back w _ _ 5 ⟨g, 0, none⟩ cap l Try.underlying39 Try.underlying5 Try.underlying9
      (fun j hj => by
        have h1 := h.cellAt j (by omega)
        rw [Addr.add_lit, Nat.zero_add, h1]
        simp [hj])

/-- The cells of the first k octets of l. -/
def cellsTo (l : List UInt8) (k : Nat) : List Value := (l.take k).map bv
theorem cellsTo_all (l : List UInt8) (k : Nat) (h : l.length ≤ k) : cellsTo l k = l.map bv := by unfold cellsTo; rw [List.take_of_length_le h]
theorem cellsTo_succ (l : List UInt8) (k : Nat) (c : UInt8) (h : l[k]? = some c) : cellsTo l k ++ [bv c] = cellsTo l (k + 1) := by
  unfold cellsTo
  rw [List.take_add_one, h]
  simp

theorem own_base {w : World} {base n : Nat} {e : TypeId} {v : Value} {xs : List Value} (h : w.ownsRow base e 1 v n xs) : ∀ k, v.ownBlock = some k → base ≤ k := by
  intro k hk
  rcases h.2 with ⟨rfl, _⟩ | ⟨g, cap, cur, rfl, hg, _⟩
  · simp [Value.ownBlock] at hk
  · simp [Value.ownBlock] at hk; omega

/-- The new octet's cell, as an append of one octet asks for it. -/
theorem push_cell {w : World} {x : Int} {c : UInt8} (h : x = (c.toNat : Int)) (j : Nat) (u : Value) (hj : [bv c][j]? = some u) :
    (w.alloc (.cells #[.int .u8 x] 5)).cell? ((⟨w.heap.size, 0, none⟩ : Addr).add j) = some u := by
  subst h
  match j, hj with
  | 0, hj => simp at hj; subst hj; simp [Addr.add]
theorem push_one {c : UInt8} (u : Value) (hu : u ∈ [bv c]) : u.oneCell' = true := by simp at hu; subst hu; rfl

/-- Behind an append of one octet. -/
theorem push_own {w wr w1 : World} {B k : Nat} {v v' : Value} {l : List UInt8} {c : UInt8} {o : Obj} (hrow : wr.ownsRow B 5 1 v k (cellsTo l k)) (hbel : Below B w wr) (hB : B ≤ wr.heap.size)
    (hown : w1.ownsRow B 5 1 v' (k + 1) (cellsTo l k ++ [bv c])) (hgrow : (wr.alloc o).grownBy w1 v.ownBlock) (hl : l[k]? = some c) :
    w1.ownsRow B 5 1 v' (k + 1) (cellsTo l (k + 1)) ∧ Below B w w1 :=
  ⟨cellsTo_succ l k c hl ▸ hown, (hbel.alloc hB _).grown hgrow (by simp; omega) (own_base hrow)⟩
end Go.Proofs.Ytidfcajhmldieaa.Oct

/-
  Contracts of the page's answers on texts: small and great letters.
-/
namespace Go.Proofs.Ytidfcajhmldieaa.Oct
open Go.RowKit

theorem map_get (s : ByteArray) (k : Nat) (f : UInt8 → UInt8) (h : k < s.size) : (s.data.toList.map f)[k]? = some (f s[k]) := by
  rw [List.getElem?_map, List.getElem?_eq_getElem (by rw [size_list]; exact h)]
  rfl

set_option maxHeartbeats 1000000 in
set_option maxRecDepth 100000 in
theorem rlower_c (s : ByteArray) (w : World) (hs : s.size ≤ 140737488351232) :
    Calls Try.prog 11 #[.string s] w fun e w' => e = .returned (.string (S (s.data.toList.map low))) ∧ Below w.heap.size w w' := by
  obtain ⟨i0, hi, hz0, hz1, hz2⟩ := info_parts info_u8
  go_enter Try.func11, Try.ntmps11
  go_wp2
  go_loopw [3, 4, 5] (fun v i _ wr => ∃ k : Nat, k ≤ s.size ∧ i = .int .i64 k ∧ Hid (wr.ownsRow w.heap.size 5 1 v k (cellsTo (s.data.toList.map low) k)) ∧ Hid (Below w.heap.size w wr)) (fun _ i _ _ => s.size - (intOf i).toNat)
  case atStart => exact ⟨0, Nat.zero_le _, rfl, World.ownsRow_nil _ _ _ _, Below.refl _ _⟩
  case round =>
    obtain ⟨k, hk, rfl, hrow, hbel⟩ := hrel
    by_cases hlt : k < s.size
    · have hb1 : (s[k].toNat : Int) ≤ 255 := by have := s[k].toNat_lt; omega
      have hB : w.heap.size ≤ wr.heap.size := hbel.out.size
      have hL : Hid ((s.data.toList.map low)[k]? = some (low s[k])) := map_get s k low hlt
      have hN : Hid (((low s[k]).toNat : Int) = lowI (s[k].toNat : Int)) := low_toNat _
      by_cases hg : (65 : Int) ≤ (s[k].toNat : Int) ∧ (s[k].toNat : Int) ≤ 90
      · obtain ⟨hg1, hg2⟩ := hg
        have hx : Hid ((s[k].toNat : Int) - 65 + 97 = ((low s[k]).toNat : Int)) := by show _ = _; rw [hN.out, lowI, if_pos ⟨hg1, hg2⟩]; omega
        go_wp2_with (at_builtin; refine wpList_append_own _ rfl _ _ 39 rfl w.heap.size 5 i0 (.int .u8 0) 1 1 Try.underlying39 hi hz0 hz1 hz2 rfl (by decide) _ _ _ rfl (hrow.out.alloc _) ⟨wr.heap.size, 0, none⟩ 1 1 [bv (low s[k])] rfl rfl (push_cell hx.out) push_one (by unfold maxLen; omega) (by omega) (by simp; omega) ?_)
        intro v' w1 hown' hgrow _
        obtain ⟨ho, hb⟩ := push_own hrow.out hbel.out hB hown' hgrow hL.out
        clear hown' hgrow hrow hbel
        have HO := Lib.hid ho
        have HB := Lib.hid hb
        clear ho hb
        go_wp2
        go_roundw
        case rel => exact ⟨k + 1, by omega, by go_num, HO, HB⟩
        case measure => simp [intOf]; omega
      · have hx : Hid ((s[k].toNat : Int) = ((low s[k]).toNat : Int)) := by show _ = _; rw [hN.out, lowI, if_neg hg]
        rcases (show (s[k].toNat : Int) < 65 ∨ 90 < (s[k].toNat : Int) by omega) with hg1 | hg1
        · have hdb : decide ((65 : Int) ≤ (s[k].toNat : Int)) = false := by simp; omega
          clear hg
          go_wp2_with (at_builtin; refine wpList_append_own _ rfl _ _ 39 rfl w.heap.size 5 i0 (.int .u8 0) 1 1 Try.underlying39 hi hz0 hz1 hz2 rfl (by decide) _ _ _ rfl (hrow.out.alloc _) ⟨wr.heap.size, 0, none⟩ 1 1 [bv (low s[k])] rfl rfl (push_cell hx.out) push_one (by unfold maxLen; omega) (by omega) (by simp; omega) ?_)
          intro v' w1 hown' hgrow _
          obtain ⟨ho, hb⟩ := push_own hrow.out hbel.out hB hown' hgrow hL.out
          clear hown' hgrow hrow hbel
          have HO := Lib.hid ho
          have HB := Lib.hid hb
          clear ho hb
          go_wp2
          go_roundw
          case rel => exact ⟨k + 1, by omega, by go_num, HO, HB⟩
          case measure => simp [intOf]; omega
        · have hda : (65 : Int) ≤ (s[k].toNat : Int) := by omega
          clear hg
          go_wp2_with (at_builtin; refine wpList_append_own _ rfl _ _ 39 rfl w.heap.size 5 i0 (.int .u8 0) 1 1 Try.underlying39 hi hz0 hz1 hz2 rfl (by decide) _ _ _ rfl (hrow.out.alloc _) ⟨wr.heap.size, 0, none⟩ 1 1 [bv (low s[k])] rfl rfl (push_cell hx.out) push_one (by unfold maxLen; omega) (by omega) (by simp; omega) ?_)
          intro v' w1 hown' hgrow _
          obtain ⟨ho, hb⟩ := push_own hrow.out hbel.out hB hown' hgrow hL.out
          clear hown' hgrow hrow hbel
          have HO := Lib.hid ho
          have HB := Lib.hid hb
          clear ho hb
          go_wp2
          go_roundw
          case rel => exact ⟨k + 1, by omega, by go_num, HO, HB⟩
          case measure => simp [intOf]; omega
    · have hcv := conv_own (cellsTo_all (s.data.toList.map low) k (by rw [List.length_map, size_list]; omega) ▸ hrow.out)
      clear hrow
      go_wp2
      go_ret
      exact ⟨rfl, hbel.out⟩

end Go.Proofs.Ytidfcajhmldieaa.Oct

/-
  The law TokensRaw, out of the contracts of the calls that it makes.
-/
namespace Go.Proofs.Ytidfcajhmldieaa.Tkc
open Go.RowKit Go.Proofs.Ytidfcajhmldieaa.Oct Go.Proofs.Ytidfcajhmldieaa.Utf Go.Proofs.Ytidfcajhmldieaa.Crf Go.Proofs.Ytidfcajhmldieaa.Tab Go.Proofs.Ytidfcajhmldieaa.Tok

theorem at_four (a : Int) : ∃ m : Nat, (wrap64 (a.tmod 4 + 4)).tmod 4 = (m : Int) ∧ m < 4 := by
  have hL : (0 : Int) < 4 := by omega
  have h1 := Int.tmod_lt_of_pos a hL
  have h2 := Int.lt_tmod_of_pos a hL
  generalize a.tmod 4 = b at *
  have e : wrap64 (b + 4) = b + 4 := by unfold wrap64; omega
  rw [e]
  have h3 := Int.tmod_lt_of_pos (b + 4) hL
  have h4 : 0 ≤ (b + 4).tmod 4 := Int.tmod_nonneg _ (by omega)
  exact ⟨((b + 4).tmod 4).toNat, by omega, by omega⟩
theorem find_none {p : List UInt8} (hp : p ≠ []) : ∀ {l : List UInt8}, Lex.findL p l = none → ∀ j, p.isPrefixOf (l.drop j) = false
  | [], _, j => by
    rw [List.drop_nil]
    cases p with
    | nil => exact absurd rfl hp
    | cons c t => rfl
  | c :: t, h, j => by
    unfold Lex.findL at h
    split at h
    · cases h
    · rename_i q
      have h2 := Option.map_eq_none_iff.1 h
      cases j with
      | zero => exact Bool.eq_false_iff.2 q
      | succ j => exact find_none hp h2 j
theorem raw_cond {p l : List UInt8} (hp : p ≠ []) (h : Lex.findL p (l.map low ++ [60, 47]) = none) : ∀ j, j < l.length → p.isPrefixOf ((l.drop j).map low) = false := by
  intro j hj
  have h1 := find_none hp h j
  cases hq : p.isPrefixOf ((l.drop j).map low) with
  | false => rfl
  | true =>
    exfalso
    have h2 := (List.isPrefixOf_iff_prefix.1 hq).trans (List.prefix_append _ [60, 47])
    rw [List.map_drop, ← List.drop_append_of_le_length (by rw [List.length_map]; omega)] at h2
    rw [List.isPrefixOf_iff_prefix.2 h2] at h1
    cases h1
theorem dec_ne {l : List UInt8} (h : l ≠ []) : decL' l ≠ [] := by
  cases l with
  | nil => exact absurd rfl h
  | cons c t =>
    by_cases h0 : (oneL (c :: t)).2 = 0
    · rw [dec_plain c t h0]
      exact List.cons_ne_nil _ _
    · rw [dec_ref _ h0]
      have h1 : (oneL (c :: t)).1 ≠ [] := by
        unfold oneL at h0 ⊢
        split
        · rename_i u heq
          injection heq with h38 htu
          subst h38
          subst htu
          simp only at h0
          split
          · rename_i hh
            exact hh.2
          · rename_i hh
            rw [if_neg hh] at h0
            exact absurd rfl h0
        · rename_i hno
          exfalso
          revert h0
          split
          · rename_i u heq
            exact absurd heq (hno u)
          · intro h0
            exact h0 rfl
      intro h2
      exact h1 (List.append_eq_nil_iff.1 h2).1
theorem toks_ok {B : Nat} {l : List UInt8} {e : Ending} {w : World} (h : TokTo B l e w) (h1 : l.length ≤ 65536) (h2 : (tokL l).length ≤ 4096) : ∃ v, e = .returned (.tuple #[v, .int .i64 0]) ∧ ToksM B w v (tokL l) := by
  unfold TokTo at h
  rw [if_neg (by omega), if_neg (by omega)] at h
  exact h
theorem one_or (x : List UInt8) : (if x = [] then ([] : List Tk) else [txTk x]).length ≤ 1 := by split <;> simp
def nmN (m : Nat) : List UInt8 := rawsL.getD m []
abbrev namesW (w : World) : World := w.alloc (.cells #[.string ⟨#[116, 105, 116, 108, 101]⟩, .string ⟨#[116, 101, 120, 116, 97, 114, 101, 97]⟩, .string ⟨#[115, 116, 121, 108, 101]⟩, .string ⟨#[115, 99, 114, 105, 112, 116]⟩] 9)
theorem names_cell (w : World) (m : Nat) (hm : m < 4) : (namesW w).cell? ⟨w.heap.size, m, none⟩ = some (.string (S (nmN m))) := by
  rcases (by omega : m = 0 ∨ m = 1 ∨ m = 2 ∨ m = 3) with rfl | rfl | rfl | rfl
  · exact (cell_of_row _ _ 0 _ _ _ (heap_alloc_new w _)).trans rfl
  · exact (cell_of_row _ _ 1 _ _ _ (heap_alloc_new w _)).trans rfl
  · exact (cell_of_row _ _ 2 _ _ _ (heap_alloc_new w _)).trans rfl
  · exact (cell_of_row _ _ 3 _ _ _ (heap_alloc_new w _)).trans rfl
theorem nm_small (m : Nat) : (nmN m).length ≤ 8 := by
  match m with
  | 0 => decide
  | 1 => decide
  | 2 => decide
  | 3 => decide
  | n + 4 => exact Nat.zero_le _
/-- The text that the law asks of. -/
abbrev rawT (m : Nat) (l : List UInt8) : List UInt8 := 60 :: (nmN m ++ 62 :: (l ++ 60 :: 47 :: (nmN m ++ [62])))
/-- Whether a text begins with another one, said of texts. -/
def bgB (x y : ByteArray) : Bool := Lib.hasPrefix y.data.toList x.data.toList
theorem rbg_c (x y : ByteArray) (w : World) : Calls Try.prog 13 #[.string x, .string y] w fun e w' => e = .returned (.bool (bgB x y)) ∧ w = w' :=
  rbegins_c x.data.toList y.data.toList w
set_option maxHeartbeats 4000000 in
set_option maxRecDepth 100000 in
theorem law_raw (W : World) (s : ByteArray) (a : Int) (hs : s.size ≤ 140737488351232) (hM : MaxAt W) :
    Calls Try.prog 5 #[.string s, .int .i64 a] W fun e W' => e = .returned (.bool true) ∧ Below W.heap.size W W' := by
  have ha := alive_c W hM
  have hn := num_c
  have HLow := Lib.hid (fun w => rlower_c s w hs)
  obtain ⟨m, hm, hm4⟩ := at_four a
  have HNM := Lib.hid (nm_small m)
  have hlz : s.data.toList.length = s.size := size_list s
  have hsS : S s.data.toList = s := rfl
  have hFnd := fun w => Lex.rfind_c (s.data.toList.map low ++ [60, 47]) (60 :: 47 :: nmN m) (by rw [List.length_append, List.length_map, hlz]; show s.size + 2 ≤ _; omega) (by have := nm_small m; simp only [List.length_cons]; omega) w
  have HRaw : Hid (Lex.findL (60 :: 47 :: nmN m) (s.data.toList.map low ++ [60, 47]) = none → ∀ x, (if m < 2 then decL' s.data.toList else s.data.toList) = x → tokL (rawT m s.data.toList) = ⟨1, nmN m, [], [], false⟩ :: ((if x = [] then [] else [txTk x]) ++ [⟨2, nmN m, [], [], false⟩])) :=
    fun h x hx => tok_raw m hm4 s.data.toList (raw_cond (List.cons_ne_nil _ _) h) x hx
  have HT := Lib.hid (fun w (h : Below W.heap.size W w) => toks_c (rawT m s.data.toList) w (hM.kept h))
  have HD := Lib.hid (fun (h : s.size ≤ 60000) w => rDecode_c s.data.toList (by omega) w)
  have HBg := Lib.hid rbg_c
  have eL : S (s.data.toList.map low) ++ (⟨#[60, 47]⟩ : ByteArray) = S (s.data.toList.map low ++ [60, 47]) := S_append _ [60, 47]
  have eN : (⟨#[60, 47]⟩ : ByteArray) ++ S (nmN m) = S (60 :: 47 :: nmN m) := S_append [60, 47] (nmN m)
  have E1 := Lib.hid (S_append [60] (nmN m))
  have E2 := Lib.hid (S_append (60 :: nmN m) [62])
  have E3 := Lib.hid (S_append (60 :: nmN m ++ [62]) s.data.toList)
  have E4 := Lib.hid (S_append (60 :: nmN m ++ [62] ++ s.data.toList) [60, 47])
  have E5 := Lib.hid (S_append (60 :: nmN m ++ [62] ++ s.data.toList ++ [60, 47]) (nmN m))
  have E6 := Lib.hid (S_append (60 :: nmN m ++ [62] ++ s.data.toList ++ [60, 47] ++ nmN m) [62])
  have HE := Lib.hid (by simp : 60 :: nmN m ++ [62] ++ s.data.toList ++ [60, 47] ++ nmN m ++ [62] = rawT m s.data.toList)
  have HLen := Lib.hid (by have := nm_small m; unfold rawT; simp only [List.length_cons, List.length_append, List.length_nil]; rw [hlz]; omega : s.size ≤ 60000 → (rawT m s.data.toList).length ≤ 65536)
  have zN : (S (nmN m)).size ≤ 8 := by rw [size_S]; exact nm_small m
  have zL : (S (s.data.toList.map low)).size = s.size := by rw [size_S, List.length_map, hlz]
  have zN2 : (S (nmN m)).size ≤ 140737488351232 := by omega
  have zL2 : (S (s.data.toList.map low)).size ≤ 140737488351232 := by omega
  have hc1 : ¬ (9223372036854775807 < (S (s.data.toList.map low)).size + 2) := by omega
  have hc2 : ¬ (9223372036854775807 < 2 + (S (nmN m)).size) := by omega
  have HN0 := Lib.hid (fun w => names_cell w m hm4)
  have HsE := Lib.hid (by rw [ByteArray.toList_eq, Bool.eq_iff_iff]; simp : (s.toList == []) = decide (s.data.toList = []))
  clear hM
  go_enter Try.func5, Try.ntmps5
  go_wp2_with fail
  refine ha.mono ?_
  clear ha
  rintro e1 w1 ⟨rfl, hb1⟩
  have B1 := Lib.hid hb1
  have hc0 := HN0.out w1
  have hbn : Below w1.heap.size w1 (namesW w1) := (Below.refl _ w1).alloc (Nat.le_refl _) _
  have B1n := Lib.hid (B1.out.trans (hbn.mono B1.out.size))
  clear hb1 hbn
  go_wp2_with fail
  refine (HLow.out _).mono ?_
  rintro e2' w2 ⟨rfl, hb2⟩
  have cN : w2.cell? ⟨w1.heap.size, m, none⟩ = some (.string (S (nmN m))) := (hb2.cell (World.block_lt_of_cell? _ _ hc0)).trans hc0
  have B2 := Lib.hid (B1n.out.trans (hb2.mono B1n.out.size))
  clear hb2 B1 B1n hc0 HN0 HLow
  generalize w1.heap.size = g at cN ⊢
  go_wp2_with fail
  refine (hFnd w2).mono ?_
  clear hFnd
  rintro e3 w3 ⟨rfl, rfl⟩
  have i0 : (0 : Int) ≤ (m : Int) := by omega
  have i4 : (m : Int) < 4 := by omega
  unfold Lex.findI
  cases hfd : Lex.findL (60 :: 47 :: nmN m) (s.data.toList.map low ++ [60, 47]) with
  | some q =>
    have hq : decide ((0 : Int) ≤ (q : Int)) = true := decide_eq_true (by omega)
    go_wp2_with fail
    go_ret
    exact ⟨rfl, B2.out⟩
  | none =>
    have HR := Lib.hid (HRaw.out hfd)
    have H3 : Hid ((tokL (rawT m s.data.toList)).length ≤ 4096) := by
      show _ ≤ _
      have h := one_or (if m < 2 then decL' s.data.toList else s.data.toList)
      rw [HR.out _ rfl, List.length_cons, List.length_append]
      simp only [List.length_cons, List.length_nil]
      omega
    clear HRaw hfd
    by_cases hbig : 60000 < s.size
    · have hd : decide ((60000 : Int) < (s.size : Int)) = true := decide_eq_true (by omega)
      go_wp2_with fail
      go_ret
      exact ⟨rfl, B2.out⟩
    · have hd : decide ((60000 : Int) < (s.size : Int)) = false := decide_eq_false (by omega)
      have hdi : ¬ ((60000 : Int) < (s.size : Int)) := by omega
      go_wp2_with fail
      go_loopw [7] (fun i wr => ∃ k : Nat, k ≤ s.size ∧ i = .int .i64 k ∧ Hid (Below w2.heap.size w2 wr)) (fun i _ => s.size - (intOf i).toNat)
      case atStart => exact ⟨0, Nat.zero_le _, rfl, Below.refl _ _⟩
      case round =>
        obtain ⟨k, hk, rfl, hbw⟩ := hrel
        have cW : wr.cell? ⟨g, m, none⟩ = some (.string (S (nmN m))) := (hbw.out.cell (World.block_lt_of_cell? _ _ cN)).trans cN
        by_cases hlt : k < s.size
        · have hb1 : (s[k].toNat : Int) ≤ 255 := by have := s[k].toNat_lt; omega
          have k0 : (0 : Int) ≤ (k : Int) := by omega
          have k1 : (k : Int) ≤ ((S (s.data.toList.map low)).size : Int) := by omega
          have k2 : (k : Int) < (s.size : Int) := by omega
          cases hq : ((s[k].toNat : Int) == 60) with
          | false =>
            go_wp2_with fail
            go_quiet (fail)
            rename_i nq _
            have hb2 := Lib.hid (hbw.out.trans ((Oct.below_drewN (Below.refl _ wr) nq).mono hbw.out.size))
            clear cW
            go_wp2
            go_roundw
            case rel => exact ⟨k + 1, by omega, by go_num, hb2⟩
            case measure => simp [intOf]; omega
          | true =>
            go_wp2_with fail
            go_quiet ((go_at_call 13; exact Oct.quiet_same (HBg.out _ _ _)))
            rename_i nq _
            have hb2 := Lib.hid (hbw.out.trans ((Oct.below_drewN (Below.refl _ wr) nq).mono hbw.out.size))
            clear cW
            generalize bgB _ _ = bb
            cases bb with
            | true =>
              go_wp2
              go_ret
              exact ⟨rfl, B2.out.trans (hb2.out.mono B2.out.size)⟩
            | false =>
              go_wp2
              go_roundw
              case rel => exact ⟨k + 1, by omega, by go_num, hb2⟩
              case measure => simp [intOf]; omega
        · have hdk : decide ((k : Int) < (s.size : Int)) = false := decide_eq_false (by omega)
          have B3 := Lib.hid (B2.out.trans (hbw.out.mono B2.out.size))
          have htk := HT.out wr.drew B3.out.drew
          clear HT hbw cN B2
          go_wp2_with fail
          have e1 : (⟨#[60]⟩ : ByteArray) ++ S (nmN m) = S (60 :: nmN m) := E1.out
          have e2 : S (60 :: nmN m) ++ (⟨#[62]⟩ : ByteArray) = S (60 :: nmN m ++ [62]) := E2.out
          have e3 : S (60 :: nmN m ++ [62]) ++ s = S (60 :: nmN m ++ [62] ++ s.data.toList) := E3.out
          have e4 : S (60 :: nmN m ++ [62] ++ s.data.toList) ++ (⟨#[60, 47]⟩ : ByteArray) = S (60 :: nmN m ++ [62] ++ s.data.toList ++ [60, 47]) := E4.out
          have e5 : S (60 :: nmN m ++ [62] ++ s.data.toList ++ [60, 47]) ++ S (nmN m) = S (60 :: nmN m ++ [62] ++ s.data.toList ++ [60, 47] ++ nmN m) := E5.out
          have e6 : S (60 :: nmN m ++ [62] ++ s.data.toList ++ [60, 47] ++ nmN m) ++ (⟨#[62]⟩ : ByteArray) = S (rawT m s.data.toList) := by rw [← HE.out]; exact E6.out
          have y1 : (S (60 :: nmN m)).size ≤ 9 := by rw [size_S] at zN ⊢; rw [List.length_cons]; omega
          have y2 : (S (60 :: nmN m ++ [62])).size ≤ 10 := by rw [size_S] at y1 ⊢; rw [List.length_append]; show _ + 1 ≤ _; omega
          have y3 : (S (60 :: nmN m ++ [62] ++ s.data.toList)).size ≤ 60010 := by rw [size_S] at y2 ⊢; rw [List.length_append, hlz]; omega
          have y4 : (S (60 :: nmN m ++ [62] ++ s.data.toList ++ [60, 47])).size ≤ 60012 := by rw [size_S] at y3 ⊢; rw [List.length_append]; show _ + 2 ≤ _; omega
          have y5 : (S (60 :: nmN m ++ [62] ++ s.data.toList ++ [60, 47] ++ nmN m)).size ≤ 60020 := by rw [size_S] at y4 zN ⊢; rw [List.length_append]; omega
          clear E1 E2 E3 E4 E5 E6 HE hsS eL eN hc1 hc2
          generalize S (60 :: nmN m ++ [62] ++ s.data.toList ++ [60, 47] ++ nmN m) = T5 at *
          generalize S (60 :: nmN m ++ [62] ++ s.data.toList ++ [60, 47]) = T4 at *
          generalize S (60 :: nmN m ++ [62] ++ s.data.toList) = T3 at *
          generalize S (60 :: nmN m ++ [62]) = T2 at *
          generalize S (60 :: nmN m) = T1 at *
          obtain ⟨NN, hNN⟩ : ∃ NN, NN = S (nmN m) := ⟨_, rfl⟩
          have HNN := Lib.hid hNN
          rw [← hNN] at e1 e5 zN zN2 cW ⊢
          clear hNN
          have x1 : ¬ (9223372036854775807 < 1 + NN.size) := by omega
          have x2 : ¬ (9223372036854775807 < T1.size + 1) := by omega
          have x3 : ¬ (9223372036854775807 < T2.size + s.size) := by omega
          have x4 : ¬ (9223372036854775807 < T3.size + 2) := by omega
          have x5 : ¬ (9223372036854775807 < T4.size + NN.size) := by omega
          have x6 : ¬ (9223372036854775807 < T5.size + 1) := by omega
          have y0 : s.size ≤ 140737488351232 := hs
          have y1' : T1.size ≤ 140737488351232 := by omega
          have y2' : T2.size ≤ 140737488351232 := by omega
          have y3' : T3.size ≤ 140737488351232 := by omega
          have y4' : T4.size ≤ 140737488351232 := by omega
          have y5' : T5.size ≤ 140737488351232 := by omega
          have k0 : wr.drew.cell? ⟨g, m, none⟩ = some (.string NN) ∧ True := ⟨cW, trivial⟩
          have HcW := Lib.hid cW
          refine wp_region_held_drew (S := (fun w' => w'.cell? ⟨g, m, none⟩ = some (.string NN) ∧ True)) (by kernel_rfl) k0 (fun hHeld => ?_)
          refine wpAnyH_take (i := 0) (v := ?_) rfl (by kernel_rfl) (by kernel_rfl) (by kernel_rfl) (fun _ _ _ h => h) (Or.inl ⟨by kernel_rfl, ?_⟩) (by assumption) ?_
          rotate_left
          · intro w hSw
            try dsimp only at hSw
            obtain ⟨hS0, hS1⟩ := hSw
            go_simp
            try with_reducible rfl
          (try simp only [List.getElem_toArray]); (try simp only [List.getElem_cons_succ]); (try simp only [List.getElem_cons_zero]); (try simp only [Act.put]); (try simp only [List.setIfInBounds_toArray]); (try simp only [List.set_cons_succ]); (try simp only [List.set_cons_zero])
          refine wpAnyH_take (i := 1) (v := ?_) rfl (by kernel_rfl) (by kernel_rfl) (by kernel_rfl) (fun _ _ _ h => h) (Or.inl ⟨by kernel_rfl, ?_⟩) (by assumption) ?_
          rotate_left
          · intro w hSw
            try dsimp only at hSw
            obtain ⟨hS0, hS1⟩ := hSw
            go_simp
            try with_reducible rfl
          (try simp only [List.getElem_toArray]); (try simp only [List.getElem_cons_succ]); (try simp only [List.getElem_cons_zero]); (try simp only [Act.put]); (try simp only [List.setIfInBounds_toArray]); (try simp only [List.set_cons_succ]); (try simp only [List.set_cons_zero])
          refine wpAnyH_take (i := 2) (v := ?_) rfl (by kernel_rfl) (by kernel_rfl) (by kernel_rfl) (fun _ _ _ h => h) (Or.inl ⟨by kernel_rfl, ?_⟩) (by assumption) ?_
          rotate_left
          · intro w hSw
            try dsimp only at hSw
            obtain ⟨hS0, hS1⟩ := hSw
            go_simp
            try with_reducible rfl
          (try simp only [List.getElem_toArray]); (try simp only [List.getElem_cons_succ]); (try simp only [List.getElem_cons_zero]); (try simp only [Act.put]); (try simp only [List.setIfInBounds_toArray]); (try simp only [List.set_cons_succ]); (try simp only [List.set_cons_zero])
          refine wpAnyH_take (i := 3) (v := ?_) rfl (by kernel_rfl) (by kernel_rfl) (by kernel_rfl) (fun _ _ _ h => h) (Or.inl ⟨by kernel_rfl, ?_⟩) (by assumption) ?_
          rotate_left
          · intro w hSw
            try dsimp only at hSw
            obtain ⟨hS0, hS1⟩ := hSw
            go_simp
            try with_reducible rfl
          (try simp only [List.getElem_toArray]); (try simp only [List.getElem_cons_succ]); (try simp only [List.getElem_cons_zero]); (try simp only [Act.put]); (try simp only [List.setIfInBounds_toArray]); (try simp only [List.set_cons_succ]); (try simp only [List.set_cons_zero])
          refine wpAnyH_take (i := 4) (v := ?_) rfl (by kernel_rfl) (by kernel_rfl) (by kernel_rfl) (fun _ _ _ h => h) (Or.inl ⟨by kernel_rfl, ?_⟩) (by assumption) ?_
          rotate_left
          · intro w hSw
            try dsimp only at hSw
            obtain ⟨hS0, hS1⟩ := hSw
            go_simp
            try with_reducible rfl
          (try simp only [List.getElem_toArray]); (try simp only [List.getElem_cons_succ]); (try simp only [List.getElem_cons_zero]); (try simp only [Act.put]); (try simp only [List.setIfInBounds_toArray]); (try simp only [List.set_cons_succ]); (try simp only [List.set_cons_zero])
          refine wpAnyH_take (i := 5) (v := ?_) rfl (by kernel_rfl) (by kernel_rfl) (by kernel_rfl) (fun _ _ _ h => h) (Or.inl ⟨by kernel_rfl, ?_⟩) (by assumption) ?_
          rotate_left
          · intro w hSw
            try dsimp only at hSw
            obtain ⟨hS0, hS1⟩ := hSw
            go_simp
            try with_reducible rfl
          (try simp only [List.getElem_toArray]); (try simp only [List.getElem_cons_succ]); (try simp only [List.getElem_cons_zero]); (try simp only [Act.put]); (try simp only [List.setIfInBounds_toArray]); (try simp only [List.set_cons_succ]); (try simp only [List.set_cons_zero])
          refine wpAnyH_take (i := 6) (v := ?_) rfl (by kernel_rfl) (by kernel_rfl) (by kernel_rfl) (fun _ _ _ h => h) (Or.inl ⟨by kernel_rfl, ?_⟩) (by assumption) ?_
          rotate_left
          · intro w hSw
            try dsimp only at hSw
            obtain ⟨hS0, hS1⟩ := hSw
            go_simp
            try with_reducible rfl
          (try simp only [List.getElem_toArray]); (try simp only [List.getElem_cons_succ]); (try simp only [List.getElem_cons_zero]); (try simp only [Act.put]); (try simp only [List.setIfInBounds_toArray]); (try simp only [List.set_cons_succ]); (try simp only [List.set_cons_zero])
          refine wpAnyH_take (i := 7) (v := ?_) rfl (by kernel_rfl) (by kernel_rfl) (by kernel_rfl) (fun _ _ _ h => h) (Or.inl ⟨by kernel_rfl, ?_⟩) (by assumption) ?_
          rotate_left
          · intro w hSw
            try dsimp only at hSw
            obtain ⟨hS0, hS1⟩ := hSw
            go_simp
            try with_reducible rfl
          (try simp only [List.getElem_toArray]); (try simp only [List.getElem_cons_succ]); (try simp only [List.getElem_cons_zero]); (try simp only [Act.put]); (try simp only [List.setIfInBounds_toArray]); (try simp only [List.set_cons_succ]); (try simp only [List.set_cons_zero])
          refine wpAnyH_take (i := 8) (v := ?_) rfl (by kernel_rfl) (by kernel_rfl) (by kernel_rfl) (fun _ _ _ h => h) (Or.inl ⟨by kernel_rfl, ?_⟩) (by assumption) ?_
          rotate_left
          · intro w hSw
            try dsimp only at hSw
            obtain ⟨hS0, hS1⟩ := hSw
            go_simp
            try with_reducible rfl
          (try simp only [List.getElem_toArray]); (try simp only [List.getElem_cons_succ]); (try simp only [List.getElem_cons_zero]); (try simp only [Act.put]); (try simp only [List.setIfInBounds_toArray]); (try simp only [List.set_cons_succ]); (try simp only [List.set_cons_zero])
          refine wpAnyH_take (i := 9) (v := ?_) rfl (by kernel_rfl) (by kernel_rfl) (by kernel_rfl) (fun _ _ _ h => h) (Or.inl ⟨by kernel_rfl, ?_⟩) (by assumption) ?_
          rotate_left
          · intro w hSw
            try dsimp only at hSw
            obtain ⟨hS0, hS1⟩ := hSw
            go_simp
            try with_reducible rfl
          (try simp only [List.getElem_toArray]); (try simp only [List.getElem_cons_succ]); (try simp only [List.getElem_cons_zero]); (try simp only [Act.put]); (try simp only [List.setIfInBounds_toArray]); (try simp only [List.set_cons_succ]); (try simp only [List.set_cons_zero])
          refine wpAnyH_take (i := 10) (v := ?_) rfl (by kernel_rfl) (by kernel_rfl) (by kernel_rfl) (fun _ _ _ h => h) (Or.inl ⟨by kernel_rfl, ?_⟩) (by assumption) ?_
          rotate_left
          · intro w hSw
            try dsimp only at hSw
            obtain ⟨hS0, hS1⟩ := hSw
            go_simp
            try with_reducible rfl
          (try simp only [List.getElem_toArray]); (try simp only [List.getElem_cons_succ]); (try simp only [List.getElem_cons_zero]); (try simp only [Act.put]); (try simp only [List.setIfInBounds_toArray]); (try simp only [List.set_cons_succ]); (try simp only [List.set_cons_zero])
          refine wpAnyH_take (i := 11) (v := ?_) rfl (by kernel_rfl) (by kernel_rfl) (by kernel_rfl) (fun _ _ _ h => h) (Or.inl ⟨by kernel_rfl, ?_⟩) (by assumption) ?_
          rotate_left
          · intro w hSw
            try dsimp only at hSw
            obtain ⟨hS0, hS1⟩ := hSw
            go_simp
            try with_reducible rfl
          (try simp only [List.getElem_toArray]); (try simp only [List.getElem_cons_succ]); (try simp only [List.getElem_cons_zero]); (try simp only [Act.put]); (try simp only [List.setIfInBounds_toArray]); (try simp only [List.set_cons_succ]); (try simp only [List.set_cons_zero])
          refine wpAnyH_take (i := 12) (v := ?_) rfl (by kernel_rfl) (by kernel_rfl) (by kernel_rfl) (fun _ _ _ h => h) (Or.inl ⟨by kernel_rfl, ?_⟩) (by assumption) ?_
          rotate_left
          · intro w hSw
            try dsimp only at hSw
            obtain ⟨hS0, hS1⟩ := hSw
            go_simp
            try with_reducible rfl
          (try simp only [List.getElem_toArray]); (try simp only [List.getElem_cons_succ]); (try simp only [List.getElem_cons_zero]); (try simp only [Act.put]); (try simp only [List.setIfInBounds_toArray]); (try simp only [List.set_cons_succ]); (try simp only [List.set_cons_zero])
          refine wpAnyH_take (i := 13) (v := ?_) rfl (by kernel_rfl) (by kernel_rfl) (by kernel_rfl) (fun _ _ _ h => h) (Or.inl ⟨by kernel_rfl, ?_⟩) (by assumption) ?_
          rotate_left
          · intro w hSw
            try dsimp only at hSw
            obtain ⟨hS0, hS1⟩ := hSw
            go_simp
            try with_reducible rfl
          (try simp only [List.getElem_toArray]); (try simp only [List.getElem_cons_succ]); (try simp only [List.getElem_cons_zero]); (try simp only [Act.put]); (try simp only [List.setIfInBounds_toArray]); (try simp only [List.set_cons_succ]); (try simp only [List.set_cons_zero])
          refine wpAnyH_take (i := 14) (v := ?_) rfl (by kernel_rfl) (by kernel_rfl) (by kernel_rfl) (fun _ _ _ h => h) (Or.inl ⟨by kernel_rfl, ?_⟩) (by assumption) ?_
          rotate_left
          · intro w hSw
            try dsimp only at hSw
            obtain ⟨hS0, hS1⟩ := hSw
            go_simp
            try with_reducible rfl
          (try simp only [List.getElem_toArray]); (try simp only [List.getElem_cons_succ]); (try simp only [List.getElem_cons_zero]); (try simp only [Act.put]); (try simp only [List.setIfInBounds_toArray]); (try simp only [List.set_cons_succ]); (try simp only [List.set_cons_zero])
          refine wpAnyH_ready (rs := [15]) (by kernel_rfl) (by simp) ?_
          refine AllReadyH.cons rfl (fun K hK => ?_) AllReadyH.nil
          go_simp
          refine (htk).mono ?_
          rintro e4 w4 ⟨ht, hb4⟩
          obtain ⟨v, rfl, hv⟩ := toks_ok ht (HLen.out (by omega)) H3.out
          clear ht
          have hb5 : Below wr.heap.size wr w4 := ⟨hb4.os, hb4.tape, hb4.output, hb4.size, hb4.block⟩
          have k1 : w4.cell? ⟨g, m, none⟩ = some (.string NN) ∧ True := ⟨(hb5.cell (World.block_lt_of_cell? _ _ HcW.out)).trans HcW.out, trivial⟩
          have B4 := Lib.hid (B3.out.trans (hb5.mono B3.out.size))
          clear hb4 hb5 htk
          refine hK.out _ _ k1 (fun hHeld => ?_)
          clear hK K
          (try simp only [List.getElem_toArray]); (try simp only [List.getElem_cons_succ]); (try simp only [List.getElem_cons_zero]); (try simp only [Act.put]); (try simp only [List.setIfInBounds_toArray]); (try simp only [List.set_cons_succ]); (try simp only [List.set_cons_zero])
          refine wpAnyH_take (i := 16) (v := ?_) rfl (by kernel_rfl) (by kernel_rfl) (by kernel_rfl) (fun _ _ _ h => h) (Or.inl ⟨by kernel_rfl, ?_⟩) (by assumption) ?_
          rotate_left
          · intro w hSw
            try dsimp only at hSw
            obtain ⟨hS0, hS1⟩ := hSw
            go_simp
            try with_reducible rfl
          (try simp only [List.getElem_toArray]); (try simp only [List.getElem_cons_succ]); (try simp only [List.getElem_cons_zero]); (try simp only [Act.put]); (try simp only [List.setIfInBounds_toArray]); (try simp only [List.set_cons_succ]); (try simp only [List.set_cons_zero])
          refine wpAnyH_take (i := 17) (v := ?_) rfl (by kernel_rfl) (by kernel_rfl) (by kernel_rfl) (fun _ _ _ h => h) (Or.inl ⟨by kernel_rfl, ?_⟩) (by assumption) ?_
          rotate_left
          · intro w hSw
            try dsimp only at hSw
            obtain ⟨hS0, hS1⟩ := hSw
            go_simp
            try with_reducible rfl
          (try simp only [List.getElem_toArray]); (try simp only [List.getElem_cons_succ]); (try simp only [List.getElem_cons_zero]); (try simp only [Act.put]); (try simp only [List.setIfInBounds_toArray]); (try simp only [List.set_cons_succ]); (try simp only [List.set_cons_zero])
          refine wpAnyH_take (i := 18) (v := ?_) rfl (by kernel_rfl) (by kernel_rfl) (by kernel_rfl) (fun _ _ _ h => h) (Or.inl ⟨by kernel_rfl, ?_⟩) (by assumption) ?_
          rotate_left
          · intro w hSw
            try dsimp only at hSw
            obtain ⟨hS0, hS1⟩ := hSw
            go_simp
            try with_reducible rfl
          (try simp only [List.getElem_toArray]); (try simp only [List.getElem_cons_succ]); (try simp only [List.getElem_cons_zero]); (try simp only [Act.put]); (try simp only [List.setIfInBounds_toArray]); (try simp only [List.set_cons_succ]); (try simp only [List.set_cons_zero])
          refine wpAnyH_take (i := 19) (v := ?_) rfl (by kernel_rfl) (by kernel_rfl) (by kernel_rfl) (fun _ _ _ h => h) (Or.inl ⟨by kernel_rfl, ?_⟩) (by assumption) ?_
          rotate_left
          · intro w hSw
            try dsimp only at hSw
            obtain ⟨hS0, hS1⟩ := hSw
            go_simp
            try with_reducible rfl
          (try simp only [List.getElem_toArray]); (try simp only [List.getElem_cons_succ]); (try simp only [List.getElem_cons_zero]); (try simp only [Act.put]); (try simp only [List.setIfInBounds_toArray]); (try simp only [List.set_cons_succ]); (try simp only [List.set_cons_zero])
          refine wpAnyH_take (i := 20) (v := ?_) rfl (by kernel_rfl) (by kernel_rfl) (by kernel_rfl) (fun _ _ _ h => h) (Or.inl ⟨by kernel_rfl, ?_⟩) (by assumption) ?_
          rotate_left
          · intro w hSw
            try dsimp only at hSw
            obtain ⟨hS0, hS1⟩ := hSw
            go_simp
            try with_reducible rfl
          (try simp only [List.getElem_toArray]); (try simp only [List.getElem_cons_succ]); (try simp only [List.getElem_cons_zero]); (try simp only [Act.put]); (try simp only [List.setIfInBounds_toArray]); (try simp only [List.set_cons_succ]); (try simp only [List.set_cons_zero])
          refine wpAnyH_done (by kernel_rfl) ?_ _
          by_cases hm2 : m < 2
          · have hdm : decide ((m : Int) < 2) = true := decide_eq_true (by omega)
            have htr := HR.out (decL' s.data.toList) (if_pos hm2)
            rw [htr] at hv
            have hdc := HD.out (by omega) w4
            by_cases hse : s.data.toList = []
            · have hx0 : decL' s.data.toList = [] := by rw [hse]; rfl
              rw [hx0, if_pos rfl, List.nil_append] at hv
              obtain ⟨gt, cap, rfl, _, hat⟩ := toks_at hv (by simp)
              obtain ⟨vb, h1, _⟩ := hat 1 (by simp)
              have ck : w4.cell? ⟨gt, 5, none⟩ = some (.int .i64 2) := h1.k
              have cn : w4.cell? ⟨gt, 6, none⟩ = some (.string NN) := by rw [HNN.out]; exact h1.n
              have cg := k1.1
              have hsl := HsE.out
              rw [decide_eq_true hse] at hsl
              have qn : (NN.toList == NN.toList) = true := by simp
              clear hat hv h1 k1 HcW hHeld
              go_wp2_with fail
              refine hdc.mono ?_
              clear hdc
              rintro e5 w5 ⟨rfl, hb5⟩
              have B5 := Lib.hid (B4.out.trans (hb5.mono B4.out.size))
              have ck' := (hb5.cell (World.block_lt_of_cell? _ _ ck)).trans ck
              have cn' := (hb5.cell (World.block_lt_of_cell? _ _ cn)).trans cn
              have cg' := (hb5.cell (World.block_lt_of_cell? _ _ cg)).trans cg
              clear hb5 ck cn cg
              generalize S (decL' s.data.toList) = XX at *
              go_wp2_with fail
              go_quiet ((go_at_call 9; exact Oct.quiet_same (hn _ _)))
              go_wp2
              go_ret
              exact ⟨rfl, B5.out.trans ((Oct.below_drewN (Below.refl _ w5) nq).mono B5.out.size)⟩
            · have hx0 := dec_ne hse
              rw [if_neg hx0, List.singleton_append] at hv
              obtain ⟨gt, cap, rfl, _, hat⟩ := toks_at hv (by simp)
              obtain ⟨va, h0, _⟩ := hat 1 (by simp)
              obtain ⟨vb, h1, _⟩ := hat 2 (by simp)
              have cx : w4.cell? ⟨gt, 7, none⟩ = some (.string (S (decL' s.data.toList))) := h0.x
              have ck : w4.cell? ⟨gt, 10, none⟩ = some (.int .i64 2) := h1.k
              have cn : w4.cell? ⟨gt, 11, none⟩ = some (.string NN) := by rw [HNN.out]; exact h1.n
              have cg := k1.1
              have hsl := HsE.out
              rw [decide_eq_false hse] at hsl
              have qn : (NN.toList == NN.toList) = true := by simp
              have qx : ((S (decL' s.data.toList)).toList == (S (decL' s.data.toList)).toList) = true := by simp
              clear hat hv h1 h0 k1 HcW hHeld
              go_wp2_with fail
              refine hdc.mono ?_
              clear hdc
              rintro e5 w5 ⟨rfl, hb5⟩
              have B5 := Lib.hid (B4.out.trans (hb5.mono B4.out.size))
              have ck' := (hb5.cell (World.block_lt_of_cell? _ _ ck)).trans ck
              have cn' := (hb5.cell (World.block_lt_of_cell? _ _ cn)).trans cn
              have cg' := (hb5.cell (World.block_lt_of_cell? _ _ cg)).trans cg
              have cx' := (hb5.cell (World.block_lt_of_cell? _ _ cx)).trans cx
              clear hb5 ck cn cg cx
              generalize S (decL' s.data.toList) = XX at *
              go_wp2_with fail
              go_quiet ((go_at_call 9; exact Oct.quiet_same (hn _ _)))
              go_wp2
              go_ret
              exact ⟨rfl, B5.out.trans ((Oct.below_drewN (Below.refl _ w5) nq).mono B5.out.size)⟩
          · have hdm : decide ((m : Int) < 2) = false := decide_eq_false (by omega)
            have htr := HR.out s.data.toList (if_neg hm2)
            rw [htr] at hv
            by_cases hse : s.data.toList = []
            · rw [if_pos hse, List.nil_append] at hv
              obtain ⟨gt, cap, rfl, _, hat⟩ := toks_at hv (by simp)
              obtain ⟨vb, h1, _⟩ := hat 1 (by simp)
              have ck : w4.cell? ⟨gt, 5, none⟩ = some (.int .i64 2) := h1.k
              have cn : w4.cell? ⟨gt, 6, none⟩ = some (.string NN) := by rw [HNN.out]; exact h1.n
              have cg := k1.1
              have hsl := HsE.out
              rw [decide_eq_true hse] at hsl
              have qn : (NN.toList == NN.toList) = true := by simp
              clear hat hv h1 k1 HcW hHeld
              go_wp2_with fail
              go_quiet ((go_at_call 9; exact Oct.quiet_same (hn _ _)))
              go_wp2
              go_ret
              exact ⟨rfl, B4.out.trans ((Oct.below_drewN (Below.refl _ w4) nq).mono B4.out.size)⟩
            · rw [if_neg hse, List.singleton_append] at hv
              obtain ⟨gt, cap, rfl, _, hat⟩ := toks_at hv (by simp)
              obtain ⟨va, h0, _⟩ := hat 1 (by simp)
              obtain ⟨vb, h1, _⟩ := hat 2 (by simp)
              have cx : w4.cell? ⟨gt, 7, none⟩ = some (.string s) := h0.x
              have ck : w4.cell? ⟨gt, 10, none⟩ = some (.int .i64 2) := h1.k
              have cn : w4.cell? ⟨gt, 11, none⟩ = some (.string NN) := by rw [HNN.out]; exact h1.n
              have cg := k1.1
              have hsl := HsE.out
              rw [decide_eq_false hse] at hsl
              have qn : (NN.toList == NN.toList) = true := by simp
              have qx : (s.toList == s.toList) = true := by simp
              clear hat hv h1 h0 k1 HcW hHeld
              go_wp2_with fail
              go_quiet ((go_at_call 9; exact Oct.quiet_same (hn _ _)))
              go_wp2
              go_ret
              exact ⟨rfl, B4.out.trans ((Oct.below_drewN (Below.refl _ w4) nq).mono B4.out.size)⟩
end Go.Proofs.Ytidfcajhmldieaa.Tkc
