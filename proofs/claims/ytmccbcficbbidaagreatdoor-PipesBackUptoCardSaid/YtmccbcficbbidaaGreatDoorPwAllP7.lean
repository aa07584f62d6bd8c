/-
  Part 7: OctLists, OctTrim, LxwLeaf, LxwEnd, LxwBox, LxwBuild, LxwRead.
-/
import Derived.Test.YtmccbcficbbidaaGreatDoorPwAllP6
import Derived.Deep.QuietTactic
import Derived.BigQuiet
import Derived.Maps.AppendAt
import Derived.Deep.AppendLies
import Derived.Deep.RegionLaw
import Derived.Deep.RegionWith
import Derived.Deep.RegionHeld3
import Derived.Lib.BufferKept
import Derived.StillTailTactics
/-
  Plain facts on lists of octets: trimmed texts; texts that begin with others, whatever their letters are.
-/
namespace Go.Proofs.YtmccbcficbbidaaGreatDoor.Oct
open Go.RowKit

theorem below_drewN {B : Nat} {a w : World} (h : Below B a w) (q : Nat) : Below B a (w.drewN q) := ⟨h.os, h.tape, h.output, h.size, h.block⟩

/-- Does s begin with p, whatever its letters are? -/
def startsB (s p : List UInt8) : Bool := decide (p.length ≤ s.length) && ((s.map low).take p.length == p.map low)

theorem starts_none (s p : ByteArray) (h : p.size ≤ s.size) : (firstOf (fun k => low (at' s k) != low (at' p k)) 0 p.size == p.size) = startsB s.data.toList p.data.toList := by
  unfold startsB
  rw [size_list, size_list, decide_eq_true h, Bool.true_and, firstOf_all, Bool.eq_iff_iff, List.all_eq_true, beq_iff_eq]
  simp only [List.mem_range, bne, Bool.not_not, beq_iff_eq]
  have hs := size_list s
  have hp := size_list p
  constructor
  · intro H
    apply List.ext_getElem
    · simp only [List.length_take, List.length_map]; omega
    · intro i h1 h2
      have hi : i < p.size := by simp only [List.length_map] at h2; omega
      have := H i hi
      rw [← at_eq s i (by omega), ← at_eq p i hi] at this
      simp only [List.getElem_take, List.getElem_map, Array.getElem_toList]
      exact this
  · intro H k hk
    have e := congrArg (fun l => l[k]?) H
    simp only [List.getElem?_take_of_lt hk, List.getElem?_map] at e
    rw [List.getElem?_eq_getElem (by omega), List.getElem?_eq_getElem (by omega)] at e
    simp only [Option.map_some, Option.some.injEq, Array.getElem_toList] at e
    rw [← at_eq s k (by omega), ← at_eq p k hk]
    exact e

def bl (c : UInt8) : Bool := blankI (c.toNat : Int)
/-- Without blanks at both ends. -/
def trimL (l : List UInt8) : List UInt8 := ((l.dropWhile bl).reverse.dropWhile bl).reverse

theorem firstOf_takeWhile (p : Nat → Bool) (q : UInt8 → Bool) (l : List UInt8) (k : Nat) (h : ∀ i (hi : i < l.length), p (k + i) = !q l[i]) : firstOf p k l.length = (l.takeWhile q).length := by
  induction l generalizing k with
  | nil => rfl
  | cons c l ih =>
    have h0 : p k = !q c := h 0 (by simp)
    rw [List.length_cons, firstOf, h0]
    cases hq : q c with
    | true =>
      simp only [Bool.not_true, Bool.false_eq_true, if_false, List.takeWhile_cons, hq, if_true, List.length_cons]
      rw [ih (k + 1) (fun i hi => by have := h (i + 1) (by simp; omega); rw [← Nat.add_assoc, Nat.add_right_comm] at this; simpa using this)]
    | false => simp [hq]

theorem drop_takeWhile (q : UInt8 → Bool) (l : List UInt8) : l.drop (l.takeWhile q).length = l.dropWhile q := by
  induction l with
  | nil => rfl
  | cons c l ih =>
    cases hq : q c with
    | true => simp [hq, ih]
    | false => simp [hq]

theorem trim_ahead (s : ByteArray) : s.data.toList.drop (firstOf (fun k => !blankI ((at' s k).toNat : Int)) 0 s.size) = s.data.toList.dropWhile bl := by
  rw [← drop_takeWhile, ← size_list, firstOf_takeWhile _ bl _ 0 (fun i hi => by
    have hi' : i < s.size := by rw [← size_list]; exact hi
    rw [Nat.zero_add, ← at_eq s i hi', Array.getElem_toList]
    rfl)]

theorem trim_behind (s : ByteArray) : s.data.toList.take (s.size - firstOf (fun k => !blankI ((at' s (s.size - 1 - k)).toNat : Int)) 0 s.size) = (s.data.toList.reverse.dropWhile bl).reverse := by
  have e : firstOf (fun k => !blankI ((at' s (s.size - 1 - k)).toNat : Int)) 0 s.size = (s.data.toList.reverse.takeWhile bl).length := by
    rw [← firstOf_takeWhile (fun k => !blankI ((at' s (s.size - 1 - k)).toNat : Int)) bl s.data.toList.reverse 0 (fun i hi => by
      have hi' : i < s.size := by rw [← size_list]; simpa using hi
      rw [Nat.zero_add, ← at_eq s (s.size - 1 - i) (by omega), List.getElem_reverse, Array.getElem_toList]
      simp only [size_list]
      rfl), List.length_reverse, size_list]
  rw [e, ← drop_takeWhile, List.reverse_drop, List.reverse_reverse, List.length_reverse, size_list]

end Go.Proofs.YtmccbcficbbidaaGreatDoor.Oct

/-
  Contracts of octets.Name, Starts and Trim: as plain functions of lists of octets.
-/
namespace Go.Proofs.YtmccbcficbbidaaGreatDoor.Oct
open Go.RowKit

theorem name_none (s : ByteArray) : (firstOf (fun k => !nameI ((at' s k).toNat : Int)) 0 s.size == s.size) = s.data.toList.all (fun c => nameI (c.toNat : Int)) := by
  rw [firstOf_all, ← all_at]
  simp


theorem name_c (s : ByteArray) (w : World) :
    Calls Tryz.prog 64 #[.string s] w fun e w' => e = .returned (.bool (nameB s.data.toList)) ∧ Below w.heap.size w w' := by
  by_cases h0 : s.size = 0
  · have hs : s = ⟨#[]⟩ := by
      apply ByteArray.ext
      exact Array.eq_empty_of_size_eq_zero h0
    subst hs
    go_enter Tryz.func64, Tryz.ntmps64
    go_wp2
    go_ret
    exact ⟨ret_bool (by simp [nameB]), (Below.refl _ w).alloc (Nat.le_refl _) _⟩
  · have he : s.data.toList.isEmpty = false := by
      rw [List.isEmpty_eq_false_iff]; intro h; apply h0; rw [← size_list, h]; rfl
    have he' : s.toList.isEmpty = false := by rw [ByteArray.toList_eq]; exact he
    by_cases h32 : 32 < s.size
    · go_enter Tryz.func64, Tryz.ntmps64
      go_wp2
      go_ret
      exact ⟨ret_bool (by unfold nameB; rw [size_list, decide_eq_false (by omega)]; rfl), (Below.refl _ w).alloc (Nat.le_refl _) _⟩
    · have hpos : 0 < s.size := by omega
      have hlen : s.size ≤ 32 := by omega
      have hat : Hid ((at' s 0) = s[0]) := (at_eq s 0 hpos).symm
      have hn := none_c s.size 100 #[.pointer (some ⟨w.heap.size, 0, none⟩)] (fun k => !nameI ((at' s k).toNat : Int)) (w.alloc (.cells #[.string s] 9)) (by omega) enter_name
        (fun k W hk hb => (name1_c s k w.heap.size W hk (by rw [hb.cell (by simp)]; simp)).mono fun _ _ ⟨he, hw⟩ => ⟨he, hw ▸ hb⟩)
      rw [name_none] at hn
      clear h0 h32
      have hfin : Hid (nameB s.data.toList = (!digitI (s[0].toNat : Int) && s.data.toList.all (fun c => nameI (c.toNat : Int)))) := by
        show _ = _
        unfold nameB
        rw [size_list, decide_eq_true (by omega), at_zero, hat.out]
        simp
      generalize s.data.toList.all (fun c => nameI (c.toNat : Int)) = r at hn hfin
      by_cases hd : (48 : Int) ≤ (s[0].toNat : Int) ∧ (s[0].toNat : Int) ≤ 57
      · obtain ⟨hd1, hd2⟩ := hd
        go_enter Tryz.func64, Tryz.ntmps64
        go_wp2
        go_ret
        exact ⟨ret_bool (by rw [hfin.out, digitI, decide_eq_true ⟨hd1, hd2⟩]; rfl), (Below.refl _ w).alloc (Nat.le_refl _) _⟩
      · have hw : decide ((48 : Int) ≤ (s[0].toNat : Int) ∧ (s[0].toNat : Int) ≤ 57) = false := decide_eq_false hd
        have hwi := within_c (s[0].toNat : Int) 48 57
        rw [hw] at hwi
        clear hw
        have HD := Lib.hid hd
        clear hd
        go_enter Tryz.func64, Tryz.ntmps64
        go_wp2_with (first
          | (go_at_call 98; refine (hwi _).mono ?_; rintro e w' ⟨rfl, rfl⟩)
          | (go_at_call 99; refine hn.mono ?_; rintro e w' ⟨rfl, hb⟩))
        go_ret
        exact ⟨ret_bool (by rw [hfin.out, digitI, decide_eq_false HD.out]; rfl), ((Below.refl _ w).alloc (Nat.le_refl _) _).trans (hb.mono (by simp))⟩

theorem clone_c (s : ByteArray) (w : World) (hs : s.size ≤ 281474976710656) :
    Calls Tryz.prog 107 #[.string s] w fun e w' => e = .returned (.string s) ∧ Below w.heap.size w w' := by
  go_enter Tryz.func107, Tryz.ntmps107
  go_wp2_with (go_at_call 120; refine (Tryz.stringslite_Clone _ _ hs).mono ?_; rintro e w' ⟨rfl, hb⟩)
  go_ret
  exact ⟨rfl, hb⟩

end Go.Proofs.YtmccbcficbbidaaGreatDoor.Oct

/-
  Contracts of package lex's leaves: blanks at either end of a text, trims, remarks, where an action ends.
-/
namespace Go.Proofs.YtmccbcficbbidaaGreatDoor.Lxw
open Go.RowKit Go.Proofs.YtmccbcficbbidaaGreatDoor.Oct Go.Proofs.YtmccbcficbbidaaGreatDoor.Lex


theorem at_S (l : List UInt8) (k : Nat) (h : k < l.length) : (S l)[k]'(by rw [size_S]; exact h) = l[k] := rfl
theorem skip_drop {l : List UInt8} {k : Nat} (h : k < l.length) : skipN (l.drop k) = if Lex.bl l[k] then skipN (l.drop (k + 1)) + 1 else 0 := by
  rw [List.drop_eq_getElem_cons h]
  unfold skipN
  cases hb : Lex.bl l[k] with
  | true => rw [List.takeWhile_cons_of_pos hb, if_pos rfl]; rfl
  | false => rw [List.takeWhile_cons_of_neg (by rw [hb]; simp), if_neg (by simp)]; rfl

theorem skip_end {l : List UInt8} {k : Nat} (h : l.length ≤ k) : skipN (l.drop k) = 0 := by rw [List.drop_of_length_le h]; rfl

set_option maxHeartbeats 1000000 in
theorem ahead_c (l : List UInt8) (hl : l.length ≤ 4611686018427387904) (w : World) :
    Calls Tryz.prog 74 #[.string (S l)] w fun e w' => e = .returned (.int .i64 (skipN l : Nat)) ∧ w = w' := by
  have hsz : ((S l).size : Int) = (l.length : Int) := by rw [size_S]
  have HAt := Lib.hid (fun k (h : k < l.length) => at_S l k h)
  have HBl := Lib.hid (fun (c : UInt8) w => blank_c (c.toNat : Int) w)
  go_enter Tryz.func74, Tryz.ntmps74
  go_wp2_with fail
  go_loop [3] (fun i => ∃ k : Nat, k ≤ l.length ∧ i = .int .i64 k ∧ Hid (skipN l = k + skipN (l.drop k))) (fun i => l.length - (intOf i).toNat)
  case atStart => exact ⟨0, Nat.zero_le _, rfl, (by show _ = _; simp)⟩
  case round =>
    obtain ⟨k, hk, rfl, hE⟩ := hrel
    have i0 : (0 : Int) ≤ (k : Int) := by omega
    have i1 : (k : Int) ≤ 4611686018427387904 := by omega
    by_cases hlt : k < l.length
    · have h1 := HAt.out k hlt
      have hs := skip_drop hlt
      have hbc := HBl.out l[k]
      have hcb : ((l[k]).toNat : Int) ≤ 255 := by have := (l[k]).toNat_lt; omega
      have i2 : (k : Int) < (l.length : Int) := by omega
      have hd : decide ((k : Int) < (l.length : Int)) = true := decide_eq_true i2
      cases hb : Lex.bl l[k] with
      | true =>
        have hb' : blankI ((l[k]).toNat : Int) = true := hb
        rw [hb'] at hbc
        rw [hb, if_pos rfl] at hs
        have HN : Hid (skipN l = (k + 1) + skipN (l.drop (k + 1))) := by have := hE.out; show _ = _; omega
        clear hb hb' hs hE
        generalize l[k] = c at *
        go_wp2_with (go_at_call 104; refine (hbc _).mono ?_; rintro e w' ⟨rfl, rfl⟩)
        go_round
        case rel => exact ⟨k + 1, by omega, by go_num, HN⟩
        case measure => simp [intOf]; omega
      | false =>
        have hb' : blankI ((l[k]).toNat : Int) = false := hb
        rw [hb'] at hbc
        rw [hb, if_neg (by simp)] at hs
        have HN : Hid (skipN l = k) := by have := hE.out; show _ = _; omega
        clear hb hb' hs hE
        generalize l[k] = c at *
        go_wp2_with (go_at_call 104; refine (hbc _).mono ?_; rintro e w' ⟨rfl, rfl⟩)
        go_ret
        exact ⟨by rw [HN.out]; rfl, rfl⟩
    · have hs := skip_end (l := l) (k := k) (by omega)
      have HN : Hid (skipN l = k) := by have := hE.out; show _ = _; omega
      have hd : decide ((k : Int) < (l.length : Int)) = false := decide_eq_false (by omega)
      clear hs hE
      go_wp2_with fail
      go_ret
      exact ⟨by rw [HN.out]; rfl, rfl⟩
theorem rev_at {l : List UInt8} {k : Nat} (h : k < l.length) : (l.reverse)[k]'(by simpa using h) = l[l.length - 1 - k] := by simp
/-! ### Trims -/
theorem two_of {l : List UInt8} (h : ¬ l.length ≤ 1) : ∃ c d r, l = c :: d :: r := by
  match l, h with
  | c :: d :: r, _ => exact ⟨c, d, r, rfl⟩
  | [c], h => simp at h
  | [], h => simp at h
theorem lead_short {l : List UInt8} (h : l.length ≤ 1) : leadB l = false := by
  cases h' : leadB l with
  | false => rfl
  | true => have := lead_long h'; omega
theorem oct_ne {c : UInt8} {n : Nat} (h : c ≠ n.toUInt8) (hn : n < 256) : ((c.toNat : Int) == (n : Int)) = false := by
  rw [beq_eq_false_iff_ne]
  intro e
  apply h
  apply UInt8.toNat_inj.1
  rw [Nat.toUInt8_eq, UInt8.toNat_ofNat']
  omega
/-! ### Remarks -/
theorem cutFrom (l : List UInt8) (n : Nat) : (S l).extract n l.length = S (l.drop n) := by
  rw [Lib.extract_eq, list_S, List.take_of_length_le (by rw [List.length_drop]; omega)]
theorem trim_len (l : List UInt8) : (Lib.trimPrefix l [45]).length ≤ l.length := by
  unfold Lib.trimPrefix
  split
  · rw [List.length_drop]; omega
  · exact Nat.le_refl _
/-! ### What is within an action -/
theorem cutMid (l : List UInt8) (f t : Nat) : (S l).extract f t = S ((l.take t).drop f) := by
  rw [Lib.extract_eq, list_S, List.drop_take]
theorem trim_eq (l : List UInt8) : trimL l = backL (frontL l) := rfl
end Go.Proofs.YtmccbcficbbidaaGreatDoor.Lxw

/-
  Contracts of package lex: where an action ends (closed, within), and faults.
-/
namespace Go.Proofs.YtmccbcficbbidaaGreatDoor.Lxw
open Go.RowKit Go.Proofs.YtmccbcficbbidaaGreatDoor.Oct Go.Proofs.YtmccbcficbbidaaGreatDoor.Lex

/-- What package faults panics with. -/
abbrev faultV (n : Int) : Value := .iface 94 (.agg #[.int .i64 n])
abbrev Fault (n : Int) : Ending := .panicked [{ v := faultV n, recovered := false }]
theorem demand_yes (n : Int) (w : World) : Calls Tryz.prog 57 #[.bool true, .int .i64 n] w fun e w' => e = .returned (.tuple #[]) ∧ w = w' := by
  go_enter Tryz.func57, Tryz.ntmps57
  go_wp2
  go_end0
  exact ⟨rfl, rfl⟩
theorem demand_no (n : Int) (w : World) : Calls Tryz.prog 57 #[.bool false, .int .i64 n] w fun e w' => e = Fault n ∧ w = w' := by
  go_enter Tryz.func57, Tryz.ntmps57
  go_wp2
  exact ⟨rfl, rfl, rfl⟩

/-- A place, or ErrShort. -/
def PlaceOr (o : Option Nat) (e : Ending) : Prop := (∃ m : Nat, o = some m ∧ e = .returned (.int .i64 (m : Int))) ∨ (o = none ∧ e = Fault 8)
theorem oct_is {c : UInt8} {n : Nat} (h : c = n.toUInt8) (hn : n < 256) : ((c.toNat : Int) == (n : Int)) = true := by
  rw [beq_iff_eq, h, Nat.toUInt8_eq, UInt8.toNat_ofNat']
  omega

/-- The library's variable that strings.Index and strings.Cut read holds some number. -/
def MaxAt (w : World) : Prop := ∃ m, w.cell? ⟨0, 0, none⟩ = some (.int .i64 m)
theorem MaxAt.kept {w w' : World} (h : MaxAt w) (hb : Below w.heap.size w w') : MaxAt w' := by
  obtain ⟨m, hm⟩ := h
  exact ⟨m, (hb.cell (World.block_lt_of_cell? _ _ hm)).trans hm⟩
theorem index_c (l p : List UInt8) (hl : l.length ≤ 1048576) (w : World) (hM : MaxAt w) :
    Calls Tryz.prog 136 #[.string (S l), .string (S p)] w fun e w' => e = .returned (.int .i64 (findI p l)) ∧ w = w' := by
  obtain ⟨m, hm⟩ := hM
  have h := Tryz.strings_Index (S l) (S p) m w (by rw [size_S]; omega) hm
  rw [list_S, list_S, index_find] at h
  exact h.mono fun _ _ ⟨h1, h2⟩ => ⟨h1, h2.symm⟩

/-- What is within an action, or ErrShort. -/
def WithinOr (l : List UInt8) (e : Ending) : Prop := (∃ m : Nat, innerN l = some m ∧ e = .returned (.string (S (l.take m)))) ∨ (innerN l = none ∧ e = Fault 8)
theorem cutTo (l : List UInt8) (n : Nat) : (S l).extract 0 n = S (l.take n) := by
  rw [Lib.extract_eq, list_S, List.drop_zero, Nat.sub_zero]
theorem closed_le {q : Bool} {l : List UInt8} {k m : Nat} (h : closedTo q l k = some m) : m ≤ l.length := by
  unfold closedTo at h
  obtain ⟨j, hj, rfl⟩ := Option.map_eq_some_iff.1 h
  have := closes_le _ _ _ _ (Nat.le_refl _) hj
  rw [List.length_drop] at this
  omega
theorem inner_none {l : List UInt8} (hr : remB l = true) (h : findL [42, 47] (l.drop (bodyN l + 2)) = none) : innerN l = none := by
  unfold innerN
  rw [hr, if_pos rfl, h]
theorem inner_some {l : List UInt8} {k : Nat} (hr : remB l = true) (h : findL [42, 47] (l.drop (bodyN l + 2)) = some k) : innerN l = closedTo false l (bodyN l + 2 + k + 2) := by
  unfold innerN closedTo
  rw [hr, if_pos rfl, h]
end Go.Proofs.YtmccbcficbbidaaGreatDoor.Lxw

/-
  The cutter of package lex in memory, the pieces it has told; contracts of rest, seeText.
-/
namespace Go.Proofs.YtmccbcficbbidaaGreatDoor.Lxw
open Go.RowKit Go.Proofs.YtmccbcficbbidaaGreatDoor.Oct Go.Proofs.YtmccbcficbbidaaGreatDoor.Lex

/-! ### Rows of one's own -/
theorem own_lt {w : World} {base n size : Nat} {e : TypeId} {v : Value} {xs : List Value} (h : w.ownsRow base e size v n xs) : ∀ k, v.ownBlock = some k → k < w.heap.size := fun k hk => (h.lt k hk).2
theorem own_ge {w : World} {base n size : Nat} {e : TypeId} {v : Value} {xs : List Value} (h : w.ownsRow base e size v n xs) : ∀ k, v.ownBlock = some k → base ≤ k := fun k hk => (h.lt k hk).1
/-- A row stays where its block does. -/
theorem own_same {w w' : World} {base n size : Nat} {e : TypeId} {v : Value} {xs : List Value} (h : w.ownsRow base e size v n xs) (hs : ∀ k, base ≤ k → v.ownBlock = some k → w'.heap[k]? = w.heap[k]?) : w'.ownsRow base e size v n xs := by
  refine ⟨h.1, ?_⟩
  rcases h.2 with hn | ⟨g, cap, cur, rfl, hb, hg, rest⟩
  · exact .inl hn
  · exact .inr ⟨g, cap, cur, rfl, hb, by rw [hs g hb rfl]; exact hg, rest⟩
theorem own_set {w : World} {R B i : Nat} {x : Value} {n size : Nat} {e : TypeId} {v : Value} {xs : List Value} (hR : R < B) (h : w.ownsRow B e size v n xs) : (w.setCell ⟨R, i, none⟩ x).ownsRow B e size v n xs :=
  own_same h fun k hk _ => heap_setCell_other _ _ _ _ (by simp; omega)
theorem own_less {w : World} {base b2 n size : Nat} {e : TypeId} {v : Value} {xs : List Value} (h : w.ownsRow base e size v n xs) (hb : b2 ≤ base) : w.ownsRow b2 e size v n xs := by
  refine ⟨h.1, ?_⟩
  rcases h.2 with hn | ⟨g, cap, cur, rfl, hg, rest⟩
  · exact .inl hn
  · exact .inr ⟨g, cap, cur, rfl, Nat.le_trans hb hg, rest⟩
theorem own_shape {w : World} {base n size : Nat} {e : TypeId} {v : Value} {xs : List Value} (h : w.ownsRow base e size v n xs) : ∃ p c, v = .slice p n c := by
  rcases h.2 with ⟨rfl, h0⟩ | ⟨g, cap, cur, rfl, _⟩
  · exact ⟨none, 0, by rw [h0]⟩
  · exact ⟨_, _, rfl⟩
/-- All that lay below B lies as it lay, but for the block R. -/
structure Kp (R B : Nat) (w w' : World) : Prop where
  os : w'.os = w.os
  tape : w'.tape = w.tape
  output : w'.output = w.output
  size : w.heap.size ≤ w'.heap.size
  block : ∀ k, k < B → k ≠ R → w'.heap[k]? = w.heap[k]?
theorem Kp.refl (R B : Nat) (w : World) : Kp R B w w := ⟨rfl, rfl, rfl, Nat.le_refl _, fun _ _ _ => rfl⟩
theorem Kp.trans {R B : Nat} {a b c : World} (h : Kp R B a b) (k : Kp R B b c) : Kp R B a c :=
  ⟨k.os.trans h.os, k.tape.trans h.tape, k.output.trans h.output, Nat.le_trans h.size k.size, fun i hi hR => (k.block i hi hR).trans (h.block i hi hR)⟩
theorem kp_of {R B : Nat} {w w' : World} (h : Below w.heap.size w w') (hB : B ≤ w.heap.size) : Kp R B w w' := ⟨h.os, h.tape, h.output, h.size, fun k hk _ => h.block k (by omega)⟩
theorem Kp.drew {R B : Nat} {a w : World} (h : Kp R B a w) : Kp R B a w.drew := ⟨h.os, h.tape, h.output, h.size, h.block⟩
theorem kp_set {R B i : Nat} {a w : World} (v : Value) (h : Kp R B a w) : Kp R B a (w.setCell ⟨R, i, none⟩ v) :=
  ⟨h.os, h.tape, h.output, by simp [World.setCell]; exact h.size, fun k hk hR => (heap_setCell_other _ _ _ _ (by simpa using hR)).trans (h.block k hk hR)⟩
theorem Kp.below {R B : Nat} {w w' : World} (h : Kp R B w w') (hR : R ≤ B) : Below R w w' := ⟨h.os, h.tape, h.output, h.size, fun k hk => h.block k (by omega) (by omega)⟩
/-- The new cells, as an append of a list's literal asks for them. -/
theorem push_cells {w : World} {T : TypeId} {cs : List Value} (j : Nat) (u : Value) (h : cs[j]? = some u) : (w.alloc (.cells cs.toArray T)).cell? ((⟨w.heap.size, 0, none⟩ : Addr).add j) = some u := by
  have e : (⟨w.heap.size, 0, none⟩ : Addr).add j = ⟨w.heap.size, j, none⟩ := by simp [Addr.add]; omega
  rw [e]
  exact (cell_of_row _ _ j _ _ _ (heap_alloc_new w _)).trans (by simpa using h)
theorem grown_q {w w' : World} {q : Nat} (h : w' = w.drewN q) : Below w.heap.size w w' := h ▸ Oct.below_drewN (Below.refl _ w) q

/-! ### The cutter -/
/-- A piece's cells; a list of pieces in memory. -/
abbrev itCs (i : It) : List Value := [.int .i64 (i.k : Int), .string (S i.x), .int .i64 (i.p : Int)]
/-- The cutter's box. -/
abbrev boxC (l : List UInt8) (k : Nat) (t : List UInt8) (p : Nat) (v : Value) : Array Value := #[.string (S l), .int .i64 (k : Int), .string (S t), .int .i64 (p : Int), v]
section
variable {R B : Nat} {l : List UInt8} {k : Nat} {t : List UInt8} {p : Nat} {v : Value} {its : List It} {w : World}
end
/-- What the cells of the box hold. -/
structure Cells (R : Nat) (l : List UInt8) (k : Nat) (t : List UInt8) (p : Nat) (v : Value) (w : World) : Prop where
  c0 : w.cell? ⟨R, 0, none⟩ = some (.string (S l))
  c1 : w.cell? ⟨R, 1, none⟩ = some (.int .i64 (k : Int))
  c2 : w.cell? ⟨R, 2, none⟩ = some (.string (S t))
  c3 : w.cell? ⟨R, 3, none⟩ = some (.int .i64 (p : Int))
  c4 : w.cell? ⟨R, 4, none⟩ = some v
  z1 : w.frozen? ⟨R, 1, none⟩ = false
  z2 : w.frozen? ⟨R, 2, none⟩ = false
  z3 : w.frozen? ⟨R, 3, none⟩ = false
  z4 : w.frozen? ⟨R, 4, none⟩ = false
theorem cut_c (l : List UInt8) (hl : l.length ≤ 1048576) (w : World) (hM : MaxAt w) :
    Calls Tryz.prog 128 #[.string (S l), .string ⟨#[123, 123]⟩] w fun e w' => (∃ x b, e = .returned (.tuple #[.string (S (l.take (nextN l))), .string x, .bool b])) ∧ Below w.heap.size w w' := by
  obtain ⟨m, hm⟩ := hM
  have h := Tryz.strings_Cut (S l) (S [123, 123]) m w (by rw [size_S]; omega) hm
  rw [list_S, list_S, cut_next] at h
  exact h.mono fun _ _ ⟨h1, _, h2⟩ => ⟨⟨_, _, h1⟩, grown_q h2⟩
theorem emptyB (t : List UInt8) : ((S t).toList == []) = t.isEmpty := by
  rw [ByteArray.toList_eq, list_S]
  cases t <;> rfl
end Go.Proofs.YtmccbcficbbidaaGreatDoor.Lxw

/-
  The builder as package lex fills it: an octet, what it holds.
-/
namespace Go.Proofs.YtmccbcficbbidaaGreatDoor.Lxw
open Go.RowKit Go.Proofs.YtmccbcficbbidaaGreatDoor.Oct Go.Proofs.YtmccbcficbbidaaGreatDoor.Build

theorem enter_byte : ∀ args w, (callFunc 31 args).run Tryz.prog w = .ok (.enter 31 args) w := enters_of Tryz.func31 (by kernel_rfl) rfl
theorem enter_string : ∀ args w, (callFunc 34 args).run Tryz.prog w = .ok (.enter 34 args) w := enters_of Tryz.func34 (by kernel_rfl) rfl
/-- The builder in block b holds these octets. -/
abbrev Has (b : Nat) (l : List UInt8) (w : World) : Prop := Is b b (Lib.byteCells l) w
/-- It holds them in whatever world keeps its blocks. -/
theorem has_but {R b : Nat} {l : List UInt8} {W W' : World} (hR : R < b) (h : Has b l W) (hb : ∀ k, k < W.heap.size → k ≠ R → W'.heap[k]? = W.heap[k]?) : Has b l W' := by
  have one : ∀ p, Lib.BuilderAt 60 5 b b p (Lib.byteCells l) W → Lib.BuilderAt 60 5 b b p (Lib.byteCells l) W' := fun p h => by
    have hlt := h.lt
    obtain ⟨h1, v, h2, h3, h4⟩ := h
    refine ⟨h1, v, by rw [hb b hlt (by omega)]; exact h2, ?_, h4⟩
    refine own_same h3 fun k hk _ => ?_
    have hkw := own_lt h3 k (by assumption)
    exact hb k hkw (by omega)
  rcases h with h | h
  · exact .inl (one _ h)
  · exact .inr (one _ h)
theorem has_below {b : Nat} {l : List UInt8} {W W' : World} (h : Has b l W) (hb : Below W.heap.size W W') (h0 : 0 < b) : Has b l W' :=
  has_but (R := 0) h0 h fun k hk _ => hb.block k hk
theorem has_lt {b : Nat} {l : List UInt8} {W : World} (h : Has b l W) : b < W.heap.size := by
  rcases h with h | h
  · exact h.lt
  · exact h.lt
theorem has_fresh (w : World) : Has w.heap.size [] (w.alloc (.cells #[.pointer none, .slice none 0 0] 60)) :=
  .inl ⟨Nat.le_refl _, .slice none 0 0, heap_alloc_new w _, ⟨rfl, .inl ⟨rfl, rfl⟩⟩, by simp [Value.ownBlock]⟩
set_option maxHeartbeats 2000000 in
set_option maxRecDepth 100000 in
theorem bytes_c (B b : Nat) (l : List Value) (c : Int) (w : World) (h : Is B b l w) (hlen : l.length + 1 ≤ 140737488355328) (hBw : B ≤ w.heap.size) :
    Calls Tryz.prog 31 #[.pointer (some ⟨b, 0, none⟩), .int .u8 c] w fun e w' => e = .returned .nilIface ∧ Is B b (l ++ [.int .u8 c]) w' ∧ Below B w w' := by
  obtain ⟨i0, hi, hz0, hz1, hz2⟩ := info_parts info_o
  have e42 : ∀ args w, (callFunc 47 args).run Tryz.prog w = .ok (.enter 47 args) w := enters_of Tryz.func47 (by kernel_rfl) rfl
  go_enter Tryz.func31, Tryz.ntmps31
  go_wp2_with (go_at_fn 47; refine (check_c B b l _ h).mono ?_)
  rintro e w1 ⟨rfl, h1, hb1, _⟩
  obtain ⟨hB, v, hbk, hown, hne⟩ := h1
  have c0 : w1.cell? ⟨b, 0, none⟩ = some (.pointer (some ⟨b, 0, none⟩)) := by rw [Lib.cell_of_heap hbk]; rfl
  have c1 : w1.cell? ⟨b, 1, none⟩ = some v := by rw [Lib.cell_of_heap hbk]; rfl
  go_wp2_with (at_builtin; refine wpList_append_own _ rfl _ _ 58 rfl B 5 i0 (.int .u8 0) 1 1 Tryz.underlying58 hi hz0 hz1 hz2 rfl (by decide) _ _ _ rfl (hown.alloc _) ⟨w1.heap.size, 0, none⟩ 1 1 [.int .u8 c] rfl rfl ?c1 ?c2 ?c3 ?c4 ?c5 ?_)
  case c1 =>
    intro j u hj
    match j, hj with
    | 0, hj => simp at hj; subst hj; simp [Addr.add]
  case c2 => intro u hu; simp at hu; subst hu; rfl
  case c3 => unfold maxLen; omega
  case c4 => omega
  case c5 => have := hb1.size; simp; omega
  intro v' w2 hown' hgrow _
  have hlt : b < w1.heap.size := (Array.getElem?_eq_some_iff.1 hbk).1
  have hb2 : w2.heap[b]? = some (.cells #[.pointer (some ⟨b, 0, none⟩), v] 60 (0, 0)) := by
    rw [hgrow.block b (by simp; omega) (fun e => hne e.symm), Lib.alloc_old w1 _ b hlt]
    exact hbk
  have d0 : w2.cell? ⟨b, 0, none⟩ = some (.pointer (some ⟨b, 0, none⟩)) := by rw [Lib.cell_of_heap hb2]; rfl
  have d1 : w2.cell? ⟨b, 1, none⟩ = some v := by rw [Lib.cell_of_heap hb2]; rfl
  have f1 : w2.frozen? ⟨b, 1, none⟩ = false := Lib.frozen_of_heap hb2 1
  obtain ⟨g, cap, rfl⟩ : ∃ g cap, v' = .slice (some ⟨g, 0, none⟩) (l.length + 1) cap := by
    rcases hown'.2 with ⟨_, h0⟩ | ⟨g, cap, cur, hv, _⟩
    · omega
    · exact ⟨g, cap, hv⟩
  go_wp2
  go_ret
  refine ⟨rfl, ?_, ?_⟩
  · exact .inr (Lib.BuilderAt.put (T := 60) (e := 5) hB hb2 (bs' := l ++ [.int .u8 c]) (by simpa using hown') (by decide))
  · exact ((hb1.alloc (by have := hb1.size; omega) _).grown hgrow (by have := hb1.size; simp; omega) (fun k hk => (hown.lt k hk).1)).setCell (p := ⟨b, 1, none⟩) hB _
theorem byte_c (b : Nat) (l : List UInt8) (c : UInt8) (w : World) (h : Has b l w) (hlen : l.length + 1 ≤ 140737488355328) :
    Calls Tryz.prog 31 #[.pointer (some ⟨b, 0, none⟩), .int .u8 (c.toNat : Int)] w fun e w' => e = .returned .nilIface ∧ Has b (l ++ [c]) w' ∧ Below b w w' := by
  have hb := has_lt h
  have hc := bytes_c b b (Lib.byteCells l) (c.toNat : Int) w h (by rw [Lib.byteCells_length]; exact hlen) (by omega)
  refine hc.mono fun e w' ⟨h1, h2, h3⟩ => ⟨h1, ?_, h3⟩
  unfold Has
  rw [Lib.byteCells_append]
  exact h2
end Go.Proofs.YtmccbcficbbidaaGreatDoor.Lxw

/-
  The reader of package lex in memory; contracts of next, passBlanks, stood.
-/
namespace Go.Proofs.YtmccbcficbbidaaGreatDoor.Lxw
open Go.RowKit Go.Proofs.YtmccbcficbbidaaGreatDoor.Oct Go.Proofs.YtmccbcficbbidaaGreatDoor.Lex

/-- The reader's box. -/
abbrev boxR (l : List UInt8) (b k p : Int) : Array Value := #[.string (S l), .int .i64 b, .int .i64 k, .int .i64 p]
def Rx (R : Nat) (l : List UInt8) (b k p : Int) (w : World) : Prop := w.heap[R]? = some (.cells (boxR l b k p) 71 (0, 0))
/-- All that lay in w lies as it lay, but for the block R. -/
structure Kr (R : Nat) (w w' : World) : Prop where
  os : w'.os = w.os
  tape : w'.tape = w.tape
  output : w'.output = w.output
  size : w.heap.size ≤ w'.heap.size
  block : ∀ k, k < w.heap.size → k ≠ R → w'.heap[k]? = w.heap[k]?
theorem Kr.refl (R : Nat) (w : World) : Kr R w w := ⟨rfl, rfl, rfl, Nat.le_refl _, fun _ _ _ => rfl⟩
theorem Kr.trans {R : Nat} {a b c : World} (h : Kr R a b) (k : Kr R b c) : Kr R a c :=
  ⟨k.os.trans h.os, k.tape.trans h.tape, k.output.trans h.output, Nat.le_trans h.size k.size, fun i hi hR => (k.block i (Nat.lt_of_lt_of_le hi h.size) hR).trans (h.block i hi hR)⟩
theorem Kr.of {R : Nat} {w w' : World} (h : Below w.heap.size w w') : Kr R w w' := ⟨h.os, h.tape, h.output, h.size, fun k hk _ => h.block k hk⟩
theorem Kr.set {R i : Nat} (w : World) (v : Value) : Kr R w (w.setCell ⟨R, i, none⟩ v) :=
  ⟨rfl, rfl, rfl, by simp [World.setCell], fun k _ hR => heap_setCell_other _ _ _ _ (by simpa using hR)⟩
theorem Kr.drew {R : Nat} {a w : World} (h : Kr R a w) : Kr R a w.drew := ⟨h.os, h.tape, h.output, h.size, h.block⟩
theorem Kr.kp {R : Nat} {w w' : World} (h : Kr R w w') : Kp R w.heap.size w w' := ⟨h.os, h.tape, h.output, h.size, h.block⟩
section
variable {R : Nat} {l : List UInt8} {b k p : Int} {w : World}
theorem Rx.lt (h : Rx R l b k p w) : R < w.heap.size := (Array.getElem?_eq_some_iff.1 h).1
theorem Rx.keep {w' : World} (h : Rx R l b k p w) (hb : Below w.heap.size w w') : Rx R l b k p w' := (hb.block R h.lt).trans h
theorem Rx.at_ (h : Rx R l b k p w) (j : Int) : Rx R l b j p (w.setCell ⟨R, 2, none⟩ (.int .i64 j)) := heap_setCell_same w R 2 _ _ _ h
theorem Rx.place (h : Rx R l b k p w) (j : Int) : Rx R l b k j (w.setCell ⟨R, 3, none⟩ (.int .i64 j)) := heap_setCell_same w R 3 _ _ _ h
theorem Rx.drew (h : Rx R l b k p w) : Rx R l b k p w.drew := h
end
structure RxC (R : Nat) (l : List UInt8) (b k p : Int) (w : World) : Prop where
  c0 : w.cell? ⟨R, 0, none⟩ = some (.string (S l))
  c1 : w.cell? ⟨R, 1, none⟩ = some (.int .i64 b)
  c2 : w.cell? ⟨R, 2, none⟩ = some (.int .i64 k)
  c3 : w.cell? ⟨R, 3, none⟩ = some (.int .i64 p)
  z2 : w.frozen? ⟨R, 2, none⟩ = false
  z3 : w.frozen? ⟨R, 3, none⟩ = false
theorem Rx.cells {R : Nat} {l : List UInt8} {b k p : Int} {w : World} (h : Rx R l b k p w) : RxC R l b k p w :=
  ⟨(cell_of_row w R 0 _ _ _ h).trans rfl, (cell_of_row w R 1 _ _ _ h).trans rfl, (cell_of_row w R 2 _ _ _ h).trans rfl, (cell_of_row w R 3 _ _ _ h).trans rfl, frozen_of_row w R 2 _ _ h, frozen_of_row w R 3 _ _ h⟩

/-- The octet that is read next; 0 behind the last. -/
def nextO (l : List UInt8) (k : Nat) : UInt8 := l.getD k 0
set_option maxHeartbeats 1000000 in
set_option maxRecDepth 100000 in
theorem next_c {R : Nat} {l : List UInt8} {b p : Int} {k : Nat} (hk : k ≤ l.length) (hl : l.length ≤ 4194304) (w : World) (h : Rx R l b k p w) :
    Calls Tryz.prog 75 #[.pointer (some ⟨R, 0, none⟩)] w fun e w' => e = .returned (.int .u8 ((nextO l k).toNat : Int)) ∧ ∃ q, w' = w.drewN q := by
  have hsz : ((S l).size : Int) = (l.length : Int) := by rw [size_S]
  have hsn : (S l).size = l.length := size_S l
  obtain ⟨c0, c1, c2, c3, z2, z3⟩ := h.cells
  have i0 : (0 : Int) ≤ (k : Int) := by omega
  have i1 : (k : Int) ≤ (l.length : Int) := by omega
  have i2 : (l.length : Int) ≤ 4194304 := by omega
  by_cases hlt : k < l.length
  · have hn : nextO l k = l[k] := by unfold nextO; simp [hlt]
    rw [hn]
    have h1 := at_S l k hlt
    have hcb : ((l[k]).toNat : Int) ≤ 255 := by have := (l[k]).toNat_lt; omega
    have i3 : (k : Int) < (l.length : Int) := by omega
    have hq : ((k : Int) == (l.length : Int)) = false := by rw [beq_eq_false_iff_ne]; omega
    have hq2 : ¬ (k : Int) = (l.length : Int) := by omega
    have hq3 : ¬ k = l.length := by omega
    clear hn h
    generalize l[k] = c at *
    go_enter Tryz.func75, Tryz.ntmps75
    go_wp2
    go_quiet (fail)
    go_wp2
    go_quiet (fail)
    go_wp2
    go_ret
    exact ⟨rfl, _, World.drewN_drewN _ _ _⟩
  · have hn : nextO l k = 0 := by unfold nextO; simp [hlt]
    rw [hn]
    have hq : ((k : Int) == (l.length : Int)) = true := by rw [beq_iff_eq]; omega
    have hq2 : (k : Int) = (l.length : Int) := by omega
    have hq4 := Lib.hid hq2
    clear hn h hq2 hk hlt i0 i1
    go_enter Tryz.func75, Tryz.ntmps75
    go_wp2
    go_quiet (fail)
    go_wp2
    go_ret
    exact ⟨rfl, _, rfl⟩
theorem next_b {R : Nat} {l : List UInt8} {b p : Int} {k : Nat} (hk : k ≤ l.length) (hl : l.length ≤ 4194304) (w : World) (h : Rx R l b k p w) :
    Calls Tryz.prog 75 #[.pointer (some ⟨R, 0, none⟩)] w fun e w' => e = .returned (.int .u8 ((nextO l k).toNat : Int)) ∧ Below w.heap.size w w' :=
  (next_c hk hl w h).mono fun _ _ ⟨h1, _, h2⟩ => ⟨h1, grown_q h2⟩

set_option maxHeartbeats 1000000 in
set_option maxRecDepth 100000 in
theorem blanks_c {R : Nat} {l : List UInt8} {b p : Int} {k : Nat} (hk : k ≤ l.length) (hl : l.length ≤ 4194304) (w : World) (h : Rx R l b k p w) :
    Calls Tryz.prog 53 #[.pointer (some ⟨R, 0, none⟩)] w fun e w' => e = .returned (.tuple #[]) ∧ Rx R l b ((k + skipN (l.drop k) : Nat) : Int) p w' ∧ Kr R w w' := by
  have hsz : ((S l).size : Int) = (l.length : Int) := by rw [size_S]
  have hsn : (S l).size = l.length := size_S l
  obtain ⟨c0, c1, c2, c3, z2, z3⟩ := h.cells
  have i0 : (0 : Int) ≤ (k : Int) := by omega
  have i1 : (k : Int) ≤ (l.length : Int) := by omega
  have i2 : (l.length : Int) ≤ 4194304 := by omega
  have hcut := cutFrom l k
  have hah := fun W => ahead_c (l.drop k) (by rw [List.length_drop]; omega) W
  rw [← hcut] at hah
  have hsk := skip_le (l.drop k)
  rw [List.length_drop] at hsk
  obtain ⟨n, hn⟩ : ∃ n, n = k + skipN (l.drop k) := ⟨_, rfl⟩
  have hni : (k : Int) + ((skipN (l.drop k) : Nat) : Int) = (n : Int) := by omega
  have hnb : (n : Int) ≤ 4194304 := by omega
  have hnw : IntKind.i64.wrap (n : Int) = (n : Int) := by rw [IntKind.wrap_i64]; omega
  rw [← hn]
  have HX := Lib.hid (And.intro (h.at_ (n : Int)).drew ((Kr.set (R := R) (i := 2) w (.int .i64 (n : Int))).drew))
  generalize skipN (l.drop k) = q at *
  clear hn hcut hsk h
  go_enter Tryz.func53, Tryz.ntmps53
  go_wp2_with fail
  go_still_tail 15, (by kernel_rfl)
  still_call ((hah _).mono fun _ _ h => ⟨h.1, h.2.symm⟩)
  repeat still_step
  refine wpStill_nil ?_
  change wpList _ _ _ _ _ w.drew
  go_wp2_with fail
  go_end0
  exact ⟨rfl, HX.out.1, HX.out.2⟩

theorem rdemand_c (R : Nat) (p : Int) (w : World) : Calls Tryz.prog 126 #[.pointer (some ⟨R, 0, none⟩), .bool true, .int .i64 p] w fun e w' => e = .returned (.tuple #[]) ∧ w = w' := by
  go_enter Tryz.func126, Tryz.ntmps126
  go_wp2_with (go_at_call 57; refine (demand_yes _ _).mono ?_; rintro e w' ⟨rfl, rfl⟩)
  go_end0
  exact ⟨rfl, rfl⟩
/-- What an octet behind a \\ stands for. -/
def escV (c : UInt8) : UInt8 := if c = 110 then 10 else if c = 116 then 9 else c
theorem short_tab : ∀ c : UInt8, (c = 110 ∨ c = 116 ∨ c = 92 ∨ c = 34) → ∃ k : Nat, Lib.indexByte [110, 116, 92, 34] c = (k : Int) ∧ k < 4 ∧ ∀ h : k < (⟨#[10, 9, 92, 34]⟩ : ByteArray).size, (⟨#[10, 9, 92, 34]⟩ : ByteArray)[k]'h = escV c := by
  rintro c (rfl | rfl | rfl | rfl)
  · exact ⟨0, by decide, by decide, fun _ => rfl⟩
  · exact ⟨1, by decide, by decide, fun _ => rfl⟩
  · exact ⟨2, by decide, by decide, fun _ => rfl⟩
  · exact ⟨3, by decide, by decide, fun _ => rfl⟩
theorem next_q {R : Nat} {l : List UInt8} {b p : Int} {k : Nat} (hk : k < l.length) (hl : l.length ≤ 4194304) (w : World) (h : Rx R l b k p w) (n : Nat) :
    Calls Tryz.prog 75 #[.pointer (some ⟨R, 0, none⟩)] (w.drewN n) fun e w' => e = .returned (.int .u8 ((l[k]).toNat : Int)) ∧ ∃ q, w' = (w.drewN n).drewN q := by
  have hne := next_c (by omega : k ≤ l.length) hl (w.drewN n) h
  have hn : nextO l k = l[k] := by unfold nextO; simp [hk]
  rw [hn] at hne
  exact hne
set_option maxHeartbeats 1000000 in
set_option maxRecDepth 100000 in
theorem stood_plain {R : Nat} {l : List UInt8} {b p : Int} {k : Nat} (hk : k < l.length) (hl : l.length ≤ 4194304) (w : World) (h : Rx R l b k p w) (h1 : l[k] ≠ 92) (h2 : l[k] ≠ 10) :
    Calls Tryz.prog 110 #[.pointer (some ⟨R, 0, none⟩)] w fun e w' => e = .returned (.int .u8 ((l[k]).toNat : Int)) ∧ Rx R l b k p w' ∧ Kr R w w' := by
  have hne := next_q hk hl w h
  obtain ⟨c0, c1, c2, c3, z2, z3⟩ := h.cells
  have e1 : (((l[k]).toNat : Int) == 92) = false := oct_ne (n := 92) h1 (by decide)
  have e2 : (((l[k]).toNat : Int) == 10) = false := oct_ne (n := 10) h2 (by decide)
  have n1 : ¬ ((l[k]).toNat : Int) = 92 := by rw [beq_eq_false_iff_ne] at e1; exact e1
  have n2 : ¬ ((l[k]).toNat : Int) = 10 := by rw [beq_eq_false_iff_ne] at e2; exact e2
  have f1 : (((l[k]).toNat : Int) != 92) = true := by rw [bne, e1]; rfl
  have f2 : (((l[k]).toNat : Int) != 10) = true := by rw [bne, e2]; rfl
  have hcb : ((l[k]).toNat : Int) ≤ 255 := by have := (l[k]).toNat_lt; omega
  have HW := Lib.hid h
  clear h h1 h2
  generalize l[k] = c at *
  go_enter Tryz.func110, Tryz.ntmps110
  go_wp2
  go_quiet ((go_at_call 75; exact Calls.quiet_of (hne _)))
  have H2 := Lib.hid (And.intro (HW.out.keep (Oct.below_drewN (Below.refl _ w) nq)) (Kr.of (R := R) (Oct.below_drewN (Below.refl _ w) nq)))
  generalize w.drewN nq = w2 at H2 ⊢
  go_wp2_with (go_at_call 126; refine (rdemand_c _ _ _).mono ?_; rintro e w' ⟨rfl, rfl⟩)
  go_ret
  exact ⟨rfl, H2.out.1, H2.out.2⟩
set_option maxHeartbeats 1000000 in
set_option maxRecDepth 100000 in
theorem stood_esc {R : Nat} {l : List UInt8} {b p : Int} {k : Nat} (hk : k + 1 < l.length) (hl : l.length ≤ 4194304) (w : World) (h : Rx R l b k p w) (h1 : l[k] = 92) (h2 : l[k + 1] = 110 ∨ l[k + 1] = 116 ∨ l[k + 1] = 92 ∨ l[k + 1] = 34) :
    Calls Tryz.prog 110 #[.pointer (some ⟨R, 0, none⟩)] w fun e w' => e = .returned (.int .u8 ((escV l[k + 1]).toNat : Int)) ∧ Rx R l b ((k + 1 : Nat) : Int) p w' ∧ Kr R w w' := by
  have hne := next_q (by omega : k < l.length) hl w h
  have HNe := Lib.hid (fun W (h : Rx R l b ((k + 1 : Nat) : Int) p W) => next_q hk hl W h 0)
  obtain ⟨c0, c1, c2, c3, z2, z3⟩ := h.cells
  have e1 : ((l[k]).toNat : Int) = 92 := by rw [h1]; rfl
  rw [e1] at hne
  obtain ⟨j, hj, hj4, hjt⟩ := short_tab _ h2
  have hcb : ((l[k + 1]).toNat : Int) ≤ 255 := by have := (l[k + 1]).toNat_lt; omega
  have hix := fun w => Tryz.strings_IndexByte (S [110, 116, 92, 34]) ((l[k + 1]).toNat : Int) w
  rw [list_S, show ((l[k + 1]).toNat : Int).toNat.toUInt8 = l[k + 1] by simp, hj] at hix
  replace hix : ∀ w, Calls Tryz.prog 73 #[.string ⟨#[110, 116, 92, 34]⟩, .int .u8 ((l[k + 1]).toNat : Int)] w fun e w' => e = .returned (.int .i64 (j : Int)) ∧ w' = w := hix
  have k0 : (k : Int) ≤ 4194304 := by omega
  have k1 : (0 : Int) ≤ (k : Int) := by omega
  have k2 : (k : Int) + 1 = ((k + 1 : Nat) : Int) := by omega
  have j0 : (0 : Int) ≤ (j : Int) := by omega
  have j1 : (j : Int) < 4 := by omega
  have hev : ((escV l[k + 1]).toNat : Int) ≤ 255 := by have := (escV l[k + 1]).toNat_lt; omega
  have HW := Lib.hid h
  clear h h1 h2 hj e1
  generalize escV l[k + 1] = ev at *
  generalize l[k + 1] = c at *
  generalize k + 1 = m at *
  go_enter Tryz.func110, Tryz.ntmps110
  go_wp2
  go_quiet ((go_at_call 75; exact Calls.quiet_of (hne _)))
  have H2 := Lib.hid (And.intro (HW.out.keep (Oct.below_drewN (Below.refl _ w) nq)) (Kr.of (R := R) (Oct.below_drewN (Below.refl _ w) nq)))
  clear c0 c1 c2 c3 z2 z3
  generalize w.drewN nq = w2 at H2 ⊢
  obtain ⟨c0, c1, c2, c3, z2, z3⟩ := H2.out.1.cells
  have H3 := Lib.hid (And.intro (H2.out.1.at_ (m : Int)) (H2.out.2.trans (Kr.set (R := R) (i := 2) w2 (.int .i64 (m : Int)))))
  have hne3 := HNe.out _ H3.out.1
  go_wp2_with fail
  refine hne3.mono ?_
  clear hne3
  rintro e w4 ⟨rfl, q4, hw4⟩
  have hb4 : Below (w2.setCell ⟨R, 2, none⟩ (.int .i64 (m : Int))).heap.size (w2.setCell ⟨R, 2, none⟩ (.int .i64 (m : Int))) w4 := grown_q hw4
  have H4 := Lib.hid (And.intro (H3.out.1.keep hb4) (H3.out.2.trans (Kr.of hb4)))
  clear hb4 hw4
  go_wp2_with (first
    | (go_at_call 73; refine (hix _).mono ?_; rintro e w5 ⟨rfl, rfl⟩)
    | (go_at_call 126; refine (rdemand_c _ _ _).mono ?_; rintro e w5 ⟨rfl, rfl⟩))
  go_ret
  exact ⟨rfl, H4.out.1, H4.out.2⟩
end Go.Proofs.YtmccbcficbbidaaGreatDoor.Lxw
