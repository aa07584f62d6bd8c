/-
  Part 16: UtfRefDec, PgChars, UtfParts, UtfEach, UtfCalls, UtfRepair, UtfRefLists, UtfSame, CrfPgRow, CrfPgDec.
-/
import Derived.Test.YtidfcajhmldieaaGreatOwnBaseP14
import Derived.Maps.AppendAt
import Derived.Test.YtidfcajhmldieaaGreatOwnBaseP10
import Derived.RangeFuncNested
import Derived.RangeFuncBound
import Derived.RangeFuncCalls
import Derived.RangeFuncLeaves
import Derived.Shelf.Abstract
import Derived.Shelf.RegionOpen
import Derived.OwnWalkIn
import Derived.TacticsInMore
import Derived.LoopNIn
import Derived.LoopIn
import Derived.Lib.AppendStr
import Derived.Test.YtidfcajhmldieaaGreatOwnBaseP15
import Derived.Test.YtidfcajhmldieaaGreatOwnBaseP8
/-
  Contract of the page's Decode.
-/
namespace Go.Proofs.YtidfcajhmldieaaGreat.Utf
open Go.RowKit Go.Proofs.YtidfcajhmldieaaGreat.Oct Go.Proofs.YtidfcajhmldieaaGreat.Mem
open Go.Lib (encodeRune encodeRuneZ)

theorem oct_at (s : ByteArray) (k : Nat) (h : k < s.size) : oct s.data.toList k = s[k].toNat := by
  unfold oct
  rw [at_eq s k h]; rfl

def maskI (n : Nat) : Int := if n = 1 then 127 else if n = 2 then 31 else if n = 3 then 15 else 7
theorem mask_all : ∀ (n : Fin 4) (b : Fin 256), bits .and .i64 ((b.val : Nat) : Int) (maskI (n.val + 1)) = ((b.val % partN (n.val + 1) : Nat) : Int) := by decide +kernel
theorem mask_eq (n b : Nat) (h1 : 1 ≤ n) (h4 : n ≤ 4) (hb : b < 256) : bits .and .i64 (b : Int) (maskI n) = ((b % partN n : Nat) : Int) := by
  have := mask_all ⟨n - 1, by omega⟩ ⟨b, hb⟩
  simp only at this
  rwa [show n - 1 + 1 = n by omega] at this

theorem cut_take (s : ByteArray) (n : Nat) : (s.extract 0 n).data.toList = s.data.toList.take n := by
  rw [Lib.extract_data, List.drop_zero, Nat.sub_zero]

theorem text_ne (s : ByteArray) (hs : 0 < s.size) : s.toList.isEmpty = false ∧ s.toList ≠ [] := by
  have hne : s.toList.isEmpty = false := by
    rw [Lib.toList_data]
    cases h : s.data.toList with
    | nil => have := size_list s; rw [h] at this; simp at this; omega
    | cons _ _ => rfl
  exact ⟨hne, by intro e; rw [e] at hne; simp at hne⟩

theorem mask_cell (w : World) (n : Nat) (h1 : 1 ≤ n) (h4 : n ≤ 4) : (w.alloc (.cells #[.int .i64 0, .int .i64 127, .int .i64 31, .int .i64 15, .int .i64 7] 3)).cell? ⟨w.heap.size, n, none⟩ = some (.int .i64 (maskI n)) := by
  unfold World.cell?
  rw [World.alloc_heap_new]
  match n, h1, h4 with
  | 1, _, _ => rfl
  | 2, _, _ => rfl
  | 3, _, _ => rfl
  | 4, _, _ => rfl

theorem partN_b (n : Nat) : 0 < partN n ∧ partN n ≤ 128 := by
  unfold partN
  repeat' split
  all_goals omega
theorem below_drewN {B : Nat} {a w : World} (h : Below B a w) : ∀ q, Below B a (w.drewN q)
  | 0 => h
  | q + 1 => (below_drewN h q).drew

end Go.Proofs.YtidfcajhmldieaaGreat.Utf

/-
  Contract of the page's Chars: the characters of a text, as they are repaired, in a list of its own.
-/
namespace Go.Proofs.YtidfcajhmldieaaGreat.Utf
open Go.RowKit Go.Proofs.YtidfcajhmldieaaGreat.Oct Go.Proofs.YtidfcajhmldieaaGreat.Mem
open Go.Lib (encodeRune encodeRuneZ)

theorem chars_step (l : List UInt8) (hl : l ≠ []) : chars l = fix (dec l).1 :: chars (l.drop (dec l).2) := by
  unfold chars
  rw [parts_step l hl, List.map_cons]
theorem chars_nil : chars [] = [] := rfl
theorem drop_ne (s : ByteArray) (a : Nat) (h : a < s.size) : s.data.toList.drop a ≠ [] := by
  intro e; have := congrArg List.length e; rw [List.length_drop, size_list] at this; simp at this; omega
theorem drop_nil (s : ByteArray) (a : Nat) (h : s.size ≤ a) : s.data.toList.drop a = [] := List.drop_eq_nil_of_le (by rw [size_list]; exact h)

theorem fix_low {c : Int} (h : c = -1 ∨ isChar c) (hc : c ≤ 0) : fix c = 65533 := by
  unfold fix; rw [if_pos]; unfold isChar at h; omega
theorem fix_high {c : Int} (hc : 0 < c) : fix c = c := by
  unfold fix; rw [if_neg]; omega

end Go.Proofs.YtidfcajhmldieaaGreat.Utf

/-
  Contracts of utf.parts and of the iterator that it hands out: the parts of the text, from the left.
-/
namespace Go.Proofs.YtidfcajhmldieaaGreat.Utf
open Go.RowKit Go.Proofs.YtidfcajhmldieaaGreat.Oct Go.Proofs.YtidfcajhmldieaaGreat.Mem
open Go.Lib (encodeRune)

attribute [local go_sem] Oper.semAt_some

/-- A part of a text: a character, or -1. -/
abbrev Part := { c : Int // c = -1 ∨ isChar c }
abbrev vals (l : List Part) : List Int := l.map (·.1)

theorem kept_grown {W W' : World} (h : Kept W W') : W.grownBy W' none := ⟨h.os, h.tape, h.output, h.size, fun k hk _ => h.block k hk⟩

end Go.Proofs.YtidfcajhmldieaaGreat.Utf

/-
  Contracts of utf.eachRepaired, at whatever function value that is handed in and whatever it makes of memory of its own, and of utf.anyPart, at a function value that changes nothing.
-/
namespace Go.Proofs.YtidfcajhmldieaaGreat.Utf
open Go.RowKit Go.Proofs.YtidfcajhmldieaaGreat.Oct Go.Proofs.YtidfcajhmldieaaGreat.Mem
open Go.Lib (encodeRune)

attribute [local go_sem] Oper.semAt_some

/-- What is asked of a function value that tells of a part whether it is wanted: it changes nothing. -/
def Asks (g : Nat) (lb : Array Value) (p : Int → Bool) : Prop :=
  ∀ (c : Int) (W : World), Calls Tryz.prog g (#[.int .i64 c] ++ lb) W fun e w' => e = .returned (.bool (p c)) ∧ W = w'

end Go.Proofs.YtidfcajhmldieaaGreat.Utf

/-
  Contracts of utf.Valid, Count, Repair, Chars.
-/
namespace Go.Proofs.YtidfcajhmldieaaGreat.Utf
open Go.RowKit Go.Proofs.YtidfcajhmldieaaGreat.Oct Go.Proofs.YtidfcajhmldieaaGreat.Mem
open Go.Lib (encodeRune)

/-! ### Valid -/
theorem valid_any (l : List UInt8) : (!(parts l).any (fun c => c == -1)) = valid l := by
  unfold valid
  rw [Bool.eq_iff_iff]
  simp

/-! ### Count -/
end Go.Proofs.YtidfcajhmldieaaGreat.Utf

/-
  Contracts of utf.Repair and utf.Chars.
-/
namespace Go.Proofs.YtidfcajhmldieaaGreat.Utf
open Go.RowKit Go.Proofs.YtidfcajhmldieaaGreat.Oct Go.Proofs.YtidfcajhmldieaaGreat.Mem
open Go.Lib (encodeRune)

/-! ### Repair -/
/-- Another box than the slice's, of another type than its cells, lies as it lay. -/
theorem other_box {W w1 : World} {n₀ B k : Nat} {t e : TypeId} {v v' u : Value} {n size : Nat} {xs : List Value} {tmp : Obj} (h : Boxed W k t u) (hte : t ≠ e) (hkB : k ≠ B) (hrow : W.ownsRow n₀ e size v n xs) (hgrow : (W.alloc tmp).grownBy w1 v.ownBlock) :
    Boxed (w1.setCell ⟨B, 0, none⟩ v') k t u := ((h.alloc tmp).kept hgrow (h.not_row hte hrow)).other hkB _

/-! ### Chars -/
end Go.Proofs.YtidfcajhmldieaaGreat.Utf

/-
  Contracts of the page's Valid and Chars, and of SameInts: lists of numbers in memory.
-/
namespace Go.Proofs.YtidfcajhmldieaaGreat.Utf
open Go.RowKit Go.Proofs.YtidfcajhmldieaaGreat.Oct Go.Proofs.YtidfcajhmldieaaGreat.Mem
open Go.Lib (encodeRune encodeRuneZ)

theorem valid_step (l : List UInt8) (hl : l ≠ []) : valid l = (decide ((dec l).1 ≠ -1) && valid (l.drop (dec l).2)) := by
  unfold valid
  rw [parts_step l hl, List.all_cons]
theorem valid_nil : valid [] = true := rfl
end Go.Proofs.YtidfcajhmldieaaGreat.Utf

/-
  Contracts of the page's Repair and of SameInts: lists of numbers in memory.
-/
namespace Go.Proofs.YtidfcajhmldieaaGreat.Utf
open Go.RowKit Go.Proofs.YtidfcajhmldieaaGreat.Oct Go.Proofs.YtidfcajhmldieaaGreat.Mem
open Go.Lib (encodeRune encodeRuneZ)

/-- A slice that holds these numbers. -/
def Ints (W : World) (v : Value) (l : List Int) : Prop :=
  (v = .slice none 0 0 ∧ l = []) ∨ ∃ g cap, v = .slice (some ⟨g, 0, none⟩) l.length cap ∧ ∀ j c, l[j]? = some c → W.cell? ⟨g, j, none⟩ = some (.int .i64 c)

theorem ints_of_row {W : World} {base n : Nat} {v : Value} {l : List Int} (h : W.ownsRow base 3 1 v n (l.map iv)) : Ints W v l := by
  have hn : l.length = n := by simpa using h.1
  rcases h.2 with ⟨rfl, hz⟩ | ⟨g, cap, cur, rfl, hg, hh, hnc, hcm, hcs, htk⟩
  · exact .inl ⟨rfl, List.eq_nil_of_length_eq_zero (by omega)⟩
  · subst hn
    refine .inr ⟨g, cap, rfl, fun j c hj => ?_⟩
    have h1 := h.cellAt j (by have := (List.getElem?_eq_some_iff.1 hj).1; omega)
    rw [h1, List.getElem?_map, hj]; rfl
theorem Ints.kept {W W' : World} {v : Value} {l : List Int} (h : Ints W v l) (hb : Kept W W') : Ints W' v l := by
  rcases h with h | ⟨g, cap, rfl, hc⟩
  · exact .inl h
  · exact .inr ⟨g, cap, rfl, fun j c hj => kept_cell hb (hc j c hj)⟩

theorem strCells_S (l : List UInt8) : Lib.strCells (S l) = l.map bv := by
  simp [Lib.strCells]

/-- The loop of the page's Repair: octets that are laid one behind the other. -/
theorem encs_take (cs : List Int) (k : Nat) (c : Int) (h : cs[k]? = some c) : encs (cs.take (k + 1)) = encs (cs.take k) ++ encodeRune c := by
  rw [List.take_add_one, h]
  show encs (cs.take k ++ [c]) = _
  rw [encs_snoc]

end Go.Proofs.YtidfcajhmldieaaGreat.Utf

/-
  What the contracts of the page's Escape and Decode share.
-/
namespace Go.Proofs.YtidfcajhmldieaaGreat.Crf
open Go.RowKit Go.Proofs.YtidfcajhmldieaaGreat.Oct Go.Proofs.YtidfcajhmldieaaGreat.Num Go.Proofs.YtidfcajhmldieaaGreat.Utf Go.Proofs.YtidfcajhmldieaaGreat.Mem
open Go.Lib (encodeRune)

/-- The new octet's cell, as an append of one octet asks for it. -/
theorem push_cell {w : World} {x : Int} {c : UInt8} (h : x = (c.toNat : Int)) (j : Nat) (u : Value) (hj : [Mem.bv c][j]? = some u) :
    (w.alloc (.cells #[.int .u8 x] 5)).cell? ((⟨w.heap.size, 0, none⟩ : Addr).add j) = some u := by
  subst h
  match j, hj with
  | 0, hj => simp at hj; subst hj; simp [Addr.add]
theorem push_one {c : UInt8} (u : Value) (hu : u ∈ [Mem.bv c]) : u.oneCell' = true := by simp at hu; subst hu; rfl

/-- A row of octets of the call's own that holds these. -/
def Row (base : Nat) (v : Value) (o : List UInt8) (w : World) : Prop := w.ownsRow base 5 1 v o.length (o.map Mem.bv)
theorem Row.more {base : Nat} {v' : Value} {o t : List UInt8} {w' : World} (h : w'.ownsRow base 5 1 v' (o.length + t.length) (o.map Mem.bv ++ t.map Mem.bv)) : Row base v' (o ++ t) w' := by
  unfold Row
  rw [List.length_append, List.map_append]
  exact h
theorem cells_S (t : List UInt8) : Lib.strCells (S t) = t.map Mem.bv ∧ (S t).size = t.length := ⟨strCells_S t, size_S t⟩

end Go.Proofs.YtidfcajhmldieaaGreat.Crf

/-
  Contract of the page's Decode.
-/
namespace Go.Proofs.YtidfcajhmldieaaGreat.Crf
open Go.RowKit Go.Proofs.YtidfcajhmldieaaGreat.Oct Go.Proofs.YtidfcajhmldieaaGreat.Num Go.Proofs.YtidfcajhmldieaaGreat.Utf Go.Proofs.YtidfcajhmldieaaGreat.Mem
open Go.Lib (encodeRune)

set_option maxHeartbeats 2000000 in
set_option maxRecDepth 100000 in
/-- Contract of the page's Decode. -/
theorem rDecode_c (l : List UInt8) (hl : l.length ≤ 134217728) (w : World) :
    Calls Tryz.prog 30 #[.string (S l)] w fun e w' => e = .returned (.string (S (decL' l))) ∧ Below w.heap.size w w' := by
  obtain ⟨i0, hi, hz0, hz1, hz2⟩ := info_parts Mem.info_u8
  have HX := Lib.hid (fun k (h : k < (S l).size) => (by
    have h' : k < l.length := by rw [← size_S]; exact h
    exact ⟨h', rfl⟩ : ∃ h' : k < l.length, (S l)[k]'h = l[k]'h'))
  have hsz : (S l).size = l.length := size_S l
  have hszi : ((S l).size : Int) = (l.length : Int) := by rw [size_S]
  have HFrom := Lib.hid (fun k => (cutFrom (S l) k).trans (by rw [list_S] : S ((S l).data.toList.drop k) = S (l.drop k)))
  have HOne := Lib.hid (fun k w => rOne_c (l.drop k) (by rw [List.length_drop]; omega) w)
  generalize S l = s at HX hsz hszi HFrom
  have HFrom := Lib.hid (fun k => (by rw [← hsz]; exact HFrom.out k : s.extract k l.length = S (l.drop k)))
  go_enter Tryz.func30, Tryz.ntmps30
  go_wp2_with fail
  go_loopw [3, 4] (fun b i wr => ∃ t : Nat, t ≤ l.length ∧ i = .int .i64 t ∧ ∃ o, o.length ≤ 4 * t ∧ Hid (o ++ decL' (l.drop t) = decL' l) ∧ Hid (Row w.heap.size b o wr) ∧ Hid (Below w.heap.size w wr)) (fun _ i _ => l.length - (intOf i).toNat)
  case atStart => exact ⟨0, Nat.zero_le _, rfl, [], by simp, rfl, World.ownsRow_nil _ _ _ _, Below.refl _ _⟩
  case round =>
    obtain ⟨t, ht, rfl, o, hol, ho, hrow, hb⟩ := hrel
    by_cases hlt : t < l.length
    · have hks : t < s.size := by omega
      obtain ⟨h', hx⟩ := HX.out t hks
      have hf := HFrom.out t
      have hone := HOne.out t wr
      rw [← hf] at hone
      have j0 : (0 : Int) ≤ (t : Int) := by omega
      have j1 : (t : Int) < (l.length : Int) := by omega
      have j2 : (t : Int) ≤ (l.length : Int) := by omega
      obtain ⟨m, hm⟩ : ∃ m, m = o.length := ⟨_, rfl⟩
      have hrow' : wr.ownsRow w.heap.size 5 1 u3 m (o.map Mem.bv) := by rw [hm]; exact hrow.out
      have HR := Lib.hid hrow'
      have hml : m ≤ 536870912 := by omega
      have HM := Lib.hid hm
      have hxn : s[t].toNat = l[t].toNat := by rw [hx]
      have hxu : s[t].toNat < 256 := s[t].toNat_lt
      have hlen := one_len (l.drop t)
      have hsl := one_slen (l.drop t)
      rw [List.length_drop] at hlen
      have HolT := Lib.hid hol
      clear hrow' hrow hm hf
      by_cases hz : (oneL (l.drop t)).2 = 0
      · have HN : Hid ((o ++ [l[t]]) ++ decL' (l.drop (t + 1)) = decL' l) := by
          show _ = _
          rw [← ho.out, List.append_assoc]
          congr 1
          have e : l.drop t = l[t] :: l.drop (t + 1) := List.drop_eq_getElem_cons hlt
          rw [e] at hz ⊢
          rw [dec_plain _ _ hz]
          rfl
        rw [one_zero hz] at hone
        have hpc : (s[t].toNat : Int) = (l[t].toNat : Int) := by rw [hxn]
        have HPC := Lib.hid hpc
        clear hxn hx hpc hz hlen hsl
        generalize l[t] = c at HN HPC
        go_wp2_with fail
        refine hone.mono ?_
        rintro e w2 ⟨rfl, hb2⟩
        have HR2 := Lib.hid (own_kept HR.out hb2)
        have HB2 := Lib.hid (hb.out.trans (hb2.mono hb.out.size))
        have hB : w.heap.size ≤ w2.heap.size := HB2.out.size
        clear hb2 hone
        go_wp2_with (at_builtin; refine wpList_append_own _ rfl _ _ 42 rfl w.heap.size 5 i0 (.int .u8 0) 1 1 Tryz.underlying42 hi hz0 hz1 hz2 rfl (by decide) _ _ _ rfl (HR2.out.alloc _) ⟨w2.heap.size, 0, none⟩ 1 1 [Mem.bv c] rfl rfl (push_cell HPC.out) push_one (by unfold maxLen; omega) (by omega) (by simp; omega) ?_)
        intro v' w3 hown hg _
        have HO2 : Hid (Row w.heap.size v' (o ++ [c]) w3) := by
          show Row _ _ _ _
          refine Row.more ?_
          rw [← HM.out]
          exact hown
        have HB3 : Hid (Below w.heap.size w w3) := (HB2.out.alloc hB _).grown hg (by simp; omega) (own_base HR2.out)
        clear hown hg
        go_wp2_with fail
        go_roundw
        case rel => exact ⟨t + 1, by omega, by go_num, o ++ [c], by rw [List.length_append, List.length_singleton]; have := HolT.out; omega, HN, HO2, HB3⟩
        case measure => simp [intOf]; omega
      · have HN : Hid ((o ++ (oneL (l.drop t)).1) ++ decL' (l.drop (t + (oneL (l.drop t)).2)) = decL' l) := by
          show _ = _
          rw [← ho.out, List.append_assoc]
          congr 1
          rw [dec_ref _ hz, List.drop_drop]
        have hzp : 0 < (oneL (l.drop t)).2 := by omega
        have hzb : (((oneL (l.drop t)).2 : Int) == 0) = false := by simp; exact hz
        clear hxn hx hz
        generalize (oneL (l.drop t)).1 = st at hone HN hsl
        generalize (oneL (l.drop t)).2 = n at hone HN hlen hzp hzb
        have HC := Lib.hid (cells_S st)
        have hstz : (S st).size ≤ 4 := by rw [size_S]; exact hsl
        have HSl := Lib.hid hsl
        clear hsl
        generalize S st = T at hone HC hstz
        go_wp2_with fail
        refine hone.mono ?_
        rintro e w2 ⟨rfl, hb2⟩
        have HR2 := Lib.hid (own_kept HR.out hb2)
        have HB2 := Lib.hid (hb.out.trans (hb2.mono hb.out.size))
        have hB : w.heap.size ≤ w2.heap.size := HB2.out.size
        clear hb2 hone
        go_wp2_with (at_builtin; refine Lib.wpList_append_own_string _ rfl _ _ 42 9 rfl w.heap.size 5 i0 Tryz.underlying42 Tryz.underlying9 hi hz0 hz1 hz2 _ m _ rfl HR2.out T rfl (by unfold maxLen; omega) (by omega) hB ?_)
        intro v' w3 hown hg _
        have HO2 : Hid (Row w.heap.size v' (o ++ st) w3) := by
          show Row _ _ _ _
          refine Row.more ?_
          rw [← HC.out.1, ← HC.out.2, ← HM.out]
          exact hown
        have HB3 : Hid (Below w.heap.size w w3) := HB2.out.grown hg hB (own_base HR2.out)
        clear hown hg
        go_wp2_with fail
        go_roundw
        case rel => exact ⟨t + n, by omega, by go_num, o ++ st, by rw [List.length_append]; have := HolT.out; have := HSl.out; omega, HN, HO2, HB3⟩
        case measure => simp [intOf]; omega
    · have hkl : t = l.length := by omega
      subst hkl
      have hd : o = decL' l := by
        have := ho.out
        rw [List.drop_length, dec_nil', List.append_nil] at this
        exact this
      have hcv := conv_own hrow.out
      rw [hd] at hcv
      clear hd
      go_wp2_with fail
      go_ret
      exact ⟨rfl, hb.out⟩

end Go.Proofs.YtidfcajhmldieaaGreat.Crf
