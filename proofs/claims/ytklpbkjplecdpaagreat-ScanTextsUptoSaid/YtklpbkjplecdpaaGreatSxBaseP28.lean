/-
  Part 28: UtfParts, UtfEach, UtfCalls, UtfRepair, UtfRefLists, UtfSame, CrfPgRow, CrfPgEsc, ScwLaws, TokAtts, CrfPgDec.
-/
import Derived.Test.YtklpbkjplecdpaaGreatSxBaseP9
import Derived.RangeFuncNested
import Derived.RangeFuncBound
import Derived.RangeFuncCalls
import Derived.RangeFuncLeaves
import Derived.Shelf.Abstract
import Derived.Shelf.RegionOpen
import Derived.OwnWalkIn
import Derived.TacticsInMore
import Derived.LoopNIn
import Derived.LoopIn
import Derived.Maps.AppendAt
import Derived.Test.YtklpbkjplecdpaaGreatSxBaseP25
import Derived.Lib.AppendStr
import Derived.Test.YtklpbkjplecdpaaGreatSxBaseP27
import Derived.Test.YtklpbkjplecdpaaGreatSxBaseP24
import Derived.Test.YtklpbkjplecdpaaGreatSxBaseP3
/-
  Contracts of utf.parts and of the iterator that it hands out: the parts of the text, from the left.
-/
namespace Go.Proofs.YtklpbkjplecdpaaGreat.Utf
open Go.RowKit Oct Mem
open Go.Lib (encodeRune)

attribute [local go_sem] Oper.semAt_some

end Go.Proofs.YtklpbkjplecdpaaGreat.Utf

/-
  Contracts of utf.eachRepaired, at whatever function value that is handed in and whatever it makes of memory of its own, and of utf.anyPart, at a function value that changes nothing.
-/
namespace Go.Proofs.YtklpbkjplecdpaaGreat.Utf
open Go.RowKit Oct Mem
open Go.Lib (encodeRune)

attribute [local go_sem] Oper.semAt_some

end Go.Proofs.YtklpbkjplecdpaaGreat.Utf

/-
  Contracts of utf.Valid, Count, Repair, Chars.
-/
namespace Go.Proofs.YtklpbkjplecdpaaGreat.Utf
open Go.RowKit Oct Mem
open Go.Lib (encodeRune)



end Go.Proofs.YtklpbkjplecdpaaGreat.Utf

/-
  Contracts of utf.Repair and utf.Chars.
-/
namespace Go.Proofs.YtklpbkjplecdpaaGreat.Utf
open Go.RowKit Oct Mem
open Go.Lib (encodeRune)


end Go.Proofs.YtklpbkjplecdpaaGreat.Utf

/-
  Contracts of the page's Valid and Chars, and of SameInts: lists of numbers in memory.
-/
namespace Go.Proofs.YtklpbkjplecdpaaGreat.Utf
open Go.RowKit Oct Mem
open Go.Lib (encodeRune encodeRuneZ)

end Go.Proofs.YtklpbkjplecdpaaGreat.Utf

/-
  Contracts of the page's Repair and of SameInts: lists of numbers in memory.
-/
namespace Go.Proofs.YtklpbkjplecdpaaGreat.Utf
open Go.RowKit Oct Mem
open Go.Lib (encodeRune encodeRuneZ)

def Ints (W : World) (v : Value) (l : List Int) : Prop :=
  (v = .slice none 0 0 ∧ l = []) ∨ ∃ g cap, v = .slice (some ⟨g, 0, none⟩) l.length cap ∧ ∀ j c, l[j]? = some c → W.cell? ⟨g, j, none⟩ = some (.int .i64 c)

theorem ints_of_row {W : World} {base n : Nat} {v : Value} {l : List Int} (h : W.ownsRow base 3 1 v n (l.map iv)) : Ints W v l := by
  have hn : l.length = n := by simpa using h.1
  rcases h.2 with ⟨rfl, hz⟩ | ⟨g, cap, cur, rfl, hg, hh, hnc, hcm, hcs, htk⟩
  · exact .inl ⟨rfl, List.eq_nil_of_length_eq_zero (by omega)⟩
  · subst hn
    refine .inr ⟨g, cap, rfl, fun j c hj => ?_⟩
    have h1 := h.cellAt j (by have := (List.getElem?_eq_some_iff.1 hj).1; omega)
    rw [h1, List.getElem?_map, hj]; rfl
theorem Ints.kept {W W' : World} {v : Value} {l : List Int} (h : Ints W v l) (hb : Kept W W') : Ints W' v l := by
  rcases h with h | ⟨g, cap, rfl, hc⟩
  · exact .inl h
  · exact .inr ⟨g, cap, rfl, fun j c hj => kept_cell hb (hc j c hj)⟩

theorem strCells_S (l : List UInt8) : Lib.strCells (S l) = l.map Mem.bv := by
  simp [Lib.strCells]

theorem encs_take (cs : List Int) (k : Nat) (c : Int) (h : cs[k]? = some c) : encs (cs.take (k + 1)) = encs (cs.take k) ++ encodeRune c := by
  rw [List.take_add_one, h]
  show encs (cs.take k ++ [c]) = _
  rw [encs_snoc]

set_option maxHeartbeats 4000000 in
theorem rrepair_c (s : ByteArray) (hs : s.size ≤ 17592186044416) (w : World) :
    Calls Tryz.prog 31 #[.string s] w fun e w' => e = .returned (.string (S (rep s.data.toList))) ∧ Kept w w' := by
  obtain ⟨i0, hi, hz0, hz1, hz2⟩ := info_parts Mem.info_u8
  have hcl := chars_len s.data.toList
  rw [size_list] at hcl
  have hch := Lib.hid (chars_char s.data.toList)
  have hrep : Hid (rep s.data.toList = encs (chars s.data.toList)) := rfl
  have hcall := rchars_c s hs w
  generalize chars s.data.toList = cs at hcl hch hrep hcall
  obtain ⟨n, hn⟩ : ∃ n, n = cs.length := ⟨_, rfl⟩
  rw [← hn] at hcl hcall
  have HN := Lib.hid hn
  clear hn
  go_enter Tryz.func31, Tryz.ntmps31
  go_wp2_with fail
  refine hcall.mono ?_
  rintro e w1 ⟨v, rfl, hrow, hb1⟩
  clear hcall
  have HB1 := Lib.hid hb1
  rcases ints_of_row hrow with ⟨rfl, hnil⟩ | ⟨g, cap, rfl, hcells⟩
  · have hn0 : n = 0 := by rw [HN.out, hnil]; rfl
    have E : Hid (rep s.data.toList = []) := by show _ = _; rw [hrep.out, hnil]; rfl
    clear hrow hb1 hnil hn0 hrep hch HN hi hz0 hz1 hz2 hcl
    go_wp2
    go_loop [3, 5] (fun b i => b = .slice none 0 0 ∧ i = .int .i64 0) (fun _ _ => 0)
    case atStart => exact ⟨rfl, rfl⟩
    case round =>
      obtain ⟨rfl, rfl⟩ := hrel
      have hcv := Mem.conv_own (w := w1) (l := []) (World.ownsRow_nil w1 0 5 1)
      go_wp2
      go_ret
      rw [E.out]
      exact ⟨rfl, HB1.out⟩
  · rw [← HN.out]
    have HC := Lib.hid hcells
    clear hrow hb1 hcells
    go_wp2
    go_loopw [3, 5, 6, 7] (fun b i _ _ wr => ∃ k : Nat, k ≤ n ∧ i = .int .i64 k ∧ Hid (wr.ownsRow w1.heap.size 5 1 b (encs (cs.take k)).length ((encs (cs.take k)).map Mem.bv)) ∧ Hid (Kept w1 wr)) (fun _ i _ _ _ => n - (intOf i).toNat)
    case atStart => exact ⟨0, Nat.zero_le _, rfl, World.ownsRow_nil _ _ _ _, Below.refl _ _⟩
    case round =>
      obtain ⟨k, hk, rfl, hrow, hb⟩ := hrel
      by_cases hlt : k < n
      · obtain ⟨c, hc⟩ : ∃ c, cs[k]? = some c := ⟨cs[k]'(by rw [← HN.out]; exact hlt), List.getElem?_eq_getElem _⟩
        have c1 : wr.cell? ⟨g, k, none⟩ = some (.int .i64 c) := kept_cell hb.out (HC.out k c hc)
        have hchar := hch.out c (List.mem_of_getElem? hc)
        have henc := fun w => rencode_yes c w (decide_eq_true hchar.1)
        have E := Lib.hid (encs_take cs k c hc)
        have hel := encs_len (cs.take k)
        have htl : (cs.take k).length ≤ k := List.length_take_le _ _
        obtain ⟨t, ht⟩ : ∃ t, t = S (encodeRune c) := ⟨_, rfl⟩
        have htz : t.size ≤ 4 := by rw [ht, size_S]; exact (enc_len c).2
        have HS : Hid (Lib.strCells t = (encodeRune c).map Mem.bv ∧ t.size = (encodeRune c).length) := by
          refine ⟨?_, ?_⟩
          · rw [ht, strCells_S]
          · rw [ht, size_S]
        rw [← ht] at henc
        clear ht hc hchar
        obtain ⟨m, hm⟩ : ∃ m, m = (encs (cs.take k)).length := ⟨_, rfl⟩
        rw [← hm] at hel hrow
        have HM := Lib.hid hm
        clear hm
        go_wp2_with fail
        refine (henc _).mono ?_
        rintro e w2 ⟨rfl, hb2⟩
        have HB2 := Lib.hid (kept_trans hb.out hb2)
        have HR2 := Lib.hid (own_kept hrow.out hb2)
        have hB : w1.heap.size ≤ w2.heap.size := HB2.out.size
        clear hb2 henc hb hrow c1
        go_wp2_with (at_builtin; refine Lib.wpList_append_own_string _ rfl _ _ 49 9 rfl w1.heap.size 5 i0 Tryz.underlying49 Tryz.underlying9 hi hz0 hz1 hz2 _ m _ rfl HR2.out t rfl (by unfold maxLen; omega) (by omega) hB ?_)
        intro v' w3 hown hg _
        have HO : Hid (w3.ownsRow w1.heap.size 5 1 v' (encs (cs.take (k + 1))).length ((encs (cs.take (k + 1))).map Mem.bv)) := by
          show World.ownsRow _ _ _ _ _ _ _
          rw [E.out, List.length_append, List.map_append, ← HM.out, ← HS.out.1, ← HS.out.2]
          exact hown
        have HB3 : Hid (Kept w1 w3) := HB2.out.grown hg hB (Mem.own_base HR2.out)
        clear hown hg HR2 HB2
        go_wp2
        go_roundw
        case rel => exact ⟨k + 1, by omega, by go_num, HO, HB3⟩
        case measure => simp [intOf]; omega
      · obtain rfl : k = n := by omega
        have hcv := Mem.conv_own hrow.out
        rw [List.take_of_length_le (by rw [← HN.out]; exact Nat.le_refl _), ← hrep.out] at hcv
        go_wp2
        go_ret
        exact ⟨rfl, kept_trans HB1.out hb.out⟩
end Go.Proofs.YtklpbkjplecdpaaGreat.Utf

/-
  What the contracts of the page's Escape and Decode share.
-/
namespace Go.Proofs.YtklpbkjplecdpaaGreat.Crf
open Go.RowKit Oct Num Utf Mem
open Go.Lib (encodeRune)

theorem push_cell {w : World} {x : Int} {c : UInt8} (h : x = (c.toNat : Int)) (j : Nat) (u : Value) (hj : [Mem.bv c][j]? = some u) :
    (w.alloc (.cells #[.int .u8 x] 5)).cell? ((⟨w.heap.size, 0, none⟩ : Addr).add j) = some u := by
  subst h
  match j, hj with
  | 0, hj => simp at hj; subst hj; simp [Addr.add]
theorem push_one {c : UInt8} (u : Value) (hu : u ∈ [Mem.bv c]) : u.oneCell' = true := by simp at hu; subst hu; rfl

def Row (base : Nat) (v : Value) (o : List UInt8) (w : World) : Prop := w.ownsRow base 5 1 v o.length (o.map Mem.bv)
theorem Row.more {base : Nat} {v' : Value} {o t : List UInt8} {w' : World} (h : w'.ownsRow base 5 1 v' (o.length + t.length) (o.map Mem.bv ++ t.map Mem.bv)) : Row base v' (o ++ t) w' := by
  unfold Row
  rw [List.length_append, List.map_append]
  exact h
theorem cells_S (t : List UInt8) : Lib.strCells (S t) = t.map Mem.bv ∧ (S t).size = t.length := ⟨strCells_S t, size_S t⟩

end Go.Proofs.YtklpbkjplecdpaaGreat.Crf

/-
  Contract of the page's Escape.
-/
namespace Go.Proofs.YtklpbkjplecdpaaGreat.Crf
open Go.RowKit Oct Num Utf Mem
open Go.Lib (encodeRune)

set_option maxHeartbeats 1000000 in
set_option maxRecDepth 100000 in
theorem rEscape_c (s0 : ByteArray) (hs : s0.size ≤ 134217728) (w : World) :
    Calls Tryz.prog 17 #[.string s0] w fun e w' => e = .returned (.string (S (escL (rep s0.data.toList)))) ∧ Below w.heap.size w w' := by
  obtain ⟨i0, hi, hz0, hz1, hz2⟩ := info_parts Mem.info_u8
  have hrp := rrepair_c s0 (by omega) w
  have hrl : (rep s0.data.toList).length ≤ 4 * s0.size := by
    have h1 := encs_len (chars s0.data.toList)
    have h2 := chars_len s0.data.toList
    rw [size_list] at h2
    unfold rep
    omega
  generalize rep s0.data.toList = r at hrp hrl
  have hrl2 : r.length ≤ 536870912 := by omega
  have HX := Lib.hid (fun k (h : k < (S r).size) => (by
    have h' : k < r.length := by rw [← size_S]; exact h
    exact ⟨h', rfl⟩ : ∃ h' : k < r.length, (S r)[k]'h = r[k]'h'))
  have hsz : (S r).size = r.length := size_S r
  have hszi : ((S r).size : Int) = (r.length : Int) := by rw [size_S]
  have HNext := Lib.hid (fun k (h : k < r.length) => (by rw [List.take_succ_eq_append_getElem h, esc_snoc] : escL (r.take (k + 1)) = escL (r.take k) ++ escO r[k]))
  have HLen := Lib.hid (fun k => esc_len (r.take k))
  generalize S r = s at hrp HX hsz hszi
  clear hrl hs
  go_enter Tryz.func17, Tryz.ntmps17
  go_wp2_with fail
  refine hrp.mono ?_
  rintro e w1 ⟨rfl, hb1⟩
  have HB1 := Lib.hid (show Below w.heap.size w w1 from hb1)
  clear hb1 hrp
  go_wp2_with fail
  go_loopw [4, 5] (fun b i wr => ∃ k : Nat, k ≤ r.length ∧ i = .int .i64 k ∧ Hid (Row w1.heap.size b (escL (r.take k)) wr) ∧ Hid (Below w1.heap.size w1 wr)) (fun _ i _ => r.length - (intOf i).toNat)
  case atStart => exact ⟨0, Nat.zero_le _, rfl, World.ownsRow_nil _ _ _ _, Below.refl _ _⟩
  case round =>
    obtain ⟨k, hk, rfl, hrow, hb⟩ := hrel
    by_cases hlt : k < r.length
    · have hks : k < s.size := by omega
      obtain ⟨h', hx⟩ := HX.out k hks
      have hnx := HNext.out k hlt
      have hB : w1.heap.size ≤ wr.heap.size := hb.out.size
      have i0' : (0 : Int) ≤ (k : Int) := by omega
      have i1 : (k : Int) < (r.length : Int) := by omega
      have hln := HLen.out k
      rw [List.length_take] at hln
      obtain ⟨o, ho⟩ : ∃ o, o = escL (r.take k) := ⟨_, rfl⟩
      rw [← ho] at hnx hln hrow
      obtain ⟨m, hm⟩ : ∃ m, m = o.length := ⟨_, rfl⟩
      have hrow' : wr.ownsRow w1.heap.size 5 1 u4 m (o.map Mem.bv) := by rw [hm]; exact hrow.out
      have HR := Lib.hid hrow'
      have hml : m ≤ 2684354560 := by omega
      have HM := Lib.hid hm
      have HO := Lib.hid ho
      have HNx := Lib.hid hnx
      have hxn : s[k].toNat = r[k].toNat := by rw [hx]
      have hxu : s[k].toNat < 256 := s[k].toNat_lt
      clear hrow' hrow ho hm hnx hln
      by_cases h38 : r[k] = 38
      · have hE : Hid (escL (r.take (k + 1)) = o ++ [38, 97, 109, 112, 59]) := by show _ = _; rw [HNx.out, h38]; rfl
        have e38 : ((s[k].toNat : Int) == 38) = true := by rw [hxn, h38]; rfl
        have HC : Hid (Lib.strCells (⟨#[38, 97, 109, 112, 59]⟩ : ByteArray) = ([38, 97, 109, 112, 59] : List UInt8).map Mem.bv ∧ (⟨#[38, 97, 109, 112, 59]⟩ : ByteArray).size = ([38, 97, 109, 112, 59] : List UInt8).length) := cells_S [38, 97, 109, 112, 59]
        clear hxn hx h38
        go_wp2_with (at_builtin; refine Lib.wpList_append_own_string _ rfl _ _ 49 9 rfl w1.heap.size 5 i0 Tryz.underlying49 Tryz.underlying9 hi hz0 hz1 hz2 _ m _ rfl HR.out (⟨#[38, 97, 109, 112, 59]⟩ : ByteArray) rfl (by rw [HC.out.2]; unfold maxLen; simp; omega) (by rw [HC.out.2]; simp; omega) hB ?_)
        intro v' w3 hown hg _
        have HO2 : Hid (Row w1.heap.size v' (escL (r.take (k + 1))) w3) := by
          show Row _ _ _ _
          rw [hE.out]
          refine Row.more ?_
          rw [← HC.out.1, ← HC.out.2, ← HM.out]
          exact hown
        have HB3 : Hid (Below w1.heap.size w1 w3) := hb.out.grown hg hB (Mem.own_base HR.out)
        clear hown hg
        go_wp2_with fail
        go_roundw
        case rel => exact ⟨k + 1, by omega, by go_num, HO2, HB3⟩
        case measure => simp [intOf]; omega
      have n38 : ((s[k].toNat : Int) == 38) = false := by rw [beq_eq_false_iff_ne]; intro e; exact h38 (UInt8.toNat_inj.1 (by have : (38 : UInt8).toNat = 38 := rfl; omega))
      by_cases h60 : r[k] = 60
      · have hE : Hid (escL (r.take (k + 1)) = o ++ [38, 108, 116, 59]) := by show _ = _; rw [HNx.out, h60]; rfl
        have e60 : ((s[k].toNat : Int) == 60) = true := by rw [hxn, h60]; rfl
        have e38 : ((s[k].toNat : Int) == 38) = false := by rw [hxn, h60]; rfl
        have HC : Hid (Lib.strCells (⟨#[38, 108, 116, 59]⟩ : ByteArray) = ([38, 108, 116, 59] : List UInt8).map Mem.bv ∧ (⟨#[38, 108, 116, 59]⟩ : ByteArray).size = ([38, 108, 116, 59] : List UInt8).length) := cells_S [38, 108, 116, 59]
        clear hxn hx h60 n38
        go_wp2_with (at_builtin; refine Lib.wpList_append_own_string _ rfl _ _ 49 9 rfl w1.heap.size 5 i0 Tryz.underlying49 Tryz.underlying9 hi hz0 hz1 hz2 _ m _ rfl HR.out (⟨#[38, 108, 116, 59]⟩ : ByteArray) rfl (by rw [HC.out.2]; unfold maxLen; simp; omega) (by rw [HC.out.2]; simp; omega) hB ?_)
        intro v' w3 hown hg _
        have HO2 : Hid (Row w1.heap.size v' (escL (r.take (k + 1))) w3) := by
          show Row _ _ _ _
          rw [hE.out]
          refine Row.more ?_
          rw [← HC.out.1, ← HC.out.2, ← HM.out]
          exact hown
        have HB3 : Hid (Below w1.heap.size w1 w3) := hb.out.grown hg hB (Mem.own_base HR.out)
        clear hown hg
        go_wp2_with fail
        go_roundw
        case rel => exact ⟨k + 1, by omega, by go_num, HO2, HB3⟩
        case measure => simp [intOf]; omega
      have n60 : ((s[k].toNat : Int) == 60) = false := by rw [beq_eq_false_iff_ne]; intro e; exact h60 (UInt8.toNat_inj.1 (by have : (60 : UInt8).toNat = 60 := rfl; omega))
      by_cases h62 : r[k] = 62
      · have hE : Hid (escL (r.take (k + 1)) = o ++ [38, 103, 116, 59]) := by show _ = _; rw [HNx.out, h62]; rfl
        have e62 : ((s[k].toNat : Int) == 62) = true := by rw [hxn, h62]; rfl
        have e38 : ((s[k].toNat : Int) == 38) = false := by rw [hxn, h62]; rfl
        have e60 : ((s[k].toNat : Int) == 60) = false := by rw [hxn, h62]; rfl
        have HC : Hid (Lib.strCells (⟨#[38, 103, 116, 59]⟩ : ByteArray) = ([38, 103, 116, 59] : List UInt8).map Mem.bv ∧ (⟨#[38, 103, 116, 59]⟩ : ByteArray).size = ([38, 103, 116, 59] : List UInt8).length) := cells_S [38, 103, 116, 59]
        clear hxn hx h62 n38 n60
        go_wp2_with (at_builtin; refine Lib.wpList_append_own_string _ rfl _ _ 49 9 rfl w1.heap.size 5 i0 Tryz.underlying49 Tryz.underlying9 hi hz0 hz1 hz2 _ m _ rfl HR.out (⟨#[38, 103, 116, 59]⟩ : ByteArray) rfl (by rw [HC.out.2]; unfold maxLen; simp; omega) (by rw [HC.out.2]; simp; omega) hB ?_)
        intro v' w3 hown hg _
        have HO2 : Hid (Row w1.heap.size v' (escL (r.take (k + 1))) w3) := by
          show Row _ _ _ _
          rw [hE.out]
          refine Row.more ?_
          rw [← HC.out.1, ← HC.out.2, ← HM.out]
          exact hown
        have HB3 : Hid (Below w1.heap.size w1 w3) := hb.out.grown hg hB (Mem.own_base HR.out)
        clear hown hg
        go_wp2_with fail
        go_roundw
        case rel => exact ⟨k + 1, by omega, by go_num, HO2, HB3⟩
        case measure => simp [intOf]; omega
      have n62 : ((s[k].toNat : Int) == 62) = false := by rw [beq_eq_false_iff_ne]; intro e; exact h62 (UInt8.toNat_inj.1 (by have : (62 : UInt8).toNat = 62 := rfl; omega))
      by_cases h34 : r[k] = 34
      · have hE : Hid (escL (r.take (k + 1)) = o ++ [38, 35, 51, 52, 59]) := by show _ = _; rw [HNx.out, h34]; rfl
        have e34 : ((s[k].toNat : Int) == 34) = true := by rw [hxn, h34]; rfl
        have e38 : ((s[k].toNat : Int) == 38) = false := by rw [hxn, h34]; rfl
        have e60 : ((s[k].toNat : Int) == 60) = false := by rw [hxn, h34]; rfl
        have e62 : ((s[k].toNat : Int) == 62) = false := by rw [hxn, h34]; rfl
        have HC : Hid (Lib.strCells (⟨#[38, 35, 51, 52, 59]⟩ : ByteArray) = ([38, 35, 51, 52, 59] : List UInt8).map Mem.bv ∧ (⟨#[38, 35, 51, 52, 59]⟩ : ByteArray).size = ([38, 35, 51, 52, 59] : List UInt8).length) := cells_S [38, 35, 51, 52, 59]
        clear hxn hx h34 n38 n60 n62
        go_wp2_with (at_builtin; refine Lib.wpList_append_own_string _ rfl _ _ 49 9 rfl w1.heap.size 5 i0 Tryz.underlying49 Tryz.underlying9 hi hz0 hz1 hz2 _ m _ rfl HR.out (⟨#[38, 35, 51, 52, 59]⟩ : ByteArray) rfl (by rw [HC.out.2]; unfold maxLen; simp; omega) (by rw [HC.out.2]; simp; omega) hB ?_)
        intro v' w3 hown hg _
        have HO2 : Hid (Row w1.heap.size v' (escL (r.take (k + 1))) w3) := by
          show Row _ _ _ _
          rw [hE.out]
          refine Row.more ?_
          rw [← HC.out.1, ← HC.out.2, ← HM.out]
          exact hown
        have HB3 : Hid (Below w1.heap.size w1 w3) := hb.out.grown hg hB (Mem.own_base HR.out)
        clear hown hg
        go_wp2_with fail
        go_roundw
        case rel => exact ⟨k + 1, by omega, by go_num, HO2, HB3⟩
        case measure => simp [intOf]; omega
      have n34 : ((s[k].toNat : Int) == 34) = false := by rw [beq_eq_false_iff_ne]; intro e; exact h34 (UInt8.toNat_inj.1 (by have : (34 : UInt8).toNat = 34 := rfl; omega))
      by_cases h39 : r[k] = 39
      · have hE : Hid (escL (r.take (k + 1)) = o ++ [38, 35, 51, 57, 59]) := by show _ = _; rw [HNx.out, h39]; rfl
        have e39 : ((s[k].toNat : Int) == 39) = true := by rw [hxn, h39]; rfl
        have e38 : ((s[k].toNat : Int) == 38) = false := by rw [hxn, h39]; rfl
        have e60 : ((s[k].toNat : Int) == 60) = false := by rw [hxn, h39]; rfl
        have e62 : ((s[k].toNat : Int) == 62) = false := by rw [hxn, h39]; rfl
        have e34 : ((s[k].toNat : Int) == 34) = false := by rw [hxn, h39]; rfl
        have HC : Hid (Lib.strCells (⟨#[38, 35, 51, 57, 59]⟩ : ByteArray) = ([38, 35, 51, 57, 59] : List UInt8).map Mem.bv ∧ (⟨#[38, 35, 51, 57, 59]⟩ : ByteArray).size = ([38, 35, 51, 57, 59] : List UInt8).length) := cells_S [38, 35, 51, 57, 59]
        clear hxn hx h39 n38 n60 n62 n34
        go_wp2_with (at_builtin; refine Lib.wpList_append_own_string _ rfl _ _ 49 9 rfl w1.heap.size 5 i0 Tryz.underlying49 Tryz.underlying9 hi hz0 hz1 hz2 _ m _ rfl HR.out (⟨#[38, 35, 51, 57, 59]⟩ : ByteArray) rfl (by rw [HC.out.2]; unfold maxLen; simp; omega) (by rw [HC.out.2]; simp; omega) hB ?_)
        intro v' w3 hown hg _
        have HO2 : Hid (Row w1.heap.size v' (escL (r.take (k + 1))) w3) := by
          show Row _ _ _ _
          rw [hE.out]
          refine Row.more ?_
          rw [← HC.out.1, ← HC.out.2, ← HM.out]
          exact hown
        have HB3 : Hid (Below w1.heap.size w1 w3) := hb.out.grown hg hB (Mem.own_base HR.out)
        clear hown hg
        go_wp2_with fail
        go_roundw
        case rel => exact ⟨k + 1, by omega, by go_num, HO2, HB3⟩
        case measure => simp [intOf]; omega
      have n39 : ((s[k].toNat : Int) == 39) = false := by rw [beq_eq_false_iff_ne]; intro e; exact h39 (UInt8.toNat_inj.1 (by have : (39 : UInt8).toNat = 39 := rfl; omega))
      by_cases h43 : r[k] = 43
      · have hE : Hid (escL (r.take (k + 1)) = o ++ [38, 35, 52, 51, 59]) := by show _ = _; rw [HNx.out, h43]; rfl
        have e43 : ((s[k].toNat : Int) == 43) = true := by rw [hxn, h43]; rfl
        have e38 : ((s[k].toNat : Int) == 38) = false := by rw [hxn, h43]; rfl
        have e60 : ((s[k].toNat : Int) == 60) = false := by rw [hxn, h43]; rfl
        have e62 : ((s[k].toNat : Int) == 62) = false := by rw [hxn, h43]; rfl
        have e34 : ((s[k].toNat : Int) == 34) = false := by rw [hxn, h43]; rfl
        have e39 : ((s[k].toNat : Int) == 39) = false := by rw [hxn, h43]; rfl
        have HC : Hid (Lib.strCells (⟨#[38, 35, 52, 51, 59]⟩ : ByteArray) = ([38, 35, 52, 51, 59] : List UInt8).map Mem.bv ∧ (⟨#[38, 35, 52, 51, 59]⟩ : ByteArray).size = ([38, 35, 52, 51, 59] : List UInt8).length) := cells_S [38, 35, 52, 51, 59]
        clear hxn hx h43 n38 n60 n62 n34 n39
        go_wp2_with (at_builtin; refine Lib.wpList_append_own_string _ rfl _ _ 49 9 rfl w1.heap.size 5 i0 Tryz.underlying49 Tryz.underlying9 hi hz0 hz1 hz2 _ m _ rfl HR.out (⟨#[38, 35, 52, 51, 59]⟩ : ByteArray) rfl (by rw [HC.out.2]; unfold maxLen; simp; omega) (by rw [HC.out.2]; simp; omega) hB ?_)
        intro v' w3 hown hg _
        have HO2 : Hid (Row w1.heap.size v' (escL (r.take (k + 1))) w3) := by
          show Row _ _ _ _
          rw [hE.out]
          refine Row.more ?_
          rw [← HC.out.1, ← HC.out.2, ← HM.out]
          exact hown
        have HB3 : Hid (Below w1.heap.size w1 w3) := hb.out.grown hg hB (Mem.own_base HR.out)
        clear hown hg
        go_wp2_with fail
        go_roundw
        case rel => exact ⟨k + 1, by omega, by go_num, HO2, HB3⟩
        case measure => simp [intOf]; omega
      have n43 : ((s[k].toNat : Int) == 43) = false := by rw [beq_eq_false_iff_ne]; intro e; exact h43 (UInt8.toNat_inj.1 (by have : (43 : UInt8).toNat = 43 := rfl; omega))
      have hE : Hid (escL (r.take (k + 1)) = o ++ [r[k]]) := by
        show _ = _
        rw [HNx.out]
        congr 1
        unfold escO
        rw [if_neg h38, if_neg h60, if_neg h62, if_neg h34, if_neg h39, if_neg h43]
      have hpc : (s[k].toNat : Int) = (r[k].toNat : Int) := by rw [hxn]
      have HPC := Lib.hid hpc
      clear hxn hx hpc h38 h60 h62 h34 h39 h43
      generalize r[k] = c at hE HPC
      go_wp2_with (at_builtin; refine wpList_append_own _ rfl _ _ 49 rfl w1.heap.size 5 i0 (.int .u8 0) 1 1 Tryz.underlying49 hi hz0 hz1 hz2 rfl (by decide) _ _ _ rfl (HR.out.alloc _) ⟨wr.heap.size, 0, none⟩ 1 1 [Mem.bv c] rfl rfl (push_cell HPC.out) push_one (by unfold maxLen; omega) (by omega) (by simp; omega) ?_)
      intro v' w3 hown hg _
      have HO2 : Hid (Row w1.heap.size v' (escL (r.take (k + 1))) w3) := by
        show Row _ _ _ _
        rw [hE.out]
        refine Row.more ?_
        rw [← HM.out]
        exact hown
      have HB3 : Hid (Below w1.heap.size w1 w3) := (hb.out.alloc hB _).grown hg (by simp; omega) (Mem.own_base HR.out)
      clear hown hg
      go_wp2_with fail
      go_roundw
      case rel => exact ⟨k + 1, by omega, by go_num, HO2, HB3⟩
      case measure => simp [intOf]; omega
    · have hkl : k = r.length := by omega
      have hcv := Mem.conv_own hrow.out
      rw [hkl, List.take_length] at hcv
      subst hkl
      go_wp2_with fail
      go_ret
      exact ⟨rfl, HB1.out.trans (hb.out.mono HB1.out.size)⟩

end Go.Proofs.YtklpbkjplecdpaaGreat.Crf

/-
  The laws ScanParts, ScanEnds, ScanStrings of layer 17 (scan), as contracts of their functions.
-/
namespace Go.Proofs.YtklpbkjplecdpaaGreat.Scw
open Go.RowKit Oct Crf Scn Tab Tok

theorem start_c (w : World) : Calls Tryz.prog 10 #[] w fun e w' => e = .returned (stA sc0) ∧ Below w.heap.size w w' := by
  go_enter Tryz.func10, Tryz.ntmps10
  go_wp2_with fail
  refine bodyPost_ret (v := stA sc0) (by simp [results, Tryz.results10, go_sem]) rfl ?_
  first | exact ⟨rfl, Below.refl _ w⟩ | exact ⟨rfl, (Below.refl _ w).alloc (Nat.le_refl _) _⟩
theorem num_c (n : Int) (w : World) : Calls Tryz.prog 11 #[.int .i64 n] w fun e w' => e = .returned (.int .i64 n) ∧ w = w' := by
  go_enter Tryz.func11, Tryz.ntmps11
  go_wp2_with fail
  go_ret
  exact ⟨rfl, rfl⟩
abbrev sAl : Sc := ⟨9, [97], [104, 114, 101, 102], 34, [], [], 0, []⟩
theorem alive_feed : runC sc0 [60, 97, 32, 104, 114, 101, 102, 61, 34] = .ok sAl := by kernel_rfl
theorem alive_reach : Scn.Reach sAl := run_reach _ start_reach alive_feed
theorem alive_hole : holeS sAl = .ok ({ sAl with n := 4 }, 4) := by kernel_rfl
attribute [local go_sem ↓] bin_eq bin_ne
attribute [local go_sem ↓] Go.wp_at_zero Go.wp_at_succ
theorem boxed {w Y : World} (s : Sc) (hb : Below (w.alloc (.cells #[.int .i64 (s.k : Int), .string (S s.e), .string (S s.a), .int .u8 (s.d.toNat : Int), .string (S s.p), .string (S s.r), .int .i64 s.n, .string (S s.w)] 24)).heap.size (w.alloc (.cells #[.int .i64 (s.k : Int), .string (S s.e), .string (S s.a), .int .u8 (s.d.toNat : Int), .string (S s.p), .string (S s.r), .int .i64 s.n, .string (S s.w)] 24)) Y) :
    Wk w.heap.size 24 [] s Y ∧ Below w.heap.size w Y := by
  have b1 : Below w.heap.size w (w.alloc (.cells #[.int .i64 (s.k : Int), .string (S s.e), .string (S s.a), .int .u8 (s.d.toNat : Int), .string (S s.p), .string (S s.r), .int .i64 s.n, .string (S s.w)] 24)) := (Below.refl _ w).alloc (Nat.le_refl _) _
  have n1 := heap_alloc_new w (.cells #[.int .i64 (s.k : Int), .string (S s.e), .string (S s.a), .int .u8 (s.d.toNat : Int), .string (S s.p), .string (S s.r), .int .i64 s.n, .string (S s.w)] 24)
  exact ⟨(hb.block _ (Array.getElem?_eq_some_iff.1 n1).1).trans n1, b1.trans (hb.mono b1.size)⟩
set_option maxHeartbeats 1000000 in
set_option maxRecDepth 100000 in
theorem alive_c (w : World) : Calls Tryz.prog 8 #[] w fun e w' => e = .returned (.bool true) ∧ Below w.heap.size w w' := by
  have hst := start_c
  have hf := fun w => feed_c [60, 97, 32, 104, 114, 101, 102, 61, 34] (by decide) sc0 start_reach w
  have ef : feedV sc0 [60, 97, 32, 104, 114, 101, 102, 61, 34] = .tuple #[stA sAl, .int .i64 9, .int .i64 0] := by unfold feedV; rw [alive_feed]; rfl
  have hh := fun w => hole_c sAl alive_reach w
  have eh : holeV sAl = .tuple #[stA { sAl with n := 4 }, .int .i64 4, .int .i64 0] := by unfold holeV; rw [alive_hole]; rfl
  have hn := num_c
  rw [ef] at hf
  rw [eh] at hh
  clear ef eh
  go_enter Tryz.func8, Tryz.ntmps8
  go_wp2_with fail
  refine (hst _).mono ?_
  rintro e w1 ⟨rfl, hb1⟩
  have B1 := Lib.hid hb1
  clear hb1
  go_wp2_with fail
  refine (hf _).mono ?_
  rintro e w2 ⟨rfl, hb2⟩
  have B2 := Lib.hid (B1.out.trans (hb2.mono B1.out.size))
  clear hb2
  go_wp2_with fail
  refine (hh _).mono ?_
  rintro e w3 ⟨rfl, hb3⟩
  obtain ⟨q3, hb3'⟩ := boxed sAl hb3
  have B3 := Lib.hid (B2.out.trans (hb3'.mono B2.out.size))
  have d0 : w3.cell? ⟨w2.heap.size, 0, none⟩ = some (.int .i64 9) := q3.cells.1
  have hl3 := q3.lt
  clear hb3 hb3' q3
  go_wp2_with fail
  refine (hn _ _).mono ?_
  rintro e w4 ⟨rfl, rfl⟩
  go_wp2_with fail
  refine (hn _ _).mono ?_
  rintro e w5 ⟨rfl, rfl⟩
  go_wp2_with fail
  go_ret
  exact ⟨rfl, B3.out.alloc B3.out.size _⟩
end Go.Proofs.YtklpbkjplecdpaaGreat.Scw

/-
  Plain facts: a token of a text has no more attributes than the text has room for.
-/
namespace Go.Proofs.YtklpbkjplecdpaaGreat.Tok
open Oct Utf Crf Tab

def Ga (r r' : Rd) : Prop := (∀ t ∈ r'.out, t ∈ r.out ∨ t.a.length ≤ r.tg.a.length + 1) ∧ r'.tg.a.length ≤ r.tg.a.length + 1
theorem ga_same {r r' : Rd} (h1 : r'.out = r.out) (h2 : r'.tg.a.length ≤ r.tg.a.length + 1) : Ga r r' := ⟨fun _ h => .inl (h1 ▸ h), h2⟩
theorem told_a (t : Tk) : (toldT t).a.length ≤ t.a.length := by unfold toldT; split <;> simp
theorem ga_end {r : Rd} {u : Rd} (h1 : u.out = r.out) (h2 : u.tg.a.length ≤ r.tg.a.length + 1) : Ga r (endR u) := by
  have h3 := told_a u.tg
  unfold endR
  split
  all_goals
    refine ⟨fun t h => ?_, by simp⟩
    rcases List.mem_append.1 h with q | q
    · exact .inl (h1 ▸ q)
    · rw [List.mem_singleton] at q
      subst q
      right
      omega
theorem put_a (r : Rd) : (putR r).tg.a.length ≤ r.tg.a.length + 1 := by unfold putR; simp
theorem ga_text {r u : Rd} (d : Bool) (h1 : u.out = (textR d r).out) (h2 : u.tg.a.length ≤ r.tg.a.length + 1) : Ga r u := by
  refine ⟨fun t h => ?_, h2⟩
  rw [h1] at h
  unfold textR at h
  dsimp only at h
  generalize (if d = true then decL' r.tx else r.tx) = x at h
  split at h
  · exact .inl h
  · rcases List.mem_append.1 h with q | q
    · exact .inl q
    · rw [List.mem_singleton] at q
      subst q
      right
      simp
theorem ga_tag (c : UInt8) (r : Rd) : Ga r (tagR c r).1 := by
  unfold tagR tnameR beforeR attrR slashR goR
  repeat' split
  all_goals first
    | exact ga_end rfl (put_a r)
    | exact ga_end rfl (Nat.le_succ _)
    | exact ga_same rfl (put_a r)
    | exact ga_same rfl (Nat.le_succ _)
theorem ga_val (c : UInt8) (r : Rd) : Ga r (valR c r).1 := by
  unfold valR wantR valueR bareR addV goR
  repeat' split
  all_goals first
    | exact ga_end rfl (put_a r)
    | exact ga_same rfl (put_a r)
    | exact ga_same rfl (Nat.le_succ _)
theorem ga_out (c : UInt8) (t : List UInt8) (r : Rd) : Ga r (outR c t r).1 := by
  unfold outR dataR openR endOpenR bangR bogusR commentR rawR addT goR
  repeat' split
  all_goals first
    | exact ga_same rfl (Nat.le_succ _)
    | exact ga_same rfl (Nat.zero_le _)
    | exact ga_text _ rfl (Nat.le_succ _)
    | exact ga_text _ rfl (Nat.zero_le _)
    | skip
  all_goals
    refine ⟨fun t h => ?_, Nat.le_succ _⟩
    rcases List.mem_append.1 h with q | q
    · exact .inl q
    · rw [List.mem_singleton] at q
      subst q
      right
      simp
theorem ga_step (c : UInt8) (t : List UInt8) (r : Rd) : Ga r (stepR c t r).1 := by
  unfold stepR again
  split
  · exact ga_tag c r
  · split
    · exact ga_val c r
    · exact ga_out c t r
theorem ga_run (M : Nat) (n : Nat) : ∀ (l : List UInt8) (r : Rd), meas l r.st ≤ n → (∀ t ∈ r.out, t.a.length ≤ M) → r.tg.a.length + meas l r.st ≤ M → ∀ t ∈ (runR l r).out, t.a.length ≤ M := by
  induction n with
  | zero =>
    intro l r hn h1 _
    have : l = [] := by
      unfold meas at hn
      exact List.eq_nil_of_length_eq_zero (by omega)
    rw [this, run_nil]
    exact h1
  | succ n ih =>
    intro l r hn h1 h2
    cases l with
    | nil => rw [run_nil]; exact h1
    | cons c t =>
      rw [run_cons]
      have hl := step_less c t r
      have hg := ga_step c t r
      refine ih _ _ (by omega) (fun u hu => ?_) ?_
      · rcases hg.1 u hu with q | q
        · exact h1 u q
        · omega
      · have := hg.2
        omega
theorem tok_atts (l : List UInt8) : ∀ t ∈ tokL l, t.a.length ≤ 3 * l.length := by
  have h := ga_run (3 * l.length) (3 * l.length) l rd0 (Nat.le_refl _) (fun t q => absurd q (by simp)) (Nat.le_of_eq (by show 0 + (3 * l.length + 0) = _; omega))
  intro t ht
  unfold tokL lastR at ht
  generalize runR l rd0 = r at h ht
  have hx : ∀ d, t ∈ (textR d r).out → t.a.length ≤ 3 * l.length := by
    intro d q
    rcases (ga_text (r := r) d (u := { textR d r with tg := noTk }) rfl (Nat.zero_le _)).1 t q with e | e
    · exact h t e
    · unfold textR at q
      dsimp only at q
      generalize (if d = true then decL' r.tx else r.tx) = x at q
      split at q
      · exact h t q
      · rcases List.mem_append.1 q with g | g
        · exact h t g
        · rw [List.mem_singleton] at g
          subst g
          exact Nat.zero_le _
  split at ht
  · exact hx _ ht
  · split at ht
    · exact hx _ ht
    · split at ht
      · rcases List.mem_append.1 ht with g | g
        · exact h t g
        · rw [List.mem_singleton] at g
          subst g
          exact Nat.zero_le _
      · exact h t ht
theorem sh_atts {ts : List Tk} {M : Nat} (h : ∀ t ∈ ts, t.a.length ≤ M) : ∀ t ∈ shL ts, t.a.length ≤ M := by
  intro t ht
  unfold shL at ht
  obtain ⟨u, hu, rfl⟩ := List.mem_map.1 ht
  have := h u (List.mem_filter.1 hu).1
  show (shA u.a).length ≤ M
  unfold shA
  rw [List.length_map]
  exact this
theorem sh_len (ts : List Tk) : (shL ts).length ≤ ts.length := by
  unfold shL
  rw [List.length_map]
  exact List.length_filter_le _ _
end Go.Proofs.YtklpbkjplecdpaaGreat.Tok

/-
  Contract of the page's Decode.
-/
namespace Go.Proofs.YtklpbkjplecdpaaGreat.Crf
open Go.RowKit Oct Num Utf Mem
open Go.Lib (encodeRune)

set_option maxHeartbeats 2000000 in
set_option maxRecDepth 100000 in
theorem rDecode_c (l : List UInt8) (hl : l.length ≤ 134217728) (w : World) :
    Calls Tryz.prog 61 #[.string (S l)] w fun e w' => e = .returned (.string (S (decL' l))) ∧ Below w.heap.size w w' := by
  obtain ⟨i0, hi, hz0, hz1, hz2⟩ := info_parts Mem.info_u8
  have HX := Lib.hid (fun k (h : k < (S l).size) => (by
    have h' : k < l.length := by rw [← size_S]; exact h
    exact ⟨h', rfl⟩ : ∃ h' : k < l.length, (S l)[k]'h = l[k]'h'))
  have hsz : (S l).size = l.length := size_S l
  have hszi : ((S l).size : Int) = (l.length : Int) := by rw [size_S]
  have HFrom := Lib.hid (fun k => (cutFrom (S l) k).trans (by rw [list_S] : S ((S l).data.toList.drop k) = S (l.drop k)))
  have HOne := Lib.hid (fun k w => rOne_c (l.drop k) (by rw [List.length_drop]; omega) w)
  generalize S l = s at HX hsz hszi HFrom
  have HFrom := Lib.hid (fun k => (by rw [← hsz]; exact HFrom.out k : s.extract k l.length = S (l.drop k)))
  go_enter Tryz.func61, Tryz.ntmps61
  go_wp2_with fail
  go_loopw [3, 4] (fun b i wr => ∃ t : Nat, t ≤ l.length ∧ i = .int .i64 t ∧ ∃ o, o.length ≤ 4 * t ∧ Hid (o ++ decL' (l.drop t) = decL' l) ∧ Hid (Row w.heap.size b o wr) ∧ Hid (Below w.heap.size w wr)) (fun _ i _ => l.length - (intOf i).toNat)
  case atStart => exact ⟨0, Nat.zero_le _, rfl, [], by simp, rfl, World.ownsRow_nil _ _ _ _, Below.refl _ _⟩
  case round =>
    obtain ⟨t, ht, rfl, o, hol, ho, hrow, hb⟩ := hrel
    by_cases hlt : t < l.length
    · have hks : t < s.size := by omega
      obtain ⟨h', hx⟩ := HX.out t hks
      have hf := HFrom.out t
      have hone := HOne.out t wr
      rw [← hf] at hone
      have j0 : (0 : Int) ≤ (t : Int) := by omega
      have j1 : (t : Int) < (l.length : Int) := by omega
      have j2 : (t : Int) ≤ (l.length : Int) := by omega
      obtain ⟨m, hm⟩ : ∃ m, m = o.length := ⟨_, rfl⟩
      have hrow' : wr.ownsRow w.heap.size 5 1 u3 m (o.map Mem.bv) := by rw [hm]; exact hrow.out
      have HR := Lib.hid hrow'
      have hml : m ≤ 536870912 := by omega
      have HM := Lib.hid hm
      have hxn : s[t].toNat = l[t].toNat := by rw [hx]
      have hxu : s[t].toNat < 256 := s[t].toNat_lt
      have hlen := one_len (l.drop t)
      have hsl := one_slen (l.drop t)
      rw [List.length_drop] at hlen
      have HolT := Lib.hid hol
      clear hrow' hrow hm hf
      by_cases hz : (oneL (l.drop t)).2 = 0
      · have HN : Hid ((o ++ [l[t]]) ++ decL' (l.drop (t + 1)) = decL' l) := by
          show _ = _
          rw [← ho.out, List.append_assoc]
          congr 1
          have e : l.drop t = l[t] :: l.drop (t + 1) := List.drop_eq_getElem_cons hlt
          rw [e] at hz ⊢
          rw [dec_plain _ _ hz]
          rfl
        rw [one_zero hz] at hone
        have hpc : (s[t].toNat : Int) = (l[t].toNat : Int) := by rw [hxn]
        have HPC := Lib.hid hpc
        clear hxn hx hpc hz hlen hsl
        generalize l[t] = c at HN HPC
        go_wp2_with fail
        refine hone.mono ?_
        rintro e w2 ⟨rfl, hb2⟩
        have HR2 := Lib.hid (own_kept HR.out hb2)
        have HB2 := Lib.hid (hb.out.trans (hb2.mono hb.out.size))
        have hB : w.heap.size ≤ w2.heap.size := HB2.out.size
        clear hb2 hone
        go_wp2_with (at_builtin; refine wpList_append_own _ rfl _ _ 49 rfl w.heap.size 5 i0 (.int .u8 0) 1 1 Tryz.underlying49 hi hz0 hz1 hz2 rfl (by decide) _ _ _ rfl (HR2.out.alloc _) ⟨w2.heap.size, 0, none⟩ 1 1 [Mem.bv c] rfl rfl (push_cell HPC.out) push_one (by unfold maxLen; omega) (by omega) (by simp; omega) ?_)
        intro v' w3 hown hg _
        have HO2 : Hid (Row w.heap.size v' (o ++ [c]) w3) := by
          show Row _ _ _ _
          refine Row.more ?_
          rw [← HM.out]
          exact hown
        have HB3 : Hid (Below w.heap.size w w3) := (HB2.out.alloc hB _).grown hg (by simp; omega) (Mem.own_base HR2.out)
        clear hown hg
        go_wp2_with fail
        go_roundw
        case rel => exact ⟨t + 1, by omega, by go_num, o ++ [c], by rw [List.length_append, List.length_singleton]; have := HolT.out; omega, HN, HO2, HB3⟩
        case measure => simp [intOf]; omega
      · have HN : Hid ((o ++ (oneL (l.drop t)).1) ++ decL' (l.drop (t + (oneL (l.drop t)).2)) = decL' l) := by
          show _ = _
          rw [← ho.out, List.append_assoc]
          congr 1
          rw [dec_ref _ hz, List.drop_drop]
        have hzp : 0 < (oneL (l.drop t)).2 := by omega
        have hzb : (((oneL (l.drop t)).2 : Int) == 0) = false := by simp; exact hz
        clear hxn hx hz
        generalize (oneL (l.drop t)).1 = st at hone HN hsl
        generalize (oneL (l.drop t)).2 = n at hone HN hlen hzp hzb
        have HC := Lib.hid (cells_S st)
        have hstz : (S st).size ≤ 4 := by rw [size_S]; exact hsl
        have HSl := Lib.hid hsl
        clear hsl
        generalize S st = T at hone HC hstz
        go_wp2_with fail
        refine hone.mono ?_
        rintro e w2 ⟨rfl, hb2⟩
        have HR2 := Lib.hid (own_kept HR.out hb2)
        have HB2 := Lib.hid (hb.out.trans (hb2.mono hb.out.size))
        have hB : w.heap.size ≤ w2.heap.size := HB2.out.size
        clear hb2 hone
        go_wp2_with (at_builtin; refine Lib.wpList_append_own_string _ rfl _ _ 49 9 rfl w.heap.size 5 i0 Tryz.underlying49 Tryz.underlying9 hi hz0 hz1 hz2 _ m _ rfl HR2.out T rfl (by unfold maxLen; omega) (by omega) hB ?_)
        intro v' w3 hown hg _
        have HO2 : Hid (Row w.heap.size v' (o ++ st) w3) := by
          show Row _ _ _ _
          refine Row.more ?_
          rw [← HC.out.1, ← HC.out.2, ← HM.out]
          exact hown
        have HB3 : Hid (Below w.heap.size w w3) := HB2.out.grown hg hB (Mem.own_base HR2.out)
        clear hown hg
        go_wp2_with fail
        go_roundw
        case rel => exact ⟨t + n, by omega, by go_num, o ++ st, by rw [List.length_append]; have := HolT.out; have := HSl.out; omega, HN, HO2, HB3⟩
        case measure => simp [intOf]; omega
    · have hkl : t = l.length := by omega
      subst hkl
      have hd : o = decL' l := by
        have := ho.out
        rw [List.drop_length, dec_nil', List.append_nil] at this
        exact this
      have hcv := Mem.conv_own hrow.out
      rw [hd] at hcv
      clear hd
      go_wp2_with fail
      go_ret
      exact ⟨rfl, hb.out⟩

end Go.Proofs.YtklpbkjplecdpaaGreat.Crf
