/-
  Contracts of the page's Repair and of SameInts: lists of numbers in memory.
-/
import Derived.Test.YtppclkecfggkiaaDoorUtfRefLists
import Derived.Lib.AppendStr
namespace Go.Proofs.YtppclkecfggkiaaDoor.Utf
open Go.RowKit Go.Proofs.YtppclkecfggkiaaDoor.Oct Go.Proofs.YtppclkecfggkiaaDoor.Mem
open Go.Lib (encodeRune encodeRuneZ)

/-- A slice that holds these numbers. -/
def Ints (W : World) (v : Value) (l : List Int) : Prop :=
  (v = .slice none 0 0 ∧ l = []) ∨ ∃ g cap, v = .slice (some ⟨g, 0, none⟩) l.length cap ∧ ∀ j c, l[j]? = some c → W.cell? ⟨g, j, none⟩ = some (.int .i64 c)

theorem ints_of_row {W : World} {base n : Nat} {v : Value} {l : List Int} (h : W.ownsRow base 3 1 v n (l.map iv)) : Ints W v l := by
  have hn : l.length = n := by simpa using h.1
  rcases h.2 with ⟨rfl, hz⟩ | ⟨g, cap, cur, rfl, hg, hh, hnc, hcm, hcs, htk⟩
  · exact .inl ⟨rfl, List.eq_nil_of_length_eq_zero (by omega)⟩
  · subst hn
    refine .inr ⟨g, cap, rfl, fun j c hj => ?_⟩
    have h1 := h.cellAt j (by have := (List.getElem?_eq_some_iff.1 hj).1; omega)
    rw [h1, List.getElem?_map, hj]; rfl
theorem Ints.kept {W W' : World} {v : Value} {l : List Int} (h : Ints W v l) (hb : Kept W W') : Ints W' v l := by
  rcases h with h | ⟨g, cap, rfl, hc⟩
  · exact .inl h
  · exact .inr ⟨g, cap, rfl, fun j c hj => kept_cell hb (hc j c hj)⟩

theorem strCells_S (l : List UInt8) : Lib.strCells (S l) = l.map bv := by
  simp [Lib.strCells]

/-- The loop of the page's Repair: octets that are laid one behind the other. -/
theorem encs_take (cs : List Int) (k : Nat) (c : Int) (h : cs[k]? = some c) : encs (cs.take (k + 1)) = encs (cs.take k) ++ encodeRune c := by
  rw [List.take_add_one, h]
  show encs (cs.take k ++ [c]) = _
  rw [encs_snoc]

set_option maxHeartbeats 4000000 in
theorem rrepair_c (s : ByteArray) (hs : s.size ≤ 17592186044416) (w : World) :
    Calls Tryd.prog 9 #[.string s] w fun e w' => e = .returned (.string (S (rep s.data.toList))) ∧ Kept w w' := by
  obtain ⟨i0, hi, hz0, hz1, hz2⟩ := info_parts info_u8
  have hcl := chars_len s.data.toList
  rw [size_list] at hcl
  have hch := Lib.hid (chars_char s.data.toList)
  have hrep : Hid (rep s.data.toList = encs (chars s.data.toList)) := rfl
  have hcall := rchars_c s hs w
  generalize chars s.data.toList = cs at hcl hch hrep hcall
  obtain ⟨n, hn⟩ : ∃ n, n = cs.length := ⟨_, rfl⟩
  rw [← hn] at hcl hcall
  have HN := Lib.hid hn
  clear hn
  go_enter Tryd.func9, Tryd.ntmps9
  go_wp2_with fail
  refine hcall.mono ?_
  rintro e w1 ⟨v, rfl, hrow, hb1⟩
  clear hcall
  have HB1 := Lib.hid hb1
  rcases ints_of_row hrow with ⟨rfl, hnil⟩ | ⟨g, cap, rfl, hcells⟩
  · have hn0 : n = 0 := by rw [HN.out, hnil]; rfl
    have E : Hid (rep s.data.toList = []) := by show _ = _; rw [hrep.out, hnil]; rfl
    clear hrow hb1 hnil hn0 hrep hch HN hi hz0 hz1 hz2 hcl
    go_wp2
    go_loop [3, 5] (fun b i => b = .slice none 0 0 ∧ i = .int .i64 0) (fun _ _ => 0)
    case atStart => exact ⟨rfl, rfl⟩
    case round =>
      obtain ⟨rfl, rfl⟩ := hrel
      have hcv := conv_own (w := w1) (l := []) (World.ownsRow_nil w1 0 5 1)
      go_wp2
      go_ret
      rw [E.out]
      exact ⟨rfl, HB1.out⟩
  · rw [← HN.out]
    have HC := Lib.hid hcells
    clear hrow hb1 hcells
    go_wp2
    go_loopw [3, 5, 6, 7] (fun b i _ _ wr => ∃ k : Nat, k ≤ n ∧ i = .int .i64 k ∧ Hid (wr.ownsRow w1.heap.size 5 1 b (encs (cs.take k)).length ((encs (cs.take k)).map bv)) ∧ Hid (Kept w1 wr)) (fun _ i _ _ _ => n - (intOf i).toNat)
    case atStart => exact ⟨0, Nat.zero_le _, rfl, World.ownsRow_nil _ _ _ _, Below.refl _ _⟩
    case round =>
      obtain ⟨k, hk, rfl, hrow, hb⟩ := hrel
      by_cases hlt : k < n
      · obtain ⟨c, hc⟩ : ∃ c, cs[k]? = some c := ⟨cs[k]'(by rw [← HN.out]; exact hlt), List.getElem?_eq_getElem _⟩
        have c1 : wr.cell? ⟨g, k, none⟩ = some (.int .i64 c) := kept_cell hb.out (HC.out k c hc)
        have hchar := hch.out c (List.mem_of_getElem? hc)
        have henc := fun w => rencode_yes c w (decide_eq_true hchar.1)
        have E := Lib.hid (encs_take cs k c hc)
        have hel := encs_len (cs.take k)
        have htl : (cs.take k).length ≤ k := List.length_take_le _ _
        obtain ⟨t, ht⟩ : ∃ t, t = S (encodeRune c) := ⟨_, rfl⟩
        have htz : t.size ≤ 4 := by rw [ht, size_S]; exact (enc_len c).2
        have HS : Hid (Lib.strCells t = (encodeRune c).map bv ∧ t.size = (encodeRune c).length) := by
          refine ⟨?_, ?_⟩
          · rw [ht, strCells_S]
          · rw [ht, size_S]
        rw [← ht] at henc
        clear ht hc hchar
        obtain ⟨m, hm⟩ : ∃ m, m = (encs (cs.take k)).length := ⟨_, rfl⟩
        rw [← hm] at hel hrow
        have HM := Lib.hid hm
        clear hm
        go_wp2_with fail
        refine (henc _).mono ?_
        rintro e w2 ⟨rfl, hb2⟩
        have HB2 := Lib.hid (kept_trans hb.out hb2)
        have HR2 := Lib.hid (own_kept hrow.out hb2)
        have hB : w1.heap.size ≤ w2.heap.size := HB2.out.size
        clear hb2 henc hb hrow c1
        go_wp2_with (at_builtin; refine Lib.wpList_append_own_string _ rfl _ _ 31 9 rfl w1.heap.size 5 i0 Tryd.underlying31 Tryd.underlying9 hi hz0 hz1 hz2 _ m _ rfl HR2.out t rfl (by unfold maxLen; omega) (by omega) hB ?_)
        intro v' w3 hown hg _
        have HO : Hid (w3.ownsRow w1.heap.size 5 1 v' (encs (cs.take (k + 1))).length ((encs (cs.take (k + 1))).map bv)) := by
          show World.ownsRow _ _ _ _ _ _ _
          rw [E.out, List.length_append, List.map_append, ← HM.out, ← HS.out.1, ← HS.out.2]
          exact hown
        have HB3 : Hid (Kept w1 w3) := HB2.out.grown hg hB (own_base HR2.out)
        clear hown hg HR2 HB2
        go_wp2
        go_roundw
        case rel => exact ⟨k + 1, by omega, by go_num, HO, HB3⟩
        case measure => simp [intOf]; omega
      · obtain rfl : k = n := by omega
        have hcv := conv_own hrow.out
        rw [List.take_of_length_le (by rw [← HN.out]; exact Nat.le_refl _), ← hrep.out] at hcv
        go_wp2
        go_ret
        exact ⟨rfl, kept_trans HB1.out hb.out⟩
end Go.Proofs.YtppclkecfggkiaaDoor.Utf
