/-
  The law RefsParts, out of the contracts of the calls that it makes.
-/
import Derived.Test.YtamenccdnobjkaaDoorCrfLaws
import Derived.Test.YtamenccdnobjkaaDoorCrfUnf
namespace Go.Proofs.YtamenccdnobjkaaDoor.Crf
open Go.RowKit Go.Proofs.YtamenccdnobjkaaDoor.Oct Go.Proofs.YtamenccdnobjkaaDoor.Num Go.Proofs.YtamenccdnobjkaaDoor.Utf
open Go.Lib (encodeRune)

theorem decF_len : ∀ (n : Nat) (l : List UInt8), (decF n l).length ≤ 4 * l.length
  | 0, _ => by rw [decF]; simp
  | n + 1, [] => by rw [decF]; simp
  | n + 1, c :: t => by
    rw [decF]
    split
    · have := decF_len n t
      rw [List.length_cons, List.length_cons]
      omega
    · rename_i h
      have h1 := decF_len n ((c :: t).drop (oneL (c :: t)).2)
      have h2 := one_slen (c :: t)
      have h3 := one_len (c :: t)
      rw [List.length_append]
      rw [List.length_drop] at h1
      omega
theorem dec_len' (l : List UInt8) : (decL' l).length ≤ 4 * l.length := decF_len _ _

set_option maxHeartbeats 4000000 in
set_option maxRecDepth 100000 in
theorem law_parts (W : World) (a s : ByteArray) (ha : a.size ≤ 134217728) (hs : s.size ≤ 134217728) (hT : Tabs W) :
    Calls Tryd.prog 5 #[.string a, .string s] W fun e W' => e = .returned (.bool true) ∧ Below W.heap.size W W' := by
  obtain ⟨l, rfl⟩ : ∃ l, a = S l := ⟨a.data.toList, (S_list a).symm⟩
  have hl : l.length ≤ 134217728 := by rw [← size_S]; exact ha
  have hal := alive_c W hT
  have HEsc := Lib.hid (fun w (h : Below W.heap.size W w) => escape_c s (by omega) w (hT.kept h))
  have hrl : (rep s.data.toList).length ≤ 4 * s.size := by
    have h1 := encs_len (chars s.data.toList)
    have h2 := chars_len s.data.toList
    rw [size_list] at h2
    unfold rep
    omega
  have hrp := fun w => rrepair_c s (by omega) w
  generalize rep s.data.toList = r at HEsc hrl hrp
  have hel := esc_len r
  have hd1 := fun w => decode_c l (by omega) w
  have hd2 := fun w => decode_c (l ++ escL r) (by rw [List.length_append]; omega) w
  have HDone : Hid (doneL l → decL' (l ++ escL r) = decL' l ++ r) := fun h => by rw [dec_parts l.length l (escL r) (Nat.le_refl _) h, dec_esc]
  have c1 : S l ++ S (escL r) = S (l ++ escL r) := S_append _ _
  have c2 : S (decL' l) ++ S r = S (decL' l ++ r) := S_append _ _
  have hdl := dec_len' l
  have z1 : (S l).size ≤ 134217728 := ha
  have z2 : (S (escL r)).size ≤ 3221225472 := by rw [size_S]; omega
  have z3 : (S (decL' l)).size ≤ 536870912 := by rw [size_S]; omega
  have z4 : (S r).size ≤ 536870912 := by rw [size_S]; omega
  have hz : ((S l).size : Int) = (l.length : Int) := by rw [size_S]
  have HFrom := Lib.hid (fun k => (cutFrom (S l) k).trans (by rw [list_S] : S ((S l).data.toList.drop k) = S (l.drop k)))
  have HU := Lib.hid (fun k w => rUnf_c (l.drop k) (by rw [List.length_drop]; omega) w)
  have hli : (l.length : Int) ≤ 134217728 := by omega
  have hq : ((S (decL' l ++ r)).toList == (S (decL' l ++ r)).toList) = true := by simp
  clear hT ha hs hrl hel hdl
  have hd2' := fun (h : doneL l) w => (by have := hd2 w; rw [HDone.out h] at this; exact this : Calls Tryd.prog 12 #[.string (S (l ++ escL r))] w fun e w' => e = .returned (.string (S (decL' l ++ r))) ∧ Below w.heap.size w w')
  have HD2 := Lib.hid hd2'
  clear hd2 hd2' HDone
  generalize S (decL' l ++ r) = D3 at c2 hq HD2
  generalize S (decL' l) = D1 at hd1 c2 z3
  generalize S (l ++ escL r) = T at c1 HD2
  generalize S (escL r) = E at c1 z2 HEsc
  generalize S r = R at c2 z4 hrp
  generalize hL : S l = L at c1 z1 hz HFrom hd1
  clear hL
  go_enter Tryd.func5, Tryd.ntmps5
  go_wp2_with fail
  refine hal.mono ?_
  rintro e w1 ⟨rfl, hb1⟩
  have B1 := Lib.hid hb1
  clear hb1 hal
  go_wp2_with fail
  go_loopw [5] (fun i wr => ∃ k : Nat, k ≤ l.length ∧ i = .int .i64 k ∧ Hid ((∀ j, j < k → unfL (l.drop j) = false) ∧ Below W.heap.size W wr)) (fun i _ => l.length - (intOf i).toNat)
  case atStart => exact ⟨0, Nat.zero_le _, rfl, fun j h => absurd h (by omega), B1.out⟩
  case round =>
    obtain ⟨k, hk, rfl, hr⟩ := hrel
    by_cases hlt : k < l.length
    · have hf := HFrom.out k
      have hu := HU.out k wr
      have i0 : (0 : Int) ≤ (k : Int) := by omega
      have i1 : (k : Int) < (l.length : Int) := by omega
      have i2 : (k : Int) ≤ (l.length : Int) := by omega
      cases hq2 : unfL (l.drop k) with
      | true =>
        rw [hq2] at hu
        generalize S (l.drop k) = C at hf hu
        clear hq2
        go_wp2_with (first | (go_at_call 15; refine hu.mono ?_; rintro e w2 ⟨rfl, hb2⟩))
        go_ret
        exact ⟨rfl, hr.out.2.trans (hb2.mono hr.out.2.size)⟩
      | false =>
        rw [hq2] at hu
        have HNW := Lib.hid hq2
        generalize hC : S (l.drop k) = C at hf hu
        clear hq2 hC
        go_wp2_with (first | (go_at_call 15; refine hu.mono ?_; rintro e w2 ⟨rfl, hb2⟩; have HB2 := Lib.hid (hr.out.2.trans (hb2.mono hr.out.2.size)); clear hb2))
        go_roundw
        case rel => exact ⟨k + 1, by omega, by go_num, fun j hj => by
          rcases Nat.lt_or_ge j k with h | h
          · exact hr.out.1 j h
          · obtain rfl : j = k := by omega
            exact HNW.out, HB2.out⟩
        case measure => simp [intOf]; omega
    · have hkl : k = l.length := by omega
      subst hkl
      have hd2 := HD2.out hr.out.1
      have hesc := HEsc.out wr hr.out.2
      go_wp2_with fail
      refine hesc.mono ?_
      rintro e w2 ⟨rfl, hb2⟩
      have B2 := Lib.hid (hr.out.2.trans (hb2.mono hr.out.2.size))
      clear hb2
      go_wp2_with fail
      refine (hd2 _).mono ?_
      rintro e w3 ⟨rfl, hb3⟩
      have B3 := Lib.hid (B2.out.trans (hb3.mono B2.out.size))
      clear hb3
      go_wp2_with fail
      refine (hd1 _).mono ?_
      rintro e w4 ⟨rfl, hb4⟩
      have B4 := Lib.hid (B3.out.trans (hb4.mono B3.out.size))
      clear hb4
      go_wp2_with fail
      refine (hrp _).mono ?_
      rintro e w5 ⟨rfl, hb5⟩
      have B5 := Lib.hid (B4.out.trans (Below.mono hb5 B4.out.size))
      clear hb5
      go_wp2_with fail
      go_ret
      exact ⟨rfl, B5.out⟩
end Go.Proofs.YtamenccdnobjkaaDoor.Crf
