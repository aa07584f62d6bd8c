/-
  The law RefsTells, out of the contracts of the calls that it makes: the code's own and the page's tell the same.
-/
import Derived.Test.YtamenccdnobjkaaDoorCrfLaws
import Derived.Test.YtamenccdnobjkaaDoorCrfParts
import Derived.Test.YtamenccdnobjkaaDoorCrfPgEsc
import Derived.Test.YtamenccdnobjkaaDoorCrfPgDec
import Derived.Test.YtamenccdnobjkaaDoorCrfPgClean
namespace Go.Proofs.YtamenccdnobjkaaDoor.Crf
open Go.RowKit Go.Proofs.YtamenccdnobjkaaDoor.Oct Go.Proofs.YtamenccdnobjkaaDoor.Num Go.Proofs.YtamenccdnobjkaaDoor.Utf
open Go.Lib (encodeRune)

set_option maxHeartbeats 1000000 in
set_option maxRecDepth 100000 in
theorem law_tells (W : World) (s : ByteArray) (hs : s.size ≤ 134217728) (hT : Tabs W) :
    Calls Tryd.prog 3 #[.string s] W fun e W' => e = .returned (.bool true) ∧ Below W.heap.size W W' := by
  obtain ⟨l, rfl⟩ : ∃ l, s = S l := ⟨s.data.toList, (S_list s).symm⟩
  have hl : l.length ≤ 134217728 := by rw [← size_S]; exact hs
  have hal := fun w (h : Below W.heap.size W w) => alive_c w (hT.kept h)
  have h1 := fun w => one_c l (by omega) w
  have h2 := fun w => rOne_c l (by omega) w
  have h3 := fun w (h : Below W.heap.size W w) => escape_c (S l) (by omega) w (hT.kept h)
  have h4 := fun w => rEscape_c (S l) hs w
  have h5 := fun w => decode_c l (by omega) w
  have h6 := fun w => rDecode_c l hl w
  have h7 := fun w => unf_c l (by omega) w
  have h8 := fun w => rUnf_c l (by omega) w
  have h9 := fun w => clean_c l (by omega) w
  have h10 := fun w => rClean_c (S l) (by omega) w
  rw [list_S] at h10
  generalize hE : escL (rep (S l).data.toList) = E at h3 h4
  generalize hD : decL' l = D at h5 h6
  generalize hO : (oneL l).1 = o at h1 h2
  generalize hN : (oneL l).2 = n at h1 h2
  generalize hU : unfL l = u at h7 h8
  generalize hC : cleanL l = c at h9 h10
  generalize hL : S l = L at *
  clear hE hD hO hN hU hC hL
  generalize S E = TE at h3 h4
  generalize S D = TD at h5 h6
  generalize S o = TO at h1 h2
  have e1 : (TE.toList == TE.toList) = true := by simp
  have e2 : (TD.toList == TD.toList) = true := by simp
  have e3 : (TO.toList == TO.toList) = true := by simp
  have e4 : ((n : Int) == (n : Int)) = true := by simp
  have e5 : (u == u) = true := by cases u <;> rfl
  have e6 : (c == c) = true := by cases c <;> rfl
  clear hT
  go_enter Tryd.func3, Tryd.ntmps3
  go_wp2_with fail
  refine (h1 _).mono ?_
  rintro e w1 ⟨rfl, hb1⟩
  have B1 := Lib.hid hb1
  clear hb1 h1
  go_wp2_with fail
  refine (h2 _).mono ?_
  rintro e w2 ⟨rfl, hb2⟩
  have B2 := Lib.hid (B1.out.trans (hb2.mono B1.out.size))
  clear hb2 h2
  have h3' := h3 _ B2.out
  clear h3
  go_wp2_with fail
  refine h3'.mono ?_
  rintro e w3 ⟨rfl, hb3⟩
  have B3 := Lib.hid (B2.out.trans (hb3.mono B2.out.size))
  clear hb3 h3'
  go_wp2_with fail
  refine (h4 _).mono ?_
  rintro e w4 ⟨rfl, hb4⟩
  have B4 := Lib.hid (B3.out.trans (hb4.mono B3.out.size))
  clear hb4 h4
  go_wp2_with fail
  refine (h5 _).mono ?_
  rintro e w5 ⟨rfl, hb5⟩
  have B5 := Lib.hid (B4.out.trans (hb5.mono B4.out.size))
  clear hb5 h5
  go_wp2_with fail
  refine (h6 _).mono ?_
  rintro e w6 ⟨rfl, hb6⟩
  have B6 := Lib.hid (B5.out.trans (hb6.mono B5.out.size))
  clear hb6 h6
  go_wp2_with fail
  refine (h7 _).mono ?_
  rintro e w7 ⟨rfl, hb7⟩
  have B7 := Lib.hid (B6.out.trans (hb7.mono B6.out.size))
  clear hb7 h7
  go_wp2_with fail
  refine (h8 _).mono ?_
  rintro e w8 ⟨rfl, hb8⟩
  have B8 := Lib.hid (B7.out.trans (hb8.mono B7.out.size))
  clear hb8 h8
  go_wp2_with fail
  refine (h9 _).mono ?_
  rintro e w9 ⟨rfl, hb9⟩
  have B9 := Lib.hid (B8.out.trans (hb9.mono B8.out.size))
  clear hb9 h9
  go_wp2_with fail
  refine (h10 _).mono ?_
  rintro e w10 ⟨rfl, rfl⟩
  have hal' := hal _ B9.out
  clear hal h10
  go_wp2_with fail
  refine hal'.mono ?_
  rintro e w11 ⟨rfl, hb11⟩
  have B11 := Lib.hid (B9.out.trans (hb11.mono B9.out.size))
  clear hb11 hal'
  go_wp2_with fail
  go_ret
  exact ⟨rfl, B11.out⟩
end Go.Proofs.YtamenccdnobjkaaDoor.Crf
