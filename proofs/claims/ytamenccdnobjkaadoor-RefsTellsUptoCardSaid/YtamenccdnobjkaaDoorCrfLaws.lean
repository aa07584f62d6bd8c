/-
  The laws RefsWaits, RefsBack and RefsNumbers, out of the contracts of the calls that they make.
-/
import Derived.Test.YtamenccdnobjkaaDoorCrfBuild
import Derived.Test.YtamenccdnobjkaaDoorCrfClean
import Derived.Test.YtamenccdnobjkaaDoorUtfSame
import Derived.Test.YtamenccdnobjkaaDoorPgPrint
import Derived.Test.YtamenccdnobjkaaDoorPgHex
namespace Go.Proofs.YtamenccdnobjkaaDoor.Crf
open Go.RowKit Go.Proofs.YtamenccdnobjkaaDoor.Oct Go.Proofs.YtamenccdnobjkaaDoor.Num Go.Proofs.YtamenccdnobjkaaDoor.Utf
open Go.Lib (encodeRune)

theorem alive_c (w : World) (hT : Tabs w) : Calls Tryd.prog 18 #[] w fun e w' => e = .returned (.bool true) ∧ Below w.heap.size w w' := by
  have h1 := decode_c [38, 35, 54, 53, 59] (by decide) w
  have e1 : decL' [38, 35, 54, 53, 59] = [65] := by decide +kernel
  rw [e1] at h1
  have h2 := fun W (hW : Tabs W) => escape_c (S [60]) (by decide) W hW
  have e2 : escL (rep (S [60]).data.toList) = [38, 108, 116, 59] := by decide +kernel
  rw [e2] at h2
  have HT := Lib.hid (fun W (h : Below w.heap.size w W) => h2 W (hT.kept h))
  clear e1 e2 h2 hT
  go_enter Tryd.func18, Tryd.ntmps18
  go_wp2_with fail
  refine h1.mono ?_
  rintro e w1 ⟨rfl, hb1⟩
  have h3 := HT.out w1 hb1
  clear h1
  go_wp2_with fail
  refine h3.mono ?_
  rintro e w2 ⟨rfl, hb2⟩
  go_wp2_with fail
  go_ret
  exact ⟨rfl, hb1.trans (hb2.mono hb1.size)⟩

set_option maxHeartbeats 4000000 in
set_option maxRecDepth 100000 in
theorem law_back (W : World) (s : ByteArray) (hs : s.size ≤ 134217728) (hT : Tabs W) :
    Calls Tryd.prog 4 #[.string s] W fun e W' => e = .returned (.bool true) ∧ Below W.heap.size W W' := by
  have h1 := escape_c s (by omega) W hT
  have hrl : (rep s.data.toList).length ≤ 4 * s.size := by
    have h1 := encs_len (chars s.data.toList)
    have h2 := chars_len s.data.toList
    rw [size_list] at h2
    unfold rep
    omega
  have hel := esc_len (rep s.data.toList)
  have h2 := fun w => decode_c (escL (rep s.data.toList)) (by omega) w
  rw [dec_esc] at h2
  have h3 := fun w => clean_c (escL (rep s.data.toList)) (by omega) w
  rw [esc_clean] at h3
  have h4 := fun w => rrepair_c s (by omega) w
  have HT := Lib.hid (fun w (h : Below W.heap.size W w) => alive_c w (hT.kept h))
  have hq : ((S (rep s.data.toList)).toList == (S (rep s.data.toList)).toList) = true := by simp
  generalize S (escL (rep s.data.toList)) = E at h1 h2 h3
  generalize S (rep s.data.toList) = R at h2 h4 hq
  clear hrl hel hT hs
  go_enter Tryd.func4, Tryd.ntmps4
  go_wp2_with fail
  refine h1.mono ?_
  rintro e w1 ⟨rfl, hb1⟩
  go_wp2_with fail
  refine (h2 _).mono ?_
  rintro e w2 ⟨rfl, hb2⟩
  go_wp2_with fail
  refine (h4 _).mono ?_
  rintro e w3 ⟨rfl, hb3⟩
  go_wp2_with fail
  refine (h3 _).mono ?_
  rintro e w4 ⟨rfl, hb4⟩
  have b2 := hb1.trans (hb2.mono hb1.size)
  have b3 := b2.trans (Below.mono hb3 b2.size)
  have b4 := b3.trans (hb4.mono b3.size)
  have h5 := HT.out w4 b4
  have HB := Lib.hid b4
  clear hb1 hb2 hb3 hb4 b2 b3 b4 h1 h2 h3 h4
  go_wp2_with fail
  refine h5.mono ?_
  rintro e w5 ⟨rfl, hb5⟩
  go_wp2_with fail
  go_ret
  exact ⟨rfl, HB.out.trans (hb5.mono HB.out.size)⟩

set_option maxHeartbeats 4000000 in
set_option maxRecDepth 100000 in
theorem law_waits (W : World) (s : ByteArray) (hs : s.size ≤ 140737488351232) (n : Int) (h0 : 0 ≤ n) (h1 : n ≤ 255) (hT : Tabs W) :
    Calls Tryd.prog 7 #[.string s, .int .u8 n] W fun e W' => e = .returned (.bool true) ∧ Below W.heap.size W W' := by
  obtain ⟨l, rfl⟩ : ∃ l, s = S l := ⟨s.data.toList, (S_list s).symm⟩
  have hl : l.length ≤ 140737488351232 := by rw [← size_S]; exact hs
  obtain ⟨c, rfl⟩ : ∃ c : UInt8, n = (c.toNat : Int) := ⟨n.toNat.toUInt8, by simp; omega⟩
  have hal := alive_c W hT
  have hcv := fun w => conv_new w [(c.toNat : Int)] (by simp; omega)
  have hc1 : [(c.toNat : Int)].map (fun x => x.toNat.toUInt8) = [c] := by simp
  simp only [hc1] at hcv
  simp only [List.map_cons, List.map_nil, List.length_cons, List.length_nil, Nat.zero_add] at hcv
  have happ : S l ++ S [c] = S (l ++ [c]) := S_append l [c]
  have ho1 := fun w => one_c l (by omega) w
  have ho2 := fun w => one_c (l ++ [c]) (by rw [List.length_append, List.length_singleton]; omega) w
  have hu1 := fun w => unf_c l (by omega) w
  have hu2 := fun w => unf_c (l ++ [c]) (by rw [List.length_append, List.length_singleton]; omega) w
  have hz1 : ((S l).size : Int) = (l.length : Int) := by rw [size_S]
  have hLn : (S l).size ≤ 140737488351232 := hs
  have hCn : (S [c]).size ≤ 1 := Nat.le_refl 1
  have hz2 : ((S (l ++ [c])).size : Int) = (l.length : Int) + 1 := by rw [size_S, List.length_append, List.length_singleton]; rfl
  have hli : (l.length : Int) ≤ 140737488351232 := by omega
  have HB := Lib.hid hal
  clear hc1 hs hT hal h0 h1
  cases hq1 : unfL l with
  | false =>
    rw [hq1] at hu1
    cases hq2 : unfL (l ++ [c]) with
    | false =>
      rw [hq2] at hu2
      generalize S (oneL l).1 = O1 at ho1
      generalize ((oneL l).2 : Int) = n1 at ho1
      generalize S (oneL (l ++ [c])).1 = O2 at ho2
      generalize ((oneL (l ++ [c])).2 : Int) = n2 at ho2
      generalize S (l ++ [c]) = T at happ ho2 hu2 hz2
      generalize S l = L at happ ho1 hu1 hz1 hLn
      generalize S [c] = C at hcv happ hCn
      clear hq1 hq2
      generalize (c.toNat : Int) = cn at hcv
      go_enter Tryd.func7, Tryd.ntmps7
      go_wp2_with fail
      refine HB.out.mono ?_
      rintro e w1 ⟨rfl, hb1⟩
      have hcv1 := hcv w1
      have B1 := Lib.hid hb1
      clear hb1 hcv
      go_wp2_with fail
      refine (ho1 _).mono ?_
      rintro e w2 ⟨rfl, hb2⟩
      have B2 := Lib.hid ((B1.out.alloc B1.out.size _).trans (hb2.mono (B1.out.alloc B1.out.size _).size))
      clear hb2 hcv1
      go_wp2_with fail
      refine (ho2 _).mono ?_
      rintro e w3 ⟨rfl, hb3⟩
      have B3 := Lib.hid (B2.out.trans (hb3.mono B2.out.size))
      clear hb3
      go_wp2_with fail
      refine (hu1 _).mono ?_
      rintro e w4 ⟨rfl, hb4⟩
      have B4 := Lib.hid (B3.out.trans (hb4.mono B3.out.size))
      clear hb4
      go_wp2_with fail
      refine (hu2 _).mono ?_
      rintro e w5 ⟨rfl, hb5⟩
      go_wp2_with fail
      go_ret
      exact ⟨rfl, B4.out.trans (hb5.mono B4.out.size)⟩
    | true =>
      obtain ⟨rfl, rfl⟩ : l = [] ∧ c = 38 := by
        rcases unf_front hq2 with h | h
        · rw [hq1] at h; cases h
        · exact h
      rw [hq2] at hu2
      have hcv : ∀ w : World, (convert 32 9 (.slice (some ⟨w.heap.size, 0, none⟩) 1 1)).run Tryd.prog (w.alloc (.cells #[.int .u8 38] 5)) = .ok (.string (S [38])) (w.alloc (.cells #[.int .u8 38] 5)) := hcv
      have ho1 : ∀ w : World, Calls Tryd.prog 8 #[.string ⟨#[]⟩] w fun e w' => e = .returned (.tuple #[.string (S (oneL []).1), .int .i64 ((oneL []).2 : Int)]) ∧ Below w.heap.size w w' := ho1
      have hu1 : ∀ w : World, Calls Tryd.prog 14 #[.string ⟨#[]⟩] w fun e w' => e = .returned (.bool false) ∧ Below w.heap.size w w' := hu1
      have happ : (⟨#[]⟩ : ByteArray) ++ S [38] = S ([] ++ [38]) := happ
      show Calls Tryd.prog 7 #[.string ⟨#[]⟩, .int .u8 38] W _
      generalize S (oneL []).1 = O1 at ho1
      generalize ((oneL []).2 : Int) = n1 at ho1
      generalize S (oneL ([] ++ [38])).1 = O2 at ho2
      generalize ((oneL ([] ++ [38])).2 : Int) = n2 at ho2
      generalize S ([] ++ [38]) = T at happ ho2 hu2 hz2
      have hCn : (S [38]).size ≤ 1 := hCn
      have hLn : (⟨#[]⟩ : ByteArray).size ≤ 1 := by decide
      generalize S [38] = C at hcv happ hCn
      clear hq1 hq2
      go_enter Tryd.func7, Tryd.ntmps7
      go_wp2_with fail
      refine HB.out.mono ?_
      rintro e w1 ⟨rfl, hb1⟩
      have hcv1 := hcv w1
      have B1 := Lib.hid hb1
      clear hb1 hcv
      go_wp2_with fail
      refine (ho1 _).mono ?_
      rintro e w2 ⟨rfl, hb2⟩
      have B2 := Lib.hid ((B1.out.alloc B1.out.size _).trans (hb2.mono (B1.out.alloc B1.out.size _).size))
      clear hb2 hcv1
      go_wp2_with fail
      refine (ho2 _).mono ?_
      rintro e w3 ⟨rfl, hb3⟩
      have B3 := Lib.hid (B2.out.trans (hb3.mono B2.out.size))
      clear hb3
      go_wp2_with fail
      refine (hu1 _).mono ?_
      rintro e w4 ⟨rfl, hb4⟩
      have B4 := Lib.hid (B3.out.trans (hb4.mono B3.out.size))
      clear hb4
      go_wp2_with fail
      refine (hu2 _).mono ?_
      rintro e w5 ⟨rfl, hb5⟩
      go_wp2_with fail
      go_ret
      exact ⟨rfl, B4.out.trans (hb5.mono B4.out.size)⟩
  | true =>
    obtain ⟨g1, g2, g3⟩ := wait_yes l c hq1
    rw [hq1] at hu1
    have g3i : (l.length : Int) ≤ 10 := by omega
    generalize S (oneL l).1 = O1 at ho1
    rw [g1] at ho1
    generalize S (oneL (l ++ [c])).1 = O2 at ho2
    generalize S (l ++ [c]) = T at happ ho2 hu2 hz2
    generalize S l = L at happ ho1 hu1 hz1 hLn
    generalize S [c] = C at hcv happ hCn
    clear hq1 hu2 g1
    rcases g2 with g2 | ⟨g2, rfl⟩
    · rw [g2] at ho2
      clear g2
      generalize (c.toNat : Int) = cn at hcv
      go_enter Tryd.func7, Tryd.ntmps7
      go_wp2_with fail
      refine HB.out.mono ?_
      rintro e w1 ⟨rfl, hb1⟩
      have hcv1 := hcv w1
      have B1 := Lib.hid hb1
      clear hb1 hcv
      go_wp2_with fail
      refine (ho1 _).mono ?_
      rintro e w2 ⟨rfl, hb2⟩
      have B2 := Lib.hid ((B1.out.alloc B1.out.size _).trans (hb2.mono (B1.out.alloc B1.out.size _).size))
      clear hb2 hcv1
      go_wp2_with fail
      refine (ho2 _).mono ?_
      rintro e w3 ⟨rfl, hb3⟩
      have B3 := Lib.hid (B2.out.trans (hb3.mono B2.out.size))
      clear hb3
      go_wp2_with fail
      refine (hu1 _).mono ?_
      rintro e w4 ⟨rfl, hb4⟩
      have B4 := Lib.hid (B3.out.trans (hb4.mono B3.out.size))
      clear hb4
      go_wp2_with fail
      go_ret
      exact ⟨rfl, B4.out⟩
    · rw [g2] at ho2
      clear g2
      have hcv : ∀ w : World, (convert 32 9 (.slice (some ⟨w.heap.size, 0, none⟩) 1 1)).run Tryd.prog (w.alloc (.cells #[.int .u8 59] 5)) = .ok (.string C) (w.alloc (.cells #[.int .u8 59] 5)) := hcv
      have ho2 : ∀ w : World, Calls Tryd.prog 8 #[.string T] w fun e w' => e = .returned (.tuple #[.string O2, .int .i64 ((l.length : Int) + 1)]) ∧ Below w.heap.size w w' := ho2
      show Calls Tryd.prog 7 #[.string L, .int .u8 59] W _
      have hq : (((l.length : Int) + 1) == (l.length : Int) + 1) = true := by simp
      have hq0 : (((l.length : Int) + 1) == 0) = false := by simp; omega
      go_enter Tryd.func7, Tryd.ntmps7
      go_wp2_with fail
      refine HB.out.mono ?_
      rintro e w1 ⟨rfl, hb1⟩
      have hcv1 := hcv w1
      have B1 := Lib.hid hb1
      clear hb1 hcv
      go_wp2_with fail
      refine (ho1 _).mono ?_
      rintro e w2 ⟨rfl, hb2⟩
      have B2 := Lib.hid ((B1.out.alloc B1.out.size _).trans (hb2.mono (B1.out.alloc B1.out.size _).size))
      clear hb2 hcv1
      go_wp2_with fail
      refine (ho2 _).mono ?_
      rintro e w3 ⟨rfl, hb3⟩
      have B3 := Lib.hid (B2.out.trans (hb3.mono B2.out.size))
      clear hb3
      go_wp2_with fail
      refine (hu1 _).mono ?_
      rintro e w4 ⟨rfl, hb4⟩
      have B4 := Lib.hid (B3.out.trans (hb4.mono B3.out.size))
      clear hb4
      go_wp2_with fail
      go_ret
      exact ⟨rfl, B4.out⟩
end Go.Proofs.YtamenccdnobjkaaDoor.Crf
