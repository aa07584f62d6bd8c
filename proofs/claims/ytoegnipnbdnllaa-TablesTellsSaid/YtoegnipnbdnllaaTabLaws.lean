/-
  The laws TablesTells, TablesScripts and TablesOwn, out of the contracts of the calls that they make.
-/
import Derived.Test.YtoegnipnbdnllaaTabElems
namespace Go.Proofs.Ytoegnipnbdnllaa.Tab
open Go.RowKit Go.Proofs.Ytoegnipnbdnllaa.Oct

theorem Texts.kept {g : Nat} {ls : List (List UInt8)} {w w' : World} (h : Texts g ls w) (hb : Below w.heap.size w w') : Texts g ls w' := fun j hj =>
  (hb.cell (World.block_lt_of_cell? w _ (h j hj))).trans (h j hj)
theorem texts_own {g : Nat} {w : World} (h : w.ownsRow g 9 1 (.slice (some ⟨g, 0, none⟩) 10 10) 10 (namesAt elsL 10)) : Texts g elsL w := fun j hj =>
  (h.cellAt j hj).trans (namesAt_full elsL j hj)

theorem alive_c (w : World) : Calls Try.prog 15 #[] w fun e w' => e = .returned (.bool true) ∧ Below w.heap.size w w' := by
  have h1 := attribute_c [97] [104, 114, 101, 102] w
  have e1 : attrN [97] [104, 114, 101, 102] = 1 := by decide +kernel
  have h2 := fun w => element_c [115, 99, 114, 105, 112, 116] w
  have e2 : elemN [115, 99, 114, 105, 112, 116] = 3 := by decide +kernel
  have h3 := fun w => void_c [98, 114] w
  have e3 : voidB [98, 114] = true := by decide +kernel
  rw [e1] at h1
  rw [e2] at h2
  rw [e3] at h3
  clear e1 e2 e3
  go_enter Try.func15, Try.ntmps15
  go_wp2_with fail
  refine h1.mono ?_
  rintro e w1 ⟨rfl, hb1⟩
  go_wp2_with fail
  refine (h2 _).mono ?_
  rintro e w2 ⟨rfl, hb2⟩
  go_wp2_with fail
  refine (h3 _).mono ?_
  rintro e w3 ⟨rfl, rfl⟩
  go_wp2_with fail
  go_ret
  exact ⟨rfl, hb1.trans (hb2.mono hb1.size)⟩

set_option maxHeartbeats 4000000 in
set_option maxRecDepth 100000 in
theorem law_tells (W : World) (a b : ByteArray) :
    Calls Try.prog 3 #[.string a, .string b] W fun e W' => e = .returned (.bool true) ∧ Below W.heap.size W W' := by
  have C1 := Lib.hid (fun w => element_c a.data.toList w)
  have C2 := Lib.hid (fun w => rElement_c a.data.toList w)
  have C3 := Lib.hid (fun w => attribute_c a.data.toList b.data.toList w)
  have C4 := Lib.hid (fun w => rAttribute_c a.data.toList b.data.toList w)
  have C5 := Lib.hid (fun w => void_c a.data.toList w)
  have C6 := Lib.hid (fun w => rVoid_c a.data.toList w)
  rw [S_list] at C1 C2 C3 C4 C5 C6
  rw [S_list] at C3 C4
  generalize (elemN a.data.toList : Int) = n1 at C1 C2
  generalize (attrN a.data.toList b.data.toList : Int) = n2 at C3 C4
  generalize voidB a.data.toList = n3 at C5 C6
  have q1 : (n1 == n1) = true := by simp
  have q2 : (n2 == n2) = true := by simp
  have q3 : (n3 == n3) = true := by simp
  go_enter Try.func3, Try.ntmps3
  go_wp2_with fail
  refine (C1.out W).mono ?_
  rintro e w1 ⟨rfl, hb1⟩
  have B1 := Lib.hid hb1
  clear hb1 C1
  go_wp2_with fail
  refine (C2.out w1).mono ?_
  rintro e w2 ⟨rfl, hb2⟩
  have B2 := Lib.hid (B1.out.trans (hb2.mono B1.out.size))
  clear hb2 C2 B1
  go_wp2_with fail
  refine (C3.out w2).mono ?_
  rintro e w3 ⟨rfl, hb3⟩
  have B3 := Lib.hid (B2.out.trans (hb3.mono B2.out.size))
  clear hb3 C3 B2
  go_wp2_with fail
  refine (C4.out w3).mono ?_
  rintro e w4 ⟨rfl, hb4⟩
  have B4 := Lib.hid (B3.out.trans (hb4.mono B3.out.size))
  clear hb4 C4 B3
  go_wp2_with fail
  refine (C5.out w4).mono ?_
  rintro e w5 ⟨rfl, rfl⟩
  clear C5
  go_wp2_with fail
  refine (C6.out w4).mono ?_
  rintro e w6 ⟨rfl, hb6⟩
  have B6 := Lib.hid (B4.out.trans (hb6.mono B4.out.size))
  clear hb6 C6 B4
  go_wp2_with fail
  refine (elements_c w6).mono ?_
  rintro e w7 ⟨g, rfl, _, hown, hb7⟩
  have T7 := texts_own hown
  have B7 := Lib.hid (B6.out.trans (hb7.mono B6.out.size))
  clear hb7 hown B6
  go_wp2_with fail
  refine (rElements_c w7).mono ?_
  rintro e w8 ⟨rfl, ht, hb8⟩
  have hs := same_texts elsL (by decide) g w7.heap.size 10 10 w8 (T7.kept hb8) ht
  have B8 := Lib.hid (B7.out.trans (hb8.mono B7.out.size))
  clear hb8 ht T7 B7
  go_wp2_with fail
  refine hs.mono ?_
  rintro e w9 ⟨rfl, hb9⟩
  have B9 := Lib.hid (B8.out.trans (hb9.mono B8.out.size))
  clear hb9 hs B8
  go_wp2_with fail
  refine (alive_c w9).mono ?_
  rintro e w10 ⟨rfl, hb10⟩
  go_wp2_with fail
  go_ret
  exact ⟨rfl, B9.out.trans (hb10.mono B9.out.size)⟩

set_option maxHeartbeats 4000000 in
set_option maxRecDepth 100000 in
theorem law_scripts (W : World) (a b : ByteArray) (hb : b.size ≤ 140737488351232) :
    Calls Try.prog 4 #[.string a, .string b] W fun e W' => e = .returned (.bool true) ∧ Below W.heap.size W W' := by
  have h1 := attribute_c a.data.toList (onL ++ b.data.toList) W
  have H2 := Lib.hid (fun w => attribute_c a.data.toList ([113, 45, 111, 110] ++ b.data.toList) w)
  have hbi : (b.size : Int) ≤ 140737488351232 := by omega
  rw [attr_on, S_list, ← S_append, S_list] at h1
  rw [attr_q, S_list, ← S_append, S_list] at H2
  go_enter Try.func4, Try.ntmps4
  go_wp2_with fail
  refine h1.mono ?_
  rintro e w1 ⟨rfl, hb1⟩
  have B1 := Lib.hid hb1
  clear hb1 h1
  go_wp2_with fail
  refine (H2.out w1).mono ?_
  rintro e w2 ⟨rfl, hb2⟩
  have B2 := Lib.hid (B1.out.trans (hb2.mono B1.out.size))
  clear hb2 H2 B1
  go_wp2_with fail
  refine (alive_c w2).mono ?_
  rintro e w3 ⟨rfl, hb3⟩
  go_wp2_with fail
  go_ret
  exact ⟨rfl, B2.out.trans (hb3.mono B2.out.size)⟩

theorem at_ten (a : Int) : ∃ m : Nat, (wrap64 (a.tmod 10 + 10)).tmod 10 = (m : Int) ∧ m < 10 := by
  have h1 := Int.tmod_lt_of_pos a (show (0 : Int) < 10 by decide)
  have h2 := Int.lt_tmod_of_pos a (show (0 : Int) < 10 by decide)
  generalize a.tmod 10 = b at *
  have e : wrap64 (b + 10) = b + 10 := by unfold wrap64; omega
  rw [e]
  have h3 := Int.tmod_lt_of_pos (b + 10) (show (0 : Int) < 10 by decide)
  have h4 : 0 ≤ (b + 10).tmod 10 := Int.tmod_nonneg _ (by omega)
  exact ⟨((b + 10).tmod 10).toNat, by omega, by omega⟩
set_option maxHeartbeats 4000000 in
set_option maxRecDepth 100000 in
theorem law_own (W : World) (a : Int) :
    Calls Try.prog 5 #[.int .i64 a] W fun e W' => e = .returned (.bool true) ∧ Below W.heap.size W W' := by
  obtain ⟨m, hm, hlt⟩ := at_ten a
  have i0 : (0 : Int) ≤ (m : Int) := by omega
  have i1 : (m : Int) < 10 := by omega
  go_enter Try.func5, Try.ntmps5
  go_wp2_with fail
  refine (alive_c W).mono ?_
  rintro e w1 ⟨rfl, hb1⟩
  have B1 := Lib.hid hb1
  clear hb1
  go_wp2_with fail
  refine (elements_c w1).mono ?_
  rintro e w2 ⟨g, rfl, hg, hown, hb2⟩
  have c1 : w2.cell? ⟨g, m, none⟩ = some (.string (S (elsL[m]'hlt))) := texts_own hown m hlt
  have c2 : w2.frozen? ⟨g, m, none⟩ = false := hown.frozenAt m
  have B2 := Lib.hid (B1.out.trans (hb2.mono B1.out.size))
  have hgs : W.heap.size ≤ g := by have := B1.out.size; omega
  have B3 : Hid (∀ v, Below W.heap.size W (w2.setCell ⟨g, m, none⟩ v)) := fun v => B2.out.setCell hgs v
  clear hb2 hown B1 B2
  generalize S (elsL[m]'hlt) = T at c1
  go_wp2_with fail
  refine (elements_c _).mono ?_
  rintro e w4 ⟨g4, rfl, _, hown, hb4⟩
  have T4 := texts_own hown
  have B4 := Lib.hid ((B3.out _).trans (hb4.mono (B3.out (.string ⟨#[115, 112, 111, 105, 108, 116]⟩)).size))
  clear hb4 hown B3
  go_wp2_with fail
  refine (rElements_c w4).mono ?_
  rintro e w8 ⟨rfl, ht, hb8⟩
  have hs := same_texts elsL (by decide) g4 w4.heap.size 10 10 w8 (T4.kept hb8) ht
  have B8 := Lib.hid (B4.out.trans (hb8.mono B4.out.size))
  clear hb8 ht T4 B4
  go_wp2_with fail
  refine hs.mono ?_
  rintro e w9 ⟨rfl, hb9⟩
  have B9 := Lib.hid (B8.out.trans (hb9.mono B8.out.size))
  clear hb9 hs B8
  go_wp2_with fail
  go_ret
  exact ⟨rfl, B9.out⟩
end Go.Proofs.Ytoegnipnbdnllaa.Tab
