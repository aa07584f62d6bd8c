/-
  The laws JsscanStrings and JsscanLiterals.
-/
import Derived.Test.YtganmmkdcaphfaaGreatDoorJscLaws
import Derived.Test.YtganmmkdcaphfaaGreatDoorLitDeep6
namespace Go.Proofs.YtganmmkdcaphfaaGreatDoor.Jsc
open Go.RowKit Go.Proofs.YtganmmkdcaphfaaGreatDoor.Oct Go.Proofs.YtganmmkdcaphfaaGreatDoor.Utf Go.Proofs.YtganmmkdcaphfaaGreatDoor.Val Go.Proofs.YtganmmkdcaphfaaGreatDoor.Lit Go.Proofs.YtganmmkdcaphfaaGreatDoor.Rd

set_option maxHeartbeats 1000000 in
theorem law_strings (W : World) (hT : TabN W.heap.size W) (s : ByteArray) (hs : s.size ≤ 1099511627776) :
    Calls Tryz.prog 4 #[.string s] W fun e W' => e = .returned (.bool true) ∧ Below W.heap.size W W' := by
  have hcl := chars_len s.data.toList
  rw [size_list] at hcl
  have hil := insideL_le (chars s.data.toList)
  have hal := alive_c W hT
  have hin := fun w => inside_c s w (by omega) (by omega)
  generalize chars s.data.toList = cs at hcl hil hin
  have h1 := fun w => feed_c 2 [] (by simp) (insideL cs) (by omega) w
  have h2 := fun w => feed_c 3 [] (by simp) (insideL cs) (by omega) w
  have h3 := fun w => feed_c 2 [] (by simp) (insideL cs ++ [34]) (by rw [List.length_append, List.length_singleton]; omega) w
  have h4 := fun w => feed_c 3 [] (by simp) (insideL cs ++ [39]) (by rw [List.length_append, List.length_singleton]; omega) w
  rw [two_inside] at h1
  rw [three_inside] at h2
  rw [two_end] at h3
  rw [three_end] at h4
  have a3 : S (insideL cs) ++ (⟨#[34]⟩ : ByteArray) = S (insideL cs ++ [34]) := S_append (insideL cs) [34]
  have a4 : S (insideL cs) ++ (⟨#[39]⟩ : ByteArray) = S (insideL cs ++ [39]) := S_append (insideL cs) [39]
  have z1 : (S (insideL cs)).size ≤ 17592186044416 := by rw [size_S]; omega
  have q3 : S [] = ⟨#[]⟩ := rfl
  rw [q3] at h1 h2 h3 h4
  generalize S (feedJ (2, []) (insideL cs)).2 = X1 at h1
  generalize S (feedJ (3, []) (insideL cs)).2 = X2 at h2
  generalize S (insideL cs ++ [34]) = Y3 at h3 a3
  generalize S (insideL cs ++ [39]) = Y4 at h4 a4
  generalize S (insideL cs) = T at hin h1 h2 a3 a4 z1
  clear hcl hil q3 hT
  go_enter Tryz.func4, Tryz.ntmps4
  go_wp2_with fail
  refine hal.mono ?_
  rintro e w1 ⟨rfl, hb1⟩
  have B1 := Lib.hid hb1
  clear hb1 hal
  go_wp2_with fail
  refine (hin _).mono ?_
  rintro e w2 ⟨rfl, hb2⟩
  have B2 := Lib.hid (B1.out.trans (Below.mono hb2 B1.out.size))
  clear hb2 hin
  go_wp2_with fail
  refine (h1 _).mono ?_
  rintro e w3 ⟨rfl, hb3⟩
  have B3 := Lib.hid (B2.out.trans (hb3.mono B2.out.size))
  clear hb3 h1
  go_wp2_with fail
  refine (h2 _).mono ?_
  rintro e w4 ⟨rfl, hb4⟩
  have B4 := Lib.hid (B3.out.trans (hb4.mono B3.out.size))
  clear hb4 h2
  go_wp2_with fail
  refine (h3 _).mono ?_
  rintro e w5 ⟨rfl, hb5⟩
  have B5 := Lib.hid (B4.out.trans (hb5.mono B4.out.size))
  clear hb5 h3
  go_wp2_with fail
  refine (h4 _).mono ?_
  rintro e w6 ⟨rfl, hb6⟩
  have B6 := Lib.hid (B5.out.trans (hb6.mono B5.out.size))
  clear hb6 h4
  go_wp2_with fail
  go_ret
  exact ⟨rfl, B6.out⟩

theorem fit_of {C : Cond} {w : World} {v : Value} {x : Val.V} (h : Holds C w v x) : ∀ {d}, Deep d x → Fit d x := by
  induction h with
  | mk k n s p cap K l ks b off c hr hp hc hK hl ih =>
    intro d hg
    cases hg with
    | mk _ _ _ _ _ _ hd hall => exact .mk d k n s l ks ⟨hr.2.2.1, hr.2.2.2.1⟩ hd (fun i hi => ih i hi (hall i hi))

theorem five_at {X : World} {q : Nat} {u0 u1 u2 u3 u4 : Value} (h : X.heap[q]? = some (.cells #[u0, u1, u2, u3, u4] 25 (0, 0))) :
    X.cell? ⟨q, 0, none⟩ = some u0 ∧ X.cell? ⟨q, 1, none⟩ = some u1 ∧ X.cell? ⟨q, 2, none⟩ = some u2 ∧ X.cell? ⟨q, 3, none⟩ = some u3 ∧ X.cell? ⟨q, 4, none⟩ = some u4 :=
  ⟨cell_of_row X q 0 _ _ _ h, cell_of_row X q 1 _ _ _ h, cell_of_row X q 2 _ _ _ h, cell_of_row X q 3 _ _ _ h, cell_of_row X q 4 _ _ _ h⟩

set_option maxHeartbeats 2000000 in
set_option maxRecDepth 100000 in
theorem law_literals (W : World) (hT : TabN W.heap.size W) (v0 v1 v2 v3 v4 : Value) (x : Val.V) (hx : Holds (Old W.heap.size) W (.agg #[v0, v1, v2, v3, v4]) x) (hlen : (litL x).length ≤ 1073741824) (u : ByteArray) (hu : u.size ≤ 140737488351232) :
    Calls Tryz.prog 3 #[.agg #[v0, v1, v2, v3, v4], .string u] W fun e W' => e = .returned (.bool true) ∧ Below W.heap.size W W' := by
  obtain ⟨m, rfl⟩ : ∃ m, u = S m := ⟨u.data.toList, (S_list u).symm⟩
  have hm : m.length ≤ 140737488351232 := by rw [← size_S]; exact hu
  obtain ⟨k2, n2, t2, p2, m2, a2, q2, c2, d2, rfl, rfl, rfl, rfl, rfl⟩ := holds_parts hx
  have hal := fun X (hX : Below W.heap.size W X) => alive_c X (fun Y hY => hT Y (hX.trans (hY.mono hX.size)))
  have hchk := fun X (hX : Below W.heap.size W X) => rDeep_c W.heap.size W _ _ _ _ _ (by intro u hu; simp at hu; rcases hu with rfl | rfl | rfl | rfl | rfl <;> rfl) hx X hX.size hX
  have hlit := fun X (hX : Below W.heap.size W X) => rlit_c W.heap.size W hx X hX.size hX (by omega)
  have HFit : Hid (Deep 0 x → Fit 0 x) := fun h => fit_of hx h
  have h1 := fun w => feed_c 0 [] (by simp) (32 :: (litL x ++ [32])) (by rw [List.length_cons, List.length_append, List.length_singleton]; omega) w
  have h2 := fun w => feed_c 1 m (by omega) (32 :: (litL x ++ [32])) (by rw [List.length_cons, List.length_append, List.length_singleton]; omega) w
  rw [lit_around] at h1
  rw [lit_behind] at h2
  have h3 := Lib.hid (fun (hf : Fit 0 x) w hT => literal_c (32 :: (litL x ++ [32])) x hf (scan_lit x) (by rw [List.length_cons, List.length_append, List.length_singleton]; omega) w hT)
  have HT := Lib.hid hT
  have b1 : (⟨#[32]⟩ : ByteArray) ++ S (litL x) = S (32 :: litL x) := S_append [32] (litL x)
  have b2 : S (32 :: litL x) ++ (⟨#[32]⟩ : ByteArray) = S (32 :: (litL x ++ [32])) := S_append (32 :: litL x) [32]
  have z1 : (S (litL x)).size ≤ 1073741824 := by rw [size_S]; exact hlen
  have z2 : (S (32 :: litL x)).size ≤ 1073741825 := by rw [size_S, List.length_cons]; omega
  have q3 : S [] = ⟨#[]⟩ := rfl
  rw [q3] at h1 h2
  obtain ⟨W1, hW1⟩ : ∃ W1, W1 = W.alloc (.cells #[.int .i64 k2, .int .i64 n2, .string t2, .slice p2 m2 a2, .slice q2 c2 d2] 25) := ⟨_, rfl⟩
  have hb1 : Below W.heap.size W W1 := by rw [hW1]; exact (Below.refl _ W).alloc (Nat.le_refl _) _
  have D1 : W1.heap[W.heap.size]? = some (.cells #[.int .i64 k2, .int .i64 n2, .string t2, .slice p2 m2 a2, .slice q2 c2 d2] 25 (0, 0)) := by rw [hW1]; exact heap_alloc_new W _
  have hal1 := hal W1 hb1
  have HW1 := Lib.hid hW1
  rw [hW1] at hal1
  have H1 := Lib.hid (And.intro hb1 D1)
  have HCK := Lib.hid hchk
  have HLT := Lib.hid hlit
  generalize S (32 :: (litL x ++ [32])) = Y at h1 h2 h3 b2
  generalize S (32 :: litL x) = V at b1 b2 z2
  generalize S (litL x) = T at HLT b1 z1
  generalize S m = M at *
  clear hW1 hb1 D1 hal hx hT hchk hlit hlen hm hu q3
  go_enter Tryz.func3, Tryz.ntmps3
  go_wp2_with fail
  refine hal1.mono ?_
  clear hal1
  rintro e w2 ⟨rfl, hb2⟩
  rw [← HW1.out] at hb2
  have D2 := (hb2.block _ (Array.getElem?_eq_some_iff.1 H1.out.2).1).trans H1.out.2
  have B2 := H1.out.1.trans (hb2.mono H1.out.1.size)
  obtain ⟨y0, y1, y2, y3, y4⟩ := five_at D2
  have hchk := HCK.out w2 B2
  have H2 := Lib.hid (And.intro B2 D2)
  clear hb2 D2 B2
  go_wp2_with fail
  refine hchk.mono ?_
  clear hchk y0 y1 y2 y3 y4
  rintro e w3 ⟨r, rfl, hdp, hb3⟩
  have D3 := (hb3.block _ (Array.getElem?_eq_some_iff.1 H2.out.2).1).trans H2.out.2
  have B3 := H2.out.1.trans (Below.mono hb3 H2.out.1.size)
  obtain ⟨y0, y1, y2, y3, y4⟩ := five_at D3
  have hlit := HLT.out w3 B3
  have H3 := Lib.hid (And.intro B3 D3)
  clear hb3 D3 B3
  by_cases hr : r = 0
  rotate_left
  · have hrb : (r != 0) = true := by simp; exact hr
    clear hlit hdp
    go_wp2_with fail
    go_ret
    exact ⟨rfl, H3.out.1⟩
  subst hr
  have HF := Lib.hid (HFit.out (hdp rfl))
  clear hdp
  go_wp2_with fail
  refine hlit.mono ?_
  clear hlit y0 y1 y2 y3 y4
  rintro e w4 ⟨rfl, hb4⟩
  have B4 := Lib.hid (H3.out.1.trans (Below.mono hb4 H3.out.1.size))
  clear hb4
  go_wp2_with fail
  refine (h1 _).mono ?_
  rintro e w5 ⟨rfl, hb5⟩
  have B5 := Lib.hid (B4.out.trans (hb5.mono B4.out.size))
  clear hb5 h1
  go_wp2_with fail
  refine (h2 _).mono ?_
  rintro e w6 ⟨rfl, hb6⟩
  have B6 := Lib.hid (B5.out.trans (hb6.mono B5.out.size))
  have h31 := h3.out HF.out w6 (fun Z hZ => HT.out Z (B6.out.trans (hZ.mono B6.out.size)))
  clear hb6 h2
  go_wp2_with fail
  refine h31.mono ?_
  rintro e w7 ⟨rfl, hb7⟩
  have B7 := Lib.hid (B6.out.trans (hb7.mono B6.out.size))
  clear hb7 h31
  go_wp2_with fail
  go_ret
  exact ⟨rfl, B7.out⟩
end Go.Proofs.YtganmmkdcaphfaaGreatDoor.Jsc
