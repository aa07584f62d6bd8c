/-
  The law LexTexts: a text without actions is one piece; behind an action, too.
-/
import Derived.Test.YtbchjmldjdhjiaaLxwLaws
namespace Go.Proofs.Ytbchjmldjdhjiaa.Lxw
open Go.RowKit Go.Proofs.Ytbchjmldjdhjiaa.Oct Go.Proofs.Ytbchjmldjdhjiaa.Lex

set_option maxHeartbeats 1000000 in
set_option maxRecDepth 100000 in
theorem law_texts (W : World) (s : ByteArray) (hs : s.size ≤ 140737488351232) (hM : MaxAt W) :
    Calls Try.prog 4 #[.string s] W fun e W' => e = .returned (.bool true) ∧ Below W.heap.size W W' := by
  obtain ⟨l, rfl⟩ : ∃ l, s = S l := ⟨s.data.toList, (S_list s).symm⟩
  have hsz : ((S l).size : Int) = (l.length : Int) := by rw [size_S]
  have hsn : (S l).size = l.length := size_S l
  rw [hsn] at hs
  have hli : (l.length : Int) ≤ 140737488351232 := by omega
  have hal := alive_c W hM
  have hop := fun w => opened_c l (by omega) w
  have HM := Lib.hid hM
  clear hM
  cases hob : opB l with
  | true =>
    rw [hob] at hop
    clear hob
    go_enter Try.func4, Try.ntmps4
    go_wp2_with (first
      | (go_at_call 7; refine hal.mono ?_; rintro e w1 ⟨rfl, hb1⟩)
      | (go_at_call 12; refine (hop _).mono ?_; rintro e w2 ⟨rfl, rfl⟩))
    go_ret
    exact ⟨rfl, hb1⟩
  | false =>
    rw [hob] at hop
    by_cases hlong : 8192 < l.length
    · have hd : decide (8192 < (l.length : Int)) = true := decide_eq_true (by omega)
      have hd2 : 8192 < (l.length : Int) := by omega
      clear hob
      go_enter Try.func4, Try.ntmps4
      go_wp2_with (first
        | (go_at_call 7; refine hal.mono ?_; rintro e w1 ⟨rfl, hb1⟩)
        | (go_at_call 12; refine (hop _).mono ?_; rintro e w2 ⟨rfl, rfl⟩))
      go_ret
      exact ⟨rfl, hb1⟩
    · have hd : decide (8192 < (l.length : Int)) = false := decide_eq_false (by omega)
      have hd2 : ¬ 8192 < (l.length : Int) := by omega
      have hp := op_plain hob
      have hi1 := fun w hw => items_ok l _ (lex_text l hp) (by omega) w hw
      have hi2 := fun w hw => items_ok (123 :: 123 :: 46 :: 125 :: 125 :: l) _ (lex_dot l hp) (by simp; omega) w hw
      have hap : (⟨#[123, 123, 46, 125, 125]⟩ : ByteArray) ++ S l = S ([123, 123, 46, 125, 125] ++ l) := S_append [123, 123, 46, 125, 125] l
      have hn := num_c
      clear hob hp
      go_enter Try.func4, Try.ntmps4
      go_wp2_with (first
        | (go_at_call 7; refine hal.mono ?_; rintro e w1 ⟨rfl, hb1⟩; have HB1 := Lib.hid hb1; clear hb1)
        | (go_at_call 12; refine (hop _).mono ?_; rintro e w2 ⟨rfl, rfl⟩))
      refine (hi1 _ (HM.out.kept HB1.out)).mono ?_
      clear hi1
      rintro e w2 ⟨⟨v1, rfl, ho1⟩, hb2⟩
      have HB2 := Lib.hid (HB1.out.trans (hb2.mono HB1.out.size))
      have HO1 := Lib.hid ho1
      clear hb2 ho1 HB1
      go_wp2_with fail
      refine (hi2 _ (HM.out.kept HB2.out)).mono ?_
      clear hi2
      rintro e w3 ⟨⟨v2, rfl, ho2⟩, hb3⟩
      have HB3 := Lib.hid (HB2.out.trans (hb3.mono HB2.out.size))
      by_cases hl0 : l = []
      · subst hl0
        replace HO1 : Hid (ItR _ w2 v1 []) := HO1
        replace ho2 : ItR w2.heap.size w3 v2 [⟨2, [46], 0⟩] := ho2
        obtain ⟨p1, c1, rfl⟩ := own_shape HO1.out
        obtain ⟨p2, c2, rfl⟩ := own_shape ho2
        clear ho2 hb3 HO1
        go_wp2_with fail
        go_ret
        exact ⟨rfl, HB3.out⟩
      · replace HO1 : Hid (ItR _ w2 v1 (if l = [] then [] else [⟨1, l, 0⟩])) := HO1
        rw [if_neg hl0] at HO1
        rw [if_neg hl0] at ho2
        have hat1 := items_at HO1.out (by simp)
        obtain ⟨g1, c1, rfl, ha1⟩ := hat1
        obtain ⟨g2, c2, rfl, ha2⟩ := items_at ho2 (by simp)
        have x1 : w3.cell? ⟨g1, 0 * 3 + 1, none⟩ = some (.string (S l)) := ((ha1 0 (by simp)).keep hb3).x
        have x2 : w3.cell? ⟨g2, 1 * 3 + 1, none⟩ = some (.string (S l)) := (ha2 1 (by simp)).x
        have he : l.isEmpty = false := by
          cases l with
          | nil => exact absurd rfl hl0
          | cons c t => rfl
        clear ho2 hb3 HO1 ha1 ha2 hl0
        go_wp2_with (go_at_call 10; refine (hn _ _).mono ?_; rintro e w4 ⟨rfl, rfl⟩)
        go_ret
        exact ⟨rfl, HB3.out⟩
end Go.Proofs.Ytbchjmldjdhjiaa.Lxw
