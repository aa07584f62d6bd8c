/-
  The law LexRemarks: a remark is left out; the texts around it are one.
-/
import Derived.Test.YtbchjmldjdhjiaaLxwLaws
namespace Go.Proofs.Ytbchjmldjdhjiaa.Lxw
open Go.RowKit Go.Proofs.Ytbchjmldjdhjiaa.Oct Go.Proofs.Ytbchjmldjdhjiaa.Lex

set_option maxHeartbeats 2000000 in
set_option maxRecDepth 100000 in
theorem law_remarks (W : World) (s0 s1 s2 : ByteArray) (h0 : s0.size ≤ 140737488351232) (h1 : s1.size ≤ 140737488351232) (h2 : s2.size ≤ 140737488351232) (hM : MaxAt W) :
    Calls Try.prog 6 #[.string s0, .string s1, .string s2] W fun e W' => e = .returned (.bool true) ∧ Below W.heap.size W W' := by
  obtain ⟨a, rfl⟩ : ∃ l, s0 = S l := ⟨s0.data.toList, (S_list s0).symm⟩
  obtain ⟨r, rfl⟩ : ∃ l, s1 = S l := ⟨s1.data.toList, (S_list s1).symm⟩
  obtain ⟨b, rfl⟩ : ∃ l, s2 = S l := ⟨s2.data.toList, (S_list s2).symm⟩
  have hsa : ((S a).size : Int) = (a.length : Int) := by rw [size_S]
  have hsb : ((S b).size : Int) = (b.length : Int) := by rw [size_S]
  have hsr : ((S r).size : Int) = (r.length : Int) := by rw [size_S]
  have hsrn : (S r).size = r.length := size_S r
  rw [size_S] at h0 h1 h2
  have hai : (a.length : Int) ≤ 140737488351232 := by omega
  have hbi : (b.length : Int) ≤ 140737488351232 := by omega
  have hri : (r.length : Int) ≤ 140737488351232 := by omega
  have hal := alive_c W hM
  have hoa := fun w => opened_c (a ++ [123]) (by simp; omega) w
  have hob := fun w => opened_c b (by omega) w
  have hap : S a ++ (⟨#[123]⟩ : ByteArray) = S (a ++ [123]) := S_append a [123]
  have HM := Lib.hid hM
  clear hM
  cases hqa : opB (a ++ [123]) with
  | true =>
    rw [hqa] at hoa
    clear hqa hob
    go_enter Try.func6, Try.ntmps6
    go_wp2_with (go_at_call 7; refine hal.mono ?_; rintro e w1 ⟨rfl, hb1⟩)
    refine (hoa _).mono ?_
    rintro e w1 ⟨rfl, rfl⟩
    go_wp2_with fail
    go_ret
    exact ⟨rfl, hb1⟩
  | false =>
    rw [hqa] at hoa
    cases hqb : opB b with
    | true =>
      rw [hqb] at hob
      clear hqa hqb
      go_enter Try.func6, Try.ntmps6
      go_wp2_with (go_at_call 7; refine hal.mono ?_; rintro e w1 ⟨rfl, hb1⟩)
      refine (hoa _).mono ?_
      rintro e w1 ⟨rfl, rfl⟩
      go_wp2_with fail
      refine (hob _).mono ?_
      rintro e w1 ⟨rfl, rfl⟩
      go_wp2_with fail
      go_ret
      exact ⟨rfl, hb1⟩
    | false =>
      rw [hqb] at hob
      by_cases hlong : 8192 < a.length + b.length + r.length
      · have hd : decide (8192 < (a.length : Int) + (b.length : Int) + (r.length : Int)) = true := decide_eq_true (by omega)
        have hd2 : 8192 < (a.length : Int) + (b.length : Int) + (r.length : Int) := by omega
        clear hqa hqb
        go_enter Try.func6, Try.ntmps6
        go_wp2_with (go_at_call 7; refine hal.mono ?_; rintro e w1 ⟨rfl, hb1⟩)
        refine (hoa _).mono ?_
        rintro e w1 ⟨rfl, rfl⟩
        go_wp2_with fail
        refine (hob _).mono ?_
        rintro e w1 ⟨rfl, rfl⟩
        go_wp2_with fail
        go_ret
        exact ⟨rfl, hb1⟩
      · have hd : decide (8192 < (a.length : Int) + (b.length : Int) + (r.length : Int)) = false := decide_eq_false (by omega)
        have hd2 : ¬ 8192 < (a.length : Int) + (b.length : Int) + (r.length : Int) := by omega
        have ka : (a.length : Int) ≤ 8192 := by omega
        have kb : (b.length : Int) ≤ 8192 := by omega
        have kr : (r.length : Int) ≤ 8192 := by omega
        have kall : a.length + b.length + r.length ≤ 8192 := by omega
        have HPl := Lib.hid (And.intro (op_plain hqa) (op_plain hqb))
        have e3 : (((S a ++ (⟨#[123, 123, 47, 42]⟩ : ByteArray)) ++ S r) ++ (⟨#[42, 47, 125, 125]⟩ : ByteArray)) ++ S b = S (a ++ 123 :: 123 :: (([47, 42] ++ r ++ [42, 47]) ++ 125 :: 125 :: b)) := by
          rw [show (⟨#[123, 123, 47, 42]⟩ : ByteArray) = S [123, 123, 47, 42] from rfl, show (⟨#[42, 47, 125, 125]⟩ : ByteArray) = S [42, 47, 125, 125] from rfl, S_append, S_append, S_append, S_append]
          congr 1
          simp
        have HE3 := Lib.hid e3
        have HAt := Lib.hid (fun k (h : k < r.length) => at_S r k h)
        have hn := num_c
        clear e3 hqa hqb hlong
        go_enter Try.func6, Try.ntmps6
        go_wp2_with (go_at_call 7; refine hal.mono ?_; rintro e w1 ⟨rfl, hb1⟩)
        refine (hoa _).mono ?_
        rintro e w1 ⟨rfl, rfl⟩
        go_wp2_with fail
        refine (hob _).mono ?_
        rintro e w1 ⟨rfl, rfl⟩
        go_wp2_with fail
        have HB1 := Lib.hid hb1
        clear hb1 hal hoa hob hap hd hd2
        go_loop [7] (fun i => ∃ k : Nat, k ≤ r.length ∧ i = .int .i64 k ∧ Hid (∀ c ∈ r.take k, c ≠ 42)) (fun i => r.length - (intOf i).toNat)
        case atStart => exact ⟨0, Nat.zero_le _, rfl, fun c hc => by simp at hc⟩
        case round =>
          obtain ⟨k, hk, rfl, hS⟩ := hrel
          have n0 : (0 : Int) ≤ (k : Int) := by omega
          have n1 : (k : Int) ≤ 8192 := by omega
          by_cases hlt : k < r.length
          · have hx := HAt.out k hlt
            have n2 : (k : Int) < (r.length : Int) := by omega
            have hd : decide ((k : Int) < (r.length : Int)) = true := decide_eq_true n2
            have hcb : ((r[k]).toNat : Int) ≤ 255 := by have := (r[k]).toNat_lt; omega
            by_cases hc : r[k] = 42
            · have e1 : ((r[k]).toNat : Int) = 42 := by rw [hc]; rfl
              clear hc
              generalize r[k] = c at *
              go_wp2_with fail
              go_ret
              exact ⟨rfl, HB1.out⟩
            · have e1 : (((r[k]).toNat : Int) == 42) = false := oct_ne (n := 42) hc (by decide)
              have n3 : ¬ ((r[k]).toNat : Int) = 42 := by rw [beq_eq_false_iff_ne] at e1; exact e1
              have HN : Hid (∀ c ∈ r.take (k + 1), c ≠ 42) := fun c hm => by
                rw [List.take_succ_eq_append_getElem hlt, List.mem_append, List.mem_singleton] at hm
                rcases hm with hm | hm
                · exact hS.out c hm
                · rw [hm]; exact hc
              clear hc hS
              generalize r[k] = c at *
              go_wp2_with fail
              go_round
              case rel => exact ⟨k + 1, by omega, by go_num, HN⟩
              case measure => simp [intOf]; omega
          · have hd : decide ((k : Int) < (r.length : Int)) = false := decide_eq_false (by omega)
            have n2 : ¬ (k : Int) < (r.length : Int) := by omega
            have hke : k = r.length := by omega
            obtain ⟨p, hp⟩ := lex_remarks a r b HPl.out.1 HPl.out.2 (by have := hS.out; rw [hke, List.take_length] at this; exact this)
            have hit := items_ok _ _ hp (by simp; omega) w1 (HM.out.kept HB1.out)
            rw [← HE3.out] at hit
            clear hp hS hke
            go_wp2_with fail
            refine hit.mono ?_
            clear hit
            rintro e w2 ⟨⟨v, rfl, ho⟩, hb2⟩
            have HB2 := Lib.hid (HB1.out.trans (hb2.mono HB1.out.size))
            obtain ⟨c, hc⟩ : ∃ c, c = a ++ b := ⟨_, rfl⟩
            have hapb : S a ++ S b = S c := by rw [hc, S_append]
            have hcl : (c.length : Int) ≤ 8192 := by rw [hc, List.length_append]; omega
            have hcz : ((S c).size : Int) = (c.length : Int) := by rw [size_S]
            rw [← hc] at ho
            clear hc hb2 HE3 HPl HAt
            by_cases hc0 : c = []
            · rw [show pieceL c p = [] from if_pos hc0] at ho
              obtain ⟨vp, vc, rfl⟩ := own_shape ho
              have he : c.isEmpty = true := by rw [hc0]; rfl
              clear hc0 ho
              go_wp2_with (go_at_call 10; refine (hn _ _).mono ?_; rintro e w4 ⟨rfl, rfl⟩)
              go_ret
              exact ⟨rfl, HB2.out⟩
            · rw [show pieceL c p = [⟨1, c, p⟩] from if_neg hc0] at ho
              obtain ⟨g, cap, rfl, hat⟩ := items_at ho (by simp)
              have hx := (hat 0 (by simp)).x
              replace hx : w2.cell? ⟨g, 0 * 3 + 1, none⟩ = some (.string (S c)) := hx
              have he : c.isEmpty = false := by
                cases c with
                | nil => exact absurd rfl hc0
                | cons x y => rfl
              clear hc0 ho hat
              go_wp2_with (go_at_call 10; refine (hn _ _).mono ?_; rintro e w4 ⟨rfl, rfl⟩)
              go_ret
              exact ⟨rfl, HB2.out⟩
end Go.Proofs.Ytbchjmldjdhjiaa.Lxw
