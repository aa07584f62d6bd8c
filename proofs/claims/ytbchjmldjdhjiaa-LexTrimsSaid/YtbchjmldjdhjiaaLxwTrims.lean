/-
  The law LexTrims: an action that trims leaves out blanks on its sides, and nothing else.
-/
import Derived.Test.YtbchjmldjdhjiaaLxwLaws
namespace Go.Proofs.Ytbchjmldjdhjiaa.Lxw
open Go.RowKit Go.Proofs.Ytbchjmldjdhjiaa.Oct Go.Proofs.Ytbchjmldjdhjiaa.Lex

theorem back_snoc {x : List UInt8} {c : UInt8} (h : Lex.bl c = true) : backL (x ++ [c]) = backL x := by
  unfold backL
  rw [List.reverse_append]
  show ((c :: x.reverse).dropWhile Lex.bl).reverse = _
  rw [List.dropWhile_cons_of_pos h]
theorem back_end {x : List UInt8} {c : UInt8} (h : Lex.bl c = false) : backL (x ++ [c]) = x ++ [c] := by
  unfold backL
  rw [List.reverse_append]
  show ((c :: x.reverse).dropWhile Lex.bl).reverse = _
  rw [List.dropWhile_cons_of_neg (by rw [h]; simp)]
  simp
theorem front_cons {x : List UInt8} {c : UInt8} (h : Lex.bl c = true) : frontL (c :: x) = frontL x := by
  unfold frontL
  rw [List.dropWhile_cons_of_pos h]
theorem front_end {x : List UInt8} {c : UInt8} (h : Lex.bl c = false) : frontL (c :: x) = c :: x := by
  unfold frontL
  rw [List.dropWhile_cons_of_neg (by rw [h]; simp)]
/-- The pieces as the law writes them. -/
def tellI (its : List It) : List UInt8 := its.flatMap fun i => if i.k = 2 then [124] else i.x
theorem tell_take {its : List It} {k : Nat} (h : k < its.length) : tellI (its.take (k + 1)) = tellI (its.take k) ++ (if its[k].k = 2 then [124] else its[k].x) := by
  unfold tellI
  rw [List.take_succ_eq_append_getElem h, List.flatMap_append]
  simp
theorem tell_piece (t : List UInt8) (p : Nat) : tellI (pieceL t p) = t := by
  unfold tellI pieceL
  split
  · rename_i h; rw [h]; rfl
  · simp
theorem tell_all (x y : List UInt8) (p q n : Nat) : tellI (pieceL x p ++ [⟨2, [46, 120], n⟩] ++ pieceL y q) = x ++ [124] ++ y := by
  have h1 := tell_piece x p
  have h2 := tell_piece y q
  unfold tellI at h1 h2 ⊢
  rw [List.flatMap_append, List.flatMap_append, h1, h2]
  rfl

def lenOf : Value → Nat
  | .string s => s.size
  | _ => 0
set_option maxHeartbeats 2000000 in
set_option maxRecDepth 100000 in
theorem law_trims (W : World) (s r : ByteArray) (hs : s.size ≤ 140737488351232) (hr : r.size ≤ 140737488351232) (hM : MaxAt W) :
    Calls Try.prog 5 #[.string s, .string r] W fun e W' => e = .returned (.bool true) ∧ Below W.heap.size W W' := by
  obtain ⟨a, rfl⟩ : ∃ l, s = S l := ⟨s.data.toList, (S_list s).symm⟩
  obtain ⟨b, rfl⟩ : ∃ l, r = S l := ⟨r.data.toList, (S_list r).symm⟩
  have hsa : ((S a).size : Int) = (a.length : Int) := by rw [size_S]
  have hsb : ((S b).size : Int) = (b.length : Int) := by rw [size_S]
  rw [size_S] at hs hr
  have hai : (a.length : Int) ≤ 140737488351232 := by omega
  have hbi : (b.length : Int) ≤ 140737488351232 := by omega
  have hal := alive_c W hM
  have hoa := fun w => opened_c (a ++ [123]) (by simp; omega) w
  have hob := fun w => opened_c b (by omega) w
  have hap : S a ++ (⟨#[123]⟩ : ByteArray) = S (a ++ [123]) := S_append a [123]
  have HM := Lib.hid hM
  clear hM
  cases hqa : opB (a ++ [123]) with
  | true =>
    rw [hqa] at hoa
    clear hqa hob
    go_enter Try.func5, Try.ntmps5
    go_wp2_with (go_at_call 7; refine hal.mono ?_; rintro e w1 ⟨rfl, hb1⟩)
    refine (hoa _).mono ?_
    rintro e w1 ⟨rfl, rfl⟩
    go_wp2_with fail
    go_ret
    exact ⟨rfl, hb1⟩
  | false =>
    rw [hqa] at hoa
    cases hqb : opB b with
    | true =>
      rw [hqb] at hob
      clear hqa hqb
      go_enter Try.func5, Try.ntmps5
      go_wp2_with (go_at_call 7; refine hal.mono ?_; rintro e w1 ⟨rfl, hb1⟩)
      refine (hoa _).mono ?_
      rintro e w1 ⟨rfl, rfl⟩
      go_wp2_with fail
      refine (hob _).mono ?_
      rintro e w1 ⟨rfl, rfl⟩
      go_wp2_with fail
      go_ret
      exact ⟨rfl, hb1⟩
    | false =>
      rw [hqb] at hob
      by_cases hlong : 8192 < a.length + b.length
      · have hd : decide (8192 < (a.length : Int) + (b.length : Int)) = true := decide_eq_true (by omega)
        have hd2 : 8192 < (a.length : Int) + (b.length : Int) := by omega
        clear hqa hqb
        go_enter Try.func5, Try.ntmps5
        go_wp2_with (go_at_call 7; refine hal.mono ?_; rintro e w1 ⟨rfl, hb1⟩)
        refine (hoa _).mono ?_
        rintro e w1 ⟨rfl, rfl⟩
        go_wp2_with fail
        refine (hob _).mono ?_
        rintro e w1 ⟨rfl, rfl⟩
        go_wp2_with fail
        go_ret
        exact ⟨rfl, hb1⟩
      · have hd : decide (8192 < (a.length : Int) + (b.length : Int)) = false := decide_eq_false (by omega)
        have hd2 : ¬ 8192 < (a.length : Int) + (b.length : Int) := by omega
        have ka : (a.length : Int) ≤ 8192 := by omega
        have kb : (b.length : Int) ≤ 8192 := by omega
        have kla : a.length ≤ 8192 := by omega
        have klb : b.length ≤ 8192 := by omega
        have hi := lex_trims a b (op_plain hqa) (op_plain hqb)
        have e3 : (S a ++ (⟨#[123, 123, 45, 32, 46, 120, 32, 45, 125, 125]⟩ : ByteArray)) ++ S b = S (a ++ 123 :: 123 :: (trimI ++ 125 :: 125 :: b)) := by
          rw [show (⟨#[123, 123, 45, 32, 46, 120, 32, 45, 125, 125]⟩ : ByteArray) = S [123, 123, 45, 32, 46, 120, 32, 45, 125, 125] from rfl, S_append, S_append]
          congr 1
          simp
        have hit := fun w hw => items_ok (a ++ 123 :: 123 :: (trimI ++ 125 :: 125 :: b)) _ hi (by simp; omega) w hw
        rw [← e3] at hit
        obtain ⟨its, hits⟩ : ∃ its, its = pieceL (backL a) 0 ++ [⟨2, [46, 120], a.length⟩] ++ pieceL (frontL b) (a.length + 10 + skipN b) := ⟨_, rfl⟩
        have HT : Hid (tellI its = backL a ++ [124] ++ frontL b) := by show _ = _; rw [hits]; exact tell_all _ _ _ _ _
        have HNi : Hid (its.length ≤ 3 ∧ 0 < its.length) := by
          have h1 := piece_len (backL a) 0
          have h2 := piece_len (frontL b) (a.length + 10 + skipN b)
          refine ⟨?_, ?_⟩ <;> rw [hits] <;> simp only [List.length_append, List.length_singleton] <;> omega
        have HTl : Hid (∀ k, (tellI (its.take k)).length ≤ 20000) := fun k => by
          have h1 : tellI its = tellI (its.take k) ++ tellI (its.drop k) := by
            unfold tellI
            rw [← List.flatMap_append, List.take_append_drop]
          have h2 := congrArg List.length (HT.out.symm.trans h1)
          have h3 := back_len a
          have h4 : (frontL b).length ≤ b.length := by rw [front_drop, List.length_drop]; omega
          simp only [List.length_append, List.length_singleton] at h2
          omega
        have HXl : Hid (∀ k (h : k < its.length), its[k].x.length ≤ 20000) := fun k h => by
          have h3 := back_len a
          have h4 : (frontL b).length ≤ b.length := by rw [front_drop, List.length_drop]; omega
          have hmem := List.getElem_mem h
          have hall : ∀ i ∈ its, i.x.length ≤ 20000 := by
            rw [hits]
            intro i hi
            simp only [List.mem_append, List.mem_singleton] at hi
            rcases hi with (hi | hi) | hi
            · unfold pieceL at hi
              split at hi
              · cases hi
              · rw [List.mem_singleton] at hi; rw [hi]; show (backL a).length ≤ _; omega
            · rw [hi]; simp
            · unfold pieceL at hi
              split at hi
              · cases hi
              · rw [List.mem_singleton] at hi; rw [hi]; show (frontL b).length ≤ _; omega
          exact hall _ hmem
        rw [← hits] at hit
        have hn := num_c
        clear hi hits e3 hqa hqb hlong
        go_enter Try.func5, Try.ntmps5
        go_wp2_with (go_at_call 7; refine hal.mono ?_; rintro e w1 ⟨rfl, hb1⟩)
        refine (hoa _).mono ?_
        rintro e w1 ⟨rfl, rfl⟩
        go_wp2_with fail
        refine (hob _).mono ?_
        rintro e w1 ⟨rfl, rfl⟩
        have HB1 := Lib.hid hb1
        clear hb1
        go_wp2_with fail
        refine (hit _ (HM.out.kept HB1.out)).mono ?_
        clear hit
        rintro e w2 ⟨⟨v, rfl, ho⟩, hb2⟩
        have HB2 := Lib.hid (HB1.out.trans (hb2.mono HB1.out.size))
        obtain ⟨g, cap, rfl, hat⟩ := items_at ho HNi.out.2
        have HAt := Lib.hid hat
        clear hat ho hb2 HB1 hal hoa hob hap hd hd2
        go_wp2_with fail
        go_loop [8] (fun x => ∃ xl : List UInt8, x = .string (S xl) ∧ xl.length ≤ a.length ∧ Hid (backL a = backL xl)) (fun x => lenOf x)
        case atStart => exact ⟨a, rfl, Nat.le_refl _, rfl⟩
        case round =>
          obtain ⟨xl, rfl, hxl, hE⟩ := hrel
          have hsz : ((S xl).size : Int) = (xl.length : Int) := by rw [size_S]
          have hxn : (S xl).size = xl.length := size_S xl
          have hxi : (xl.length : Int) ≤ 8192 := by omega
          have HEnd : Hid (xl = [] ∨ ∃ x0 c, xl = x0 ++ [c]) := by
            rcases List.eq_nil_or_concat xl with h | ⟨x0, c, h⟩
            · exact .inl h
            · exact .inr ⟨x0, c, by rw [h, List.concat_eq_append]⟩
          rcases HEnd.out with he | ⟨x0, c, he⟩
          · have HF : Hid (backL a = xl) := by rw [he] at hE ⊢; exact hE
            have hz : (xl.length : Int) = 0 := by rw [he]; rfl
            have hd : decide (0 < (xl.length : Int)) = false := decide_eq_false (by omega)
            have hd2 : ¬ 0 < (xl.length : Int) := by omega
            have hz2 : xl.isEmpty = true := by rw [he]; rfl
            clear he HEnd hE hz
            go_wp2_with fail
            clear hd hd2 hz2 hsz hxn
            go_loop [9] (fun y => ∃ yl : List UInt8, y = .string (S yl) ∧ yl.length ≤ b.length ∧ Hid (frontL b = frontL yl)) (fun y => lenOf y)
            case atStart => exact ⟨b, rfl, Nat.le_refl _, rfl⟩
            case round =>
              obtain ⟨yl, rfl, hyl, hE⟩ := hrel
              have hyz : ((S yl).size : Int) = (yl.length : Int) := by rw [size_S]
              have hyn : (S yl).size = yl.length := size_S yl
              have hyi : (yl.length : Int) ≤ 8192 := by omega
              have HEnd : Hid (yl = [] ∨ ∃ d y0, yl = d :: y0) := by
                cases yl with
                | nil => exact .inl rfl
                | cons d y0 => exact .inr ⟨d, y0, rfl⟩
              rcases HEnd.out with he | ⟨d, y0, he⟩
              · have HG : Hid (frontL b = yl) := by rw [he] at hE ⊢; exact hE
                have hz : (yl.length : Int) = 0 := by rw [he]; rfl
                have hd : decide (0 < (yl.length : Int)) = false := decide_eq_false (by omega)
                have hd2 : ¬ 0 < (yl.length : Int) := by omega
                have hz2 : yl.isEmpty = true := by rw [he]; rfl
                clear he HEnd hE hz
                go_wp2_with fail
                clear hd hd2 hz2 hyz hyn
                go_loop [10, 11] (fun t i => ∃ k : Nat, k ≤ its.length ∧ t = .string (S (tellI (its.take k))) ∧ i = .int .i64 k) (fun _ i => its.length - (intOf i).toNat)
                case atStart => exact ⟨0, Nat.zero_le _, rfl, rfl⟩
                case round =>
                  obtain ⟨k, hk, rfl, rfl⟩ := hrel
                  have n0 : (0 : Int) ≤ (k : Int) := by omega
                  have n1 : (k : Int) ≤ 3 := by have := HNi.out.1; omega
                  obtain ⟨tl, htl⟩ : ∃ tl, tl = tellI (its.take k) := ⟨_, rfl⟩
                  have htz : ((S tl).size : Int) = (tl.length : Int) := by rw [size_S]
                  have htn : (tl.length : Int) ≤ 20000 := by have := HTl.out k; rw [← htl] at this; omega
                  by_cases hlt : k < its.length
                  · have hit := HAt.out k hlt
                    have hx := hit.x
                    have hkk := hit.k
                    have hxx := HXl.out k hlt
                    have n2 : (k : Int) < (its.length : Int) := by omega
                    have hd : decide ((k : Int) < (its.length : Int)) = true := decide_eq_true n2
                    have htt := tell_take hlt
                    rw [← htl] at htt ⊢
                    generalize its[k].x = x at hx htt hxx
                    generalize its[k].k = q at hkk htt
                    have hxz : ((S x).size : Int) = (x.length : Int) := by rw [size_S]
                    have hxb : (x.length : Int) ≤ 20000 := by omega
                    clear hit htl hxx
                    by_cases hq : q = 2
                    · rw [if_pos hq] at htt
                      have q1 : (q : Int) = 2 := by omega
                      have hap : S tl ++ (⟨#[124]⟩ : ByteArray) = S (tl ++ [124]) := S_append tl [124]
                      have HN := Lib.hid htt
                      clear hq htt hx
                      go_wp2_with fail
                      go_round
                      case rel => exact ⟨k + 1, by omega, by rw [HN.out], by go_num⟩
                      case measure => simp [intOf]; omega
                    · rw [if_neg hq] at htt
                      have q1 : ((q : Int) == 2) = false := by rw [beq_eq_false_iff_ne]; omega
                      have q2 : ¬ (q : Int) = 2 := by omega
                      have hap : S tl ++ S x = S (tl ++ x) := S_append tl x
                      have HN := Lib.hid htt
                      clear hq htt
                      go_wp2_with fail
                      go_round
                      case rel => exact ⟨k + 1, by omega, by rw [HN.out], by go_num⟩
                      case measure => simp [intOf]; omega
                  · have hke : k = its.length := by omega
                    have hd : decide ((k : Int) < (its.length : Int)) = false := decide_eq_false (by omega)
                    have n2 : ¬ (k : Int) < (its.length : Int) := by omega
                    have hte : tl = xl ++ [124] ++ yl := by rw [htl, hke, List.take_length, HT.out, HF.out, HG.out]
                    have hap1 : S xl ++ (⟨#[124]⟩ : ByteArray) = S (xl ++ [124]) := S_append xl [124]
                    have hap2 : S (xl ++ [124]) ++ S yl = S (xl ++ [124] ++ yl) := S_append _ _
                    rw [← htl, hte]
                    have hz1 : ((S xl).size : Int) ≤ 8192 := by rw [size_S]; omega
                    have hz2 : ((S yl).size : Int) ≤ 8192 := by rw [size_S]; omega
                    have hz3 : ((S (xl ++ [124])).size : Int) ≤ 8193 := by rw [size_S, List.length_append]; simp; omega
                    clear htl hte hke htn htz hlt n1 n0
                    go_wp2_with (go_at_call 10; refine (hn _ _).mono ?_; rintro e w4 ⟨rfl, rfl⟩)
                    go_ret
                    exact ⟨ret_bool (by simp), HB2.out⟩
              · have hl1 : yl.length = y0.length + 1 := by rw [he]; simp
                have hcut : (S yl).extract 1 yl.length = S y0 := by rw [cutFrom, he]; rfl
                have hpl : 0 < (S yl).size := by rw [hyn]; omega
                have h1 : (S yl)[0]'hpl = d := by
                  show yl[0]'(by omega) = d
                  simp only [he]
                  rfl
                have hb := lblank_c (d.toNat : Int) w2 (by omega) (by have := d.toNat_lt; omega)
                have hcb : (d.toNat : Int) ≤ 255 := by have := d.toNat_lt; omega
                have hd : decide (0 < (yl.length : Int)) = true := decide_eq_true (by omega)
                have hd2 : 0 < (yl.length : Int) := by omega
                have hd3 : (1 : Int) ≤ (yl.length : Int) := by omega
                have hp0 : 0 < yl.length := by omega
                cases hbc : Lex.bl d with
                | true =>
                  have hbc' : blankI (d.toNat : Int) = true := hbc
                  rw [hbc'] at hb
                  have HN : Hid (frontL b = frontL y0) := by rw [he, front_cons hbc] at hE; exact hE
                  have hx0 : y0.length ≤ b.length := by omega
                  have HL := Lib.hid hl1
                  clear he HEnd hE hbc hbc' hl1
                  go_wp2_with (go_at_call 13; refine hb.mono ?_; rintro e w3 ⟨rfl, rfl⟩)
                  go_round
                  case rel => exact ⟨y0, rfl, hx0, HN⟩
                  case measure =>
                    show (S y0).size < (S yl).size
                    rw [size_S, size_S, HL.out]
                    omega
                | false =>
                  have hbc' : blankI (d.toNat : Int) = false := hbc
                  rw [hbc'] at hb
                  have HG : Hid (frontL b = yl) := by rw [he, front_end hbc, ← he] at hE; exact hE
                  clear he HEnd hE hbc hbc' hl1
                  go_wp2_with (go_at_call 13; refine hb.mono ?_; rintro e w3 ⟨rfl, rfl⟩)
                  clear hd hd2 hd3 hp0 h1 hcut hb hcb hyz hyn
                  go_loop [10, 11] (fun t i => ∃ k : Nat, k ≤ its.length ∧ t = .string (S (tellI (its.take k))) ∧ i = .int .i64 k) (fun _ i => its.length - (intOf i).toNat)
                  case atStart => exact ⟨0, Nat.zero_le _, rfl, rfl⟩
                  case round =>
                    obtain ⟨k, hk, rfl, rfl⟩ := hrel
                    have n0 : (0 : Int) ≤ (k : Int) := by omega
                    have n1 : (k : Int) ≤ 3 := by have := HNi.out.1; omega
                    obtain ⟨tl, htl⟩ : ∃ tl, tl = tellI (its.take k) := ⟨_, rfl⟩
                    have htz : ((S tl).size : Int) = (tl.length : Int) := by rw [size_S]
                    have htn : (tl.length : Int) ≤ 20000 := by have := HTl.out k; rw [← htl] at this; omega
                    by_cases hlt : k < its.length
                    · have hit := HAt.out k hlt
                      have hx := hit.x
                      have hkk := hit.k
                      have hxx := HXl.out k hlt
                      have n2 : (k : Int) < (its.length : Int) := by omega
                      have hd : decide ((k : Int) < (its.length : Int)) = true := decide_eq_true n2
                      have htt := tell_take hlt
                      rw [← htl] at htt ⊢
                      generalize its[k].x = x at hx htt hxx
                      generalize its[k].k = q at hkk htt
                      have hxz : ((S x).size : Int) = (x.length : Int) := by rw [size_S]
                      have hxb : (x.length : Int) ≤ 20000 := by omega
                      clear hit htl hxx
                      by_cases hq : q = 2
                      · rw [if_pos hq] at htt
                        have q1 : (q : Int) = 2 := by omega
                        have hap : S tl ++ (⟨#[124]⟩ : ByteArray) = S (tl ++ [124]) := S_append tl [124]
                        have HN := Lib.hid htt
                        clear hq htt hx
                        go_wp2_with fail
                        go_round
                        case rel => exact ⟨k + 1, by omega, by rw [HN.out], by go_num⟩
                        case measure => simp [intOf]; omega
                      · rw [if_neg hq] at htt
                        have q1 : ((q : Int) == 2) = false := by rw [beq_eq_false_iff_ne]; omega
                        have q2 : ¬ (q : Int) = 2 := by omega
                        have hap : S tl ++ S x = S (tl ++ x) := S_append tl x
                        have HN := Lib.hid htt
                        clear hq htt
                        go_wp2_with fail
                        go_round
                        case rel => exact ⟨k + 1, by omega, by rw [HN.out], by go_num⟩
                        case measure => simp [intOf]; omega
                    · have hke : k = its.length := by omega
                      have hd : decide ((k : Int) < (its.length : Int)) = false := decide_eq_false (by omega)
                      have n2 : ¬ (k : Int) < (its.length : Int) := by omega
                      have hte : tl = xl ++ [124] ++ yl := by rw [htl, hke, List.take_length, HT.out, HF.out, HG.out]
                      have hap1 : S xl ++ (⟨#[124]⟩ : ByteArray) = S (xl ++ [124]) := S_append xl [124]
                      have hap2 : S (xl ++ [124]) ++ S yl = S (xl ++ [124] ++ yl) := S_append _ _
                      rw [← htl, hte]
                      have hz1 : ((S xl).size : Int) ≤ 8192 := by rw [size_S]; omega
                      have hz2 : ((S yl).size : Int) ≤ 8192 := by rw [size_S]; omega
                      have hz3 : ((S (xl ++ [124])).size : Int) ≤ 8193 := by rw [size_S, List.length_append]; simp; omega
                      clear htl hte hke htn htz hlt n1 n0
                      go_wp2_with (go_at_call 10; refine (hn _ _).mono ?_; rintro e w4 ⟨rfl, rfl⟩)
                      go_ret
                      exact ⟨ret_bool (by simp), HB2.out⟩
          · have hl1 : xl.length = x0.length + 1 := by rw [he]; simp
            have hcut : (S xl).extract 0 (xl.length - 1) = S x0 := by rw [cutTo, he]; simp
            have hpl : xl.length - 1 < (S xl).size := by rw [hxn]; omega
            have h1 : (S xl)[xl.length - 1]'hpl = c := by
              show xl[xl.length - 1]'(by omega) = c
              simp only [he]
              simp
            have hb := lblank_c (c.toNat : Int) w2 (by omega) (by have := c.toNat_lt; omega)
            have hcb : (c.toNat : Int) ≤ 255 := by have := c.toNat_lt; omega
            have j0 : (xl.length : Int) - 1 = ((xl.length - 1 : Nat) : Int) := by omega
            have j1 : ((xl.length - 1 : Nat) : Int) < (xl.length : Int) := by omega
            have j2 : (0 : Int) ≤ ((xl.length - 1 : Nat) : Int) := by omega
            have j3 : ((xl.length - 1 : Nat) : Int) ≤ (xl.length : Int) := by omega
            have hd : decide (0 < (xl.length : Int)) = true := decide_eq_true (by omega)
            have hd2 : 0 < (xl.length : Int) := by omega
            cases hbc : Lex.bl c with
            | true =>
              have hbc' : blankI (c.toNat : Int) = true := hbc
              rw [hbc'] at hb
              have HN : Hid (backL a = backL x0) := by rw [he, back_snoc hbc] at hE; exact hE
              have hx0 : x0.length ≤ a.length := by omega
              have HL := Lib.hid hl1
              clear he HEnd hE hbc hbc' hl1
              go_wp2_with (go_at_call 13; refine hb.mono ?_; rintro e w3 ⟨rfl, rfl⟩)
              go_round
              case rel => exact ⟨x0, rfl, hx0, HN⟩
              case measure =>
                show (S x0).size < (S xl).size
                rw [size_S, size_S, HL.out]
                omega
            | false =>
              have hbc' : blankI (c.toNat : Int) = false := hbc
              rw [hbc'] at hb
              have HF : Hid (backL a = xl) := by rw [he, back_end hbc, ← he] at hE; exact hE
              clear he HEnd hE hbc hbc' hl1
              go_wp2_with (go_at_call 13; refine hb.mono ?_; rintro e w3 ⟨rfl, rfl⟩)
              clear hd hd2 h1 hcut hb hcb j0 j1 j2 j3 hsz hxn
              go_loop [9] (fun y => ∃ yl : List UInt8, y = .string (S yl) ∧ yl.length ≤ b.length ∧ Hid (frontL b = frontL yl)) (fun y => lenOf y)
              case atStart => exact ⟨b, rfl, Nat.le_refl _, rfl⟩
              case round =>
                obtain ⟨yl, rfl, hyl, hE⟩ := hrel
                have hyz : ((S yl).size : Int) = (yl.length : Int) := by rw [size_S]
                have hyn : (S yl).size = yl.length := size_S yl
                have hyi : (yl.length : Int) ≤ 8192 := by omega
                have HEnd : Hid (yl = [] ∨ ∃ d y0, yl = d :: y0) := by
                  cases yl with
                  | nil => exact .inl rfl
                  | cons d y0 => exact .inr ⟨d, y0, rfl⟩
                rcases HEnd.out with he | ⟨d, y0, he⟩
                · have HG : Hid (frontL b = yl) := by rw [he] at hE ⊢; exact hE
                  have hz : (yl.length : Int) = 0 := by rw [he]; rfl
                  have hd : decide (0 < (yl.length : Int)) = false := decide_eq_false (by omega)
                  have hd2 : ¬ 0 < (yl.length : Int) := by omega
                  have hz2 : yl.isEmpty = true := by rw [he]; rfl
                  clear he HEnd hE hz
                  go_wp2_with fail
                  clear hd hd2 hz2 hyz hyn
                  go_loop [10, 11] (fun t i => ∃ k : Nat, k ≤ its.length ∧ t = .string (S (tellI (its.take k))) ∧ i = .int .i64 k) (fun _ i => its.length - (intOf i).toNat)
                  case atStart => exact ⟨0, Nat.zero_le _, rfl, rfl⟩
                  case round =>
                    obtain ⟨k, hk, rfl, rfl⟩ := hrel
                    have n0 : (0 : Int) ≤ (k : Int) := by omega
                    have n1 : (k : Int) ≤ 3 := by have := HNi.out.1; omega
                    obtain ⟨tl, htl⟩ : ∃ tl, tl = tellI (its.take k) := ⟨_, rfl⟩
                    have htz : ((S tl).size : Int) = (tl.length : Int) := by rw [size_S]
                    have htn : (tl.length : Int) ≤ 20000 := by have := HTl.out k; rw [← htl] at this; omega
                    by_cases hlt : k < its.length
                    · have hit := HAt.out k hlt
                      have hx := hit.x
                      have hkk := hit.k
                      have hxx := HXl.out k hlt
                      have n2 : (k : Int) < (its.length : Int) := by omega
                      have hd : decide ((k : Int) < (its.length : Int)) = true := decide_eq_true n2
                      have htt := tell_take hlt
                      rw [← htl] at htt ⊢
                      generalize its[k].x = x at hx htt hxx
                      generalize its[k].k = q at hkk htt
                      have hxz : ((S x).size : Int) = (x.length : Int) := by rw [size_S]
                      have hxb : (x.length : Int) ≤ 20000 := by omega
                      clear hit htl hxx
                      by_cases hq : q = 2
                      · rw [if_pos hq] at htt
                        have q1 : (q : Int) = 2 := by omega
                        have hap : S tl ++ (⟨#[124]⟩ : ByteArray) = S (tl ++ [124]) := S_append tl [124]
                        have HN := Lib.hid htt
                        clear hq htt hx
                        go_wp2_with fail
                        go_round
                        case rel => exact ⟨k + 1, by omega, by rw [HN.out], by go_num⟩
                        case measure => simp [intOf]; omega
                      · rw [if_neg hq] at htt
                        have q1 : ((q : Int) == 2) = false := by rw [beq_eq_false_iff_ne]; omega
                        have q2 : ¬ (q : Int) = 2 := by omega
                        have hap : S tl ++ S x = S (tl ++ x) := S_append tl x
                        have HN := Lib.hid htt
                        clear hq htt
                        go_wp2_with fail
                        go_round
                        case rel => exact ⟨k + 1, by omega, by rw [HN.out], by go_num⟩
                        case measure => simp [intOf]; omega
                    · have hke : k = its.length := by omega
                      have hd : decide ((k : Int) < (its.length : Int)) = false := decide_eq_false (by omega)
                      have n2 : ¬ (k : Int) < (its.length : Int) := by omega
                      have hte : tl = xl ++ [124] ++ yl := by rw [htl, hke, List.take_length, HT.out, HF.out, HG.out]
                      have hap1 : S xl ++ (⟨#[124]⟩ : ByteArray) = S (xl ++ [124]) := S_append xl [124]
                      have hap2 : S (xl ++ [124]) ++ S yl = S (xl ++ [124] ++ yl) := S_append _ _
                      rw [← htl, hte]
                      have hz1 : ((S xl).size : Int) ≤ 8192 := by rw [size_S]; omega
                      have hz2 : ((S yl).size : Int) ≤ 8192 := by rw [size_S]; omega
                      have hz3 : ((S (xl ++ [124])).size : Int) ≤ 8193 := by rw [size_S, List.length_append]; simp; omega
                      clear htl hte hke htn htz hlt n1 n0
                      go_wp2_with (go_at_call 10; refine (hn _ _).mono ?_; rintro e w4 ⟨rfl, rfl⟩)
                      go_ret
                      exact ⟨ret_bool (by simp), HB2.out⟩
                · have hl1 : yl.length = y0.length + 1 := by rw [he]; simp
                  have hcut : (S yl).extract 1 yl.length = S y0 := by rw [cutFrom, he]; rfl
                  have hpl : 0 < (S yl).size := by rw [hyn]; omega
                  have h1 : (S yl)[0]'hpl = d := by
                    show yl[0]'(by omega) = d
                    simp only [he]
                    rfl
                  have hb := lblank_c (d.toNat : Int) w2 (by omega) (by have := d.toNat_lt; omega)
                  have hcb : (d.toNat : Int) ≤ 255 := by have := d.toNat_lt; omega
                  have hd : decide (0 < (yl.length : Int)) = true := decide_eq_true (by omega)
                  have hd2 : 0 < (yl.length : Int) := by omega
                  have hd3 : (1 : Int) ≤ (yl.length : Int) := by omega
                  have hp0 : 0 < yl.length := by omega
                  cases hbc : Lex.bl d with
                  | true =>
                    have hbc' : blankI (d.toNat : Int) = true := hbc
                    rw [hbc'] at hb
                    have HN : Hid (frontL b = frontL y0) := by rw [he, front_cons hbc] at hE; exact hE
                    have hx0 : y0.length ≤ b.length := by omega
                    have HL := Lib.hid hl1
                    clear he HEnd hE hbc hbc' hl1
                    go_wp2_with (go_at_call 13; refine hb.mono ?_; rintro e w3 ⟨rfl, rfl⟩)
                    go_round
                    case rel => exact ⟨y0, rfl, hx0, HN⟩
                    case measure =>
                      show (S y0).size < (S yl).size
                      rw [size_S, size_S, HL.out]
                      omega
                  | false =>
                    have hbc' : blankI (d.toNat : Int) = false := hbc
                    rw [hbc'] at hb
                    have HG : Hid (frontL b = yl) := by rw [he, front_end hbc, ← he] at hE; exact hE
                    clear he HEnd hE hbc hbc' hl1
                    go_wp2_with (go_at_call 13; refine hb.mono ?_; rintro e w3 ⟨rfl, rfl⟩)
                    clear hd hd2 hd3 hp0 h1 hcut hb hcb hyz hyn
                    go_loop [10, 11] (fun t i => ∃ k : Nat, k ≤ its.length ∧ t = .string (S (tellI (its.take k))) ∧ i = .int .i64 k) (fun _ i => its.length - (intOf i).toNat)
                    case atStart => exact ⟨0, Nat.zero_le _, rfl, rfl⟩
                    case round =>
                      obtain ⟨k, hk, rfl, rfl⟩ := hrel
                      have n0 : (0 : Int) ≤ (k : Int) := by omega
                      have n1 : (k : Int) ≤ 3 := by have := HNi.out.1; omega
                      obtain ⟨tl, htl⟩ : ∃ tl, tl = tellI (its.take k) := ⟨_, rfl⟩
                      have htz : ((S tl).size : Int) = (tl.length : Int) := by rw [size_S]
                      have htn : (tl.length : Int) ≤ 20000 := by have := HTl.out k; rw [← htl] at this; omega
                      by_cases hlt : k < its.length
                      · have hit := HAt.out k hlt
                        have hx := hit.x
                        have hkk := hit.k
                        have hxx := HXl.out k hlt
                        have n2 : (k : Int) < (its.length : Int) := by omega
                        have hd : decide ((k : Int) < (its.length : Int)) = true := decide_eq_true n2
                        have htt := tell_take hlt
                        rw [← htl] at htt ⊢
                        generalize its[k].x = x at hx htt hxx
                        generalize its[k].k = q at hkk htt
                        have hxz : ((S x).size : Int) = (x.length : Int) := by rw [size_S]
                        have hxb : (x.length : Int) ≤ 20000 := by omega
                        clear hit htl hxx
                        by_cases hq : q = 2
                        · rw [if_pos hq] at htt
                          have q1 : (q : Int) = 2 := by omega
                          have hap : S tl ++ (⟨#[124]⟩ : ByteArray) = S (tl ++ [124]) := S_append tl [124]
                          have HN := Lib.hid htt
                          clear hq htt hx
                          go_wp2_with fail
                          go_round
                          case rel => exact ⟨k + 1, by omega, by rw [HN.out], by go_num⟩
                          case measure => simp [intOf]; omega
                        · rw [if_neg hq] at htt
                          have q1 : ((q : Int) == 2) = false := by rw [beq_eq_false_iff_ne]; omega
                          have q2 : ¬ (q : Int) = 2 := by omega
                          have hap : S tl ++ S x = S (tl ++ x) := S_append tl x
                          have HN := Lib.hid htt
                          clear hq htt
                          go_wp2_with fail
                          go_round
                          case rel => exact ⟨k + 1, by omega, by rw [HN.out], by go_num⟩
                          case measure => simp [intOf]; omega
                      · have hke : k = its.length := by omega
                        have hd : decide ((k : Int) < (its.length : Int)) = false := decide_eq_false (by omega)
                        have n2 : ¬ (k : Int) < (its.length : Int) := by omega
                        have hte : tl = xl ++ [124] ++ yl := by rw [htl, hke, List.take_length, HT.out, HF.out, HG.out]
                        have hap1 : S xl ++ (⟨#[124]⟩ : ByteArray) = S (xl ++ [124]) := S_append xl [124]
                        have hap2 : S (xl ++ [124]) ++ S yl = S (xl ++ [124] ++ yl) := S_append _ _
                        rw [← htl, hte]
                        have hz1 : ((S xl).size : Int) ≤ 8192 := by rw [size_S]; omega
                        have hz2 : ((S yl).size : Int) ≤ 8192 := by rw [size_S]; omega
                        have hz3 : ((S (xl ++ [124])).size : Int) ≤ 8193 := by rw [size_S, List.length_append]; simp; omega
                        clear htl hte hke htn htz hlt n1 n0
                        go_wp2_with (go_at_call 10; refine (hn _ _).mono ?_; rintro e w4 ⟨rfl, rfl⟩)
                        go_ret
                        exact ⟨ret_bool (by simp), HB2.out⟩
end Go.Proofs.Ytbchjmldjdhjiaa.Lxw
