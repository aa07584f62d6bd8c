/-
  Part 20: PwRef2, PwRef3.
-/
import Derived.Test.YtmccbcficbbidaaGreatDoorPwAllP19
import Derived.Test.YtmccbcficbbidaaGreatDoorPwAllP11
import Derived.Test.YtmccbcficbbidaaGreatDoorPwAllP13
import Derived.Test.YtmccbcficbbidaaGreatDoorPwAllP18
/-
  Contract of the page's str: a text in quotes.
-/
namespace Go.Proofs.YtmccbcficbbidaaGreatDoor.Pwr
open Go.RowKit Go.Proofs.YtmccbcficbbidaaGreatDoor.Oct Go.Proofs.YtmccbcficbbidaaGreatDoor.Lex Go.Proofs.YtmccbcficbbidaaGreatDoor.Lxw

def strR (u : List UInt8) : Option (List UInt8 × List UInt8) → Option (List UInt8 × List UInt8)
  | none => none
  | some (y, r) => some (u ++ y, r)
theorem strR_nil (o : Option (List UInt8 × List UInt8)) : strR [] o = o := by
  cases o with
  | none => rfl
  | some x => rfl
theorem strR_step (u : List UInt8) (c : UInt8) (o : Option (List UInt8 × List UInt8)) : strR u (o.map fun x => (c :: x.1, x.2)) = strR (u ++ [c]) o := by
  cases o with
  | none => rfl
  | some x => show some _ = some _; simp
/-- What stands at a place of a text. -/
theorem str_at (l : List UInt8) (j : Nat) :
    (¬ j < l.length ∧ strL (l.drop j) = none) ∨ ∃ hj : j < l.length,
      (l[j] = 34 ∧ strL (l.drop j) = some ([], l.drop (j + 1))) ∨ (l[j] = 10 ∧ strL (l.drop j) = none) ∨
      (l[j] = 92 ∧ ¬ j + 1 < l.length ∧ strL (l.drop j) = none) ∨
      (l[j] = 92 ∧ ∃ hj1 : j + 1 < l.length,
        (¬ (l[j + 1] = 110 ∨ l[j + 1] = 116 ∨ l[j + 1] = 92 ∨ l[j + 1] = 34) ∧ strL (l.drop j) = none) ∨
        (l[j + 1] = 110 ∧ strL (l.drop j) = (strL (l.drop (j + 2))).map fun x => (10 :: x.1, x.2)) ∨
        (l[j + 1] = 116 ∧ strL (l.drop j) = (strL (l.drop (j + 2))).map fun x => (9 :: x.1, x.2)) ∨
        (l[j + 1] = 92 ∧ strL (l.drop j) = (strL (l.drop (j + 2))).map fun x => (92 :: x.1, x.2)) ∨
        (l[j + 1] = 34 ∧ strL (l.drop j) = (strL (l.drop (j + 2))).map fun x => (34 :: x.1, x.2))) ∨
      (l[j] ≠ 34 ∧ l[j] ≠ 10 ∧ l[j] ≠ 92 ∧ strL (l.drop j) = (strL (l.drop (j + 1))).map fun x => (l[j] :: x.1, x.2)) := by
  by_cases hj : j < l.length
  · refine .inr ⟨hj, ?_⟩
    by_cases h34 : l[j] = 34
    · refine .inl ⟨h34, ?_⟩
      rw [List.drop_eq_getElem_cons hj, h34]
      simp [strL]
    · by_cases h10 : l[j] = 10
      · refine .inr (.inl ⟨h10, ?_⟩)
        rw [List.drop_eq_getElem_cons hj, h10]
        simp [strL]
      · by_cases h92 : l[j] = 92
        · by_cases hj1 : j + 1 < l.length
          · refine .inr (.inr (.inr (.inl ⟨h92, hj1, ?_⟩)))
            have e : strL (l.drop j) = if l[j + 1] = 110 then (strL (l.drop (j + 2))).map fun x => (10 :: x.1, x.2) else if l[j + 1] = 116 then (strL (l.drop (j + 2))).map fun x => (9 :: x.1, x.2)
                else if l[j + 1] = 92 ∨ l[j + 1] = 34 then (strL (l.drop (j + 2))).map fun x => (l[j + 1] :: x.1, x.2) else none := by
              rw [List.drop_eq_getElem_cons hj, h92, List.drop_eq_getElem_cons hj1, str_esc]
            by_cases d1 : l[j + 1] = 110
            · exact .inr (.inl ⟨d1, by rw [e, if_pos d1]⟩)
            · by_cases d2 : l[j + 1] = 116
              · exact .inr (.inr (.inl ⟨d2, by rw [e, if_neg d1, if_pos d2]⟩))
              · by_cases d3 : l[j + 1] = 92
                · exact .inr (.inr (.inr (.inl ⟨d3, by rw [e, if_neg d1, if_neg d2, if_pos (.inl d3), d3]⟩)))
                · by_cases d4 : l[j + 1] = 34
                  · exact .inr (.inr (.inr (.inr ⟨d4, by rw [e, if_neg d1, if_neg d2, if_pos (.inr d4), d4]⟩)))
                  · refine .inl ⟨by simp [d1, d2, d3, d4], ?_⟩
                    rw [e, if_neg d1, if_neg d2, if_neg (by simp [d3, d4])]
          · refine .inr (.inr (.inl ⟨h92, hj1, ?_⟩))
            rw [List.drop_eq_getElem_cons hj, h92, List.drop_of_length_le (by omega)]
            simp [strL]
        · refine .inr (.inr (.inr (.inr ⟨h34, h10, h92, ?_⟩)))
          rw [List.drop_eq_getElem_cons hj, str_one _ _ h92 h34 h10]
  · refine .inl ⟨hj, ?_⟩
    rw [List.drop_of_length_le (by omega)]
    rfl
/-- What str answers. -/
def StrTo (l : List UInt8) (r : Option (List UInt8 × List UInt8)) (e : Ending) : Prop :=
  (∃ x rest, r = some (x, rest) ∧ x.length ≤ 4096 ∧ e = .returned (.tuple #[.string (S x), .int .i64 ((l.length - rest.length : Nat) : Int), .int .i64 0, .int .i64 0])) ∨
  ((r = none ∨ ∃ x rest, r = some (x, rest) ∧ 4096 < x.length) ∧ ∃ (n p : Int), n ≠ 0 ∧ e = .returned (.tuple #[.string ⟨#[]⟩, .int .i64 0, .int .i64 n, .int .i64 p]))
theorem StrTo.bad {l : List UInt8} {r : Option (List UInt8 × List UInt8)} {n p : Int} (h : r = none ∨ ∃ x rest, r = some (x, rest) ∧ 4096 < x.length) (hn : n ≠ 0 := by decide) : StrTo l r (.returned (.tuple #[.string ⟨#[]⟩, .int .i64 0, .int .i64 n, .int .i64 p])) := .inr ⟨h, n, p, hn, rfl⟩
theorem map_len (u : List UInt8) : (u.map bv).length = u.length := List.length_map _
/-- Behind an append of one octet. -/
theorem put_own {w wr w1 : World} {B : Nat} {v v' : Value} {u : List UInt8} {c : UInt8} {o : Obj} (hrow : wr.ownsRow B 5 1 v u.length (u.map bv)) (hbel : Below B w wr) (hB : B ≤ wr.heap.size)
    (hown : w1.ownsRow B 5 1 v' (u.length + 1) (u.map bv ++ [bv c])) (hgrow : (wr.alloc o).grownBy w1 v.ownBlock) :
    w1.ownsRow B 5 1 v' (u ++ [c]).length ((u ++ [c]).map bv) ∧ Below B w w1 := by
  refine ⟨?_, (hbel.alloc hB _).grown hgrow (by simp; omega) (own_base hrow)⟩
  rw [List.length_append, List.length_singleton, List.map_append]
  exact hown
set_option maxHeartbeats 2000000 in
set_option maxRecDepth 100000 in
theorem rstr_c (l : List UInt8) (hl : l.length ≤ 4194304) (k0 : Nat) (hk0 : k0 < l.length) (w : World) :
    Calls Tryz.prog 95 #[.string (S l), .int .i64 (k0 : Int)] w fun e w' => StrTo l (strL (l.drop (k0 + 1))) e ∧ Below w.heap.size w w' := by
  obtain ⟨iu, hi, hz0, hz1, hz2⟩ := info_parts info_u8
  have hsz : ((S l).size : Int) = (l.length : Int) := by rw [size_S]
  have hsn : (S l).size = l.length := size_S l
  have HAt := Lib.hid (fun k (h : k < l.length) => at_S l k h)
  have HHas := Lib.hid (fun (c : UInt8) W => rhas_c (S [110, 116, 92, 34]) c (by decide) W)
  obtain ⟨r, hr⟩ : ∃ r, r = strL (l.drop (k0 + 1)) := ⟨_, rfl⟩
  obtain ⟨m, hm⟩ : ∃ m, m = k0 + 1 := ⟨_, rfl⟩
  have hmi : (k0 : Int) + 1 = (m : Int) := by omega
  have hml : m ≤ l.length := by omega
  rw [← hr]
  rw [← hm] at hr
  have HR := Lib.hid hr
  have q0 : (k0 : Int) ≤ 4194304 := by omega
  have q1 : (0 : Int) ≤ (k0 : Int) := by omega
  clear hr hm hk0
  go_enter Tryz.func95, Tryz.ntmps95
  go_wp2_with fail
  go_loopw [8, 9, 10] (fun v i _ wr => ∃ (k : Nat) (u : List UInt8), k ≤ l.length ∧ u.length ≤ k ∧ i = .int .i64 k ∧ Hid (r = strR u (strL (l.drop k))) ∧ Hid (wr.ownsRow w.heap.size 5 1 v u.length (u.map bv)) ∧ Hid (Below w.heap.size w wr)) (fun _ i _ _ => l.length - (intOf i).toNat)
  case atStart => exact ⟨m, [], hml, Nat.zero_le _, rfl, by rw [strR_nil]; exact HR.out, World.ownsRow_nil _ _ _ _, Below.refl _ _⟩
  case round =>
    clear HR
    obtain ⟨k, u, hk, huk, rfl, hE, hrow, hbel⟩ := hrel
    have i0 : (0 : Int) ≤ (k : Int) := by omega
    have i1 : (k : Int) ≤ 4194304 := by omega
    have hB : w.heap.size ≤ wr.heap.size := hbel.out.size
    obtain ⟨vp, vc, rfl⟩ := own_shape hrow.out
    rcases str_at l k with ⟨g1, g2⟩ | ⟨hkl, hc⟩
    · have hd : decide ((k : Int) < (l.length : Int)) = false := decide_eq_false (by omega)
      have hd2 : decide (k < l.length) = false := decide_eq_false g1
      have HX : Hid (r = none) := by show _ = _; rw [hE.out, g2]; rfl
      clear g1 g2 hE
      go_wp2_with fail
      refine bodyPost_ret (v := .tuple #[.string ⟨#[]⟩, .int .i64 0, .int .i64 33, .int .i64 k0]) (by simp [results, Tryz.results95, go_sem]) rfl ?_
      exact ⟨StrTo.bad (.inl HX.out), hbel.out⟩
    · have h1 := HAt.out k hkl
      have i2 : (k : Int) < (l.length : Int) := by omega
      have hd : decide ((k : Int) < (l.length : Int)) = true := decide_eq_true i2
      obtain ⟨m1, hm1⟩ : ∃ m, m = k + 1 := ⟨_, rfl⟩
      obtain ⟨m2, hm2⟩ : ∃ m, m = k + 2 := ⟨_, rfl⟩
      have j1 : (k : Int) + 1 = (m1 : Int) := by omega
      have j2 : (m1 : Int) + 1 = (m2 : Int) := by omega
      have j3 : (m1 : Int) ≤ 4194304 := by omega
      rw [← hm1, ← hm2] at hc
      rcases hc with ⟨hq, g2⟩ | ⟨hq, g2⟩ | ⟨hq, hx1, g2⟩ | ⟨hq, hx1, hc⟩ | ⟨n34, n10, n92, g2⟩
      · have e1 : ((l[k]).toNat : Int) = 34 := by rw [hq]; rfl
        have HX : Hid (r = some (u, l.drop m1)) := by
          show _ = _
          rw [hE.out, g2]
          show some (u ++ [], _) = _
          rw [List.append_nil]
        have HM : Hid (l.length - (l.drop m1).length = m1) := by show _ = _; rw [List.length_drop]; omega
        have hcv := conv_own hrow.out
        clear hq g2 hE hm1 hm2
        by_cases hx : u.length ≤ 4096
        · have hx2 : ¬ (4096 : Int) < (u.length : Int) := by omega
          have hx3 : decide ((4096 : Int) < (u.length : Int)) = false := decide_eq_false hx2
          have HU := Lib.hid hx
          clear hx
          go_wp2_with fail
          refine bodyPost_ret (v := .tuple #[.string (S u), .int .i64 (m1 : Int), .int .i64 0, .int .i64 0]) (by simp [results, Tryz.results95, go_sem]) rfl ?_
          exact ⟨.inl ⟨u, _, HX.out, HU.out, by rw [HM.out]⟩, hbel.out⟩
        · have hx2 : (4096 : Int) < (u.length : Int) := by omega
          have hx3 : decide ((4096 : Int) < (u.length : Int)) = true := decide_eq_true hx2
          have HU := Lib.hid hx
          clear hx
          go_wp2_with fail
          refine bodyPost_ret (v := .tuple #[.string ⟨#[]⟩, .int .i64 0, .int .i64 5, .int .i64 k0]) (by simp [results, Tryz.results95, go_sem]) rfl ?_
          exact ⟨StrTo.bad (.inr ⟨u, _, HX.out, by have := HU.out; omega⟩), hbel.out⟩
      · have e1 : ((l[k]).toNat : Int) = 10 := by rw [hq]; rfl
        have HX : Hid (r = none) := by show _ = _; rw [hE.out, g2]; rfl
        clear hq g2 hE hm1 hm2
        go_wp2_with fail
        refine bodyPost_ret (v := .tuple #[.string ⟨#[]⟩, .int .i64 0, .int .i64 33, .int .i64 k]) (by simp [results, Tryz.results95, go_sem]) rfl ?_
        exact ⟨StrTo.bad (.inl HX.out), hbel.out⟩
      · have e1 : ((l[k]).toNat : Int) = 92 := by rw [hq]; rfl
        have HX : Hid (r = none) := by show _ = _; rw [hE.out, g2]; rfl
        have hd3 : (l.length : Int) ≤ (m1 : Int) := by omega
        have hd4 : decide ((l.length : Int) ≤ (m1 : Int)) = true := decide_eq_true hd3
        have hd5 : decide (l.length ≤ m1) = true := decide_eq_true (by omega)
        clear hq g2 hE hm1 hm2 hx1
        go_wp2_with fail
        refine bodyPost_ret (v := .tuple #[.string ⟨#[]⟩, .int .i64 0, .int .i64 33, .int .i64 k]) (by simp [results, Tryz.results95, go_sem]) rfl ?_
        exact ⟨StrTo.bad (.inl HX.out), hbel.out⟩
      · have e1 : ((l[k]).toNat : Int) = 92 := by rw [hq]; rfl
        have hx1 : m1 < l.length := by omega
        have h2 := HAt.out m1 hx1
        have hd3 : ¬ (l.length : Int) ≤ (m1 : Int) := by omega
        have hd4 : decide ((l.length : Int) ≤ (m1 : Int)) = false := decide_eq_false hd3
        have hd5 : decide (l.length ≤ m1) = false := decide_eq_false (by omega)
        have hd6 : (m1 : Int) < (l.length : Int) := by omega
        have hcb : ((l[m1]).toNat : Int) ≤ 255 := by have := (l[m1]).toNat_lt; omega
        have hhas := HHas.out l[m1]
        have hc : (¬ (l[m1] = 110 ∨ l[m1] = 116 ∨ l[m1] = 92 ∨ l[m1] = 34) ∧ strL (l.drop k) = none) ∨
            (l[m1] = 110 ∧ strL (l.drop k) = (strL (l.drop m2)).map fun x => (10 :: x.1, x.2)) ∨
            (l[m1] = 116 ∧ strL (l.drop k) = (strL (l.drop m2)).map fun x => (9 :: x.1, x.2)) ∨
            (l[m1] = 92 ∧ strL (l.drop k) = (strL (l.drop m2)).map fun x => (92 :: x.1, x.2)) ∨
            (l[m1] = 34 ∧ strL (l.drop k) = (strL (l.drop m2)).map fun x => (34 :: x.1, x.2)) := hc
        have hm2l : m2 ≤ l.length := by omega
        have hum : u.length + 1 ≤ m2 := by omega
        have hkm : k < m2 := by omega
        clear hq hm1 hm2
        rcases hc with ⟨hno, g2⟩ | hc
        · have HX : Hid (r = none) := by show _ = _; rw [hE.out, g2]; rfl
          have hb : hasB [110, 116, 92, 34] l[m1] = false := by
            unfold hasB
            simp only [List.contains_cons, List.contains_nil, Bool.or_false, Bool.or_eq_false_iff, beq_eq_false_iff_ne]
            exact ⟨fun e => hno (.inl e), fun e => hno (.inr (.inl e)), fun e => hno (.inr (.inr (.inl e))), fun e => hno (.inr (.inr (.inr e)))⟩
          rw [hb] at hhas
          replace hhas : ∀ W, Calls Tryz.prog 117 #[.string ⟨#[110, 116, 92, 34]⟩, .int .u8 ((l[m1]).toNat : Int)] W fun e w' => e = .returned (.bool false) ∧ W = w' := hhas
          clear hno g2 hE hb
          go_wp2_with (go_at_call 117; refine (hhas _).mono ?_; rintro e w' ⟨rfl, rfl⟩)
          refine bodyPost_ret (v := .tuple #[.string ⟨#[]⟩, .int .i64 0, .int .i64 33, .int .i64 k]) (by simp [results, Tryz.results95, go_sem]) rfl ?_
          exact ⟨StrTo.bad (.inl HX.out), hbel.out⟩
        · have key : ∃ (c d : UInt8), l[m1] = d ∧ ((d = 110 ∧ c = 10) ∨ (d = 116 ∧ c = 9) ∨ (d = 92 ∧ c = 92) ∨ (d = 34 ∧ c = 34)) ∧ r = strR (u ++ [c]) (strL (l.drop m2)) := by
            rcases hc with ⟨e, g2⟩ | ⟨e, g2⟩ | ⟨e, g2⟩ | ⟨e, g2⟩
            · exact ⟨10, _, rfl, .inl ⟨e, rfl⟩, by rw [hE.out, g2, strR_step]⟩
            · exact ⟨9, _, rfl, .inr (.inl ⟨e, rfl⟩), by rw [hE.out, g2, strR_step]⟩
            · exact ⟨92, _, rfl, .inr (.inr (.inl ⟨e, rfl⟩)), by rw [hE.out, g2, strR_step]⟩
            · exact ⟨34, _, rfl, .inr (.inr (.inr ⟨e, rfl⟩)), by rw [hE.out, g2, strR_step]⟩
          obtain ⟨c, d, hd, hcd, hX⟩ := key
          have HX := Lib.hid hX
          clear hX hE hc
          rw [hd] at hhas h2 hcb
          clear hd
          rcases hcd with ⟨rfl, rfl⟩ | ⟨rfl, rfl⟩ | ⟨rfl, rfl⟩ | ⟨rfl, rfl⟩
          · have e2 : ((110 : UInt8).toNat : Int) = 110 := rfl
            rw [e2, show hasB [110, 116, 92, 34] 110 = true from by decide] at hhas
            replace hhas : ∀ W, Calls Tryz.prog 117 #[.string ⟨#[110, 116, 92, 34]⟩, .int .u8 110] W fun e w' => e = .returned (.bool true) ∧ W = w' := hhas
            have hx : Hid ((10 : Int) = ((10 : UInt8).toNat : Int)) := rfl
            clear hcb e2
            go_wp2_with (first
              | (go_at_call 117; refine (hhas _).mono ?_; rintro e w' ⟨rfl, rfl⟩)
              | (at_builtin; refine wpList_append_own _ rfl _ _ 58 rfl w.heap.size 5 iu (.int .u8 0) 1 1 Tryz.underlying58 hi hz0 hz1 hz2 rfl (by decide) _ _ _ rfl (hrow.out.alloc _) ⟨wr.heap.size, 0, none⟩ 1 1 [bv 10] rfl rfl (push_cell hx.out) push_one (by unfold maxLen; omega) (by omega) (by simp; omega) ?_))
            intro v' w1 hown' hgrow _
            have HO := Lib.hid (put_own (c := 10) hrow.out hbel.out hB hown' hgrow)
            clear hown' hgrow hrow hbel
            go_wp2_with fail
            go_roundw
            case rel => exact ⟨m2, u ++ [10], hm2l, by rw [List.length_append, List.length_singleton]; exact hum, by go_num, HX.out, HO.out.1, HO.out.2⟩
            case measure => simp [intOf]; omega
          · have e2 : ((116 : UInt8).toNat : Int) = 116 := rfl
            rw [e2, show hasB [110, 116, 92, 34] 116 = true from by decide] at hhas
            replace hhas : ∀ W, Calls Tryz.prog 117 #[.string ⟨#[110, 116, 92, 34]⟩, .int .u8 116] W fun e w' => e = .returned (.bool true) ∧ W = w' := hhas
            have hx : Hid ((9 : Int) = ((9 : UInt8).toNat : Int)) := rfl
            clear hcb e2
            go_wp2_with (first
              | (go_at_call 117; refine (hhas _).mono ?_; rintro e w' ⟨rfl, rfl⟩)
              | (at_builtin; refine wpList_append_own _ rfl _ _ 58 rfl w.heap.size 5 iu (.int .u8 0) 1 1 Tryz.underlying58 hi hz0 hz1 hz2 rfl (by decide) _ _ _ rfl (hrow.out.alloc _) ⟨wr.heap.size, 0, none⟩ 1 1 [bv 9] rfl rfl (push_cell hx.out) push_one (by unfold maxLen; omega) (by omega) (by simp; omega) ?_))
            intro v' w1 hown' hgrow _
            have HO := Lib.hid (put_own (c := 9) hrow.out hbel.out hB hown' hgrow)
            clear hown' hgrow hrow hbel
            go_wp2_with fail
            go_roundw
            case rel => exact ⟨m2, u ++ [9], hm2l, by rw [List.length_append, List.length_singleton]; exact hum, by go_num, HX.out, HO.out.1, HO.out.2⟩
            case measure => simp [intOf]; omega
          · have e2 : ((92 : UInt8).toNat : Int) = 92 := rfl
            rw [e2, show hasB [110, 116, 92, 34] 92 = true from by decide] at hhas
            replace hhas : ∀ W, Calls Tryz.prog 117 #[.string ⟨#[110, 116, 92, 34]⟩, .int .u8 92] W fun e w' => e = .returned (.bool true) ∧ W = w' := hhas
            have hx : Hid ((92 : Int) = ((92 : UInt8).toNat : Int)) := rfl
            clear hcb e2
            go_wp2_with (first
              | (go_at_call 117; refine (hhas _).mono ?_; rintro e w' ⟨rfl, rfl⟩)
              | (at_builtin; refine wpList_append_own _ rfl _ _ 58 rfl w.heap.size 5 iu (.int .u8 0) 1 1 Tryz.underlying58 hi hz0 hz1 hz2 rfl (by decide) _ _ _ rfl (hrow.out.alloc _) ⟨wr.heap.size, 0, none⟩ 1 1 [bv 92] rfl rfl (push_cell hx.out) push_one (by unfold maxLen; omega) (by omega) (by simp; omega) ?_))
            intro v' w1 hown' hgrow _
            have HO := Lib.hid (put_own (c := 92) hrow.out hbel.out hB hown' hgrow)
            clear hown' hgrow hrow hbel
            go_wp2_with fail
            go_roundw
            case rel => exact ⟨m2, u ++ [92], hm2l, by rw [List.length_append, List.length_singleton]; exact hum, by go_num, HX.out, HO.out.1, HO.out.2⟩
            case measure => simp [intOf]; omega
          · have e2 : ((34 : UInt8).toNat : Int) = 34 := rfl
            rw [e2, show hasB [110, 116, 92, 34] 34 = true from by decide] at hhas
            replace hhas : ∀ W, Calls Tryz.prog 117 #[.string ⟨#[110, 116, 92, 34]⟩, .int .u8 34] W fun e w' => e = .returned (.bool true) ∧ W = w' := hhas
            have hx : Hid ((34 : Int) = ((34 : UInt8).toNat : Int)) := rfl
            clear hcb e2
            go_wp2_with (first
              | (go_at_call 117; refine (hhas _).mono ?_; rintro e w' ⟨rfl, rfl⟩)
              | (at_builtin; refine wpList_append_own _ rfl _ _ 58 rfl w.heap.size 5 iu (.int .u8 0) 1 1 Tryz.underlying58 hi hz0 hz1 hz2 rfl (by decide) _ _ _ rfl (hrow.out.alloc _) ⟨wr.heap.size, 0, none⟩ 1 1 [bv 34] rfl rfl (push_cell hx.out) push_one (by unfold maxLen; omega) (by omega) (by simp; omega) ?_))
            intro v' w1 hown' hgrow _
            have HO := Lib.hid (put_own (c := 34) hrow.out hbel.out hB hown' hgrow)
            clear hown' hgrow hrow hbel
            go_wp2_with fail
            go_roundw
            case rel => exact ⟨m2, u ++ [34], hm2l, by rw [List.length_append, List.length_singleton]; exact hum, by go_num, HX.out, HO.out.1, HO.out.2⟩
            case measure => simp [intOf]; omega
      · have HX : Hid (r = strR (u ++ [l[k]]) (strL (l.drop m1))) := by
          show _ = _
          rw [hE.out, g2, strR_step]
        have b34 : (((l[k]).toNat : Int) == 34) = false := oct_ne (n := 34) n34 (by decide)
        have c34 : ¬ ((l[k]).toNat : Int) = 34 := by rw [beq_eq_false_iff_ne] at b34; exact b34
        have b10 : (((l[k]).toNat : Int) == 10) = false := oct_ne (n := 10) n10 (by decide)
        have c10 : ¬ ((l[k]).toNat : Int) = 10 := by rw [beq_eq_false_iff_ne] at b10; exact b10
        have b92 : (((l[k]).toNat : Int) == 92) = false := oct_ne (n := 92) n92 (by decide)
        have c92 : ¬ ((l[k]).toNat : Int) = 92 := by rw [beq_eq_false_iff_ne] at b92; exact b92
        have hcb : ((l[k]).toNat : Int) ≤ 255 := by have := (l[k]).toNat_lt; omega
        have hml1 : m1 ≤ l.length := by omega
        have hum : u.length + 1 ≤ m1 := by omega
        have hkm : k < m1 := by omega
        clear g2 hE hm1 hm2 n34 n10 n92
        generalize l[k] = c at *
        have hx : Hid ((c.toNat : Int) = (c.toNat : Int)) := rfl
        go_wp2_with (at_builtin; refine wpList_append_own _ rfl _ _ 58 rfl w.heap.size 5 iu (.int .u8 0) 1 1 Tryz.underlying58 hi hz0 hz1 hz2 rfl (by decide) _ _ _ rfl (hrow.out.alloc _) ⟨wr.heap.size, 0, none⟩ 1 1 [bv c] rfl rfl (push_cell hx.out) push_one (by unfold maxLen; omega) (by omega) (by simp; omega) ?_)
        intro v' w1 hown' hgrow _
        have HO := Lib.hid (put_own hrow.out hbel.out hB hown' hgrow)
        clear hown' hgrow hrow hbel
        go_wp2_with fail
        go_roundw
        case rel => exact ⟨m1, u ++ [c], hml1, by rw [List.length_append, List.length_singleton]; exact hum, by go_num, HX.out, HO.out.1, HO.out.2⟩
        case measure => simp [intOf]; omega
end Go.Proofs.YtmccbcficbbidaaGreatDoor.Pwr

/-
  Contract of the page's word: a word of any kind, or an error.
-/
namespace Go.Proofs.YtmccbcficbbidaaGreatDoor.Pwr
open Go.RowKit Go.Proofs.YtmccbcficbbidaaGreatDoor.Oct Go.Proofs.YtmccbcficbbidaaGreatDoor.Lex Go.Proofs.YtmccbcficbbidaaGreatDoor.Lxw
open Go.Proofs.YtmccbcficbbidaaGreatDoor.Num (parseL)

abbrev wdV (k : Int) (s : ByteArray) : Value := .agg #[.int .i64 k, .string s, .int .i64 0]
/-- What the page's word answers. -/
def RWordTo (l : List UInt8) (k : Nat) (e : Ending) : Prop :=
  (∃ x n, wordL (l.drop k) = .ok (x, n) ∧ k + n ≤ l.length ∧ ∃ p, e = .returned (.tuple #[wdV (x.k : Int) (S x.x), .int .i64 ((k + n : Nat) : Int), .int .i64 0, .int .i64 p])) ∨
  ((∃ y, wordL (l.drop k) = .error y) ∧ ∃ a s c n p, n ≠ 0 ∧ e = .returned (.tuple #[wdV a s, .int .i64 c, .int .i64 n, .int .i64 p]))
theorem RWordTo.good {l : List UInt8} {k K q : Nat} {p : Int} (hk : k ≤ q) (hq : q ≤ l.length) (hw : wordL (l.drop k) = .ok (⟨K, (l.take q).drop k⟩, q - k)) :
    RWordTo l k (.returned (.tuple #[wdV (K : Int) (S ((l.take q).drop k)), .int .i64 (q : Int), .int .i64 0, .int .i64 p])) := by
  refine .inl ⟨_, _, hw, by omega, p, ?_⟩
  rw [show k + (q - k) = q by omega]
theorem RWordTo.bad {l : List UInt8} {k : Nat} {a c n p : Int} {s : ByteArray} {y : Nat × Nat} (hw : wordL (l.drop k) = .error y) (hn : n ≠ 0 := by decide) :
    RWordTo l k (.returned (.tuple #[wdV a s, .int .i64 c, .int .i64 n, .int .i64 p])) := .inr ⟨⟨y, hw⟩, a, s, c, n, p, hn, rfl⟩
set_option maxHeartbeats 1000000 in
set_option maxRecDepth 100000 in
theorem rword_a {l : List UInt8} {k : Nat} (hk : k < l.length) (hl : l.length ≤ 4194304) (hc : begB l[k] = true) (w : World) :
    Calls Tryz.prog 61 #[.string (S l), .int .i64 (k : Int)] w fun e w' => RWordTo l k e ∧ Below w.heap.size w w' := by
  have hsz : ((S l).size : Int) = (l.length : Int) := by rw [size_S]
  have hsn : (S l).size = l.length := size_S l
  have HCut := Lib.hid (fun q => cutMid l k q)
  have i0 : (0 : Int) ≤ (k : Int) := by omega
  have i1 : (k : Int) ≤ 4194304 := by omega
  have i2 : (k : Int) < (l.length : Int) := by omega
  have h1 := at_S l k hk
  obtain ⟨m, hm⟩ : ∃ m, m = k + 1 := ⟨_, rfl⟩
  have hmi : (k : Int) + 1 = (m : Int) := by omega
  have hmle : (m : Int) ≤ 4194304 := by omega
  have hbe := fun W => rbegin_c l k (by omega) W
  rw [nextO_at hk, hc] at hbe
  have hnm := fun W => rname_c l hl k (by omega) W
  have HR := Lib.hid (word_name hk hc)
  have hnl := nameN_le l k (by omega)
  have hn0 : 0 < nameN (l.drop k) := by
    rw [nameN_at, nextO_at hk, hc, if_pos rfl]
    rcases twN_step (p := nameC) (by decide) l k with ⟨_, _, h3⟩ | ⟨g1, _⟩
    · omega
    · rw [nextO_at hk] at g1
      unfold nameC at g1
      rw [hc] at g1
      exact absurd g1 (by simp)
  have e : nameEnds l k = k + nameN (l.drop k) := by unfold nameEnds; rw [if_neg (by omega)]
  rw [e] at hnm
  clear hc e hm
  obtain ⟨n, hn⟩ : ∃ n, n = nameN (l.drop k) := ⟨_, rfl⟩
  rw [← hn] at HR hnm hnl hn0
  obtain ⟨q, hq⟩ : ∃ q, q = k + n := ⟨_, rfl⟩
  rw [← hq] at HR hnm hnl
  have j1 : (q : Int) - (k : Int) = (n : Int) := by omega
  have j2 : (k : Int) ≤ (q : Int) := by omega
  have j3 : (q : Int) ≤ (l.length : Int) := by omega
  have j4 : (n : Int) ≤ 4194304 := by omega
  clear hn hq hn0
  generalize l[k] = c at *
  by_cases h32 : n ≤ 32
  · have j5 : ¬ (32 : Int) < (n : Int) := by omega
    rw [if_pos h32] at HR
    have HE : Hid (wordL (l.drop k) = .ok (⟨1, (l.take q).drop k⟩, q - k)) := by
      rcases HR.out with ⟨q', hE, _, _, hw⟩ | ⟨x, y, hE, _⟩
      · obtain rfl : q = q' := by injection hE
        exact hw
      · cases hE
    have HB := Lib.hid (And.intro (by omega : k ≤ q) hnl)
    clear h32 HR hnl
    go_enter Tryz.func61, Tryz.ntmps61
    go_wp2_with (first
      | (go_at_call 91; refine (hbe _).mono ?_; rintro e w' ⟨rfl, rfl⟩)
      | (go_at_call 92; refine (hnm _).mono ?_; rintro e w' ⟨rfl, rfl⟩))
    refine bodyPost_ret (v := .tuple #[wdV 1 ((S l).extract k q), .int .i64 (q : Int), .int .i64 0, .int .i64 0]) (by simp [results, Tryz.results61, go_sem]) rfl ?_
    rw [HCut.out]
    exact ⟨RWordTo.good HB.out.1 HB.out.2 HE.out, ((Below.refl _ w).alloc (Nat.le_refl _) _).alloc (by simp) _⟩
  · have j5 : (32 : Int) < (n : Int) := by omega
    rw [if_neg h32] at HR
    have HE : Hid (∃ y, wordL (l.drop k) = .error y) := by
      rcases HR.out with ⟨q', hE, _, _, hw⟩ | ⟨x, y, hE, hw⟩
      · cases hE
      · exact ⟨y, hw⟩
    clear h32 HR hnl
    go_enter Tryz.func61, Tryz.ntmps61
    go_wp2_with (first
      | (go_at_call 91; refine (hbe _).mono ?_; rintro e w' ⟨rfl, rfl⟩)
      | (go_at_call 92; refine (hnm _).mono ?_; rintro e w' ⟨rfl, rfl⟩))
    refine bodyPost_ret (v := .tuple #[wdV 1 ⟨#[]⟩, .int .i64 0, .int .i64 5, .int .i64 k]) (by simp [results, Tryz.results61, go_sem]) rfl ?_
    obtain ⟨y, hy⟩ := HE.out
    exact ⟨RWordTo.bad hy, ((Below.refl _ w).alloc (Nat.le_refl _) _).alloc (by simp) _⟩
set_option maxHeartbeats 1000000 in
set_option maxRecDepth 100000 in
theorem rword_b {l : List UInt8} {k : Nat} (hk : k < l.length) (hl : l.length ≤ 4194304) (hc : l[k] = 46) (w : World) :
    Calls Tryz.prog 61 #[.string (S l), .int .i64 (k : Int)] w fun e w' => RWordTo l k e ∧ Below w.heap.size w w' := by
  have hsz : ((S l).size : Int) = (l.length : Int) := by rw [size_S]
  have hsn : (S l).size = l.length := size_S l
  have HCut := Lib.hid (fun q => cutMid l k q)
  have i0 : (0 : Int) ≤ (k : Int) := by omega
  have i1 : (k : Int) ≤ 4194304 := by omega
  have i2 : (k : Int) < (l.length : Int) := by omega
  have h1 := at_S l k hk
  obtain ⟨m, hm⟩ : ∃ m, m = k + 1 := ⟨_, rfl⟩
  have hmi : (k : Int) + 1 = (m : Int) := by omega
  have hmle : (m : Int) ≤ 4194304 := by omega
  have e1 : ((l[k]).toNat : Int) = 46 := by rw [hc]; rfl
  have hbe : ∀ W, Calls Tryz.prog 91 #[.string (S l), .int .i64 (k : Int)] W fun e w' => e = .returned (.bool false) ∧ W = w' := fun W => by
    have h := rbegin_c l k (by omega) W
    rw [nextO_at hk, hc] at h
    exact h
  have hbm := fun W => rbegin_c l m (by omega) W
  have HR := Lib.hid (word_path hk hc)
  have hdo := fun W => rdots_c l hl k (by omega) W
  have HN : Hid (pathE l k = if begB (nextO l m) = true then addE k (dotsL (l.drop k)) else .ok m) := by
    show _ = _
    unfold pathE
    rw [← hm, nameN_at]
    cases hb : begB (nextO l m) with
    | false => simp only [Bool.false_eq_true, if_false, if_true]
    | true =>
      have hpos : 0 < twN nameC l m := by
        rcases twN_step (p := nameC) (by decide) l m with ⟨_, _, h3⟩ | ⟨h1, _⟩
        · omega
        · unfold nameC at h1
          rw [hb] at h1
          exact absurd h1 (by simp)
      have h0 : ¬ twN nameC l m = 0 := by omega
      simp only [if_true, if_neg h0]
  clear hc hm
  cases hb : begB (nextO l m) with
  | false =>
    rw [hb] at hbm HN
    rw [show pathE l k = .ok m from HN.out] at HR
    have HE : Hid (wordL (l.drop k) = .ok (⟨2, (l.take m).drop k⟩, m - k) ∧ k ≤ m ∧ m ≤ l.length) := by
      rcases HR.out with ⟨q', hE, a1, a2, hw⟩ | ⟨x, y, hE, _⟩
      · obtain rfl : m = q' := by injection hE
        exact ⟨hw, a1, a2⟩
      · cases hE
    have j2 : (k : Int) ≤ (m : Int) := by omega
    have j3 : (m : Int) ≤ (l.length : Int) := by omega
    clear hb HR HN hdo
    go_enter Tryz.func61, Tryz.ntmps61
    go_wp2_with fail
    refine (hbe _).mono ?_
    rintro e w' ⟨rfl, rfl⟩
    go_wp2_with fail
    refine (hbm _).mono ?_
    rintro e w' ⟨rfl, rfl⟩
    go_wp2_with fail
    refine bodyPost_ret (v := .tuple #[wdV 2 ((S l).extract k m), .int .i64 (m : Int), .int .i64 0, .int .i64 0]) (by simp [results, Tryz.results61, go_sem]) rfl ?_
    rw [HCut.out]
    exact ⟨RWordTo.good HE.out.2.1 HE.out.2.2 HE.out.1, ((Below.refl _ w).alloc (Nat.le_refl _) _).alloc (by simp) _⟩
  | true =>
    rw [hb] at hbm HN
    rw [if_pos rfl] at HN
    rw [HN.out] at HR
    clear hb HN
    generalize addE k (dotsL (l.drop k)) = r at *
    rcases HR.out with ⟨q, rfl, a1, a2, hw⟩ | ⟨x, y, rfl, hy⟩
    · have HE := Lib.hid (And.intro hw (And.intro a1 a2))
      have j2 : (k : Int) ≤ (q : Int) := by omega
      have j3 : (q : Int) ≤ (l.length : Int) := by omega
      clear HR hw a1 a2
      go_enter Tryz.func61, Tryz.ntmps61
      go_wp2_with fail
      refine (hbe _).mono ?_
      rintro e w' ⟨rfl, rfl⟩
      go_wp2_with fail
      refine (hbm _).mono ?_
      rintro e w' ⟨rfl, rfl⟩
      go_wp2_with fail
      refine (hdo _).mono ?_
      rintro e w' ⟨he, rfl⟩
      have he : e = .returned (.tuple #[.int .i64 (q : Int), .int .i64 0]) := he
      subst he
      go_wp2_with fail
      refine bodyPost_ret (v := .tuple #[wdV 2 ((S l).extract k q), .int .i64 (q : Int), .int .i64 0, .int .i64 0]) (by simp [results, Tryz.results61, go_sem]) rfl ?_
      rw [HCut.out]
      exact ⟨RWordTo.good HE.out.2.1 HE.out.2.2 HE.out.1, ((Below.refl _ w).alloc (Nat.le_refl _) _).alloc (by simp) _⟩
    · have HE : Hid (∃ y, wordL (l.drop k) = .error y) := ⟨y, hy⟩
      clear HR hy
      go_enter Tryz.func61, Tryz.ntmps61
      go_wp2_with fail
      refine (hbe _).mono ?_
      rintro e w' ⟨rfl, rfl⟩
      go_wp2_with fail
      refine (hbm _).mono ?_
      rintro e w' ⟨rfl, rfl⟩
      go_wp2_with fail
      refine (hdo _).mono ?_
      rintro e w' ⟨he, rfl⟩
      obtain ⟨a, nn, hnn, rfl⟩ := he
      have nb : (nn == 0) = false := by rw [beq_eq_false_iff_ne]; exact hnn
      have nc : (nn != 0) = true := by rw [bne, nb]; rfl
      have nd : ¬ nn = 0 := hnn
      have HNN := Lib.hid hnn
      clear hnn
      go_wp2_with fail
      refine bodyPost_ret (v := .tuple #[wdV 2 ⟨#[]⟩, .int .i64 0, .int .i64 nn, .int .i64 k]) (by simp [results, Tryz.results61, go_sem]) rfl ?_
      obtain ⟨y, hy⟩ := HE.out
      exact ⟨RWordTo.bad hy HNN.out, ((Below.refl _ w).alloc (Nat.le_refl _) _).alloc (by simp) _⟩
set_option maxHeartbeats 1000000 in
set_option maxRecDepth 100000 in
theorem rword_c' {l : List UInt8} {k : Nat} (hk : k < l.length) (hl : l.length ≤ 4194304) (hc : l[k] = 36) (w : World) :
    Calls Tryz.prog 61 #[.string (S l), .int .i64 (k : Int)] w fun e w' => RWordTo l k e ∧ Below w.heap.size w w' := by
  have hsz : ((S l).size : Int) = (l.length : Int) := by rw [size_S]
  have hsn : (S l).size = l.length := size_S l
  have HCut := Lib.hid (fun q => cutMid l k q)
  have i0 : (0 : Int) ≤ (k : Int) := by omega
  have i1 : (k : Int) ≤ 4194304 := by omega
  have i2 : (k : Int) < (l.length : Int) := by omega
  have h1 := at_S l k hk
  obtain ⟨m, hm⟩ : ∃ m, m = k + 1 := ⟨_, rfl⟩
  have hmi : (k : Int) + 1 = (m : Int) := by omega
  have hmle : (m : Int) ≤ 4194304 := by omega
  have e1 : ((l[k]).toNat : Int) = 36 := by rw [hc]; rfl
  have hbe : ∀ W, Calls Tryz.prog 91 #[.string (S l), .int .i64 (k : Int)] W fun e w' => e = .returned (.bool false) ∧ W = w' := fun W => by
    have h := rbegin_c l k (by omega) W
    rw [nextO_at hk, hc] at h
    exact h
  have hnm := fun W => rname_c l hl m (by omega) W
  have HR := Lib.hid (word_var hk hc)
  have hnl := nameN_le l m (by omega)
  obtain ⟨n, hn⟩ : ∃ n, n = nameN (l.drop m) := ⟨_, rfl⟩
  obtain ⟨j, hj⟩ : ∃ j, j = m + n := ⟨_, rfl⟩
  have hjl : j ≤ l.length := by omega
  have hdo := fun W => rdots_c l hl j hjl W
  have HN : Hid (varE l k = if 32 < n then .error 5 else addE j (dotsL (l.drop j))) := by
    show _ = _
    unfold varE
    rw [← hm, ← hn, ← hj]
  rw [HN.out] at HR
  have hms : m ≤ j := by omega
  have hne : nameEnds l m = if n = 0 then 0 else j := by unfold nameEnds; rw [← hn, ← hj]
  rw [hne] at hnm
  have q1 : (j : Int) - (k : Int) = ((n + 1 : Nat) : Int) := by omega
  have q2 : ((n + 1 : Nat) : Int) - 1 = (n : Int) := by omega
  have q3 : (j : Int) - (k : Int) - 1 = (n : Int) := by omega
  have q4 : (n : Int) ≤ 4194304 := by omega
  have q5 : (j : Int) ≤ 4194304 := by omega
  have q6 : (0 : Int) < (j : Int) := by omega
  have hnj : n = 0 → j = m := by omega
  clear hc hn hne HN hnl hm hj
  by_cases h32 : 32 < n
  · have j5 : (32 : Int) < (n : Int) := by omega
    rw [if_pos h32] at HR
    rw [if_neg (by omega)] at hnm
    have HE : Hid (∃ y, wordL (l.drop k) = .error y) := by
      rcases HR.out with ⟨q', hE, _, _, hw⟩ | ⟨x, y, hE, hw⟩
      · cases hE
      · exact ⟨y, hw⟩
    clear h32 HR hdo
    go_enter Tryz.func61, Tryz.ntmps61
    go_wp2_with (first
      | (go_at_call 91; refine (hbe _).mono ?_; rintro e w' ⟨rfl, rfl⟩)
      | (go_at_call 92; refine (hnm _).mono ?_; rintro e w' ⟨rfl, rfl⟩))
    refine bodyPost_ret (v := .tuple #[wdV 3 ⟨#[]⟩, .int .i64 0, .int .i64 5, .int .i64 k]) (by simp [results, Tryz.results61, go_sem]) rfl ?_
    obtain ⟨y, hy⟩ := HE.out
    exact ⟨RWordTo.bad hy, ((Below.refl _ w).alloc (Nat.le_refl _) _).alloc (by simp) _⟩
  · rw [if_neg h32] at HR
    have j5 : ¬ (32 : Int) < (n : Int) := by omega
    by_cases h0 : n = 0
    · rw [if_pos h0] at hnm
      obtain rfl := hnj h0
      subst h0
      clear h32 hnj q1 q2 q3
      rcases HR.out with ⟨q, hE, a1, a2, hw⟩ | ⟨x, y, hE, hy⟩
      · rw [hE] at hdo
        have HE := Lib.hid (And.intro hw (And.intro a1 a2))
        have j2 : (k : Int) ≤ (q : Int) := by omega
        have j3 : (q : Int) ≤ (l.length : Int) := by omega
        clear HR hw a1 a2 hE
        go_enter Tryz.func61, Tryz.ntmps61
        go_wp2_with (first
          | (go_at_call 91; refine (hbe _).mono ?_; rintro e w' ⟨rfl, rfl⟩)
          | (go_at_call 92; refine (hnm _).mono ?_; rintro e w' ⟨rfl, rfl⟩))
        refine (hdo _).mono ?_
        rintro e w' ⟨he, rfl⟩
        have he : e = .returned (.tuple #[.int .i64 (q : Int), .int .i64 0]) := he
        subst he
        go_wp2_with fail
        refine bodyPost_ret (v := .tuple #[wdV 3 ((S l).extract k q), .int .i64 (q : Int), .int .i64 0, .int .i64 0]) (by simp [results, Tryz.results61, go_sem]) rfl ?_
        rw [HCut.out]
        exact ⟨RWordTo.good HE.out.2.1 HE.out.2.2 HE.out.1, ((Below.refl _ w).alloc (Nat.le_refl _) _).alloc (by simp) _⟩
      · rw [hE] at hdo
        have HE : Hid (∃ y, wordL (l.drop k) = .error y) := ⟨y, hy⟩
        clear HR hy hE
        go_enter Tryz.func61, Tryz.ntmps61
        go_wp2_with (first
          | (go_at_call 91; refine (hbe _).mono ?_; rintro e w' ⟨rfl, rfl⟩)
          | (go_at_call 92; refine (hnm _).mono ?_; rintro e w' ⟨rfl, rfl⟩))
        refine (hdo _).mono ?_
        rintro e w' ⟨he, rfl⟩
        obtain ⟨a, nn, hnn, rfl⟩ := he
        have nb : (nn == 0) = false := by rw [beq_eq_false_iff_ne]; exact hnn
        have nc : (nn != 0) = true := by rw [bne, nb]; rfl
        have nd : ¬ nn = 0 := hnn
        have HNN := Lib.hid hnn
        clear hnn
        go_wp2_with fail
        refine bodyPost_ret (v := .tuple #[wdV 3 ⟨#[]⟩, .int .i64 0, .int .i64 nn, .int .i64 k]) (by simp [results, Tryz.results61, go_sem]) rfl ?_
        obtain ⟨y, hy⟩ := HE.out
        exact ⟨RWordTo.bad hy HNN.out, ((Below.refl _ w).alloc (Nat.le_refl _) _).alloc (by simp) _⟩
    · rw [if_neg h0] at hnm
      clear h32 h0 hnj
      rcases HR.out with ⟨q, hE, a1, a2, hw⟩ | ⟨x, y, hE, hy⟩
      · rw [hE] at hdo
        have HE := Lib.hid (And.intro hw (And.intro a1 a2))
        have j2 : (k : Int) ≤ (q : Int) := by omega
        have j3 : (q : Int) ≤ (l.length : Int) := by omega
        clear HR hw a1 a2 hE
        go_enter Tryz.func61, Tryz.ntmps61
        go_wp2_with (first
          | (go_at_call 91; refine (hbe _).mono ?_; rintro e w' ⟨rfl, rfl⟩)
          | (go_at_call 92; refine (hnm _).mono ?_; rintro e w' ⟨rfl, rfl⟩))
        refine (hdo _).mono ?_
        rintro e w' ⟨he, rfl⟩
        have he : e = .returned (.tuple #[.int .i64 (q : Int), .int .i64 0]) := he
        subst he
        go_wp2_with fail
        refine bodyPost_ret (v := .tuple #[wdV 3 ((S l).extract k q), .int .i64 (q : Int), .int .i64 0, .int .i64 0]) (by simp [results, Tryz.results61, go_sem]) rfl ?_
        rw [HCut.out]
        exact ⟨RWordTo.good HE.out.2.1 HE.out.2.2 HE.out.1, ((Below.refl _ w).alloc (Nat.le_refl _) _).alloc (by simp) _⟩
      · rw [hE] at hdo
        have HE : Hid (∃ y, wordL (l.drop k) = .error y) := ⟨y, hy⟩
        clear HR hy hE
        go_enter Tryz.func61, Tryz.ntmps61
        go_wp2_with (first
          | (go_at_call 91; refine (hbe _).mono ?_; rintro e w' ⟨rfl, rfl⟩)
          | (go_at_call 92; refine (hnm _).mono ?_; rintro e w' ⟨rfl, rfl⟩))
        refine (hdo _).mono ?_
        rintro e w' ⟨he, rfl⟩
        obtain ⟨a, nn, hnn, rfl⟩ := he
        have nb : (nn == 0) = false := by rw [beq_eq_false_iff_ne]; exact hnn
        have nc : (nn != 0) = true := by rw [bne, nb]; rfl
        have nd : ¬ nn = 0 := hnn
        have HNN := Lib.hid hnn
        clear hnn
        go_wp2_with fail
        refine bodyPost_ret (v := .tuple #[wdV 3 ⟨#[]⟩, .int .i64 0, .int .i64 nn, .int .i64 k]) (by simp [results, Tryz.results61, go_sem]) rfl ?_
        obtain ⟨y, hy⟩ := HE.out
        exact ⟨RWordTo.bad hy HNN.out, ((Below.refl _ w).alloc (Nat.le_refl _) _).alloc (by simp) _⟩
end Go.Proofs.YtmccbcficbbidaaGreatDoor.Pwr
