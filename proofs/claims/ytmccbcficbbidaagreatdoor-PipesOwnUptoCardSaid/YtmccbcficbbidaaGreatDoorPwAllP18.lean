/-
  Part 18: PwPage1, PgPrint, NumRef, HexPure, OctHex, OctUnhex, RefTexts.
-/
import Derived.Test.YtmccbcficbbidaaGreatDoorPwAllP17
import Derived.Test.YtmccbcficbbidaaGreatDoorPwAllP1
import Derived.Test.YtmccbcficbbidaaGreatDoorProg
import Derived.Lib.Hide
import Derived.Test.YtmccbcficbbidaaGreatDoorPwAllP9
import Derived.Test.YtmccbcficbbidaaGreatDoorPwAllP7
import Derived.Test.YtmccbcficbbidaaGreatDoorPwAllP13
/-
  Contracts of the page's pipelines: paths.
-/
namespace Go.Proofs.YtmccbcficbbidaaGreatDoor.Pw
open Go.RowKit Go.Proofs.YtmccbcficbbidaaGreatDoor.Oct Go.Proofs.YtmccbcficbbidaaGreatDoor.Lex Go.Proofs.YtmccbcficbbidaaGreatDoor.Lxw Go.Proofs.YtmccbcficbbidaaGreatDoor.Pip

/-- What is left of a path behind i octets. -/
def contP (i : Nat) (nw t : List UInt8) : List (List UInt8) := if i = 0 then pathN t else splitF nw t
theorem cont_dot {i : Nat} {t : List UInt8} : contP (i + 1) [] t = splitF [] t := rfl
/-- What path answers. -/
def RPathTo (ns : List (List UInt8)) (w : World) (e : Ending) (w' : World) : Prop := Below w.heap.size w w' ∧ ((ns.length ≤ 16 ∧ ∃ v, e = .returned (.tuple #[v, .int .i64 0]) ∧ PathR w.heap.size w' v ns) ∨ (16 < ns.length ∧ e = .returned (.tuple #[.slice none 0 0, .int .i64 42])))
set_option maxHeartbeats 1000000 in
set_option maxRecDepth 100000 in
theorem rpath_c (l : List UInt8) (hl : l.length ≤ 4194304) (w : World) :
    Calls Tryz.prog 97 #[.string (S l)] w (RPathTo (pathN l) w) := by
  obtain ⟨n, hn⟩ : ∃ n, n = l.length := ⟨_, rfl⟩
  have hsz : (S l).size = n := by rw [size_S, hn]
  have HN := Lib.hid hn
  have hnl : n ≤ 4194304 := by omega
  clear hn hl
  go_enter Tryz.func97, Tryz.ntmps97
  go_wp2_with fail
  go_loopw [4, 5, 6] (fun out s iv wr => ∃ (i : Nat) (done : List (List UInt8)) (nw : List UInt8), i ≤ n ∧ iv = .int .i64 i ∧ done.length ≤ i ∧ s = .string (S nw) ∧ nw.length ≤ i ∧ Hid (i = 0 → done = [] ∧ nw = []) ∧ Hid (pathN l = done ++ contP i nw (l.drop i)) ∧ Hid (PathR w.heap.size wr out done) ∧ Hid (Below w.heap.size w wr)) (fun _ _ iv _ => n - (intOf iv).toNat)
  case atStart => exact ⟨0, [], [], Nat.zero_le _, rfl, Nat.le_refl _, rfl, Nat.le_refl _, fun _ => ⟨rfl, rfl⟩, by show pathN l = [] ++ contP 0 [] (l.drop 0); rfl, PathR.nil _ _, Below.refl _ _⟩
  case round =>
    obtain ⟨i, done, nw, hi, rfl, hdl, rfl, hnw, hz, hP, hR, hB⟩ := hrel
    obtain ⟨op, oc, hout⟩ : ∃ p c, u4 = .slice p done.length c := own_shape hR.out
    subst hout
    have i0 : (0 : Int) ≤ (i : Int) := by omega
    by_cases hin : i < n
    · have i1 : (i : Int) < (n : Int) := by omega
      have hil : i < l.length := by rw [← HN.out]; exact hin
      have hd : decide ((i : Int) < (n : Int)) = true := decide_eq_true i1
      have h1 := at_S l i hil
      have hcut : (S l).extract i (i + 1) = S [l[i]] := by rw [cutMid, List.take_succ_eq_append_getElem hil, List.drop_append_of_le_length (by rw [List.length_take]; omega), List.drop_eq_nil_of_le (by rw [List.length_take]; omega)]; rfl
      have happ : S nw ++ S [l[i]] = S (nw ++ [l[i]]) := S_append nw [l[i]]
      have hdr : l.drop i = l[i] :: l.drop (i + 1) := List.drop_eq_getElem_cons hil
      have s1 : (S nw).size ≤ 4194304 := by rw [size_S]; omega
      have s2 : (S [l[i]]).size ≤ 1 := Nat.le_refl 1
      have i2 : (i : Int) + 1 ≤ (n : Int) := by omega
      have hsi : ((S l).size : Int) = (n : Int) := by rw [hsz]
      rw [hdr] at hP
      generalize hx : l[i] = x at *
      have HX := Lib.hid hx
      clear hx hdr
      obtain ⟨i9, hi9, hz0, hz1, hz2⟩ := info_parts info_str
      by_cases h46 : x = 46
      · subst h46
        by_cases hi0 : i = 0
        · have hz' := hz.out hi0
          have HD := Lib.hid hz'.1
          have g0 : decide ((0 : Int) < (i : Int)) = false := decide_eq_false (by omega)
          have g1 : decide (0 < i) = false := decide_eq_false (by omega)
          have g2 : ¬ (0 : Int) < (i : Int) := by omega
          have g3 : ¬ 0 < i := by omega
          have HP : Hid (pathN l = done ++ contP (i + 1) [] (l.drop (i + 1))) := by
            show _ = _
            rw [hP.out, hz'.1, hz'.2, hi0]
            show (if (46 : UInt8) = 46 then splitF [] (l.drop 1) else splitF [46] (l.drop 1)) = _
            rw [if_pos rfl]
            rfl
          clear hz' hz hP hi0
          go_wp2_with fail
          go_roundw
          case rel => exact ⟨i + 1, done, [], by omega, by go_num, by omega, rfl, Nat.zero_le _, fun h => absurd h (by omega), HP.out, hR.out, hB.out⟩
          case measure => simp [intOf]; omega
        · have g0 : decide ((0 : Int) < (i : Int)) = true := decide_eq_true (by omega)
          have g1 : decide (0 < i) = true := decide_eq_true (by omega)
          have g2 : (0 : Int) < (i : Int) := by omega
          have g3 : 0 < i := by omega
          have HP : Hid (pathN l = (done ++ [nw]) ++ contP (i + 1) [] (l.drop (i + 1))) := by
            show _ = _
            rw [hP.out]
            unfold contP
            rw [if_neg hi0, if_neg (by omega)]
            show done ++ (if (46 : UInt8) = 46 then nw :: splitF [] (l.drop (i + 1)) else _) = _
            rw [if_pos rfl]
            simp
          have HOne := Lib.hid (push_nm nw)
          have HPC := Lib.hid (fun (j : Nat) (u : Value) (h : (nmC nw)[j]? = some u) => push_cells (w := wr) (T := 9) (cs := nmC nw) j u h)
          have HB4 := Lib.hid hB.out.size
          have hdl2 : done.length ≤ 4194304 := by omega
          clear hz hP hi0
          go_wp2_with (at_builtin; refine wpList_append_own _ rfl _ _ 42 rfl w.heap.size 9 i9 _ 1 16 Tryz.underlying42 hi9 hz0 hz1 hz2 rfl (by decide) _ _ _ rfl (hR.out.alloc _) ⟨wr.heap.size, 0, none⟩ 1 1 (nmC nw) rfl rfl HPC.out HOne.out (by unfold maxLen; omega) (by omega) (by simp; have := HB4.out; omega) ?_)
          intro v' w5 hown' hgrow _
          have HQ := Lib.hid (PathR.push (n := nw) hR.out hB.out HB4.out hown' hgrow)
          clear hown' hgrow HPC HOne HB4 hR hB
          go_wp2_with fail
          go_roundw
          case rel => exact ⟨i + 1, done ++ [nw], [], by omega, by go_num, by rw [List.length_append, List.length_singleton]; omega, rfl, Nat.zero_le _, fun h => absurd h (by omega), HP.out, HQ.out.1, HQ.out.2⟩
          case measure => simp [intOf]; omega
      · have c1 : ((x.toNat : Int) == 46) = false := by rw [beq_eq_false_iff_ne]; intro e; exact h46 (UInt8.toNat_inj.1 (by show x.toNat = 46; omega))
        have c2 : ¬ (x.toNat : Int) = 46 := by intro e; exact h46 (UInt8.toNat_inj.1 (by show x.toNat = 46; omega))
        have c3 : ¬ x.toNat = 46 := by omega
        have HP : Hid (pathN l = done ++ contP (i + 1) (nw ++ [x]) (l.drop (i + 1))) := by
          show _ = _
          rw [hP.out]
          unfold contP
          rw [if_neg (show ¬ i + 1 = 0 by omega)]
          by_cases hi0 : i = 0
          · rw [if_pos hi0, (hz.out hi0).2]
            show done ++ (if x = 46 then _ else splitF [x] (l.drop (i + 1))) = _
            rw [if_neg h46]
            rfl
          · rw [if_neg hi0]
            show done ++ (if x = 46 then _ else splitF (nw ++ [x]) (l.drop (i + 1))) = _
            rw [if_neg h46]
        have hsl : ∀ w, (Instr.slice 9 (.string (S l)) (some (.int .i64 (i : Int))) (some (.int .i64 ((i : Int) + 1))) none).run Tryz.prog w = .ok (.string (S [x])) w := by
          intro w
          have e1 : ((i : Int) + 1).toNat = i + 1 := by omega
          rw [run_slice_string w _ (S l) .i64 .i64 (i : Int) ((i : Int) + 1) Tryz.underlying9 (by omega) (by omega) (by omega), e1, Int.toNat_natCast, hcut]
        clear hz hP
        go_wp2_with fail
        go_roundw
        case rel => exact ⟨i + 1, done, nw ++ [x], by omega, by go_num, by omega, rfl, by rw [List.length_append, List.length_singleton]; omega, fun h => absurd h (by omega), HP.out, hR.out, hB.out⟩
        case measure => simp [intOf]; omega
    · have hin' : i = n := by omega
      subst hin'
      have hd : decide ((i : Int) < (i : Int)) = false := decide_eq_false (by omega)
      have hl0 : l.drop i = [] := List.drop_eq_nil_of_le (by rw [← HN.out]; exact Nat.le_refl _)
      have s1 : (S nw).size ≤ 4194304 := by rw [size_S]; omega
      have hqn := eqN nw
      cases nw with
      | nil =>
        have HP : Hid (pathN l = done) := by
          show _ = _
          rw [hP.out, hl0]
          unfold contP
          by_cases hi0 : i = 0
          · rw [if_pos hi0]; exact List.append_nil _
          · rw [if_neg hi0]; exact List.append_nil _
        clear hz hP hl0
        clear hqn
        by_cases h16 : 16 < done.length
        · have d1 : decide ((16 : Int) < (done.length : Int)) = true := decide_eq_true (by omega)
          have d2 : decide (16 < done.length) = true := decide_eq_true h16
          have HL := Lib.hid h16
          clear h16
          go_wp2_with fail
          go_ret2
          exact ⟨hB.out, .inr ⟨by rw [HP.out]; exact HL.out, rfl⟩⟩
        · have d1 : decide ((16 : Int) < (done.length : Int)) = false := decide_eq_false (by omega)
          have d2 : decide (16 < done.length) = false := decide_eq_false h16
          have HL : Hid (done.length ≤ 16) := by show _ ≤ _; omega
          clear h16
          go_wp2_with fail
          go_ret2
          exact ⟨hB.out, .inl ⟨by rw [HP.out]; exact HL.out, _, rfl, by rw [HP.out]; exact hR.out⟩⟩
      | cons a nw =>
        have HP : Hid (pathN l = done ++ [a :: nw]) := by
          show _ = _
          rw [hP.out, hl0]
          unfold contP
          by_cases hi0 : i = 0
          · exact absurd (hz.out hi0).2 (by simp)
          · rw [if_neg hi0]; rfl
        clear hz hP hl0
        rw [decide_eq_false (show ¬ a :: nw = [] by simp)] at hqn
        have hqe : (a :: nw).isEmpty = false := rfl
        generalize a :: nw = nw at *
        obtain ⟨i9, hi9, hz0, hz1, hz2⟩ := info_parts info_str
        have HOne := Lib.hid (push_nm nw)
        have HPC := Lib.hid (fun (j : Nat) (u : Value) (h : (nmC nw)[j]? = some u) => push_cells (w := wr) (T := 9) (cs := nmC nw) j u h)
        have HB4 := Lib.hid hB.out.size
        have hdl2 : done.length ≤ 4194304 := by omega
        go_wp2_with (at_builtin; refine wpList_append_own _ rfl _ _ 42 rfl w.heap.size 9 i9 _ 1 16 Tryz.underlying42 hi9 hz0 hz1 hz2 rfl (by decide) _ _ _ rfl (hR.out.alloc _) ⟨wr.heap.size, 0, none⟩ 1 1 (nmC nw) rfl rfl HPC.out HOne.out (by unfold maxLen; omega) (by omega) (by simp; have := HB4.out; omega) ?_)
        intro v' w5 hown' hgrow _
        have HQ := Lib.hid (PathR.push (n := nw) hR.out hB.out HB4.out hown' hgrow)
        clear hown' hgrow HPC HOne HB4 hR hB
        obtain ⟨op', oc', hout⟩ : ∃ p c, v' = .slice p (done.length + 1) c := by
          have := own_shape HQ.out.1
          rwa [List.length_append, List.length_singleton] at this
        subst hout
        have HP2 : Hid ((pathN l).length = done.length + 1) := by show _ = _; rw [HP.out, List.length_append, List.length_singleton]
        by_cases h16 : 16 < done.length + 1
        · have d1 : decide ((16 : Int) < (done.length : Int) + 1) = true := decide_eq_true (by omega)
          have d2 : decide (16 < done.length + 1) = true := decide_eq_true h16
          have HL := Lib.hid h16
          clear h16
          go_wp2_with fail
          go_ret2
          exact ⟨HQ.out.2, .inr ⟨by rw [HP2.out]; exact HL.out, rfl⟩⟩
        · have d1 : decide ((16 : Int) < (done.length : Int) + 1) = false := decide_eq_false (by omega)
          have d2 : decide (16 < done.length + 1) = false := decide_eq_false h16
          have HL : Hid (done.length + 1 ≤ 16) := by show _ ≤ _; omega
          clear h16
          go_wp2_with fail
          go_ret2
          exact ⟨HQ.out.2, .inl ⟨by rw [HP2.out]; exact HL.out, _, rfl, by rw [HP.out]; exact HQ.out.1⟩⟩
end Go.Proofs.YtmccbcficbbidaaGreatDoor.Pw

/-
  Contract of the page's Print of a number: its digits; it changes nothing.
-/
namespace Go.Proofs.YtmccbcficbbidaaGreatDoor.Num
open Go.RowKit Go.Proofs.YtmccbcficbbidaaGreatDoor.Oct

theorem digit_cut (d : Nat) (h : d < 10) : (⟨#[48, 49, 50, 51, 52, 53, 54, 55, 56, 57]⟩ : ByteArray).extract d (d + 1) = S [dig d] := by
  have : ∀ d : Fin 10, (⟨#[48, 49, 50, 51, 52, 53, 54, 55, 56, 57]⟩ : ByteArray).extract d.val (d.val + 1) = S [dig d.val] := by decide +kernel
  exact this ⟨d, h⟩

theorem digit_slice (d : Nat) (h : d < 10) (w : World) :
    (Instr.slice 9 (.string ⟨#[48, 49, 50, 51, 52, 53, 54, 55, 56, 57]⟩) (some (.int .i64 (d : Int))) (some (.int .i64 ((d : Int) + 1))) none).run Tryz.prog w = .ok (.string (S [dig d])) w := by
  have h16 : (⟨#[48, 49, 50, 51, 52, 53, 54, 55, 56, 57]⟩ : ByteArray).size = 10 := rfl
  rw [← digit_cut d h]
  generalize (⟨#[48, 49, 50, 51, 52, 53, 54, 55, 56, 57]⟩ : ByteArray) = s at h16
  have e1 : ((d : Int) + 1).toNat = d + 1 := by omega
  rw [run_slice_string w _ s .i64 .i64 (d : Int) ((d : Int) + 1) Tryz.underlying9 (by omega) (by omega) (by omega), e1, Int.toNat_natCast]

theorem ret_str {a b : ByteArray} (h : a = b) : Ending.returned (.string a) = .returned (.string b) := by rw [h]
theorem S_minus (l : List UInt8) : (⟨#[45]⟩ : ByteArray) ++ S l = S (45 :: l) := S_append [45] l

end Go.Proofs.YtmccbcficbbidaaGreatDoor.Num

/-
  Contracts of the page's answers on numbers: a number's digits, a text as a number; they change nothing.
-/
namespace Go.Proofs.YtmccbcficbbidaaGreatDoor.Num
open Go.RowKit Go.Proofs.YtmccbcficbbidaaGreatDoor.Oct

theorem rdigit_c (c : UInt8) (w : World) :
    Calls Tryz.prog 68 #[.int .u8 (c.toNat : Int)] w fun e w' => e = .returned (.bool (isDig c)) ∧ w = w' := by
  have h := c.toNat_lt
  go_enter Tryz.func68, Tryz.ntmps68
  go_wp2
  all_goals go_ret
  all_goals (refine ⟨ret_bool ?_, rfl⟩; unfold isDig; rw [Bool.eq_iff_iff]; simp; try omega)

set_option maxHeartbeats 2000000 in
theorem rparse_minus (s T : ByteArray) (w : World) (hT : T.size ≤ 9223372036854775807) (h0 : 0 < s.size) (h45 : ((s[0].toNat : Int) == 45) = true) (hpos : 0 < T.size)
    (hcut : ∀ w, (Instr.slice 9 (.string s) (some (.int .i64 1)) none none).run Tryz.prog w = .ok (.string T) w) :
    Calls Tryz.prog 94 #[.string s] w fun e w' => e = .returned (.tuple #[.int .i64 (parseT true T.data.toList).1, .int .i64 ((parseT true T.data.toList).2 : Int)]) ∧ w = w' := by
  have he : T.data.toList.isEmpty = false := by rw [List.isEmpty_eq_false_iff]; intro h; have := size_list T; rw [h] at this; simp at this; omega
  have hne : T.data.toList ≠ [] := by intro h; rw [h] at he; cases he
  have he' : T.toList.isEmpty = false := by rw [ByteArray.toList_eq]; exact he
  have hsz : T.data.toList.length = T.size := size_list T
  have hhead : T.data.toList.head? = some T[0] := by
    rw [List.head?_eq_getElem?, List.getElem?_eq_getElem (by rw [size_list]; exact hpos)]; rfl
  have HNE := Lib.hid hne
  have HSZ := Lib.hid hsz
  have HH := Lib.hid hhead
  clear hne hsz hhead
  go_enter Tryz.func94, Tryz.ntmps94
  go_wp2
  go_loop [6] (fun i => ∃ k : Nat, k ≤ T.size ∧ i = .int .i64 k ∧ Hid (∀ c ∈ T.data.toList.take k, isDig c = true)) (fun i => T.size - (intOf i).toNat)
  case atStart => exact ⟨0, Nat.zero_le _, rfl, fun c hc => by simp at hc⟩
  case round =>
    obtain ⟨k, hk, rfl, hno⟩ := hrel
    by_cases hlt : k < T.size
    · have hcall := rdigit_c T[k] w
      cases hq : isDig T[k] with
      | false =>
        rw [hq] at hcall
        have F : Hid (parseT true T.data.toList = (0, 33)) := by
          show _ = _
          unfold parseT
          rw [if_neg HNE.out, if_pos (allDig_no (mem_at T k hlt) hq)]
        clear hq
        go_wp2_with (go_at_call 68; refine hcall.mono ?_; rintro e w' ⟨rfl, rfl⟩)
        go_ret2
        exact ⟨by rw [F.out]; rfl, rfl⟩
      | true =>
        rw [hq] at hcall
        have F : Hid (∀ c ∈ T.data.toList.take (k + 1), isDig c = true) := by
          intro c hc
          rw [take_at T k hlt] at hc
          rcases List.mem_append.1 hc with hc | hc
          · exact hno.out c hc
          · rw [List.mem_singleton.1 hc]; exact hq
        clear hq
        go_wp2_with (go_at_call 68; refine hcall.mono ?_; rintro e w' ⟨rfl, rfl⟩)
        go_round
        case rel => exact ⟨k + 1, by omega, by go_num, F⟩
        case measure => simp [intOf]; omega
    · have hke : T.data.toList.take k = T.data.toList := List.take_of_length_le (by rw [size_list]; omega)
      have hmem : Hid (∀ c ∈ T.data.toList, isDig c = true) := by
        have := hno.out
        rw [hke] at this
        exact this
      clear hke hno
      have hall : Hid (¬ allDig T.data.toList = false) := by
        show ¬ _
        rw [allDig_of hmem.out]; simp
      by_cases h48 : T[0] = 48
      · have h48' : ((T[0].toNat : Int) == 48) = true := by rw [h48]; rfl
        have H48 : Hid (T.data.toList.head? = some 48) := by show _ = _; rw [HH.out, h48]
        clear h48
        have F : Hid (parseT true T.data.toList = (0, 33)) := by
          show _ = _
          unfold parseT
          rw [if_neg HNE.out, if_neg hall.out, if_pos ⟨H48.out, .inl rfl⟩]
        go_wp2
        go_ret2
        exact ⟨by rw [F.out]; rfl, rfl⟩
      · have h48' : ((T[0].toNat : Int) == 48) = false := by
          rw [beq_eq_false_iff_ne]
          intro e
          apply h48
          apply UInt8.toNat_inj.1
          have : (48 : UInt8).toNat = 48 := rfl
          omega
        have H48 : Hid (¬ (T.data.toList.head? = some 48 ∧ (true = true ∨ 1 < T.data.toList.length))) := fun h => h48 (Option.some.inj (HH.out.symm.trans h.1))
        clear h48
        by_cases h19 : 19 < T.size
        · have F : Hid (parseT true T.data.toList = (0, 4)) := by
            show _ = _
            unfold parseT
            rw [if_neg HNE.out, if_neg hall.out, if_neg H48.out, if_pos (by rw [HSZ.out]; exact h19)]
          go_wp2
          go_ret2
          exact ⟨by rw [F.out]; rfl, rfl⟩
        · have F : Hid (parseT true T.data.toList = signedL (valD T.data.toList) true) := by
            show _ = _
            unfold parseT
            rw [if_neg HNE.out, if_neg hall.out, if_neg H48.out, if_neg (by rw [HSZ.out]; exact h19)]
          have HV : Hid (valD T.data.toList < 10000000000000000000) := valD_all hmem.out (by rw [HSZ.out]; omega)
          go_wp2
          go_loop [7, 8] (fun n i => ∃ k : Nat, k ≤ T.size ∧ i = .int .i64 k ∧ n = .int .u64 (valD (T.data.toList.take k) : Nat)) (fun _ i => T.size - (intOf i).toNat)
          case atStart => exact ⟨0, Nat.zero_le _, rfl, rfl⟩
          case round =>
            obtain ⟨k, hk, rfl, rfl⟩ := hrel
            by_cases hlt : k < T.size
            · have hv := valD_take k hmem.out (show k ≤ 18 by omega)
              have hdk := of_decide_eq_true (hmem.out _ (mem_at T k hlt))
              have HV : Hid (valD (T.data.toList.take (k + 1)) = valD (T.data.toList.take k) * 10 + cnt T[k]) := by show _ = _; rw [take_at T k hlt, valD_snoc]
              obtain ⟨hc0, hc1⟩ := hdk
              generalize valD (T.data.toList.take k) = v at hv HV
              go_wp2
              go_round
              case rel =>
                refine ⟨k + 1, by omega, by go_num, ?_⟩
                rw [HV.out]
                congr 1
                unfold cnt
                omega
              case measure => simp [intOf]; omega
            · have hke : T.data.toList.take k = T.data.toList := List.take_of_length_le (by rw [size_list]; omega)
              rw [hke]
              clear hke
              have hv := HV.out
              generalize valD T.data.toList = v at F hv
              clear HV
              have HR := Lib.hid F.out
              clear F
              by_cases hb : v ≤ 9223372036854775808
              · have G : Hid (signedL v true = (-(v : Int), 0)) := by show _ = _; unfold signedL; rw [if_pos rfl, if_pos hb]
                go_wp2
                go_ret2
                refine ⟨?_, rfl⟩
                rw [HR.out, G.out]
                exact ret2 (by unfold wrap64; rw [IntKind.wrap_u64]; show _ = -(v : Int); omega) rfl
              · have G : Hid (signedL v true = (0, 4)) := by show _ = _; unfold signedL; rw [if_pos rfl, if_neg hb]
                go_wp2
                go_ret2
                exact ⟨by rw [HR.out, G.out]; rfl, rfl⟩

set_option maxHeartbeats 2000000 in
theorem rparse_plain (T : ByteArray) (w : World) (hT : T.size ≤ 9223372036854775807) (hpos : 0 < T.size) (h45 : ((T[0].toNat : Int) == 45) = false) :
    Calls Tryz.prog 94 #[.string T] w fun e w' => e = .returned (.tuple #[.int .i64 (parseT false T.data.toList).1, .int .i64 ((parseT false T.data.toList).2 : Int)]) ∧ w = w' := by
  have he : T.data.toList.isEmpty = false := by rw [List.isEmpty_eq_false_iff]; intro h; have := size_list T; rw [h] at this; simp at this; omega
  have hne : T.data.toList ≠ [] := by intro h; rw [h] at he; cases he
  have he' : T.toList.isEmpty = false := by rw [ByteArray.toList_eq]; exact he
  have hsz : T.data.toList.length = T.size := size_list T
  have hhead : T.data.toList.head? = some T[0] := by
    rw [List.head?_eq_getElem?, List.getElem?_eq_getElem (by rw [size_list]; exact hpos)]; rfl
  have HNE := Lib.hid hne
  have HSZ := Lib.hid hsz
  have HH := Lib.hid hhead
  clear hne hsz hhead
  go_enter Tryz.func94, Tryz.ntmps94
  go_wp2
  go_loop [6] (fun i => ∃ k : Nat, k ≤ T.size ∧ i = .int .i64 k ∧ Hid (∀ c ∈ T.data.toList.take k, isDig c = true)) (fun i => T.size - (intOf i).toNat)
  case atStart => exact ⟨0, Nat.zero_le _, rfl, fun c hc => by simp at hc⟩
  case round =>
    obtain ⟨k, hk, rfl, hno⟩ := hrel
    by_cases hlt : k < T.size
    · have hcall := rdigit_c T[k] w
      cases hq : isDig T[k] with
      | false =>
        rw [hq] at hcall
        have F : Hid (parseT false T.data.toList = (0, 33)) := by
          show _ = _
          unfold parseT
          rw [if_neg HNE.out, if_pos (allDig_no (mem_at T k hlt) hq)]
        clear hq
        go_wp2_with (go_at_call 68; refine hcall.mono ?_; rintro e w' ⟨rfl, rfl⟩)
        go_ret2
        exact ⟨by rw [F.out]; rfl, rfl⟩
      | true =>
        rw [hq] at hcall
        have F : Hid (∀ c ∈ T.data.toList.take (k + 1), isDig c = true) := by
          intro c hc
          rw [take_at T k hlt] at hc
          rcases List.mem_append.1 hc with hc | hc
          · exact hno.out c hc
          · rw [List.mem_singleton.1 hc]; exact hq
        clear hq
        go_wp2_with (go_at_call 68; refine hcall.mono ?_; rintro e w' ⟨rfl, rfl⟩)
        go_round
        case rel => exact ⟨k + 1, by omega, by go_num, F⟩
        case measure => simp [intOf]; omega
    · have hke : T.data.toList.take k = T.data.toList := List.take_of_length_le (by rw [size_list]; omega)
      have hmem : Hid (∀ c ∈ T.data.toList, isDig c = true) := by
        have := hno.out
        rw [hke] at this
        exact this
      clear hke hno
      have hall : Hid (¬ allDig T.data.toList = false) := by
        show ¬ _
        rw [allDig_of hmem.out]; simp
      by_cases h48 : T[0] = 48
      · have h48' : ((T[0].toNat : Int) == 48) = true := by rw [h48]; rfl
        have H48 : Hid (T.data.toList.head? = some 48) := by show _ = _; rw [HH.out, h48]
        clear h48
        by_cases hone : 1 < T.size
        · have F : Hid (parseT false T.data.toList = (0, 33)) := by
            show _ = _
            unfold parseT
            rw [if_neg HNE.out, if_neg hall.out, if_pos ⟨H48.out, .inr (by rw [HSZ.out]; exact hone)⟩]
          go_wp2
          go_ret2
          exact ⟨by rw [F.out]; rfl, rfl⟩
        · have H49 : Hid (¬ (T.data.toList.head? = some 48 ∧ (false = true ∨ 1 < T.data.toList.length))) := by
            rintro ⟨_, h | h⟩
            · cases h
            · exact hone (by rw [← HSZ.out]; exact h)
          clear H48
          have H48 := H49
          clear H49
          by_cases h19 : 19 < T.size
          · exact absurd h19 (by omega)
          · have F : Hid (parseT false T.data.toList = signedL (valD T.data.toList) false) := by
              show _ = _
              unfold parseT
              rw [if_neg HNE.out, if_neg hall.out, if_neg H48.out, if_neg (by rw [HSZ.out]; exact h19)]
            have HV : Hid (valD T.data.toList < 10000000000000000000) := valD_all hmem.out (by rw [HSZ.out]; omega)
            go_wp2
            go_loop [7, 8] (fun n i => ∃ k : Nat, k ≤ T.size ∧ i = .int .i64 k ∧ n = .int .u64 (valD (T.data.toList.take k) : Nat)) (fun _ i => T.size - (intOf i).toNat)
            case atStart => exact ⟨0, Nat.zero_le _, rfl, rfl⟩
            case round =>
              obtain ⟨k, hk, rfl, rfl⟩ := hrel
              by_cases hlt : k < T.size
              · have hv := valD_take k hmem.out (show k ≤ 18 by omega)
                have hdk := of_decide_eq_true (hmem.out _ (mem_at T k hlt))
                have HV : Hid (valD (T.data.toList.take (k + 1)) = valD (T.data.toList.take k) * 10 + cnt T[k]) := by show _ = _; rw [take_at T k hlt, valD_snoc]
                obtain ⟨hc0, hc1⟩ := hdk
                generalize valD (T.data.toList.take k) = v at hv HV
                go_wp2
                go_round
                case rel =>
                  refine ⟨k + 1, by omega, by go_num, ?_⟩
                  rw [HV.out]
                  congr 1
                  unfold cnt
                  omega
                case measure => simp [intOf]; omega
              · have hke : T.data.toList.take k = T.data.toList := List.take_of_length_le (by rw [size_list]; omega)
                rw [hke]
                clear hke
                have hv := HV.out
                generalize valD T.data.toList = v at F hv
                clear HV
                have HR := Lib.hid F.out
                clear F
                by_cases hb : v ≤ 9223372036854775807
                · have G : Hid (signedL v false = ((v : Int), 0)) := by show _ = _; unfold signedL; rw [if_neg (by simp), if_pos hb]
                  have hb' : decide ((9223372036854775808 : Int) ≤ (v : Int)) = false := decide_eq_false (by omega)
                  have HB := Lib.hid hb
                  clear hb
                  go_wp2
                  go_ret2
                  refine ⟨?_, rfl⟩
                  rw [HR.out, G.out]
                  exact ret2 (by have := HB.out; unfold wrap64; show _ = (v : Int); omega) rfl
                · have G : Hid (signedL v false = (0, 4)) := by show _ = _; unfold signedL; rw [if_neg (by simp), if_neg hb]
                  have hb' : decide ((9223372036854775808 : Int) ≤ (v : Int)) = true := decide_eq_true (by omega)
                  clear hb
                  go_wp2
                  go_ret2
                  exact ⟨by rw [HR.out, G.out]; rfl, rfl⟩
      · have h48' : ((T[0].toNat : Int) == 48) = false := by
          rw [beq_eq_false_iff_ne]
          intro e
          apply h48
          apply UInt8.toNat_inj.1
          have : (48 : UInt8).toNat = 48 := rfl
          omega
        have H48 : Hid (¬ (T.data.toList.head? = some 48 ∧ (false = true ∨ 1 < T.data.toList.length))) := fun h => h48 (Option.some.inj (HH.out.symm.trans h.1))
        clear h48
        by_cases h19 : 19 < T.size
        · have F : Hid (parseT false T.data.toList = (0, 4)) := by
            show _ = _
            unfold parseT
            rw [if_neg HNE.out, if_neg hall.out, if_neg H48.out, if_pos (by rw [HSZ.out]; exact h19)]
          go_wp2
          go_ret2
          exact ⟨by rw [F.out]; rfl, rfl⟩
        · have F : Hid (parseT false T.data.toList = signedL (valD T.data.toList) false) := by
            show _ = _
            unfold parseT
            rw [if_neg HNE.out, if_neg hall.out, if_neg H48.out, if_neg (by rw [HSZ.out]; exact h19)]
          have HV : Hid (valD T.data.toList < 10000000000000000000) := valD_all hmem.out (by rw [HSZ.out]; omega)
          go_wp2
          go_loop [7, 8] (fun n i => ∃ k : Nat, k ≤ T.size ∧ i = .int .i64 k ∧ n = .int .u64 (valD (T.data.toList.take k) : Nat)) (fun _ i => T.size - (intOf i).toNat)
          case atStart => exact ⟨0, Nat.zero_le _, rfl, rfl⟩
          case round =>
            obtain ⟨k, hk, rfl, rfl⟩ := hrel
            by_cases hlt : k < T.size
            · have hv := valD_take k hmem.out (show k ≤ 18 by omega)
              have hdk := of_decide_eq_true (hmem.out _ (mem_at T k hlt))
              have HV : Hid (valD (T.data.toList.take (k + 1)) = valD (T.data.toList.take k) * 10 + cnt T[k]) := by show _ = _; rw [take_at T k hlt, valD_snoc]
              obtain ⟨hc0, hc1⟩ := hdk
              generalize valD (T.data.toList.take k) = v at hv HV
              go_wp2
              go_round
              case rel =>
                refine ⟨k + 1, by omega, by go_num, ?_⟩
                rw [HV.out]
                congr 1
                unfold cnt
                omega
              case measure => simp [intOf]; omega
            · have hke : T.data.toList.take k = T.data.toList := List.take_of_length_le (by rw [size_list]; omega)
              rw [hke]
              clear hke
              have hv := HV.out
              generalize valD T.data.toList = v at F hv
              clear HV
              have HR := Lib.hid F.out
              clear F
              by_cases hb : v ≤ 9223372036854775807
              · have G : Hid (signedL v false = ((v : Int), 0)) := by show _ = _; unfold signedL; rw [if_neg (by simp), if_pos hb]
                have hb' : decide ((9223372036854775808 : Int) ≤ (v : Int)) = false := decide_eq_false (by omega)
                have HB := Lib.hid hb
                clear hb
                go_wp2
                go_ret2
                refine ⟨?_, rfl⟩
                rw [HR.out, G.out]
                exact ret2 (by have := HB.out; unfold wrap64; show _ = (v : Int); omega) rfl
              · have G : Hid (signedL v false = (0, 4)) := by show _ = _; unfold signedL; rw [if_neg (by simp), if_neg hb]
                have hb' : decide ((9223372036854775808 : Int) ≤ (v : Int)) = true := decide_eq_true (by omega)
                clear hb
                go_wp2
                go_ret2
                exact ⟨by rw [HR.out, G.out]; rfl, rfl⟩


theorem tail_list (s : ByteArray) : (s.extract 1 s.size).data.toList = s.data.toList.tail := by
  rw [ByteArray.data_extract, Array.toList_extract]
  have := size_list s
  simp only [List.extract_eq_take_drop]
  rw [List.drop_one, List.take_of_length_le (by rw [List.length_tail]; omega)]
theorem tail_text (s : ByteArray) : s.extract 1 s.size = S s.data.toList.tail := by
  rw [← tail_list, S_list]

theorem rparse_c (s : ByteArray) (w : World) (hs : s.size ≤ 9223372036854775807) :
    Calls Tryz.prog 94 #[.string s] w fun e w' => e = .returned (.tuple #[.int .i64 (parseL s.data.toList).1, .int .i64 ((parseL s.data.toList).2 : Int)]) ∧ w = w' := by
  by_cases h0 : s.size = 0
  · have hs : s = ⟨#[]⟩ := by
      apply ByteArray.ext
      exact Array.eq_empty_of_size_eq_zero h0
    subst hs
    go_enter Tryz.func94, Tryz.ntmps94
    go_wp2
    go_ret2
    exact ⟨rfl, rfl⟩
  · have hpos : 0 < s.size := by omega
    have hhead : s.data.toList.head? = some s[0] := by
      rw [List.head?_eq_getElem?, List.getElem?_eq_getElem (by rw [size_list]; exact hpos)]; rfl
    by_cases h45 : s[0] = 45
    · have h45' : ((s[0].toNat : Int) == 45) = true := by rw [h45]; rfl
      have E : parseL s.data.toList = parseT true s.data.toList.tail := by unfold parseL; rw [if_pos (by rw [hhead, h45])]
      rw [E]
      have hcut : ∀ w, (Instr.slice 9 (.string s) (some (.int .i64 1)) none none).run Tryz.prog w = .ok (.string (S s.data.toList.tail)) w := by
        intro w
        rw [← tail_text s, run_slice_string_from_if w 9 s .i64 1 Tryz.underlying9, if_pos (by omega)]
        rfl
      by_cases h1 : s.data.toList.tail = []
      · rw [h1] at hcut ⊢
        clear E hhead h45 h1 h0
        go_enter Tryz.func94, Tryz.ntmps94
        go_wp2
        go_ret2
        exact ⟨rfl, rfl⟩
      · have hl : s.data.toList.tail.length ≤ 9223372036854775807 := by rw [List.length_tail, size_list]; omega
        have := rparse_minus s (S s.data.toList.tail) w (by rw [size_S]; exact hl) hpos h45' (by rw [size_S]; exact List.length_pos_iff.2 h1) hcut
        exact this
    · have h45' : ((s[0].toNat : Int) == 45) = false := by
        rw [beq_eq_false_iff_ne]
        intro e
        apply h45
        apply UInt8.toNat_inj.1
        have : (45 : UInt8).toNat = 45 := rfl
        omega
      have E : parseL s.data.toList = parseT false s.data.toList := by unfold parseL; rw [if_neg (by rw [hhead]; intro e; exact h45 (Option.some.inj e))]
      rw [E]
      exact rparse_plain s w hs hpos h45'
end Go.Proofs.YtmccbcficbbidaaGreatDoor.Num

/-
  Plain facts on digits of base 16, with no program.
-/
namespace Go.Proofs.YtmccbcficbbidaaGreatDoor.Oct
open Go.RowKit

/-- A number of 64 bits, in two's complement. -/
def u64 (n : Int) : Nat := (n % 18446744073709551616).toNat
theorem u64_lt (n : Int) : u64 n < 18446744073709551616 := by unfold u64; omega
theorem u64_wrap (n : Int) : IntKind.u64.wrap n = ((u64 n : Nat) : Int) := by rw [IntKind.wrap_u64]; unfold u64; omega

def hexDig (d : Nat) : UInt8 := at' ⟨#[48, 49, 50, 51, 52, 53, 54, 55, 56, 57, 97, 98, 99, 100, 101, 102]⟩ d
/-- The lowest digits of u. -/
def hexL (u size : Nat) : List UInt8 := (List.range size).map fun k => hexDig (u / 2 ^ (4 * (size - 1 - k)) % 16)
/-- A size as the nearest of 0 to 16. -/
def clamp (size : Int) : Nat := (min (max size 0) 16).toNat
theorem clamp_le (size : Int) : clamp size ≤ 16 := by unfold clamp; omega
theorem clamp_eq (size : Int) : min (max size 0) 16 = ((clamp size : Nat) : Int) := by unfold clamp; omega

theorem hexL_length (u n : Nat) : (hexL u n).length = n := by simp [hexL]
theorem hexL_cons (u k : Nat) : hexL u (k + 1) = hexDig (u / 16 ^ k % 16) :: hexL u k := by
  unfold hexL
  rw [List.range_succ_eq_map, List.map_cons, List.map_map]
  congr 1
  · have e : 2 ^ (4 * (k + 1 - 1 - 0)) = 16 ^ k := by
      rw [show k + 1 - 1 - 0 = k by omega, Nat.pow_mul]
    rw [e]
  · apply List.map_congr_left
    intro j hj
    simp only [Function.comp]
    rw [show k + 1 - 1 - (j + 1) = k - 1 - j by omega]

theorem digit_cut (d : Nat) (h : d < 16) : (⟨#[48, 49, 50, 51, 52, 53, 54, 55, 56, 57, 97, 98, 99, 100, 101, 102]⟩ : ByteArray).extract d (d + 1) = S [hexDig d] := by
  have : ∀ d : Fin 16, (⟨#[48, 49, 50, 51, 52, 53, 54, 55, 56, 57, 97, 98, 99, 100, 101, 102]⟩ : ByteArray).extract d.val (d.val + 1) = S [hexDig d.val] := by decide +kernel
  exact this ⟨d, h⟩
end Go.Proofs.YtmccbcficbbidaaGreatDoor.Oct

/-
  Contract of octets.Hex: the lowest digits of base 16, in two's complement.
-/
namespace Go.Proofs.YtmccbcficbbidaaGreatDoor.Oct
open Go.RowKit

theorem wraps_u64 (n : Int) (h₀ : 0 ≤ n) (h₁ : n < 2 ^ 64) : IntKind.u64.wrap n = n := by rw [IntKind.wrap_u64]; omega
theorem and15 (m e : Nat) (hm : m < 18446744073709551616) : bits .and .u64 ((m : Int) / 2 ^ e) 15 = ((m / 2 ^ e % 16 : Nat) : Int) := by
  have e1 : ((m : Int) / 2 ^ e) = ((m / 2 ^ e : Nat) : Int) := by simp
  have hle : m / 2 ^ e ≤ m := Nat.div_le_self _ _
  rw [e1]
  generalize m / 2 ^ e = x at hle
  have h := bits_mask .u64 64 (by decide) wraps_u64 4 (by decide) (x : Int) (by omega) (by omega)
  have e2 : ((2 : Int) ^ 4 - 1) = 15 := by decide
  rw [e2] at h
  rw [h]
  omega

end Go.Proofs.YtmccbcficbbidaaGreatDoor.Oct

/-
  Contract of octets.Unhex: the number whose digits of base 16 a text is.
-/
namespace Go.Proofs.YtmccbcficbbidaaGreatDoor.Oct
open Go.RowKit

def hexC (c : UInt8) : Int := hexI (c.toNat : Int)
def valL (l : List UInt8) : Nat := l.foldl (fun n c => n * 16 + (hexC c).toNat) 0
/-- The number, and the error's. -/
def unhexL (l : List UInt8) : Nat × Nat :=
  if l = [] then (0, 8) else if 8 < l.length then (0, 5) else if l.all (fun c => decide (0 ≤ hexC c)) then (valL l, 0) else (0, 33)

theorem hexC_le (c : UInt8) : hexC c ≤ 15 := (hexI_range _).2
theorem valL_snoc (l : List UInt8) (c : UInt8) : valL (l ++ [c]) = valL l * 16 + (hexC c).toNat := by simp [valL]
theorem valL_lt (l : List UInt8) : valL l < 16 ^ l.length := by
  have gen : ∀ (l : List UInt8) (a e : Nat), a < 16 ^ e → l.foldl (fun n c => n * 16 + (hexC c).toNat) a < 16 ^ (e + l.length) := by
    intro l
    induction l with
    | nil => intro a e h; simpa using h
    | cons c l ih =>
      intro a e h
      have hc := hexC_le c
      have := ih (a * 16 + (hexC c).toNat) (e + 1) (by rw [Nat.pow_succ]; omega)
      rw [List.foldl_cons, List.length_cons, show e + (l.length + 1) = e + 1 + l.length by omega]
      exact this
  have := gen l 0 0 (by simp)
  simpa [valL] using this
theorem valL_le (l : List UInt8) (k : Nat) (h : k ≤ 7) : valL (l.take k) < 268435456 := by
  have h1 := valL_lt (l.take k)
  have h2 : (l.take k).length ≤ 7 := by rw [List.length_take]; omega
  have h3 : 16 ^ (l.take k).length ≤ 16 ^ 7 := Nat.pow_le_pow_right (by omega) h2
  omega
theorem take_at (s : ByteArray) (k : Nat) (h : k < s.size) : s.data.toList.take (k + 1) = s.data.toList.take k ++ [s[k]] := by
  rw [List.take_succ_eq_append_getElem (by rw [size_list]; exact h)]; rfl

theorem unhex_none (s : ByteArray) : (firstOf (fun k => decide (hexC (at' s k) < 0)) 0 s.size == s.size) = s.data.toList.all (fun c => decide (0 ≤ hexC c)) := by
  rw [firstOf_all, ← all_at]
  congr 1
  funext k
  rw [Bool.eq_iff_iff]; simp

theorem or_digit (x : Int) (y : Int) (h0 : 0 ≤ x) (h1 : x ≤ 268435456) (h2 : 0 ≤ y) (h3 : y ≤ 15) : bits .or .i64 (x * 16) y = x * 16 + y := by
  exact bits_join .i64 62 (by decide) (fun n h0 h1 => by rw [IntKind.wrap_i64]; omega) 4 (x * 16) y (by omega) (by omega) (by omega) h2 (by omega) (by omega)

end Go.Proofs.YtmccbcficbbidaaGreatDoor.Oct

/-
  Contracts of the page's answers on texts: small and great letters.
-/
namespace Go.Proofs.YtmccbcficbbidaaGreatDoor.Oct
open Go.RowKit

theorem map_get (s : ByteArray) (k : Nat) (f : UInt8 → UInt8) (h : k < s.size) : (s.data.toList.map f)[k]? = some (f s[k]) := by
  rw [List.getElem?_map, List.getElem?_eq_getElem (by rw [size_list]; exact h)]
  rfl

end Go.Proofs.YtmccbcficbbidaaGreatDoor.Oct
