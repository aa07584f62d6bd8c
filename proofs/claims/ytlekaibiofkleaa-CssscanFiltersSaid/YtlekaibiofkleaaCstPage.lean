/-
  Contracts of the page's Styled and Style (muslinref06): which texts are plain, a text filtered.
-/
import Derived.Test.YtlekaibiofkleaaCssPure
import Derived.Test.YtlekaibiofkleaaFindPage
import Derived.Test.YtlekaibiofkleaaPgOct
import Derived.Test.YtlekaibiofkleaaRefTexts
import Derived.Test.YtlekaibiofkleaaCrfPage
namespace Go.Proofs.Ytlekaibiofkleaa.Css
open Go.RowKit Go.Proofs.Ytlekaibiofkleaa.Oct Go.Proofs.Ytlekaibiofkleaa.Lex

theorem ok_table : ∀ k : Fin 256, okC (low (UInt8.ofNat k.val)) = okC (UInt8.ofNat k.val) := by decide +kernel
theorem ok_low (c : UInt8) : okC (low c) = okC c := by
  have h := ok_table ⟨c.toNat, c.toNat_lt⟩
  rw [UInt8.ofNat_toNat] at h
  exact h
theorem all_low (l : List UInt8) : (l.map low).all okC = l.all okC := by
  rw [List.all_map]
  congr 1
  funext c
  exact ok_low c
abbrev sigL : List UInt8 := [32, 46, 44, 37, 35, 43, 45]
theorem sig_table : ∀ k : Fin 256, okC (UInt8.ofNat k.val) = (letterI (k.val : Int) || digitI (k.val : Int) || sigL.contains (UInt8.ofNat k.val)) := by decide +kernel
theorem ok_split (c : UInt8) : okC c = (letterI (c.toNat : Int) || digitI (c.toNat : Int) || sigL.contains c) := by
  have h := sig_table ⟨c.toNat, c.toNat_lt⟩
  rw [UInt8.ofNat_toNat] at h
  exact h
theorem sub_find (p : List UInt8) : ∀ l, (findL p l).isSome = hasSub p l
  | [] => by
    unfold findL hasSub
    cases p <;> rfl
  | c :: t => by
    unfold findL hasSub
    by_cases h : p.isPrefixOf (c :: t) = true
    · rw [if_pos h, h]; rfl
    · rw [if_neg h, Option.isSome_map, sub_find p t]
      simp only [Bool.not_eq_true] at h
      rw [h]; rfl
theorem find_neg (p l : List UInt8) : decide (findI p l < 0) = !hasSub p l := by
  rw [← sub_find]
  unfold findI
  cases findL p l with
  | none => rfl
  | some n =>
    simp
theorem all_no {l : List UInt8} {k : Nat} {x : UInt8} (hk : l[k]? = some x) (h : okC x = false) : l.all okC = false := by
  cases ha : l.all okC with
  | false => rfl
  | true =>
    rw [List.all_eq_true] at ha
    rw [ha _ (List.mem_of_getElem? hk)] at h
    cases h
theorem all_yes {l : List UInt8} (h : ∀ j x, j < l.length → l[j]? = some x → okC x = true) : l.all okC = true := by
  rw [List.all_eq_true]
  intro x hx
  obtain ⟨j, hj, rfl⟩ := List.getElem_of_mem hx
  exact h j _ hj (List.getElem?_eq_getElem hj)

set_option maxHeartbeats 2000000 in
set_option maxRecDepth 100000 in
theorem rstyled_c (l : List UInt8) (hl : l.length ≤ 140737488351232) (w : World) :
    Calls Try.prog 11 #[.string (S l)] w fun e w' => e = .returned (.bool (plainB l)) ∧ Below w.heap.size w w' := by
  have hlow := fun w => rlower_c (S l) w (by rw [size_S]; exact hl)
  rw [list_S] at hlow
  have hx := fun w => rfind_c (l.map low) expL (by rw [List.length_map]; omega) (by decide) w
  have hu := fun w => rfind_c (l.map low) urlL (by rw [List.length_map]; omega) (by decide) w
  have E : Hid (plainB l = (decide (l.length ≤ 4096) && (l.map low).all okC && decide (findI expL (l.map low) < 0) && decide (findI urlL (l.map low) < 0))) := by
    show _ = _
    rw [all_low, find_neg, find_neg]
    rfl
  have z1 : ((S l).size : Int) = (l.length : Int) := by rw [size_S]
  have z2 : ((S (l.map low)).size : Int) = ((l.map low).length : Int) := by rw [size_S]
  have hli : ((l.map low).length : Int) ≤ 140737488351232 := by rw [List.length_map]; omega
  have zz : ((l.map low).length : Int) = (l.length : Int) := by rw [List.length_map]
  generalize plainB l = ans at E ⊢
  generalize findI expL (l.map low) = f1 at hx E
  generalize findI urlL (l.map low) = f2 at hu E
  have HL : Hid (∀ k (h : k < (S (l.map low)).size), (l.map low)[k]? = some (S (l.map low))[k]) := by
    show ∀ k, _
    intro k h
    have h2 := h
    rw [size_S] at h2
    rw [List.getElem?_eq_getElem h2]
    rfl
  generalize l.map low = t at *
  generalize S l = L at *
  have hhas := fun (c : UInt8) w => Crf.rhas_c (S sigL) c (by decide) w
  rw [list_S] at hhas
  go_enter Try.func11, Try.ntmps11
  go_wp2_with fail
  refine (hlow _).mono ?_
  rintro e w1 ⟨rfl, hb1⟩
  have B1 := Lib.hid hb1
  have hsz : (S t).size = t.length := size_S t
  clear hb1 hlow
  generalize S t = T at *
  go_wp2_with fail
  go_loop [4] (fun i => ∃ k : Nat, k ≤ T.size ∧ i = .int .i64 k ∧ Hid (∀ j x, j < k → t[j]? = some x → okC x = true)) (fun i => T.size - (intOf i).toNat)
  case atStart => exact ⟨0, Nat.zero_le _, rfl, fun j _ h => absurd h (by omega)⟩
  case round =>
    obtain ⟨k, hk, rfl, hno⟩ := hrel
    by_cases hlt : k < T.size
    · have hx1 := HL.out k hlt
      have hc0 : (0 : Int) ≤ (T[k].toNat : Int) := by omega
      have hc1 : (T[k].toNat : Int) ≤ 255 := by have := T[k].toNat_lt; omega
      have hq := ok_split T[k]
      have hle := fun w => rletter_c (T[k].toNat : Int) w hc0 hc1
      have hdi := fun w => rdigit_c (T[k].toNat : Int) w hc0 hc1
      have hha := fun w => hhas T[k] w
      have hb : Crf.hasB sigL T[k] = sigL.contains T[k] := rfl
      rw [hb] at hha
      have HY : okC T[k] = true → Hid (∀ j x, j < k + 1 → t[j]? = some x → okC x = true) := fun hy j x hj hxj => by
        rcases Nat.lt_or_ge j k with h | h
        · exact hno.out j x h hxj
        · obtain rfl : j = k := by omega
          rw [hx1] at hxj
          injection hxj with e
          rw [← e]
          exact hy
      have HN : okC T[k] = false → Hid (ans = false) := fun hy => by
        show _ = _
        rw [E.out, all_no hx1 hy]
        simp
      clear hx1 hx hu hhas hb
      cases b1 : letterI (T[k].toNat : Int) with
      | true =>
        rw [b1] at hq hle
        have H := HY (by rw [hq]; rfl)
        clear HY HN hq hdi hha b1
        go_wp2_with fail
        refine (hle _).mono ?_
        rintro e w2 ⟨rfl, rfl⟩
        go_wp2_with fail
        go_round
        case rel => exact ⟨k + 1, by omega, by go_num, H⟩
        case measure => simp [intOf]; omega
      | false =>
        rw [b1] at hq hle
        cases b2 : digitI (T[k].toNat : Int) with
        | true =>
          rw [b2] at hq hdi
          have H := HY (by rw [hq]; rfl)
          clear HY HN hq hha b1 b2
          go_wp2_with fail
          refine (hle _).mono ?_
          rintro e w2 ⟨rfl, rfl⟩
          go_wp2_with fail
          refine (hdi _).mono ?_
          rintro e w2 ⟨rfl, rfl⟩
          go_wp2_with fail
          go_round
          case rel => exact ⟨k + 1, by omega, by go_num, H⟩
          case measure => simp [intOf]; omega
        | false =>
          rw [b2] at hq hdi
          generalize sigL.contains T[k] = b3 at hq hha
          cases b3 with
          | true =>
            have H := HY (by rw [hq]; rfl)
            clear HY HN hq b1 b2
            go_wp2_with fail
            refine (hle _).mono ?_
            rintro e w2 ⟨rfl, rfl⟩
            go_wp2_with fail
            refine (hdi _).mono ?_
            rintro e w2 ⟨rfl, rfl⟩
            go_wp2_with fail
            refine (hha _).mono ?_
            rintro e w2 ⟨rfl, rfl⟩
            go_wp2_with fail
            go_round
            case rel => exact ⟨k + 1, by omega, by go_num, H⟩
            case measure => simp [intOf]; omega
          | false =>
            have H := HN (by rw [hq]; rfl)
            clear HY HN hq b1 b2
            go_wp2_with fail
            refine (hle _).mono ?_
            rintro e w2 ⟨rfl, rfl⟩
            go_wp2_with fail
            refine (hdi _).mono ?_
            rintro e w2 ⟨rfl, rfl⟩
            go_wp2_with fail
            refine (hha _).mono ?_
            rintro e w2 ⟨rfl, rfl⟩
            go_wp2_with fail
            go_ret
            exact ⟨ret_bool H.out.symm, B1.out⟩
    · have HA : Hid (ans = (decide (l.length ≤ 4096) && decide (f1 < 0) && decide (f2 < 0))) := by
        show _ = _
        rw [E.out, all_yes fun j x hj hx2 => hno.out j x (by omega) hx2, Bool.and_true]
      clear hno E
      by_cases h1 : l.length ≤ 4096
      · rw [decide_eq_true h1, Bool.true_and] at HA
        have h1i : (l.length : Int) ≤ 4096 := by omega
        clear h1
        by_cases h2 : f1 < 0
        · rw [decide_eq_true h2, Bool.true_and] at HA
          go_wp2_with fail
          refine (hx _).mono ?_
          rintro e w2 ⟨rfl, rfl⟩
          go_wp2_with fail
          refine (hu _).mono ?_
          rintro e w2 ⟨rfl, rfl⟩
          go_wp2_with fail
          go_ret
          exact ⟨ret_bool HA.out.symm, B1.out⟩
        · rw [decide_eq_false h2, Bool.false_and] at HA
          have h2i : (0 : Int) ≤ f1 := by omega
          clear h2
          go_wp2_with fail
          refine (hx _).mono ?_
          rintro e w2 ⟨rfl, rfl⟩
          go_wp2_with fail
          go_ret
          exact ⟨ret_bool HA.out.symm, B1.out⟩
      · rw [decide_eq_false h1, Bool.false_and, Bool.false_and] at HA
        have h1i : (4096 : Int) < (l.length : Int) := by omega
        clear h1
        go_wp2_with fail
        go_ret
        exact ⟨ret_bool HA.out.symm, B1.out⟩

theorem rstyle_c (l : List UInt8) (hl : l.length ≤ 140737488351232) (w : World) :
    Calls Try.prog 7 #[.string (S l)] w fun e w' => e = .returned (.string (S (filtC l))) ∧ Below w.heap.size w w' := by
  have h := fun w => rstyled_c l hl w
  cases hp : plainB l with
  | true =>
    have e : filtC l = l := by unfold filtC; rw [if_pos hp]
    rw [e]
    rw [hp] at h
    clear e hp hl
    generalize S l = L at *
    go_enter Try.func7, Try.ntmps7
    go_wp2_with fail
    refine (h _).mono ?_
    rintro e w2 ⟨rfl, hb⟩
    go_wp2_with fail
    go_ret
    exact ⟨rfl, hb⟩
  | false =>
    have e : filtC l = markC := by unfold filtC; rw [if_neg (by rw [hp]; simp)]
    rw [e]
    rw [hp] at h
    clear e hp hl
    generalize S l = L at *
    go_enter Try.func7, Try.ntmps7
    go_wp2_with fail
    refine (h _).mono ?_
    rintro e w2 ⟨rfl, hb⟩
    go_wp2_with fail
    go_ret
    exact ⟨rfl, hb⟩
end Go.Proofs.Ytlekaibiofkleaa.Css
