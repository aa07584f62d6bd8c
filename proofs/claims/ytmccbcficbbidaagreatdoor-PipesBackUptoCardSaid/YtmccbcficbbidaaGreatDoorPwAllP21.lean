/-
  Part 21: PwRef4.
-/
import Derived.Test.YtmccbcficbbidaaGreatDoorPwAllP20
/-
  Contract of the page's word: a number, a sign, a text; the whole.
-/
namespace Go.Proofs.YtmccbcficbbidaaGreatDoor.Pwr
open Go.RowKit Go.Proofs.YtmccbcficbbidaaGreatDoor.Oct Go.Proofs.YtmccbcficbbidaaGreatDoor.Lex Go.Proofs.YtmccbcficbbidaaGreatDoor.Lxw
open Go.Proofs.YtmccbcficbbidaaGreatDoor.Num (parseL)

set_option maxHeartbeats 1000000 in
set_option maxRecDepth 100000 in
theorem rword_d {l : List UInt8} {k : Nat} (hk : k < l.length) (hl : l.length ≤ 4194304) (hc : l[k] = 45) (w : World) :
    Calls Tryz.prog 61 #[.string (S l), .int .i64 (k : Int)] w fun e w' => RWordTo l k e ∧ Below w.heap.size w w' := by
  have hsz : ((S l).size : Int) = (l.length : Int) := by rw [size_S]
  have hsn : (S l).size = l.length := size_S l
  have HCut := Lib.hid (fun q => cutMid l k q)
  have i0 : (0 : Int) ≤ (k : Int) := by omega
  have i1 : (k : Int) ≤ 4194304 := by omega
  have i2 : (k : Int) < (l.length : Int) := by omega
  have h1 := at_S l k hk
  obtain ⟨m, hm⟩ : ∃ m, m = k + 1 := ⟨_, rfl⟩
  have hmi : (k : Int) + 1 = (m : Int) := by omega
  have hmle : (m : Int) ≤ 4194304 := by omega
  have e1 : ((l[k]).toNat : Int) = 45 := by rw [hc]; rfl
  have hb : begB l[k] = false := by rw [hc]; decide
  have HR := Lib.hid (word_num hk (by rw [hc]; decide) (by rw [hc]; decide) (by rw [hc]; decide) (.inl hc))
  have hbe : ∀ W, Calls Tryz.prog 91 #[.string (S l), .int .i64 (k : Int)] W fun e w' => e = .returned (.bool false) ∧ W = w' := fun W => by
    have h := rbegin_c l k (by omega) W
    rw [nextO_at hk, hb] at h
    exact h
  have hdi : ∀ W, Calls Tryz.prog 68 #[.int .u8 45] W fun e w' => e = .returned (.bool false) ∧ W = w' := fun W => rdigit_c 45 W (by decide) (by decide)
  have HDi := Lib.hid (fun (c : UInt8) W => rdigit_c (c.toNat : Int) W (by omega) (by have := c.toNat_lt; omega))
  have HAt := Lib.hid (fun k (h : k < l.length) => at_S l k h)
  obtain ⟨q, hq⟩ : ∃ q, q = m + twN digC l m := ⟨_, rfl⟩
  have HQ := Lib.hid hq
  have hql : q ≤ l.length := by rw [hq]; exact twN_le digC l m (by omega)
  have hml : m ≤ l.length := by omega
  have hmq : m ≤ q := by omega
  have hkq : k ≤ q := by omega
  have j2 : (k : Int) ≤ (q : Int) := by omega
  have j3 : (q : Int) ≤ (l.length : Int) := by omega
  have hpa := fun W => Num.rparse_c ((S l).extract k q) W (by rw [cutMid, size_S, List.length_drop, List.length_take]; omega)
  rw [cutMid, list_S, ← cutMid] at hpa
  have HE : Hid (((parseL ((l.take q).drop k)).2 = 0 ∧ wordL (l.drop k) = .ok (⟨4, (l.take q).drop k⟩, q - k)) ∨ ((parseL ((l.take q).drop k)).2 ≠ 0 ∧ ∃ y, wordL (l.drop k) = .error y)) := by
    show _ ∨ _
    have HN : numE l k = if (parseL ((l.take q).drop k)).2 = 0 then .ok q else .error 33 := by
      unfold numE
      rw [← hm, ← hq]
    by_cases h0 : (parseL ((l.take q).drop k)).2 = 0
    · rw [if_pos h0] at HN
      rcases HR.out with ⟨q', hE, _, _, hw⟩ | ⟨x, y, hE, _⟩
      · rw [HN] at hE
        obtain rfl : q = q' := by injection hE
        exact .inl ⟨h0, hw⟩
      · rw [HN] at hE
        cases hE
    · rw [if_neg h0] at HN
      rcases HR.out with ⟨q', hE, _, _, hw⟩ | ⟨x, y, hE, hw⟩
      · rw [HN] at hE
        cases hE
      · exact .inr ⟨h0, y, hw⟩
  clear hc hb hq hm HR
  go_enter Tryz.func61, Tryz.ntmps61
  go_wp2_with (first
    | (go_at_call 91; refine (hbe _).mono ?_; rintro e w' ⟨rfl, rfl⟩)
    | (go_at_call 68; refine (hdi _).mono ?_; rintro e w' ⟨rfl, rfl⟩))
  go_loop [9] (fun i => ∃ j : Nat, m ≤ j ∧ j ≤ l.length ∧ i = .int .i64 j ∧ Hid (q = j + twN digC l j)) (fun i => l.length - (intOf i).toNat)
  case atStart => exact ⟨m, Nat.le_refl _, hml, rfl, HQ.out⟩
  case round =>
    obtain ⟨j, hmj, hj, rfl, hE⟩ := hrel
    have y0 : (0 : Int) ≤ (j : Int) := by omega
    have y1 : (j : Int) ≤ 4194304 := by omega
    by_cases hlt : j < l.length ∧ digC (nextO l j) = true
    · obtain ⟨hlt, hg⟩ := hlt
      have x1 := HAt.out j hlt
      have hdj := HDi.out l[j]
      have hst := twN_step (p := digC) (by decide) l j
      rw [nextO_at hlt] at hst hg
      replace hdj : ∀ w, Calls Tryz.prog 68 #[.int .u8 ((l[j]).toNat : Int)] w fun e w' => e = .returned (.bool (digC l[j])) ∧ w = w' := hdj
      rw [hg] at hdj
      have HN : Hid (q = (j + 1) + twN digC l (j + 1)) := by
        show _ = _
        rcases hst with ⟨_, _, g3⟩ | ⟨g1, _⟩
        · have := hE.out
          omega
        · rw [hg] at g1
          cases g1
      have hcb2 : ((l[j]).toNat : Int) ≤ 255 := by have := (l[j]).toNat_lt; omega
      have y2 : (j : Int) < (l.length : Int) := by omega
      have hd : decide ((j : Int) < (l.length : Int)) = true := decide_eq_true y2
      clear hst hg hE HQ
      generalize l[j] = d at *
      go_wp2_with (go_at_call 68; refine (hdj _).mono ?_; rintro e w' ⟨rfl, rfl⟩)
      go_round
      case rel => exact ⟨j + 1, by omega, by omega, by go_num, HN⟩
      case measure => simp [intOf]; omega
    · have hqj : q = j := by
        have h5 := hE.out
        rcases twN_step (p := digC) (by decide) l j with ⟨g1, g2, _⟩ | ⟨_, g2⟩
        · exact absurd ⟨g2, g1⟩ hlt
        · omega
      subst hqj
      have hcond : Hid ((¬ q < l.length) ∨ ∃ h : q < l.length, digC l[q] = false) := by
        show _ ∨ _
        by_cases h : q < l.length
        · refine .inr ⟨h, ?_⟩
          cases hd : digC l[q] with
          | false => rfl
          | true => exact absurd ⟨h, by rw [nextO_at h]; exact hd⟩ hlt
        · exact .inl h
      clear hlt hE HQ
      generalize parseL ((l.take q).drop k) = r at *
      obtain ⟨r1, r2⟩ := r
      simp only at HE hpa
      rcases hcond.out with hge | ⟨hlt, hdg⟩
      · have hd : decide ((q : Int) < (l.length : Int)) = false := decide_eq_false (by omega)
        have hd2 : decide (q < l.length) = false := decide_eq_false hge
        clear hcond hge
        rcases HE.out with ⟨v0, hx⟩ | ⟨v0, hx⟩
        · have v0 : r2 = 0 := v0
          subst v0
          have HX := Lib.hid (And.intro hx (And.intro hkq hql))
          clear hx HE
          go_wp2_with (first
              | (go_at_call 94; refine (hpa _).mono ?_; rintro e w' ⟨rfl, rfl⟩))
          refine bodyPost_ret (v := .tuple #[wdV 4 ((S l).extract k q), .int .i64 (q : Int), .int .i64 0, .int .i64 0]) (by simp [results, Tryz.results61, go_sem]) rfl ?_
          rw [HCut.out]
          exact ⟨RWordTo.good HX.out.2.1 HX.out.2.2 HX.out.1, ((Below.refl _ w).alloc (Nat.le_refl _) _).alloc (by simp) _⟩
        · have v0 : r2 ≠ 0 := v0
          have HX : Hid (∃ y, wordL (l.drop k) = .error y) := hx
          clear hx HE
          by_cases v4 : r2 = 4
          · subst v4
            go_wp2_with (first
                | (go_at_call 94; refine (hpa _).mono ?_; rintro e w' ⟨rfl, rfl⟩))
            refine bodyPost_ret (v := .tuple #[wdV 4 ⟨#[]⟩, .int .i64 0, .int .i64 4, .int .i64 k]) (by simp [results, Tryz.results61, go_sem]) rfl ?_
            obtain ⟨y, hy⟩ := HX.out
            exact ⟨RWordTo.bad hy, ((Below.refl _ w).alloc (Nat.le_refl _) _).alloc (by simp) _⟩
          · obtain ⟨v, hv⟩ : ∃ v : Int, v = (r2 : Int) := ⟨_, rfl⟩
            have z4 : ¬ v = 4 := by omega
            have z0 : ¬ v = 0 := by omega
            have zb4 : (v == 4) = false := by rw [beq_eq_false_iff_ne]; exact z4
            have zb0 : (v == 0) = false := by rw [beq_eq_false_iff_ne]; exact z0
            have zf0 : (v != 0) = true := by rw [bne, zb0]; rfl
            rw [← hv] at hpa
            clear v4 v0 hv
            go_wp2_with (first
                | (go_at_call 94; refine (hpa _).mono ?_; rintro e w' ⟨rfl, rfl⟩))
            refine bodyPost_ret (v := .tuple #[wdV 4 ⟨#[]⟩, .int .i64 0, .int .i64 33, .int .i64 k]) (by simp [results, Tryz.results61, go_sem]) rfl ?_
            obtain ⟨y, hy⟩ := HX.out
            exact ⟨RWordTo.bad hy, ((Below.refl _ w).alloc (Nat.le_refl _) _).alloc (by simp) _⟩
      · have x1 := HAt.out q hlt
        have hdj := HDi.out l[q]
        replace hdj : ∀ w, Calls Tryz.prog 68 #[.int .u8 ((l[q]).toNat : Int)] w fun e w' => e = .returned (.bool (digC l[q])) ∧ w = w' := hdj
        rw [hdg] at hdj
        have hcb2 : ((l[q]).toNat : Int) ≤ 255 := by have := (l[q]).toNat_lt; omega
        have y2 : (q : Int) < (l.length : Int) := by omega
        have hd : decide ((q : Int) < (l.length : Int)) = true := decide_eq_true y2
        clear hcond hdg
        generalize l[q] = d at *
        rcases HE.out with ⟨v0, hx⟩ | ⟨v0, hx⟩
        · have v0 : r2 = 0 := v0
          subst v0
          have HX := Lib.hid (And.intro hx (And.intro hkq hql))
          clear hx HE
          go_wp2_with (first
              | (go_at_call 68; refine (hdj _).mono ?_; rintro e w' ⟨rfl, rfl⟩)
              | (go_at_call 94; refine (hpa _).mono ?_; rintro e w' ⟨rfl, rfl⟩))
          refine bodyPost_ret (v := .tuple #[wdV 4 ((S l).extract k q), .int .i64 (q : Int), .int .i64 0, .int .i64 0]) (by simp [results, Tryz.results61, go_sem]) rfl ?_
          rw [HCut.out]
          exact ⟨RWordTo.good HX.out.2.1 HX.out.2.2 HX.out.1, ((Below.refl _ w).alloc (Nat.le_refl _) _).alloc (by simp) _⟩
        · have v0 : r2 ≠ 0 := v0
          have HX : Hid (∃ y, wordL (l.drop k) = .error y) := hx
          clear hx HE
          by_cases v4 : r2 = 4
          · subst v4
            go_wp2_with (first
                | (go_at_call 68; refine (hdj _).mono ?_; rintro e w' ⟨rfl, rfl⟩)
                | (go_at_call 94; refine (hpa _).mono ?_; rintro e w' ⟨rfl, rfl⟩))
            refine bodyPost_ret (v := .tuple #[wdV 4 ⟨#[]⟩, .int .i64 0, .int .i64 4, .int .i64 k]) (by simp [results, Tryz.results61, go_sem]) rfl ?_
            obtain ⟨y, hy⟩ := HX.out
            exact ⟨RWordTo.bad hy, ((Below.refl _ w).alloc (Nat.le_refl _) _).alloc (by simp) _⟩
          · obtain ⟨v, hv⟩ : ∃ v : Int, v = (r2 : Int) := ⟨_, rfl⟩
            have z4 : ¬ v = 4 := by omega
            have z0 : ¬ v = 0 := by omega
            have zb4 : (v == 4) = false := by rw [beq_eq_false_iff_ne]; exact z4
            have zb0 : (v == 0) = false := by rw [beq_eq_false_iff_ne]; exact z0
            have zf0 : (v != 0) = true := by rw [bne, zb0]; rfl
            rw [← hv] at hpa
            clear v4 v0 hv
            go_wp2_with (first
                | (go_at_call 68; refine (hdj _).mono ?_; rintro e w' ⟨rfl, rfl⟩)
                | (go_at_call 94; refine (hpa _).mono ?_; rintro e w' ⟨rfl, rfl⟩))
            refine bodyPost_ret (v := .tuple #[wdV 4 ⟨#[]⟩, .int .i64 0, .int .i64 33, .int .i64 k]) (by simp [results, Tryz.results61, go_sem]) rfl ?_
            obtain ⟨y, hy⟩ := HX.out
            exact ⟨RWordTo.bad hy, ((Below.refl _ w).alloc (Nat.le_refl _) _).alloc (by simp) _⟩
set_option maxHeartbeats 1000000 in
set_option maxRecDepth 100000 in
theorem rword_e {l : List UInt8} {k : Nat} (hk : k < l.length) (hl : l.length ≤ 4194304) (hb : begB l[k] = false) (h46 : l[k] ≠ 46) (h36 : l[k] ≠ 36) (h45 : l[k] ≠ 45) (hg : digC l[k] = true) (w : World) :
    Calls Tryz.prog 61 #[.string (S l), .int .i64 (k : Int)] w fun e w' => RWordTo l k e ∧ Below w.heap.size w w' := by
  have hsz : ((S l).size : Int) = (l.length : Int) := by rw [size_S]
  have hsn : (S l).size = l.length := size_S l
  have HCut := Lib.hid (fun q => cutMid l k q)
  have i0 : (0 : Int) ≤ (k : Int) := by omega
  have i1 : (k : Int) ≤ 4194304 := by omega
  have i2 : (k : Int) < (l.length : Int) := by omega
  have h1 := at_S l k hk
  obtain ⟨m, hm⟩ : ∃ m, m = k + 1 := ⟨_, rfl⟩
  have hmi : (k : Int) + 1 = (m : Int) := by omega
  have hmle : (m : Int) ≤ 4194304 := by omega
  have b46 : (((l[k]).toNat : Int) == 46) = false := oct_ne (n := 46) h46 (by decide)
  have n46 : ¬ ((l[k]).toNat : Int) = 46 := by rw [beq_eq_false_iff_ne] at b46; exact b46
  have b36 : (((l[k]).toNat : Int) == 36) = false := oct_ne (n := 36) h36 (by decide)
  have n36 : ¬ ((l[k]).toNat : Int) = 36 := by rw [beq_eq_false_iff_ne] at b36; exact b36
  have b45 : (((l[k]).toNat : Int) == 45) = false := oct_ne (n := 45) h45 (by decide)
  have n45 : ¬ ((l[k]).toNat : Int) = 45 := by rw [beq_eq_false_iff_ne] at b45; exact b45
  have HR := Lib.hid (word_num hk hb h46 h36 (.inr hg))
  have hbe : ∀ W, Calls Tryz.prog 91 #[.string (S l), .int .i64 (k : Int)] W fun e w' => e = .returned (.bool false) ∧ W = w' := fun W => by
    have h := rbegin_c l k (by omega) W
    rw [nextO_at hk, hb] at h
    exact h
  have hdi : ∀ W, Calls Tryz.prog 68 #[.int .u8 ((l[k]).toNat : Int)] W fun e w' => e = .returned (.bool true) ∧ W = w' := fun W => by
    have h := rdigit_c ((l[k]).toNat : Int) W (by omega) (by have := (l[k]).toNat_lt; omega)
    rw [show digitI ((l[k]).toNat : Int) = true from hg] at h
    exact h
  have hcb : ((l[k]).toNat : Int) ≤ 255 := by have := (l[k]).toNat_lt; omega
  have HDi := Lib.hid (fun (c : UInt8) W => rdigit_c (c.toNat : Int) W (by omega) (by have := c.toNat_lt; omega))
  have HAt := Lib.hid (fun k (h : k < l.length) => at_S l k h)
  obtain ⟨q, hq⟩ : ∃ q, q = m + twN digC l m := ⟨_, rfl⟩
  have HQ := Lib.hid hq
  have hql : q ≤ l.length := by rw [hq]; exact twN_le digC l m (by omega)
  have hml : m ≤ l.length := by omega
  have hmq : m ≤ q := by omega
  have hkq : k ≤ q := by omega
  have j2 : (k : Int) ≤ (q : Int) := by omega
  have j3 : (q : Int) ≤ (l.length : Int) := by omega
  have hpa := fun W => Num.rparse_c ((S l).extract k q) W (by rw [cutMid, size_S, List.length_drop, List.length_take]; omega)
  rw [cutMid, list_S, ← cutMid] at hpa
  have HE : Hid (((parseL ((l.take q).drop k)).2 = 0 ∧ wordL (l.drop k) = .ok (⟨4, (l.take q).drop k⟩, q - k)) ∨ ((parseL ((l.take q).drop k)).2 ≠ 0 ∧ ∃ y, wordL (l.drop k) = .error y)) := by
    show _ ∨ _
    have HN : numE l k = if (parseL ((l.take q).drop k)).2 = 0 then .ok q else .error 33 := by
      unfold numE
      rw [← hm, ← hq]
    by_cases h0 : (parseL ((l.take q).drop k)).2 = 0
    · rw [if_pos h0] at HN
      rcases HR.out with ⟨q', hE, _, _, hw⟩ | ⟨x, y, hE, _⟩
      · rw [HN] at hE
        obtain rfl : q = q' := by injection hE
        exact .inl ⟨h0, hw⟩
      · rw [HN] at hE
        cases hE
    · rw [if_neg h0] at HN
      rcases HR.out with ⟨q', hE, _, _, hw⟩ | ⟨x, y, hE, hw⟩
      · rw [HN] at hE
        cases hE
      · exact .inr ⟨h0, y, hw⟩
  clear hb h46 h36 h45 hg hq hm HR
  generalize l[k] = c at *
  go_enter Tryz.func61, Tryz.ntmps61
  go_wp2_with (first
    | (go_at_call 91; refine (hbe _).mono ?_; rintro e w' ⟨rfl, rfl⟩)
    | (go_at_call 68; refine (hdi _).mono ?_; rintro e w' ⟨rfl, rfl⟩))
  go_loop [9] (fun i => ∃ j : Nat, m ≤ j ∧ j ≤ l.length ∧ i = .int .i64 j ∧ Hid (q = j + twN digC l j)) (fun i => l.length - (intOf i).toNat)
  case atStart => exact ⟨m, Nat.le_refl _, hml, rfl, HQ.out⟩
  case round =>
    obtain ⟨j, hmj, hj, rfl, hE⟩ := hrel
    have y0 : (0 : Int) ≤ (j : Int) := by omega
    have y1 : (j : Int) ≤ 4194304 := by omega
    by_cases hlt : j < l.length ∧ digC (nextO l j) = true
    · obtain ⟨hlt, hg⟩ := hlt
      have x1 := HAt.out j hlt
      have hdj := HDi.out l[j]
      have hst := twN_step (p := digC) (by decide) l j
      rw [nextO_at hlt] at hst hg
      replace hdj : ∀ w, Calls Tryz.prog 68 #[.int .u8 ((l[j]).toNat : Int)] w fun e w' => e = .returned (.bool (digC l[j])) ∧ w = w' := hdj
      rw [hg] at hdj
      have HN : Hid (q = (j + 1) + twN digC l (j + 1)) := by
        show _ = _
        rcases hst with ⟨_, _, g3⟩ | ⟨g1, _⟩
        · have := hE.out
          omega
        · rw [hg] at g1
          cases g1
      have hcb2 : ((l[j]).toNat : Int) ≤ 255 := by have := (l[j]).toNat_lt; omega
      have y2 : (j : Int) < (l.length : Int) := by omega
      have hd : decide ((j : Int) < (l.length : Int)) = true := decide_eq_true y2
      clear hst hg hE HQ
      generalize l[j] = d at *
      go_wp2_with (go_at_call 68; refine (hdj _).mono ?_; rintro e w' ⟨rfl, rfl⟩)
      go_round
      case rel => exact ⟨j + 1, by omega, by omega, by go_num, HN⟩
      case measure => simp [intOf]; omega
    · have hqj : q = j := by
        have h5 := hE.out
        rcases twN_step (p := digC) (by decide) l j with ⟨g1, g2, _⟩ | ⟨_, g2⟩
        · exact absurd ⟨g2, g1⟩ hlt
        · omega
      subst hqj
      have hcond : Hid ((¬ q < l.length) ∨ ∃ h : q < l.length, digC l[q] = false) := by
        show _ ∨ _
        by_cases h : q < l.length
        · refine .inr ⟨h, ?_⟩
          cases hd : digC l[q] with
          | false => rfl
          | true => exact absurd ⟨h, by rw [nextO_at h]; exact hd⟩ hlt
        · exact .inl h
      clear hlt hE HQ
      generalize parseL ((l.take q).drop k) = r at *
      obtain ⟨r1, r2⟩ := r
      simp only at HE hpa
      rcases hcond.out with hge | ⟨hlt, hdg⟩
      · have hd : decide ((q : Int) < (l.length : Int)) = false := decide_eq_false (by omega)
        have hd2 : decide (q < l.length) = false := decide_eq_false hge
        clear hcond hge
        rcases HE.out with ⟨v0, hx⟩ | ⟨v0, hx⟩
        · have v0 : r2 = 0 := v0
          subst v0
          have HX := Lib.hid (And.intro hx (And.intro hkq hql))
          clear hx HE
          go_wp2_with (first
              | (go_at_call 94; refine (hpa _).mono ?_; rintro e w' ⟨rfl, rfl⟩))
          refine bodyPost_ret (v := .tuple #[wdV 4 ((S l).extract k q), .int .i64 (q : Int), .int .i64 0, .int .i64 0]) (by simp [results, Tryz.results61, go_sem]) rfl ?_
          rw [HCut.out]
          exact ⟨RWordTo.good HX.out.2.1 HX.out.2.2 HX.out.1, ((Below.refl _ w).alloc (Nat.le_refl _) _).alloc (by simp) _⟩
        · have v0 : r2 ≠ 0 := v0
          have HX : Hid (∃ y, wordL (l.drop k) = .error y) := hx
          clear hx HE
          by_cases v4 : r2 = 4
          · subst v4
            go_wp2_with (first
                | (go_at_call 94; refine (hpa _).mono ?_; rintro e w' ⟨rfl, rfl⟩))
            refine bodyPost_ret (v := .tuple #[wdV 4 ⟨#[]⟩, .int .i64 0, .int .i64 4, .int .i64 k]) (by simp [results, Tryz.results61, go_sem]) rfl ?_
            obtain ⟨y, hy⟩ := HX.out
            exact ⟨RWordTo.bad hy, ((Below.refl _ w).alloc (Nat.le_refl _) _).alloc (by simp) _⟩
          · obtain ⟨v, hv⟩ : ∃ v : Int, v = (r2 : Int) := ⟨_, rfl⟩
            have z4 : ¬ v = 4 := by omega
            have z0 : ¬ v = 0 := by omega
            have zb4 : (v == 4) = false := by rw [beq_eq_false_iff_ne]; exact z4
            have zb0 : (v == 0) = false := by rw [beq_eq_false_iff_ne]; exact z0
            have zf0 : (v != 0) = true := by rw [bne, zb0]; rfl
            rw [← hv] at hpa
            clear v4 v0 hv
            go_wp2_with (first
                | (go_at_call 94; refine (hpa _).mono ?_; rintro e w' ⟨rfl, rfl⟩))
            refine bodyPost_ret (v := .tuple #[wdV 4 ⟨#[]⟩, .int .i64 0, .int .i64 33, .int .i64 k]) (by simp [results, Tryz.results61, go_sem]) rfl ?_
            obtain ⟨y, hy⟩ := HX.out
            exact ⟨RWordTo.bad hy, ((Below.refl _ w).alloc (Nat.le_refl _) _).alloc (by simp) _⟩
      · have x1 := HAt.out q hlt
        have hdj := HDi.out l[q]
        replace hdj : ∀ w, Calls Tryz.prog 68 #[.int .u8 ((l[q]).toNat : Int)] w fun e w' => e = .returned (.bool (digC l[q])) ∧ w = w' := hdj
        rw [hdg] at hdj
        have hcb2 : ((l[q]).toNat : Int) ≤ 255 := by have := (l[q]).toNat_lt; omega
        have y2 : (q : Int) < (l.length : Int) := by omega
        have hd : decide ((q : Int) < (l.length : Int)) = true := decide_eq_true y2
        clear hcond hdg
        generalize l[q] = d at *
        rcases HE.out with ⟨v0, hx⟩ | ⟨v0, hx⟩
        · have v0 : r2 = 0 := v0
          subst v0
          have HX := Lib.hid (And.intro hx (And.intro hkq hql))
          clear hx HE
          go_wp2_with (first
              | (go_at_call 68; refine (hdj _).mono ?_; rintro e w' ⟨rfl, rfl⟩)
              | (go_at_call 94; refine (hpa _).mono ?_; rintro e w' ⟨rfl, rfl⟩))
          refine bodyPost_ret (v := .tuple #[wdV 4 ((S l).extract k q), .int .i64 (q : Int), .int .i64 0, .int .i64 0]) (by simp [results, Tryz.results61, go_sem]) rfl ?_
          rw [HCut.out]
          exact ⟨RWordTo.good HX.out.2.1 HX.out.2.2 HX.out.1, ((Below.refl _ w).alloc (Nat.le_refl _) _).alloc (by simp) _⟩
        · have v0 : r2 ≠ 0 := v0
          have HX : Hid (∃ y, wordL (l.drop k) = .error y) := hx
          clear hx HE
          by_cases v4 : r2 = 4
          · subst v4
            go_wp2_with (first
                | (go_at_call 68; refine (hdj _).mono ?_; rintro e w' ⟨rfl, rfl⟩)
                | (go_at_call 94; refine (hpa _).mono ?_; rintro e w' ⟨rfl, rfl⟩))
            refine bodyPost_ret (v := .tuple #[wdV 4 ⟨#[]⟩, .int .i64 0, .int .i64 4, .int .i64 k]) (by simp [results, Tryz.results61, go_sem]) rfl ?_
            obtain ⟨y, hy⟩ := HX.out
            exact ⟨RWordTo.bad hy, ((Below.refl _ w).alloc (Nat.le_refl _) _).alloc (by simp) _⟩
          · obtain ⟨v, hv⟩ : ∃ v : Int, v = (r2 : Int) := ⟨_, rfl⟩
            have z4 : ¬ v = 4 := by omega
            have z0 : ¬ v = 0 := by omega
            have zb4 : (v == 4) = false := by rw [beq_eq_false_iff_ne]; exact z4
            have zb0 : (v == 0) = false := by rw [beq_eq_false_iff_ne]; exact z0
            have zf0 : (v != 0) = true := by rw [bne, zb0]; rfl
            rw [← hv] at hpa
            clear v4 v0 hv
            go_wp2_with (first
                | (go_at_call 68; refine (hdj _).mono ?_; rintro e w' ⟨rfl, rfl⟩)
                | (go_at_call 94; refine (hpa _).mono ?_; rintro e w' ⟨rfl, rfl⟩))
            refine bodyPost_ret (v := .tuple #[wdV 4 ⟨#[]⟩, .int .i64 0, .int .i64 33, .int .i64 k]) (by simp [results, Tryz.results61, go_sem]) rfl ?_
            obtain ⟨y, hy⟩ := HX.out
            exact ⟨RWordTo.bad hy, ((Below.refl _ w).alloc (Nat.le_refl _) _).alloc (by simp) _⟩
theorem two_box {w W : World} {a b : Obj} (hb : Below ((w.alloc a).alloc b).heap.size ((w.alloc a).alloc b) W) : Below w.heap.size w W ∧ W.heap[w.heap.size]? = some a := by
  have h1 : (w.alloc a).heap.size = w.heap.size + 1 := Array.size_push _
  have h2 : ((w.alloc a).alloc b).heap.size = w.heap.size + 2 := (Array.size_push _).trans (by rw [h1])
  have k1 : Below w.heap.size w (w.alloc a) := (Below.refl _ w).alloc (Nat.le_refl _) _
  have k2 : Below (w.alloc a).heap.size (w.alloc a) ((w.alloc a).alloc b) := (Below.refl _ _).alloc (Nat.le_refl _) _
  refine ⟨(k1.trans (k2.mono (by omega))).trans (hb.mono (by omega)), ?_⟩
  rw [hb.block w.heap.size (by omega), k2.block w.heap.size (by omega)]
  exact heap_alloc_new w a
theorem set_three {W : World} {R : Nat} {a0 a1 a2 : Value} {T : TypeId} (h : W.heap[R]? = some (.cells #[a0, a1, a2] T (0, 0))) (b0 b1 b2 : Value) :
    (((W.setCell ⟨R, 0, none⟩ b0).setCell ⟨R, 1, none⟩ b1).setCell ⟨R, 2, none⟩ b2).heap[R]? = some (.cells #[b0, b1, b2] T (0, 0)) :=
  heap_setCell_same _ R 2 _ _ b2 (heap_setCell_same _ R 1 _ _ b1 (heap_setCell_same W R 0 _ _ b0 h))
theorem pre_bar {l : List UInt8} {k : Nat} (hk : k < l.length) : [124].isPrefixOf (l.drop k) = decide (l[k] = 124) := by
  rw [List.drop_eq_getElem_cons hk]
  by_cases hq : l[k] = 124
  · rw [hq]; simp [List.isPrefixOf]
  · have : ((124 : UInt8) == l[k]) = false := by rw [beq_eq_false_iff_ne]; exact fun e => hq e.symm
    simp [List.isPrefixOf, this, hq]
set_option maxHeartbeats 1000000 in
set_option maxRecDepth 100000 in
theorem rword_f1 {l : List UInt8} {k : Nat} (hk : k < l.length) (hl : l.length ≤ 4194304) (hb : begB l[k] = false) (h46 : l[k] ≠ 46) (h36 : l[k] ≠ 36) (h45 : l[k] ≠ 45) (hg : digC l[k] = false) (h34 : l[k] ≠ 34) (hp : [58, 61].isPrefixOf (l.drop k) = true) (w : World) :
    Calls Tryz.prog 61 #[.string (S l), .int .i64 (k : Int)] w fun e w' => RWordTo l k e ∧ Below w.heap.size w w' := by
  have hsz : ((S l).size : Int) = (l.length : Int) := by rw [size_S]
  have hsn : (S l).size = l.length := size_S l
  have HCut := Lib.hid (fun q => cutMid l k q)
  have i0 : (0 : Int) ≤ (k : Int) := by omega
  have i1 : (k : Int) ≤ 4194304 := by omega
  have i2 : (k : Int) < (l.length : Int) := by omega
  have h1 := at_S l k hk
  obtain ⟨m, hm⟩ : ∃ m, m = k + 1 := ⟨_, rfl⟩
  have hmi : (k : Int) + 1 = (m : Int) := by omega
  have hmle : (m : Int) ≤ 4194304 := by omega
  have b46 : (((l[k]).toNat : Int) == 46) = false := oct_ne (n := 46) h46 (by decide)
  have n46 : ¬ ((l[k]).toNat : Int) = 46 := by rw [beq_eq_false_iff_ne] at b46; exact b46
  have b36 : (((l[k]).toNat : Int) == 36) = false := oct_ne (n := 36) h36 (by decide)
  have n36 : ¬ ((l[k]).toNat : Int) = 36 := by rw [beq_eq_false_iff_ne] at b36; exact b36
  have b45 : (((l[k]).toNat : Int) == 45) = false := oct_ne (n := 45) h45 (by decide)
  have n45 : ¬ ((l[k]).toNat : Int) = 45 := by rw [beq_eq_false_iff_ne] at b45; exact b45
  have b34 : (((l[k]).toNat : Int) == 34) = false := oct_ne (n := 34) h34 (by decide)
  have n34 : ¬ ((l[k]).toNat : Int) = 34 := by rw [beq_eq_false_iff_ne] at b34; exact b34
  have HR := Lib.hid (word_sign hk hb h46 h36 (by rw [hg]; simp [h45]) h34)
  have hbe : ∀ W, Calls Tryz.prog 91 #[.string (S l), .int .i64 (k : Int)] W fun e w' => e = .returned (.bool false) ∧ W = w' := fun W => by
    have h := rbegin_c l k (by omega) W
    rw [nextO_at hk, hb] at h
    exact h
  have hdi : ∀ W, Calls Tryz.prog 68 #[.int .u8 ((l[k]).toNat : Int)] W fun e w' => e = .returned (.bool false) ∧ W = w' := fun W => by
    have h := rdigit_c ((l[k]).toNat : Int) W (by omega) (by have := (l[k]).toNat_lt; omega)
    rw [show digitI ((l[k]).toNat : Int) = false from hg] at h
    exact h
  have hcb : ((l[k]).toNat : Int) ≤ 255 := by have := (l[k]).toNat_lt; omega
  have hbs := fun W => rbegins_c [58, 61] (l.drop k) W
  rw [← cutFrom] at hbs
  replace hbs : ∀ W, Calls Tryz.prog 96 #[.string ⟨#[58, 61]⟩, .string ((S l).extract k l.length)] W fun e w' => e = .returned (.bool ([58, 61].isPrefixOf (l.drop k))) ∧ W = w' := hbs
  have hkl : (k : Int) ≤ (l.length : Int) := by omega
  rw [hp] at hbs
  have hne : l[k] ≠ 124 := fun e => by
    rw [List.drop_eq_getElem_cons hk, e] at hp
    simp [List.isPrefixOf] at hp
  obtain ⟨q, hq⟩ : ∃ q, q = k + 2 := ⟨_, rfl⟩
  have HE : Hid (wordL (l.drop k) = .ok (⟨6, (l.take q).drop k⟩, q - k) ∧ k ≤ q ∧ q ≤ l.length) := by
    have HN : signE l k = .ok q := by
      unfold signE
      rw [pre_bar hk, if_neg (by simpa using hne), if_pos hp, hq]
    rcases HR.out with ⟨q', hE, a1, a2, hw⟩ | ⟨x, y, hE, _⟩
    · rw [HN] at hE
      obtain rfl : q = q' := by injection hE
      exact ⟨hw, a1, a2⟩
    · rw [HN] at hE
      cases hE
  have hqi : (k : Int) + 2 = (q : Int) := by omega
  have j2 : (k : Int) ≤ (q : Int) := by omega
  have j3 : (q : Int) ≤ (l.length : Int) := by have := HE.out.2.2; omega
  clear hb h46 h36 h45 hg h34 hm HR
  clear hp hne hq
  generalize l[k] = c at *
  go_enter Tryz.func61, Tryz.ntmps61
  go_wp2_with (first
    | (go_at_call 91; refine (hbe _).mono ?_; rintro e w' ⟨rfl, rfl⟩)
    | (go_at_call 68; refine (hdi _).mono ?_; rintro e w' ⟨rfl, rfl⟩)
    | (go_at_call 96; refine (hbs _).mono ?_; rintro e w' ⟨rfl, rfl⟩))
  refine bodyPost_ret (v := .tuple #[wdV 6 ((S l).extract k q), .int .i64 (q : Int), .int .i64 0, .int .i64 0]) (by simp [results, Tryz.results61, go_sem]) rfl ?_
  rw [HCut.out]
  exact ⟨RWordTo.good HE.out.2.1 HE.out.2.2 HE.out.1, ((Below.refl _ w).alloc (Nat.le_refl _) _).alloc (by simp) _⟩
set_option maxHeartbeats 1000000 in
set_option maxRecDepth 100000 in
theorem rword_f2 {l : List UInt8} {k : Nat} (hk : k < l.length) (hl : l.length ≤ 4194304) (hb : begB l[k] = false) (h46 : l[k] ≠ 46) (h36 : l[k] ≠ 36) (h45 : l[k] ≠ 45) (hg : digC l[k] = false) (h34 : l[k] ≠ 34) (hp : [58, 61].isPrefixOf (l.drop k) = false) (hc : l[k] = 124) (w : World) :
    Calls Tryz.prog 61 #[.string (S l), .int .i64 (k : Int)] w fun e w' => RWordTo l k e ∧ Below w.heap.size w w' := by
  have hsz : ((S l).size : Int) = (l.length : Int) := by rw [size_S]
  have hsn : (S l).size = l.length := size_S l
  have HCut := Lib.hid (fun q => cutMid l k q)
  have i0 : (0 : Int) ≤ (k : Int) := by omega
  have i1 : (k : Int) ≤ 4194304 := by omega
  have i2 : (k : Int) < (l.length : Int) := by omega
  have h1 := at_S l k hk
  obtain ⟨m, hm⟩ : ∃ m, m = k + 1 := ⟨_, rfl⟩
  have hmi : (k : Int) + 1 = (m : Int) := by omega
  have hmle : (m : Int) ≤ 4194304 := by omega
  have b46 : (((l[k]).toNat : Int) == 46) = false := oct_ne (n := 46) h46 (by decide)
  have n46 : ¬ ((l[k]).toNat : Int) = 46 := by rw [beq_eq_false_iff_ne] at b46; exact b46
  have b36 : (((l[k]).toNat : Int) == 36) = false := oct_ne (n := 36) h36 (by decide)
  have n36 : ¬ ((l[k]).toNat : Int) = 36 := by rw [beq_eq_false_iff_ne] at b36; exact b36
  have b45 : (((l[k]).toNat : Int) == 45) = false := oct_ne (n := 45) h45 (by decide)
  have n45 : ¬ ((l[k]).toNat : Int) = 45 := by rw [beq_eq_false_iff_ne] at b45; exact b45
  have b34 : (((l[k]).toNat : Int) == 34) = false := oct_ne (n := 34) h34 (by decide)
  have n34 : ¬ ((l[k]).toNat : Int) = 34 := by rw [beq_eq_false_iff_ne] at b34; exact b34
  have HR := Lib.hid (word_sign hk hb h46 h36 (by rw [hg]; simp [h45]) h34)
  have hbe : ∀ W, Calls Tryz.prog 91 #[.string (S l), .int .i64 (k : Int)] W fun e w' => e = .returned (.bool false) ∧ W = w' := fun W => by
    have h := rbegin_c l k (by omega) W
    rw [nextO_at hk, hb] at h
    exact h
  have hdi : ∀ W, Calls Tryz.prog 68 #[.int .u8 ((l[k]).toNat : Int)] W fun e w' => e = .returned (.bool false) ∧ W = w' := fun W => by
    have h := rdigit_c ((l[k]).toNat : Int) W (by omega) (by have := (l[k]).toNat_lt; omega)
    rw [show digitI ((l[k]).toNat : Int) = false from hg] at h
    exact h
  have hcb : ((l[k]).toNat : Int) ≤ 255 := by have := (l[k]).toNat_lt; omega
  have hbs := fun W => rbegins_c [58, 61] (l.drop k) W
  rw [← cutFrom] at hbs
  replace hbs : ∀ W, Calls Tryz.prog 96 #[.string ⟨#[58, 61]⟩, .string ((S l).extract k l.length)] W fun e w' => e = .returned (.bool ([58, 61].isPrefixOf (l.drop k))) ∧ W = w' := hbs
  have hkl : (k : Int) ≤ (l.length : Int) := by omega
  rw [hp] at hbs
  have e1 : ((l[k]).toNat : Int) = 124 := by rw [hc]; rfl
  have HE : Hid (wordL (l.drop k) = .ok (⟨6, (l.take m).drop k⟩, m - k) ∧ k ≤ m ∧ m ≤ l.length) := by
    have HN : signE l k = .ok m := by
      unfold signE
      rw [pre_bar hk, if_pos (by simpa using hc), hm]
    rcases HR.out with ⟨q', hE, a1, a2, hw⟩ | ⟨x, y, hE, _⟩
    · rw [HN] at hE
      obtain rfl : m = q' := by injection hE
      exact ⟨hw, a1, a2⟩
    · rw [HN] at hE
      cases hE
  have j2 : (k : Int) ≤ (m : Int) := by omega
  have j3 : (m : Int) ≤ (l.length : Int) := by have := HE.out.2.2; omega
  rw [e1] at hdi
  clear hb h46 h36 h45 hg h34 hm HR
  clear hp hc n46 n36 n45 n34 b46 b36 b45 b34
  go_enter Tryz.func61, Tryz.ntmps61
  go_wp2_with (first
    | (go_at_call 91; refine (hbe _).mono ?_; rintro e w' ⟨rfl, rfl⟩)
    | (go_at_call 68; refine (hdi _).mono ?_; rintro e w' ⟨rfl, rfl⟩)
    | (go_at_call 96; refine (hbs _).mono ?_; rintro e w' ⟨rfl, rfl⟩))
  refine bodyPost_ret (v := .tuple #[wdV 6 ((S l).extract k m), .int .i64 (m : Int), .int .i64 0, .int .i64 0]) (by simp [results, Tryz.results61, go_sem]) rfl ?_
  rw [HCut.out]
  exact ⟨RWordTo.good HE.out.2.1 HE.out.2.2 HE.out.1, ((Below.refl _ w).alloc (Nat.le_refl _) _).alloc (by simp) _⟩
set_option maxHeartbeats 1000000 in
set_option maxRecDepth 100000 in
theorem rword_f3 {l : List UInt8} {k : Nat} (hk : k < l.length) (hl : l.length ≤ 4194304) (hb : begB l[k] = false) (h46 : l[k] ≠ 46) (h36 : l[k] ≠ 36) (h45 : l[k] ≠ 45) (hg : digC l[k] = false) (h34 : l[k] ≠ 34) (hp : [58, 61].isPrefixOf (l.drop k) = false) (h124 : l[k] ≠ 124) (w : World) :
    Calls Tryz.prog 61 #[.string (S l), .int .i64 (k : Int)] w fun e w' => RWordTo l k e ∧ Below w.heap.size w w' := by
  have hsz : ((S l).size : Int) = (l.length : Int) := by rw [size_S]
  have hsn : (S l).size = l.length := size_S l
  have HCut := Lib.hid (fun q => cutMid l k q)
  have i0 : (0 : Int) ≤ (k : Int) := by omega
  have i1 : (k : Int) ≤ 4194304 := by omega
  have i2 : (k : Int) < (l.length : Int) := by omega
  have h1 := at_S l k hk
  obtain ⟨m, hm⟩ : ∃ m, m = k + 1 := ⟨_, rfl⟩
  have hmi : (k : Int) + 1 = (m : Int) := by omega
  have hmle : (m : Int) ≤ 4194304 := by omega
  have b46 : (((l[k]).toNat : Int) == 46) = false := oct_ne (n := 46) h46 (by decide)
  have n46 : ¬ ((l[k]).toNat : Int) = 46 := by rw [beq_eq_false_iff_ne] at b46; exact b46
  have b36 : (((l[k]).toNat : Int) == 36) = false := oct_ne (n := 36) h36 (by decide)
  have n36 : ¬ ((l[k]).toNat : Int) = 36 := by rw [beq_eq_false_iff_ne] at b36; exact b36
  have b45 : (((l[k]).toNat : Int) == 45) = false := oct_ne (n := 45) h45 (by decide)
  have n45 : ¬ ((l[k]).toNat : Int) = 45 := by rw [beq_eq_false_iff_ne] at b45; exact b45
  have b34 : (((l[k]).toNat : Int) == 34) = false := oct_ne (n := 34) h34 (by decide)
  have n34 : ¬ ((l[k]).toNat : Int) = 34 := by rw [beq_eq_false_iff_ne] at b34; exact b34
  have HR := Lib.hid (word_sign hk hb h46 h36 (by rw [hg]; simp [h45]) h34)
  have hbe : ∀ W, Calls Tryz.prog 91 #[.string (S l), .int .i64 (k : Int)] W fun e w' => e = .returned (.bool false) ∧ W = w' := fun W => by
    have h := rbegin_c l k (by omega) W
    rw [nextO_at hk, hb] at h
    exact h
  have hdi : ∀ W, Calls Tryz.prog 68 #[.int .u8 ((l[k]).toNat : Int)] W fun e w' => e = .returned (.bool false) ∧ W = w' := fun W => by
    have h := rdigit_c ((l[k]).toNat : Int) W (by omega) (by have := (l[k]).toNat_lt; omega)
    rw [show digitI ((l[k]).toNat : Int) = false from hg] at h
    exact h
  have hcb : ((l[k]).toNat : Int) ≤ 255 := by have := (l[k]).toNat_lt; omega
  have hbs := fun W => rbegins_c [58, 61] (l.drop k) W
  rw [← cutFrom] at hbs
  replace hbs : ∀ W, Calls Tryz.prog 96 #[.string ⟨#[58, 61]⟩, .string ((S l).extract k l.length)] W fun e w' => e = .returned (.bool ([58, 61].isPrefixOf (l.drop k))) ∧ W = w' := hbs
  have hkl : (k : Int) ≤ (l.length : Int) := by omega
  have b124 : (((l[k]).toNat : Int) == 124) = false := oct_ne (n := 124) h124 (by decide)
  have n124 : ¬ ((l[k]).toNat : Int) = 124 := by rw [beq_eq_false_iff_ne] at b124; exact b124
  rw [hp] at hbs
  have f124 : (((l[k]).toNat : Int) != 124) = true := by rw [bne, b124]; rfl
  have HE : Hid (∃ y, wordL (l.drop k) = .error y) := by
    have HN : signE l k = .error 33 := by
      unfold signE
      rw [pre_bar hk, if_neg (by simpa using h124), hp, if_neg (by simp)]
    rcases HR.out with ⟨q', hE, a1, a2, hw⟩ | ⟨x, y, hE, hw⟩
    · rw [HN] at hE
      cases hE
    · exact ⟨y, hw⟩
  clear hb h46 h36 h45 hg h34 hm HR
  clear hp h124
  generalize l[k] = c at *
  go_enter Tryz.func61, Tryz.ntmps61
  go_wp2_with (first
    | (go_at_call 91; refine (hbe _).mono ?_; rintro e w' ⟨rfl, rfl⟩)
    | (go_at_call 68; refine (hdi _).mono ?_; rintro e w' ⟨rfl, rfl⟩)
    | (go_at_call 96; refine (hbs _).mono ?_; rintro e w' ⟨rfl, rfl⟩))
  refine bodyPost_ret (v := .tuple #[wdV 6 ⟨#[]⟩, .int .i64 0, .int .i64 33, .int .i64 k]) (by simp [results, Tryz.results61, go_sem]) rfl ?_
  obtain ⟨y, hy⟩ := HE.out
  exact ⟨RWordTo.bad hy, ((Below.refl _ w).alloc (Nat.le_refl _) _).alloc (by simp) _⟩
set_option maxHeartbeats 1000000 in
set_option maxRecDepth 100000 in
theorem rword_g {l : List UInt8} {k : Nat} (hk : k < l.length) (hl : l.length ≤ 4194304) (hc : l[k] = 34) (w : World) :
    Calls Tryz.prog 61 #[.string (S l), .int .i64 (k : Int)] w fun e w' => RWordTo l k e ∧ Below w.heap.size w w' := by
  have hsz : ((S l).size : Int) = (l.length : Int) := by rw [size_S]
  have hsn : (S l).size = l.length := size_S l
  have HCut := Lib.hid (fun q => cutMid l k q)
  have i0 : (0 : Int) ≤ (k : Int) := by omega
  have i1 : (k : Int) ≤ 4194304 := by omega
  have i2 : (k : Int) < (l.length : Int) := by omega
  have h1 := at_S l k hk
  obtain ⟨m, hm⟩ : ∃ m, m = k + 1 := ⟨_, rfl⟩
  have hmi : (k : Int) + 1 = (m : Int) := by omega
  have hmle : (m : Int) ≤ 4194304 := by omega
  have e1 : ((l[k]).toNat : Int) = 34 := by rw [hc]; rfl
  have hb : begB l[k] = false := by rw [hc]; decide
  have hbe : ∀ W, Calls Tryz.prog 91 #[.string (S l), .int .i64 (k : Int)] W fun e w' => e = .returned (.bool false) ∧ W = w' := fun W => by
    have h := rbegin_c l k (by omega) W
    rw [nextO_at hk, hb] at h
    exact h
  have hdi : ∀ W, Calls Tryz.prog 68 #[.int .u8 34] W fun e w' => e = .returned (.bool false) ∧ W = w' := fun W => rdigit_c 34 W (by decide) (by decide)
  have HS := Lib.hid (fun W => rstr_c l hl k hk W)
  have HW := Lib.hid (word_str hk hc)
  have HRest := Lib.hid (str_rest (l.drop (k + 1)))
  clear hc hb hm
  go_enter Tryz.func61, Tryz.ntmps61
  go_wp2_with (first
    | (go_at_call 91; refine (hbe _).mono ?_; rintro e w' ⟨rfl, rfl⟩)
    | (go_at_call 68; refine (hdi _).mono ?_; rintro e w' ⟨rfl, rfl⟩))
  refine (HS.out _).mono ?_
  rintro e w2 ⟨hst, hb2⟩
  obtain ⟨hbw, hcell⟩ := two_box hb2
  have HB := Lib.hid hbw
  clear hbw hb2
  have c0 := (cell_of_row w2 w.heap.size 0 _ _ _ hcell).trans rfl
  have c1 := (cell_of_row w2 w.heap.size 1 _ _ _ hcell).trans rfl
  have c2 := (cell_of_row w2 w.heap.size 2 _ _ _ hcell).trans rfl
  have z0 := frozen_of_row w2 w.heap.size 0 _ _ hcell
  have z1 := frozen_of_row w2 w.heap.size 1 _ _ hcell
  have z2 := frozen_of_row w2 w.heap.size 2 _ _ hcell
  have HC := Lib.hid (set_three hcell)
  clear hcell
  rcases hst with ⟨x, rest, hx, hxl, rfl⟩ | ⟨hx, n, p, hn, rfl⟩
  · have HX : Hid (wordL (l.drop k) = .ok (⟨5, x⟩, l.length - rest.length - k) ∧ k + (l.length - rest.length - k) = l.length - rest.length) := by
      have h5 := HW.out
      rw [hx] at h5
      dsimp only at h5
      have h6 := HRest.out _ _ hx
      rw [List.length_drop] at h6
      rw [if_neg (by omega), List.length_drop, show 1 + (l.length - (k + 1)) - rest.length = l.length - rest.length - k by omega] at h5
      exact ⟨h5, by omega⟩
    obtain ⟨q, hq⟩ : ∃ q, q = l.length - rest.length := ⟨_, rfl⟩
    rw [← hq] at HX ⊢
    have HQ : Hid (q ≤ l.length) := by show _ ≤ _; omega
    clear hx hxl hq HW HRest HS
    go_wp2_with fail
    have hc3 := HC.out (.int .i64 5) (.string (S x)) (.int .i64 0)
    have g0 := (cell_of_row _ w.heap.size 0 _ _ _ hc3).trans rfl
    have g1 := (cell_of_row _ w.heap.size 1 _ _ _ hc3).trans rfl
    have g2 := (cell_of_row _ w.heap.size 2 _ _ _ hc3).trans rfl
    clear hc3
    refine bodyPost_ret (v := .tuple #[wdV 5 (S x), .int .i64 (q : Int), .int .i64 0, .int .i64 0]) (by simp [results, Tryz.results61, go_sem, g0, g1, g2]) rfl ?_
    exact ⟨.inl ⟨_, _, HX.out.1, by rw [HX.out.2]; exact HQ.out, 0, by rw [HX.out.2]; rfl⟩, ((HB.out.setCell (p := ⟨w.heap.size, 0, none⟩) (Nat.le_refl _) _).setCell (p := ⟨w.heap.size, 1, none⟩) (Nat.le_refl _) _).setCell (p := ⟨w.heap.size, 2, none⟩) (Nat.le_refl _) _⟩
  · have HE : Hid (∃ y, wordL (l.drop k) = .error y) := by
      have h5 := HW.out
      rcases hx with hx | ⟨x, rest, hx, hxl⟩
      · rw [hx] at h5
        exact ⟨_, h5⟩
      · rw [hx] at h5
        dsimp only at h5
        rw [if_pos hxl] at h5
        exact ⟨_, h5⟩
    have HN := Lib.hid hn
    clear hx hn HW HRest HS
    go_wp2_with fail
    have hc3 := HC.out (.int .i64 5) (.string ⟨#[]⟩) (.int .i64 0)
    have g0 := (cell_of_row _ w.heap.size 0 _ _ _ hc3).trans rfl
    have g1 := (cell_of_row _ w.heap.size 1 _ _ _ hc3).trans rfl
    have g2 := (cell_of_row _ w.heap.size 2 _ _ _ hc3).trans rfl
    clear hc3
    refine bodyPost_ret (v := .tuple #[wdV 5 ⟨#[]⟩, .int .i64 0, .int .i64 n, .int .i64 p]) (by simp [results, Tryz.results61, go_sem, g0, g1, g2]) rfl ?_
    obtain ⟨y, hy⟩ := HE.out
    exact ⟨RWordTo.bad hy HN.out, ((HB.out.setCell (p := ⟨w.heap.size, 0, none⟩) (Nat.le_refl _) _).setCell (p := ⟨w.heap.size, 1, none⟩) (Nat.le_refl _) _).setCell (p := ⟨w.heap.size, 2, none⟩) (Nat.le_refl _) _⟩
theorem rword_c {l : List UInt8} {k : Nat} (hk : k < l.length) (hl : l.length ≤ 4194304) (w : World) :
    Calls Tryz.prog 61 #[.string (S l), .int .i64 (k : Int)] w fun e w' => RWordTo l k e ∧ Below w.heap.size w w' := by
  cases hb : begB l[k] with
  | true => exact rword_a hk hl hb w
  | false =>
    by_cases h46 : l[k] = 46
    · exact rword_b hk hl h46 w
    · by_cases h36 : l[k] = 36
      · exact rword_c' hk hl h36 w
      · by_cases h45 : l[k] = 45
        · exact rword_d hk hl h45 w
        · cases hd : digC l[k] with
          | true => exact rword_e hk hl hb h46 h36 h45 hd w
          | false =>
            by_cases h34 : l[k] = 34
            · exact rword_g hk hl h34 w
            · cases hp : [58, 61].isPrefixOf (l.drop k) with
              | true => exact rword_f1 hk hl hb h46 h36 h45 hd h34 hp w
              | false =>
                by_cases hc : l[k] = 124
                · exact rword_f2 hk hl hb h46 h36 h45 hd h34 hp hc w
                · exact rword_f3 hk hl hb h46 h36 h45 hd h34 hp hc w
end Go.Proofs.YtmccbcficbbidaaGreatDoor.Pwr
