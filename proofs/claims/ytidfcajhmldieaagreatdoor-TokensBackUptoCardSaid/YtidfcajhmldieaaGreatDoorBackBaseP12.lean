/-
  Part 12: CrfNumber, CrfPage, CrfRun, CrfStands.
-/
import Derived.Test.YtidfcajhmldieaaGreatDoorBackBaseP11
import Derived.LoopTactic
import Derived.Test.YtidfcajhmldieaaGreatDoorBackBaseP10
/-
  Contracts of number, standsFor, beginsName and beginsNumber of package refs.
-/
namespace Go.Proofs.YtidfcajhmldieaaGreatDoor.Crf
open Go.RowKit Go.Proofs.YtidfcajhmldieaaGreatDoor.Oct Go.Proofs.YtidfcajhmldieaaGreatDoor.Num Go.Proofs.YtidfcajhmldieaaGreatDoor.Utf
open Go.Lib (encodeRune)

theorem starts_x (t : List UInt8) : startsB t [120] = isHex t := by
  cases t with
  | nil => rfl
  | cons c t =>
    have h : ∀ c : Fin 256, startsB [UInt8.ofNat c.val] [120] = isHex [UInt8.ofNat c.val] := by decide +kernel
    have h2 := h ⟨c.toNat, c.toNat_lt⟩
    simp only [UInt8.ofNat_toNat] at h2
    have e1 : startsB (c :: t) [120] = startsB [c] [120] := by simp [startsB]
    have e2 : isHex (c :: t) = isHex [c] := rfl
    rw [e1, e2, h2]

theorem valB_snoc (b : Nat) (l : List UInt8) (c : UInt8) : valB b (l ++ [c]) = valB b l * b + (hx c).toNat := by simp [valB]
theorem valB_lt (b : Nat) (hb : b ≤ 16) (l : List UInt8) : valB b l < 16 ^ l.length := by
  have gen : ∀ (l : List UInt8) (a e : Nat), a < 16 ^ e → l.foldl (fun n c => n * b + (hx c).toNat) a < 16 ^ (e + l.length) := by
    intro l
    induction l with
    | nil => intro a e h; simpa using h
    | cons c l ih =>
      intro a e h
      have hc := hx_le c
      have hm : a * b ≤ a * 16 := Nat.mul_le_mul_left a hb
      have := ih (a * b + (hx c).toNat) (e + 1) (by rw [Nat.pow_succ]; omega)
      rw [List.foldl_cons, List.length_cons, show e + (l.length + 1) = e + 1 + l.length by omega]
      exact this
  have := gen l 0 0 (by simp)
  simpa [valB] using this
theorem valB_small (b : Nat) (hb : b ≤ 16) (l : List UInt8) (k : Nat) (hl : l.length ≤ 7) : valB b (l.take k) < 268435456 := by
  have h1 := valB_lt b hb (l.take k)
  have h2 : (l.take k).length ≤ 7 := by rw [List.length_take]; omega
  have h3 : 16 ^ (l.take k).length ≤ 16 ^ 7 := Nat.pow_le_pow_right (by omega) h2
  omega
theorem unhex_one (c : UInt8) : unhexL [c] = if 0 ≤ hx c then ((hx c).toNat, 0) else (0, 33) := by
  unfold unhexL
  have e : hexC c = hx c := rfl
  by_cases h : 0 ≤ hx c
  · rw [if_pos h, if_neg (by simp), if_neg (by simp), if_pos (by simp [e, h])]
    simp [valL, e]
  · rw [if_neg h, if_neg (by simp), if_neg (by simp), if_neg (by simp [e, h])]

/-- What number tells. -/
def numA (l : List UInt8) : Int × Int := match numR l with | some (n, d) => (n, d) | none => (0, -1)
theorem numA_none {l : List UInt8} (h : ¬ (l.head? = some 35 ∧ (digsOf l.tail).length ≤ 7 ∧ (digsOf l.tail).all (digB (baseOf l.tail)) = true)) : numA l = (0, -1) := by
  unfold numA numR
  rw [if_neg h]
theorem numA_some {l : List UInt8} (h : l.head? = some 35 ∧ (digsOf l.tail).length ≤ 7 ∧ (digsOf l.tail).all (digB (baseOf l.tail)) = true) : numA l = (((valB (baseOf l.tail) (digsOf l.tail) : Nat) : Int), (((digsOf l.tail).length : Nat) : Int)) := by
  unfold numA numR
  rw [if_pos h]
theorem sharp (l : List UInt8) : Lib.hasPrefix l [35] = decide (l.head? = some 35) := by
  cases l with
  | nil => rfl
  | cons a l =>
    by_cases h : a = 35
    · subst h; rfl
    · simp [Lib.hasPrefix, List.isPrefixOf, h, Ne.symm h]
theorem sharp_trim (l : List UInt8) : Lib.trimPrefix l [35] = if l.head? = some 35 then l.tail else l := by
  unfold Lib.trimPrefix
  rw [sharp]
  by_cases h : l.head? = some 35
  · simp [h]
  · simp [h]
theorem digs_le (t : List UInt8) : (digsOf t).length ≤ t.length := by have := digs_len t; omega

set_option maxHeartbeats 4000000 in
set_option maxRecDepth 100000 in
theorem number_c (l : List UInt8) (hl : l.length ≤ 4611686018427387904) (w : World) :
    Calls Tryz.prog 89 #[.string (S l)] w fun e w' => e = .returned (.tuple #[.int .i64 (numA l).1, .int .i64 (numA l).2]) ∧ Below w.heap.size w w' := by
  obtain ⟨t, ht⟩ : ∃ t, t = Lib.trimPrefix l [35] := ⟨_, rfl⟩
  have hcut : ∀ w, Calls Tryz.prog 54 #[.string (S l), .string (S [35])] w fun e w' => e = .returned (.tuple #[.string (S t), .bool (decide (l.head? = some 35))]) ∧ w' = w := fun w => by
    have := Tryz.strings_CutPrefix (S l) (S [35]) w
    rw [list_S, list_S, sharp] at this
    rw [ht]
    exact this
  have hst := fun w => starts_c (S t) (S [120]) w (by decide)
  rw [list_S, list_S, starts_x] at hst
  have hdl := digs_len t
  obtain ⟨D, hD, hDs⟩ : ∃ D : ByteArray, D = S (digsOf t) ∧ D.size = (digsOf t).length := ⟨_, rfl, size_S _⟩
  obtain ⟨ds, hds⟩ : ∃ ds, ds = digsOf t := ⟨_, rfl⟩
  obtain ⟨bs, hbs⟩ : ∃ bs, bs = baseOf t := ⟨_, rfl⟩
  have hb16 : bs ≤ 16 := by rw [hbs]; unfold baseOf; split <;> omega
  have hDn : D.size = ds.length := by rw [hds]; exact hDs
  have hDi : (D.size : Int) = (ds.length : Int) := by rw [hDn]
  have hds6 : ds.length ≤ 4611686018427387904 := by
    have h1 := digs_le t
    have h2 : t.length ≤ l.length := by
      rw [ht, sharp_trim]
      split
      · rw [List.length_tail]; omega
      · exact Nat.le_refl _
    rw [hds]
    omega
  have hxT : isHex t = true → bs = 16 ∧ (S t).extract 1 (S t).size = D ∧ (1 : Int) ≤ ((S t).size : Int) := fun hx1 => by
    refine ⟨by rw [hbs]; unfold baseOf; rw [hx1]; rfl, ?_, by rw [size_S]; rw [hx1] at hdl; simp at hdl; omega⟩
    rw [cutFrom, list_S, hD]
    unfold digsOf
    rw [hx1]
    simp
  have hxF : isHex t = false → bs = 10 ∧ S t = D := fun hx1 => by
    refine ⟨by rw [hbs]; unfold baseOf; rw [hx1]; rfl, ?_⟩
    rw [hD]
    unfold digsOf
    rw [hx1]
    simp
  obtain ⟨T, hT⟩ : ∃ T, T = S t := ⟨_, rfl⟩
  rw [← hT] at hxT hxF
  have hcut := fun w => hT ▸ hcut w
  have hst := fun w => hT ▸ hst w
  by_cases hok : l.head? = some 35
  · have htt : t = l.tail := by rw [ht, sharp_trim, if_pos hok]
    rw [decide_eq_true hok] at hcut
    by_cases h7 : ds.length ≤ 7
    · have G1 : ds.all (digB bs) = true → numA l = (((valB bs ds : Nat) : Int), ((ds.length : Nat) : Int)) := fun h => by
        rw [hds, hbs, htt] at h ⊢
        exact numA_some ⟨hok, by rw [← htt, ← hds]; exact h7, h⟩
      have G0 : ∀ k (h : k < ds.length), digB bs ds[k] = false → numA l = (0, -1) := fun k h hf => by
        have : ds.all (digB bs) = false := by
          rw [List.all_eq_false]
          exact ⟨ds[k], List.getElem_mem h, by rw [hf]; simp⟩
        rw [hds, hbs, htt] at this
        exact numA_none fun hh => by rw [hh.2.2] at this; cases this
      have one : ∀ k (h : k < ds.length), D.extract k (k + 1) = S [ds[k]] := fun k h => by
        have e : D = S ds := by rw [hD, hds]
        rw [e]
        exact cutOne ds k h
      have HU := Lib.hid (fun (c : UInt8) w => unhex_c (S [c]) w)
      simp only [unhex_one] at HU
      have step : ∀ k (h : k < ds.length), digB bs ds[k] = true → (ds.take k).all (digB bs) = true → (ds.take (k + 1)).all (digB bs) = true ∧ valB bs (ds.take (k + 1)) = valB bs (ds.take k) * bs + (hx ds[k]).toNat := fun k h h1 h2 => by
        rw [List.take_succ_eq_append_getElem h, List.all_append, h2, valB_snoc]
        exact ⟨by simp [h1], rfl⟩
      have HS := Lib.hid step
      have H1 := Lib.hid one
      have HG := Lib.hid (And.intro G1 G0)
      have h7i : (ds.length : Int) ≤ 7 := by omega
      cases hx1 : isHex t with
      | true =>
        obtain ⟨hb, hcD, hsz1⟩ := hxT hx1
        rw [hx1] at hst
        clear hD hDs hds hbs hdl ht hok htt step one G1 G0 hx1 hxT hxF hT
        subst hb
        generalize S l = L at hcut
        go_enter Tryz.func89, Tryz.ntmps89
        go_wp2_with fail
        refine (hcut _).mono ?_
        rintro e w1 ⟨rfl, rfl⟩
        go_wp2_with fail
        refine (hst _).mono ?_
        rintro e w2 ⟨rfl, hb2⟩
        have HB := Lib.hid hb2
        clear hb2
        go_wp2_with fail
        go_loopw [6, 29] (fun n i wr => ∃ k : Nat, k ≤ ds.length ∧ i = .int .i64 k ∧ n = .int .i64 (valB 16 (ds.take k) : Nat) ∧ Hid ((ds.take k).all (digB 16) = true ∧ Below w1.heap.size w1 wr)) (fun _ i _ => ds.length - (intOf i).toNat)
        case atStart => exact ⟨0, Nat.zero_le _, rfl, rfl, rfl, HB.out⟩
        case round =>
          obtain ⟨k, hk, rfl, rfl, hr⟩ := hrel
          by_cases hlt : k < ds.length
          · have hv := valB_small 16 (by omega) ds k h7
            have h1 := H1.out k hlt
            have hu := HU.out ds[k] wr
            have hxr := hx_le ds[k]
            have HS1 := Lib.hid (And.intro (HS.out k hlt) (HG.out.2 k hlt))
            have i0 : (0 : Int) ≤ (k : Int) := by omega
            have i1 : (k : Int) < (ds.length : Int) := by omega
            have i2 : (k : Int) + 1 ≤ (ds.length : Int) := by omega
            have i3 : (k : Int) ≤ (k : Int) + 1 := by omega
            have i4 : ((k : Int) + 1).toNat = k + 1 := by omega
            generalize ds[k] = c at h1 hu hxr HS1
            obtain ⟨v, hveq⟩ : ∃ v, v = valB 16 (ds.take k) := ⟨_, rfl⟩
            rw [← hveq] at hv ⊢
            have HV := Lib.hid hveq
            clear hveq
            by_cases hd0 : 0 ≤ hx c
            · rw [if_pos hd0] at hu
              simp only at hu
              rw [Int.toNat_of_nonneg hd0] at hu
              by_cases hd1 : hx c < 16
              · have HE : Hid ((ds.take (k + 1)).all (digB 16) = true ∧ (valB 16 (ds.take (k + 1)) : Int) = (v : Int) * 16 + hx c) := by
                  obtain ⟨q1, q2⟩ := HS1.out.1 (decide_eq_true ⟨hd0, hd1⟩) hr.out.1
                  refine ⟨q1, ?_⟩
                  rw [q2, HV.out]
                  push_cast
                  rw [Int.toNat_of_nonneg hd0]
                generalize hx c = d at hu hd0 hd1 hxr HE
                go_wp2_with fail
                refine hu.mono ?_
                rintro e w3 ⟨rfl, hb3⟩
                have HB3 := Lib.hid (hr.out.2.trans (hb3.mono hr.out.2.size))
                clear hb3
                go_wp2_with fail
                go_roundw
                case rel => exact ⟨k + 1, by omega, by go_num, by rw [HE.out.2], HE.out.1, HB3.out⟩
                case measure => simp [intOf]; omega
              · have HE : Hid (numA l = (0, -1)) := HS1.out.2 (decide_eq_false (by omega))
                generalize hx c = d at hu hd0 hd1 hxr
                have hd2 : 16 ≤ d := by omega
                clear hd1
                go_wp2_with fail
                refine hu.mono ?_
                rintro e w3 ⟨rfl, hb3⟩
                have HB3 := Lib.hid (hr.out.2.trans (hb3.mono hr.out.2.size))
                clear hb3
                go_wp2_with fail
                go_ret2
                exact ⟨by rw [HE.out]; rfl, HB3.out⟩
            · rw [if_neg hd0] at hu
              simp only at hu
              have HE : Hid (numA l = (0, -1)) := HS1.out.2 (decide_eq_false (by omega))
              clear hd0 hxr
              go_wp2_with fail
              refine hu.mono ?_
              rintro e w3 ⟨rfl, hb3⟩
              have HB3 := Lib.hid (hr.out.2.trans (hb3.mono hr.out.2.size))
              clear hb3
              go_wp2_with fail
              go_ret2
              exact ⟨by rw [HE.out]; rfl, HB3.out⟩
          · have hkl : k = ds.length := by omega
            subst hkl
            have HE : Hid (numA l = (((valB 16 (ds.take ds.length) : Nat) : Int), ((ds.length : Nat) : Int))) := by
              have q := hr.out.1
              rw [List.take_length] at q ⊢
              exact HG.out.1 q
            generalize valB 16 (ds.take ds.length) = v at HE
            go_wp2_with fail
            go_ret2
            exact ⟨by rw [HE.out]; rfl, hr.out.2⟩
      | false =>
        obtain ⟨hb, hTD⟩ := hxF hx1
        rw [hx1] at hst
        rw [hTD] at hcut hst
        clear hD hDs hds hbs hdl ht hok htt step one G1 G0 hx1 hxT hxF hT
        subst hb
        generalize S l = L at hcut
        go_enter Tryz.func89, Tryz.ntmps89
        go_wp2_with fail
        refine (hcut _).mono ?_
        rintro e w1 ⟨rfl, rfl⟩
        go_wp2_with fail
        refine (hst _).mono ?_
        rintro e w2 ⟨rfl, hb2⟩
        have HB := Lib.hid hb2
        clear hb2
        go_wp2_with fail
        go_loopw [6, 29] (fun n i wr => ∃ k : Nat, k ≤ ds.length ∧ i = .int .i64 k ∧ n = .int .i64 (valB 10 (ds.take k) : Nat) ∧ Hid ((ds.take k).all (digB 10) = true ∧ Below w1.heap.size w1 wr)) (fun _ i _ => ds.length - (intOf i).toNat)
        case atStart => exact ⟨0, Nat.zero_le _, rfl, rfl, rfl, HB.out⟩
        case round =>
          obtain ⟨k, hk, rfl, rfl, hr⟩ := hrel
          by_cases hlt : k < ds.length
          · have hv := valB_small 10 (by omega) ds k h7
            have h1 := H1.out k hlt
            have hu := HU.out ds[k] wr
            have hxr := hx_le ds[k]
            have HS1 := Lib.hid (And.intro (HS.out k hlt) (HG.out.2 k hlt))
            have i0 : (0 : Int) ≤ (k : Int) := by omega
            have i1 : (k : Int) < (ds.length : Int) := by omega
            have i2 : (k : Int) + 1 ≤ (ds.length : Int) := by omega
            have i3 : (k : Int) ≤ (k : Int) + 1 := by omega
            have i4 : ((k : Int) + 1).toNat = k + 1 := by omega
            generalize ds[k] = c at h1 hu hxr HS1
            obtain ⟨v, hveq⟩ : ∃ v, v = valB 10 (ds.take k) := ⟨_, rfl⟩
            rw [← hveq] at hv ⊢
            have HV := Lib.hid hveq
            clear hveq
            by_cases hd0 : 0 ≤ hx c
            · rw [if_pos hd0] at hu
              simp only at hu
              rw [Int.toNat_of_nonneg hd0] at hu
              by_cases hd1 : hx c < 10
              · have HE : Hid ((ds.take (k + 1)).all (digB 10) = true ∧ (valB 10 (ds.take (k + 1)) : Int) = (v : Int) * 10 + hx c) := by
                  obtain ⟨q1, q2⟩ := HS1.out.1 (decide_eq_true ⟨hd0, hd1⟩) hr.out.1
                  refine ⟨q1, ?_⟩
                  rw [q2, HV.out]
                  push_cast
                  rw [Int.toNat_of_nonneg hd0]
                generalize hx c = d at hu hd0 hd1 hxr HE
                go_wp2_with fail
                refine hu.mono ?_
                rintro e w3 ⟨rfl, hb3⟩
                have HB3 := Lib.hid (hr.out.2.trans (hb3.mono hr.out.2.size))
                clear hb3
                go_wp2_with fail
                go_roundw
                case rel => exact ⟨k + 1, by omega, by go_num, by rw [HE.out.2], HE.out.1, HB3.out⟩
                case measure => simp [intOf]; omega
              · have HE : Hid (numA l = (0, -1)) := HS1.out.2 (decide_eq_false (by omega))
                generalize hx c = d at hu hd0 hd1 hxr
                have hd2 : 10 ≤ d := by omega
                clear hd1
                go_wp2_with fail
                refine hu.mono ?_
                rintro e w3 ⟨rfl, hb3⟩
                have HB3 := Lib.hid (hr.out.2.trans (hb3.mono hr.out.2.size))
                clear hb3
                go_wp2_with fail
                go_ret2
                exact ⟨by rw [HE.out]; rfl, HB3.out⟩
            · rw [if_neg hd0] at hu
              simp only at hu
              have HE : Hid (numA l = (0, -1)) := HS1.out.2 (decide_eq_false (by omega))
              clear hd0 hxr
              go_wp2_with fail
              refine hu.mono ?_
              rintro e w3 ⟨rfl, hb3⟩
              have HB3 := Lib.hid (hr.out.2.trans (hb3.mono hr.out.2.size))
              clear hb3
              go_wp2_with fail
              go_ret2
              exact ⟨by rw [HE.out]; rfl, HB3.out⟩
          · have hkl : k = ds.length := by omega
            subst hkl
            have HE : Hid (numA l = (((valB 10 (ds.take ds.length) : Nat) : Int), ((ds.length : Nat) : Int))) := by
              have q := hr.out.1
              rw [List.take_length] at q ⊢
              exact HG.out.1 q
            generalize valB 10 (ds.take ds.length) = v at HE
            go_wp2_with fail
            go_ret2
            exact ⟨by rw [HE.out]; rfl, hr.out.2⟩
    · have HE : Hid (numA l = (0, -1)) := numA_none fun hh => by
        have := hh.2.1
        rw [← htt, ← hds] at this
        omega
      have h7i : (7 : Int) < (ds.length : Int) := by omega
      cases hx1 : isHex t with
      | true =>
        obtain ⟨hb, hcD, hsz1⟩ := hxT hx1
        rw [hx1] at hst
        clear hD hDs hds hbs hdl ht hok htt hx1 hxT hxF hT hb
        generalize S l = L at hcut
        go_enter Tryz.func89, Tryz.ntmps89
        go_wp2_with fail
        refine (hcut _).mono ?_
        rintro e w1 ⟨rfl, rfl⟩
        go_wp2_with fail
        refine (hst _).mono ?_
        rintro e w2 ⟨rfl, hb2⟩
        go_wp2_with fail
        go_ret2
        exact ⟨by rw [HE.out]; rfl, hb2⟩
      | false =>
        obtain ⟨hb, hTD⟩ := hxF hx1
        rw [hx1] at hst
        rw [hTD] at hcut hst
        clear hD hDs hds hbs hdl ht hok htt hx1 hxT hxF hT hb hTD
        generalize S l = L at hcut
        go_enter Tryz.func89, Tryz.ntmps89
        go_wp2_with fail
        refine (hcut _).mono ?_
        rintro e w1 ⟨rfl, rfl⟩
        go_wp2_with fail
        refine (hst _).mono ?_
        rintro e w2 ⟨rfl, hb2⟩
        go_wp2_with fail
        go_ret2
        exact ⟨by rw [HE.out]; rfl, hb2⟩
  · have HE : Hid (numA l = (0, -1)) := numA_none fun hh => hok hh.1
    rw [decide_eq_false hok] at hcut
    cases hx1 : isHex t with
    | true =>
      obtain ⟨hb, hcD, hsz1⟩ := hxT hx1
      rw [hx1] at hst
      clear hD hDs hds hbs hdl ht hok hx1 hxT hxF hT hb
      generalize S l = L at hcut
      go_enter Tryz.func89, Tryz.ntmps89
      go_wp2_with fail
      refine (hcut _).mono ?_
      rintro e w1 ⟨rfl, rfl⟩
      go_wp2_with fail
      refine (hst _).mono ?_
      rintro e w2 ⟨rfl, hb2⟩
      go_wp2_with fail
      go_ret2
      exact ⟨by rw [HE.out]; rfl, hb2⟩
    | false =>
      rw [hx1] at hst
      clear hD hDs hds hbs hdl ht hok hx1 hxT hxF hT
      generalize S l = L at hcut
      go_enter Tryz.func89, Tryz.ntmps89
      go_wp2_with fail
      refine (hcut _).mono ?_
      rintro e w1 ⟨rfl, rfl⟩
      go_wp2_with fail
      refine (hst _).mono ?_
      rintro e w2 ⟨rfl, hb2⟩
      go_wp2_with fail
      go_ret2
      exact ⟨by rw [HE.out]; rfl, hb2⟩
end Go.Proofs.YtidfcajhmldieaaGreatDoor.Crf

/-
  Contracts of the page's leaves that references are read by: Begins, Has, digit, Unhex at one octet, run, number.
-/
namespace Go.Proofs.YtidfcajhmldieaaGreatDoor.Crf
open Go.RowKit Go.Proofs.YtidfcajhmldieaaGreatDoor.Oct Go.Proofs.YtidfcajhmldieaaGreatDoor.Num Go.Proofs.YtidfcajhmldieaaGreatDoor.Utf
open Go.Lib (encodeRune)

theorem prefix_take (l p : List UInt8) : Lib.hasPrefix l p = decide (l.take p.length = p) := by
  rw [Bool.eq_iff_iff, pre_iff, decide_eq_true_eq]
  constructor
  · intro hp
    exact (List.prefix_iff_eq_take.1 hp).symm
  · intro e
    rw [← e]
    exact List.take_prefix _ _

/-- Is an octet among these? -/
def hasB (l : List UInt8) (c : UInt8) : Bool := l.contains c
end Go.Proofs.YtidfcajhmldieaaGreatDoor.Crf

/-
  Contracts of the page's run and number: how many digits stand from a place on, and what they count.
-/
namespace Go.Proofs.YtidfcajhmldieaaGreatDoor.Crf
open Go.RowKit Go.Proofs.YtidfcajhmldieaaGreatDoor.Oct Go.Proofs.YtidfcajhmldieaaGreatDoor.Num Go.Proofs.YtidfcajhmldieaaGreatDoor.Utf
open Go.Lib (encodeRune)

abbrev abcL : List UInt8 := [97, 98, 99, 100, 101, 102, 65, 66, 67, 68, 69, 70]
theorem dig10 (c : UInt8) : digB 10 c = digitI (c.toNat : Int) := by
  have h : ∀ c : Fin 256, digB 10 (UInt8.ofNat c.val) = digitI ((UInt8.ofNat c.val).toNat : Int) := by decide +kernel
  have h2 := h ⟨c.toNat, c.toNat_lt⟩
  simpa using h2
theorem dig16 (c : UInt8) : digB 16 c = (digitI (c.toNat : Int) || hasB abcL c) := by
  have h : ∀ c : Fin 256, digB 16 (UInt8.ofNat c.val) = (digitI ((UInt8.ofNat c.val).toNat : Int) || hasB abcL (UInt8.ofNat c.val)) := by decide +kernel
  have h2 := h ⟨c.toNat, c.toNat_lt⟩
  simpa using h2
theorem runN_is {base : Int} {l : List UInt8} {k : Nat} (h : (l.take k).all (digB base) = true) (hk : k = l.length ∨ ∃ c, l[k]? = some c ∧ digB base c = false) : runN base l = k := by
  rcases hk with rfl | ⟨c, hc, hd⟩
  · rw [List.take_length] at h
    exact (runN_full base l).2 h
  · obtain ⟨hlt, hce⟩ := List.getElem?_eq_some_iff.1 hc
    have e : l = l.take k ++ c :: l.drop (k + 1) := by
      conv => lhs; rw [← List.take_append_drop k l, List.drop_eq_getElem_cons hlt, hce]
    unfold runN
    rw [e, List.takeWhile_append_of_pos (List.all_eq_true.1 h), List.takeWhile_cons_of_neg (by rw [hd]; simp)]
    simp
    omega
theorem all_next {base : Int} {l : List UInt8} {k : Nat} {c : UInt8} (h : (l.take k).all (digB base) = true) (hc : l[k]? = some c) (hd : digB base c = true) : (l.take (k + 1)).all (digB base) = true := by
  obtain ⟨hlt, hce⟩ := List.getElem?_eq_some_iff.1 hc
  rw [List.take_succ_eq_append_getElem hlt, List.all_append, h, hce]
  simp [hd]

end Go.Proofs.YtidfcajhmldieaaGreatDoor.Crf

/-
  Contracts of standsFor, beginsName and beginsNumber of package refs.
-/
namespace Go.Proofs.YtidfcajhmldieaaGreatDoor.Crf
open Go.RowKit Go.Proofs.YtidfcajhmldieaaGreatDoor.Oct Go.Proofs.YtidfcajhmldieaaGreatDoor.Num Go.Proofs.YtidfcajhmldieaaGreatDoor.Utf
open Go.Lib (encodeRune)

theorem nm0 : ∀ w, (Instr.index 100 namesV (.int .i64 0)).run Tryz.prog w = .ok (.agg #[.string ⟨#[97, 109, 112]⟩, .string ⟨#[38]⟩]) w := fun _ => by kernel_rfl
theorem nm1 : ∀ w, (Instr.index 100 namesV (.int .i64 1)).run Tryz.prog w = .ok (.agg #[.string ⟨#[108, 116]⟩, .string ⟨#[60]⟩]) w := fun _ => by kernel_rfl
theorem nm2 : ∀ w, (Instr.index 100 namesV (.int .i64 2)).run Tryz.prog w = .ok (.agg #[.string ⟨#[103, 116]⟩, .string ⟨#[62]⟩]) w := fun _ => by kernel_rfl
theorem nm3 : ∀ w, (Instr.index 100 namesV (.int .i64 3)).run Tryz.prog w = .ok (.agg #[.string ⟨#[113, 117, 111, 116]⟩, .string ⟨#[34]⟩]) w := fun _ => by kernel_rfl
theorem nm4 : ∀ w, (Instr.index 100 namesV (.int .i64 4)).run Tryz.prog w = .ok (.agg #[.string ⟨#[97, 112, 111, 115]⟩, .string ⟨#[39]⟩]) w := fun _ => by kernel_rfl

/-- The k-th name's word, and what it stands for. -/
def wordL : Nat → List UInt8
  | 0 => amp
  | 1 => lt'
  | 2 => gt'
  | 3 => quot
  | _ => apos
def wordS : Nat → List UInt8
  | 0 => [38]
  | 1 => [60]
  | 2 => [62]
  | 3 => [34]
  | _ => [39]
theorem nm (k : Nat) (h : k < 5) : ∀ w, (Instr.index 100 namesV (.int .i64 (k : Int))).run Tryz.prog w = .ok (.agg #[.string (S (wordL k)), .string (S (wordS k))]) w := by
  match k, h with
  | 0, _ => exact nm0
  | 1, _ => exact nm1
  | 2, _ => exact nm2
  | 3, _ => exact nm3
  | 4, _ => exact nm4
theorem name_word {l : List UInt8} {k : Nat} (hk : k < 5) (h : wordL k = l) : nameR l = wordS k := by
  subst h
  match k, hk with
  | 0, _ => decide
  | 1, _ => decide
  | 2, _ => decide
  | 3, _ => decide
  | 4, _ => decide
theorem wordS_ne (k : Nat) : wordS k ≠ [] := by
  unfold wordS
  split <;> simp
theorem name_no {l : List UInt8} (h : ∀ k, k < 5 → wordL k ≠ l) : nameR l = [] := by
  have h0 : l ≠ amp := fun e => h 0 (by omega) e.symm
  have h1 : l ≠ lt' := fun e => h 1 (by omega) e.symm
  have h2 : l ≠ gt' := fun e => h 2 (by omega) e.symm
  have h3 : l ≠ quot := fun e => h 3 (by omega) e.symm
  have h4 : l ≠ apos := fun e => h 4 (by omega) e.symm
  unfold nameR
  rw [if_neg h0, if_neg h1, if_neg h2, if_neg h3, if_neg h4]
theorem eqS (a b : List UInt8) {q : Bool} (h : decide (a = b) = q) : ((S a).toList == (S b).toList) = q := by rw [eqB, h]

set_option maxHeartbeats 4000000 in
set_option maxRecDepth 100000 in
theorem stands_c (l : List UInt8) (hl : l.length ≤ 4611686018427387904) (w : World) :
    Calls Tryz.prog 60 #[.string (S l)] w fun e w' => e = .returned (.string (S (refR l))) ∧ Below w.heap.size w w' := by
  have hnum := fun w => number_c l hl w
  have HC := Lib.hid (fun n w => character_c n w)
  have HN := Lib.hid (fun k h => nm k h)
  have HEq := Lib.hid (fun a {q} (h : decide (a = l) = q) => eqS a l h)
  obtain ⟨L, hL⟩ : ∃ L, L = S l := ⟨_, rfl⟩
  rw [← hL] at hnum HEq ⊢
  clear hL
  go_enter Tryz.func60, Tryz.ntmps60
  go_wp2_with fail
  refine (names_c _).mono ?_
  rintro e w1 ⟨rfl, hb1⟩
  have HB1 := Lib.hid hb1
  clear hb1
  go_wp2_with fail
  go_loopw [8] (fun i wr => ∃ k : Nat, k ≤ 5 ∧ i = .int .i64 k ∧ Hid ((∀ j, j < k → wordL j ≠ l) ∧ Below w.heap.size w wr)) (fun i _ => 5 - (intOf i).toNat)
  case atStart => exact ⟨0, Nat.zero_le _, rfl, fun j h => absurd h (by omega), HB1.out⟩
  case round =>
    obtain ⟨k, hk, rfl, hr⟩ := hrel
    by_cases hlt : k < 5
    · have hi := HN.out k hlt
      have i0 : (0 : Int) ≤ (k : Int) := by omega
      have i1 : (k : Int) < 5 := by omega
      by_cases hw : wordL k = l
      · have hq := HEq.out (wordL k) (decide_eq_true hw)
        have HR : Hid (refR l = wordS k) := by
          show _ = _
          have := name_word hlt hw
          unfold refR
          rw [if_pos (by rw [this]; exact wordS_ne k), this]
        generalize S (wordL k) = W1 at hi hq
        generalize hW2 : S (wordS k) = W2 at hi
        have HW2 := Lib.hid hW2
        clear hW2 hw
        go_wp2_with fail
        go_ret
        exact ⟨by rw [HR.out, HW2.out]; rfl, hr.out.2.alloc hr.out.2.size _⟩
      · have hq := HEq.out (wordL k) (decide_eq_false hw)
        have HNW := Lib.hid hw
        generalize hW1 : S (wordL k) = W1 at hi hq
        generalize S (wordS k) = W2 at hi
        clear hW1 hw
        go_wp2_with fail
        go_roundw
        case rel => exact ⟨k + 1, by omega, by go_num, fun j hj => by
          rcases Nat.lt_or_ge j k with h | h
          · exact hr.out.1 j h
          · obtain rfl : j = k := by omega
            exact HNW.out, hr.out.2.alloc hr.out.2.size _⟩
        case measure => simp [intOf]; omega
    · obtain rfl : k = 5 := by omega
      have HNN : Hid (nameR l = []) := name_no hr.out.1
      cases hk2 : numR l with
      | none =>
        have e : numA l = (0, -1) := by unfold numA; rw [hk2]
        have HR : Hid (refR l = []) := by
          show _ = _
          unfold refR
          rw [HNN.out, hk2]; rfl
        rw [e] at hnum
        clear hk2 e
        go_wp2_with fail
        refine (hnum _).mono ?_
        rintro e w2 ⟨rfl, hb2⟩
        go_wp2_with fail
        go_ret
        exact ⟨by rw [HR.out]; rfl, hr.out.2.trans (hb2.mono hr.out.2.size)⟩
      | some q =>
        obtain ⟨n, d⟩ := q
        have e : numA l = ((n : Int), (d : Int)) := by unfold numA; rw [hk2]
        rw [e] at hnum
        by_cases hd : d = 0
        · have HR : Hid (refR l = []) := by
            show _ = _
            unfold refR
            rw [HNN.out, hk2, hd]; rfl
          subst hd
          clear hk2 e
          go_wp2_with fail
          refine (hnum _).mono ?_
          rintro e w2 ⟨rfl, hb2⟩
          go_wp2_with fail
          go_ret
          exact ⟨by rw [HR.out]; rfl, hr.out.2.trans (hb2.mono hr.out.2.size)⟩
        · have HR : Hid (refR l = standL n) := by
            show _ = _
            unfold refR
            rw [HNN.out, hk2]
            simp [hd]
          have d1 : ((d : Int) == -1) = false := by simp
          have d0 : ((d : Int) == 0) = false := by simp; exact hd
          have hch := fun w => HC.out n w
          generalize hC0 : S (standL n) = C at hch
          have HC0 := Lib.hid hC0
          clear hC0 hk2 e hd
          generalize (n : Int) = n' at hnum hch
          generalize (d : Int) = d' at hnum d0 d1
          go_wp2_with fail
          refine (hnum _).mono ?_
          rintro e w2 ⟨rfl, hb2⟩
          go_wp2_with fail
          refine (hch _).mono ?_
          rintro e w3 ⟨rfl, hb3⟩
          go_wp2_with fail
          go_ret
          exact ⟨by rw [HR.out, HC0.out]; rfl, (hr.out.2.trans (hb2.mono hr.out.2.size)).trans (hb3.mono (Nat.le_trans hr.out.2.size hb2.size))⟩

/-! ### beginsName, beginsNumber -/
theorem prefix_word (k : Nat) (l : List UInt8) : Lib.hasPrefix (wordL k) l = true ↔ l <+: wordL k := pre_iff _ _
theorem beg_yes {k : Nat} {l : List UInt8} (hk : k < 5) (h : Lib.hasPrefix (wordL k) l = true) : begName l = true := by
  have h := (prefix_word k l).1 h
  refine decide_eq_true ?_
  match k, hk, h with
  | 0, _, h => exact .inl h
  | 1, _, h => exact .inr (.inl h)
  | 2, _, h => exact .inr (.inr (.inl h))
  | 3, _, h => exact .inr (.inr (.inr (.inl h)))
  | 4, _, h => exact .inr (.inr (.inr (.inr h)))
theorem beg_no {l : List UInt8} (h : ∀ k, k < 5 → Lib.hasPrefix (wordL k) l = false) : begName l = false := by
  refine decide_eq_false ?_
  have n : ∀ k, k < 5 → ¬ l <+: wordL k := fun k hk hp => by
    have := h k hk
    rw [(prefix_word k l).2 hp] at this
    cases this
  rintro (h | h | h | h | h)
  · exact n 0 (by omega) h
  · exact n 1 (by omega) h
  · exact n 2 (by omega) h
  · exact n 3 (by omega) h
  · exact n 4 (by omega) h

end Go.Proofs.YtidfcajhmldieaaGreatDoor.Crf
