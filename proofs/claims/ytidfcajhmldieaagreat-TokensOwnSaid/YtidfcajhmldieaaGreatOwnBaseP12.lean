/-
  Part 12: CrfNumber, CrfPage.
-/
import Derived.Test.YtidfcajhmldieaaGreatOwnBaseP11
import Derived.LoopTactic
import Derived.Test.YtidfcajhmldieaaGreatOwnBaseP10
/-
  Contracts of number, standsFor, beginsName and beginsNumber of package refs.
-/
namespace Go.Proofs.YtidfcajhmldieaaGreat.Crf
open Go.RowKit Go.Proofs.YtidfcajhmldieaaGreat.Oct Go.Proofs.YtidfcajhmldieaaGreat.Num Go.Proofs.YtidfcajhmldieaaGreat.Utf
open Go.Lib (encodeRune)

theorem starts_x (t : List UInt8) : startsB t [120] = isHex t := by
  cases t with
  | nil => rfl
  | cons c t =>
    have h : ∀ c : Fin 256, startsB [UInt8.ofNat c.val] [120] = isHex [UInt8.ofNat c.val] := by decide +kernel
    have h2 := h ⟨c.toNat, c.toNat_lt⟩
    simp only [UInt8.ofNat_toNat] at h2
    have e1 : startsB (c :: t) [120] = startsB [c] [120] := by simp [startsB]
    have e2 : isHex (c :: t) = isHex [c] := rfl
    rw [e1, e2, h2]

theorem valB_snoc (b : Nat) (l : List UInt8) (c : UInt8) : valB b (l ++ [c]) = valB b l * b + (hx c).toNat := by simp [valB]
theorem valB_lt (b : Nat) (hb : b ≤ 16) (l : List UInt8) : valB b l < 16 ^ l.length := by
  have gen : ∀ (l : List UInt8) (a e : Nat), a < 16 ^ e → l.foldl (fun n c => n * b + (hx c).toNat) a < 16 ^ (e + l.length) := by
    intro l
    induction l with
    | nil => intro a e h; simpa using h
    | cons c l ih =>
      intro a e h
      have hc := hx_le c
      have hm : a * b ≤ a * 16 := Nat.mul_le_mul_left a hb
      have := ih (a * b + (hx c).toNat) (e + 1) (by rw [Nat.pow_succ]; omega)
      rw [List.foldl_cons, List.length_cons, show e + (l.length + 1) = e + 1 + l.length by omega]
      exact this
  have := gen l 0 0 (by simp)
  simpa [valB] using this
theorem valB_small (b : Nat) (hb : b ≤ 16) (l : List UInt8) (k : Nat) (hl : l.length ≤ 7) : valB b (l.take k) < 268435456 := by
  have h1 := valB_lt b hb (l.take k)
  have h2 : (l.take k).length ≤ 7 := by rw [List.length_take]; omega
  have h3 : 16 ^ (l.take k).length ≤ 16 ^ 7 := Nat.pow_le_pow_right (by omega) h2
  omega
theorem unhex_one (c : UInt8) : unhexL [c] = if 0 ≤ hx c then ((hx c).toNat, 0) else (0, 33) := by
  unfold unhexL
  have e : hexC c = hx c := rfl
  by_cases h : 0 ≤ hx c
  · rw [if_pos h, if_neg (by simp), if_neg (by simp), if_pos (by simp [e, h])]
    simp [valL, e]
  · rw [if_neg h, if_neg (by simp), if_neg (by simp), if_neg (by simp [e, h])]

/-- What number tells. -/
def numA (l : List UInt8) : Int × Int := match numR l with | some (n, d) => (n, d) | none => (0, -1)
theorem numA_none {l : List UInt8} (h : ¬ (l.head? = some 35 ∧ (digsOf l.tail).length ≤ 7 ∧ (digsOf l.tail).all (digB (baseOf l.tail)) = true)) : numA l = (0, -1) := by
  unfold numA numR
  rw [if_neg h]
theorem numA_some {l : List UInt8} (h : l.head? = some 35 ∧ (digsOf l.tail).length ≤ 7 ∧ (digsOf l.tail).all (digB (baseOf l.tail)) = true) : numA l = (((valB (baseOf l.tail) (digsOf l.tail) : Nat) : Int), (((digsOf l.tail).length : Nat) : Int)) := by
  unfold numA numR
  rw [if_pos h]
theorem sharp (l : List UInt8) : Lib.hasPrefix l [35] = decide (l.head? = some 35) := by
  cases l with
  | nil => rfl
  | cons a l =>
    by_cases h : a = 35
    · subst h; rfl
    · simp [Lib.hasPrefix, List.isPrefixOf, h, Ne.symm h]
theorem sharp_trim (l : List UInt8) : Lib.trimPrefix l [35] = if l.head? = some 35 then l.tail else l := by
  unfold Lib.trimPrefix
  rw [sharp]
  by_cases h : l.head? = some 35
  · simp [h]
  · simp [h]
theorem digs_le (t : List UInt8) : (digsOf t).length ≤ t.length := by have := digs_len t; omega

set_option maxHeartbeats 4000000 in
set_option maxRecDepth 100000 in
theorem number_c (l : List UInt8) (hl : l.length ≤ 4611686018427387904) (w : World) :
    Calls Tryz.prog 75 #[.string (S l)] w fun e w' => e = .returned (.tuple #[.int .i64 (numA l).1, .int .i64 (numA l).2]) ∧ Below w.heap.size w w' := by
  obtain ⟨t, ht⟩ : ∃ t, t = Lib.trimPrefix l [35] := ⟨_, rfl⟩
  have hcut : ∀ w, Calls Tryz.prog 45 #[.string (S l), .string (S [35])] w fun e w' => e = .returned (.tuple #[.string (S t), .bool (decide (l.head? = some 35))]) ∧ w' = w := fun w => by
    have := Tryz.strings_CutPrefix (S l) (S [35]) w
    rw [list_S, list_S, sharp] at this
    rw [ht]
    exact this
  have hst := fun w => starts_c (S t) (S [120]) w (by decide)
  rw [list_S, list_S, starts_x] at hst
  have hdl := digs_len t
  obtain ⟨D, hD, hDs⟩ : ∃ D : ByteArray, D = S (digsOf t) ∧ D.size = (digsOf t).length := ⟨_, rfl, size_S _⟩
  obtain ⟨ds, hds⟩ : ∃ ds, ds = digsOf t := ⟨_, rfl⟩
  obtain ⟨bs, hbs⟩ : ∃ bs, bs = baseOf t := ⟨_, rfl⟩
  have hb16 : bs ≤ 16 := by rw [hbs]; unfold baseOf; split <;> omega
  have hDn : D.size = ds.length := by rw [hds]; exact hDs
  have hDi : (D.size : Int) = (ds.length : Int) := by rw [hDn]
  have hds6 : ds.length ≤ 4611686018427387904 := by
    have h1 := digs_le t
    have h2 : t.length ≤ l.length := by
      rw [ht, sharp_trim]
      split
      · rw [List.length_tail]; omega
      · exact Nat.le_refl _
    rw [hds]
    omega
  have hxT : isHex t = true → bs = 16 ∧ (S t).extract 1 (S t).size = D ∧ (1 : Int) ≤ ((S t).size : Int) := fun hx1 => by
    refine ⟨by rw [hbs]; unfold baseOf; rw [hx1]; rfl, ?_, by rw [size_S]; rw [hx1] at hdl; simp at hdl; omega⟩
    rw [cutFrom, list_S, hD]
    unfold digsOf
    rw [hx1]
    simp
  have hxF : isHex t = false → bs = 10 ∧ S t = D := fun hx1 => by
    refine ⟨by rw [hbs]; unfold baseOf; rw [hx1]; rfl, ?_⟩
    rw [hD]
    unfold digsOf
    rw [hx1]
    simp
  obtain ⟨T, hT⟩ : ∃ T, T = S t := ⟨_, rfl⟩
  rw [← hT] at hxT hxF
  have hcut := fun w => hT ▸ hcut w
  have hst := fun w => hT ▸ hst w
  by_cases hok : l.head? = some 35
  · have htt : t = l.tail := by rw [ht, sharp_trim, if_pos hok]
    rw [decide_eq_true hok] at hcut
    by_cases h7 : ds.length ≤ 7
    · have G1 : ds.all (digB bs) = true → numA l = (((valB bs ds : Nat) : Int), ((ds.length : Nat) : Int)) := fun h => by
        rw [hds, hbs, htt] at h ⊢
        exact numA_some ⟨hok, by rw [← htt, ← hds]; exact h7, h⟩
      have G0 : ∀ k (h : k < ds.length), digB bs ds[k] = false → numA l = (0, -1) := fun k h hf => by
        have : ds.all (digB bs) = false := by
          rw [List.all_eq_false]
          exact ⟨ds[k], List.getElem_mem h, by rw [hf]; simp⟩
        rw [hds, hbs, htt] at this
        exact numA_none fun hh => by rw [hh.2.2] at this; cases this
      have one : ∀ k (h : k < ds.length), D.extract k (k + 1) = S [ds[k]] := fun k h => by
        have e : D = S ds := by rw [hD, hds]
        rw [e]
        exact cutOne ds k h
      have HU := Lib.hid (fun (c : UInt8) w => unhex_c (S [c]) w)
      simp only [unhex_one] at HU
      have step : ∀ k (h : k < ds.length), digB bs ds[k] = true → (ds.take k).all (digB bs) = true → (ds.take (k + 1)).all (digB bs) = true ∧ valB bs (ds.take (k + 1)) = valB bs (ds.take k) * bs + (hx ds[k]).toNat := fun k h h1 h2 => by
        rw [List.take_succ_eq_append_getElem h, List.all_append, h2, valB_snoc]
        exact ⟨by simp [h1], rfl⟩
      have HS := Lib.hid step
      have H1 := Lib.hid one
      have HG := Lib.hid (And.intro G1 G0)
      have h7i : (ds.length : Int) ≤ 7 := by omega
      cases hx1 : isHex t with
      | true =>
        obtain ⟨hb, hcD, hsz1⟩ := hxT hx1
        rw [hx1] at hst
        clear hD hDs hds hbs hdl ht hok htt step one G1 G0 hx1 hxT hxF hT
        subst hb
        generalize S l = L at hcut
        go_enter Tryz.func75, Tryz.ntmps75
        go_wp2_with fail
        refine (hcut _).mono ?_
        rintro e w1 ⟨rfl, rfl⟩
        go_wp2_with fail
        refine (hst _).mono ?_
        rintro e w2 ⟨rfl, hb2⟩
        have HB := Lib.hid hb2
        clear hb2
        go_wp2_with fail
        go_loopw [6, 29] (fun n i wr => ∃ k : Nat, k ≤ ds.length ∧ i = .int .i64 k ∧ n = .int .i64 (valB 16 (ds.take k) : Nat) ∧ Hid ((ds.take k).all (digB 16) = true ∧ Below w1.heap.size w1 wr)) (fun _ i _ => ds.length - (intOf i).toNat)
        case atStart => exact ⟨0, Nat.zero_le _, rfl, rfl, rfl, HB.out⟩
        case round =>
          obtain ⟨k, hk, rfl, rfl, hr⟩ := hrel
          by_cases hlt : k < ds.length
          · have hv := valB_small 16 (by omega) ds k h7
            have h1 := H1.out k hlt
            have hu := HU.out ds[k] wr
            have hxr := hx_le ds[k]
            have HS1 := Lib.hid (And.intro (HS.out k hlt) (HG.out.2 k hlt))
            have i0 : (0 : Int) ≤ (k : Int) := by omega
            have i1 : (k : Int) < (ds.length : Int) := by omega
            have i2 : (k : Int) + 1 ≤ (ds.length : Int) := by omega
            have i3 : (k : Int) ≤ (k : Int) + 1 := by omega
            have i4 : ((k : Int) + 1).toNat = k + 1 := by omega
            generalize ds[k] = c at h1 hu hxr HS1
            obtain ⟨v, hveq⟩ : ∃ v, v = valB 16 (ds.take k) := ⟨_, rfl⟩
            rw [← hveq] at hv ⊢
            have HV := Lib.hid hveq
            clear hveq
            by_cases hd0 : 0 ≤ hx c
            · rw [if_pos hd0] at hu
              simp only at hu
              rw [Int.toNat_of_nonneg hd0] at hu
              by_cases hd1 : hx c < 16
              · have HE : Hid ((ds.take (k + 1)).all (digB 16) = true ∧ (valB 16 (ds.take (k + 1)) : Int) = (v : Int) * 16 + hx c) := by
                  obtain ⟨q1, q2⟩ := HS1.out.1 (decide_eq_true ⟨hd0, hd1⟩) hr.out.1
                  refine ⟨q1, ?_⟩
                  rw [q2, HV.out]
                  push_cast
                  rw [Int.toNat_of_nonneg hd0]
                generalize hx c = d at hu hd0 hd1 hxr HE
                go_wp2_with fail
                refine hu.mono ?_
                rintro e w3 ⟨rfl, hb3⟩
                have HB3 := Lib.hid (hr.out.2.trans (hb3.mono hr.out.2.size))
                clear hb3
                go_wp2_with fail
                go_roundw
                case rel => exact ⟨k + 1, by omega, by go_num, by rw [HE.out.2], HE.out.1, HB3.out⟩
                case measure => simp [intOf]; omega
              · have HE : Hid (numA l = (0, -1)) := HS1.out.2 (decide_eq_false (by omega))
                generalize hx c = d at hu hd0 hd1 hxr
                have hd2 : 16 ≤ d := by omega
                clear hd1
                go_wp2_with fail
                refine hu.mono ?_
                rintro e w3 ⟨rfl, hb3⟩
                have HB3 := Lib.hid (hr.out.2.trans (hb3.mono hr.out.2.size))
                clear hb3
                go_wp2_with fail
                go_ret2
                exact ⟨by rw [HE.out]; rfl, HB3.out⟩
            · rw [if_neg hd0] at hu
              simp only at hu
              have HE : Hid (numA l = (0, -1)) := HS1.out.2 (decide_eq_false (by omega))
              clear hd0 hxr
              go_wp2_with fail
              refine hu.mono ?_
              rintro e w3 ⟨rfl, hb3⟩
              have HB3 := Lib.hid (hr.out.2.trans (hb3.mono hr.out.2.size))
              clear hb3
              go_wp2_with fail
              go_ret2
              exact ⟨by rw [HE.out]; rfl, HB3.out⟩
          · have hkl : k = ds.length := by omega
            subst hkl
            have HE : Hid (numA l = (((valB 16 (ds.take ds.length) : Nat) : Int), ((ds.length : Nat) : Int))) := by
              have q := hr.out.1
              rw [List.take_length] at q ⊢
              exact HG.out.1 q
            generalize valB 16 (ds.take ds.length) = v at HE
            go_wp2_with fail
            go_ret2
            exact ⟨by rw [HE.out]; rfl, hr.out.2⟩
      | false =>
        obtain ⟨hb, hTD⟩ := hxF hx1
        rw [hx1] at hst
        rw [hTD] at hcut hst
        clear hD hDs hds hbs hdl ht hok htt step one G1 G0 hx1 hxT hxF hT
        subst hb
        generalize S l = L at hcut
        go_enter Tryz.func75, Tryz.ntmps75
        go_wp2_with fail
        refine (hcut _).mono ?_
        rintro e w1 ⟨rfl, rfl⟩
        go_wp2_with fail
        refine (hst _).mono ?_
        rintro e w2 ⟨rfl, hb2⟩
        have HB := Lib.hid hb2
        clear hb2
        go_wp2_with fail
        go_loopw [6, 29] (fun n i wr => ∃ k : Nat, k ≤ ds.length ∧ i = .int .i64 k ∧ n = .int .i64 (valB 10 (ds.take k) : Nat) ∧ Hid ((ds.take k).all (digB 10) = true ∧ Below w1.heap.size w1 wr)) (fun _ i _ => ds.length - (intOf i).toNat)
        case atStart => exact ⟨0, Nat.zero_le _, rfl, rfl, rfl, HB.out⟩
        case round =>
          obtain ⟨k, hk, rfl, rfl, hr⟩ := hrel
          by_cases hlt : k < ds.length
          · have hv := valB_small 10 (by omega) ds k h7
            have h1 := H1.out k hlt
            have hu := HU.out ds[k] wr
            have hxr := hx_le ds[k]
            have HS1 := Lib.hid (And.intro (HS.out k hlt) (HG.out.2 k hlt))
            have i0 : (0 : Int) ≤ (k : Int) := by omega
            have i1 : (k : Int) < (ds.length : Int) := by omega
            have i2 : (k : Int) + 1 ≤ (ds.length : Int) := by omega
            have i3 : (k : Int) ≤ (k : Int) + 1 := by omega
            have i4 : ((k : Int) + 1).toNat = k + 1 := by omega
            generalize ds[k] = c at h1 hu hxr HS1
            obtain ⟨v, hveq⟩ : ∃ v, v = valB 10 (ds.take k) := ⟨_, rfl⟩
            rw [← hveq] at hv ⊢
            have HV := Lib.hid hveq
            clear hveq
            by_cases hd0 : 0 ≤ hx c
            · rw [if_pos hd0] at hu
              simp only at hu
              rw [Int.toNat_of_nonneg hd0] at hu
              by_cases hd1 : hx c < 10
              · have HE : Hid ((ds.take (k + 1)).all (digB 10) = true ∧ (valB 10 (ds.take (k + 1)) : Int) = (v : Int) * 10 + hx c) := by
                  obtain ⟨q1, q2⟩ := HS1.out.1 (decide_eq_true ⟨hd0, hd1⟩) hr.out.1
                  refine ⟨q1, ?_⟩
                  rw [q2, HV.out]
                  push_cast
                  rw [Int.toNat_of_nonneg hd0]
                generalize hx c = d at hu hd0 hd1 hxr HE
                go_wp2_with fail
                refine hu.mono ?_
                rintro e w3 ⟨rfl, hb3⟩
                have HB3 := Lib.hid (hr.out.2.trans (hb3.mono hr.out.2.size))
                clear hb3
                go_wp2_with fail
                go_roundw
                case rel => exact ⟨k + 1, by omega, by go_num, by rw [HE.out.2], HE.out.1, HB3.out⟩
                case measure => simp [intOf]; omega
              · have HE : Hid (numA l = (0, -1)) := HS1.out.2 (decide_eq_false (by omega))
                generalize hx c = d at hu hd0 hd1 hxr
                have hd2 : 10 ≤ d := by omega
                clear hd1
                go_wp2_with fail
                refine hu.mono ?_
                rintro e w3 ⟨rfl, hb3⟩
                have HB3 := Lib.hid (hr.out.2.trans (hb3.mono hr.out.2.size))
                clear hb3
                go_wp2_with fail
                go_ret2
                exact ⟨by rw [HE.out]; rfl, HB3.out⟩
            · rw [if_neg hd0] at hu
              simp only at hu
              have HE : Hid (numA l = (0, -1)) := HS1.out.2 (decide_eq_false (by omega))
              clear hd0 hxr
              go_wp2_with fail
              refine hu.mono ?_
              rintro e w3 ⟨rfl, hb3⟩
              have HB3 := Lib.hid (hr.out.2.trans (hb3.mono hr.out.2.size))
              clear hb3
              go_wp2_with fail
              go_ret2
              exact ⟨by rw [HE.out]; rfl, HB3.out⟩
          · have hkl : k = ds.length := by omega
            subst hkl
            have HE : Hid (numA l = (((valB 10 (ds.take ds.length) : Nat) : Int), ((ds.length : Nat) : Int))) := by
              have q := hr.out.1
              rw [List.take_length] at q ⊢
              exact HG.out.1 q
            generalize valB 10 (ds.take ds.length) = v at HE
            go_wp2_with fail
            go_ret2
            exact ⟨by rw [HE.out]; rfl, hr.out.2⟩
    · have HE : Hid (numA l = (0, -1)) := numA_none fun hh => by
        have := hh.2.1
        rw [← htt, ← hds] at this
        omega
      have h7i : (7 : Int) < (ds.length : Int) := by omega
      cases hx1 : isHex t with
      | true =>
        obtain ⟨hb, hcD, hsz1⟩ := hxT hx1
        rw [hx1] at hst
        clear hD hDs hds hbs hdl ht hok htt hx1 hxT hxF hT hb
        generalize S l = L at hcut
        go_enter Tryz.func75, Tryz.ntmps75
        go_wp2_with fail
        refine (hcut _).mono ?_
        rintro e w1 ⟨rfl, rfl⟩
        go_wp2_with fail
        refine (hst _).mono ?_
        rintro e w2 ⟨rfl, hb2⟩
        go_wp2_with fail
        go_ret2
        exact ⟨by rw [HE.out]; rfl, hb2⟩
      | false =>
        obtain ⟨hb, hTD⟩ := hxF hx1
        rw [hx1] at hst
        rw [hTD] at hcut hst
        clear hD hDs hds hbs hdl ht hok htt hx1 hxT hxF hT hb hTD
        generalize S l = L at hcut
        go_enter Tryz.func75, Tryz.ntmps75
        go_wp2_with fail
        refine (hcut _).mono ?_
        rintro e w1 ⟨rfl, rfl⟩
        go_wp2_with fail
        refine (hst _).mono ?_
        rintro e w2 ⟨rfl, hb2⟩
        go_wp2_with fail
        go_ret2
        exact ⟨by rw [HE.out]; rfl, hb2⟩
  · have HE : Hid (numA l = (0, -1)) := numA_none fun hh => hok hh.1
    rw [decide_eq_false hok] at hcut
    cases hx1 : isHex t with
    | true =>
      obtain ⟨hb, hcD, hsz1⟩ := hxT hx1
      rw [hx1] at hst
      clear hD hDs hds hbs hdl ht hok hx1 hxT hxF hT hb
      generalize S l = L at hcut
      go_enter Tryz.func75, Tryz.ntmps75
      go_wp2_with fail
      refine (hcut _).mono ?_
      rintro e w1 ⟨rfl, rfl⟩
      go_wp2_with fail
      refine (hst _).mono ?_
      rintro e w2 ⟨rfl, hb2⟩
      go_wp2_with fail
      go_ret2
      exact ⟨by rw [HE.out]; rfl, hb2⟩
    | false =>
      rw [hx1] at hst
      clear hD hDs hds hbs hdl ht hok hx1 hxT hxF hT
      generalize S l = L at hcut
      go_enter Tryz.func75, Tryz.ntmps75
      go_wp2_with fail
      refine (hcut _).mono ?_
      rintro e w1 ⟨rfl, rfl⟩
      go_wp2_with fail
      refine (hst _).mono ?_
      rintro e w2 ⟨rfl, hb2⟩
      go_wp2_with fail
      go_ret2
      exact ⟨by rw [HE.out]; rfl, hb2⟩
end Go.Proofs.YtidfcajhmldieaaGreat.Crf

/-
  Contracts of the page's leaves that references are read by: Begins, Has, digit, Unhex at one octet, run, number.
-/
namespace Go.Proofs.YtidfcajhmldieaaGreat.Crf
open Go.RowKit Go.Proofs.YtidfcajhmldieaaGreat.Oct Go.Proofs.YtidfcajhmldieaaGreat.Num Go.Proofs.YtidfcajhmldieaaGreat.Utf
open Go.Lib (encodeRune)

theorem prefix_take (l p : List UInt8) : Lib.hasPrefix l p = decide (l.take p.length = p) := by
  rw [Bool.eq_iff_iff, pre_iff, decide_eq_true_eq]
  constructor
  · intro hp
    exact (List.prefix_iff_eq_take.1 hp).symm
  · intro e
    rw [← e]
    exact List.take_prefix _ _

/-- Contract of the page's Begins. -/
theorem rbegins_c (p l : List UInt8) (w : World) :
    Calls Tryz.prog 27 #[.string (S p), .string (S l)] w fun e w' => e = .returned (.bool (Lib.hasPrefix l p)) ∧ w = w' := by
  have z1 : ((S p).size : Int) = (p.length : Int) := by rw [size_S]
  have z2 : ((S l).size : Int) = (l.length : Int) := by rw [size_S]
  by_cases h : p.length ≤ l.length
  · have hcut : (S l).extract 0 p.length = S (l.take p.length) := by rw [cutTo, list_S]
    have HE : Hid (Lib.hasPrefix l p = ((S (l.take p.length)).toList == (S p).toList)) := by
      show _ = _
      rw [prefix_take l p, eqB]
    generalize S (l.take p.length) = T at hcut HE
    generalize S p = P at z1 HE
    generalize S l = L at z2 hcut
    have h1 : (p.length : Int) ≤ (l.length : Int) := by omega
    have h2 : (0 : Int) ≤ (p.length : Int) := by omega
    go_enter Tryz.func27, Tryz.ntmps27
    go_wp2
    go_ret
    exact ⟨by rw [HE.out]; rfl, rfl⟩
  · have HE : Hid (Lib.hasPrefix l p = false) := by
      show _ = _
      cases hb : Lib.hasPrefix l p with
      | false => rfl
      | true => exact absurd ((pre_iff l p).1 hb).length_le h
    generalize S p = P at z1
    generalize S l = L at z2
    have h1 : decide ((p.length : Int) ≤ (l.length : Int)) = false := decide_eq_false (by omega)
    have h2 : decide (p.length ≤ l.length) = false := decide_eq_false h
    go_enter Tryz.func27, Tryz.ntmps27
    go_wp2
    go_ret
    exact ⟨by rw [HE.out]; rfl, rfl⟩

/-- Is an octet among these? -/
def hasB (l : List UInt8) (c : UInt8) : Bool := l.contains c
/-- Contract of the page's Has. -/
theorem rhas_c (s : ByteArray) (c : UInt8) (hs : s.size ≤ 4611686018427387904) (w : World) :
    Calls Tryz.prog 79 #[.string s, .int .u8 (c.toNat : Int)] w fun e w' => e = .returned (.bool (hasB s.data.toList c)) ∧ w = w' := by
  have HL := Lib.hid (fun k (h : k < s.size) => (by
    rw [List.getElem?_eq_getElem (by rw [size_list]; exact h)]
    rfl : s.data.toList[k]? = some s[k]))
  go_enter Tryz.func79, Tryz.ntmps79
  go_wp2_with fail
  go_loop [5] (fun i => ∃ k : Nat, k ≤ s.size ∧ i = .int .i64 k ∧ Hid (∀ j (x : UInt8), j < k → s.data.toList[j]? = some x → x ≠ c)) (fun i => s.size - (intOf i).toNat)
  case atStart => exact ⟨0, Nat.zero_le _, rfl, fun j _ h => absurd h (by omega)⟩
  case round =>
    obtain ⟨k, hk, rfl, hno⟩ := hrel
    by_cases hlt : k < s.size
    · have hx := HL.out k hlt
      by_cases he : s[k] = c
      · have HR : Hid (hasB s.data.toList c = true) := by
          show s.data.toList.contains c = true
          rw [List.contains_iff_mem, ← he]
          exact List.mem_of_getElem? hx
        have hb : ((s[k].toNat : Int) == (c.toNat : Int)) = true := by rw [he]; simp
        clear hx he
        go_wp2_with fail
        go_ret
        exact ⟨by rw [HR.out]; rfl, rfl⟩
      · have hb : ((s[k].toNat : Int) == (c.toNat : Int)) = false := by
          rw [beq_eq_false_iff_ne]
          intro e
          exact he (UInt8.toNat_inj.1 (by omega))
        have HN : Hid (∀ j (x : UInt8), j < k + 1 → s.data.toList[j]? = some x → x ≠ c) := fun j x hj hxj => by
          rcases Nat.lt_or_ge j k with h | h
          · exact hno.out j x h hxj
          · obtain rfl : j = k := by omega
            rw [hx] at hxj
            injection hxj with e
            rw [← e]
            exact he
        clear hx he
        go_wp2_with fail
        go_round
        case rel => exact ⟨k + 1, by omega, by go_num, HN⟩
        case measure => simp [intOf]; omega
    · have HR : Hid (hasB s.data.toList c = false) := by
        show s.data.toList.contains c = false
        rw [Bool.eq_false_iff]
        intro hc
        rw [List.contains_iff_mem] at hc
        obtain ⟨j, hj⟩ := List.mem_iff_getElem?.1 hc
        have hjl := (List.getElem?_eq_some_iff.1 hj).1
        rw [size_list] at hjl
        exact hno.out j c (by omega) hj rfl
      go_wp2_with fail
      go_ret
      exact ⟨by rw [HR.out]; rfl, rfl⟩

/-- Contract of the page's digit. -/
theorem rdig_c (n : Int) (w : World) (h0 : 0 ≤ n) (h1 : n ≤ 255) :
    Calls Tryz.prog 90 #[.int .u8 n] w fun e w' => e = .returned (.int .i64 (hexI n)) ∧ w = w' := by
  have hd := rdigit_c n w h0 h1
  by_cases c1 : 48 ≤ n ∧ n ≤ 57
  · have e : Hid (hexI n = n - 48) := by show _ = _; unfold hexI; rw [if_pos c1]
    rw [show digitI n = true from decide_eq_true c1] at hd
    obtain ⟨c2, c3⟩ := c1
    go_enter Tryz.func90, Tryz.ntmps90
    go_wp2_with (go_at_call 78; refine hd.mono ?_; rintro e' w' ⟨rfl, rfl⟩)
    go_ret
    exact ⟨by rw [e.out]; rfl, rfl⟩
  · rw [show digitI n = false from decide_eq_false c1] at hd
    by_cases c2 : 97 ≤ n ∧ n ≤ 102
    · have e : Hid (hexI n = n - 97 + 10) := by show _ = _; unfold hexI; rw [if_neg c1, if_pos c2]; omega
      obtain ⟨c3, c4⟩ := c2
      clear c1
      go_enter Tryz.func90, Tryz.ntmps90
      go_wp2_with (go_at_call 78; refine hd.mono ?_; rintro e' w' ⟨rfl, rfl⟩)
      go_ret
      exact ⟨by rw [e.out]; rfl, rfl⟩
    · by_cases c3 : 65 ≤ n ∧ n ≤ 70
      · have e : Hid (hexI n = n - 65 + 10) := by show _ = _; unfold hexI; rw [if_neg c1, if_neg c2, if_pos c3]; omega
        obtain ⟨c4, c5⟩ := c3
        have d1 : decide (97 ≤ n) = false := decide_eq_false (by omega)
        clear c1 c2
        go_enter Tryz.func90, Tryz.ntmps90
        go_wp2_with (go_at_call 78; refine hd.mono ?_; rintro e' w' ⟨rfl, rfl⟩)
        go_ret
        exact ⟨by rw [e.out]; rfl, rfl⟩
      · have HE : Hid (hexI n = -1) := by show _ = _; unfold hexI; rw [if_neg c1, if_neg c2, if_neg c3]
        rcases (by omega : n < 65 ∨ (70 < n ∧ n < 97) ∨ 102 < n) with c | ⟨c, c'⟩ | c
        · have d1 : decide (97 ≤ n) = false := decide_eq_false (by omega)
          have d2 : decide (65 ≤ n) = false := decide_eq_false (by omega)
          clear c1 c2 c3
          go_enter Tryz.func90, Tryz.ntmps90
          go_wp2_with (go_at_call 78; refine hd.mono ?_; rintro e w' ⟨rfl, rfl⟩)
          go_ret
          exact ⟨by rw [HE.out]; rfl, rfl⟩
        · have d1 : decide (97 ≤ n) = false := decide_eq_false (by omega)
          have d2 : (65 : Int) ≤ n := by omega
          have d3 : decide (n ≤ 70) = false := decide_eq_false (by omega)
          clear c1 c2 c3
          go_enter Tryz.func90, Tryz.ntmps90
          go_wp2_with (go_at_call 78; refine hd.mono ?_; rintro e w' ⟨rfl, rfl⟩)
          go_ret
          exact ⟨by rw [HE.out]; rfl, rfl⟩
        · have d1 : (97 : Int) ≤ n := by omega
          have d2 : (65 : Int) ≤ n := by omega
          have d3 : decide (n ≤ 70) = false := decide_eq_false (by omega)
          have d4 : decide (n ≤ 102) = false := decide_eq_false (by omega)
          clear c1 c2 c3
          go_enter Tryz.func90, Tryz.ntmps90
          go_wp2_with (go_at_call 78; refine hd.mono ?_; rintro e w' ⟨rfl, rfl⟩)
          go_ret
          exact ⟨by rw [HE.out]; rfl, rfl⟩

/-- Contract of the page's Unhex at one digit. -/
theorem rone_c (c : UInt8) (hc : 0 ≤ hx c) (w : World) :
    Calls Tryz.prog 80 #[.string (S [c])] w fun e w' => e = .returned (.tuple #[.int .i64 (hx c), .int .i64 0]) ∧ w = w' := by
  have hd := fun w => rdig_c (c.toNat : Int) w (by omega) (by have := c.toNat_lt; omega)
  have e : hexI (c.toNat : Int) = hx c := rfl
  rw [e] at hd
  have hr := hx_le c
  have h0 : (S [c]).toList.isEmpty = false := by rw [ByteArray.toList_eq, list_S]; rfl
  have h1 : (S [c]).size = 1 := rfl
  have h2 : (S [c])[0]'(by show (0 : Nat) < 1; omega) = c := rfl
  have hcn : (c.toNat : Int) ≤ 255 := by have := c.toNat_lt; omega
  generalize hx c = d at hd hc hr
  go_enter Tryz.func80, Tryz.ntmps80
  go_wp2_with fail
  go_loop [4, 5] (fun n i => (n = .int .i64 0 ∧ i = .int .i64 0) ∨ (n = .int .i64 d ∧ i = .int .i64 1)) (fun _ i => 1 - (intOf i).toNat)
  case atStart => exact .inl ⟨rfl, rfl⟩
  case round =>
    rcases hrel with ⟨rfl, rfl⟩ | ⟨rfl, rfl⟩
    · go_wp2_with (go_at_call 90; refine (hd _).mono ?_; rintro e w' ⟨rfl, rfl⟩)
      go_round
      case rel => exact .inr ⟨by simp, by go_num⟩
      case measure => simp [intOf]
    · go_wp2_with fail
      go_ret2
      exact ⟨rfl, rfl⟩
end Go.Proofs.YtidfcajhmldieaaGreat.Crf
