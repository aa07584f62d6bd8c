/-
  Part 4: CrfNumber, CrfPage, CrfRun, CrfStands, CrfRead, UtfRefPure, UtfRef.
-/
import Derived.Test.YtidfcajhmldieaaTokPlainAllP3
import Derived.LoopTactic
import Derived.Test.YtidfcajhmldieaaTokPlainAllP1
import Derived.Test.YtidfcajhmldieaaTokPlainAllP2
import Derived.RangeFuncBox
import Derived.Deep.QuietTactic
import Derived.BigQuiet
import Derived.Laws.BitsLemmas
/-
  Contracts of number, standsFor, beginsName and beginsNumber of package refs.
-/
namespace Go.Proofs.Ytidfcajhmldieaa.Crf
open Go.RowKit Go.Proofs.Ytidfcajhmldieaa.Oct Go.Proofs.Ytidfcajhmldieaa.Num Go.Proofs.Ytidfcajhmldieaa.Utf
open Go.Lib (encodeRune)

theorem starts_x (t : List UInt8) : startsB t [120] = isHex t := by
  cases t with
  | nil => rfl
  | cons c t =>
    have h : ∀ c : Fin 256, startsB [UInt8.ofNat c.val] [120] = isHex [UInt8.ofNat c.val] := by decide +kernel
    have h2 := h ⟨c.toNat, c.toNat_lt⟩
    simp only [UInt8.ofNat_toNat] at h2
    have e1 : startsB (c :: t) [120] = startsB [c] [120] := by simp [startsB]
    have e2 : isHex (c :: t) = isHex [c] := rfl
    rw [e1, e2, h2]

theorem valB_snoc (b : Nat) (l : List UInt8) (c : UInt8) : valB b (l ++ [c]) = valB b l * b + (hx c).toNat := by simp [valB]
theorem valB_lt (b : Nat) (hb : b ≤ 16) (l : List UInt8) : valB b l < 16 ^ l.length := by
  have gen : ∀ (l : List UInt8) (a e : Nat), a < 16 ^ e → l.foldl (fun n c => n * b + (hx c).toNat) a < 16 ^ (e + l.length) := by
    intro l
    induction l with
    | nil => intro a e h; simpa using h
    | cons c l ih =>
      intro a e h
      have hc := hx_le c
      have hm : a * b ≤ a * 16 := Nat.mul_le_mul_left a hb
      have := ih (a * b + (hx c).toNat) (e + 1) (by rw [Nat.pow_succ]; omega)
      rw [List.foldl_cons, List.length_cons, show e + (l.length + 1) = e + 1 + l.length by omega]
      exact this
  have := gen l 0 0 (by simp)
  simpa [valB] using this
theorem valB_small (b : Nat) (hb : b ≤ 16) (l : List UInt8) (k : Nat) (hl : l.length ≤ 7) : valB b (l.take k) < 268435456 := by
  have h1 := valB_lt b hb (l.take k)
  have h2 : (l.take k).length ≤ 7 := by rw [List.length_take]; omega
  have h3 : 16 ^ (l.take k).length ≤ 16 ^ 7 := Nat.pow_le_pow_right (by omega) h2
  omega
theorem unhex_one (c : UInt8) : unhexL [c] = if 0 ≤ hx c then ((hx c).toNat, 0) else (0, 33) := by
  unfold unhexL
  have e : hexC c = hx c := rfl
  by_cases h : 0 ≤ hx c
  · rw [if_pos h, if_neg (by simp), if_neg (by simp), if_pos (by simp [e, h])]
    simp [valL, e]
  · rw [if_neg h, if_neg (by simp), if_neg (by simp), if_neg (by simp [e, h])]

/-- What number tells. -/
def numA (l : List UInt8) : Int × Int := match numR l with | some (n, d) => (n, d) | none => (0, -1)
theorem numA_none {l : List UInt8} (h : ¬ (l.head? = some 35 ∧ (digsOf l.tail).length ≤ 7 ∧ (digsOf l.tail).all (digB (baseOf l.tail)) = true)) : numA l = (0, -1) := by
  unfold numA numR
  rw [if_neg h]
theorem numA_some {l : List UInt8} (h : l.head? = some 35 ∧ (digsOf l.tail).length ≤ 7 ∧ (digsOf l.tail).all (digB (baseOf l.tail)) = true) : numA l = (((valB (baseOf l.tail) (digsOf l.tail) : Nat) : Int), (((digsOf l.tail).length : Nat) : Int)) := by
  unfold numA numR
  rw [if_pos h]
theorem sharp (l : List UInt8) : Lib.hasPrefix l [35] = decide (l.head? = some 35) := by
  cases l with
  | nil => rfl
  | cons a l =>
    by_cases h : a = 35
    · subst h; rfl
    · simp [Lib.hasPrefix, List.isPrefixOf, h, Ne.symm h]
theorem sharp_trim (l : List UInt8) : Lib.trimPrefix l [35] = if l.head? = some 35 then l.tail else l := by
  unfold Lib.trimPrefix
  rw [sharp]
  by_cases h : l.head? = some 35
  · simp [h]
  · simp [h]
theorem digs_le (t : List UInt8) : (digsOf t).length ≤ t.length := by have := digs_len t; omega

set_option maxHeartbeats 4000000 in
set_option maxRecDepth 100000 in
theorem number_c (l : List UInt8) (hl : l.length ≤ 4611686018427387904) (w : World) :
    Calls Try.prog 72 #[.string (S l)] w fun e w' => e = .returned (.tuple #[.int .i64 (numA l).1, .int .i64 (numA l).2]) ∧ Below w.heap.size w w' := by
  obtain ⟨t, ht⟩ : ∃ t, t = Lib.trimPrefix l [35] := ⟨_, rfl⟩
  have hcut : ∀ w, Calls Try.prog 45 #[.string (S l), .string (S [35])] w fun e w' => e = .returned (.tuple #[.string (S t), .bool (decide (l.head? = some 35))]) ∧ w' = w := fun w => by
    have := Try.strings_CutPrefix (S l) (S [35]) w
    rw [list_S, list_S, sharp] at this
    rw [ht]
    exact this
  have hst := fun w => starts_c (S t) (S [120]) w (by decide)
  rw [list_S, list_S, starts_x] at hst
  have hdl := digs_len t
  obtain ⟨D, hD, hDs⟩ : ∃ D : ByteArray, D = S (digsOf t) ∧ D.size = (digsOf t).length := ⟨_, rfl, size_S _⟩
  obtain ⟨ds, hds⟩ : ∃ ds, ds = digsOf t := ⟨_, rfl⟩
  obtain ⟨bs, hbs⟩ : ∃ bs, bs = baseOf t := ⟨_, rfl⟩
  have hb16 : bs ≤ 16 := by rw [hbs]; unfold baseOf; split <;> omega
  have hDn : D.size = ds.length := by rw [hds]; exact hDs
  have hDi : (D.size : Int) = (ds.length : Int) := by rw [hDn]
  have hds6 : ds.length ≤ 4611686018427387904 := by
    have h1 := digs_le t
    have h2 : t.length ≤ l.length := by
      rw [ht, sharp_trim]
      split
      · rw [List.length_tail]; omega
      · exact Nat.le_refl _
    rw [hds]
    omega
  have hxT : isHex t = true → bs = 16 ∧ (S t).extract 1 (S t).size = D ∧ (1 : Int) ≤ ((S t).size : Int) := fun hx1 => by
    refine ⟨by rw [hbs]; unfold baseOf; rw [hx1]; rfl, ?_, by rw [size_S]; rw [hx1] at hdl; simp at hdl; omega⟩
    rw [cutFrom, list_S, hD]
    unfold digsOf
    rw [hx1]
    simp
  have hxF : isHex t = false → bs = 10 ∧ S t = D := fun hx1 => by
    refine ⟨by rw [hbs]; unfold baseOf; rw [hx1]; rfl, ?_⟩
    rw [hD]
    unfold digsOf
    rw [hx1]
    simp
  obtain ⟨T, hT⟩ : ∃ T, T = S t := ⟨_, rfl⟩
  rw [← hT] at hxT hxF
  have hcut := fun w => hT ▸ hcut w
  have hst := fun w => hT ▸ hst w
  by_cases hok : l.head? = some 35
  · have htt : t = l.tail := by rw [ht, sharp_trim, if_pos hok]
    rw [decide_eq_true hok] at hcut
    by_cases h7 : ds.length ≤ 7
    · have G1 : ds.all (digB bs) = true → numA l = (((valB bs ds : Nat) : Int), ((ds.length : Nat) : Int)) := fun h => by
        rw [hds, hbs, htt] at h ⊢
        exact numA_some ⟨hok, by rw [← htt, ← hds]; exact h7, h⟩
      have G0 : ∀ k (h : k < ds.length), digB bs ds[k] = false → numA l = (0, -1) := fun k h hf => by
        have : ds.all (digB bs) = false := by
          rw [List.all_eq_false]
          exact ⟨ds[k], List.getElem_mem h, by rw [hf]; simp⟩
        rw [hds, hbs, htt] at this
        exact numA_none fun hh => by rw [hh.2.2] at this; cases this
      have one : ∀ k (h : k < ds.length), D.extract k (k + 1) = S [ds[k]] := fun k h => by
        have e : D = S ds := by rw [hD, hds]
        rw [e]
        exact cutOne ds k h
      have HU := Lib.hid (fun (c : UInt8) w => unhex_c (S [c]) w)
      simp only [unhex_one] at HU
      have step : ∀ k (h : k < ds.length), digB bs ds[k] = true → (ds.take k).all (digB bs) = true → (ds.take (k + 1)).all (digB bs) = true ∧ valB bs (ds.take (k + 1)) = valB bs (ds.take k) * bs + (hx ds[k]).toNat := fun k h h1 h2 => by
        rw [List.take_succ_eq_append_getElem h, List.all_append, h2, valB_snoc]
        exact ⟨by simp [h1], rfl⟩
      have HS := Lib.hid step
      have H1 := Lib.hid one
      have HG := Lib.hid (And.intro G1 G0)
      have h7i : (ds.length : Int) ≤ 7 := by omega
      cases hx1 : isHex t with
      | true =>
        obtain ⟨hb, hcD, hsz1⟩ := hxT hx1
        rw [hx1] at hst
        clear hD hDs hds hbs hdl ht hok htt step one G1 G0 hx1 hxT hxF hT
        subst hb
        generalize S l = L at hcut
        go_enter Try.func72, Try.ntmps72
        go_wp2_with fail
        refine (hcut _).mono ?_
        rintro e w1 ⟨rfl, rfl⟩
        go_wp2_with fail
        refine (hst _).mono ?_
        rintro e w2 ⟨rfl, hb2⟩
        have HB := Lib.hid hb2
        clear hb2
        go_wp2_with fail
        go_loopw [6, 29] (fun n i wr => ∃ k : Nat, k ≤ ds.length ∧ i = .int .i64 k ∧ n = .int .i64 (valB 16 (ds.take k) : Nat) ∧ Hid ((ds.take k).all (digB 16) = true ∧ Below w1.heap.size w1 wr)) (fun _ i _ => ds.length - (intOf i).toNat)
        case atStart => exact ⟨0, Nat.zero_le _, rfl, rfl, rfl, HB.out⟩
        case round =>
          obtain ⟨k, hk, rfl, rfl, hr⟩ := hrel
          by_cases hlt : k < ds.length
          · have hv := valB_small 16 (by omega) ds k h7
            have h1 := H1.out k hlt
            have hu := HU.out ds[k] wr
            have hxr := hx_le ds[k]
            have HS1 := Lib.hid (And.intro (HS.out k hlt) (HG.out.2 k hlt))
            have i0 : (0 : Int) ≤ (k : Int) := by omega
            have i1 : (k : Int) < (ds.length : Int) := by omega
            have i2 : (k : Int) + 1 ≤ (ds.length : Int) := by omega
            have i3 : (k : Int) ≤ (k : Int) + 1 := by omega
            have i4 : ((k : Int) + 1).toNat = k + 1 := by omega
            generalize ds[k] = c at h1 hu hxr HS1
            obtain ⟨v, hveq⟩ : ∃ v, v = valB 16 (ds.take k) := ⟨_, rfl⟩
            rw [← hveq] at hv ⊢
            have HV := Lib.hid hveq
            clear hveq
            by_cases hd0 : 0 ≤ hx c
            · rw [if_pos hd0] at hu
              simp only at hu
              rw [Int.toNat_of_nonneg hd0] at hu
              by_cases hd1 : hx c < 16
              · have HE : Hid ((ds.take (k + 1)).all (digB 16) = true ∧ (valB 16 (ds.take (k + 1)) : Int) = (v : Int) * 16 + hx c) := by
                  obtain ⟨q1, q2⟩ := HS1.out.1 (decide_eq_true ⟨hd0, hd1⟩) hr.out.1
                  refine ⟨q1, ?_⟩
                  rw [q2, HV.out]
                  push_cast
                  rw [Int.toNat_of_nonneg hd0]
                generalize hx c = d at hu hd0 hd1 hxr HE
                go_wp2_with fail
                refine hu.mono ?_
                rintro e w3 ⟨rfl, hb3⟩
                have HB3 := Lib.hid (hr.out.2.trans (hb3.mono hr.out.2.size))
                clear hb3
                go_wp2_with fail
                go_roundw
                case rel => exact ⟨k + 1, by omega, by go_num, by rw [HE.out.2], HE.out.1, HB3.out⟩
                case measure => simp [intOf]; omega
              · have HE : Hid (numA l = (0, -1)) := HS1.out.2 (decide_eq_false (by omega))
                generalize hx c = d at hu hd0 hd1 hxr
                have hd2 : 16 ≤ d := by omega
                clear hd1
                go_wp2_with fail
                refine hu.mono ?_
                rintro e w3 ⟨rfl, hb3⟩
                have HB3 := Lib.hid (hr.out.2.trans (hb3.mono hr.out.2.size))
                clear hb3
                go_wp2_with fail
                go_ret2
                exact ⟨by rw [HE.out]; rfl, HB3.out⟩
            · rw [if_neg hd0] at hu
              simp only at hu
              have HE : Hid (numA l = (0, -1)) := HS1.out.2 (decide_eq_false (by omega))
              clear hd0 hxr
              go_wp2_with fail
              refine hu.mono ?_
              rintro e w3 ⟨rfl, hb3⟩
              have HB3 := Lib.hid (hr.out.2.trans (hb3.mono hr.out.2.size))
              clear hb3
              go_wp2_with fail
              go_ret2
              exact ⟨by rw [HE.out]; rfl, HB3.out⟩
          · have hkl : k = ds.length := by omega
            subst hkl
            have HE : Hid (numA l = (((valB 16 (ds.take ds.length) : Nat) : Int), ((ds.length : Nat) : Int))) := by
              have q := hr.out.1
              rw [List.take_length] at q ⊢
              exact HG.out.1 q
            generalize valB 16 (ds.take ds.length) = v at HE
            go_wp2_with fail
            go_ret2
            exact ⟨by rw [HE.out]; rfl, hr.out.2⟩
      | false =>
        obtain ⟨hb, hTD⟩ := hxF hx1
        rw [hx1] at hst
        rw [hTD] at hcut hst
        clear hD hDs hds hbs hdl ht hok htt step one G1 G0 hx1 hxT hxF hT
        subst hb
        generalize S l = L at hcut
        go_enter Try.func72, Try.ntmps72
        go_wp2_with fail
        refine (hcut _).mono ?_
        rintro e w1 ⟨rfl, rfl⟩
        go_wp2_with fail
        refine (hst _).mono ?_
        rintro e w2 ⟨rfl, hb2⟩
        have HB := Lib.hid hb2
        clear hb2
        go_wp2_with fail
        go_loopw [6, 29] (fun n i wr => ∃ k : Nat, k ≤ ds.length ∧ i = .int .i64 k ∧ n = .int .i64 (valB 10 (ds.take k) : Nat) ∧ Hid ((ds.take k).all (digB 10) = true ∧ Below w1.heap.size w1 wr)) (fun _ i _ => ds.length - (intOf i).toNat)
        case atStart => exact ⟨0, Nat.zero_le _, rfl, rfl, rfl, HB.out⟩
        case round =>
          obtain ⟨k, hk, rfl, rfl, hr⟩ := hrel
          by_cases hlt : k < ds.length
          · have hv := valB_small 10 (by omega) ds k h7
            have h1 := H1.out k hlt
            have hu := HU.out ds[k] wr
            have hxr := hx_le ds[k]
            have HS1 := Lib.hid (And.intro (HS.out k hlt) (HG.out.2 k hlt))
            have i0 : (0 : Int) ≤ (k : Int) := by omega
            have i1 : (k : Int) < (ds.length : Int) := by omega
            have i2 : (k : Int) + 1 ≤ (ds.length : Int) := by omega
            have i3 : (k : Int) ≤ (k : Int) + 1 := by omega
            have i4 : ((k : Int) + 1).toNat = k + 1 := by omega
            generalize ds[k] = c at h1 hu hxr HS1
            obtain ⟨v, hveq⟩ : ∃ v, v = valB 10 (ds.take k) := ⟨_, rfl⟩
            rw [← hveq] at hv ⊢
            have HV := Lib.hid hveq
            clear hveq
            by_cases hd0 : 0 ≤ hx c
            · rw [if_pos hd0] at hu
              simp only at hu
              rw [Int.toNat_of_nonneg hd0] at hu
              by_cases hd1 : hx c < 10
              · have HE : Hid ((ds.take (k + 1)).all (digB 10) = true ∧ (valB 10 (ds.take (k + 1)) : Int) = (v : Int) * 10 + hx c) := by
                  obtain ⟨q1, q2⟩ := HS1.out.1 (decide_eq_true ⟨hd0, hd1⟩) hr.out.1
                  refine ⟨q1, ?_⟩
                  rw [q2, HV.out]
                  push_cast
                  rw [Int.toNat_of_nonneg hd0]
                generalize hx c = d at hu hd0 hd1 hxr HE
                go_wp2_with fail
                refine hu.mono ?_
                rintro e w3 ⟨rfl, hb3⟩
                have HB3 := Lib.hid (hr.out.2.trans (hb3.mono hr.out.2.size))
                clear hb3
                go_wp2_with fail
                go_roundw
                case rel => exact ⟨k + 1, by omega, by go_num, by rw [HE.out.2], HE.out.1, HB3.out⟩
                case measure => simp [intOf]; omega
              · have HE : Hid (numA l = (0, -1)) := HS1.out.2 (decide_eq_false (by omega))
                generalize hx c = d at hu hd0 hd1 hxr
                have hd2 : 10 ≤ d := by omega
                clear hd1
                go_wp2_with fail
                refine hu.mono ?_
                rintro e w3 ⟨rfl, hb3⟩
                have HB3 := Lib.hid (hr.out.2.trans (hb3.mono hr.out.2.size))
                clear hb3
                go_wp2_with fail
                go_ret2
                exact ⟨by rw [HE.out]; rfl, HB3.out⟩
            · rw [if_neg hd0] at hu
              simp only at hu
              have HE : Hid (numA l = (0, -1)) := HS1.out.2 (decide_eq_false (by omega))
              clear hd0 hxr
              go_wp2_with fail
              refine hu.mono ?_
              rintro e w3 ⟨rfl, hb3⟩
              have HB3 := Lib.hid (hr.out.2.trans (hb3.mono hr.out.2.size))
              clear hb3
              go_wp2_with fail
              go_ret2
              exact ⟨by rw [HE.out]; rfl, HB3.out⟩
          · have hkl : k = ds.length := by omega
            subst hkl
            have HE : Hid (numA l = (((valB 10 (ds.take ds.length) : Nat) : Int), ((ds.length : Nat) : Int))) := by
              have q := hr.out.1
              rw [List.take_length] at q ⊢
              exact HG.out.1 q
            generalize valB 10 (ds.take ds.length) = v at HE
            go_wp2_with fail
            go_ret2
            exact ⟨by rw [HE.out]; rfl, hr.out.2⟩
    · have HE : Hid (numA l = (0, -1)) := numA_none fun hh => by
        have := hh.2.1
        rw [← htt, ← hds] at this
        omega
      have h7i : (7 : Int) < (ds.length : Int) := by omega
      cases hx1 : isHex t with
      | true =>
        obtain ⟨hb, hcD, hsz1⟩ := hxT hx1
        rw [hx1] at hst
        clear hD hDs hds hbs hdl ht hok htt hx1 hxT hxF hT hb
        generalize S l = L at hcut
        go_enter Try.func72, Try.ntmps72
        go_wp2_with fail
        refine (hcut _).mono ?_
        rintro e w1 ⟨rfl, rfl⟩
        go_wp2_with fail
        refine (hst _).mono ?_
        rintro e w2 ⟨rfl, hb2⟩
        go_wp2_with fail
        go_ret2
        exact ⟨by rw [HE.out]; rfl, hb2⟩
      | false =>
        obtain ⟨hb, hTD⟩ := hxF hx1
        rw [hx1] at hst
        rw [hTD] at hcut hst
        clear hD hDs hds hbs hdl ht hok htt hx1 hxT hxF hT hb hTD
        generalize S l = L at hcut
        go_enter Try.func72, Try.ntmps72
        go_wp2_with fail
        refine (hcut _).mono ?_
        rintro e w1 ⟨rfl, rfl⟩
        go_wp2_with fail
        refine (hst _).mono ?_
        rintro e w2 ⟨rfl, hb2⟩
        go_wp2_with fail
        go_ret2
        exact ⟨by rw [HE.out]; rfl, hb2⟩
  · have HE : Hid (numA l = (0, -1)) := numA_none fun hh => hok hh.1
    rw [decide_eq_false hok] at hcut
    cases hx1 : isHex t with
    | true =>
      obtain ⟨hb, hcD, hsz1⟩ := hxT hx1
      rw [hx1] at hst
      clear hD hDs hds hbs hdl ht hok hx1 hxT hxF hT hb
      generalize S l = L at hcut
      go_enter Try.func72, Try.ntmps72
      go_wp2_with fail
      refine (hcut _).mono ?_
      rintro e w1 ⟨rfl, rfl⟩
      go_wp2_with fail
      refine (hst _).mono ?_
      rintro e w2 ⟨rfl, hb2⟩
      go_wp2_with fail
      go_ret2
      exact ⟨by rw [HE.out]; rfl, hb2⟩
    | false =>
      rw [hx1] at hst
      clear hD hDs hds hbs hdl ht hok hx1 hxT hxF hT
      generalize S l = L at hcut
      go_enter Try.func72, Try.ntmps72
      go_wp2_with fail
      refine (hcut _).mono ?_
      rintro e w1 ⟨rfl, rfl⟩
      go_wp2_with fail
      refine (hst _).mono ?_
      rintro e w2 ⟨rfl, hb2⟩
      go_wp2_with fail
      go_ret2
      exact ⟨by rw [HE.out]; rfl, hb2⟩
end Go.Proofs.Ytidfcajhmldieaa.Crf

/-
  Contracts of the page's leaves that references are read by: Begins, Has, digit, Unhex at one octet, run, number.
-/
namespace Go.Proofs.Ytidfcajhmldieaa.Crf
open Go.RowKit Go.Proofs.Ytidfcajhmldieaa.Oct Go.Proofs.Ytidfcajhmldieaa.Num Go.Proofs.Ytidfcajhmldieaa.Utf
open Go.Lib (encodeRune)

theorem prefix_take (l p : List UInt8) : Lib.hasPrefix l p = decide (l.take p.length = p) := by
  rw [Bool.eq_iff_iff, pre_iff, decide_eq_true_eq]
  constructor
  · intro hp
    exact (List.prefix_iff_eq_take.1 hp).symm
  · intro e
    rw [← e]
    exact List.take_prefix _ _

/-- Contract of the page's Begins. -/
theorem rbegins_c (p l : List UInt8) (w : World) :
    Calls Try.prog 13 #[.string (S p), .string (S l)] w fun e w' => e = .returned (.bool (Lib.hasPrefix l p)) ∧ w = w' := by
  have z1 : ((S p).size : Int) = (p.length : Int) := by rw [size_S]
  have z2 : ((S l).size : Int) = (l.length : Int) := by rw [size_S]
  by_cases h : p.length ≤ l.length
  · have hcut : (S l).extract 0 p.length = S (l.take p.length) := by rw [cutTo, list_S]
    have HE : Hid (Lib.hasPrefix l p = ((S (l.take p.length)).toList == (S p).toList)) := by
      show _ = _
      rw [prefix_take l p, eqB]
    generalize S (l.take p.length) = T at hcut HE
    generalize S p = P at z1 HE
    generalize S l = L at z2 hcut
    have h1 : (p.length : Int) ≤ (l.length : Int) := by omega
    have h2 : (0 : Int) ≤ (p.length : Int) := by omega
    go_enter Try.func13, Try.ntmps13
    go_wp2
    go_ret
    exact ⟨by rw [HE.out]; rfl, rfl⟩
  · have HE : Hid (Lib.hasPrefix l p = false) := by
      show _ = _
      cases hb : Lib.hasPrefix l p with
      | false => rfl
      | true => exact absurd ((pre_iff l p).1 hb).length_le h
    generalize S p = P at z1
    generalize S l = L at z2
    have h1 : decide ((p.length : Int) ≤ (l.length : Int)) = false := decide_eq_false (by omega)
    have h2 : decide (p.length ≤ l.length) = false := decide_eq_false h
    go_enter Try.func13, Try.ntmps13
    go_wp2
    go_ret
    exact ⟨by rw [HE.out]; rfl, rfl⟩

/-- Is an octet among these? -/
def hasB (l : List UInt8) (c : UInt8) : Bool := l.contains c
/-- Contract of the page's Has. -/
theorem rhas_c (s : ByteArray) (c : UInt8) (hs : s.size ≤ 4611686018427387904) (w : World) :
    Calls Try.prog 42 #[.string s, .int .u8 (c.toNat : Int)] w fun e w' => e = .returned (.bool (hasB s.data.toList c)) ∧ w = w' := by
  have HL := Lib.hid (fun k (h : k < s.size) => (by
    rw [List.getElem?_eq_getElem (by rw [size_list]; exact h)]
    rfl : s.data.toList[k]? = some s[k]))
  go_enter Try.func42, Try.ntmps42
  go_wp2_with fail
  go_loop [5] (fun i => ∃ k : Nat, k ≤ s.size ∧ i = .int .i64 k ∧ Hid (∀ j (x : UInt8), j < k → s.data.toList[j]? = some x → x ≠ c)) (fun i => s.size - (intOf i).toNat)
  case atStart => exact ⟨0, Nat.zero_le _, rfl, fun j _ h => absurd h (by omega)⟩
  case round =>
    obtain ⟨k, hk, rfl, hno⟩ := hrel
    by_cases hlt : k < s.size
    · have hx := HL.out k hlt
      by_cases he : s[k] = c
      · have HR : Hid (hasB s.data.toList c = true) := by
          show s.data.toList.contains c = true
          rw [List.contains_iff_mem, ← he]
          exact List.mem_of_getElem? hx
        have hb : ((s[k].toNat : Int) == (c.toNat : Int)) = true := by rw [he]; simp
        clear hx he
        go_wp2_with fail
        go_ret
        exact ⟨by rw [HR.out]; rfl, rfl⟩
      · have hb : ((s[k].toNat : Int) == (c.toNat : Int)) = false := by
          rw [beq_eq_false_iff_ne]
          intro e
          exact he (UInt8.toNat_inj.1 (by omega))
        have HN : Hid (∀ j (x : UInt8), j < k + 1 → s.data.toList[j]? = some x → x ≠ c) := fun j x hj hxj => by
          rcases Nat.lt_or_ge j k with h | h
          · exact hno.out j x h hxj
          · obtain rfl : j = k := by omega
            rw [hx] at hxj
            injection hxj with e
            rw [← e]
            exact he
        clear hx he
        go_wp2_with fail
        go_round
        case rel => exact ⟨k + 1, by omega, by go_num, HN⟩
        case measure => simp [intOf]; omega
    · have HR : Hid (hasB s.data.toList c = false) := by
        show s.data.toList.contains c = false
        rw [Bool.eq_false_iff]
        intro hc
        rw [List.contains_iff_mem] at hc
        obtain ⟨j, hj⟩ := List.mem_iff_getElem?.1 hc
        have hjl := (List.getElem?_eq_some_iff.1 hj).1
        rw [size_list] at hjl
        exact hno.out j c (by omega) hj rfl
      go_wp2_with fail
      go_ret
      exact ⟨by rw [HR.out]; rfl, rfl⟩

/-- Contract of the page's digit. -/
theorem rdig_c (n : Int) (w : World) (h0 : 0 ≤ n) (h1 : n ≤ 255) :
    Calls Try.prog 55 #[.int .u8 n] w fun e w' => e = .returned (.int .i64 (hexI n)) ∧ w = w' := by
  have hd := rdigit_c n w h0 h1
  by_cases c1 : 48 ≤ n ∧ n ≤ 57
  · have e : Hid (hexI n = n - 48) := by show _ = _; unfold hexI; rw [if_pos c1]
    rw [show digitI n = true from decide_eq_true c1] at hd
    obtain ⟨c2, c3⟩ := c1
    go_enter Try.func55, Try.ntmps55
    go_wp2_with (go_at_call 41; refine hd.mono ?_; rintro e' w' ⟨rfl, rfl⟩)
    go_ret
    exact ⟨by rw [e.out]; rfl, rfl⟩
  · rw [show digitI n = false from decide_eq_false c1] at hd
    by_cases c2 : 97 ≤ n ∧ n ≤ 102
    · have e : Hid (hexI n = n - 97 + 10) := by show _ = _; unfold hexI; rw [if_neg c1, if_pos c2]; omega
      obtain ⟨c3, c4⟩ := c2
      clear c1
      go_enter Try.func55, Try.ntmps55
      go_wp2_with (go_at_call 41; refine hd.mono ?_; rintro e' w' ⟨rfl, rfl⟩)
      go_ret
      exact ⟨by rw [e.out]; rfl, rfl⟩
    · by_cases c3 : 65 ≤ n ∧ n ≤ 70
      · have e : Hid (hexI n = n - 65 + 10) := by show _ = _; unfold hexI; rw [if_neg c1, if_neg c2, if_pos c3]; omega
        obtain ⟨c4, c5⟩ := c3
        have d1 : decide (97 ≤ n) = false := decide_eq_false (by omega)
        clear c1 c2
        go_enter Try.func55, Try.ntmps55
        go_wp2_with (go_at_call 41; refine hd.mono ?_; rintro e' w' ⟨rfl, rfl⟩)
        go_ret
        exact ⟨by rw [e.out]; rfl, rfl⟩
      · have HE : Hid (hexI n = -1) := by show _ = _; unfold hexI; rw [if_neg c1, if_neg c2, if_neg c3]
        rcases (by omega : n < 65 ∨ (70 < n ∧ n < 97) ∨ 102 < n) with c | ⟨c, c'⟩ | c
        · have d1 : decide (97 ≤ n) = false := decide_eq_false (by omega)
          have d2 : decide (65 ≤ n) = false := decide_eq_false (by omega)
          clear c1 c2 c3
          go_enter Try.func55, Try.ntmps55
          go_wp2_with (go_at_call 41; refine hd.mono ?_; rintro e w' ⟨rfl, rfl⟩)
          go_ret
          exact ⟨by rw [HE.out]; rfl, rfl⟩
        · have d1 : decide (97 ≤ n) = false := decide_eq_false (by omega)
          have d2 : (65 : Int) ≤ n := by omega
          have d3 : decide (n ≤ 70) = false := decide_eq_false (by omega)
          clear c1 c2 c3
          go_enter Try.func55, Try.ntmps55
          go_wp2_with (go_at_call 41; refine hd.mono ?_; rintro e w' ⟨rfl, rfl⟩)
          go_ret
          exact ⟨by rw [HE.out]; rfl, rfl⟩
        · have d1 : (97 : Int) ≤ n := by omega
          have d2 : (65 : Int) ≤ n := by omega
          have d3 : decide (n ≤ 70) = false := decide_eq_false (by omega)
          have d4 : decide (n ≤ 102) = false := decide_eq_false (by omega)
          clear c1 c2 c3
          go_enter Try.func55, Try.ntmps55
          go_wp2_with (go_at_call 41; refine hd.mono ?_; rintro e w' ⟨rfl, rfl⟩)
          go_ret
          exact ⟨by rw [HE.out]; rfl, rfl⟩

/-- Contract of the page's Unhex at one digit. -/
theorem rone_c (c : UInt8) (hc : 0 ≤ hx c) (w : World) :
    Calls Try.prog 43 #[.string (S [c])] w fun e w' => e = .returned (.tuple #[.int .i64 (hx c), .int .i64 0]) ∧ w = w' := by
  have hd := fun w => rdig_c (c.toNat : Int) w (by omega) (by have := c.toNat_lt; omega)
  have e : hexI (c.toNat : Int) = hx c := rfl
  rw [e] at hd
  have hr := hx_le c
  have h0 : (S [c]).toList.isEmpty = false := by rw [ByteArray.toList_eq, list_S]; rfl
  have h1 : (S [c]).size = 1 := rfl
  have h2 : (S [c])[0]'(by show (0 : Nat) < 1; omega) = c := rfl
  have hcn : (c.toNat : Int) ≤ 255 := by have := c.toNat_lt; omega
  generalize hx c = d at hd hc hr
  go_enter Try.func43, Try.ntmps43
  go_wp2_with fail
  go_loop [4, 5] (fun n i => (n = .int .i64 0 ∧ i = .int .i64 0) ∨ (n = .int .i64 d ∧ i = .int .i64 1)) (fun _ i => 1 - (intOf i).toNat)
  case atStart => exact .inl ⟨rfl, rfl⟩
  case round =>
    rcases hrel with ⟨rfl, rfl⟩ | ⟨rfl, rfl⟩
    · go_wp2_with (go_at_call 55; refine (hd _).mono ?_; rintro e w' ⟨rfl, rfl⟩)
      go_round
      case rel => exact .inr ⟨by simp, by go_num⟩
      case measure => simp [intOf]
    · go_wp2_with fail
      go_ret2
      exact ⟨rfl, rfl⟩
end Go.Proofs.Ytidfcajhmldieaa.Crf

/-
  Contracts of the page's run and number: how many digits stand from a place on, and what they count.
-/
namespace Go.Proofs.Ytidfcajhmldieaa.Crf
open Go.RowKit Go.Proofs.Ytidfcajhmldieaa.Oct Go.Proofs.Ytidfcajhmldieaa.Num Go.Proofs.Ytidfcajhmldieaa.Utf
open Go.Lib (encodeRune)

abbrev abcL : List UInt8 := [97, 98, 99, 100, 101, 102, 65, 66, 67, 68, 69, 70]
theorem dig10 (c : UInt8) : digB 10 c = digitI (c.toNat : Int) := by
  have h : ∀ c : Fin 256, digB 10 (UInt8.ofNat c.val) = digitI ((UInt8.ofNat c.val).toNat : Int) := by decide +kernel
  have h2 := h ⟨c.toNat, c.toNat_lt⟩
  simpa using h2
theorem dig16 (c : UInt8) : digB 16 c = (digitI (c.toNat : Int) || hasB abcL c) := by
  have h : ∀ c : Fin 256, digB 16 (UInt8.ofNat c.val) = (digitI ((UInt8.ofNat c.val).toNat : Int) || hasB abcL (UInt8.ofNat c.val)) := by decide +kernel
  have h2 := h ⟨c.toNat, c.toNat_lt⟩
  simpa using h2
theorem runN_is {base : Int} {l : List UInt8} {k : Nat} (h : (l.take k).all (digB base) = true) (hk : k = l.length ∨ ∃ c, l[k]? = some c ∧ digB base c = false) : runN base l = k := by
  rcases hk with rfl | ⟨c, hc, hd⟩
  · rw [List.take_length] at h
    exact (runN_full base l).2 h
  · obtain ⟨hlt, hce⟩ := List.getElem?_eq_some_iff.1 hc
    have e : l = l.take k ++ c :: l.drop (k + 1) := by
      conv => lhs; rw [← List.take_append_drop k l, List.drop_eq_getElem_cons hlt, hce]
    unfold runN
    rw [e, List.takeWhile_append_of_pos (List.all_eq_true.1 h), List.takeWhile_cons_of_neg (by rw [hd]; simp)]
    simp
    omega
theorem all_next {base : Int} {l : List UInt8} {k : Nat} {c : UInt8} (h : (l.take k).all (digB base) = true) (hc : l[k]? = some c) (hd : digB base c = true) : (l.take (k + 1)).all (digB base) = true := by
  obtain ⟨hlt, hce⟩ := List.getElem?_eq_some_iff.1 hc
  rw [List.take_succ_eq_append_getElem hlt, List.all_append, h, hce]
  simp [hd]

set_option maxHeartbeats 4000000 in
set_option maxRecDepth 100000 in
theorem rrun_c (s : ByteArray) (at_ : Nat) (hex : Bool) (hat : at_ ≤ s.size) (hs : s.size ≤ 2305843009213693952) (w : World) :
    Calls Try.prog 27 #[.string s, .int .i64 (at_ : Int), .bool hex] w fun e w' => e = .returned (.int .i64 (runN (if hex then 16 else 10) (s.data.toList.drop at_) : Nat)) ∧ w = w' := by
  obtain ⟨d, hd⟩ : ∃ d, d = s.data.toList.drop at_ := ⟨_, rfl⟩
  have hdl : d.length = s.size - at_ := by rw [hd, List.length_drop, size_list]
  have HX := Lib.hid (fun k (h : at_ + k < s.size) => (by
    rw [hd, List.getElem?_drop, List.getElem?_eq_getElem (by rw [size_list]; exact h)]
    rfl : d[k]? = some s[at_ + k]))
  have HDg := Lib.hid (fun (c : UInt8) w => rdigit_c (c.toNat : Int) w (by omega) (by have := c.toNat_lt; omega))
  have HHas := Lib.hid (fun (c : UInt8) w => (by exact rhas_c (S abcL) c (by decide) w : Calls Try.prog 42 #[.string ⟨#[97, 98, 99, 100, 101, 102, 65, 66, 67, 68, 69, 70]⟩, .int .u8 (c.toNat : Int)] w fun e w' => e = .returned (.bool (hasB abcL c)) ∧ w = w'))
  rw [← hd]
  clear hd
  have hai : (0 : Int) ≤ (at_ : Int) := by omega
  obtain ⟨base, hb⟩ : ∃ base : Int, base = (if hex then 16 else 10) := ⟨_, rfl⟩
  rw [← hb]
  have HB := Lib.hid hb
  have HL := Lib.hid hdl
  clear hb hdl
  go_enter Try.func27, Try.ntmps27
  go_wp2_with fail
  go_loop [7] (fun n => ∃ k : Nat, at_ + k ≤ s.size ∧ n = .int .i64 k ∧ Hid ((d.take k).all (digB base) = true)) (fun n => s.size - at_ - (intOf n).toNat)
  case atStart => exact ⟨0, by omega, rfl, by show _ = _; simp⟩
  case round =>
    obtain ⟨k, hk, rfl, hall⟩ := hrel
    have i0 : (0 : Int) ≤ (k : Int) := by omega
    have i1 : ((at_ : Int) + (k : Int)).toNat = at_ + k := by omega
    by_cases hlt : at_ + k < s.size
    · have i2 : (at_ : Int) + (k : Int) < (s.size : Int) := by omega
      have hx := HX.out k hlt
      have hdg := HDg.out (s[at_ + k]) w
      have hha := HHas.out (s[at_ + k]) w
      have hcn : (s[at_ + k].toNat : Int) ≤ 255 := by have := s[at_ + k].toNat_lt; omega
      cases hq : digitI (s[at_ + k].toNat : Int) with
      | true =>
        have HN : Hid ((d.take (k + 1)).all (digB base) = true) := all_next hall.out hx (by
          rw [HB.out]
          cases hex with
          | true => rw [if_pos rfl, dig16, hq]; rfl
          | false => rw [if_neg (by simp), dig10, hq])
        rw [hq] at hdg
        clear hq hx hha
        go_wp2_with (first | (go_at_call 41; refine hdg.mono ?_; rintro e w' ⟨rfl, rfl⟩))
        go_round
        case rel => exact ⟨k + 1, by omega, by go_num, HN⟩
        case measure => simp [intOf]; omega
      | false =>
        rw [hq] at hdg
        cases hex with
        | false =>
          have HR : Hid (runN base d = k) := runN_is hall.out (.inr ⟨_, hx, by rw [HB.out, if_neg (by simp), dig10, hq]⟩)
          clear hq hx hha
          go_wp2_with (first | (go_at_call 41; refine hdg.mono ?_; rintro e w' ⟨rfl, rfl⟩))
          go_ret
          exact ⟨by rw [HR.out]; rfl, rfl⟩
        | true =>
          cases hq2 : hasB abcL (s[at_ + k]) with
          | true =>
            have HN : Hid ((d.take (k + 1)).all (digB base) = true) := all_next hall.out hx (by rw [HB.out, if_pos rfl, dig16, hq, hq2]; rfl)
            rw [hq2] at hha
            clear hq hq2 hx
            go_wp2_with (first
              | (go_at_call 41; refine hdg.mono ?_; rintro e w' ⟨rfl, rfl⟩)
              | (go_at_call 42; refine hha.mono ?_; rintro e w' ⟨rfl, rfl⟩))
            go_round
            case rel => exact ⟨k + 1, by omega, by go_num, HN⟩
            case measure => simp [intOf]; omega
          | false =>
            have HR : Hid (runN base d = k) := runN_is hall.out (.inr ⟨_, hx, by rw [HB.out, if_pos rfl, dig16, hq, hq2]; rfl⟩)
            rw [hq2] at hha
            clear hq hq2 hx
            go_wp2_with (first
              | (go_at_call 41; refine hdg.mono ?_; rintro e w' ⟨rfl, rfl⟩)
              | (go_at_call 42; refine hha.mono ?_; rintro e w' ⟨rfl, rfl⟩))
            go_ret
            exact ⟨by rw [HR.out]; rfl, rfl⟩
    · have i2 : decide ((at_ : Int) + (k : Int) < (s.size : Int)) = false := decide_eq_false (by omega)
      have HR : Hid (runN base d = k) := runN_is hall.out (.inl (by have := HL.out; omega))
      go_wp2_with fail
      go_ret
      exact ⟨by rw [HR.out]; rfl, rfl⟩

set_option maxHeartbeats 4000000 in
set_option maxRecDepth 100000 in
/-- Contract of the page's number, of at most seven digits. -/
theorem rnumber_c (l : List UInt8) (b : Nat) (hb : b = 10 ∨ b = 16) (hl : l.length ≤ 7) (hd : l.all (digB b) = true) (w : World) :
    Calls Try.prog 28 #[.string (S l), .int .i64 (b : Int)] w fun e w' => e = .returned (.int .i64 (valB b l : Nat)) ∧ w = w' := by
  have hz : ((S l).size : Int) = (l.length : Int) := by rw [size_S]
  have H1 := Lib.hid (fun k (h : k < l.length) => cutOne l k h)
  have HD := Lib.hid (fun k (h : k < l.length) => (of_decide_eq_true (List.all_eq_true.1 hd l[k] (List.getElem_mem h)) : 0 ≤ hx l[k] ∧ hx l[k] < (b : Int)))
  have HU := Lib.hid (fun (c : UInt8) (hc : 0 ≤ hx c) w => rone_c c hc w)
  have HV := Lib.hid (fun k (h : k < l.length) => (by rw [List.take_succ_eq_append_getElem h, valB_snoc] : valB b (l.take (k + 1)) = valB b (l.take k) * b + (hx l[k]).toNat))
  have hli : (l.length : Int) ≤ 7 := by omega
  generalize S l = L at hz H1
  clear hd
  rcases hb with rfl | rfl
  · show Calls Try.prog 28 #[.string L, .int .i64 10] w _
    go_enter Try.func28, Try.ntmps28
    go_wp2_with fail
    go_loop [5, 6] (fun n i => ∃ k : Nat, k ≤ l.length ∧ i = .int .i64 k ∧ n = .int .i64 (valB 10 (l.take k) : Nat)) (fun _ i => l.length - (intOf i).toNat)
    case atStart => exact ⟨0, Nat.zero_le _, rfl, rfl⟩
    case round =>
      obtain ⟨k, hk, rfl, rfl⟩ := hrel
      by_cases hlt : k < l.length
      · obtain ⟨d0, d1⟩ := HD.out k hlt
        have h1 := H1.out k hlt
        have hu := HU.out l[k] d0 w
        have hv := valB_small 10 (by omega) l k hl
        have HE : Hid ((valB 10 (l.take (k + 1)) : Int) = (valB 10 (l.take k) : Int) * 10 + hx l[k]) := by
          show _ = _
          rw [HV.out k hlt]
          push_cast
          rw [Int.toNat_of_nonneg d0]
        generalize hx l[k] = d at d0 d1 hu HE
        generalize l[k] = c at h1 hu
        generalize S [c] = C at h1 hu
        generalize valB 10 (l.take k) = v at hv HE
        have i0 : (0 : Int) ≤ (k : Int) := by omega
        have i1 : (k : Int) < (l.length : Int) := by omega
        have i2 : (k : Int) + 1 ≤ (l.length : Int) := by omega
        have i3 : (k : Int) ≤ (k : Int) + 1 := by omega
        have i4 : ((k : Int) + 1).toNat = k + 1 := by omega
        go_wp2_with (first | (go_at_call 43; refine hu.mono ?_; rintro e w' ⟨rfl, rfl⟩))
        go_round
        case rel => exact ⟨k + 1, by omega, by go_num, by rw [HE.out]⟩
        case measure => simp [intOf]; omega
      · have hkl : k = l.length := by omega
        subst hkl
        have HE : Hid (valB 10 (l.take l.length) = valB 10 l) := by show _ = _; rw [List.take_length]
        rw [HE.out]
        go_wp2_with fail
        go_ret
        exact ⟨rfl, rfl⟩
  · show Calls Try.prog 28 #[.string L, .int .i64 16] w _
    go_enter Try.func28, Try.ntmps28
    go_wp2_with fail
    go_loop [5, 6] (fun n i => ∃ k : Nat, k ≤ l.length ∧ i = .int .i64 k ∧ n = .int .i64 (valB 16 (l.take k) : Nat)) (fun _ i => l.length - (intOf i).toNat)
    case atStart => exact ⟨0, Nat.zero_le _, rfl, rfl⟩
    case round =>
      obtain ⟨k, hk, rfl, rfl⟩ := hrel
      by_cases hlt : k < l.length
      · obtain ⟨d0, d1⟩ := HD.out k hlt
        have h1 := H1.out k hlt
        have hu := HU.out l[k] d0 w
        have hv := valB_small 16 (by omega) l k hl
        have HE : Hid ((valB 16 (l.take (k + 1)) : Int) = (valB 16 (l.take k) : Int) * 16 + hx l[k]) := by
          show _ = _
          rw [HV.out k hlt]
          push_cast
          rw [Int.toNat_of_nonneg d0]
        generalize hx l[k] = d at d0 d1 hu HE
        generalize l[k] = c at h1 hu
        generalize S [c] = C at h1 hu
        generalize valB 16 (l.take k) = v at hv HE
        have i0 : (0 : Int) ≤ (k : Int) := by omega
        have i1 : (k : Int) < (l.length : Int) := by omega
        have i2 : (k : Int) + 1 ≤ (l.length : Int) := by omega
        have i3 : (k : Int) ≤ (k : Int) + 1 := by omega
        have i4 : ((k : Int) + 1).toNat = k + 1 := by omega
        go_wp2_with (first | (go_at_call 43; refine hu.mono ?_; rintro e w' ⟨rfl, rfl⟩))
        go_round
        case rel => exact ⟨k + 1, by omega, by go_num, by rw [HE.out]⟩
        case measure => simp [intOf]; omega
      · have hkl : k = l.length := by omega
        subst hkl
        have HE : Hid (valB 16 (l.take l.length) = valB 16 l) := by show _ = _; rw [List.take_length]
        rw [HE.out]
        go_wp2_with fail
        go_ret
        exact ⟨rfl, rfl⟩
end Go.Proofs.Ytidfcajhmldieaa.Crf

/-
  Contracts of standsFor, beginsName and beginsNumber of package refs.
-/
namespace Go.Proofs.Ytidfcajhmldieaa.Crf
open Go.RowKit Go.Proofs.Ytidfcajhmldieaa.Oct Go.Proofs.Ytidfcajhmldieaa.Num Go.Proofs.Ytidfcajhmldieaa.Utf
open Go.Lib (encodeRune)

theorem nm0 : ∀ w, (Instr.index 85 namesV (.int .i64 0)).run Try.prog w = .ok (.agg #[.string ⟨#[97, 109, 112]⟩, .string ⟨#[38]⟩]) w := fun _ => by kernel_rfl
theorem nm1 : ∀ w, (Instr.index 85 namesV (.int .i64 1)).run Try.prog w = .ok (.agg #[.string ⟨#[108, 116]⟩, .string ⟨#[60]⟩]) w := fun _ => by kernel_rfl
theorem nm2 : ∀ w, (Instr.index 85 namesV (.int .i64 2)).run Try.prog w = .ok (.agg #[.string ⟨#[103, 116]⟩, .string ⟨#[62]⟩]) w := fun _ => by kernel_rfl
theorem nm3 : ∀ w, (Instr.index 85 namesV (.int .i64 3)).run Try.prog w = .ok (.agg #[.string ⟨#[113, 117, 111, 116]⟩, .string ⟨#[34]⟩]) w := fun _ => by kernel_rfl
theorem nm4 : ∀ w, (Instr.index 85 namesV (.int .i64 4)).run Try.prog w = .ok (.agg #[.string ⟨#[97, 112, 111, 115]⟩, .string ⟨#[39]⟩]) w := fun _ => by kernel_rfl

/-- The k-th name's word, and what it stands for. -/
def wordL : Nat → List UInt8
  | 0 => amp
  | 1 => lt'
  | 2 => gt'
  | 3 => quot
  | _ => apos
def wordS : Nat → List UInt8
  | 0 => [38]
  | 1 => [60]
  | 2 => [62]
  | 3 => [34]
  | _ => [39]
theorem nm (k : Nat) (h : k < 5) : ∀ w, (Instr.index 85 namesV (.int .i64 (k : Int))).run Try.prog w = .ok (.agg #[.string (S (wordL k)), .string (S (wordS k))]) w := by
  match k, h with
  | 0, _ => exact nm0
  | 1, _ => exact nm1
  | 2, _ => exact nm2
  | 3, _ => exact nm3
  | 4, _ => exact nm4
theorem name_word {l : List UInt8} {k : Nat} (hk : k < 5) (h : wordL k = l) : nameR l = wordS k := by
  subst h
  match k, hk with
  | 0, _ => decide
  | 1, _ => decide
  | 2, _ => decide
  | 3, _ => decide
  | 4, _ => decide
theorem wordS_ne (k : Nat) : wordS k ≠ [] := by
  unfold wordS
  split <;> simp
theorem name_no {l : List UInt8} (h : ∀ k, k < 5 → wordL k ≠ l) : nameR l = [] := by
  have h0 : l ≠ amp := fun e => h 0 (by omega) e.symm
  have h1 : l ≠ lt' := fun e => h 1 (by omega) e.symm
  have h2 : l ≠ gt' := fun e => h 2 (by omega) e.symm
  have h3 : l ≠ quot := fun e => h 3 (by omega) e.symm
  have h4 : l ≠ apos := fun e => h 4 (by omega) e.symm
  unfold nameR
  rw [if_neg h0, if_neg h1, if_neg h2, if_neg h3, if_neg h4]
theorem eqS (a b : List UInt8) {q : Bool} (h : decide (a = b) = q) : ((S a).toList == (S b).toList) = q := by rw [eqB, h]

set_option maxHeartbeats 4000000 in
set_option maxRecDepth 100000 in
theorem stands_c (l : List UInt8) (hl : l.length ≤ 4611686018427387904) (w : World) :
    Calls Try.prog 53 #[.string (S l)] w fun e w' => e = .returned (.string (S (refR l))) ∧ Below w.heap.size w w' := by
  have hnum := fun w => number_c l hl w
  have HC := Lib.hid (fun n w => character_c n w)
  have HN := Lib.hid (fun k h => nm k h)
  have HEq := Lib.hid (fun a {q} (h : decide (a = l) = q) => eqS a l h)
  obtain ⟨L, hL⟩ : ∃ L, L = S l := ⟨_, rfl⟩
  rw [← hL] at hnum HEq ⊢
  clear hL
  go_enter Try.func53, Try.ntmps53
  go_wp2_with fail
  refine (names_c _).mono ?_
  rintro e w1 ⟨rfl, hb1⟩
  have HB1 := Lib.hid hb1
  clear hb1
  go_wp2_with fail
  go_loopw [8] (fun i wr => ∃ k : Nat, k ≤ 5 ∧ i = .int .i64 k ∧ Hid ((∀ j, j < k → wordL j ≠ l) ∧ Below w.heap.size w wr)) (fun i _ => 5 - (intOf i).toNat)
  case atStart => exact ⟨0, Nat.zero_le _, rfl, fun j h => absurd h (by omega), HB1.out⟩
  case round =>
    obtain ⟨k, hk, rfl, hr⟩ := hrel
    by_cases hlt : k < 5
    · have hi := HN.out k hlt
      have i0 : (0 : Int) ≤ (k : Int) := by omega
      have i1 : (k : Int) < 5 := by omega
      by_cases hw : wordL k = l
      · have hq := HEq.out (wordL k) (decide_eq_true hw)
        have HR : Hid (refR l = wordS k) := by
          show _ = _
          have := name_word hlt hw
          unfold refR
          rw [if_pos (by rw [this]; exact wordS_ne k), this]
        generalize S (wordL k) = W1 at hi hq
        generalize hW2 : S (wordS k) = W2 at hi
        have HW2 := Lib.hid hW2
        clear hW2 hw
        go_wp2_with fail
        go_ret
        exact ⟨by rw [HR.out, HW2.out]; rfl, hr.out.2.alloc hr.out.2.size _⟩
      · have hq := HEq.out (wordL k) (decide_eq_false hw)
        have HNW := Lib.hid hw
        generalize hW1 : S (wordL k) = W1 at hi hq
        generalize S (wordS k) = W2 at hi
        clear hW1 hw
        go_wp2_with fail
        go_roundw
        case rel => exact ⟨k + 1, by omega, by go_num, fun j hj => by
          rcases Nat.lt_or_ge j k with h | h
          · exact hr.out.1 j h
          · obtain rfl : j = k := by omega
            exact HNW.out, hr.out.2.alloc hr.out.2.size _⟩
        case measure => simp [intOf]; omega
    · obtain rfl : k = 5 := by omega
      have HNN : Hid (nameR l = []) := name_no hr.out.1
      cases hk2 : numR l with
      | none =>
        have e : numA l = (0, -1) := by unfold numA; rw [hk2]
        have HR : Hid (refR l = []) := by
          show _ = _
          unfold refR
          rw [HNN.out, hk2]; rfl
        rw [e] at hnum
        clear hk2 e
        go_wp2_with fail
        refine (hnum _).mono ?_
        rintro e w2 ⟨rfl, hb2⟩
        go_wp2_with fail
        go_ret
        exact ⟨by rw [HR.out]; rfl, hr.out.2.trans (hb2.mono hr.out.2.size)⟩
      | some q =>
        obtain ⟨n, d⟩ := q
        have e : numA l = ((n : Int), (d : Int)) := by unfold numA; rw [hk2]
        rw [e] at hnum
        by_cases hd : d = 0
        · have HR : Hid (refR l = []) := by
            show _ = _
            unfold refR
            rw [HNN.out, hk2, hd]; rfl
          subst hd
          clear hk2 e
          go_wp2_with fail
          refine (hnum _).mono ?_
          rintro e w2 ⟨rfl, hb2⟩
          go_wp2_with fail
          go_ret
          exact ⟨by rw [HR.out]; rfl, hr.out.2.trans (hb2.mono hr.out.2.size)⟩
        · have HR : Hid (refR l = standL n) := by
            show _ = _
            unfold refR
            rw [HNN.out, hk2]
            simp [hd]
          have d1 : ((d : Int) == -1) = false := by simp
          have d0 : ((d : Int) == 0) = false := by simp; exact hd
          have hch := fun w => HC.out n w
          generalize hC0 : S (standL n) = C at hch
          have HC0 := Lib.hid hC0
          clear hC0 hk2 e hd
          generalize (n : Int) = n' at hnum hch
          generalize (d : Int) = d' at hnum d0 d1
          go_wp2_with fail
          refine (hnum _).mono ?_
          rintro e w2 ⟨rfl, hb2⟩
          go_wp2_with fail
          refine (hch _).mono ?_
          rintro e w3 ⟨rfl, hb3⟩
          go_wp2_with fail
          go_ret
          exact ⟨by rw [HR.out, HC0.out]; rfl, (hr.out.2.trans (hb2.mono hr.out.2.size)).trans (hb3.mono (Nat.le_trans hr.out.2.size hb2.size))⟩

/-! ### beginsName, beginsNumber -/
theorem prefix_word (k : Nat) (l : List UInt8) : Lib.hasPrefix (wordL k) l = true ↔ l <+: wordL k := pre_iff _ _
theorem beg_yes {k : Nat} {l : List UInt8} (hk : k < 5) (h : Lib.hasPrefix (wordL k) l = true) : begName l = true := by
  have h := (prefix_word k l).1 h
  refine decide_eq_true ?_
  match k, hk, h with
  | 0, _, h => exact .inl h
  | 1, _, h => exact .inr (.inl h)
  | 2, _, h => exact .inr (.inr (.inl h))
  | 3, _, h => exact .inr (.inr (.inr (.inl h)))
  | 4, _, h => exact .inr (.inr (.inr (.inr h)))
theorem beg_no {l : List UInt8} (h : ∀ k, k < 5 → Lib.hasPrefix (wordL k) l = false) : begName l = false := by
  refine decide_eq_false ?_
  have n : ∀ k, k < 5 → ¬ l <+: wordL k := fun k hk hp => by
    have := h k hk
    rw [(prefix_word k l).2 hp] at this
    cases this
  rintro (h | h | h | h | h)
  · exact n 0 (by omega) h
  · exact n 1 (by omega) h
  · exact n 2 (by omega) h
  · exact n 3 (by omega) h
  · exact n 4 (by omega) h

end Go.Proofs.Ytidfcajhmldieaa.Crf

/-
  Contracts of read, One and Unfinished of package refs.
-/
namespace Go.Proofs.Ytidfcajhmldieaa.Crf
open Go.RowKit Go.Proofs.Ytidfcajhmldieaa.Oct Go.Proofs.Ytidfcajhmldieaa.Num Go.Proofs.Ytidfcajhmldieaa.Utf
open Go.Lib (encodeRune)

theorem amp_head (l : List UInt8) : Lib.hasPrefix l [38] = decide (l.head? = some 38) := by
  cases l with
  | nil => rfl
  | cons a l =>
    by_cases h : a = 38
    · subst h; rfl
    · simp [Lib.hasPrefix, List.isPrefixOf, h, Ne.symm h]
theorem amp_trim (l : List UInt8) : Lib.trimPrefix l [38] = if l.head? = some 38 then l.tail else l := by
  unfold Lib.trimPrefix
  rw [amp_head]
  by_cases h : l.head? = some 38
  · simp [h]
  · simp [h]
theorem cutAmp_c (l : List UInt8) (w : World) : Calls Try.prog 45 #[.string (S l), .string ⟨#[38]⟩] w fun e w' => e = .returned (.tuple #[.string (S (if l.head? = some 38 then l.tail else l)), .bool (decide (l.head? = some 38))]) ∧ w' = w := by
  have := Try.strings_CutPrefix (S l) (S [38]) w
  rw [list_S, list_S, amp_head, amp_trim] at this
  exact this

/-- What read makes of what stands behind the & (r: at most ten octets). -/
def oneR (r : List UInt8) : List UInt8 × Nat := if 59 ∈ r ∧ refR (innerOf r) ≠ [] then (refR (innerOf r), (innerOf r).length + 2) else ([], 0)
theorem one_amp {l : List UInt8} (h : l.head? = some 38) : oneL l = oneR (l.tail.take 10) := by
  cases l with
  | nil => cases h
  | cons a t =>
    rw [List.head?_cons] at h
    injection h with h
    subst h
    rfl

set_option maxHeartbeats 4000000 in
set_option maxRecDepth 100000 in
/-- What stands behind the cut at the &: whatever begins. -/
theorem read_c (l : List UInt8) (hl : l.length ≤ 4611686018427387904) (w : World) :
    Calls Try.prog 37 #[.string (S l)] w fun e w' => e = .returned (.tuple #[.string (S (oneL l).1), .int .i64 ((oneL l).2 : Int)]) ∧ Below w.heap.size w w' := by
  obtain ⟨m, hm⟩ : ∃ m, m = min l.length 11 := ⟨_, rfl⟩
  have hcutS : (S l).extract 0 m = S (l.take m) := by rw [cutTo, list_S]
  have hmin : min ((S l).size : Int) 11 = (m : Int) := by rw [size_S, hm]; omega
  have hm0 : (0 : Int) ≤ (m : Int) := by omega
  have hm1 : (m : Int) ≤ ((S l).size : Int) := by rw [size_S]; omega
  have hcp := fun w => cutAmp_c (l.take m) w
  have hhd : (l.take m).head? = l.head? := by
    cases l with
    | nil => rw [List.take_nil]
    | cons a t =>
      have : m = (m - 1) + 1 := by rw [List.length_cons] at hm; omega
      rw [this, List.take_succ_cons]
      rfl
  rw [hhd] at hcp
  obtain ⟨r, hr⟩ : ∃ r, r = (if l.head? = some 38 then (l.take m).tail else l.take m) := ⟨_, rfl⟩
  rw [← hr] at hcp
  have hrl : r.length ≤ 11 := by
    rw [hr]
    split
    · rw [List.length_tail, List.length_take]; omega
    · rw [List.length_take]; omega
  have hO : Hid (l.head? = some 38 → oneL l = oneR r) := fun h => by
    have e : r = l.tail.take 10 := by
      rw [hr, if_pos h]
      cases l with
      | nil => cases h
      | cons a t =>
        rw [hm, List.length_cons, List.tail_cons]
        by_cases ht : t.length ≤ 10
        · rw [List.take_of_length_le (by rw [List.length_cons]; omega), List.take_of_length_le ht]; rfl
        · rw [show min (t.length + 1) 11 = 10 + 1 by omega, List.take_succ_cons]; rfl
    rw [one_amp h, e]
  have hO0 : Hid (l.head? ≠ some 38 → oneL l = ([], 0)) := one_none_head
  have HS := Lib.hid (fun i (h : i.length ≤ 11) w => stands_c i (by omega) w)
  have key : ∀ (i : List UInt8) (hi : i.length ≤ 11), Hid (∀ w, Calls Try.prog 53 #[.string (S i)] w fun e w' => e = .returned (.string (S (refR i))) ∧ Below w.heap.size w w') := fun i hi w => HS.out i hi w
  clear hhd hm hr
  generalize hL : S l = L at hcutS hmin hm1
  have HL := Lib.hid hL
  have hcutL := hcutS
  generalize l.take m = lm at hcutL hcutS hcp
  generalize S lm = LM at hcutL hcutS hcp
  clear hL hcutS
  -- is there an end
  by_cases h59 : 59 ∈ r
  · have hct := fun w => cut_yes r h59 (by omega) w
    have hil := inner_len r h59
    have hin := (key (innerOf r) (by omega)).out
    have hisz : ((S (innerOf r)).size : Int) = ((innerOf r).length : Int) := by rw [size_S]
    have hlen : ((innerOf r).length : Int) ≤ 11 := by omega
    have H59 := Lib.hid h59
    generalize S (r.drop ((innerOf r).length + 1)) = R2 at hct
    generalize hI : S (innerOf r) = I at hct hin hisz
    generalize hR : S r = R at hcp hct
    by_cases hok : l.head? = some 38
    · have hO1 : Hid (oneL l = oneR r) := hO.out hok
      rw [decide_eq_true hok] at hcp
      by_cases hst : refR (innerOf r) = []
      · have HE : Hid (oneL l = ([], 0)) := by
          show _ = _
          rw [hO1.out]; unfold oneR; rw [if_neg (fun h => h.2 hst)]
        rw [hst] at hin
        clear h59 hil hI hR hok hst hlen
        generalize (innerOf r).length = il at hisz
        go_enter Try.func37, Try.ntmps37
        go_wp2_with fail
        refine (hcp _).mono ?_
        rintro e w1 ⟨rfl, rfl⟩
        go_wp2_with fail
        refine (hct _).mono ?_
        rintro e w2 ⟨rfl, hb2⟩
        go_wp2_with fail
        refine (hin _).mono ?_
        rintro e w3 ⟨rfl, hb3⟩
        go_wp2_with fail
        go_ret2
        exact ⟨by rw [HE.out]; rfl, hb2.trans (hb3.mono hb2.size)⟩
      · have HE : Hid (oneL l = (refR (innerOf r), (innerOf r).length + 2)) := by
          show _ = _
          rw [hO1.out]; unfold oneR; rw [if_pos ⟨h59, hst⟩]
        have hne : (S (refR (innerOf r))).toList.isEmpty = false := by
          rw [ByteArray.toList_eq, list_S, List.isEmpty_eq_false_iff]; exact hst
        generalize hst2 : S (refR (innerOf r)) = ST at hin hne
        have HST := Lib.hid hst2
        clear h59 hil hI hR hok hst hst2
        generalize hilq : (innerOf r).length = il at hisz hlen
        have HIL := Lib.hid hilq
        clear hilq
        go_enter Try.func37, Try.ntmps37
        go_wp2_with fail
        refine (hcp _).mono ?_
        rintro e w1 ⟨rfl, rfl⟩
        go_wp2_with fail
        refine (hct _).mono ?_
        rintro e w2 ⟨rfl, hb2⟩
        go_wp2_with fail
        refine (hin _).mono ?_
        rintro e w3 ⟨rfl, hb3⟩
        go_wp2_with fail
        go_ret2
        refine ⟨?_, hb2.trans (hb3.mono hb2.size)⟩
        rw [HE.out, ← HST.out, HIL.out]
        exact congrArg (fun z => Ending.returned (.tuple #[.string (S (refR (innerOf r))), .int .i64 z])) (by omega : (1 : Int) + (il : Int) + 1 = ((il + 2 : Nat) : Int))
    · have HE : Hid (oneL l = ([], 0)) := hO0.out hok
      rw [decide_eq_false hok] at hcp
      generalize S (refR (innerOf r)) = ST at hin
      clear h59 hil hI hR hok hlen
      generalize (innerOf r).length = il at hisz
      go_enter Try.func37, Try.ntmps37
      go_wp2_with fail
      refine (hcp _).mono ?_
      rintro e w1 ⟨rfl, rfl⟩
      go_wp2_with fail
      refine (hct _).mono ?_
      rintro e w2 ⟨rfl, hb2⟩
      go_wp2_with fail
      refine (hin _).mono ?_
      rintro e w3 ⟨rfl, hb3⟩
      go_wp2_with fail
      go_ret2
      exact ⟨by rw [HE.out]; rfl, hb2.trans (hb3.mono hb2.size)⟩
  · have hct := fun w => cut_no r h59 w
    have hin := (key r hrl).out
    have HE : Hid (oneL l = ([], 0)) := by
      show _ = _
      by_cases hok : l.head? = some 38
      · rw [hO.out hok]; unfold oneR; rw [if_neg (fun h => h59 h.1)]
      · exact hO0.out hok
    generalize S (refR r) = ST at hin
    generalize S r = R at hcp hct hin
    clear h59
    cases hok : decide (l.head? = some 38) with
    | true =>
      rw [hok] at hcp
      clear hok
      go_enter Try.func37, Try.ntmps37
      go_wp2_with fail
      refine (hcp _).mono ?_
      rintro e w1 ⟨rfl, rfl⟩
      go_wp2_with fail
      refine (hct _).mono ?_
      rintro e w2 ⟨rfl, hb2⟩
      go_wp2_with fail
      refine (hin _).mono ?_
      rintro e w3 ⟨rfl, hb3⟩
      go_wp2_with fail
      go_ret2
      exact ⟨by rw [HE.out]; rfl, hb2.trans (hb3.mono hb2.size)⟩
    | false =>
      rw [hok] at hcp
      clear hok
      go_enter Try.func37, Try.ntmps37
      go_wp2_with fail
      refine (hcp _).mono ?_
      rintro e w1 ⟨rfl, rfl⟩
      go_wp2_with fail
      refine (hct _).mono ?_
      rintro e w2 ⟨rfl, hb2⟩
      go_wp2_with fail
      refine (hin _).mono ?_
      rintro e w3 ⟨rfl, hb3⟩
      go_wp2_with fail
      go_ret2
      exact ⟨by rw [HE.out]; rfl, hb2.trans (hb3.mono hb2.size)⟩

theorem stand_len (n : Nat) : (standL n).length ≤ 4 := by
  unfold standL
  split
  · exact (enc_len (n : Int)).2
  · simp
theorem ref_len (l : List UInt8) : (refR l).length ≤ 4 := by
  unfold refR
  split
  · rename_i h
    rcases name_cases h with rfl | rfl | rfl | rfl | rfl <;> decide
  · cases numR l with
    | none => simp
    | some q =>
      obtain ⟨n, d⟩ := q
      simp only
      split
      · simp
      · exact stand_len n
theorem one_slen (l : List UInt8) : (oneL l).1.length ≤ 4 := by
  by_cases h : (oneL l).2 = 0
  · rw [one_zero h]; simp
  · obtain ⟨i, t, _, _, e⟩ := one_some h
    rw [e]
    exact ref_len i

end Go.Proofs.Ytidfcajhmldieaa.Crf

/-
  Plain facts on how the page reads a character: how many octets the first one says, what they count, and that this is what a text begins with.
-/
namespace Go.Proofs.Ytidfcajhmldieaa.Utf
open Go.Lib (encodeRune)

/-- How many octets a first one says; 0: none. -/
def sizeN (b : Nat) : Nat := if b < 128 then 1 else if 194 ≤ b ∧ b < 224 then 2 else if 224 ≤ b ∧ b < 240 then 3 else if 240 ≤ b ∧ b < 245 then 4 else 0
theorem sizeN_le (b : Nat) : sizeN b ≤ 4 := by
  unfold sizeN
  repeat' split
  all_goals omega
/-- What of the first octet counts. -/
def partN (n : Nat) : Nat := if n = 1 then 128 else if n = 2 then 32 else if n = 3 then 16 else 8
/-- What the first k + 1 octets count. -/
def runV (l : List UInt8) (m : Nat) : Nat → Int
  | 0 => ((oct l 0 % m : Nat) : Int)
  | k + 1 => runV l m k * 64 + (oct l (k + 1) : Int) - 128

theorem oct_app (a t : List UInt8) (k : Nat) (h : k < a.length) : oct (a ++ t) k = oct a k := by
  unfold oct
  rw [List.getD_eq_getElem?_getD, List.getD_eq_getElem?_getD, List.getElem?_append_left h]

theorem enc_facts (n : Nat) (h : isChar n) :
    sizeN (oct (encodeRune n) 0) = (encodeRune n).length ∧ runV (encodeRune n) (partN (encodeRune n).length) ((encodeRune n).length - 1) = (n : Int) ∧
    ∀ k, 1 ≤ k → k < (encodeRune n).length → 128 ≤ oct (encodeRune n) k ∧ oct (encodeRune n) k ≤ 191 := by
  rw [enc_eq n h]
  unfold isChar at h
  unfold encN
  by_cases h1 : n < 128
  · rw [if_pos h1]
    refine ⟨?_, ?_, ?_⟩
    · simp only [oct, List.map_cons, List.map_nil, List.getD_cons_zero, List.length_cons, List.length_nil]
      rw [u8 n (by omega)]; unfold sizeN; rw [if_pos h1]
    · show (((n.toUInt8.toNat) % 128 : Nat) : Int) = (n : Int)
      rw [u8 n (by omega)]; omega
    · intro k hk1 hk2; simp at hk2; omega
  · rw [if_neg h1]
    by_cases h2 : n < 2048
    · rw [if_pos h2]
      have e0 := u8 (192 + n / 64) (by omega)
      have e1 := u8 (128 + n % 64) (by omega)
      refine ⟨?_, ?_, ?_⟩
      · simp only [oct, List.map_cons, List.map_nil, List.getD_cons_zero, List.length_cons, List.length_nil, e0]
        unfold sizeN; rw [if_neg (by omega), if_pos (by omega)]
      · simp only [oct, runV, partN, List.map_cons, List.map_nil, List.getD_cons_zero, List.getD_cons_succ, List.length_cons, List.length_nil, e0, e1]
        simp; omega
      · intro k hk1 hk2
        match k, hk1, hk2 with
        | 1, _, _ => simp only [oct, List.map_cons, List.map_nil, List.getD_cons_zero, List.getD_cons_succ, e1]; omega
        | k + 2, _, hk2 => simp at hk2; omega
    · rw [if_neg h2]
      by_cases h3 : n < 65536
      · rw [if_pos h3]
        have e0 := u8 (224 + n / 4096) (by omega)
        have e1 := u8 (128 + n / 64 % 64) (by omega)
        have e2 := u8 (128 + n % 64) (by omega)
        refine ⟨?_, ?_, ?_⟩
        · simp only [oct, List.map_cons, List.map_nil, List.getD_cons_zero, List.length_cons, List.length_nil, e0]
          unfold sizeN; rw [if_neg (by omega), if_neg (by omega), if_pos (by omega)]
        · simp only [oct, runV, partN, List.map_cons, List.map_nil, List.getD_cons_zero, List.getD_cons_succ, List.length_cons, List.length_nil, e0, e1, e2]
          simp; omega
        · intro k hk1 hk2
          match k, hk1, hk2 with
          | 1, _, _ => simp only [oct, List.map_cons, List.map_nil, List.getD_cons_zero, List.getD_cons_succ, e1]; omega
          | 2, _, _ => simp only [oct, List.map_cons, List.map_nil, List.getD_cons_zero, List.getD_cons_succ, e2]; omega
          | k + 3, _, hk2 => simp at hk2; omega
      · rw [if_neg h3]
        have e0 := u8 (240 + n / 262144) (by omega)
        have e1 := u8 (128 + n / 4096 % 64) (by omega)
        have e2 := u8 (128 + n / 64 % 64) (by omega)
        have e3 := u8 (128 + n % 64) (by omega)
        refine ⟨?_, ?_, ?_⟩
        · simp only [oct, List.map_cons, List.map_nil, List.getD_cons_zero, List.length_cons, List.length_nil, e0]
          unfold sizeN; rw [if_neg (by omega), if_neg (by omega), if_neg (by omega), if_pos (by omega)]
        · simp only [oct, runV, partN, List.map_cons, List.map_nil, List.getD_cons_zero, List.getD_cons_succ, List.length_cons, List.length_nil, e0, e1, e2, e3]
          simp; omega
        · intro k hk1 hk2
          match k, hk1, hk2 with
          | 1, _, _ => simp only [oct, List.map_cons, List.map_nil, List.getD_cons_zero, List.getD_cons_succ, e1]; omega
          | 2, _, _ => simp only [oct, List.map_cons, List.map_nil, List.getD_cons_zero, List.getD_cons_succ, e2]; omega
          | 3, _, _ => simp only [oct, List.map_cons, List.map_nil, List.getD_cons_zero, List.getD_cons_succ, e3]; omega
          | k + 4, _, hk2 => simp at hk2; omega

theorem runV_app (a t : List UInt8) (m k : Nat) (h : k < a.length) : runV (a ++ t) m k = runV a m k := by
  induction k with
  | zero => unfold runV; rw [oct_app a t 0 h]
  | succ k ih => unfold runV; rw [ih (by omega), oct_app a t (k + 1) h]

theorem dec_none (l : List UInt8) (hl : l ≠ []) (h : ∀ c t, isChar c → l = encodeRune c ++ t → False) : dec l = (-1, 1) := by
  rcases dec_cases l hl with h' | ⟨c, t, hc, e⟩
  · exact h'
  · exact (h c t hc e).elim

theorem enc_app (c : Int) (h : isChar c) (t : List UInt8) :
    sizeN (oct (encodeRune c ++ t) 0) = (encodeRune c).length ∧ runV (encodeRune c ++ t) (partN (encodeRune c).length) ((encodeRune c).length - 1) = c ∧
    ∀ k, 1 ≤ k → k < (encodeRune c).length → 128 ≤ oct (encodeRune c ++ t) k ∧ oct (encodeRune c ++ t) k ≤ 191 := by
  have hl := enc_len c
  obtain ⟨n, rfl, hn⟩ := isChar_nat h
  obtain ⟨h1, h2, h3⟩ := enc_facts n hn
  refine ⟨by rw [oct_app _ _ _ (by omega)]; exact h1, by rw [runV_app _ _ _ _ (by omega)]; exact h2, fun k hk1 hk2 => by rw [oct_app _ _ _ hk2]; exact h3 k hk1 hk2⟩

theorem dec_short (l : List UInt8) (hl : l ≠ []) (h : sizeN (oct l 0) = 0 ∨ l.length < sizeN (oct l 0)) : dec l = (-1, 1) :=
  dec_none l hl (fun c t hc e => by
    subst e
    have h1 := (enc_app c hc t).1
    have hl := enc_len c
    rw [h1, List.length_append] at h
    omega)
theorem dec_broken (l : List UInt8) (hl : l ≠ []) (k : Nat) (h1 : 1 ≤ k) (h2 : k < sizeN (oct l 0)) (h : oct l k < 128 ∨ 191 < oct l k) : dec l = (-1, 1) :=
  dec_none l hl (fun c t hc e => by
    subst e
    have h3 := enc_app c hc t
    rw [h3.1] at h2
    have := h3.2.2 k h1 h2
    omega)
theorem dec_yes (l : List UInt8) (v : Int) (hc : isChar v) (h : l.take (sizeN (oct l 0)) = encodeRune v) : dec l = (v, sizeN (oct l 0)) := by
  have e : l = encodeRune v ++ l.drop (sizeN (oct l 0)) := by rw [← h, List.take_append_drop]
  have h1 := (enc_app v hc (l.drop (sizeN (oct l 0)))).1
  rw [← e] at h1
  rw [h1, e, dec_enc v hc]
theorem dec_no (l : List UInt8) (hl : l ≠ []) (h : ¬ (isChar (runV l (partN (sizeN (oct l 0))) (sizeN (oct l 0) - 1)) ∧ l.take (sizeN (oct l 0)) = encodeRune (runV l (partN (sizeN (oct l 0))) (sizeN (oct l 0) - 1)))) : dec l = (-1, 1) :=
  dec_none l hl (fun c t hc e => by
    subst e
    have h3 := enc_app c hc t
    rw [h3.1, h3.2.1] at h
    exact h ⟨hc, by simp⟩)

theorem runV_bound (l : List UInt8) (m : Nat) (hm : 0 < m) (hm' : m ≤ 128) (k : Nat) (hk : k ≤ 3) (h : ∀ j, 1 ≤ j → j ≤ k → 128 ≤ oct l j ∧ oct l j ≤ 191) : 0 ≤ runV l m k ∧ runV l m k ≤ 33554431 := by
  have h0 : oct l 0 % m < m := Nat.mod_lt _ hm
  match k, hk with
  | 0, _ => unfold runV; omega
  | 1, _ => have h1 := h 1 (by omega) (by omega); simp only [runV, Nat.zero_add]; omega
  | 2, _ => have h1 := h 1 (by omega) (by omega); have h2 := h 2 (by omega) (by omega); simp only [runV, Nat.zero_add, Nat.reduceAdd]; omega
  | 3, _ => have h1 := h 1 (by omega) (by omega); have h2 := h 2 (by omega) (by omega); have h3 := h 3 (by omega) (by omega); simp only [runV, Nat.zero_add, Nat.reduceAdd]; omega
end Go.Proofs.Ytidfcajhmldieaa.Utf

/-
  Contracts of the page's answers on characters: Encode, size, Decode.
-/
namespace Go.Proofs.Ytidfcajhmldieaa.Utf
open Go.RowKit Go.Proofs.Ytidfcajhmldieaa.Oct Go.Proofs.Ytidfcajhmldieaa.Mem
open Go.Lib (encodeRune encodeRuneZ)

/-- 'string([]byte{..})' of numbers of one octet. -/
theorem conv_new (w : World) (xs : List Int) (hx : ∀ x ∈ xs, 0 ≤ x ∧ x < 256) :
    (convert 39 9 (.slice (some ⟨w.heap.size, 0, none⟩) xs.length xs.length)).run Try.prog (w.alloc (.cells (xs.map (Value.int .u8)).toArray 5)) =
      .ok (.string (S (xs.map fun x => x.toNat.toUInt8))) (w.alloc (.cells (xs.map (Value.int .u8)).toArray 5)) := by
  have h := run_convert_bytes_back (P := Try.prog) (w.alloc (.cells (xs.map (Value.int .u8)).toArray 5)) 39 9 5 ⟨w.heap.size, 0, none⟩ xs.length (xs.map fun x => x.toNat.toUInt8) Try.underlying39 Try.underlying5 Try.underlying9 (fun j hj => by
    have hj' : j < xs.length := by simpa using hj
    have hb := hx xs[j] (List.getElem_mem _)
    rw [Addr.add_lit, Nat.zero_add]
    have e : (w.alloc (.cells (xs.map (Value.int .u8)).toArray 5)).cell? ⟨w.heap.size, j, none⟩ = some (Value.int .u8 xs[j]) := by
      unfold World.cell?
      rw [World.alloc_heap_new]
      simp [hj']
    rw [e]
    simp
    omega)
  simpa using h

theorem rencode_no (c : Int) (w : World) (h : charB c = false) :
    Calls Try.prog 19 #[.int .i64 c] w fun e w' => e = .returned (.tuple #[.string ⟨#[]⟩, .int .i64 4]) ∧ Kept w w' := by
  have hch : ¬ isChar c := of_decide_eq_false h
  have hcase : c < 0 ∨ 1114111 < c ∨ (55296 ≤ c ∧ c ≤ 57343) := by unfold isChar at hch; omega
  clear h hch
  rcases hcase with hc | hc | ⟨hc1, hc2⟩
  · go_enter Try.func19, Try.ntmps19
    go_wp2
    go_ret2
    exact ⟨rfl, Below.refl _ _⟩
  · have d0 : decide (c < 0) = false := by simp; omega
    go_enter Try.func19, Try.ntmps19
    go_wp2
    go_ret2
    exact ⟨rfl, Below.refl _ _⟩
  · have d0 : decide (c < 0) = false := by simp; omega
    have d1 : decide (1114111 < c) = false := by simp; omega
    go_enter Try.func19, Try.ntmps19
    go_wp2
    go_ret2
    exact ⟨rfl, Below.refl _ _⟩

set_option maxHeartbeats 2000000 in
theorem rencode_yes (c : Int) (w : World) (h : charB c = true) :
    Calls Try.prog 19 #[.int .i64 c] w fun e w' => e = .returned (.tuple #[.string (S (encodeRune c)), .int .i64 0]) ∧ Kept w w' := by
  have hch : isChar c := of_decide_eq_true h
  have h0 : 0 ≤ c := by unfold isChar at hch; omega
  have h1 : c ≤ 1114111 := by unfold isChar at hch; omega
  have hsur : c < 55296 ∨ 57343 < c := by unfold isChar at hch; omega
  have d0 : decide (c < 0) = false := by simp; omega
  have d1 : decide (1114111 < c) = false := by simp; omega
  have hb := Lib.encodeRuneZ_byte c
  have hcv := conv_new w (encodeRuneZ c) hb
  have he : S ((encodeRuneZ c).map fun x => x.toNat.toUInt8) = S (encodeRune c) := rfl
  rw [he] at hcv
  clear hch h hb he
  by_cases k1 : c < 128
  · rw [Lib.encodeRuneZ_one h0 (by omega)] at hcv
    simp only [List.map_cons, List.map_nil, List.length_cons, List.length_nil, Nat.zero_add] at hcv
    have d2 : decide (55296 ≤ c) = false := by simp; omega
    clear hsur
    go_enter Try.func19, Try.ntmps19
    go_wp2
    go_ret2
    exact ⟨rfl, (Below.refl _ w).alloc (Nat.le_refl _) _⟩
  · have e1 : decide (c < 128) = false := by simp; omega
    by_cases k2 : c < 2048
    · rw [Lib.encodeRuneZ_two (by omega) (by omega)] at hcv
      simp only [List.map_cons, List.map_nil, List.length_cons, List.length_nil, Nat.zero_add, Nat.reduceAdd] at hcv
      have d2 : decide (55296 ≤ c) = false := by simp; omega
      clear hsur
      go_enter Try.func19, Try.ntmps19
      go_wp2
      go_ret2
      exact ⟨rfl, (Below.refl _ w).alloc (Nat.le_refl _) _⟩
    · have e2 : decide (c < 2048) = false := by simp; omega
      by_cases k3 : c < 65536
      · rw [Lib.encodeRuneZ_three (by omega)] at hcv
        simp only [List.map_cons, List.map_nil, List.length_cons, List.length_nil, Nat.zero_add, Nat.reduceAdd] at hcv
        rcases hsur with hs | hs
        · have d2 : decide (55296 ≤ c) = false := by simp; omega
          go_enter Try.func19, Try.ntmps19
          go_wp2
          go_ret2
          exact ⟨rfl, (Below.refl _ w).alloc (Nat.le_refl _) _⟩
        · have d2 : (55296 : Int) ≤ c := by omega
          have d3 : decide (c ≤ 57343) = false := by simp; omega
          go_enter Try.func19, Try.ntmps19
          go_wp2
          go_ret2
          exact ⟨rfl, (Below.refl _ w).alloc (Nat.le_refl _) _⟩
      · have e3 : decide (c < 65536) = false := by simp; omega
        rw [Lib.encodeRuneZ_four (by omega) (by omega)] at hcv
        simp only [List.map_cons, List.map_nil, List.length_cons, List.length_nil, Nat.zero_add, Nat.reduceAdd] at hcv
        have d2 : (55296 : Int) ≤ c := by omega
        have d3 : decide (c ≤ 57343) = false := by simp; omega
        clear hsur
        go_enter Try.func19, Try.ntmps19
        go_wp2
        go_ret2
        exact ⟨rfl, (Below.refl _ w).alloc (Nat.le_refl _) _⟩

/-- What the page's Encode answers. -/
def encS (c : Int) : ByteArray := if charB c then S (encodeRune c) else ⟨#[]⟩
def encE (c : Int) : Int := if charB c then 0 else 4
theorem rencode_c (c : Int) (w : World) :
    Calls Try.prog 19 #[.int .i64 c] w fun e w' => e = .returned (.tuple #[.string (encS c), .int .i64 (encE c)]) ∧ Kept w w' := by
  cases h : charB c with
  | true => unfold encS encE; rw [h]; exact rencode_yes c w h
  | false => unfold encS encE; rw [h]; exact rencode_no c w h

def sizeI (n : Int) : Int := if n < 128 then 1 else if 194 ≤ n ∧ n < 224 then 2 else if 224 ≤ n ∧ n < 240 then 3 else if 240 ≤ n ∧ n < 245 then 4 else 0
theorem sizeI_eq (n : Nat) : sizeI (n : Int) = (sizeN n : Nat) := by
  unfold sizeI sizeN
  repeat' split
  all_goals first | rfl | omega
theorem rsize_c (n : Int) (w : World) (h0 : 0 ≤ n) (h1 : n ≤ 255) :
    Calls Try.prog 40 #[.int .u8 n] w fun e w' => e = .returned (.int .i64 (sizeI n)) ∧ w = w' := by
  go_enter Try.func40, Try.ntmps40
  go_wp2
  all_goals go_ret
  all_goals (refine ⟨ret_int ?_, rfl⟩; unfold sizeI; repeat' split)
  all_goals first | rfl | omega
end Go.Proofs.Ytidfcajhmldieaa.Utf
