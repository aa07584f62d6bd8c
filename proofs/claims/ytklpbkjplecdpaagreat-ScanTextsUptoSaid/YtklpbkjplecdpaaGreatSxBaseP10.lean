/-
  Part 10: CrfNumber, CrfStands, CrfRead, MrkPage, PctRep, NumSize, NumLeaves, NumParse.
-/
import Derived.Test.YtklpbkjplecdpaaGreatSxBaseP9
import Derived.LoopTactic
import Derived.Test.YtklpbkjplecdpaaGreatSxBaseP1
import Derived.Test.YtklpbkjplecdpaaGreatSxBaseP8
import Derived.Test.YtklpbkjplecdpaaGreatSxBaseP2
import Derived.Test.YtklpbkjplecdpaaGreatProg
import Derived.Test.YtklpbkjplecdpaaGreatSxBaseP5
import Derived.Lib.Hide
/-
  Contracts of number, standsFor, beginsName and beginsNumber of package refs.
-/
namespace Go.Proofs.YtklpbkjplecdpaaGreat.Crf
open Go.RowKit Oct Num Utf
open Go.Lib (encodeRune)

theorem starts_x (t : List UInt8) : startsB t [120] = isHex t := by
  cases t with
  | nil => rfl
  | cons c t =>
    have h : ∀ c : Fin 256, startsB [UInt8.ofNat c.val] [120] = isHex [UInt8.ofNat c.val] := by decide +kernel
    have h2 := h ⟨c.toNat, c.toNat_lt⟩
    simp only [UInt8.ofNat_toNat] at h2
    have e1 : startsB (c :: t) [120] = startsB [c] [120] := by simp [startsB]
    have e2 : isHex (c :: t) = isHex [c] := rfl
    rw [e1, e2, h2]

theorem valB_snoc (b : Nat) (l : List UInt8) (c : UInt8) : valB b (l ++ [c]) = valB b l * b + (hx c).toNat := by simp [valB]
theorem valB_lt (b : Nat) (hb : b ≤ 16) (l : List UInt8) : valB b l < 16 ^ l.length := by
  have gen : ∀ (l : List UInt8) (a e : Nat), a < 16 ^ e → l.foldl (fun n c => n * b + (hx c).toNat) a < 16 ^ (e + l.length) := by
    intro l
    induction l with
    | nil => intro a e h; simpa using h
    | cons c l ih =>
      intro a e h
      have hc := hx_le c
      have hm : a * b ≤ a * 16 := Nat.mul_le_mul_left a hb
      have := ih (a * b + (hx c).toNat) (e + 1) (by rw [Nat.pow_succ]; omega)
      rw [List.foldl_cons, List.length_cons, show e + (l.length + 1) = e + 1 + l.length by omega]
      exact this
  have := gen l 0 0 (by simp)
  simpa [valB] using this
theorem valB_small (b : Nat) (hb : b ≤ 16) (l : List UInt8) (k : Nat) (hl : l.length ≤ 7) : valB b (l.take k) < 268435456 := by
  have h1 := valB_lt b hb (l.take k)
  have h2 : (l.take k).length ≤ 7 := by rw [List.length_take]; omega
  have h3 : 16 ^ (l.take k).length ≤ 16 ^ 7 := Nat.pow_le_pow_right (by omega) h2
  omega
theorem unhex_one (c : UInt8) : unhexL [c] = if 0 ≤ hx c then ((hx c).toNat, 0) else (0, 33) := by
  unfold unhexL
  have e : hexC c = hx c := rfl
  by_cases h : 0 ≤ hx c
  · rw [if_pos h, if_neg (by simp), if_neg (by simp), if_pos (by simp [e, h])]
    simp [valL, e]
  · rw [if_neg h, if_neg (by simp), if_neg (by simp), if_neg (by simp [e, h])]

def numA (l : List UInt8) : Int × Int := match numR l with | some (n, d) => (n, d) | none => (0, -1)
theorem numA_none {l : List UInt8} (h : ¬ (l.head? = some 35 ∧ (digsOf l.tail).length ≤ 7 ∧ (digsOf l.tail).all (digB (baseOf l.tail)) = true)) : numA l = (0, -1) := by
  unfold numA numR
  rw [if_neg h]
theorem numA_some {l : List UInt8} (h : l.head? = some 35 ∧ (digsOf l.tail).length ≤ 7 ∧ (digsOf l.tail).all (digB (baseOf l.tail)) = true) : numA l = (((valB (baseOf l.tail) (digsOf l.tail) : Nat) : Int), (((digsOf l.tail).length : Nat) : Int)) := by
  unfold numA numR
  rw [if_pos h]
theorem sharp (l : List UInt8) : Lib.hasPrefix l [35] = decide (l.head? = some 35) := by
  cases l with
  | nil => rfl
  | cons a l =>
    by_cases h : a = 35
    · subst h; rfl
    · simp [Lib.hasPrefix, List.isPrefixOf, h, Ne.symm h]
theorem sharp_trim (l : List UInt8) : Lib.trimPrefix l [35] = if l.head? = some 35 then l.tail else l := by
  unfold Lib.trimPrefix
  rw [sharp]
  by_cases h : l.head? = some 35
  · simp [h]
  · simp [h]
theorem digs_le (t : List UInt8) : (digsOf t).length ≤ t.length := by have := digs_len t; omega

set_option maxHeartbeats 4000000 in
set_option maxRecDepth 100000 in
theorem number_c (l : List UInt8) (hl : l.length ≤ 4611686018427387904) (w : World) :
    Calls Tryz.prog 135 #[.string (S l)] w fun e w' => e = .returned (.tuple #[.int .i64 (numA l).1, .int .i64 (numA l).2]) ∧ Below w.heap.size w w' := by
  obtain ⟨t, ht⟩ : ∃ t, t = Lib.trimPrefix l [35] := ⟨_, rfl⟩
  have hcut : ∀ w, Calls Tryz.prog 117 #[.string (S l), .string (S [35])] w fun e w' => e = .returned (.tuple #[.string (S t), .bool (decide (l.head? = some 35))]) ∧ w' = w := fun w => by
    have := Tryz.strings_CutPrefix (S l) (S [35]) w
    rw [list_S, list_S, sharp] at this
    rw [ht]
    exact this
  have hst := fun w => starts_c (S t) (S [120]) w (by decide)
  rw [list_S, list_S, starts_x] at hst
  have hdl := digs_len t
  obtain ⟨D, hD, hDs⟩ : ∃ D : ByteArray, D = S (digsOf t) ∧ D.size = (digsOf t).length := ⟨_, rfl, size_S _⟩
  obtain ⟨ds, hds⟩ : ∃ ds, ds = digsOf t := ⟨_, rfl⟩
  obtain ⟨bs, hbs⟩ : ∃ bs, bs = baseOf t := ⟨_, rfl⟩
  have hb16 : bs ≤ 16 := by rw [hbs]; unfold baseOf; split <;> omega
  have hDn : D.size = ds.length := by rw [hds]; exact hDs
  have hDi : (D.size : Int) = (ds.length : Int) := by rw [hDn]
  have hds6 : ds.length ≤ 4611686018427387904 := by
    have h1 := digs_le t
    have h2 : t.length ≤ l.length := by
      rw [ht, sharp_trim]
      split
      · rw [List.length_tail]; omega
      · exact Nat.le_refl _
    rw [hds]
    omega
  have hxT : isHex t = true → bs = 16 ∧ (S t).extract 1 (S t).size = D ∧ (1 : Int) ≤ ((S t).size : Int) := fun hx1 => by
    refine ⟨by rw [hbs]; unfold baseOf; rw [hx1]; rfl, ?_, by rw [size_S]; rw [hx1] at hdl; simp at hdl; omega⟩
    rw [cutFrom, list_S, hD]
    unfold digsOf
    rw [hx1]
    simp
  have hxF : isHex t = false → bs = 10 ∧ S t = D := fun hx1 => by
    refine ⟨by rw [hbs]; unfold baseOf; rw [hx1]; rfl, ?_⟩
    rw [hD]
    unfold digsOf
    rw [hx1]
    simp
  obtain ⟨T, hT⟩ : ∃ T, T = S t := ⟨_, rfl⟩
  rw [← hT] at hxT hxF
  have hcut := fun w => hT ▸ hcut w
  have hst := fun w => hT ▸ hst w
  by_cases hok : l.head? = some 35
  · have htt : t = l.tail := by rw [ht, sharp_trim, if_pos hok]
    rw [decide_eq_true hok] at hcut
    by_cases h7 : ds.length ≤ 7
    · have G1 : ds.all (digB bs) = true → numA l = (((valB bs ds : Nat) : Int), ((ds.length : Nat) : Int)) := fun h => by
        rw [hds, hbs, htt] at h ⊢
        exact numA_some ⟨hok, by rw [← htt, ← hds]; exact h7, h⟩
      have G0 : ∀ k (h : k < ds.length), digB bs ds[k] = false → numA l = (0, -1) := fun k h hf => by
        have : ds.all (digB bs) = false := by
          rw [List.all_eq_false]
          exact ⟨ds[k], List.getElem_mem h, by rw [hf]; simp⟩
        rw [hds, hbs, htt] at this
        exact numA_none fun hh => by rw [hh.2.2] at this; cases this
      have one : ∀ k (h : k < ds.length), D.extract k (k + 1) = S [ds[k]] := fun k h => by
        have e : D = S ds := by rw [hD, hds]
        rw [e]
        exact cutOne ds k h
      have HU := Lib.hid (fun (c : UInt8) w => unhex_c (S [c]) w)
      simp only [unhex_one] at HU
      have step : ∀ k (h : k < ds.length), digB bs ds[k] = true → (ds.take k).all (digB bs) = true → (ds.take (k + 1)).all (digB bs) = true ∧ valB bs (ds.take (k + 1)) = valB bs (ds.take k) * bs + (hx ds[k]).toNat := fun k h h1 h2 => by
        rw [List.take_succ_eq_append_getElem h, List.all_append, h2, valB_snoc]
        exact ⟨by simp [h1], rfl⟩
      have HS := Lib.hid step
      have H1 := Lib.hid one
      have HG := Lib.hid (And.intro G1 G0)
      have h7i : (ds.length : Int) ≤ 7 := by omega
      cases hx1 : isHex t with
      | true =>
        obtain ⟨hb, hcD, hsz1⟩ := hxT hx1
        rw [hx1] at hst
        clear hD hDs hds hbs hdl ht hok htt step one G1 G0 hx1 hxT hxF hT
        subst hb
        generalize S l = L at hcut
        go_enter Tryz.func135, Tryz.ntmps135
        go_wp2_with fail
        refine (hcut _).mono ?_
        rintro e w1 ⟨rfl, rfl⟩
        go_wp2_with fail
        refine (hst _).mono ?_
        rintro e w2 ⟨rfl, hb2⟩
        have HB := Lib.hid hb2
        clear hb2
        go_wp2_with fail
        go_loopw [6, 29] (fun n i wr => ∃ k : Nat, k ≤ ds.length ∧ i = .int .i64 k ∧ n = .int .i64 (valB 16 (ds.take k) : Nat) ∧ Hid ((ds.take k).all (digB 16) = true ∧ Below w1.heap.size w1 wr)) (fun _ i _ => ds.length - (intOf i).toNat)
        case atStart => exact ⟨0, Nat.zero_le _, rfl, rfl, rfl, HB.out⟩
        case round =>
          obtain ⟨k, hk, rfl, rfl, hr⟩ := hrel
          by_cases hlt : k < ds.length
          · have hv := valB_small 16 (by omega) ds k h7
            have h1 := H1.out k hlt
            have hu := HU.out ds[k] wr
            have hxr := hx_le ds[k]
            have HS1 := Lib.hid (And.intro (HS.out k hlt) (HG.out.2 k hlt))
            have i0 : (0 : Int) ≤ (k : Int) := by omega
            have i1 : (k : Int) < (ds.length : Int) := by omega
            have i2 : (k : Int) + 1 ≤ (ds.length : Int) := by omega
            have i3 : (k : Int) ≤ (k : Int) + 1 := by omega
            have i4 : ((k : Int) + 1).toNat = k + 1 := by omega
            generalize ds[k] = c at h1 hu hxr HS1
            obtain ⟨v, hveq⟩ : ∃ v, v = valB 16 (ds.take k) := ⟨_, rfl⟩
            rw [← hveq] at hv ⊢
            have HV := Lib.hid hveq
            clear hveq
            by_cases hd0 : 0 ≤ hx c
            · rw [if_pos hd0] at hu
              simp only at hu
              rw [Int.toNat_of_nonneg hd0] at hu
              by_cases hd1 : hx c < 16
              · have HE : Hid ((ds.take (k + 1)).all (digB 16) = true ∧ (valB 16 (ds.take (k + 1)) : Int) = (v : Int) * 16 + hx c) := by
                  obtain ⟨q1, q2⟩ := HS1.out.1 (decide_eq_true ⟨hd0, hd1⟩) hr.out.1
                  refine ⟨q1, ?_⟩
                  rw [q2, HV.out]
                  push_cast
                  rw [Int.toNat_of_nonneg hd0]
                generalize hx c = d at hu hd0 hd1 hxr HE
                go_wp2_with fail
                refine hu.mono ?_
                rintro e w3 ⟨rfl, hb3⟩
                have HB3 := Lib.hid (hr.out.2.trans (hb3.mono hr.out.2.size))
                clear hb3
                go_wp2_with fail
                go_roundw
                case rel => exact ⟨k + 1, by omega, by go_num, by rw [HE.out.2], HE.out.1, HB3.out⟩
                case measure => simp [intOf]; omega
              · have HE : Hid (numA l = (0, -1)) := HS1.out.2 (decide_eq_false (by omega))
                generalize hx c = d at hu hd0 hd1 hxr
                have hd2 : 16 ≤ d := by omega
                clear hd1
                go_wp2_with fail
                refine hu.mono ?_
                rintro e w3 ⟨rfl, hb3⟩
                have HB3 := Lib.hid (hr.out.2.trans (hb3.mono hr.out.2.size))
                clear hb3
                go_wp2_with fail
                go_ret2
                exact ⟨by rw [HE.out]; rfl, HB3.out⟩
            · rw [if_neg hd0] at hu
              simp only at hu
              have HE : Hid (numA l = (0, -1)) := HS1.out.2 (decide_eq_false (by omega))
              clear hd0 hxr
              go_wp2_with fail
              refine hu.mono ?_
              rintro e w3 ⟨rfl, hb3⟩
              have HB3 := Lib.hid (hr.out.2.trans (hb3.mono hr.out.2.size))
              clear hb3
              go_wp2_with fail
              go_ret2
              exact ⟨by rw [HE.out]; rfl, HB3.out⟩
          · have hkl : k = ds.length := by omega
            subst hkl
            have HE : Hid (numA l = (((valB 16 (ds.take ds.length) : Nat) : Int), ((ds.length : Nat) : Int))) := by
              have q := hr.out.1
              rw [List.take_length] at q ⊢
              exact HG.out.1 q
            generalize valB 16 (ds.take ds.length) = v at HE
            go_wp2_with fail
            go_ret2
            exact ⟨by rw [HE.out]; rfl, hr.out.2⟩
      | false =>
        obtain ⟨hb, hTD⟩ := hxF hx1
        rw [hx1] at hst
        rw [hTD] at hcut hst
        clear hD hDs hds hbs hdl ht hok htt step one G1 G0 hx1 hxT hxF hT
        subst hb
        generalize S l = L at hcut
        go_enter Tryz.func135, Tryz.ntmps135
        go_wp2_with fail
        refine (hcut _).mono ?_
        rintro e w1 ⟨rfl, rfl⟩
        go_wp2_with fail
        refine (hst _).mono ?_
        rintro e w2 ⟨rfl, hb2⟩
        have HB := Lib.hid hb2
        clear hb2
        go_wp2_with fail
        go_loopw [6, 29] (fun n i wr => ∃ k : Nat, k ≤ ds.length ∧ i = .int .i64 k ∧ n = .int .i64 (valB 10 (ds.take k) : Nat) ∧ Hid ((ds.take k).all (digB 10) = true ∧ Below w1.heap.size w1 wr)) (fun _ i _ => ds.length - (intOf i).toNat)
        case atStart => exact ⟨0, Nat.zero_le _, rfl, rfl, rfl, HB.out⟩
        case round =>
          obtain ⟨k, hk, rfl, rfl, hr⟩ := hrel
          by_cases hlt : k < ds.length
          · have hv := valB_small 10 (by omega) ds k h7
            have h1 := H1.out k hlt
            have hu := HU.out ds[k] wr
            have hxr := hx_le ds[k]
            have HS1 := Lib.hid (And.intro (HS.out k hlt) (HG.out.2 k hlt))
            have i0 : (0 : Int) ≤ (k : Int) := by omega
            have i1 : (k : Int) < (ds.length : Int) := by omega
            have i2 : (k : Int) + 1 ≤ (ds.length : Int) := by omega
            have i3 : (k : Int) ≤ (k : Int) + 1 := by omega
            have i4 : ((k : Int) + 1).toNat = k + 1 := by omega
            generalize ds[k] = c at h1 hu hxr HS1
            obtain ⟨v, hveq⟩ : ∃ v, v = valB 10 (ds.take k) := ⟨_, rfl⟩
            rw [← hveq] at hv ⊢
            have HV := Lib.hid hveq
            clear hveq
            by_cases hd0 : 0 ≤ hx c
            · rw [if_pos hd0] at hu
              simp only at hu
              rw [Int.toNat_of_nonneg hd0] at hu
              by_cases hd1 : hx c < 10
              · have HE : Hid ((ds.take (k + 1)).all (digB 10) = true ∧ (valB 10 (ds.take (k + 1)) : Int) = (v : Int) * 10 + hx c) := by
                  obtain ⟨q1, q2⟩ := HS1.out.1 (decide_eq_true ⟨hd0, hd1⟩) hr.out.1
                  refine ⟨q1, ?_⟩
                  rw [q2, HV.out]
                  push_cast
                  rw [Int.toNat_of_nonneg hd0]
                generalize hx c = d at hu hd0 hd1 hxr HE
                go_wp2_with fail
                refine hu.mono ?_
                rintro e w3 ⟨rfl, hb3⟩
                have HB3 := Lib.hid (hr.out.2.trans (hb3.mono hr.out.2.size))
                clear hb3
                go_wp2_with fail
                go_roundw
                case rel => exact ⟨k + 1, by omega, by go_num, by rw [HE.out.2], HE.out.1, HB3.out⟩
                case measure => simp [intOf]; omega
              · have HE : Hid (numA l = (0, -1)) := HS1.out.2 (decide_eq_false (by omega))
                generalize hx c = d at hu hd0 hd1 hxr
                have hd2 : 10 ≤ d := by omega
                clear hd1
                go_wp2_with fail
                refine hu.mono ?_
                rintro e w3 ⟨rfl, hb3⟩
                have HB3 := Lib.hid (hr.out.2.trans (hb3.mono hr.out.2.size))
                clear hb3
                go_wp2_with fail
                go_ret2
                exact ⟨by rw [HE.out]; rfl, HB3.out⟩
            · rw [if_neg hd0] at hu
              simp only at hu
              have HE : Hid (numA l = (0, -1)) := HS1.out.2 (decide_eq_false (by omega))
              clear hd0 hxr
              go_wp2_with fail
              refine hu.mono ?_
              rintro e w3 ⟨rfl, hb3⟩
              have HB3 := Lib.hid (hr.out.2.trans (hb3.mono hr.out.2.size))
              clear hb3
              go_wp2_with fail
              go_ret2
              exact ⟨by rw [HE.out]; rfl, HB3.out⟩
          · have hkl : k = ds.length := by omega
            subst hkl
            have HE : Hid (numA l = (((valB 10 (ds.take ds.length) : Nat) : Int), ((ds.length : Nat) : Int))) := by
              have q := hr.out.1
              rw [List.take_length] at q ⊢
              exact HG.out.1 q
            generalize valB 10 (ds.take ds.length) = v at HE
            go_wp2_with fail
            go_ret2
            exact ⟨by rw [HE.out]; rfl, hr.out.2⟩
    · have HE : Hid (numA l = (0, -1)) := numA_none fun hh => by
        have := hh.2.1
        rw [← htt, ← hds] at this
        omega
      have h7i : (7 : Int) < (ds.length : Int) := by omega
      cases hx1 : isHex t with
      | true =>
        obtain ⟨hb, hcD, hsz1⟩ := hxT hx1
        rw [hx1] at hst
        clear hD hDs hds hbs hdl ht hok htt hx1 hxT hxF hT hb
        generalize S l = L at hcut
        go_enter Tryz.func135, Tryz.ntmps135
        go_wp2_with fail
        refine (hcut _).mono ?_
        rintro e w1 ⟨rfl, rfl⟩
        go_wp2_with fail
        refine (hst _).mono ?_
        rintro e w2 ⟨rfl, hb2⟩
        go_wp2_with fail
        go_ret2
        exact ⟨by rw [HE.out]; rfl, hb2⟩
      | false =>
        obtain ⟨hb, hTD⟩ := hxF hx1
        rw [hx1] at hst
        rw [hTD] at hcut hst
        clear hD hDs hds hbs hdl ht hok htt hx1 hxT hxF hT hb hTD
        generalize S l = L at hcut
        go_enter Tryz.func135, Tryz.ntmps135
        go_wp2_with fail
        refine (hcut _).mono ?_
        rintro e w1 ⟨rfl, rfl⟩
        go_wp2_with fail
        refine (hst _).mono ?_
        rintro e w2 ⟨rfl, hb2⟩
        go_wp2_with fail
        go_ret2
        exact ⟨by rw [HE.out]; rfl, hb2⟩
  · have HE : Hid (numA l = (0, -1)) := numA_none fun hh => hok hh.1
    rw [decide_eq_false hok] at hcut
    cases hx1 : isHex t with
    | true =>
      obtain ⟨hb, hcD, hsz1⟩ := hxT hx1
      rw [hx1] at hst
      clear hD hDs hds hbs hdl ht hok hx1 hxT hxF hT hb
      generalize S l = L at hcut
      go_enter Tryz.func135, Tryz.ntmps135
      go_wp2_with fail
      refine (hcut _).mono ?_
      rintro e w1 ⟨rfl, rfl⟩
      go_wp2_with fail
      refine (hst _).mono ?_
      rintro e w2 ⟨rfl, hb2⟩
      go_wp2_with fail
      go_ret2
      exact ⟨by rw [HE.out]; rfl, hb2⟩
    | false =>
      rw [hx1] at hst
      clear hD hDs hds hbs hdl ht hok hx1 hxT hxF hT
      generalize S l = L at hcut
      go_enter Tryz.func135, Tryz.ntmps135
      go_wp2_with fail
      refine (hcut _).mono ?_
      rintro e w1 ⟨rfl, rfl⟩
      go_wp2_with fail
      refine (hst _).mono ?_
      rintro e w2 ⟨rfl, hb2⟩
      go_wp2_with fail
      go_ret2
      exact ⟨by rw [HE.out]; rfl, hb2⟩
end Go.Proofs.YtklpbkjplecdpaaGreat.Crf

/-
  Contracts of standsFor, beginsName and beginsNumber of package refs.
-/
namespace Go.Proofs.YtklpbkjplecdpaaGreat.Crf
open Go.RowKit Oct Num Utf
open Go.Lib (encodeRune)

theorem nm0 : ∀ w, (Instr.index 129 namesV (.int .i64 0)).run Tryz.prog w = .ok (.agg #[.string ⟨#[97, 109, 112]⟩, .string ⟨#[38]⟩]) w := fun _ => by kernel_rfl
theorem nm1 : ∀ w, (Instr.index 129 namesV (.int .i64 1)).run Tryz.prog w = .ok (.agg #[.string ⟨#[108, 116]⟩, .string ⟨#[60]⟩]) w := fun _ => by kernel_rfl
theorem nm2 : ∀ w, (Instr.index 129 namesV (.int .i64 2)).run Tryz.prog w = .ok (.agg #[.string ⟨#[103, 116]⟩, .string ⟨#[62]⟩]) w := fun _ => by kernel_rfl
theorem nm3 : ∀ w, (Instr.index 129 namesV (.int .i64 3)).run Tryz.prog w = .ok (.agg #[.string ⟨#[113, 117, 111, 116]⟩, .string ⟨#[34]⟩]) w := fun _ => by kernel_rfl
theorem nm4 : ∀ w, (Instr.index 129 namesV (.int .i64 4)).run Tryz.prog w = .ok (.agg #[.string ⟨#[97, 112, 111, 115]⟩, .string ⟨#[39]⟩]) w := fun _ => by kernel_rfl

def wordL : Nat → List UInt8
  | 0 => amp
  | 1 => lt'
  | 2 => gt'
  | 3 => quot
  | _ => apos
def wordS : Nat → List UInt8
  | 0 => [38]
  | 1 => [60]
  | 2 => [62]
  | 3 => [34]
  | _ => [39]
theorem nm (k : Nat) (h : k < 5) : ∀ w, (Instr.index 129 namesV (.int .i64 (k : Int))).run Tryz.prog w = .ok (.agg #[.string (S (wordL k)), .string (S (wordS k))]) w := by
  match k, h with
  | 0, _ => exact nm0
  | 1, _ => exact nm1
  | 2, _ => exact nm2
  | 3, _ => exact nm3
  | 4, _ => exact nm4
theorem name_word {l : List UInt8} {k : Nat} (hk : k < 5) (h : wordL k = l) : nameR l = wordS k := by
  subst h
  match k, hk with
  | 0, _ => decide
  | 1, _ => decide
  | 2, _ => decide
  | 3, _ => decide
  | 4, _ => decide
theorem wordS_ne (k : Nat) : wordS k ≠ [] := by
  unfold wordS
  split <;> simp
theorem name_no {l : List UInt8} (h : ∀ k, k < 5 → wordL k ≠ l) : nameR l = [] := by
  have h0 : l ≠ amp := fun e => h 0 (by omega) e.symm
  have h1 : l ≠ lt' := fun e => h 1 (by omega) e.symm
  have h2 : l ≠ gt' := fun e => h 2 (by omega) e.symm
  have h3 : l ≠ quot := fun e => h 3 (by omega) e.symm
  have h4 : l ≠ apos := fun e => h 4 (by omega) e.symm
  unfold nameR
  rw [if_neg h0, if_neg h1, if_neg h2, if_neg h3, if_neg h4]
theorem eqS (a b : List UInt8) {q : Bool} (h : decide (a = b) = q) : ((S a).toList == (S b).toList) = q := by rw [eqB, h]

set_option maxHeartbeats 4000000 in
set_option maxRecDepth 100000 in
theorem stands_c (l : List UInt8) (hl : l.length ≤ 4611686018427387904) (w : World) :
    Calls Tryz.prog 137 #[.string (S l)] w fun e w' => e = .returned (.string (S (refR l))) ∧ Below w.heap.size w w' := by
  have hnum := fun w => number_c l hl w
  have HC := Lib.hid (fun n w => character_c n w)
  have HN := Lib.hid (fun k h => nm k h)
  have HEq := Lib.hid (fun a {q} (h : decide (a = l) = q) => eqS a l h)
  obtain ⟨L, hL⟩ : ∃ L, L = S l := ⟨_, rfl⟩
  rw [← hL] at hnum HEq ⊢
  clear hL
  go_enter Tryz.func137, Tryz.ntmps137
  go_wp2_with fail
  refine (names_c _).mono ?_
  rintro e w1 ⟨rfl, hb1⟩
  have HB1 := Lib.hid hb1
  clear hb1
  go_wp2_with fail
  go_loopw [8] (fun i wr => ∃ k : Nat, k ≤ 5 ∧ i = .int .i64 k ∧ Hid ((∀ j, j < k → wordL j ≠ l) ∧ Below w.heap.size w wr)) (fun i _ => 5 - (intOf i).toNat)
  case atStart => exact ⟨0, Nat.zero_le _, rfl, fun j h => absurd h (by omega), HB1.out⟩
  case round =>
    obtain ⟨k, hk, rfl, hr⟩ := hrel
    by_cases hlt : k < 5
    · have hi := HN.out k hlt
      have i0 : (0 : Int) ≤ (k : Int) := by omega
      have i1 : (k : Int) < 5 := by omega
      by_cases hw : wordL k = l
      · have hq := HEq.out (wordL k) (decide_eq_true hw)
        have HR : Hid (refR l = wordS k) := by
          show _ = _
          have := name_word hlt hw
          unfold refR
          rw [if_pos (by rw [this]; exact wordS_ne k), this]
        generalize S (wordL k) = W1 at hi hq
        generalize hW2 : S (wordS k) = W2 at hi
        have HW2 := Lib.hid hW2
        clear hW2 hw
        go_wp2_with fail
        go_ret
        exact ⟨by rw [HR.out, HW2.out]; rfl, hr.out.2.alloc hr.out.2.size _⟩
      · have hq := HEq.out (wordL k) (decide_eq_false hw)
        have HNW := Lib.hid hw
        generalize hW1 : S (wordL k) = W1 at hi hq
        generalize S (wordS k) = W2 at hi
        clear hW1 hw
        go_wp2_with fail
        go_roundw
        case rel => exact ⟨k + 1, by omega, by go_num, fun j hj => by
          rcases Nat.lt_or_ge j k with h | h
          · exact hr.out.1 j h
          · obtain rfl : j = k := by omega
            exact HNW.out, hr.out.2.alloc hr.out.2.size _⟩
        case measure => simp [intOf]; omega
    · obtain rfl : k = 5 := by omega
      have HNN : Hid (nameR l = []) := name_no hr.out.1
      cases hk2 : numR l with
      | none =>
        have e : numA l = (0, -1) := by unfold numA; rw [hk2]
        have HR : Hid (refR l = []) := by
          show _ = _
          unfold refR
          rw [HNN.out, hk2]; rfl
        rw [e] at hnum
        clear hk2 e
        go_wp2_with fail
        refine (hnum _).mono ?_
        rintro e w2 ⟨rfl, hb2⟩
        go_wp2_with fail
        go_ret
        exact ⟨by rw [HR.out]; rfl, hr.out.2.trans (hb2.mono hr.out.2.size)⟩
      | some q =>
        obtain ⟨n, d⟩ := q
        have e : numA l = ((n : Int), (d : Int)) := by unfold numA; rw [hk2]
        rw [e] at hnum
        by_cases hd : d = 0
        · have HR : Hid (refR l = []) := by
            show _ = _
            unfold refR
            rw [HNN.out, hk2, hd]; rfl
          subst hd
          clear hk2 e
          go_wp2_with fail
          refine (hnum _).mono ?_
          rintro e w2 ⟨rfl, hb2⟩
          go_wp2_with fail
          go_ret
          exact ⟨by rw [HR.out]; rfl, hr.out.2.trans (hb2.mono hr.out.2.size)⟩
        · have HR : Hid (refR l = standL n) := by
            show _ = _
            unfold refR
            rw [HNN.out, hk2]
            simp [hd]
          have d1 : ((d : Int) == -1) = false := by simp
          have d0 : ((d : Int) == 0) = false := by simp; exact hd
          have hch := fun w => HC.out n w
          generalize hC0 : S (standL n) = C at hch
          have HC0 := Lib.hid hC0
          clear hC0 hk2 e hd
          generalize (n : Int) = n' at hnum hch
          generalize (d : Int) = d' at hnum d0 d1
          go_wp2_with fail
          refine (hnum _).mono ?_
          rintro e w2 ⟨rfl, hb2⟩
          go_wp2_with fail
          refine (hch _).mono ?_
          rintro e w3 ⟨rfl, hb3⟩
          go_wp2_with fail
          go_ret
          exact ⟨by rw [HR.out, HC0.out]; rfl, (hr.out.2.trans (hb2.mono hr.out.2.size)).trans (hb3.mono (Nat.le_trans hr.out.2.size hb2.size))⟩

theorem prefix_word (k : Nat) (l : List UInt8) : Lib.hasPrefix (wordL k) l = true ↔ l <+: wordL k := pre_iff _ _
theorem beg_yes {k : Nat} {l : List UInt8} (hk : k < 5) (h : Lib.hasPrefix (wordL k) l = true) : begName l = true := by
  have h := (prefix_word k l).1 h
  refine decide_eq_true ?_
  match k, hk, h with
  | 0, _, h => exact .inl h
  | 1, _, h => exact .inr (.inl h)
  | 2, _, h => exact .inr (.inr (.inl h))
  | 3, _, h => exact .inr (.inr (.inr (.inl h)))
  | 4, _, h => exact .inr (.inr (.inr (.inr h)))
theorem beg_no {l : List UInt8} (h : ∀ k, k < 5 → Lib.hasPrefix (wordL k) l = false) : begName l = false := by
  refine decide_eq_false ?_
  have n : ∀ k, k < 5 → ¬ l <+: wordL k := fun k hk hp => by
    have := h k hk
    rw [(prefix_word k l).2 hp] at this
    cases this
  rintro (h | h | h | h | h)
  · exact n 0 (by omega) h
  · exact n 1 (by omega) h
  · exact n 2 (by omega) h
  · exact n 3 (by omega) h
  · exact n 4 (by omega) h

set_option maxHeartbeats 2000000 in
set_option maxRecDepth 100000 in
theorem begName_c (l : List UInt8) (w : World) :
    Calls Tryz.prog 118 #[.string (S l)] w fun e w' => e = .returned (.bool (begName l)) ∧ Below w.heap.size w w' := by
  have HN := Lib.hid (fun k h => nm k h)
  have HP := Lib.hid (fun k w => (by have := Tryz.strings_HasPrefix (S (wordL k)) (S l) w; rw [list_S, list_S] at this; exact this : Calls Tryz.prog 88 #[.string (S (wordL k)), .string (S l)] w fun e w' => e = .returned (.bool (Lib.hasPrefix (wordL k) l)) ∧ w' = w))
  generalize S l = L at HP
  go_enter Tryz.func118, Tryz.ntmps118
  go_wp2_with fail
  refine (names_c _).mono ?_
  rintro e w1 ⟨rfl, hb1⟩
  have HB1 := Lib.hid hb1
  clear hb1
  go_wp2_with fail
  go_loopw [6] (fun i wr => ∃ k : Nat, k ≤ 5 ∧ i = .int .i64 k ∧ Hid ((∀ j, j < k → Lib.hasPrefix (wordL j) l = false) ∧ Below w.heap.size w wr)) (fun i _ => 5 - (intOf i).toNat)
  case atStart => exact ⟨0, Nat.zero_le _, rfl, fun j h => absurd h (by omega), HB1.out⟩
  case round =>
    obtain ⟨k, hk, rfl, hr⟩ := hrel
    by_cases hlt : k < 5
    · have hi := HN.out k hlt
      have hp := fun w => HP.out k w
      have i0 : (0 : Int) ≤ (k : Int) := by omega
      have i1 : (k : Int) < 5 := by omega
      cases hq : Lib.hasPrefix (wordL k) l with
      | true =>
        have HR : Hid (begName l = true) := beg_yes hlt hq
        rw [hq] at hp
        generalize S (wordL k) = W1 at hi hp
        generalize S (wordS k) = W2 at hi
        clear hq
        go_wp2_with fail
        refine (hp _).mono ?_
        rintro e w2 ⟨rfl, rfl⟩
        go_wp2_with fail
        go_ret
        exact ⟨by rw [HR.out]; rfl, hr.out.2.alloc hr.out.2.size _⟩
      | false =>
        have HNW := Lib.hid hq
        rw [hq] at hp
        generalize hW1 : S (wordL k) = W1 at hi hp
        generalize S (wordS k) = W2 at hi
        clear hW1 hq
        go_wp2_with fail
        refine (hp _).mono ?_
        rintro e w2 ⟨rfl, rfl⟩
        go_wp2_with fail
        go_roundw
        case rel => exact ⟨k + 1, by omega, by go_num, fun j hj => by
          rcases Nat.lt_or_ge j k with h | h
          · exact hr.out.1 j h
          · obtain rfl : j = k := by omega
            exact HNW.out, hr.out.2.alloc hr.out.2.size _⟩
        case measure => simp [intOf]; omega
    · obtain rfl : k = 5 := by omega
      have HR : Hid (begName l = false) := beg_no hr.out.1
      go_wp2_with fail
      go_ret
      exact ⟨by rw [HR.out]; rfl, hr.out.2⟩

theorem begNumber_c (l : List UInt8) (hl : l.length ≤ 4611686018427387904) (w : World) :
    Calls Tryz.prog 119 #[.string (S l)] w fun e w' => e = .returned (.bool (numR l).isSome) ∧ Below w.heap.size w w' := by
  have hnum := number_c l hl w
  generalize S l = L at hnum
  cases hk : numR l with
  | none =>
    have e : numA l = (0, -1) := by unfold numA; rw [hk]
    rw [e] at hnum
    clear hk e
    go_enter Tryz.func119, Tryz.ntmps119
    go_wp2_with fail
    refine hnum.mono ?_
    rintro e w2 ⟨rfl, hb2⟩
    go_wp2_with fail
    go_ret
    exact ⟨rfl, hb2⟩
  | some q =>
    obtain ⟨n, d⟩ := q
    have e : numA l = ((n : Int), (d : Int)) := by unfold numA; rw [hk]
    rw [e] at hnum
    have d1 : ((d : Int) == -1) = false := by simp
    have d2 : ((d : Int) != -1) = true := by simp
    clear hk e
    generalize (n : Int) = n' at hnum
    generalize (d : Int) = d' at hnum d1 d2
    go_enter Tryz.func119, Tryz.ntmps119
    go_wp2_with fail
    refine hnum.mono ?_
    rintro e w2 ⟨rfl, hb2⟩
    go_wp2_with fail
    go_ret
    exact ⟨rfl, hb2⟩
end Go.Proofs.YtklpbkjplecdpaaGreat.Crf

/-
  Contracts of read, One and Unfinished of package refs.
-/
namespace Go.Proofs.YtklpbkjplecdpaaGreat.Crf
open Go.RowKit Oct Num Utf
open Go.Lib (encodeRune)

theorem amp_head (l : List UInt8) : Lib.hasPrefix l [38] = decide (l.head? = some 38) := by
  cases l with
  | nil => rfl
  | cons a l =>
    by_cases h : a = 38
    · subst h; rfl
    · simp [Lib.hasPrefix, List.isPrefixOf, h, Ne.symm h]
theorem amp_trim (l : List UInt8) : Lib.trimPrefix l [38] = if l.head? = some 38 then l.tail else l := by
  unfold Lib.trimPrefix
  rw [amp_head]
  by_cases h : l.head? = some 38
  · simp [h]
  · simp [h]
theorem cutAmp_c (l : List UInt8) (w : World) : Calls Tryz.prog 117 #[.string (S l), .string ⟨#[38]⟩] w fun e w' => e = .returned (.tuple #[.string (S (if l.head? = some 38 then l.tail else l)), .bool (decide (l.head? = some 38))]) ∧ w' = w := by
  have := Tryz.strings_CutPrefix (S l) (S [38]) w
  rw [list_S, list_S, amp_head, amp_trim] at this
  exact this

def oneR (r : List UInt8) : List UInt8 × Nat := if 59 ∈ r ∧ refR (innerOf r) ≠ [] then (refR (innerOf r), (innerOf r).length + 2) else ([], 0)
theorem one_amp {l : List UInt8} (h : l.head? = some 38) : oneL l = oneR (l.tail.take 10) := by
  cases l with
  | nil => cases h
  | cons a t =>
    rw [List.head?_cons] at h
    injection h with h
    subst h
    rfl

set_option maxHeartbeats 4000000 in
set_option maxRecDepth 100000 in
theorem read_c (l : List UInt8) (hl : l.length ≤ 4611686018427387904) (w : World) :
    Calls Tryz.prog 120 #[.string (S l)] w fun e w' => e = .returned (.tuple #[.string (S (oneL l).1), .int .i64 ((oneL l).2 : Int)]) ∧ Below w.heap.size w w' := by
  obtain ⟨m, hm⟩ : ∃ m, m = min l.length 11 := ⟨_, rfl⟩
  have hcutS : (S l).extract 0 m = S (l.take m) := by rw [cutTo, list_S]
  have hmin : min ((S l).size : Int) 11 = (m : Int) := by rw [size_S, hm]; omega
  have hm0 : (0 : Int) ≤ (m : Int) := by omega
  have hm1 : (m : Int) ≤ ((S l).size : Int) := by rw [size_S]; omega
  have hcp := fun w => cutAmp_c (l.take m) w
  have hhd : (l.take m).head? = l.head? := by
    cases l with
    | nil => rw [List.take_nil]
    | cons a t =>
      have : m = (m - 1) + 1 := by rw [List.length_cons] at hm; omega
      rw [this, List.take_succ_cons]
      rfl
  rw [hhd] at hcp
  obtain ⟨r, hr⟩ : ∃ r, r = (if l.head? = some 38 then (l.take m).tail else l.take m) := ⟨_, rfl⟩
  rw [← hr] at hcp
  have hrl : r.length ≤ 11 := by
    rw [hr]
    split
    · rw [List.length_tail, List.length_take]; omega
    · rw [List.length_take]; omega
  have hO : Hid (l.head? = some 38 → oneL l = oneR r) := fun h => by
    have e : r = l.tail.take 10 := by
      rw [hr, if_pos h]
      cases l with
      | nil => cases h
      | cons a t =>
        rw [hm, List.length_cons, List.tail_cons]
        by_cases ht : t.length ≤ 10
        · rw [List.take_of_length_le (by rw [List.length_cons]; omega), List.take_of_length_le ht]; rfl
        · rw [show min (t.length + 1) 11 = 10 + 1 by omega, List.take_succ_cons]; rfl
    rw [one_amp h, e]
  have hO0 : Hid (l.head? ≠ some 38 → oneL l = ([], 0)) := one_none_head
  have HS := Lib.hid (fun i (h : i.length ≤ 11) w => stands_c i (by omega) w)
  have key : ∀ (i : List UInt8) (hi : i.length ≤ 11), Hid (∀ w, Calls Tryz.prog 137 #[.string (S i)] w fun e w' => e = .returned (.string (S (refR i))) ∧ Below w.heap.size w w') := fun i hi w => HS.out i hi w
  clear hhd hm hr
  generalize hL : S l = L at hcutS hmin hm1
  have HL := Lib.hid hL
  have hcutL := hcutS
  generalize l.take m = lm at hcutL hcutS hcp
  generalize S lm = LM at hcutL hcutS hcp
  clear hL hcutS
  by_cases h59 : 59 ∈ r
  · have hct := fun w => cut_yes r h59 (by omega) w
    have hil := inner_len r h59
    have hin := (key (innerOf r) (by omega)).out
    have hisz : ((S (innerOf r)).size : Int) = ((innerOf r).length : Int) := by rw [size_S]
    have hlen : ((innerOf r).length : Int) ≤ 11 := by omega
    have H59 := Lib.hid h59
    generalize S (r.drop ((innerOf r).length + 1)) = R2 at hct
    generalize hI : S (innerOf r) = I at hct hin hisz
    generalize hR : S r = R at hcp hct
    by_cases hok : l.head? = some 38
    · have hO1 : Hid (oneL l = oneR r) := hO.out hok
      rw [decide_eq_true hok] at hcp
      by_cases hst : refR (innerOf r) = []
      · have HE : Hid (oneL l = ([], 0)) := by
          show _ = _
          rw [hO1.out]; unfold oneR; rw [if_neg (fun h => h.2 hst)]
        rw [hst] at hin
        clear h59 hil hI hR hok hst hlen
        generalize (innerOf r).length = il at hisz
        go_enter Tryz.func120, Tryz.ntmps120
        go_wp2_with fail
        refine (hcp _).mono ?_
        rintro e w1 ⟨rfl, rfl⟩
        go_wp2_with fail
        refine (hct _).mono ?_
        rintro e w2 ⟨rfl, hb2⟩
        go_wp2_with fail
        refine (hin _).mono ?_
        rintro e w3 ⟨rfl, hb3⟩
        go_wp2_with fail
        go_ret2
        exact ⟨by rw [HE.out]; rfl, hb2.trans (hb3.mono hb2.size)⟩
      · have HE : Hid (oneL l = (refR (innerOf r), (innerOf r).length + 2)) := by
          show _ = _
          rw [hO1.out]; unfold oneR; rw [if_pos ⟨h59, hst⟩]
        have hne : (S (refR (innerOf r))).toList.isEmpty = false := by
          rw [ByteArray.toList_eq, list_S, List.isEmpty_eq_false_iff]; exact hst
        generalize hst2 : S (refR (innerOf r)) = ST at hin hne
        have HST := Lib.hid hst2
        clear h59 hil hI hR hok hst hst2
        generalize hilq : (innerOf r).length = il at hisz hlen
        have HIL := Lib.hid hilq
        clear hilq
        go_enter Tryz.func120, Tryz.ntmps120
        go_wp2_with fail
        refine (hcp _).mono ?_
        rintro e w1 ⟨rfl, rfl⟩
        go_wp2_with fail
        refine (hct _).mono ?_
        rintro e w2 ⟨rfl, hb2⟩
        go_wp2_with fail
        refine (hin _).mono ?_
        rintro e w3 ⟨rfl, hb3⟩
        go_wp2_with fail
        go_ret2
        refine ⟨?_, hb2.trans (hb3.mono hb2.size)⟩
        rw [HE.out, ← HST.out, HIL.out]
        exact congrArg (fun z => Ending.returned (.tuple #[.string (S (refR (innerOf r))), .int .i64 z])) (by omega : (1 : Int) + (il : Int) + 1 = ((il + 2 : Nat) : Int))
    · have HE : Hid (oneL l = ([], 0)) := hO0.out hok
      rw [decide_eq_false hok] at hcp
      generalize S (refR (innerOf r)) = ST at hin
      clear h59 hil hI hR hok hlen
      generalize (innerOf r).length = il at hisz
      go_enter Tryz.func120, Tryz.ntmps120
      go_wp2_with fail
      refine (hcp _).mono ?_
      rintro e w1 ⟨rfl, rfl⟩
      go_wp2_with fail
      refine (hct _).mono ?_
      rintro e w2 ⟨rfl, hb2⟩
      go_wp2_with fail
      refine (hin _).mono ?_
      rintro e w3 ⟨rfl, hb3⟩
      go_wp2_with fail
      go_ret2
      exact ⟨by rw [HE.out]; rfl, hb2.trans (hb3.mono hb2.size)⟩
  · have hct := fun w => cut_no r h59 w
    have hin := (key r hrl).out
    have HE : Hid (oneL l = ([], 0)) := by
      show _ = _
      by_cases hok : l.head? = some 38
      · rw [hO.out hok]; unfold oneR; rw [if_neg (fun h => h59 h.1)]
      · exact hO0.out hok
    generalize S (refR r) = ST at hin
    generalize S r = R at hcp hct hin
    clear h59
    cases hok : decide (l.head? = some 38) with
    | true =>
      rw [hok] at hcp
      clear hok
      go_enter Tryz.func120, Tryz.ntmps120
      go_wp2_with fail
      refine (hcp _).mono ?_
      rintro e w1 ⟨rfl, rfl⟩
      go_wp2_with fail
      refine (hct _).mono ?_
      rintro e w2 ⟨rfl, hb2⟩
      go_wp2_with fail
      refine (hin _).mono ?_
      rintro e w3 ⟨rfl, hb3⟩
      go_wp2_with fail
      go_ret2
      exact ⟨by rw [HE.out]; rfl, hb2.trans (hb3.mono hb2.size)⟩
    | false =>
      rw [hok] at hcp
      clear hok
      go_enter Tryz.func120, Tryz.ntmps120
      go_wp2_with fail
      refine (hcp _).mono ?_
      rintro e w1 ⟨rfl, rfl⟩
      go_wp2_with fail
      refine (hct _).mono ?_
      rintro e w2 ⟨rfl, hb2⟩
      go_wp2_with fail
      refine (hin _).mono ?_
      rintro e w3 ⟨rfl, hb3⟩
      go_wp2_with fail
      go_ret2
      exact ⟨by rw [HE.out]; rfl, hb2.trans (hb3.mono hb2.size)⟩

theorem stand_len (n : Nat) : (standL n).length ≤ 4 := by
  unfold standL
  split
  · exact (enc_len (n : Int)).2
  · simp
theorem ref_len (l : List UInt8) : (refR l).length ≤ 4 := by
  unfold refR
  split
  · rename_i h
    rcases name_cases h with rfl | rfl | rfl | rfl | rfl <;> decide
  · cases numR l with
    | none => simp
    | some q =>
      obtain ⟨n, d⟩ := q
      simp only
      split
      · simp
      · exact stand_len n
theorem one_slen (l : List UInt8) : (oneL l).1.length ≤ 4 := by
  by_cases h : (oneL l).2 = 0
  · rw [one_zero h]; simp
  · obtain ⟨i, t, _, _, e⟩ := one_some h
    rw [e]
    exact ref_len i

theorem one_c (l : List UInt8) (hl : l.length ≤ 4611686018427387904) (w : World) :
    Calls Tryz.prog 102 #[.string (S l)] w fun e w' => e = .returned (.tuple #[.string (S (oneL l).1), .int .i64 ((oneL l).2 : Int)]) ∧ Below w.heap.size w w' := by
  have hr := fun w => read_c l hl w
  have hcl := fun w => clone_c (S (oneL l).1) w (by rw [size_S]; have := one_slen l; omega)
  generalize S (oneL l).1 = R at hr hcl
  generalize ((oneL l).2 : Int) = n at hr
  generalize S l = L at hr
  go_enter Tryz.func102, Tryz.ntmps102
  go_wp2_with fail
  refine (hr _).mono ?_
  rintro e w1 ⟨rfl, hb1⟩
  go_wp2_with fail
  refine (hcl _).mono ?_
  rintro e w2 ⟨rfl, hb2⟩
  go_wp2_with fail
  go_ret2
  exact ⟨rfl, hb1.trans (hb2.mono hb1.size)⟩

theorem unf_c (l : List UInt8) (hl : l.length ≤ 4611686018427387904) (w : World) :
    Calls Tryz.prog 101 #[.string (S l)] w fun e w' => e = .returned (.bool (unfL l)) ∧ Below w.heap.size w w' := by
  have hcp := fun w => cutAmp_c l w
  by_cases hok : l.head? = some 38
  · obtain ⟨t, rfl⟩ : ∃ t, l = 38 :: t := by
      cases l with
      | nil => cases hok
      | cons a t => rw [List.head?_cons] at hok; injection hok with hok; subst hok; exact ⟨t, rfl⟩
    have e1 : (if (38 :: t).head? = some 38 then (38 :: t).tail else 38 :: t) = t := by simp
    rw [decide_eq_true hok, e1] at hcp
    have h1 := fun w => begName_c t w
    have h2 := fun w => begNumber_c t (by rw [List.length_cons] at hl; omega) w
    have HE : Hid (unfL (38 :: t) = (begName t || (numR t).isSome)) := rfl
    generalize S (38 :: t) = L at hcp
    generalize S t = T at hcp h1 h2
    clear hok e1
    cases hb : begName t with
    | true =>
      rw [hb] at h1 HE
      clear hb
      go_enter Tryz.func101, Tryz.ntmps101
      go_wp2_with fail
      refine (hcp _).mono ?_
      rintro e w1 ⟨rfl, rfl⟩
      go_wp2_with fail
      refine (h1 _).mono ?_
      rintro e w2 ⟨rfl, hb2⟩
      go_wp2_with fail
      go_ret
      exact ⟨by rw [HE.out]; rfl, hb2⟩
    | false =>
      rw [hb] at h1 HE
      clear hb
      generalize (numR t).isSome = q at h2 HE
      go_enter Tryz.func101, Tryz.ntmps101
      go_wp2_with fail
      refine (hcp _).mono ?_
      rintro e w1 ⟨rfl, rfl⟩
      go_wp2_with fail
      refine (h1 _).mono ?_
      rintro e w2 ⟨rfl, hb2⟩
      go_wp2_with fail
      refine (h2 _).mono ?_
      rintro e w3 ⟨rfl, hb3⟩
      go_wp2_with fail
      go_ret
      exact ⟨by rw [HE.out]; simp, hb2.trans (hb3.mono hb2.size)⟩
  · rw [decide_eq_false hok] at hcp
    have HE : Hid (unfL l = false) := by
      show _ = _
      unfold unfL
      split
      · simp at hok
      · rfl
    generalize S (if l.head? = some 38 then l.tail else l) = T at hcp
    generalize S l = L at hcp
    clear hok
    go_enter Tryz.func101, Tryz.ntmps101
    go_wp2_with fail
    refine (hcp _).mono ?_
    rintro e w1 ⟨rfl, rfl⟩
    go_wp2_with fail
    go_ret
    exact ⟨by rw [HE.out]; rfl, Below.refl _ _⟩
end Go.Proofs.YtklpbkjplecdpaaGreat.Crf

/-
  Contracts of the page's Kind, Language and Check of states (muslinref13).
-/
namespace Go.Proofs.YtklpbkjplecdpaaGreat.Scn
open Go.RowKit Oct Tab

abbrev stV (k : Int) (E A : ByteArray) (d : UInt8) (P R : ByteArray) (n : Int) (W : ByteArray) : Value :=
  .agg #[.int .i64 k, .string E, .string A, .int .u8 (d.toNat : Int), .string P, .string R, .int .i64 n, .string W]
def attI (k : Int) (e a : List UInt8) : Nat := if (k < 8 ∨ 10 < k) ∨ endE e = true then 0 else attrN e a
theorem pre_slash (e : List UInt8) : preL [47] e = endE e := by
  unfold preL endE
  cases e with
  | nil => decide
  | cons c t =>
    rw [Bool.eq_iff_iff, decide_eq_true_eq, List.cons_prefix_cons]
    simp
    exact eq_comm

end Go.Proofs.YtklpbkjplecdpaaGreat.Scn

/-
  A text, repaired, is not much longer.
-/
namespace Go.Proofs.YtklpbkjplecdpaaGreat.Pct
open Oct Utf

end Go.Proofs.YtklpbkjplecdpaaGreat.Pct

/-
  Contracts of two leaves of package number that later layers call too: whether a number lies between two others, how great it is without its sign; they change nothing.
-/
namespace Go.Proofs.YtklpbkjplecdpaaGreat.Num
open Go.RowKit Oct

def betweenB (n a b : Int) : Bool := decide (a ≤ n ∧ n ≤ b)

theorem within_c (n a b : Int) (w : World) :
    Calls Tryz.prog 35 #[.int .i64 n, .int .i64 a, .int .i64 b] w fun e w' => e = .returned (.bool (betweenB n a b)) ∧ w = w' := by
  go_enter Tryz.func35, Tryz.ntmps35
  go_wp2
  all_goals go_ret
  all_goals (refine ⟨ret_bool ?_, rfl⟩; unfold betweenB; rw [Bool.eq_iff_iff]; simp; try omega)

end Go.Proofs.YtklpbkjplecdpaaGreat.Num

/-
  Contracts of the leaves of package number: each is called at any numbers of its kinds and changes nothing.
-/
namespace Go.Proofs.YtklpbkjplecdpaaGreat.Num
open Go.RowKit Oct

end Go.Proofs.YtklpbkjplecdpaaGreat.Num

/-
  Contract of number.Parse: the number that a text prints, or the error's number; it changes nothing.
-/
namespace Go.Proofs.YtklpbkjplecdpaaGreat.Num
open Go.RowKit Oct

theorem take_at (s : ByteArray) (k : Nat) (h : k < s.size) : s.data.toList.take (k + 1) = s.data.toList.take k ++ [s[k]] := by
  rw [List.take_succ_eq_append_getElem (by rw [size_list]; exact h)]; rfl

end Go.Proofs.YtklpbkjplecdpaaGreat.Num
