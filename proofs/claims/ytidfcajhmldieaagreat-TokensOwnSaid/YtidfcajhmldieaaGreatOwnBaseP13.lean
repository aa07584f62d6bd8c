/-
  Part 13: CrfRun, CrfStands, CrfRead.
-/
import Derived.Test.YtidfcajhmldieaaGreatOwnBaseP12
/-
  Contracts of the page's run and number: how many digits stand from a place on, and what they count.
-/
namespace Go.Proofs.YtidfcajhmldieaaGreat.Crf
open Go.RowKit Go.Proofs.YtidfcajhmldieaaGreat.Oct Go.Proofs.YtidfcajhmldieaaGreat.Num Go.Proofs.YtidfcajhmldieaaGreat.Utf
open Go.Lib (encodeRune)

abbrev abcL : List UInt8 := [97, 98, 99, 100, 101, 102, 65, 66, 67, 68, 69, 70]
theorem dig10 (c : UInt8) : digB 10 c = digitI (c.toNat : Int) := by
  have h : ∀ c : Fin 256, digB 10 (UInt8.ofNat c.val) = digitI ((UInt8.ofNat c.val).toNat : Int) := by decide +kernel
  have h2 := h ⟨c.toNat, c.toNat_lt⟩
  simpa using h2
theorem dig16 (c : UInt8) : digB 16 c = (digitI (c.toNat : Int) || hasB abcL c) := by
  have h : ∀ c : Fin 256, digB 16 (UInt8.ofNat c.val) = (digitI ((UInt8.ofNat c.val).toNat : Int) || hasB abcL (UInt8.ofNat c.val)) := by decide +kernel
  have h2 := h ⟨c.toNat, c.toNat_lt⟩
  simpa using h2
theorem runN_is {base : Int} {l : List UInt8} {k : Nat} (h : (l.take k).all (digB base) = true) (hk : k = l.length ∨ ∃ c, l[k]? = some c ∧ digB base c = false) : runN base l = k := by
  rcases hk with rfl | ⟨c, hc, hd⟩
  · rw [List.take_length] at h
    exact (runN_full base l).2 h
  · obtain ⟨hlt, hce⟩ := List.getElem?_eq_some_iff.1 hc
    have e : l = l.take k ++ c :: l.drop (k + 1) := by
      conv => lhs; rw [← List.take_append_drop k l, List.drop_eq_getElem_cons hlt, hce]
    unfold runN
    rw [e, List.takeWhile_append_of_pos (List.all_eq_true.1 h), List.takeWhile_cons_of_neg (by rw [hd]; simp)]
    simp
    omega
theorem all_next {base : Int} {l : List UInt8} {k : Nat} {c : UInt8} (h : (l.take k).all (digB base) = true) (hc : l[k]? = some c) (hd : digB base c = true) : (l.take (k + 1)).all (digB base) = true := by
  obtain ⟨hlt, hce⟩ := List.getElem?_eq_some_iff.1 hc
  rw [List.take_succ_eq_append_getElem hlt, List.all_append, h, hce]
  simp [hd]

set_option maxHeartbeats 4000000 in
set_option maxRecDepth 100000 in
theorem rrun_c (s : ByteArray) (at_ : Nat) (hex : Bool) (hat : at_ ≤ s.size) (hs : s.size ≤ 2305843009213693952) (w : World) :
    Calls Tryz.prog 56 #[.string s, .int .i64 (at_ : Int), .bool hex] w fun e w' => e = .returned (.int .i64 (runN (if hex then 16 else 10) (s.data.toList.drop at_) : Nat)) ∧ w = w' := by
  obtain ⟨d, hd⟩ : ∃ d, d = s.data.toList.drop at_ := ⟨_, rfl⟩
  have hdl : d.length = s.size - at_ := by rw [hd, List.length_drop, size_list]
  have HX := Lib.hid (fun k (h : at_ + k < s.size) => (by
    rw [hd, List.getElem?_drop, List.getElem?_eq_getElem (by rw [size_list]; exact h)]
    rfl : d[k]? = some s[at_ + k]))
  have HDg := Lib.hid (fun (c : UInt8) w => rdigit_c (c.toNat : Int) w (by omega) (by have := c.toNat_lt; omega))
  have HHas := Lib.hid (fun (c : UInt8) w => (by exact rhas_c (S abcL) c (by decide) w : Calls Tryz.prog 79 #[.string ⟨#[97, 98, 99, 100, 101, 102, 65, 66, 67, 68, 69, 70]⟩, .int .u8 (c.toNat : Int)] w fun e w' => e = .returned (.bool (hasB abcL c)) ∧ w = w'))
  rw [← hd]
  clear hd
  have hai : (0 : Int) ≤ (at_ : Int) := by omega
  obtain ⟨base, hb⟩ : ∃ base : Int, base = (if hex then 16 else 10) := ⟨_, rfl⟩
  rw [← hb]
  have HB := Lib.hid hb
  have HL := Lib.hid hdl
  clear hb hdl
  go_enter Tryz.func56, Tryz.ntmps56
  go_wp2_with fail
  go_loop [7] (fun n => ∃ k : Nat, at_ + k ≤ s.size ∧ n = .int .i64 k ∧ Hid ((d.take k).all (digB base) = true)) (fun n => s.size - at_ - (intOf n).toNat)
  case atStart => exact ⟨0, by omega, rfl, by show _ = _; simp⟩
  case round =>
    obtain ⟨k, hk, rfl, hall⟩ := hrel
    have i0 : (0 : Int) ≤ (k : Int) := by omega
    have i1 : ((at_ : Int) + (k : Int)).toNat = at_ + k := by omega
    by_cases hlt : at_ + k < s.size
    · have i2 : (at_ : Int) + (k : Int) < (s.size : Int) := by omega
      have hx := HX.out k hlt
      have hdg := HDg.out (s[at_ + k]) w
      have hha := HHas.out (s[at_ + k]) w
      have hcn : (s[at_ + k].toNat : Int) ≤ 255 := by have := s[at_ + k].toNat_lt; omega
      cases hq : digitI (s[at_ + k].toNat : Int) with
      | true =>
        have HN : Hid ((d.take (k + 1)).all (digB base) = true) := all_next hall.out hx (by
          rw [HB.out]
          cases hex with
          | true => rw [if_pos rfl, dig16, hq]; rfl
          | false => rw [if_neg (by simp), dig10, hq])
        rw [hq] at hdg
        clear hq hx hha
        go_wp2_with (first | (go_at_call 78; refine hdg.mono ?_; rintro e w' ⟨rfl, rfl⟩))
        go_round
        case rel => exact ⟨k + 1, by omega, by go_num, HN⟩
        case measure => simp [intOf]; omega
      | false =>
        rw [hq] at hdg
        cases hex with
        | false =>
          have HR : Hid (runN base d = k) := runN_is hall.out (.inr ⟨_, hx, by rw [HB.out, if_neg (by simp), dig10, hq]⟩)
          clear hq hx hha
          go_wp2_with (first | (go_at_call 78; refine hdg.mono ?_; rintro e w' ⟨rfl, rfl⟩))
          go_ret
          exact ⟨by rw [HR.out]; rfl, rfl⟩
        | true =>
          cases hq2 : hasB abcL (s[at_ + k]) with
          | true =>
            have HN : Hid ((d.take (k + 1)).all (digB base) = true) := all_next hall.out hx (by rw [HB.out, if_pos rfl, dig16, hq, hq2]; rfl)
            rw [hq2] at hha
            clear hq hq2 hx
            go_wp2_with (first
              | (go_at_call 78; refine hdg.mono ?_; rintro e w' ⟨rfl, rfl⟩)
              | (go_at_call 79; refine hha.mono ?_; rintro e w' ⟨rfl, rfl⟩))
            go_round
            case rel => exact ⟨k + 1, by omega, by go_num, HN⟩
            case measure => simp [intOf]; omega
          | false =>
            have HR : Hid (runN base d = k) := runN_is hall.out (.inr ⟨_, hx, by rw [HB.out, if_pos rfl, dig16, hq, hq2]; rfl⟩)
            rw [hq2] at hha
            clear hq hq2 hx
            go_wp2_with (first
              | (go_at_call 78; refine hdg.mono ?_; rintro e w' ⟨rfl, rfl⟩)
              | (go_at_call 79; refine hha.mono ?_; rintro e w' ⟨rfl, rfl⟩))
            go_ret
            exact ⟨by rw [HR.out]; rfl, rfl⟩
    · have i2 : decide ((at_ : Int) + (k : Int) < (s.size : Int)) = false := decide_eq_false (by omega)
      have HR : Hid (runN base d = k) := runN_is hall.out (.inl (by have := HL.out; omega))
      go_wp2_with fail
      go_ret
      exact ⟨by rw [HR.out]; rfl, rfl⟩

set_option maxHeartbeats 4000000 in
set_option maxRecDepth 100000 in
/-- Contract of the page's number, of at most seven digits. -/
theorem rnumber_c (l : List UInt8) (b : Nat) (hb : b = 10 ∨ b = 16) (hl : l.length ≤ 7) (hd : l.all (digB b) = true) (w : World) :
    Calls Tryz.prog 57 #[.string (S l), .int .i64 (b : Int)] w fun e w' => e = .returned (.int .i64 (valB b l : Nat)) ∧ w = w' := by
  have hz : ((S l).size : Int) = (l.length : Int) := by rw [size_S]
  have H1 := Lib.hid (fun k (h : k < l.length) => cutOne l k h)
  have HD := Lib.hid (fun k (h : k < l.length) => (of_decide_eq_true (List.all_eq_true.1 hd l[k] (List.getElem_mem h)) : 0 ≤ hx l[k] ∧ hx l[k] < (b : Int)))
  have HU := Lib.hid (fun (c : UInt8) (hc : 0 ≤ hx c) w => rone_c c hc w)
  have HV := Lib.hid (fun k (h : k < l.length) => (by rw [List.take_succ_eq_append_getElem h, valB_snoc] : valB b (l.take (k + 1)) = valB b (l.take k) * b + (hx l[k]).toNat))
  have hli : (l.length : Int) ≤ 7 := by omega
  generalize S l = L at hz H1
  clear hd
  rcases hb with rfl | rfl
  · show Calls Tryz.prog 57 #[.string L, .int .i64 10] w _
    go_enter Tryz.func57, Tryz.ntmps57
    go_wp2_with fail
    go_loop [5, 6] (fun n i => ∃ k : Nat, k ≤ l.length ∧ i = .int .i64 k ∧ n = .int .i64 (valB 10 (l.take k) : Nat)) (fun _ i => l.length - (intOf i).toNat)
    case atStart => exact ⟨0, Nat.zero_le _, rfl, rfl⟩
    case round =>
      obtain ⟨k, hk, rfl, rfl⟩ := hrel
      by_cases hlt : k < l.length
      · obtain ⟨d0, d1⟩ := HD.out k hlt
        have h1 := H1.out k hlt
        have hu := HU.out l[k] d0 w
        have hv := valB_small 10 (by omega) l k hl
        have HE : Hid ((valB 10 (l.take (k + 1)) : Int) = (valB 10 (l.take k) : Int) * 10 + hx l[k]) := by
          show _ = _
          rw [HV.out k hlt]
          push_cast
          rw [Int.toNat_of_nonneg d0]
        generalize hx l[k] = d at d0 d1 hu HE
        generalize l[k] = c at h1 hu
        generalize S [c] = C at h1 hu
        generalize valB 10 (l.take k) = v at hv HE
        have i0 : (0 : Int) ≤ (k : Int) := by omega
        have i1 : (k : Int) < (l.length : Int) := by omega
        have i2 : (k : Int) + 1 ≤ (l.length : Int) := by omega
        have i3 : (k : Int) ≤ (k : Int) + 1 := by omega
        have i4 : ((k : Int) + 1).toNat = k + 1 := by omega
        go_wp2_with (first | (go_at_call 80; refine hu.mono ?_; rintro e w' ⟨rfl, rfl⟩))
        go_round
        case rel => exact ⟨k + 1, by omega, by go_num, by rw [HE.out]⟩
        case measure => simp [intOf]; omega
      · have hkl : k = l.length := by omega
        subst hkl
        have HE : Hid (valB 10 (l.take l.length) = valB 10 l) := by show _ = _; rw [List.take_length]
        rw [HE.out]
        go_wp2_with fail
        go_ret
        exact ⟨rfl, rfl⟩
  · show Calls Tryz.prog 57 #[.string L, .int .i64 16] w _
    go_enter Tryz.func57, Tryz.ntmps57
    go_wp2_with fail
    go_loop [5, 6] (fun n i => ∃ k : Nat, k ≤ l.length ∧ i = .int .i64 k ∧ n = .int .i64 (valB 16 (l.take k) : Nat)) (fun _ i => l.length - (intOf i).toNat)
    case atStart => exact ⟨0, Nat.zero_le _, rfl, rfl⟩
    case round =>
      obtain ⟨k, hk, rfl, rfl⟩ := hrel
      by_cases hlt : k < l.length
      · obtain ⟨d0, d1⟩ := HD.out k hlt
        have h1 := H1.out k hlt
        have hu := HU.out l[k] d0 w
        have hv := valB_small 16 (by omega) l k hl
        have HE : Hid ((valB 16 (l.take (k + 1)) : Int) = (valB 16 (l.take k) : Int) * 16 + hx l[k]) := by
          show _ = _
          rw [HV.out k hlt]
          push_cast
          rw [Int.toNat_of_nonneg d0]
        generalize hx l[k] = d at d0 d1 hu HE
        generalize l[k] = c at h1 hu
        generalize S [c] = C at h1 hu
        generalize valB 16 (l.take k) = v at hv HE
        have i0 : (0 : Int) ≤ (k : Int) := by omega
        have i1 : (k : Int) < (l.length : Int) := by omega
        have i2 : (k : Int) + 1 ≤ (l.length : Int) := by omega
        have i3 : (k : Int) ≤ (k : Int) + 1 := by omega
        have i4 : ((k : Int) + 1).toNat = k + 1 := by omega
        go_wp2_with (first | (go_at_call 80; refine hu.mono ?_; rintro e w' ⟨rfl, rfl⟩))
        go_round
        case rel => exact ⟨k + 1, by omega, by go_num, by rw [HE.out]⟩
        case measure => simp [intOf]; omega
      · have hkl : k = l.length := by omega
        subst hkl
        have HE : Hid (valB 16 (l.take l.length) = valB 16 l) := by show _ = _; rw [List.take_length]
        rw [HE.out]
        go_wp2_with fail
        go_ret
        exact ⟨rfl, rfl⟩
end Go.Proofs.YtidfcajhmldieaaGreat.Crf

/-
  Contracts of standsFor, beginsName and beginsNumber of package refs.
-/
namespace Go.Proofs.YtidfcajhmldieaaGreat.Crf
open Go.RowKit Go.Proofs.YtidfcajhmldieaaGreat.Oct Go.Proofs.YtidfcajhmldieaaGreat.Num Go.Proofs.YtidfcajhmldieaaGreat.Utf
open Go.Lib (encodeRune)

theorem nm0 : ∀ w, (Instr.index 88 namesV (.int .i64 0)).run Tryz.prog w = .ok (.agg #[.string ⟨#[97, 109, 112]⟩, .string ⟨#[38]⟩]) w := fun _ => by kernel_rfl
theorem nm1 : ∀ w, (Instr.index 88 namesV (.int .i64 1)).run Tryz.prog w = .ok (.agg #[.string ⟨#[108, 116]⟩, .string ⟨#[60]⟩]) w := fun _ => by kernel_rfl
theorem nm2 : ∀ w, (Instr.index 88 namesV (.int .i64 2)).run Tryz.prog w = .ok (.agg #[.string ⟨#[103, 116]⟩, .string ⟨#[62]⟩]) w := fun _ => by kernel_rfl
theorem nm3 : ∀ w, (Instr.index 88 namesV (.int .i64 3)).run Tryz.prog w = .ok (.agg #[.string ⟨#[113, 117, 111, 116]⟩, .string ⟨#[34]⟩]) w := fun _ => by kernel_rfl
theorem nm4 : ∀ w, (Instr.index 88 namesV (.int .i64 4)).run Tryz.prog w = .ok (.agg #[.string ⟨#[97, 112, 111, 115]⟩, .string ⟨#[39]⟩]) w := fun _ => by kernel_rfl

/-- The k-th name's word, and what it stands for. -/
def wordL : Nat → List UInt8
  | 0 => amp
  | 1 => lt'
  | 2 => gt'
  | 3 => quot
  | _ => apos
def wordS : Nat → List UInt8
  | 0 => [38]
  | 1 => [60]
  | 2 => [62]
  | 3 => [34]
  | _ => [39]
theorem nm (k : Nat) (h : k < 5) : ∀ w, (Instr.index 88 namesV (.int .i64 (k : Int))).run Tryz.prog w = .ok (.agg #[.string (S (wordL k)), .string (S (wordS k))]) w := by
  match k, h with
  | 0, _ => exact nm0
  | 1, _ => exact nm1
  | 2, _ => exact nm2
  | 3, _ => exact nm3
  | 4, _ => exact nm4
theorem name_word {l : List UInt8} {k : Nat} (hk : k < 5) (h : wordL k = l) : nameR l = wordS k := by
  subst h
  match k, hk with
  | 0, _ => decide
  | 1, _ => decide
  | 2, _ => decide
  | 3, _ => decide
  | 4, _ => decide
theorem wordS_ne (k : Nat) : wordS k ≠ [] := by
  unfold wordS
  split <;> simp
theorem name_no {l : List UInt8} (h : ∀ k, k < 5 → wordL k ≠ l) : nameR l = [] := by
  have h0 : l ≠ amp := fun e => h 0 (by omega) e.symm
  have h1 : l ≠ lt' := fun e => h 1 (by omega) e.symm
  have h2 : l ≠ gt' := fun e => h 2 (by omega) e.symm
  have h3 : l ≠ quot := fun e => h 3 (by omega) e.symm
  have h4 : l ≠ apos := fun e => h 4 (by omega) e.symm
  unfold nameR
  rw [if_neg h0, if_neg h1, if_neg h2, if_neg h3, if_neg h4]
theorem eqS (a b : List UInt8) {q : Bool} (h : decide (a = b) = q) : ((S a).toList == (S b).toList) = q := by rw [eqB, h]

set_option maxHeartbeats 4000000 in
set_option maxRecDepth 100000 in
theorem stands_c (l : List UInt8) (hl : l.length ≤ 4611686018427387904) (w : World) :
    Calls Tryz.prog 53 #[.string (S l)] w fun e w' => e = .returned (.string (S (refR l))) ∧ Below w.heap.size w w' := by
  have hnum := fun w => number_c l hl w
  have HC := Lib.hid (fun n w => character_c n w)
  have HN := Lib.hid (fun k h => nm k h)
  have HEq := Lib.hid (fun a {q} (h : decide (a = l) = q) => eqS a l h)
  obtain ⟨L, hL⟩ : ∃ L, L = S l := ⟨_, rfl⟩
  rw [← hL] at hnum HEq ⊢
  clear hL
  go_enter Tryz.func53, Tryz.ntmps53
  go_wp2_with fail
  refine (names_c _).mono ?_
  rintro e w1 ⟨rfl, hb1⟩
  have HB1 := Lib.hid hb1
  clear hb1
  go_wp2_with fail
  go_loopw [8] (fun i wr => ∃ k : Nat, k ≤ 5 ∧ i = .int .i64 k ∧ Hid ((∀ j, j < k → wordL j ≠ l) ∧ Below w.heap.size w wr)) (fun i _ => 5 - (intOf i).toNat)
  case atStart => exact ⟨0, Nat.zero_le _, rfl, fun j h => absurd h (by omega), HB1.out⟩
  case round =>
    obtain ⟨k, hk, rfl, hr⟩ := hrel
    by_cases hlt : k < 5
    · have hi := HN.out k hlt
      have i0 : (0 : Int) ≤ (k : Int) := by omega
      have i1 : (k : Int) < 5 := by omega
      by_cases hw : wordL k = l
      · have hq := HEq.out (wordL k) (decide_eq_true hw)
        have HR : Hid (refR l = wordS k) := by
          show _ = _
          have := name_word hlt hw
          unfold refR
          rw [if_pos (by rw [this]; exact wordS_ne k), this]
        generalize S (wordL k) = W1 at hi hq
        generalize hW2 : S (wordS k) = W2 at hi
        have HW2 := Lib.hid hW2
        clear hW2 hw
        go_wp2_with fail
        go_ret
        exact ⟨by rw [HR.out, HW2.out]; rfl, hr.out.2.alloc hr.out.2.size _⟩
      · have hq := HEq.out (wordL k) (decide_eq_false hw)
        have HNW := Lib.hid hw
        generalize hW1 : S (wordL k) = W1 at hi hq
        generalize S (wordS k) = W2 at hi
        clear hW1 hw
        go_wp2_with fail
        go_roundw
        case rel => exact ⟨k + 1, by omega, by go_num, fun j hj => by
          rcases Nat.lt_or_ge j k with h | h
          · exact hr.out.1 j h
          · obtain rfl : j = k := by omega
            exact HNW.out, hr.out.2.alloc hr.out.2.size _⟩
        case measure => simp [intOf]; omega
    · obtain rfl : k = 5 := by omega
      have HNN : Hid (nameR l = []) := name_no hr.out.1
      cases hk2 : numR l with
      | none =>
        have e : numA l = (0, -1) := by unfold numA; rw [hk2]
        have HR : Hid (refR l = []) := by
          show _ = _
          unfold refR
          rw [HNN.out, hk2]; rfl
        rw [e] at hnum
        clear hk2 e
        go_wp2_with fail
        refine (hnum _).mono ?_
        rintro e w2 ⟨rfl, hb2⟩
        go_wp2_with fail
        go_ret
        exact ⟨by rw [HR.out]; rfl, hr.out.2.trans (hb2.mono hr.out.2.size)⟩
      | some q =>
        obtain ⟨n, d⟩ := q
        have e : numA l = ((n : Int), (d : Int)) := by unfold numA; rw [hk2]
        rw [e] at hnum
        by_cases hd : d = 0
        · have HR : Hid (refR l = []) := by
            show _ = _
            unfold refR
            rw [HNN.out, hk2, hd]; rfl
          subst hd
          clear hk2 e
          go_wp2_with fail
          refine (hnum _).mono ?_
          rintro e w2 ⟨rfl, hb2⟩
          go_wp2_with fail
          go_ret
          exact ⟨by rw [HR.out]; rfl, hr.out.2.trans (hb2.mono hr.out.2.size)⟩
        · have HR : Hid (refR l = standL n) := by
            show _ = _
            unfold refR
            rw [HNN.out, hk2]
            simp [hd]
          have d1 : ((d : Int) == -1) = false := by simp
          have d0 : ((d : Int) == 0) = false := by simp; exact hd
          have hch := fun w => HC.out n w
          generalize hC0 : S (standL n) = C at hch
          have HC0 := Lib.hid hC0
          clear hC0 hk2 e hd
          generalize (n : Int) = n' at hnum hch
          generalize (d : Int) = d' at hnum d0 d1
          go_wp2_with fail
          refine (hnum _).mono ?_
          rintro e w2 ⟨rfl, hb2⟩
          go_wp2_with fail
          refine (hch _).mono ?_
          rintro e w3 ⟨rfl, hb3⟩
          go_wp2_with fail
          go_ret
          exact ⟨by rw [HR.out, HC0.out]; rfl, (hr.out.2.trans (hb2.mono hr.out.2.size)).trans (hb3.mono (Nat.le_trans hr.out.2.size hb2.size))⟩

/-! ### beginsName, beginsNumber -/
theorem prefix_word (k : Nat) (l : List UInt8) : Lib.hasPrefix (wordL k) l = true ↔ l <+: wordL k := pre_iff _ _
theorem beg_yes {k : Nat} {l : List UInt8} (hk : k < 5) (h : Lib.hasPrefix (wordL k) l = true) : begName l = true := by
  have h := (prefix_word k l).1 h
  refine decide_eq_true ?_
  match k, hk, h with
  | 0, _, h => exact .inl h
  | 1, _, h => exact .inr (.inl h)
  | 2, _, h => exact .inr (.inr (.inl h))
  | 3, _, h => exact .inr (.inr (.inr (.inl h)))
  | 4, _, h => exact .inr (.inr (.inr (.inr h)))
theorem beg_no {l : List UInt8} (h : ∀ k, k < 5 → Lib.hasPrefix (wordL k) l = false) : begName l = false := by
  refine decide_eq_false ?_
  have n : ∀ k, k < 5 → ¬ l <+: wordL k := fun k hk hp => by
    have := h k hk
    rw [(prefix_word k l).2 hp] at this
    cases this
  rintro (h | h | h | h | h)
  · exact n 0 (by omega) h
  · exact n 1 (by omega) h
  · exact n 2 (by omega) h
  · exact n 3 (by omega) h
  · exact n 4 (by omega) h

end Go.Proofs.YtidfcajhmldieaaGreat.Crf

/-
  Contracts of read, One and Unfinished of package refs.
-/
namespace Go.Proofs.YtidfcajhmldieaaGreat.Crf
open Go.RowKit Go.Proofs.YtidfcajhmldieaaGreat.Oct Go.Proofs.YtidfcajhmldieaaGreat.Num Go.Proofs.YtidfcajhmldieaaGreat.Utf
open Go.Lib (encodeRune)

theorem amp_head (l : List UInt8) : Lib.hasPrefix l [38] = decide (l.head? = some 38) := by
  cases l with
  | nil => rfl
  | cons a l =>
    by_cases h : a = 38
    · subst h; rfl
    · simp [Lib.hasPrefix, List.isPrefixOf, h, Ne.symm h]
theorem amp_trim (l : List UInt8) : Lib.trimPrefix l [38] = if l.head? = some 38 then l.tail else l := by
  unfold Lib.trimPrefix
  rw [amp_head]
  by_cases h : l.head? = some 38
  · simp [h]
  · simp [h]
theorem cutAmp_c (l : List UInt8) (w : World) : Calls Tryz.prog 45 #[.string (S l), .string ⟨#[38]⟩] w fun e w' => e = .returned (.tuple #[.string (S (if l.head? = some 38 then l.tail else l)), .bool (decide (l.head? = some 38))]) ∧ w' = w := by
  have := Tryz.strings_CutPrefix (S l) (S [38]) w
  rw [list_S, list_S, amp_head, amp_trim] at this
  exact this

/-- What read makes of what stands behind the & (r: at most ten octets). -/
def oneR (r : List UInt8) : List UInt8 × Nat := if 59 ∈ r ∧ refR (innerOf r) ≠ [] then (refR (innerOf r), (innerOf r).length + 2) else ([], 0)
theorem one_amp {l : List UInt8} (h : l.head? = some 38) : oneL l = oneR (l.tail.take 10) := by
  cases l with
  | nil => cases h
  | cons a t =>
    rw [List.head?_cons] at h
    injection h with h
    subst h
    rfl

set_option maxHeartbeats 4000000 in
set_option maxRecDepth 100000 in
/-- What stands behind the cut at the &: whatever begins. -/
theorem read_c (l : List UInt8) (hl : l.length ≤ 4611686018427387904) (w : World) :
    Calls Tryz.prog 39 #[.string (S l)] w fun e w' => e = .returned (.tuple #[.string (S (oneL l).1), .int .i64 ((oneL l).2 : Int)]) ∧ Below w.heap.size w w' := by
  obtain ⟨m, hm⟩ : ∃ m, m = min l.length 11 := ⟨_, rfl⟩
  have hcutS : (S l).extract 0 m = S (l.take m) := by rw [cutTo, list_S]
  have hmin : min ((S l).size : Int) 11 = (m : Int) := by rw [size_S, hm]; omega
  have hm0 : (0 : Int) ≤ (m : Int) := by omega
  have hm1 : (m : Int) ≤ ((S l).size : Int) := by rw [size_S]; omega
  have hcp := fun w => cutAmp_c (l.take m) w
  have hhd : (l.take m).head? = l.head? := by
    cases l with
    | nil => rw [List.take_nil]
    | cons a t =>
      have : m = (m - 1) + 1 := by rw [List.length_cons] at hm; omega
      rw [this, List.take_succ_cons]
      rfl
  rw [hhd] at hcp
  obtain ⟨r, hr⟩ : ∃ r, r = (if l.head? = some 38 then (l.take m).tail else l.take m) := ⟨_, rfl⟩
  rw [← hr] at hcp
  have hrl : r.length ≤ 11 := by
    rw [hr]
    split
    · rw [List.length_tail, List.length_take]; omega
    · rw [List.length_take]; omega
  have hO : Hid (l.head? = some 38 → oneL l = oneR r) := fun h => by
    have e : r = l.tail.take 10 := by
      rw [hr, if_pos h]
      cases l with
      | nil => cases h
      | cons a t =>
        rw [hm, List.length_cons, List.tail_cons]
        by_cases ht : t.length ≤ 10
        · rw [List.take_of_length_le (by rw [List.length_cons]; omega), List.take_of_length_le ht]; rfl
        · rw [show min (t.length + 1) 11 = 10 + 1 by omega, List.take_succ_cons]; rfl
    rw [one_amp h, e]
  have hO0 : Hid (l.head? ≠ some 38 → oneL l = ([], 0)) := one_none_head
  have HS := Lib.hid (fun i (h : i.length ≤ 11) w => stands_c i (by omega) w)
  have key : ∀ (i : List UInt8) (hi : i.length ≤ 11), Hid (∀ w, Calls Tryz.prog 53 #[.string (S i)] w fun e w' => e = .returned (.string (S (refR i))) ∧ Below w.heap.size w w') := fun i hi w => HS.out i hi w
  clear hhd hm hr
  generalize hL : S l = L at hcutS hmin hm1
  have HL := Lib.hid hL
  have hcutL := hcutS
  generalize l.take m = lm at hcutL hcutS hcp
  generalize S lm = LM at hcutL hcutS hcp
  clear hL hcutS
  -- is there an end
  by_cases h59 : 59 ∈ r
  · have hct := fun w => cut_yes r h59 (by omega) w
    have hil := inner_len r h59
    have hin := (key (innerOf r) (by omega)).out
    have hisz : ((S (innerOf r)).size : Int) = ((innerOf r).length : Int) := by rw [size_S]
    have hlen : ((innerOf r).length : Int) ≤ 11 := by omega
    have H59 := Lib.hid h59
    generalize S (r.drop ((innerOf r).length + 1)) = R2 at hct
    generalize hI : S (innerOf r) = I at hct hin hisz
    generalize hR : S r = R at hcp hct
    by_cases hok : l.head? = some 38
    · have hO1 : Hid (oneL l = oneR r) := hO.out hok
      rw [decide_eq_true hok] at hcp
      by_cases hst : refR (innerOf r) = []
      · have HE : Hid (oneL l = ([], 0)) := by
          show _ = _
          rw [hO1.out]; unfold oneR; rw [if_neg (fun h => h.2 hst)]
        rw [hst] at hin
        clear h59 hil hI hR hok hst hlen
        generalize (innerOf r).length = il at hisz
        go_enter Tryz.func39, Tryz.ntmps39
        go_wp2_with fail
        refine (hcp _).mono ?_
        rintro e w1 ⟨rfl, rfl⟩
        go_wp2_with fail
        refine (hct _).mono ?_
        rintro e w2 ⟨rfl, hb2⟩
        go_wp2_with fail
        refine (hin _).mono ?_
        rintro e w3 ⟨rfl, hb3⟩
        go_wp2_with fail
        go_ret2
        exact ⟨by rw [HE.out]; rfl, hb2.trans (hb3.mono hb2.size)⟩
      · have HE : Hid (oneL l = (refR (innerOf r), (innerOf r).length + 2)) := by
          show _ = _
          rw [hO1.out]; unfold oneR; rw [if_pos ⟨h59, hst⟩]
        have hne : (S (refR (innerOf r))).toList.isEmpty = false := by
          rw [ByteArray.toList_eq, list_S, List.isEmpty_eq_false_iff]; exact hst
        generalize hst2 : S (refR (innerOf r)) = ST at hin hne
        have HST := Lib.hid hst2
        clear h59 hil hI hR hok hst hst2
        generalize hilq : (innerOf r).length = il at hisz hlen
        have HIL := Lib.hid hilq
        clear hilq
        go_enter Tryz.func39, Tryz.ntmps39
        go_wp2_with fail
        refine (hcp _).mono ?_
        rintro e w1 ⟨rfl, rfl⟩
        go_wp2_with fail
        refine (hct _).mono ?_
        rintro e w2 ⟨rfl, hb2⟩
        go_wp2_with fail
        refine (hin _).mono ?_
        rintro e w3 ⟨rfl, hb3⟩
        go_wp2_with fail
        go_ret2
        refine ⟨?_, hb2.trans (hb3.mono hb2.size)⟩
        rw [HE.out, ← HST.out, HIL.out]
        exact congrArg (fun z => Ending.returned (.tuple #[.string (S (refR (innerOf r))), .int .i64 z])) (by omega : (1 : Int) + (il : Int) + 1 = ((il + 2 : Nat) : Int))
    · have HE : Hid (oneL l = ([], 0)) := hO0.out hok
      rw [decide_eq_false hok] at hcp
      generalize S (refR (innerOf r)) = ST at hin
      clear h59 hil hI hR hok hlen
      generalize (innerOf r).length = il at hisz
      go_enter Tryz.func39, Tryz.ntmps39
      go_wp2_with fail
      refine (hcp _).mono ?_
      rintro e w1 ⟨rfl, rfl⟩
      go_wp2_with fail
      refine (hct _).mono ?_
      rintro e w2 ⟨rfl, hb2⟩
      go_wp2_with fail
      refine (hin _).mono ?_
      rintro e w3 ⟨rfl, hb3⟩
      go_wp2_with fail
      go_ret2
      exact ⟨by rw [HE.out]; rfl, hb2.trans (hb3.mono hb2.size)⟩
  · have hct := fun w => cut_no r h59 w
    have hin := (key r hrl).out
    have HE : Hid (oneL l = ([], 0)) := by
      show _ = _
      by_cases hok : l.head? = some 38
      · rw [hO.out hok]; unfold oneR; rw [if_neg (fun h => h59 h.1)]
      · exact hO0.out hok
    generalize S (refR r) = ST at hin
    generalize S r = R at hcp hct hin
    clear h59
    cases hok : decide (l.head? = some 38) with
    | true =>
      rw [hok] at hcp
      clear hok
      go_enter Tryz.func39, Tryz.ntmps39
      go_wp2_with fail
      refine (hcp _).mono ?_
      rintro e w1 ⟨rfl, rfl⟩
      go_wp2_with fail
      refine (hct _).mono ?_
      rintro e w2 ⟨rfl, hb2⟩
      go_wp2_with fail
      refine (hin _).mono ?_
      rintro e w3 ⟨rfl, hb3⟩
      go_wp2_with fail
      go_ret2
      exact ⟨by rw [HE.out]; rfl, hb2.trans (hb3.mono hb2.size)⟩
    | false =>
      rw [hok] at hcp
      clear hok
      go_enter Tryz.func39, Tryz.ntmps39
      go_wp2_with fail
      refine (hcp _).mono ?_
      rintro e w1 ⟨rfl, rfl⟩
      go_wp2_with fail
      refine (hct _).mono ?_
      rintro e w2 ⟨rfl, hb2⟩
      go_wp2_with fail
      refine (hin _).mono ?_
      rintro e w3 ⟨rfl, hb3⟩
      go_wp2_with fail
      go_ret2
      exact ⟨by rw [HE.out]; rfl, hb2.trans (hb3.mono hb2.size)⟩

theorem stand_len (n : Nat) : (standL n).length ≤ 4 := by
  unfold standL
  split
  · exact (enc_len (n : Int)).2
  · simp
theorem ref_len (l : List UInt8) : (refR l).length ≤ 4 := by
  unfold refR
  split
  · rename_i h
    rcases name_cases h with rfl | rfl | rfl | rfl | rfl <;> decide
  · cases numR l with
    | none => simp
    | some q =>
      obtain ⟨n, d⟩ := q
      simp only
      split
      · simp
      · exact stand_len n
theorem one_slen (l : List UInt8) : (oneL l).1.length ≤ 4 := by
  by_cases h : (oneL l).2 = 0
  · rw [one_zero h]; simp
  · obtain ⟨i, t, _, _, e⟩ := one_some h
    rw [e]
    exact ref_len i

end Go.Proofs.YtidfcajhmldieaaGreat.Crf
