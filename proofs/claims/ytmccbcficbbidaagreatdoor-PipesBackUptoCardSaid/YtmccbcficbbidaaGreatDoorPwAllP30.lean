/-
  Part 30: PwMay, PwCheck, PwLawC.
-/
import Derived.Test.YtmccbcficbbidaaGreatDoorPwAllP29
import Derived.Test.YtmccbcficbbidaaGreatDoorPwAllP15
import Derived.Test.YtmccbcficbbidaaGreatDoorPwAllP28
import Derived.Test.YtmccbcficbbidaaGreatDoorPwAllP25
import Derived.Test.YtmccbcficbbidaaGreatDoorPwAllP27
/-
  Contract of the page's pipelines: May.
-/
namespace Go.Proofs.YtmccbcficbbidaaGreatDoor.Pw
open Go.RowKit Go.Proofs.YtmccbcficbbidaaGreatDoor.Oct Go.Proofs.YtmccbcficbbidaaGreatDoor.Lex Go.Proofs.YtmccbcficbbidaaGreatDoor.Lxw Go.Proofs.YtmccbcficbbidaaGreatDoor.Pip

theorem mayC_eq (k : Nat) (c : Ca) : mayC k c = (c.as.all mayA && fitsB c.n c.as.length k) := by
  unfold mayC fitsB
  congr 1
theorem mayF_no (cs : List Ca) : ∀ k i (h : i < cs.length), mayC (k + i) cs[i] = false → mayF k cs = false := by
  induction cs with
  | nil => intro k i h; exact absurd h (by simp)
  | cons c t ih =>
    intro k i h hb
    rw [show mayF k (c :: t) = (mayC k c && mayF (k + 1) t) from rfl]
    cases i with
    | zero =>
      rw [show mayC k c = false from hb]; rfl
    | succ i =>
      rw [ih (k + 1) i (by simpa using h) (by rw [show k + 1 + i = k + (i + 1) from by omega]; exact hb), Bool.and_false]
theorem mayF_ok (cs : List Ca) : ∀ k, (∀ i (h : i < cs.length), mayC (k + i) cs[i] = true) → mayF k cs = true := by
  induction cs with
  | nil => intro k _; rfl
  | cons c t ih =>
    intro k h
    rw [show mayF k (c :: t) = (mayC k c && mayF (k + 1) t) from rfl, show mayC k c = true from h 0 (by simp), Bool.true_and]
    refine ih (k + 1) fun i hi => ?_
    have := h (i + 1) (by simpa using hi)
    rw [show k + 1 + i = k + (i + 1) from by omega]
    exact this
theorem mayP_no {cs : List Ca} {i : Nat} (h : i < cs.length) (hb : mayC i cs[i] = false) : mayP cs = false := by
  unfold mayP
  rw [mayF_no cs 0 i h (by rw [Nat.zero_add]; exact hb), Bool.and_false]
theorem mayP_ok {cs : List Ca} (h1 : 1 ≤ cs.length) (h2 : cs.length ≤ 16) (h : ∀ i (h : i < cs.length), mayC i cs[i] = true) : mayP cs = true := by
  unfold mayP
  rw [mayF_ok cs 0 (fun i hi => by rw [Nat.zero_add]; exact h i hi), decide_eq_true ⟨h1, h2⟩]
  rfl
theorem mayP_len {cs : List Ca} (h : ¬ (1 ≤ cs.length ∧ cs.length ≤ 16)) : mayP cs = false := by
  unfold mayP
  rw [decide_eq_false h, Bool.false_and]
theorem fits_nil (n k : Nat) : fitsB [] n k = decide (k = 0 ∧ n = 1) := by unfold fitsB; rw [if_pos rfl]
theorem fits_none {s : List UInt8} (n k : Nat) (h : s ≠ []) (ha : arityL s = none) : fitsB s n k = false := by unfold fitsB; rw [if_neg h, ha]
theorem fits_zero {s : List UInt8} {a b : Nat} (n : Nat) (h : s ≠ []) (ha : arityL s = some (a, b)) : fitsB s n 0 = decide (a ≤ n ∧ n ≤ b) := by unfold fitsB; rw [if_neg h, ha]; rfl
theorem fits_more {s : List UInt8} {a b : Nat} (n : Nat) {k : Nat} (h : s ≠ []) (ha : arityL s = some (a, b)) (hk : 0 < k) : fitsB s n k = decide (a ≤ n + 1 ∧ n + 1 ≤ b) := by unfold fitsB; rw [if_neg h, ha]; simp only [if_pos hk]
theorem arity_le {s : List UInt8} {a b : Nat} (h : arityL s = some (a, b)) : 1 ≤ a ∧ a ≤ 2 ∧ b ≤ 8 := by
  unfold arityL at h
  repeat' split at h
  all_goals first | (injection h with h; injection h with h1 h2; omega) | exact absurd h (by simp)
/-- Lengths of a pipeline and of all in it. -/
def SzM (cs : List Ca) : Prop := cs.length ≤ 9223372036854775807 ∧ ∀ c ∈ cs, c.as.length ≤ 9223372036854775807 ∧ ∀ a ∈ c.as, SzR a
set_option maxHeartbeats 4000000 in
set_option maxRecDepth 100000 in
theorem rmay_c {v : Value} {cs : List Ca} (hs : SzM cs) (w : World) (hv : CallIn w v cs) :
    Calls Tryz.prog 9 #[v] w fun e w' => e = .returned (.bool (mayP cs)) ∧ Below w.heap.size w w' := by
  obtain ⟨pa, ca, rfl, ha⟩ := hv
  obtain ⟨n, hn⟩ : ∃ n, n = cs.length := ⟨_, rfl⟩
  have HA := Lib.hid ha
  have HN := Lib.hid hn
  have hn60 : n ≤ 9223372036854775807 := by rw [hn]; exact hs.1
  have HZ := Lib.hid hs.2
  have HP1 : Hid (¬ (1 ≤ n ∧ n ≤ 16) → mayP cs = false) := fun h => mayP_len (by rw [← hn]; exact h)
  have HOk : Hid (1 ≤ n → n ≤ 16 → (∀ i (h : i < cs.length), mayC i cs[i] = true) → mayP cs = true) := fun h1 h2 h => mayP_ok (by rw [← hn]; exact h1) (by rw [← hn]; exact h2) h
  have HNo : Hid (∀ i (h : i < cs.length), mayC i cs[i] = false → mayP cs = false) := fun i h hb => mayP_no h hb
  have HArg : Hid (∀ (a : Ar) (va : Value) (W : World), SzR a → PathIn W va a.p → Calls Tryz.prog 23 #[arV a va] W fun e w' => e = .returned (.bool (mayA a)) ∧ Below W.heap.size W w') := fun a va W h1 h2 => rargMay_c h1 W h2
  generalize mayP cs = ans at HP1 HOk HNo ⊢
  rw [← hn]
  clear ha hn hs
  have n60 : (n : Int) ≤ 9223372036854775807 := by omega
  by_cases h1 : n < 1
  · have d1 : decide ((n : Int) < 1) = true := decide_eq_true (by omega)
    have d2 : decide (n < 1) = true := decide_eq_true h1
    have HE := Lib.hid (HP1.out (by omega))
    go_enter Tryz.func9, Tryz.ntmps9
    go_wp2_with fail
    go_ret
    exact ⟨by rw [HE.out]; rfl, Below.refl _ _⟩
  have d1 : decide ((n : Int) < 1) = false := decide_eq_false (by omega)
  have d2 : decide (n < 1) = false := decide_eq_false h1
  by_cases h16 : 16 < n
  · have d3 : decide ((16 : Int) < (n : Int)) = true := decide_eq_true (by omega)
    have d4 : decide (16 < n) = true := decide_eq_true h16
    have HE := Lib.hid (HP1.out (by omega))
    go_enter Tryz.func9, Tryz.ntmps9
    go_wp2_with fail
    go_ret
    exact ⟨by rw [HE.out]; rfl, Below.refl _ _⟩
  have d3 : decide ((16 : Int) < (n : Int)) = false := decide_eq_false (by omega)
  have d4 : decide (16 < n) = false := decide_eq_false h16
  go_enter Tryz.func9, Tryz.ntmps9
  go_wp2_with fail
  clear d1 d2 d3 d4
  go_loopw [3] (fun iv wr => ∃ i : Nat, i ≤ n ∧ iv = .int .i64 i ∧ Hid (∀ m (h : m < cs.length), m < i → mayC m cs[m] = true) ∧ Hid (Below w.heap.size w wr)) (fun iv _ => n - (intOf iv).toNat)
  case atStart => exact ⟨0, Nat.zero_le _, rfl, fun m _ hm => absurd hm (Nat.not_lt_zero m), Below.refl _ _⟩
  case round =>
    obtain ⟨i, hi, rfl, hT, hW⟩ := hrel
    have i0 : (0 : Int) ≤ (i : Int) := by omega
    by_cases hlt : i < n
    · have hd : decide ((i : Int) < (n : Int)) = true := decide_eq_true (by omega)
      have hd2 : decide (i < n) = true := decide_eq_true hlt
      have i2 : (i : Int) < (n : Int) := by omega
      have hl1 : i < cs.length := by rw [← HN.out]; exact hlt
      obtain ⟨b1, o1, rfl, hat1⟩ := HA.out (by rw [← HN.out]; omega)
      obtain ⟨va, hc⟩ := hat1 i hl1
      have hzc := HZ.out cs[i] (List.getElem_mem hl1)
      have HNx : Hid (mayC i cs[i] = true → ∀ m (h : m < cs.length), m < i + 1 → mayC m cs[m] = true) := fun h m hm hmi => by
        rcases (by omega : m < i ∨ m = i) with h' | h'
        · exact hT.out m hm h'
        · subst h'; exact h
      have HBad := Lib.hid (HNo.out i hl1)
      generalize cs[i] = c at *
      obtain ⟨pc, cc, rfl, hca⟩ := hc.args
      have HC := Lib.hid (fun W (h : Below w.heap.size w W) => And.intro (some_up hc.c0 h) (some_up hc.c1 h))
      have HCa := Lib.hid hca
      obtain ⟨q0, q1⟩ := HC.out wr hW.out
      have hq := eqN c.n
      have har := fun W => rarity_c c.n W
      have HEq := Lib.hid (mayC_eq i c)
      clear hat1 hc hca hT
      obtain ⟨k, hk⟩ : ∃ k, k = c.as.length := ⟨_, rfl⟩
      have hk60 : k ≤ 9223372036854775807 := by rw [hk]; exact hzc.1
      rw [← hk] at q1
      have HK1 := Lib.hid hk
      have HZc := Lib.hid hzc.2
      have k0 : (0 : Int) ≤ (k : Int) := by omega
      have k60 : (k : Int) ≤ 9223372036854775807 := by omega
      have HAr := Lib.hid har
      have HQ := Lib.hid hq
      clear hk hzc har hq
      generalize S c.n = NM at *
      go_wp2_with fail
      clear q0 q1
      go_loopw [4] (fun jv w2 => ∃ j : Nat, j ≤ k ∧ jv = .int .i64 j ∧ Hid ((c.as.take j).all mayA = true) ∧ Hid (Below w.heap.size w w2)) (fun jv _ => k - (intOf jv).toNat)
      case atStart => exact ⟨0, Nat.zero_le _, rfl, rfl, hW.out⟩
      case round =>
        clear hW
        obtain ⟨j, hj, rfl, hT2, hW2⟩ := hrel
        have j0 : (0 : Int) ≤ (j : Int) := by omega
        obtain ⟨q0, q1⟩ := HC.out _ hW2.out
        rw [← HK1.out] at q1
        by_cases hjt : j < k
        · have jd : decide ((j : Int) < (k : Int)) = true := decide_eq_true (by omega)
          have jd2 : decide (j < k) = true := decide_eq_true hjt
          have j2 : (j : Int) < (k : Int) := by omega
          have hjl1 : j < c.as.length := by rw [← HK1.out]; exact hjt
          obtain ⟨b3, o3, rfl, hat3⟩ := HCa.out (by omega)
          obtain ⟨va, hA⟩ := hat3 j hjl1
          have hzp := HZc.out c.as[j] (List.getElem_mem hjl1)
          have HNj := Lib.hid (fun (h : mayA c.as[j] = true) => all_take2 hjl1 hT2.out h)
          have HNf : Hid (mayA c.as[j] = false → ans = false) := fun h => HBad.out (by rw [HEq.out, all_at2 hjl1 h, Bool.false_and])
          generalize c.as[j] = x at *
          obtain ⟨px, cx, rfl, hpx⟩ := hA.path
          have hcall := HArg.out x _ wr hzp (hA.path.up hW2.out)
          obtain ⟨_, x0, x1, x2, x3, x4⟩ := hA.up hW2.out
          replace hcall : Calls Tryz.prog 23 #[.agg #[.int .i64 x.k, .string (S x.n), .slice px x.p.length cx, .int .i64 x.i, .string (S x.x)]] wr fun e w' => e = .returned (.bool (mayA x)) ∧ Below wr.heap.size wr w' := hcall
          clear hat3 hA hpx
          go_wp2_with fail
          refine hcall.mono ?_
          clear hcall
          rintro e w4 ⟨rfl, hb4⟩
          have HB4 := Lib.hid (hW2.out.trans (hb4.mono hW2.out.size))
          clear hb4 x0 x1 x2 x3 x4 q0 q1
          cases hb : mayA x with
          | true =>
            have HN2 := Lib.hid (HNj.out hb)
            clear hb
            go_wp2_with fail
            go_roundw
            case rel => exact ⟨j + 1, by omega, by go_num, HN2.out, HB4.out⟩
            case measure => simp [intOf]; omega
          | false =>
            have HE := Lib.hid (HNf.out hb)
            clear hb
            go_wp2_with fail
            go_ret
            exact ⟨by rw [HE.out]; rfl, HB4.out⟩
        · obtain rfl : j = k := by omega
          have jd : decide ((j : Int) < (j : Int)) = false := decide_eq_false (by omega)
          have HFit : Hid (mayC i c = fitsB c.n j i) := by
            have hh := hT2.out
            rw [HK1.out, List.take_length] at hh
            show _ = _
            rw [HEq.out, hh, Bool.true_and, ← HK1.out]
          have hq := HQ.out
          have HYes : Hid (fitsB c.n j i = true → ∀ m (h : m < cs.length), m < i + 1 → mayC m cs[m] = true) := fun h => HNx.out (by rw [HFit.out]; exact h)
          have HNoF : Hid (fitsB c.n j i = false → ans = false) := fun h => HBad.out (by rw [HFit.out]; exact h)
          clear hT2 HFit HNx HBad HEq HQ
          by_cases hnm : c.n = []
          · rw [decide_eq_true hnm] at hq
            have HNm := Lib.hid hnm
            clear hnm
            by_cases h0 : i = 0
            · subst h0
              simp only [Nat.zero_mul, Nat.add_zero] at q0 q1
              by_cases hj1 : j = 1
              · subst hj1
                have HN2 := Lib.hid (HYes.out (by rw [HNm.out, fits_nil]; exact decide_eq_true (by omega)))
                clear HNoF HYes HAr HC
                go_wp2_with fail
                go_roundw
                case rel => exact ⟨0 + 1, by omega, by go_num, HN2.out, hW2.out⟩
                case measure => simp [intOf]; omega
              · have jn : ((j : Int) == 1) = false := by rw [beq_eq_false_iff_ne]; omega
                have jn2 : ¬ j = 1 := hj1
                have HE : Hid (ans = false) := HNoF.out (by rw [HNm.out, fits_nil]; exact decide_eq_false (by omega))
                clear HNoF HYes HAr HC
                go_wp2_with fail
                go_ret
                exact ⟨by rw [HE.out]; rfl, hW2.out⟩
            · have izi : decide ((0 : Int) < (i : Int)) = true := decide_eq_true (by omega)
              have izn : decide (0 < i) = true := decide_eq_true (by omega)
              have HE : Hid (ans = false) := HNoF.out (by rw [HNm.out, fits_nil]; exact decide_eq_false (by omega))
              clear HNoF HYes HAr HC
              go_wp2_with fail
              go_ret
              exact ⟨by rw [HE.out]; rfl, hW2.out⟩
          · rw [decide_eq_false hnm] at hq
            cases hA : arityL c.n with
            | none =>
              have har := HAr.out
              have e : arityE c.n = .tuple #[.int .i64 0, .int .i64 0, .bool false] := by unfold arityE; rw [hA]
              rw [e] at har
              clear e HAr
              have HNf2 := Lib.hid (fits_none j i hnm hA)
              by_cases h0 : i = 0
              · subst h0
                simp only [Nat.zero_mul, Nat.add_zero] at q0 q1
                have HE : Hid (ans = false) := HNoF.out (by exact HNf2.out)
                clear HNoF HYes hA HC
                go_wp2_with (go_at_call 24; refine (har _).mono ?_; rintro e w1 ⟨rfl, rfl⟩)
                go_ret
                exact ⟨by rw [HE.out]; rfl, hW2.out⟩
              · have izi : decide ((0 : Int) < (i : Int)) = true := decide_eq_true (by omega)
                have izn : decide (0 < i) = true := decide_eq_true (by omega)
                by_cases hmx : j ≤ 9223372036854775806
                · have HE : Hid (ans = false) := HNoF.out (by exact HNf2.out)
                  clear HNoF HYes hA HC
                  go_wp2_with (go_at_call 24; refine (har _).mono ?_; rintro e w1 ⟨rfl, rfl⟩)
                  go_ret
                  exact ⟨by rw [HE.out]; rfl, hW2.out⟩
                · obtain rfl : j = 9223372036854775807 := by omega
                  have HE : Hid (ans = false) := HNoF.out (by exact HNf2.out)
                  clear HNoF HYes hA HC
                  go_wp2_with (go_at_call 24; refine (har _).mono ?_; rintro e w1 ⟨rfl, rfl⟩)
                  go_ret
                  exact ⟨by rw [HE.out]; rfl, hW2.out⟩
            | some m =>
              obtain ⟨a, b⟩ := m
              have har := HAr.out
              have e : arityE c.n = .tuple #[.int .i64 (a : Int), .int .i64 (b : Int), .bool true] := by unfold arityE; rw [hA]
              rw [e] at har
              clear e HAr
              obtain ⟨ab1, ab2, ab3⟩ := arity_le hA
              by_cases h0 : i = 0
              · subst h0
                simp only [Nat.zero_mul, Nat.add_zero] at q0 q1
                by_cases ha1 : j < a
                · have lai : decide ((j : Int) < (a : Int)) = true := decide_eq_true (by omega)
                  have lan : decide (j < a) = true := decide_eq_true (by omega)
                  have HE : Hid (ans = false) := HNoF.out (by have fz := fits_zero j hnm hA; rw [fz]; exact decide_eq_false (by omega))
                  clear HNoF HYes hA HC
                  go_wp2_with (go_at_call 24; refine (har _).mono ?_; rintro e w1 ⟨rfl, rfl⟩)
                  go_ret
                  exact ⟨by rw [HE.out]; rfl, hW2.out⟩
                · have lai : decide ((j : Int) < (a : Int)) = false := decide_eq_false (by omega)
                  have lan : decide (j < a) = false := decide_eq_false (by omega)
                  by_cases hb1 : b < j
                  · have lbi : decide ((b : Int) < (j : Int)) = true := decide_eq_true (by omega)
                    have lbn : decide (b < j) = true := decide_eq_true (by omega)
                    have HE : Hid (ans = false) := HNoF.out (by have fz := fits_zero j hnm hA; rw [fz]; exact decide_eq_false (by omega))
                    clear HNoF HYes hA HC
                    go_wp2_with (go_at_call 24; refine (har _).mono ?_; rintro e w1 ⟨rfl, rfl⟩)
                    go_ret
                    exact ⟨by rw [HE.out]; rfl, hW2.out⟩
                  · have lbi : decide ((b : Int) < (j : Int)) = false := decide_eq_false (by omega)
                    have lbn : decide (b < j) = false := decide_eq_false (by omega)
                    have HN2 := Lib.hid (HYes.out (by have fz := fits_zero j hnm hA; rw [fz]; exact decide_eq_true (by omega)))
                    clear HNoF HYes hA HC
                    go_wp2_with (go_at_call 24; refine (har _).mono ?_; rintro e w1 ⟨rfl, rfl⟩)
                    go_roundw
                    case rel => exact ⟨0 + 1, by omega, by go_num, HN2.out, hW2.out⟩
                    case measure => simp [intOf]; omega
              · have izi : decide ((0 : Int) < (i : Int)) = true := decide_eq_true (by omega)
                have izn : decide (0 < i) = true := decide_eq_true (by omega)
                by_cases hmx : j ≤ 9223372036854775806
                · obtain ⟨y, hy⟩ : ∃ y, y = j + 1 := ⟨_, rfl⟩
                  have hyi : (j : Int) + 1 = (y : Int) := by omega
                  by_cases ha1 : y < a
                  · have lai : decide ((y : Int) < (a : Int)) = true := decide_eq_true (by omega)
                    have lan : decide (y < a) = true := decide_eq_true (by omega)
                    have HE : Hid (ans = false) := HNoF.out (by rw [fits_more _ hnm hA (by omega : 0 < i)]; exact decide_eq_false (by omega))
                    clear HNoF HYes hA HC hy
                    go_wp2_with (go_at_call 24; refine (har _).mono ?_; rintro e w1 ⟨rfl, rfl⟩)
                    go_ret
                    exact ⟨by rw [HE.out]; rfl, hW2.out⟩
                  · have lai : decide ((y : Int) < (a : Int)) = false := decide_eq_false (by omega)
                    have lan : decide (y < a) = false := decide_eq_false (by omega)
                    by_cases hb1 : b < y
                    · have lbi : decide ((b : Int) < (y : Int)) = true := decide_eq_true (by omega)
                      have lbn : decide (b < y) = true := decide_eq_true (by omega)
                      have HE : Hid (ans = false) := HNoF.out (by rw [fits_more _ hnm hA (by omega : 0 < i)]; exact decide_eq_false (by omega))
                      clear HNoF HYes hA HC hy
                      go_wp2_with (go_at_call 24; refine (har _).mono ?_; rintro e w1 ⟨rfl, rfl⟩)
                      go_ret
                      exact ⟨by rw [HE.out]; rfl, hW2.out⟩
                    · have lbi : decide ((b : Int) < (y : Int)) = false := decide_eq_false (by omega)
                      have lbn : decide (b < y) = false := decide_eq_false (by omega)
                      have HN2 := Lib.hid (HYes.out (by rw [fits_more _ hnm hA (by omega : 0 < i)]; exact decide_eq_true (by omega)))
                      clear HNoF HYes hA HC hy
                      go_wp2_with (go_at_call 24; refine (har _).mono ?_; rintro e w1 ⟨rfl, rfl⟩)
                      go_roundw
                      case rel => exact ⟨i + 1, by omega, by go_num, HN2.out, hW2.out⟩
                      case measure => simp [intOf]; omega
                · obtain rfl : j = 9223372036854775807 := by omega
                  have hwr : wrap64 9223372036854775808 = -9223372036854775808 := by first | rfl | decide +kernel | (unfold wrap64; omega)
                  have hla : decide ((-9223372036854775808 : Int) < (a : Int)) = true := decide_eq_true (by omega)
                  have hlb : (-9223372036854775808 : Int) < (a : Int) := by omega
                  have HE : Hid (ans = false) := HNoF.out (by rw [fits_more _ hnm hA (by omega : 0 < i)]; exact decide_eq_false (by omega))
                  clear HNoF HYes hA HC
                  go_wp2_with (go_at_call 24; refine (har _).mono ?_; rintro e w1 ⟨rfl, rfl⟩)
                  go_ret
                  exact ⟨by rw [HE.out]; rfl, hW2.out⟩
    · obtain rfl : i = n := by omega
      have hd : decide ((i : Int) < (i : Int)) = false := decide_eq_false (by omega)
      have HE : Hid (ans = true) := HOk.out (by omega) (by omega) fun m hm => hT.out m hm (by rw [HN.out]; exact hm)
      go_wp2_with fail
      go_ret
      exact ⟨by rw [HE.out]; rfl, hW.out⟩
end Go.Proofs.YtmccbcficbbidaaGreatDoor.Pw

/-
  Contract of package pipes: Check.
-/
namespace Go.Proofs.YtmccbcficbbidaaGreatDoor.Pw
open Go.RowKit Go.Proofs.YtmccbcficbbidaaGreatDoor.Oct Go.Proofs.YtmccbcficbbidaaGreatDoor.Lex Go.Proofs.YtmccbcficbbidaaGreatDoor.Lxw Go.Proofs.YtmccbcficbbidaaGreatDoor.Pip

set_option maxHeartbeats 1000000 in
set_option maxRecDepth 100000 in
theorem check1_c {va : Value} {a : Ar} (hs : SzR a) (w : World) (ha : PathIn w va a.p) :
    Calls Tryz.prog 21 #[arV a va] w fun e w' => e = .returned (.bool (!mayA a)) ∧ Below w.heap.size w w' := by
  have hb0 : Below w.heap.size w (w.alloc (.cells (arC a va).toArray 44)) := (Below.refl _ w).alloc (Nat.le_refl _) _
  have hc := isMade_c hs.1 hs.2.2.1 _ (ha.up hb0)
  obtain ⟨k, n, p, i, x⟩ := a
  obtain ⟨pa, ca, rfl, _⟩ := ha
  replace hc : Calls Tryz.prog 22 #[.agg #[.int .i64 k, .string (S n), .slice pa p.length ca, .int .i64 i, .string (S x)]] (w.alloc (.cells #[.int .i64 k, .string (S n), .slice pa p.length ca, .int .i64 i, .string (S x)] 44)) fun e w' => e = .returned (.bool (mayA ⟨k, n, p, i, x⟩)) ∧ Below (w.alloc (.cells #[.int .i64 k, .string (S n), .slice pa p.length ca, .int .i64 i, .string (S x)] 44)).heap.size (w.alloc (.cells #[.int .i64 k, .string (S n), .slice pa p.length ca, .int .i64 i, .string (S x)] 44)) w' := hc
  generalize mayA ⟨k, n, p, i, x⟩ = q at *
  have HB0 := Lib.hid hb0
  clear hb0
  go_enter Tryz.func21, Tryz.ntmps21
  go_wp2_with fail
  refine hc.mono ?_
  clear hc
  rintro e w1 ⟨rfl, hb1⟩
  have HB : Hid (Below w.heap.size w w1) := HB0.out.trans (hb1.mono HB0.out.size)
  clear hb1 HB0
  go_wp2_with fail
  go_ret
  exact ⟨rfl, HB.out⟩
set_option maxHeartbeats 1000000 in
set_option maxRecDepth 100000 in
theorem idxArgs_c {v : Value} {ns : List Ar} (hs : ns.length ≤ 9223372036854775807 ∧ ∀ a ∈ ns, SzR a) (w : World) (hv : ArgIn w v ns) :
    Calls Tryz.prog 42 #[v, .func (.func 21) #[] #[]] w fun e w' => (∃ r : Int, e = .returned (.int .i64 r) ∧ decide (0 ≤ r) = !ns.all mayA) ∧ Below w.heap.size w w' := by
  obtain ⟨pa, ca, rfl, ha⟩ := hv
  obtain ⟨n, hn⟩ : ∃ n, n = ns.length := ⟨_, rfl⟩
  have HA := Lib.hid ha
  have HN := Lib.hid hn
  have hn60 : n ≤ 9223372036854775807 := by rw [hn]; exact hs.1
  have n60 : (n : Int) ≤ 9223372036854775807 := by omega
  have HZ := Lib.hid hs
  rw [← hn]
  have HSm : Hid (∀ (a : Ar) (va : Value) (W : World), SzR a → PathIn W va a.p → Calls Tryz.prog 21 #[arV a va] W fun e w' => e = .returned (.bool (!mayA a)) ∧ Below W.heap.size W w') := fun a va W h1 h2 => check1_c h1 W h2
  clear ha hn hs
  go_enter Tryz.func42, Tryz.ntmps42
  go_wp2_with fail
  go_loopw [8] (fun iv wr => ∃ i : Nat, i ≤ n ∧ iv = .int .i64 i ∧ Hid ((ns.take i).all mayA = true) ∧ Hid (Below w.heap.size w wr)) (fun iv _ => n - (intOf iv).toNat)
  case atStart => exact ⟨0, Nat.zero_le _, rfl, rfl, Below.refl _ _⟩
  case round =>
    obtain ⟨i, hi, rfl, hT, hW⟩ := hrel
    have i0 : (0 : Int) ≤ (i : Int) := by omega
    by_cases hlt : i < n
    · have hd : decide ((i : Int) < (n : Int)) = true := decide_eq_true (by omega)
      have hd2 : decide (i < n) = true := decide_eq_true hlt
      have i2 : (i : Int) < (n : Int) := by omega
      have h1 : i < ns.length := by rw [← HN.out]; exact hlt
      obtain ⟨b1, o1, rfl, hat1⟩ := HA.out (by omega)
      have HAl := Lib.hid (fun (h : mayA ns[i] = false) => all_at2 h1 h)
      have HTk := Lib.hid (fun (h : mayA ns[i] = true) => all_take2 h1 hT.out h)
      obtain ⟨va, hA⟩ := hat1 i h1
      have hz := HZ.out.2 ns[i] (List.getElem_mem h1)
      generalize ns[i] = s at *
      obtain ⟨px, cx, rfl, hpx⟩ := hA.path
      have hcall := HSm.out s _ wr hz (hA.path.up hW.out)
      obtain ⟨_, x0, x1, x2, x3, x4⟩ := hA.up hW.out
      replace hcall : Calls Tryz.prog 21 #[.agg #[.int .i64 s.k, .string (S s.n), .slice px s.p.length cx, .int .i64 s.i, .string (S s.x)]] wr fun e w' => e = .returned (.bool (!mayA s)) ∧ Below wr.heap.size wr w' := hcall
      clear hat1 hA hpx hz
      cases hb : mayA s with
      | true =>
        rw [hb] at hcall
        simp only [Bool.not_true] at hcall
        have HN2 := Lib.hid (HTk.out hb)
        clear hb
        go_wp2_with fail
        refine hcall.mono ?_
        clear hcall
        rintro e w4 ⟨rfl, hb4⟩
        have HB4 := Lib.hid (hW.out.trans (hb4.mono hW.out.size))
        clear hb4
        go_wp2_with fail
        go_roundw
        case rel => exact ⟨i + 1, by omega, by go_num, HN2.out, HB4.out⟩
        case measure => simp [intOf]; omega
      | false =>
        rw [hb] at hcall
        simp only [Bool.not_false] at hcall
        have HE := Lib.hid (HAl.out hb)
        clear hb
        go_wp2_with fail
        refine hcall.mono ?_
        clear hcall
        rintro e w4 ⟨rfl, hb4⟩
        have HB4 := Lib.hid (hW.out.trans (hb4.mono hW.out.size))
        clear hb4
        go_wp2_with fail
        go_ret
        exact ⟨⟨_, rfl, by rw [HE.out]; exact decide_eq_true i0⟩, HB4.out⟩
    · obtain rfl : i = n := by omega
      have hd : decide ((i : Int) < (i : Int)) = false := decide_eq_false (by omega)
      have HE : Hid (ns.all mayA = true) := by
        have := hT.out
        rwa [HN.out, List.take_length] at this
      go_wp2_with fail
      go_ret
      exact ⟨⟨_, rfl, by rw [HE.out]; rfl⟩, hW.out⟩
set_option maxHeartbeats 1000000 in
set_option maxRecDepth 100000 in
theorem allArgs_c {v : Value} {ns : List Ar} (hs : ns.length ≤ 9223372036854775807 ∧ ∀ a ∈ ns, SzR a) (w : World) (hv : ArgIn w v ns) :
    Calls Tryz.prog 20 #[v, .func (.func 21) #[] #[]] w fun e w' => e = .returned (.bool (!ns.all mayA)) ∧ Below w.heap.size w w' := by
  have hi := idxArgs_c hs w hv
  generalize (!ns.all mayA) = q at *
  obtain ⟨pa, ca, rfl, _⟩ := hv
  go_enter Tryz.func20, Tryz.ntmps20
  go_wp2_with fail
  refine hi.mono ?_
  clear hi
  rintro e w1 ⟨⟨r, rfl, hr⟩, hb1⟩
  have HB := Lib.hid hb1
  have HR := Lib.hid hr
  clear hb1
  by_cases h0 : 0 ≤ r
  · have d : decide (0 ≤ r) = true := decide_eq_true h0
    rw [d] at hr
    subst hr
    go_wp2_with fail
    go_ret
    exact ⟨rfl, HB.out⟩
  · have d : decide (0 ≤ r) = false := decide_eq_false h0
    rw [d] at hr
    subst hr
    go_wp2_with fail
    go_ret
    exact ⟨rfl, HB.out⟩
/-- A call of more arguments than any takes. -/
theorem fitsB_great {s : List UInt8} {n k : Nat} (h : 8 < n) : fitsB s n k = false := by
  unfold fitsB
  split
  · exact decide_eq_false (by omega)
  · cases hA : arityL s with
    | none => rfl
    | some m =>
      obtain ⟨a, b⟩ := m
      obtain ⟨h1, h2, h3⟩ := arity_le hA
      exact decide_eq_false (by simp only; split <;> omega)
set_option maxHeartbeats 1000000 in
set_option maxRecDepth 100000 in
theorem fits2_c (s : List UInt8) (n k : Nat) (p : Option Addr) (c : Nat) (hn : n ≤ 9223372036854775807) (hk : k ≤ 1152921504606846976) (w : World) :
    Calls Tryz.prog 19 #[.agg #[.string (S s), .slice p n c], .int .i64 (k : Int)] w fun e w' => e = .returned (.bool (fitsB s n k)) ∧ Below w.heap.size w w' := by
  rcases Nat.lt_or_ge 1152921504606846976 n with hg | hg
  case inr => exact fits_c s n k p c hg hk w
  have HE : Hid (fitsB s n k = false) := fitsB_great (by omega)
  have hq := eqN s
  have har := fun W => arity_c s W
  have hwi := fun a b c W => within_c a b c W
  have hal := Lib.hid ((Below.refl _ w).alloc (Nat.le_refl _) (.cells #[.string (S s), .slice p n c] 41))
  have i0 : (n : Int) ≤ 9223372036854775807 := by omega
  have i1 : (k : Int) ≤ 1152921504606846976 := by omega
  have i2 : (0 : Int) ≤ (n : Int) := by omega
  generalize fitsB s n k = ans at HE ⊢
  by_cases hs : s = []
  · rw [decide_eq_true hs] at hq
    generalize S s = T at *
    clear hs har hwi
    by_cases h0 : (k : Int) = 0
    · rw [h0]
      have b1 : ((n : Int) == 1) = false := by rw [beq_eq_false_iff_ne]; omega
      have n1 : ¬ n = 1 := by omega
      clear h0
      go_enter Tryz.func19, Tryz.ntmps19
      go_wp2_with fail
      go_ret
      exact ⟨by rw [HE.out]; rfl, hal.out⟩
    · have b0 : ((k : Int) == 0) = false := by rw [beq_eq_false_iff_ne]; exact h0
      have n0 : ¬ k = 0 := by omega
      go_enter Tryz.func19, Tryz.ntmps19
      go_wp2_with fail
      go_ret
      exact ⟨by rw [HE.out]; rfl, hal.out⟩
  · rw [decide_eq_false hs] at hq
    cases hA : arityL s with
    | none =>
      have e : arityE s = .tuple #[.int .i64 0, .int .i64 0, .bool false] := by unfold arityE; rw [hA]
      rw [e] at har
      generalize S s = T at *
      clear hs e hA
      by_cases h0 : k = 0
      · subst h0
        go_enter Tryz.func19, Tryz.ntmps19
        go_wp2_with (go_at_call 41; refine (har _).mono ?_; rintro e w1 ⟨rfl, rfl⟩)
        go_ret
        exact ⟨by rw [HE.out]; rfl, hal.out⟩
      · have h1 : (0 : Int) < (k : Int) := by omega
        have hd : decide ((0 : Int) < (k : Int)) = true := decide_eq_true h1
        have hd2 : decide (0 < k) = true := decide_eq_true (by omega)
        by_cases hm : n ≤ 9223372036854775806
        · obtain ⟨n', hn'⟩ : ∃ n', n' = n + 1 := ⟨_, rfl⟩
          have hni : (n : Int) + 1 = (n' : Int) := by omega
          have hn2 : 8 < (n' : Int) := by omega
          clear hn'
          go_enter Tryz.func19, Tryz.ntmps19
          go_wp2_with (go_at_call 41; refine (har _).mono ?_; rintro e w1 ⟨rfl, rfl⟩)
          go_ret
          exact ⟨by rw [HE.out]; rfl, hal.out⟩
        · obtain rfl : n = 9223372036854775807 := by omega
          have hwr : wrap64 9223372036854775808 = -9223372036854775808 := by first | rfl | decide +kernel
          go_enter Tryz.func19, Tryz.ntmps19
          go_wp2_with (go_at_call 41; refine (har _).mono ?_; rintro e w1 ⟨rfl, rfl⟩)
          go_ret
          exact ⟨by rw [HE.out]; rfl, hal.out⟩
    | some m =>
      have e : arityE s = .tuple #[.int .i64 (m.1 : Int), .int .i64 (m.2 : Int), .bool true] := by unfold arityE; rw [hA]
      rw [e] at har
      obtain ⟨a, b⟩ := m
      obtain ⟨hb1, hb2, hb3⟩ := arity_le hA
      generalize S s = T at *
      have har : ∀ W, Calls Tryz.prog 41 #[.string T] W fun e w' => e = .returned (.tuple #[.int .i64 (a : Int), .int .i64 (b : Int), .bool true]) ∧ W = w' := har
      clear hs e hA
      by_cases h0 : k = 0
      · have hw1 := hwi (n : Int) (a : Int) (b : Int)
        rw [show decide ((a : Int) ≤ (n : Int) ∧ (n : Int) ≤ (b : Int)) = false from decide_eq_false (by omega)] at hw1
        subst h0
        go_enter Tryz.func19, Tryz.ntmps19
        go_wp2_with (first
          | (go_at_call 41; refine (har _).mono ?_; rintro e w1 ⟨rfl, rfl⟩)
          | (go_at_call 18; refine (hw1 _).mono ?_; rintro e w1 ⟨rfl, rfl⟩))
        go_ret
        exact ⟨by rw [HE.out]; rfl, hal.out⟩
      · have h1 : (0 : Int) < (k : Int) := by omega
        have hd : decide ((0 : Int) < (k : Int)) = true := decide_eq_true h1
        have hd2 : decide (0 < k) = true := decide_eq_true (by omega)
        by_cases hm : n ≤ 9223372036854775806
        · obtain ⟨n', hn'⟩ : ∃ n', n' = n + 1 := ⟨_, rfl⟩
          have hni : (n : Int) + 1 = (n' : Int) := by omega
          have hn2 : 8 < (n' : Int) := by omega
          clear hn'
          have hw1 := hwi (n' : Int) (a : Int) (b : Int)
          rw [show decide ((a : Int) ≤ (n' : Int) ∧ (n' : Int) ≤ (b : Int)) = false from decide_eq_false (by omega)] at hw1
          go_enter Tryz.func19, Tryz.ntmps19
          go_wp2_with (first
            | (go_at_call 41; refine (har _).mono ?_; rintro e w1 ⟨rfl, rfl⟩)
            | (go_at_call 18; refine (hw1 _).mono ?_; rintro e w1 ⟨rfl, rfl⟩))
          go_ret
          exact ⟨by rw [HE.out]; rfl, hal.out⟩
        · obtain rfl : n = 9223372036854775807 := by omega
          have hwr : wrap64 9223372036854775808 = -9223372036854775808 := by first | rfl | decide +kernel
          have hw1 := hwi (-9223372036854775808 : Int) (a : Int) (b : Int)
          rw [show decide ((a : Int) ≤ (-9223372036854775808 : Int) ∧ (-9223372036854775808 : Int) ≤ (b : Int)) = false from decide_eq_false (by omega)] at hw1
          go_enter Tryz.func19, Tryz.ntmps19
          go_wp2_with (first
            | (go_at_call 41; refine (har _).mono ?_; rintro e w1 ⟨rfl, rfl⟩)
            | (go_at_call 18; refine (hw1 _).mono ?_; rintro e w1 ⟨rfl, rfl⟩))
          go_ret
          exact ⟨by rw [HE.out]; rfl, hal.out⟩

/-! ### Check -/
abbrev chk (b : Bool) : Int := if b = true then 0 else 9
set_option maxHeartbeats 4000000 in
set_option maxRecDepth 100000 in
theorem check_c {v : Value} {cs : List Ca} (hs : SzM cs) (w : World) (hv : CallIn w v cs) :
    Calls Tryz.prog 8 #[v] w fun e w' => e = .returned (.int .i64 (chk (mayP cs))) ∧ Below w.heap.size w w' := by
  obtain ⟨pa, ca, rfl, ha⟩ := hv
  obtain ⟨n, hn⟩ : ∃ n, n = cs.length := ⟨_, rfl⟩
  have HA := Lib.hid ha
  have HN := Lib.hid hn
  have hn60 : n ≤ 9223372036854775807 := by rw [hn]; exact hs.1
  have HZ := Lib.hid hs.2
  have HP1 : Hid (¬ (1 ≤ n ∧ n ≤ 16) → mayP cs = false) := fun h => mayP_len (by rw [← hn]; exact h)
  have HOk : Hid (1 ≤ n → n ≤ 16 → (∀ i (h : i < cs.length), mayC i cs[i] = true) → mayP cs = true) := fun h1 h2 h => mayP_ok (by rw [← hn]; exact h1) (by rw [← hn]; exact h2) h
  have HNo : Hid (∀ i (h : i < cs.length), mayC i cs[i] = false → mayP cs = false) := fun i h hb => mayP_no h hb
  have hwi := fun W => within_c (n : Int) 1 16 W
  generalize mayP cs = ans at HP1 HOk HNo ⊢
  rw [← hn]
  clear ha hn hs
  have n60 : (n : Int) ≤ 9223372036854775807 := by omega
  by_cases hin : ¬ (1 ≤ n ∧ n ≤ 16)
  · rw [show decide ((1 : Int) ≤ (n : Int) ∧ (n : Int) ≤ 16) = false from decide_eq_false (by omega)] at hwi
    have HE := Lib.hid (HP1.out hin)
    go_enter Tryz.func8, Tryz.ntmps8
    go_wp2_with (go_at_call 18; refine (hwi _).mono ?_; rintro e w1 ⟨rfl, rfl⟩)
    go_ret
    exact ⟨by rw [HE.out]; rfl, Below.refl _ _⟩
  rw [show decide ((1 : Int) ≤ (n : Int) ∧ (n : Int) ≤ 16) = true from decide_eq_true (by omega)] at hwi
  have n16 : n ≤ 16 := by omega
  have HI : Hid (1 ≤ n) := by show 1 ≤ n; omega
  clear hin
  go_enter Tryz.func8, Tryz.ntmps8
  go_wp2_with (go_at_call 18; refine (hwi _).mono ?_; rintro e w1 ⟨rfl, rfl⟩)
  clear hwi
  go_loopw [11] (fun iv wr => ∃ i : Nat, i ≤ n ∧ iv = .int .i64 i ∧ Hid (∀ m (h : m < cs.length), m < i → mayC m cs[m] = true) ∧ Hid (Below w.heap.size w wr)) (fun iv _ => n - (intOf iv).toNat)
  case atStart => exact ⟨0, Nat.zero_le _, rfl, fun m _ hm => absurd hm (Nat.not_lt_zero m), Below.refl _ _⟩
  case round =>
    obtain ⟨i, hi, rfl, hT, hW⟩ := hrel
    have i0 : (0 : Int) ≤ (i : Int) := by omega
    by_cases hlt : i < n
    · have hd : decide ((i : Int) < (n : Int)) = true := decide_eq_true (by omega)
      have hd2 : decide (i < n) = true := decide_eq_true hlt
      have i2 : (i : Int) < (n : Int) := by omega
      have hl1 : i < cs.length := by rw [← HN.out]; exact hlt
      obtain ⟨b1, o1, rfl, hat1⟩ := HA.out (by rw [← HN.out]; omega)
      obtain ⟨va, hc⟩ := hat1 i hl1
      have hzc := HZ.out cs[i] (List.getElem_mem hl1)
      have HNx : Hid (mayC i cs[i] = true → ∀ m (h : m < cs.length), m < i + 1 → mayC m cs[m] = true) := fun h m hm hmi => by
        rcases (by omega : m < i ∨ m = i) with h' | h'
        · exact hT.out m hm h'
        · subst h'; exact h
      have HBad := Lib.hid (HNo.out i hl1)
      generalize cs[i] = c at *
      have HCa := Lib.hid hc.args
      obtain ⟨pc, cc, rfl, hca⟩ := hc.args
      obtain ⟨_, q0, q1⟩ := hc.up hW.out
      have HEq := Lib.hid (mayC_eq i c)
      obtain ⟨k, hk⟩ : ∃ k, k = c.as.length := ⟨_, rfl⟩
      have hk60 : k ≤ 9223372036854775807 := by rw [hk]; exact hzc.1
      rw [← hk] at q1 HEq HCa
      have HZc := Lib.hid hzc
      have hfit := fun W => fits2_c c.n k i pc cc hk60 (by omega) W
      have HX : Hid (Below w.heap.size w (wr.alloc (.cells #[.string (S c.n), .slice pc k cc] 41)) ∧ (wr.alloc (.cells #[.string (S c.n), .slice pc k cc] 41)).heap[wr.heap.size]? = some (.cells #[.string (S c.n), .slice pc k cc] 41 (0, 0))) :=
        ⟨hW.out.alloc hW.out.size _, heap_alloc_new wr _⟩
      generalize fitsB c.n k i = q at *
      clear hat1 hc hca hT hk hzc hW
      go_wp2_with fail
      refine (hfit _).mono ?_
      clear hfit q0 q1
      rintro e w1 ⟨rfl, hb1⟩
      have HX1 : Hid (Below w.heap.size w w1 ∧ w1.heap[wr.heap.size]? = some (.cells #[.string (S c.n), .slice pc k cc] 41 (0, 0))) :=
        ⟨HX.out.1.trans (hb1.mono HX.out.1.size), by rw [hb1.block _ (Array.getElem?_eq_some_iff.1 HX.out.2).1]; exact HX.out.2⟩
      clear hb1 HX
      cases q with
      | false =>
        have HE : Hid (ans = false) := HBad.out (by rw [HEq.out, Bool.and_false])
        go_wp2_with fail
        go_ret
        exact ⟨by rw [HE.out]; rfl, HX1.out.1⟩
      | true =>
        have hall := allArgs_c HZc.out w1 (HCa.out.up HX1.out.1)
        have g1 := (cell_of_row w1 (wr.heap.size) 1 _ _ _ HX1.out.2).trans rfl
        have HEq2 : Hid (mayC i c = c.as.all mayA) := by show _ = _; rw [HEq.out, Bool.and_true]
        generalize c.as.all mayA = q2 at *
        clear HEq
        go_wp2_with fail
        refine hall.mono ?_
        clear hall g1
        rintro e w2 ⟨rfl, hb2⟩
        have HW2 := Lib.hid (HX1.out.1.trans (hb2.mono HX1.out.1.size))
        clear hb2 HX1
        cases q2 with
        | false =>
          have HE : Hid (ans = false) := HBad.out HEq2.out
          go_wp2_with fail
          go_ret
          exact ⟨by rw [HE.out]; rfl, HW2.out⟩
        | true =>
          have HN2 := Lib.hid (HNx.out HEq2.out)
          go_wp2_with fail
          go_roundw
          case rel => exact ⟨i + 1, by omega, by go_num, HN2.out, HW2.out⟩
          case measure => simp [intOf]; omega
    · obtain rfl : i = n := by omega
      have hd : decide ((i : Int) < (i : Int)) = false := decide_eq_false (by omega)
      have HE : Hid (ans = true) := HOk.out HI.out n16 fun m hm => hT.out m hm (by rw [HN.out]; exact hm)
      go_wp2_with fail
      go_ret
      exact ⟨by rw [HE.out]; rfl, hW.out⟩
end Go.Proofs.YtmccbcficbbidaaGreatDoor.Pw

/-
  The law PipesCheck, out of the contracts of the calls that it makes.
-/
namespace Go.Proofs.YtmccbcficbbidaaGreatDoor.Pw
open Go.RowKit Go.Proofs.YtmccbcficbbidaaGreatDoor.Oct Go.Proofs.YtmccbcficbbidaaGreatDoor.Lex Go.Proofs.YtmccbcficbbidaaGreatDoor.Lxw Go.Proofs.YtmccbcficbbidaaGreatDoor.Pip

theorem szc_of {cs : List Ca} (h : SzM cs) : SzC cs := ⟨h.1, fun c hc => ⟨(h.2 c hc).1, fun a ha => ((h.2 c hc).2 a ha).1⟩⟩
theorem CallIn.shape {w : World} {v : Value} {cs : List Ca} (h : CallIn w v cs) : ∃ p c, v = .slice p cs.length c := by
  obtain ⟨p, c, h, _⟩ := h
  exact ⟨p, c, h⟩
set_option maxHeartbeats 1000000 in
set_option maxRecDepth 100000 in
theorem law_check {va vb : Value} {xs ys : List Ca} (ha : SzM xs) (W : World) (hva : CallIn W va xs) (hvb : CallIn W vb ys) (hM : MaxAt W) :
    Calls Tryz.prog 3 #[va, vb] W fun e W' => e = .returned (.bool true) ∧ Below W.heap.size W W' := by
  have hc := check_c ha W hva
  have HMay : Hid (∀ w, Below W.heap.size W w → Calls Tryz.prog 9 #[va] w fun e w' => e = .returned (.bool (mayP xs)) ∧ Below w.heap.size w w') := fun w h => rmay_c ha w (hva.up h)
  have HSame : Hid (∀ w, Below W.heap.size W w → Calls Tryz.prog 10 #[va, vb] w fun e w' => e = .returned (.bool (decide (xs = ys))) ∧ Below w.heap.size w w') := fun w h => same_c (szc_of ha) w (hva.up h) (hvb.up h)
  have HRs : Hid (∀ w, Below W.heap.size W w → Calls Tryz.prog 11 #[va, vb] w fun e w' => e = .returned (.bool (decide (xs = ys))) ∧ Below w.heap.size w w') := fun w h => rsame_c (szc_of ha) w (hva.up h) (hvb.up h)
  have HSelf : Hid (∀ w, Below W.heap.size W w → Calls Tryz.prog 10 #[va, va] w fun e w' => e = .returned (.bool true) ∧ Below w.heap.size w w') := fun w h => by
    have := same_c (szc_of ha) w (hva.up h) (hva.up h)
    rwa [decide_eq_true rfl] at this
  have HAl : Hid (∀ w, Below W.heap.size W w → Calls Tryz.prog 12 #[] w fun e w' => e = .returned (.bool true) ∧ Below w.heap.size w w') := fun w h => alive_c w (hM.kept h)
  have hn := num_c
  obtain ⟨pa, ca, rfl⟩ := hva.shape
  obtain ⟨pb, cb, rfl⟩ := hvb.shape
  generalize mayP xs = m at *
  generalize decide (xs = ys) = q at *
  clear ha hva hvb hM
  cases m
  all_goals (
    go_enter Tryz.func3, Tryz.ntmps3
    go_wp2_with fail
    refine hc.mono ?_
    clear hc
    rintro e w1 ⟨rfl, hb1⟩
    have B1 := Lib.hid hb1
    clear hb1
    go_wp2_with (go_at_call 7; refine (hn _ _).mono ?_; rintro e3 w3 ⟨rfl, rfl⟩)
    refine (HMay.out w1 B1.out).mono ?_
    rintro e w2 ⟨rfl, hb2⟩
    have B2 := Lib.hid (B1.out.trans (hb2.mono B1.out.size))
    clear hb2
    go_wp2_with fail
    refine (HSame.out w2 B2.out).mono ?_
    rintro e w4 ⟨rfl, hb4⟩
    have B4 := Lib.hid (B2.out.trans (hb4.mono B2.out.size))
    clear hb4
    go_wp2_with fail
    refine (HRs.out w4 B4.out).mono ?_
    rintro e w5 ⟨rfl, hb5⟩
    have B5 := Lib.hid (B4.out.trans (hb5.mono B4.out.size))
    clear hb5
    go_wp2_with fail
    refine (HSelf.out w5 B5.out).mono ?_
    rintro e w6 ⟨rfl, hb6⟩
    have B6 := Lib.hid (B5.out.trans (hb6.mono B5.out.size))
    clear hb6
    go_wp2_with fail
    refine (HAl.out w6 B6.out).mono ?_
    rintro e w7 ⟨rfl, hb7⟩
    have B7 := Lib.hid (B6.out.trans (hb7.mono B6.out.size))
    clear hb7
    go_wp2_with fail
    go_ret
    exact ⟨rfl, B7.out⟩)
end Go.Proofs.YtmccbcficbbidaaGreatDoor.Pw
