/-
  Part 29: PgName, PwMayA.
-/
import Derived.Test.YtmccbcficbbidaaGreatDoorPwAllP6
import Derived.Lib.Hide
import Derived.Test.YtmccbcficbbidaaGreatDoorPwAllP27
import Derived.Test.YtmccbcficbbidaaGreatDoorPwAllP13
import Derived.Test.YtmccbcficbbidaaGreatDoorPwAllP4
/-
  Contract of the page's Name: is it a name?; it changes nothing.
-/
namespace Go.Proofs.YtmccbcficbbidaaGreatDoor.Oct
open Go.RowKit

/-- May the octet at place k stand there in a name? -/
def okAt (s : ByteArray) (k : Nat) : Bool := nameI ((at' s k).toNat : Int) && (k != 0 || !digitI ((at' s k).toNat : Int))

theorem nameB_eq (s : ByteArray) : nameB s.data.toList = (decide (1 ≤ s.size ∧ s.size ≤ 32) && (List.range s.size).all (okAt s)) := by
  unfold nameB
  rw [size_list, ← all_at, at_zero]
  by_cases h : 1 ≤ s.size ∧ s.size ≤ 32
  · rw [decide_eq_true h, Bool.true_and, Bool.true_and, Bool.eq_iff_iff]
    simp only [Bool.and_eq_true, List.all_eq_true, List.mem_range, okAt, Bool.or_eq_true, bne_iff_ne, Bool.not_eq_true']
    constructor
    · rintro ⟨h0, h1⟩ k hk
      refine ⟨h1 k hk, ?_⟩
      by_cases e : k = 0
      · subst e; exact Or.inr h0
      · exact Or.inl e
    · intro H
      refine ⟨?_, fun k hk => (H k hk).1⟩
      rcases (H 0 (by omega)).2 with e | e
      · exact absurd rfl e
      · exact e
  · rw [decide_eq_false h]; rfl

theorem nameB_bad (s : ByteArray) (k : Nat) (hk : k < s.size) (h : okAt s k = false) : nameB s.data.toList = false := by
  rw [nameB_eq]
  have : (List.range s.size).all (okAt s) = false := by
    rw [Bool.eq_false_iff]
    intro H
    have := List.all_eq_true.1 H k (by simpa using hk)
    rw [h] at this
    cases this
  rw [this, Bool.and_false]

theorem nameB_good (s : ByteArray) (h : ∀ k, k < s.size → okAt s k = true) : nameB s.data.toList = decide (1 ≤ s.size ∧ s.size ≤ 32) := by
  rw [nameB_eq]
  have : (List.range s.size).all (okAt s) = true := List.all_eq_true.2 fun k hk => h k (by simpa using hk)
  rw [this, Bool.and_true]

set_option maxHeartbeats 2000000 in
theorem rname_c (s : ByteArray) (w : World) (hs : s.size ≤ 9223372036854775807) :
    Calls Tryz.prog 45 #[.string s] w fun e w' => e = .returned (.bool (nameB s.data.toList)) ∧ w = w' := by
  go_enter Tryz.func45, Tryz.ntmps45
  go_wp2
  go_loop [3] (fun i => ∃ k : Nat, k ≤ s.size ∧ i = .int .i64 k ∧ Hid (∀ j, j < k → okAt s j = true)) (fun i => s.size - (intOf i).toNat)
  case atStart => exact ⟨0, Nat.zero_le _, rfl, fun j hj => absurd hj (Nat.not_lt_zero _)⟩
  case round =>
    obtain ⟨k, hk, rfl, hok⟩ := hrel
    by_cases hlt : k < s.size
    · have hb1 : (s[k].toNat : Int) ≤ 255 := by have := s[k].toNat_lt; omega
      have hE : Hid (okAt s k = (nameI (s[k].toNat : Int) && (k != 0 || !digitI (s[k].toNat : Int)))) := by show _ = _; unfold okAt; rw [← at_eq s k hlt]
      have hl := fun w => rletter_c (s[k].toNat : Int) w (by omega) (by omega)
      have hd := fun w => rdigit_c (s[k].toNat : Int) w (by omega) (by omega)
      have next : okAt s k = true → ∀ j, j < k + 1 → okAt s j = true := fun h j hj => by
        by_cases e : j = k
        · rw [e]; exact h
        · exact hok.out j (by omega)
      have NX := Lib.hid next
      clear next
      cases hL : letterI (s[k].toNat : Int) with
      | true =>
        simp only [hL] at hl
        have hF : Hid (okAt s k = true) := by
          show _ = _
          rw [hE.out]
          unfold letterI at hL
          have hL' := of_decide_eq_true hL
          rw [nameI, digitI, decide_eq_true (by omega), decide_eq_false (by omega)]
          simp
        clear hL hE
        go_wp2_with (go_at_call 67; refine (hl _).mono ?_; rintro e w' ⟨rfl, rfl⟩)
        go_round
        case rel => exact ⟨k + 1, by omega, by go_num, NX.out hF.out⟩
        case measure => simp [intOf]; omega
      | false =>
        simp only [hL] at hl
        have hL' := of_decide_eq_false hL
        by_cases h95 : (s[k].toNat : Int) = 95
        · have hF : Hid (okAt s k = true) := by
            show _ = _
            rw [hE.out, nameI, digitI, decide_eq_true (by omega), decide_eq_false (by omega)]
            simp
          have h95b : ((s[k].toNat : Int) != 95) = false := by simp [h95]
          clear hL hE hL' h95
          go_wp2_with (go_at_call 67; refine (hl _).mono ?_; rintro e w' ⟨rfl, rfl⟩)
          go_round
          case rel => exact ⟨k + 1, by omega, by go_num, NX.out hF.out⟩
          case measure => simp [intOf]; omega
        · have h95b : ((s[k].toNat : Int) != 95) = true := by simp [h95]
          by_cases h0 : k = 0
          · have hF : Hid (okAt s k = false) := by
              show _ = _
              have hk0 : (k != 0) = false := by simp [h0]
              rw [hE.out, hk0, Bool.false_or, Bool.and_eq_false_iff]
              by_cases hdd : (48 : Int) ≤ (s[k].toNat : Int) ∧ (s[k].toNat : Int) ≤ 57
              · right; rw [digitI, decide_eq_true hdd]; rfl
              · left; rw [nameI, decide_eq_false (by omega)]
            have h0b : ((k : Int) == 0) = true := by simp [h0]
            clear hL hE hL' h95 h0
            go_wp2_with (go_at_call 67; refine (hl _).mono ?_; rintro e w' ⟨rfl, rfl⟩)
            go_ret
            exact ⟨ret_bool (nameB_bad s k hlt hF.out).symm, rfl⟩
          · have h0b : ((k : Int) == 0) = false := by simp; omega
            cases hD : digitI (s[k].toNat : Int) with
            | true =>
              simp only [hD] at hd
              have hF : Hid (okAt s k = true) := by
                show _ = _
                have hD' := of_decide_eq_true hD
                rw [hE.out, nameI, decide_eq_true (by omega)]
                simp [h0]
              clear hL hE hL' h95 h0 hD
              go_wp2_with (first
                | (go_at_call 67; refine (hl _).mono ?_; rintro e w' ⟨rfl, rfl⟩)
                | (go_at_call 68; refine (hd _).mono ?_; rintro e w' ⟨rfl, rfl⟩))
              go_round
              case rel => exact ⟨k + 1, by omega, by go_num, NX.out hF.out⟩
              case measure => simp [intOf]; omega
            | false =>
              simp only [hD] at hd
              have hF : Hid (okAt s k = false) := by
                show _ = _
                have hD' := of_decide_eq_false hD
                rw [hE.out, nameI, decide_eq_false (by omega)]
                rfl
              clear hL hE hL' h95 h0 hD
              go_wp2_with (first
                | (go_at_call 67; refine (hl _).mono ?_; rintro e w' ⟨rfl, rfl⟩)
                | (go_at_call 68; refine (hd _).mono ?_; rintro e w' ⟨rfl, rfl⟩))
              go_ret
              exact ⟨ret_bool (nameB_bad s k hlt hF.out).symm, rfl⟩
    · have hfin : Hid (nameB s.data.toList = decide (1 ≤ s.size ∧ s.size ≤ 32)) := nameB_good s (fun j hj => hok.out j (by omega))
      go_wp2
      all_goals go_ret
      all_goals (refine ⟨ret_bool ?_, rfl⟩; rw [hfin.out, Bool.eq_iff_iff]; simp; try omega)

/-- Does p begin s? -/
def beginsB (p s : List UInt8) : Bool := decide (p.length ≤ s.length) && (s.take p.length == p)
end Go.Proofs.YtmccbcficbbidaaGreatDoor.Oct

/-
  Contract of the page's pipelines: argMay.
-/
namespace Go.Proofs.YtmccbcficbbidaaGreatDoor.Pw
open Go.RowKit Go.Proofs.YtmccbcficbbidaaGreatDoor.Oct Go.Proofs.YtmccbcficbbidaaGreatDoor.Lex Go.Proofs.YtmccbcficbbidaaGreatDoor.Lxw Go.Proofs.YtmccbcficbbidaaGreatDoor.Pip

/-- What is asked behind the names of the path, by sizes and by what is empty. -/
def decA (k : Int) (n xl : Nat) (iz xe ne nb : Bool) : Bool :=
  decide (1 ≤ k) && decide (k ≤ 7) && decide (n ≤ 16) && decide (xl ≤ 4096) && (decide (k ≤ 2) || decide (n = 0)) && (decide (k = 3) || iz) && (decide (k = 4) || xe) && (ne || (decide (k = 2) && nb))
theorem may_dec {k ii : Int} {nm x : List UInt8} {ps : List (List UInt8)} (h : ps.all nameB = true) : mayA ⟨k, nm, ps, ii, x⟩ = decA k ps.length x.length (decide (ii = 0)) (decide (x = [])) (decide (nm = [])) (nameB nm) := by
  have hl : ps = [] ↔ ps.length = 0 := List.length_eq_zero_iff.symm
  rw [Bool.eq_iff_iff]
  simp only [mayA, decA, h]
  grind
set_option maxHeartbeats 4000000 in
set_option maxRecDepth 100000 in
theorem rargMay_c {va : Value} {a : Ar} (hs : SzR a) (w : World) (ha : PathIn w va a.p) :
    Calls Tryz.prog 23 #[arV a va] w fun e w' => e = .returned (.bool (mayA a)) ∧ Below w.heap.size w w' := by
  obtain ⟨k, nm, ps, ii, x⟩ := a
  obtain ⟨hs1, hs2, hs3, hs4⟩ := hs
  simp only at hs1 hs2 hs3 hs4
  obtain ⟨pa, ca, rfl, hat⟩ := ha
  obtain ⟨n, hn⟩ : ∃ n, n = ps.length := ⟨_, rfl⟩
  simp only at hat ⊢
  have HAt := Lib.hid hat
  have HN := Lib.hid hn
  have HNm : Hid (∀ (s : List UInt8) W, s.length ≤ 9223372036854775807 → Calls Tryz.prog 45 #[.string (S s)] W fun e w' => e = .returned (.bool (nameB s)) ∧ W = w') := fun s W h => by
    have := rname_c (S s) W (by rw [size_S]; exact h)
    rwa [list_S] at this
  have hnn := fun W => HNm.out nm W hs2
  have HS4 := Lib.hid hs4
  rw [← hn] at hs1 ⊢
  have n60 : (n : Int) ≤ 9223372036854775807 := by omega
  have x60 : (x.length : Int) ≤ 9223372036854775807 := by omega
  have xsz : (S x).size = x.length := size_S x
  have xsi : ((S x).size : Int) = (x.length : Int) := by rw [xsz]
  have HBx : Hid (Below w.heap.size w (w.alloc (.cells #[.int .i64 k, .string (S nm), .slice pa n ca, .int .i64 ii, .string (S x)] 44)) ∧ (w.alloc (.cells #[.int .i64 k, .string (S nm), .slice pa n ca, .int .i64 ii, .string (S x)] 44)).heap[w.heap.size]? = some (.cells #[.int .i64 k, .string (S nm), .slice pa n ca, .int .i64 ii, .string (S x)] 44 (0, 0))) := ⟨(Below.refl _ w).alloc (Nat.le_refl _) _, heap_alloc_new w _⟩
  have HAt2 : Hid (∀ i (h : i < ps.length), ∃ b o, pa = some ⟨b, o, none⟩ ∧ ∀ W, Below w.heap.size w W → W.cell? ⟨b, o + i, none⟩ = some (.string (S ps[i]))) := fun i h => by
    obtain ⟨b, o, h1, h2⟩ := hat (by omega)
    exact ⟨b, o, h1, fun W hW => some_up (h2 i h) hW⟩
  have HDc : Hid (ps.all nameB = true → mayA ⟨k, nm, ps, ii, x⟩ = decA k n x.length (decide (ii = 0)) (decide (x = [])) (decide (nm = [])) (nameB nm)) := fun h => by
    have := may_dec (k := k) (ii := ii) (nm := nm) (x := x) h
    rwa [← hn] at this
  have HAl0 : Hid (ps.all nameB = false → mayA ⟨k, nm, ps, ii, x⟩ = false) := fun h => by
    unfold mayA
    simp only
    rw [h]
    rfl
  generalize mayA ⟨k, nm, ps, ii, x⟩ = ans at HDc HAl0 ⊢
  have xq := eqN x
  have nq := eqN nm
  show Calls Tryz.prog 23 #[.agg #[.int .i64 k, .string (S nm), .slice pa n ca, .int .i64 ii, .string (S x)]] w _
  generalize S x = X at *
  generalize S nm = NM at *
  clear hat hn hs2 hs4 HAt
  go_enter Tryz.func23, Tryz.ntmps23
  go_wp2_with fail
  go_loop [3] (fun iv => ∃ i : Nat, i ≤ n ∧ iv = .int .i64 i ∧ Hid ((ps.take i).all nameB = true)) (fun iv => n - (intOf iv).toNat)
  case atStart => exact ⟨0, Nat.zero_le _, rfl, rfl⟩
  case round =>
    obtain ⟨i, hi, rfl, hT⟩ := hrel
    have i0 : (0 : Int) ≤ (i : Int) := by omega
    by_cases hlt : i < n
    · have hd : decide ((i : Int) < (n : Int)) = true := decide_eq_true (by omega)
      have hd2 : decide (i < n) = true := decide_eq_true hlt
      have i2 : (i : Int) < (n : Int) := by omega
      have h1 : i < ps.length := by rw [← HN.out]; exact hlt
      obtain ⟨b1, o1, rfl, hc⟩ := HAt2.out i h1
      have s0 := hc _ HBx.out.1
      have hnp := fun W => HNm.out ps[i] W (HS4.out _ (List.getElem_mem h1))
      have HAl := Lib.hid (fun (h : nameB ps[i] = false) => all_at h1 h)
      have HTk := Lib.hid (fun (h : nameB ps[i] = true) => all_take h1 hT.out h)
      generalize ps[i] = s at *
      clear hc
      cases hb : nameB s with
      | true =>
        rw [hb] at hnp
        have HT2 := Lib.hid (HTk.out hb)
        clear hb
        go_wp2_with fail
        refine (hnp _).mono ?_
        rintro e w9 ⟨rfl, rfl⟩
        go_wp2_with fail
        go_round
        case rel => exact ⟨i + 1, by omega, by go_num, HT2.out⟩
        case measure => simp [intOf]; omega
      | false =>
        rw [hb] at hnp
        have HE : Hid (ans = false) := HAl0.out (HAl.out hb)
        clear hb
        go_wp2_with fail
        refine (hnp _).mono ?_
        rintro e w9 ⟨rfl, rfl⟩
        go_wp2_with fail
        go_ret
        exact ⟨by rw [HE.out]; rfl, HBx.out.1⟩
    · obtain rfl : i = n := by omega
      have hd : decide ((i : Int) < (i : Int)) = false := decide_eq_false (by omega)
      have hall : ps.all nameB = true := by
        have := hT.out
        rwa [HN.out, List.take_length] at this
      have HD := Lib.hid (HDc.out hall)
      clear hT hall HDc HAl0 HS4
      by_cases kl : k < 1
      · have kli : decide (k < 1) = true := decide_eq_true (by omega)
        have kf : ¬ 1 ≤ k := by omega
        have HE : Hid (ans = false) := by
          show _ = _
          rw [HD.out]
          simp [decA, kf]
        go_wp2_with fail
        go_ret
        exact ⟨by first | (rw [HE.out]; rfl) | rfl, HBx.out.1⟩
      · have kli : decide (k < 1) = false := decide_eq_false (by omega)
        by_cases kg : 7 < k
        · have kgi : decide (7 < k) = true := decide_eq_true (by omega)
          have kf : ¬ k ≤ 7 := by omega
          have HE : Hid (ans = false) := by
            show _ = _
            rw [HD.out]
            simp [decA, kf]
          go_wp2_with fail
          go_ret
          exact ⟨by first | (rw [HE.out]; rfl) | rfl, HBx.out.1⟩
        · have kgi : decide (7 < k) = false := decide_eq_false (by omega)
          by_cases pl : 16 < i
          · have pli : decide ((16 : Int) < (i : Int)) = true := decide_eq_true (by omega)
            have plbi : decide (16 < i) = true := decide_eq_true (by omega)
            have kf : ¬ i ≤ 16 := by omega
            have HE : Hid (ans = false) := by
              show _ = _
              rw [HD.out]
              simp [decA, kf]
            go_wp2_with fail
            go_ret
            exact ⟨by first | (rw [HE.out]; rfl) | rfl, HBx.out.1⟩
          · have pli : decide ((16 : Int) < (i : Int)) = false := decide_eq_false (by omega)
            have plbi : decide (16 < i) = false := decide_eq_false (by omega)
            by_cases xl : 4096 < x.length
            · have xli : decide ((4096 : Int) < (x.length : Int)) = true := decide_eq_true (by omega)
              have xlbi : decide (4096 < x.length) = true := decide_eq_true (by omega)
              have kf : ¬ x.length ≤ 4096 := by omega
              have HE : Hid (ans = false) := by
                show _ = _
                rw [HD.out]
                simp [decA, kf]
              go_wp2_with fail
              go_ret
              exact ⟨by first | (rw [HE.out]; rfl) | rfl, HBx.out.1⟩
            · have xli : decide ((4096 : Int) < (x.length : Int)) = false := decide_eq_false (by omega)
              have xlbi : decide (4096 < x.length) = false := decide_eq_false (by omega)
              have h16 : i ≤ 16 := by omega
              have hx4 : x.length ≤ 4096 := by omega
              rcases (by omega : k = 1 ∨ k = 2 ∨ k = 3 ∨ k = 4 ∨ k = 5 ∨ k = 6 ∨ k = 7) with rfl | rfl | rfl | rfl | rfl | rfl | rfl
              · by_cases hii : ii = 0
                · subst hii
                  by_cases hxe : x = []
                  · rw [decide_eq_true hxe] at xq
                    by_cases hnm : nm = []
                    · rw [decide_eq_true hnm] at nq
                      have HE : Hid (ans = true) := by
                        show _ = _
                        rw [HD.out]
                        simp [decA, h16, hxe, hnm]
                      go_wp2_with fail
                      go_ret
                      exact ⟨by first | (rw [HE.out]; rfl) | rfl, HBx.out.1⟩
                    · rw [decide_eq_false hnm] at nq
                      have HE : Hid (ans = false) := by
                        show _ = _
                        rw [HD.out]
                        simp [decA, h16, hxe, hnm]
                      go_wp2_with fail
                      go_ret
                      exact ⟨by first | (rw [HE.out]; rfl) | rfl, HBx.out.1⟩
                  · rw [decide_eq_false hxe] at xq
                    have HE : Hid (ans = false) := by
                      show _ = _
                      rw [HD.out]
                      simp [decA, h16, hx4, hxe]
                    go_wp2_with fail
                    go_ret
                    exact ⟨by first | (rw [HE.out]; rfl) | rfl, HBx.out.1⟩
                · have i1 : (ii == 0) = false := by rw [beq_eq_false_iff_ne]; exact hii
                  have HE : Hid (ans = false) := by
                    show _ = _
                    rw [HD.out]
                    simp [decA, h16, hx4, hii]
                  go_wp2_with fail
                  go_ret
                  exact ⟨by first | (rw [HE.out]; rfl) | rfl, HBx.out.1⟩
              · by_cases hii : ii = 0
                · subst hii
                  by_cases hxe : x = []
                  · rw [decide_eq_true hxe] at xq
                    by_cases hnm : nm = []
                    · rw [decide_eq_true hnm] at nq
                      have HE : Hid (ans = true) := by
                        show _ = _
                        rw [HD.out]
                        simp [decA, h16, hxe, hnm]
                      go_wp2_with fail
                      go_ret
                      exact ⟨by first | (rw [HE.out]; rfl) | rfl, HBx.out.1⟩
                    · rw [decide_eq_false hnm] at nq
                      cases hb : nameB nm with
                      | true =>
                        rw [hb] at hnn
                        have HE : Hid (ans = true) := by
                          show _ = _
                          rw [HD.out]
                          simp [decA, h16, hxe, hnm, hb]
                        clear hb
                        go_wp2_with fail
                        refine (hnn _).mono ?_
                        rintro e w9 ⟨rfl, rfl⟩
                        go_wp2_with fail
                        go_ret
                        exact ⟨by first | (rw [HE.out]; rfl) | rfl, HBx.out.1⟩
                      | false =>
                        rw [hb] at hnn
                        have HE : Hid (ans = false) := by
                          show _ = _
                          rw [HD.out]
                          simp [decA, h16, hxe, hnm, hb]
                        clear hb
                        go_wp2_with fail
                        refine (hnn _).mono ?_
                        rintro e w9 ⟨rfl, rfl⟩
                        go_wp2_with fail
                        go_ret
                        exact ⟨by first | (rw [HE.out]; rfl) | rfl, HBx.out.1⟩
                  · rw [decide_eq_false hxe] at xq
                    have HE : Hid (ans = false) := by
                      show _ = _
                      rw [HD.out]
                      simp [decA, h16, hx4, hxe]
                    go_wp2_with fail
                    go_ret
                    exact ⟨by first | (rw [HE.out]; rfl) | rfl, HBx.out.1⟩
                · have i1 : (ii == 0) = false := by rw [beq_eq_false_iff_ne]; exact hii
                  have HE : Hid (ans = false) := by
                    show _ = _
                    rw [HD.out]
                    simp [decA, h16, hx4, hii]
                  go_wp2_with fail
                  go_ret
                  exact ⟨by first | (rw [HE.out]; rfl) | rfl, HBx.out.1⟩
              · by_cases hnz : i = 0
                · subst hnz
                  by_cases hxe : x = []
                  · rw [decide_eq_true hxe] at xq
                    by_cases hnm : nm = []
                    · rw [decide_eq_true hnm] at nq
                      have HE : Hid (ans = true) := by
                        show _ = _
                        rw [HD.out]
                        simp [decA, h16, hxe, hnm]
                      go_wp2_with fail
                      go_ret
                      exact ⟨by first | (rw [HE.out]; rfl) | rfl, HBx.out.1⟩
                    · rw [decide_eq_false hnm] at nq
                      have HE : Hid (ans = false) := by
                        show _ = _
                        rw [HD.out]
                        simp [decA, h16, hxe, hnm]
                      go_wp2_with fail
                      go_ret
                      exact ⟨by first | (rw [HE.out]; rfl) | rfl, HBx.out.1⟩
                  · rw [decide_eq_false hxe] at xq
                    have HE : Hid (ans = false) := by
                      show _ = _
                      rw [HD.out]
                      simp [decA, h16, hx4, hxe]
                    go_wp2_with fail
                    go_ret
                    exact ⟨by first | (rw [HE.out]; rfl) | rfl, HBx.out.1⟩
                · have z1 : decide ((0 : Int) < (i : Int)) = true := decide_eq_true (by omega)
                  have z2 : decide (0 < i) = true := decide_eq_true (by omega)
                  have HE : Hid (ans = false) := by
                    show _ = _
                    rw [HD.out]
                    simp [decA, h16, hx4, hnz]
                  go_wp2_with fail
                  go_ret
                  exact ⟨by first | (rw [HE.out]; rfl) | rfl, HBx.out.1⟩
              · by_cases hnz : i = 0
                · subst hnz
                  by_cases hii : ii = 0
                  · subst hii
                    by_cases hnm : nm = []
                    · rw [decide_eq_true hnm] at nq
                      have HE : Hid (ans = true) := by
                        show _ = _
                        rw [HD.out]
                        simp [decA, h16, hx4, hnm]
                      go_wp2_with fail
                      go_ret
                      exact ⟨by first | (rw [HE.out]; rfl) | rfl, HBx.out.1⟩
                    · rw [decide_eq_false hnm] at nq
                      have HE : Hid (ans = false) := by
                        show _ = _
                        rw [HD.out]
                        simp [decA, h16, hx4, hnm]
                      go_wp2_with fail
                      go_ret
                      exact ⟨by first | (rw [HE.out]; rfl) | rfl, HBx.out.1⟩
                  · have i1 : (ii == 0) = false := by rw [beq_eq_false_iff_ne]; exact hii
                    have HE : Hid (ans = false) := by
                      show _ = _
                      rw [HD.out]
                      simp [decA, h16, hx4, hii]
                    go_wp2_with fail
                    go_ret
                    exact ⟨by first | (rw [HE.out]; rfl) | rfl, HBx.out.1⟩
                · have z1 : decide ((0 : Int) < (i : Int)) = true := decide_eq_true (by omega)
                  have z2 : decide (0 < i) = true := decide_eq_true (by omega)
                  have HE : Hid (ans = false) := by
                    show _ = _
                    rw [HD.out]
                    simp [decA, h16, hx4, hnz]
                  go_wp2_with fail
                  go_ret
                  exact ⟨by first | (rw [HE.out]; rfl) | rfl, HBx.out.1⟩
              · by_cases hnz : i = 0
                · subst hnz
                  by_cases hii : ii = 0
                  · subst hii
                    by_cases hxe : x = []
                    · rw [decide_eq_true hxe] at xq
                      by_cases hnm : nm = []
                      · rw [decide_eq_true hnm] at nq
                        have HE : Hid (ans = true) := by
                          show _ = _
                          rw [HD.out]
                          simp [decA, h16, hxe, hnm]
                        go_wp2_with fail
                        go_ret
                        exact ⟨by first | (rw [HE.out]; rfl) | rfl, HBx.out.1⟩
                      · rw [decide_eq_false hnm] at nq
                        have HE : Hid (ans = false) := by
                          show _ = _
                          rw [HD.out]
                          simp [decA, h16, hxe, hnm]
                        go_wp2_with fail
                        go_ret
                        exact ⟨by first | (rw [HE.out]; rfl) | rfl, HBx.out.1⟩
                    · rw [decide_eq_false hxe] at xq
                      have HE : Hid (ans = false) := by
                        show _ = _
                        rw [HD.out]
                        simp [decA, h16, hx4, hxe]
                      go_wp2_with fail
                      go_ret
                      exact ⟨by first | (rw [HE.out]; rfl) | rfl, HBx.out.1⟩
                  · have i1 : (ii == 0) = false := by rw [beq_eq_false_iff_ne]; exact hii
                    have HE : Hid (ans = false) := by
                      show _ = _
                      rw [HD.out]
                      simp [decA, h16, hx4, hii]
                    go_wp2_with fail
                    go_ret
                    exact ⟨by first | (rw [HE.out]; rfl) | rfl, HBx.out.1⟩
                · have z1 : decide ((0 : Int) < (i : Int)) = true := decide_eq_true (by omega)
                  have z2 : decide (0 < i) = true := decide_eq_true (by omega)
                  have HE : Hid (ans = false) := by
                    show _ = _
                    rw [HD.out]
                    simp [decA, h16, hx4, hnz]
                  go_wp2_with fail
                  go_ret
                  exact ⟨by first | (rw [HE.out]; rfl) | rfl, HBx.out.1⟩
              · by_cases hnz : i = 0
                · subst hnz
                  by_cases hii : ii = 0
                  · subst hii
                    by_cases hxe : x = []
                    · rw [decide_eq_true hxe] at xq
                      by_cases hnm : nm = []
                      · rw [decide_eq_true hnm] at nq
                        have HE : Hid (ans = true) := by
                          show _ = _
                          rw [HD.out]
                          simp [decA, h16, hxe, hnm]
                        go_wp2_with fail
                        go_ret
                        exact ⟨by first | (rw [HE.out]; rfl) | rfl, HBx.out.1⟩
                      · rw [decide_eq_false hnm] at nq
                        have HE : Hid (ans = false) := by
                          show _ = _
                          rw [HD.out]
                          simp [decA, h16, hxe, hnm]
                        go_wp2_with fail
                        go_ret
                        exact ⟨by first | (rw [HE.out]; rfl) | rfl, HBx.out.1⟩
                    · rw [decide_eq_false hxe] at xq
                      have HE : Hid (ans = false) := by
                        show _ = _
                        rw [HD.out]
                        simp [decA, h16, hx4, hxe]
                      go_wp2_with fail
                      go_ret
                      exact ⟨by first | (rw [HE.out]; rfl) | rfl, HBx.out.1⟩
                  · have i1 : (ii == 0) = false := by rw [beq_eq_false_iff_ne]; exact hii
                    have HE : Hid (ans = false) := by
                      show _ = _
                      rw [HD.out]
                      simp [decA, h16, hx4, hii]
                    go_wp2_with fail
                    go_ret
                    exact ⟨by first | (rw [HE.out]; rfl) | rfl, HBx.out.1⟩
                · have z1 : decide ((0 : Int) < (i : Int)) = true := decide_eq_true (by omega)
                  have z2 : decide (0 < i) = true := decide_eq_true (by omega)
                  have HE : Hid (ans = false) := by
                    show _ = _
                    rw [HD.out]
                    simp [decA, h16, hx4, hnz]
                  go_wp2_with fail
                  go_ret
                  exact ⟨by first | (rw [HE.out]; rfl) | rfl, HBx.out.1⟩
              · by_cases hnz : i = 0
                · subst hnz
                  by_cases hii : ii = 0
                  · subst hii
                    by_cases hxe : x = []
                    · rw [decide_eq_true hxe] at xq
                      by_cases hnm : nm = []
                      · rw [decide_eq_true hnm] at nq
                        have HE : Hid (ans = true) := by
                          show _ = _
                          rw [HD.out]
                          simp [decA, h16, hxe, hnm]
                        go_wp2_with fail
                        go_ret
                        exact ⟨by first | (rw [HE.out]; rfl) | rfl, HBx.out.1⟩
                      · rw [decide_eq_false hnm] at nq
                        have HE : Hid (ans = false) := by
                          show _ = _
                          rw [HD.out]
                          simp [decA, h16, hxe, hnm]
                        go_wp2_with fail
                        go_ret
                        exact ⟨by first | (rw [HE.out]; rfl) | rfl, HBx.out.1⟩
                    · rw [decide_eq_false hxe] at xq
                      have HE : Hid (ans = false) := by
                        show _ = _
                        rw [HD.out]
                        simp [decA, h16, hx4, hxe]
                      go_wp2_with fail
                      go_ret
                      exact ⟨by first | (rw [HE.out]; rfl) | rfl, HBx.out.1⟩
                  · have i1 : (ii == 0) = false := by rw [beq_eq_false_iff_ne]; exact hii
                    have HE : Hid (ans = false) := by
                      show _ = _
                      rw [HD.out]
                      simp [decA, h16, hx4, hii]
                    go_wp2_with fail
                    go_ret
                    exact ⟨by first | (rw [HE.out]; rfl) | rfl, HBx.out.1⟩
                · have z1 : decide ((0 : Int) < (i : Int)) = true := decide_eq_true (by omega)
                  have z2 : decide (0 < i) = true := decide_eq_true (by omega)
                  have HE : Hid (ans = false) := by
                    show _ = _
                    rw [HD.out]
                    simp [decA, h16, hx4, hnz]
                  go_wp2_with fail
                  go_ret
                  exact ⟨by first | (rw [HE.out]; rfl) | rfl, HBx.out.1⟩
end Go.Proofs.YtmccbcficbbidaaGreatDoor.Pw
