/-
  Contracts of standsFor, beginsName and beginsNumber of package refs.
-/
import Derived.Test.YtamenccdnobjkaaDoorCrfNumber
namespace Go.Proofs.YtamenccdnobjkaaDoor.Crf
open Go.RowKit Go.Proofs.YtamenccdnobjkaaDoor.Oct Go.Proofs.YtamenccdnobjkaaDoor.Num Go.Proofs.YtamenccdnobjkaaDoor.Utf
open Go.Lib (encodeRune)

theorem nm0 : ∀ w, (Instr.index 61 namesV (.int .i64 0)).run Tryd.prog w = .ok (.agg #[.string ⟨#[97, 109, 112]⟩, .string ⟨#[38]⟩]) w := fun _ => by kernel_rfl
theorem nm1 : ∀ w, (Instr.index 61 namesV (.int .i64 1)).run Tryd.prog w = .ok (.agg #[.string ⟨#[108, 116]⟩, .string ⟨#[60]⟩]) w := fun _ => by kernel_rfl
theorem nm2 : ∀ w, (Instr.index 61 namesV (.int .i64 2)).run Tryd.prog w = .ok (.agg #[.string ⟨#[103, 116]⟩, .string ⟨#[62]⟩]) w := fun _ => by kernel_rfl
theorem nm3 : ∀ w, (Instr.index 61 namesV (.int .i64 3)).run Tryd.prog w = .ok (.agg #[.string ⟨#[113, 117, 111, 116]⟩, .string ⟨#[34]⟩]) w := fun _ => by kernel_rfl
theorem nm4 : ∀ w, (Instr.index 61 namesV (.int .i64 4)).run Tryd.prog w = .ok (.agg #[.string ⟨#[97, 112, 111, 115]⟩, .string ⟨#[39]⟩]) w := fun _ => by kernel_rfl

/-- The k-th name's word, and what it stands for. -/
def wordL : Nat → List UInt8
  | 0 => amp
  | 1 => lt'
  | 2 => gt'
  | 3 => quot
  | _ => apos
def wordS : Nat → List UInt8
  | 0 => [38]
  | 1 => [60]
  | 2 => [62]
  | 3 => [34]
  | _ => [39]
theorem nm (k : Nat) (h : k < 5) : ∀ w, (Instr.index 61 namesV (.int .i64 (k : Int))).run Tryd.prog w = .ok (.agg #[.string (S (wordL k)), .string (S (wordS k))]) w := by
  match k, h with
  | 0, _ => exact nm0
  | 1, _ => exact nm1
  | 2, _ => exact nm2
  | 3, _ => exact nm3
  | 4, _ => exact nm4
theorem name_word {l : List UInt8} {k : Nat} (hk : k < 5) (h : wordL k = l) : nameR l = wordS k := by
  subst h
  match k, hk with
  | 0, _ => decide
  | 1, _ => decide
  | 2, _ => decide
  | 3, _ => decide
  | 4, _ => decide
theorem wordS_ne (k : Nat) : wordS k ≠ [] := by
  unfold wordS
  split <;> simp
theorem name_no {l : List UInt8} (h : ∀ k, k < 5 → wordL k ≠ l) : nameR l = [] := by
  have h0 : l ≠ amp := fun e => h 0 (by omega) e.symm
  have h1 : l ≠ lt' := fun e => h 1 (by omega) e.symm
  have h2 : l ≠ gt' := fun e => h 2 (by omega) e.symm
  have h3 : l ≠ quot := fun e => h 3 (by omega) e.symm
  have h4 : l ≠ apos := fun e => h 4 (by omega) e.symm
  unfold nameR
  rw [if_neg h0, if_neg h1, if_neg h2, if_neg h3, if_neg h4]
theorem eqS (a b : List UInt8) {q : Bool} (h : decide (a = b) = q) : ((S a).toList == (S b).toList) = q := by rw [eqB, h]

set_option maxHeartbeats 4000000 in
set_option maxRecDepth 100000 in
theorem stands_c (l : List UInt8) (hl : l.length ≤ 4611686018427387904) (w : World) :
    Calls Tryd.prog 39 #[.string (S l)] w fun e w' => e = .returned (.string (S (refR l))) ∧ Below w.heap.size w w' := by
  have hnum := fun w => number_c l hl w
  have HC := Lib.hid (fun n w => character_c n w)
  have HN := Lib.hid (fun k h => nm k h)
  have HEq := Lib.hid (fun a {q} (h : decide (a = l) = q) => eqS a l h)
  obtain ⟨L, hL⟩ : ∃ L, L = S l := ⟨_, rfl⟩
  rw [← hL] at hnum HEq ⊢
  clear hL
  go_enter Tryd.func39, Tryd.ntmps39
  go_wp2_with fail
  refine (names_c _).mono ?_
  rintro e w1 ⟨rfl, hb1⟩
  have HB1 := Lib.hid hb1
  clear hb1
  go_wp2_with fail
  go_loopw [8] (fun i wr => ∃ k : Nat, k ≤ 5 ∧ i = .int .i64 k ∧ Hid ((∀ j, j < k → wordL j ≠ l) ∧ Below w.heap.size w wr)) (fun i _ => 5 - (intOf i).toNat)
  case atStart => exact ⟨0, Nat.zero_le _, rfl, fun j h => absurd h (by omega), HB1.out⟩
  case round =>
    obtain ⟨k, hk, rfl, hr⟩ := hrel
    by_cases hlt : k < 5
    · have hi := HN.out k hlt
      have i0 : (0 : Int) ≤ (k : Int) := by omega
      have i1 : (k : Int) < 5 := by omega
      by_cases hw : wordL k = l
      · have hq := HEq.out (wordL k) (decide_eq_true hw)
        have HR : Hid (refR l = wordS k) := by
          show _ = _
          have := name_word hlt hw
          unfold refR
          rw [if_pos (by rw [this]; exact wordS_ne k), this]
        generalize S (wordL k) = W1 at hi hq
        generalize hW2 : S (wordS k) = W2 at hi
        have HW2 := Lib.hid hW2
        clear hW2 hw
        go_wp2_with fail
        go_ret
        exact ⟨by rw [HR.out, HW2.out]; rfl, hr.out.2.alloc hr.out.2.size _⟩
      · have hq := HEq.out (wordL k) (decide_eq_false hw)
        have HNW := Lib.hid hw
        generalize hW1 : S (wordL k) = W1 at hi hq
        generalize S (wordS k) = W2 at hi
        clear hW1 hw
        go_wp2_with fail
        go_roundw
        case rel => exact ⟨k + 1, by omega, by go_num, fun j hj => by
          rcases Nat.lt_or_ge j k with h | h
          · exact hr.out.1 j h
          · obtain rfl : j = k := by omega
            exact HNW.out, hr.out.2.alloc hr.out.2.size _⟩
        case measure => simp [intOf]; omega
    · obtain rfl : k = 5 := by omega
      have HNN : Hid (nameR l = []) := name_no hr.out.1
      cases hk2 : numR l with
      | none =>
        have e : numA l = (0, -1) := by unfold numA; rw [hk2]
        have HR : Hid (refR l = []) := by
          show _ = _
          unfold refR
          rw [HNN.out, hk2]; rfl
        rw [e] at hnum
        clear hk2 e
        go_wp2_with fail
        refine (hnum _).mono ?_
        rintro e w2 ⟨rfl, hb2⟩
        go_wp2_with fail
        go_ret
        exact ⟨by rw [HR.out]; rfl, hr.out.2.trans (hb2.mono hr.out.2.size)⟩
      | some q =>
        obtain ⟨n, d⟩ := q
        have e : numA l = ((n : Int), (d : Int)) := by unfold numA; rw [hk2]
        rw [e] at hnum
        by_cases hd : d = 0
        · have HR : Hid (refR l = []) := by
            show _ = _
            unfold refR
            rw [HNN.out, hk2, hd]; rfl
          subst hd
          clear hk2 e
          go_wp2_with fail
          refine (hnum _).mono ?_
          rintro e w2 ⟨rfl, hb2⟩
          go_wp2_with fail
          go_ret
          exact ⟨by rw [HR.out]; rfl, hr.out.2.trans (hb2.mono hr.out.2.size)⟩
        · have HR : Hid (refR l = standL n) := by
            show _ = _
            unfold refR
            rw [HNN.out, hk2]
            simp [hd]
          have d1 : ((d : Int) == -1) = false := by simp
          have d0 : ((d : Int) == 0) = false := by simp; exact hd
          have hch := fun w => HC.out n w
          generalize hC0 : S (standL n) = C at hch
          have HC0 := Lib.hid hC0
          clear hC0 hk2 e hd
          generalize (n : Int) = n' at hnum hch
          generalize (d : Int) = d' at hnum d0 d1
          go_wp2_with fail
          refine (hnum _).mono ?_
          rintro e w2 ⟨rfl, hb2⟩
          go_wp2_with fail
          refine (hch _).mono ?_
          rintro e w3 ⟨rfl, hb3⟩
          go_wp2_with fail
          go_ret
          exact ⟨by rw [HR.out, HC0.out]; rfl, (hr.out.2.trans (hb2.mono hr.out.2.size)).trans (hb3.mono (Nat.le_trans hr.out.2.size hb2.size))⟩

/-! ### beginsName, beginsNumber -/
theorem prefix_word (k : Nat) (l : List UInt8) : Lib.hasPrefix (wordL k) l = true ↔ l <+: wordL k := pre_iff _ _
theorem beg_yes {k : Nat} {l : List UInt8} (hk : k < 5) (h : Lib.hasPrefix (wordL k) l = true) : begName l = true := by
  have h := (prefix_word k l).1 h
  refine decide_eq_true ?_
  match k, hk, h with
  | 0, _, h => exact .inl h
  | 1, _, h => exact .inr (.inl h)
  | 2, _, h => exact .inr (.inr (.inl h))
  | 3, _, h => exact .inr (.inr (.inr (.inl h)))
  | 4, _, h => exact .inr (.inr (.inr (.inr h)))
theorem beg_no {l : List UInt8} (h : ∀ k, k < 5 → Lib.hasPrefix (wordL k) l = false) : begName l = false := by
  refine decide_eq_false ?_
  have n : ∀ k, k < 5 → ¬ l <+: wordL k := fun k hk hp => by
    have := h k hk
    rw [(prefix_word k l).2 hp] at this
    cases this
  rintro (h | h | h | h | h)
  · exact n 0 (by omega) h
  · exact n 1 (by omega) h
  · exact n 2 (by omega) h
  · exact n 3 (by omega) h
  · exact n 4 (by omega) h

set_option maxHeartbeats 2000000 in
set_option maxRecDepth 100000 in
theorem begName_c (l : List UInt8) (w : World) :
    Calls Tryd.prog 33 #[.string (S l)] w fun e w' => e = .returned (.bool (begName l)) ∧ Below w.heap.size w w' := by
  have HN := Lib.hid (fun k h => nm k h)
  have HP := Lib.hid (fun k w => (by have := Tryd.strings_HasPrefix (S (wordL k)) (S l) w; rw [list_S, list_S] at this; exact this : Calls Tryd.prog 49 #[.string (S (wordL k)), .string (S l)] w fun e w' => e = .returned (.bool (Lib.hasPrefix (wordL k) l)) ∧ w' = w))
  generalize S l = L at HP
  go_enter Tryd.func33, Tryd.ntmps33
  go_wp2_with fail
  refine (names_c _).mono ?_
  rintro e w1 ⟨rfl, hb1⟩
  have HB1 := Lib.hid hb1
  clear hb1
  go_wp2_with fail
  go_loopw [6] (fun i wr => ∃ k : Nat, k ≤ 5 ∧ i = .int .i64 k ∧ Hid ((∀ j, j < k → Lib.hasPrefix (wordL j) l = false) ∧ Below w.heap.size w wr)) (fun i _ => 5 - (intOf i).toNat)
  case atStart => exact ⟨0, Nat.zero_le _, rfl, fun j h => absurd h (by omega), HB1.out⟩
  case round =>
    obtain ⟨k, hk, rfl, hr⟩ := hrel
    by_cases hlt : k < 5
    · have hi := HN.out k hlt
      have hp := fun w => HP.out k w
      have i0 : (0 : Int) ≤ (k : Int) := by omega
      have i1 : (k : Int) < 5 := by omega
      cases hq : Lib.hasPrefix (wordL k) l with
      | true =>
        have HR : Hid (begName l = true) := beg_yes hlt hq
        rw [hq] at hp
        generalize S (wordL k) = W1 at hi hp
        generalize S (wordS k) = W2 at hi
        clear hq
        go_wp2_with fail
        refine (hp _).mono ?_
        rintro e w2 ⟨rfl, rfl⟩
        go_wp2_with fail
        go_ret
        exact ⟨by rw [HR.out]; rfl, hr.out.2.alloc hr.out.2.size _⟩
      | false =>
        have HNW := Lib.hid hq
        rw [hq] at hp
        generalize hW1 : S (wordL k) = W1 at hi hp
        generalize S (wordS k) = W2 at hi
        clear hW1 hq
        go_wp2_with fail
        refine (hp _).mono ?_
        rintro e w2 ⟨rfl, rfl⟩
        go_wp2_with fail
        go_roundw
        case rel => exact ⟨k + 1, by omega, by go_num, fun j hj => by
          rcases Nat.lt_or_ge j k with h | h
          · exact hr.out.1 j h
          · obtain rfl : j = k := by omega
            exact HNW.out, hr.out.2.alloc hr.out.2.size _⟩
        case measure => simp [intOf]; omega
    · obtain rfl : k = 5 := by omega
      have HR : Hid (begName l = false) := beg_no hr.out.1
      go_wp2_with fail
      go_ret
      exact ⟨by rw [HR.out]; rfl, hr.out.2⟩

theorem begNumber_c (l : List UInt8) (hl : l.length ≤ 4611686018427387904) (w : World) :
    Calls Tryd.prog 34 #[.string (S l)] w fun e w' => e = .returned (.bool (numR l).isSome) ∧ Below w.heap.size w w' := by
  have hnum := number_c l hl w
  generalize S l = L at hnum
  cases hk : numR l with
  | none =>
    have e : numA l = (0, -1) := by unfold numA; rw [hk]
    rw [e] at hnum
    clear hk e
    go_enter Tryd.func34, Tryd.ntmps34
    go_wp2_with fail
    refine hnum.mono ?_
    rintro e w2 ⟨rfl, hb2⟩
    go_wp2_with fail
    go_ret
    exact ⟨rfl, hb2⟩
  | some q =>
    obtain ⟨n, d⟩ := q
    have e : numA l = ((n : Int), (d : Int)) := by unfold numA; rw [hk]
    rw [e] at hnum
    have d1 : ((d : Int) == -1) = false := by simp
    have d2 : ((d : Int) != -1) = true := by simp
    clear hk e
    generalize (n : Int) = n' at hnum
    generalize (d : Int) = d' at hnum d1 d2
    go_enter Tryd.func34, Tryd.ntmps34
    go_wp2_with fail
    refine hnum.mono ?_
    rintro e w2 ⟨rfl, hb2⟩
    go_wp2_with fail
    go_ret
    exact ⟨rfl, hb2⟩
end Go.Proofs.YtamenccdnobjkaaDoor.Crf
