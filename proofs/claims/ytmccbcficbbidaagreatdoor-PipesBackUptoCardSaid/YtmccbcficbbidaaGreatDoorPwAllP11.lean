/-
  Part 11: PwWord, LxwCaughtW.
-/
import Derived.Test.YtmccbcficbbidaaGreatDoorPwAllP10
import Derived.Test.YtmccbcficbbidaaGreatDoorPwAllP3
import Derived.Test.YtmccbcficbbidaaGreatDoorPwAllP7
import Derived.Defers
import Derived.Recover
/-
  Contract of package lex's word: a word of any kind, or a fault.
-/
namespace Go.Proofs.YtmccbcficbbidaaGreatDoor.Lxw
open Go.RowKit Go.Proofs.YtmccbcficbbidaaGreatDoor.Oct Go.Proofs.YtmccbcficbbidaaGreatDoor.Lex
open Go.Proofs.YtmccbcficbbidaaGreatDoor.Num (parseL)

/-- What word answers at a place. -/
def WordTo (R : Nat) (l : List UInt8) (b : Int) (k : Nat) (w : World) (e : Ending) (w' : World) : Prop :=
  (∃ x n, wordL (l.drop k) = .ok (x, n) ∧ k + n ≤ l.length ∧ e = .returned (.tuple #[.int .i64 (x.k : Int), .string (S x.x)]) ∧ Rx R l b ((k + n : Nat) : Int) k w' ∧ Kr R w w') ∨
  ((∃ y, wordL (l.drop k) = .error y) ∧ Bad R l b w e w')
/-- What is gone over as a word of kind K. -/
def WordR (l : List UInt8) (k K : Nat) (E : Except Nat Nat) : Prop :=
  (∃ q, E = .ok q ∧ k ≤ q ∧ q ≤ l.length ∧ wordL (l.drop k) = .ok (⟨K, (l.take q).drop k⟩, q - k)) ∨ ∃ x y, E = .error x ∧ wordL (l.drop k) = .error y
theorem WordTo.good {R : Nat} {l : List UInt8} {b : Int} {k K q : Nat} {w w' : World} (hk : k ≤ q) (hq : q ≤ l.length) (hw : wordL (l.drop k) = .ok (⟨K, (l.take q).drop k⟩, q - k)) (h : Rx R l b (q : Int) k w') (hkr : Kr R w w') :
    WordTo R l b k w (.returned (.tuple #[.int .i64 (K : Int), .string (S ((l.take q).drop k))])) w' := by
  refine .inl ⟨_, _, hw, by omega, rfl, ?_, hkr⟩
  rw [show k + (q - k) = q by omega]
  exact h
theorem WordTo.bad {R : Nat} {l : List UInt8} {b n : Int} {k : Nat} {k' p' : Int} {w w' : World} {y : Nat × Nat} (hw : wordL (l.drop k) = .error y) (h : Rx R l b k' p' w') (hkr : Kr R w w') (hn : n ≠ 0 := by decide) : WordTo R l b k w (Fault n) w' :=
  .inr ⟨⟨y, hw⟩, Bad.mk' h hkr hn⟩
theorem dots_le {l : List UInt8} {k m : Nat} (hk : k ≤ l.length) (h : dotsL (l.drop k) = .ok m) : k + m ≤ l.length := by
  obtain ⟨ns, h1, h2, _⟩ := Pip.dots_ok _ _ _ h
  have := congrArg List.length h1
  rw [List.length_take, ← h2, List.length_drop] at this
  omega
theorem cutAt (l : List UInt8) (k n : Nat) : (l.take (k + n)).drop k = (l.drop k).take n := by rw [List.drop_take]; congr 1; omega
theorem word_name {l : List UInt8} {k : Nat} (hk : k < l.length) (h : begB l[k] = true) : WordR l k 1 (if nameN (l.drop k) ≤ 32 then .ok (k + nameN (l.drop k)) else .error 5) := by
  have hle := nameN_le l k (by omega)
  by_cases h32 : nameN (l.drop k) ≤ 32
  · refine .inl ⟨_, if_pos h32, by omega, hle, ?_⟩
    rw [cutAt, show k + nameN (l.drop k) - k = nameN (l.drop k) by omega]
    rw [List.drop_eq_getElem_cons hk] at h32 ⊢
    unfold wordL
    dsimp only
    rw [if_pos h, if_neg (by omega)]
  · refine .inr ⟨5, (5, 0), if_neg h32, ?_⟩
    rw [List.drop_eq_getElem_cons hk] at h32 ⊢
    unfold wordL
    dsimp only
    rw [if_pos h, if_pos (by omega)]
theorem word_path {l : List UInt8} {k : Nat} (hk : k < l.length) (h : l[k] = 46) : WordR l k 2 (pathE l k) := by
  have e1 : l.drop k = 46 :: l.drop (k + 1) := by rw [List.drop_eq_getElem_cons hk, h]
  unfold pathE
  by_cases h0 : nameN (l.drop (k + 1)) = 0
  · rw [if_pos h0]
    refine .inl ⟨_, rfl, by omega, by omega, ?_⟩
    rw [cutAt, e1]
    unfold wordL
    dsimp only
    rw [if_neg (by decide), if_pos rfl, if_pos h0, show k + 1 - k = 1 by omega]
    rfl
  · rw [if_neg h0]
    cases hd : dotsL (l.drop k) with
    | error e =>
      refine .inr ⟨e, (e, 0), rfl, ?_⟩
      rw [e1] at hd ⊢
      unfold wordL
      dsimp only
      rw [if_neg (by decide), if_pos rfl, if_neg h0, hd]
    | ok m =>
      refine .inl ⟨k + m, rfl, by omega, dots_le (by omega) hd, ?_⟩
      rw [cutAt, show k + m - k = m by omega]
      rw [e1] at hd ⊢
      unfold wordL
      dsimp only
      rw [if_neg (by decide), if_pos rfl, if_neg h0, hd]
theorem word_var {l : List UInt8} {k : Nat} (hk : k < l.length) (h : l[k] = 36) : WordR l k 3 (varE l k) := by
  have e1 : l.drop k = 36 :: l.drop (k + 1) := by rw [List.drop_eq_getElem_cons hk, h]
  have hn := nameN_le l (k + 1) (by omega)
  unfold varE
  by_cases h0 : 32 < nameN (l.drop (k + 1))
  · rw [if_pos h0]
    refine .inr ⟨5, (5, 0), rfl, ?_⟩
    rw [e1]
    unfold wordL
    dsimp only
    rw [if_neg (by decide), if_neg (by decide), if_pos rfl, if_pos h0]
  · rw [if_neg h0]
    have e2 : (l.drop (k + 1)).drop (nameN (l.drop (k + 1))) = l.drop (k + 1 + nameN (l.drop (k + 1))) := by rw [List.drop_drop]
    cases hd : dotsL (l.drop (k + 1 + nameN (l.drop (k + 1)))) with
    | error e =>
      refine .inr ⟨e, (e, 0), rfl, ?_⟩
      rw [e1]
      unfold wordL
      dsimp only
      rw [if_neg (by decide), if_neg (by decide), if_pos rfl, if_neg h0, e2, hd]
    | ok m =>
      refine .inl ⟨k + 1 + nameN (l.drop (k + 1)) + m, rfl, by omega, dots_le (by omega) hd, ?_⟩
      rw [show k + 1 + nameN (l.drop (k + 1)) + m = k + (1 + nameN (l.drop (k + 1)) + m) by omega, cutAt, show k + (1 + nameN (l.drop (k + 1)) + m) - k = 1 + nameN (l.drop (k + 1)) + m by omega]
      conv => lhs; rw [e1]
      unfold wordL
      dsimp only
      rw [if_neg (by decide), if_neg (by decide), if_pos rfl, if_neg h0, e2, hd]
      dsimp only
      rw [← e1]
theorem word_num {l : List UInt8} {k : Nat} (hk : k < l.length) (hb : begB l[k] = false) (h46 : l[k] ≠ 46) (h36 : l[k] ≠ 36) (h : l[k] = 45 ∨ digC l[k] = true) : WordR l k 4 (numE l k) := by
  have e1 : l.drop k = l[k] :: l.drop (k + 1) := List.drop_eq_getElem_cons hk
  have e2 : (l.take (k + 1 + twN digC l (k + 1))).drop k = (l[k] :: l.drop (k + 1)).take (1 + digN (l.drop (k + 1))) := by
    rw [show k + 1 + twN digC l (k + 1) = k + (1 + twN digC l (k + 1)) by omega, cutAt, e1]
    rfl
  have hw : wordL (l.drop k) = if (parseL ((l.take (k + 1 + twN digC l (k + 1))).drop k)).2 = 4 then .error (4, 0) else if (parseL ((l.take (k + 1 + twN digC l (k + 1))).drop k)).2 ≠ 0 then .error (33, 0)
      else .ok (⟨4, (l.take (k + 1 + twN digC l (k + 1))).drop k⟩, 1 + twN digC l (k + 1)) := by
    rw [e2, e1]
    unfold wordL
    dsimp only
    rw [if_neg (by rw [hb]; simp), if_neg h46, if_neg h36, if_pos h]
    rfl
  unfold numE
  by_cases h0 : (parseL ((l.take (k + 1 + twN digC l (k + 1))).drop k)).2 = 0
  · rw [if_pos h0]
    rw [if_neg (by omega), if_neg (by omega)] at hw
    refine .inl ⟨_, rfl, by omega, twN_le digC l (k + 1) (by omega), ?_⟩
    rw [hw]
    congr 2
    omega
  · rw [if_neg h0]
    by_cases h4 : (parseL ((l.take (k + 1 + twN digC l (k + 1))).drop k)).2 = 4
    · rw [if_pos h4] at hw
      exact .inr ⟨_, _, rfl, hw⟩
    · rw [if_neg h4, if_pos h0] at hw
      exact .inr ⟨_, _, rfl, hw⟩
theorem word_sign {l : List UInt8} {k : Nat} (hk : k < l.length) (hb : begB l[k] = false) (h46 : l[k] ≠ 46) (h36 : l[k] ≠ 36) (h : ¬ (l[k] = 45 ∨ digC l[k] = true)) (h34 : l[k] ≠ 34) : WordR l k 6 (signE l k) := by
  have e1 : l.drop k = l[k] :: l.drop (k + 1) := List.drop_eq_getElem_cons hk
  have hw : wordL (l.drop k) = if [58, 61].isPrefixOf (l.drop k) = true then .ok (⟨6, [58, 61]⟩, 2) else if l[k] = 124 then .ok (⟨6, [124]⟩, 1) else .error (33, 0) := by
    rw [e1]
    unfold wordL
    dsimp only
    rw [if_neg (by rw [hb]; simp), if_neg h46, if_neg h36, if_neg h, if_neg h34]
  have hp : [124].isPrefixOf (l.drop k) = decide (l[k] = 124) := by
    rw [e1]
    by_cases hq : l[k] = 124
    · rw [hq]; simp [List.isPrefixOf]
    · have : ((124 : UInt8) == l[k]) = false := by rw [beq_eq_false_iff_ne]; exact fun e => hq e.symm
      simp [List.isPrefixOf, this, hq]
  unfold signE
  rw [hp]
  by_cases h1 : l[k] = 124
  · rw [if_pos (by simpa using h1)]
    have hn : [58, 61].isPrefixOf (l.drop k) = false := by
      rw [e1, h1]
      simp [List.isPrefixOf]
    rw [hn, if_neg (by simp), if_pos h1] at hw
    refine .inl ⟨_, rfl, by omega, by omega, ?_⟩
    rw [hw, cutAt, e1, h1, show k + 1 - k = 1 by omega]
    rfl
  · rw [if_neg (by simpa using h1)]
    by_cases h2 : [58, 61].isPrefixOf (l.drop k) = true
    · rw [if_pos h2] at hw ⊢
      have hx := List.isPrefixOf_iff_prefix.1 h2
      have hle := hx.length_le
      rw [List.length_drop] at hle
      refine .inl ⟨_, rfl, by omega, by simp at hle; omega, ?_⟩
      have ht : [58, 61] = (l.drop k).take 2 := List.prefix_iff_eq_take.1 hx
      rw [hw, cutAt, show k + 2 - k = 2 by omega, ← ht]
    · rw [if_neg h2] at hw ⊢
      rw [if_neg h1] at hw
      exact .inr ⟨_, _, rfl, hw⟩
theorem word_str {l : List UInt8} {k : Nat} (hk : k < l.length) (h : l[k] = 34) : wordL (l.drop k) = match strL (l.drop (k + 1)) with
      | none => .error (33, 0)
      | some x => if 4096 < x.1.length then .error (5, 0) else .ok (⟨5, x.1⟩, 1 + (l.drop (k + 1)).length - x.2.length) := by
  rw [List.drop_eq_getElem_cons hk, h]
  unfold wordL
  dsimp only
  rw [if_neg (by decide), if_neg (by decide), if_neg (by decide), if_neg (by decide), if_pos rfl]
  rfl
theorem str_rest (l : List UInt8) : ∀ x r, strL l = some (x, r) → r.length + 1 ≤ l.length := by
  have key : ∀ n (l : List UInt8), l.length ≤ n → ∀ x r, strL l = some (x, r) → r.length + 1 ≤ l.length := by
    intro n
    induction n with
    | zero =>
      intro l hl x r h
      have : l = [] := List.eq_nil_of_length_eq_zero (by omega)
      subst this
      simp [strL] at h
    | succ n ih =>
      intro l hl x r h
      have h' : strL (l.drop 0) = some (x, r) := h
      obtain ⟨hj, hc⟩ := str_cases h'
      rcases hc with ⟨_, _, e⟩ | ⟨_, hj1, _, y', _, hs⟩ | ⟨_, _, _, y', _, hs⟩
      · rw [e, List.length_drop]; omega
      · have := ih (l.drop 2) (by rw [List.length_drop]; omega) _ _ hs
        rw [List.length_drop] at this
        omega
      · have := ih (l.drop 1) (by rw [List.length_drop]; omega) _ _ hs
        rw [List.length_drop] at this
        omega
  exact key l.length l (Nat.le_refl _)
set_option maxHeartbeats 1000000 in
set_option maxRecDepth 100000 in
theorem word_a {R : Nat} {l : List UInt8} {b : Int} {k : Nat} (hk : k < l.length) (hl : l.length ≤ 4194304) (hc : begB l[k] = true) (w : World) (h : Rx R l b k k w) :
    Calls Tryz.prog 54 #[.pointer (some ⟨R, 0, none⟩)] w (WordTo R l b k w) := by
  have hne := next_q hk hl w h 0
  have hbe := fun W => begins_c l[k] W
  rw [hc] at hbe
  have HW := Lib.hid h
  have HR := Lib.hid (word_name hk hc)
  obtain ⟨q0, hq0⟩ : ∃ q, q = k + nameN (l.drop k) := ⟨_, rfl⟩
  have HP := Lib.hid (fun W (h : Rx R l b k k W) => passName_c (by omega : k ≤ l.length) hq0 hl W h)
  rw [← hq0] at HR
  clear h hc hq0
  go_enter Tryz.func54, Tryz.ntmps54
  go_wp2_with fail
  refine hne.mono ?_
  clear hne
  rintro e w1 ⟨rfl, q1, hw1⟩
  have hb1 : Below w.heap.size w w1 := grown_q hw1
  have H1 := Lib.hid (And.intro (HW.out.keep hb1) (Kr.of (R := R) hb1))
  clear hw1 hb1 HW
  go_wp2_with (go_at_call 76; refine (hbe _).mono ?_; rintro e w2 ⟨rfl, rfl⟩)
  have hp := HP.out w1 H1.out.1
  clear HP
  refine hp.mono ?_
  clear hp
  rintro e w3 ⟨he, h3, k3⟩
  by_cases h32 : nameN (l.drop k) ≤ 32
  · have he2 : ∃ bb, e = .returned (.bool bb) := ⟨_, by rw [he, if_pos h32]⟩
    obtain ⟨bb, rfl⟩ := he2
    clear he
    rw [if_pos h32] at HR
    rcases HR.out with ⟨q, hE, hkq, hql, hwq⟩ | ⟨x, y, hE, hwq⟩
    · obtain rfl : q0 = q := by injection hE
      have hpd := passed_c hkq hql hl w3 h3
      have HX := Lib.hid (And.intro hkq (And.intro hql (And.intro hwq (H1.out.2.trans k3))))
      clear k3 h3 hE hkq hql hwq HR H1 h32
      go_wp2_with fail
      refine hpd.mono ?_
      clear hpd
      rintro e w4 ⟨rfl, h4, k4⟩
      have HY := Lib.hid (WordTo.good HX.out.1 HX.out.2.1 HX.out.2.2.1 h4 (HX.out.2.2.2.trans k4))
      clear h4 k4 HX
      go_wp2_with fail
      go_ret2
      exact HY.out
    · cases hE
  · have he2 : e = Fault 5 := by rw [he, if_neg h32]
    subst he2
    clear he
    rw [if_neg h32] at HR
    rcases HR.out with ⟨q, hE, hkq, hql, hwq⟩ | ⟨x, y, hE, hwq⟩
    · cases hE
    · exact ⟨rfl, WordTo.bad hwq h3 (H1.out.2.trans k3)⟩
set_option maxHeartbeats 1000000 in
set_option maxRecDepth 100000 in
theorem word_b {R : Nat} {l : List UInt8} {b : Int} {k : Nat} (hk : k < l.length) (hl : l.length ≤ 4194304) (hc : l[k] = 46) (w : World) (h : Rx R l b k k w) :
    Calls Tryz.prog 54 #[.pointer (some ⟨R, 0, none⟩)] w (WordTo R l b k w) := by
  have hne := next_q hk hl w h 0
  have e1 : ((l[k]).toNat : Int) = 46 := by rw [hc]; rfl
  rw [e1] at hne
  have hbe : ∀ W, Calls Tryz.prog 76 #[.int .u8 46] W fun e w' => e = .returned (.bool false) ∧ W = w' := fun W => begins_c 46 W
  have HW := Lib.hid h
  have HR := Lib.hid (word_path hk hc)
  have HP := Lib.hid (fun W (h : Rx R l b k k W) => passPath_c hk (by unfold nextO; simp [hk, hc]) hl W h)
  clear h hc e1
  go_enter Tryz.func54, Tryz.ntmps54
  go_wp2_with fail
  refine hne.mono ?_
  clear hne
  rintro e w1 ⟨rfl, q1, hw1⟩
  have hb1 : Below w.heap.size w w1 := grown_q hw1
  have H1 := Lib.hid (And.intro (HW.out.keep hb1) (Kr.of (R := R) hb1))
  clear hw1 hb1 HW
  go_wp2_with (go_at_call 76; refine (hbe _).mono ?_; rintro e w2 ⟨rfl, rfl⟩)
  have hp := HP.out w1 H1.out.1
  clear HP
  refine hp.mono ?_
  clear hp
  rintro e w3 hp3
  rcases HR.out with ⟨q, hE, hkq, hql, hwq⟩ | ⟨x, y, hE, hwq⟩
  · rw [hE] at hp3
    obtain ⟨k3, rfl, h3⟩ := hp3
    have hpd := passed_c hkq hql hl w3 h3
    have HX := Lib.hid (And.intro hkq (And.intro hql (And.intro hwq (H1.out.2.trans k3))))
    clear k3 h3 hE hkq hql hwq HR H1
    go_wp2_with fail
    refine hpd.mono ?_
    clear hpd
    rintro e w4 ⟨rfl, h4, k4⟩
    have HY := Lib.hid (WordTo.good HX.out.1 HX.out.2.1 HX.out.2.2.1 h4 (HX.out.2.2.2.trans k4))
    clear h4 k4 HX
    go_wp2_with fail
    go_ret2
    exact HY.out
  · rw [hE] at hp3
    obtain ⟨k3, ⟨n, hn0, rfl⟩, k', p', h3⟩ := hp3
    exact ⟨rfl, WordTo.bad hwq h3 (H1.out.2.trans k3) hn0⟩
set_option maxHeartbeats 1000000 in
set_option maxRecDepth 100000 in
theorem word_c {R : Nat} {l : List UInt8} {b : Int} {k : Nat} (hk : k < l.length) (hl : l.length ≤ 4194304) (hc : l[k] = 36) (w : World) (h : Rx R l b k k w) :
    Calls Tryz.prog 54 #[.pointer (some ⟨R, 0, none⟩)] w (WordTo R l b k w) := by
  have hne := next_q hk hl w h 0
  have e1 : ((l[k]).toNat : Int) = 36 := by rw [hc]; rfl
  rw [e1] at hne
  have hbe : ∀ W, Calls Tryz.prog 76 #[.int .u8 36] W fun e w' => e = .returned (.bool false) ∧ W = w' := fun W => begins_c 36 W
  have HW := Lib.hid h
  have HR := Lib.hid (word_var hk hc)
  have HP := Lib.hid (fun W (h : Rx R l b k k W) => passVariable_c hk hl W h)
  clear h hc e1
  go_enter Tryz.func54, Tryz.ntmps54
  go_wp2_with fail
  refine hne.mono ?_
  clear hne
  rintro e w1 ⟨rfl, q1, hw1⟩
  have hb1 : Below w.heap.size w w1 := grown_q hw1
  have H1 := Lib.hid (And.intro (HW.out.keep hb1) (Kr.of (R := R) hb1))
  clear hw1 hb1 HW
  go_wp2_with (go_at_call 76; refine (hbe _).mono ?_; rintro e w2 ⟨rfl, rfl⟩)
  have hp := HP.out w1 H1.out.1
  clear HP
  refine hp.mono ?_
  clear hp
  rintro e w3 hp3
  rcases HR.out with ⟨q, hE, hkq, hql, hwq⟩ | ⟨x, y, hE, hwq⟩
  · rw [hE] at hp3
    obtain ⟨k3, rfl, h3⟩ := hp3
    have hpd := passed_c hkq hql hl w3 h3
    have HX := Lib.hid (And.intro hkq (And.intro hql (And.intro hwq (H1.out.2.trans k3))))
    clear k3 h3 hE hkq hql hwq HR H1
    go_wp2_with fail
    refine hpd.mono ?_
    clear hpd
    rintro e w4 ⟨rfl, h4, k4⟩
    have HY := Lib.hid (WordTo.good HX.out.1 HX.out.2.1 HX.out.2.2.1 h4 (HX.out.2.2.2.trans k4))
    clear h4 k4 HX
    go_wp2_with fail
    go_ret2
    exact HY.out
  · rw [hE] at hp3
    obtain ⟨k3, ⟨n, hn0, rfl⟩, k', p', h3⟩ := hp3
    exact ⟨rfl, WordTo.bad hwq h3 (H1.out.2.trans k3) hn0⟩
set_option maxHeartbeats 1000000 in
set_option maxRecDepth 100000 in
theorem word_d {R : Nat} {l : List UInt8} {b : Int} {k : Nat} (hk : k < l.length) (hl : l.length ≤ 4194304) (hc : l[k] = 45) (w : World) (h : Rx R l b k k w) :
    Calls Tryz.prog 54 #[.pointer (some ⟨R, 0, none⟩)] w (WordTo R l b k w) := by
  have hne := next_q hk hl w h 0
  have e1 : ((l[k]).toNat : Int) = 45 := by rw [hc]; rfl
  rw [e1] at hne
  have hbe : ∀ W, Calls Tryz.prog 76 #[.int .u8 45] W fun e w' => e = .returned (.bool false) ∧ W = w' := fun W => begins_c 45 W
  have HW := Lib.hid h
  have HR := Lib.hid (word_num hk (by rw [hc]; decide) (by rw [hc]; decide) (by rw [hc]; decide) (.inl hc))
  have HP := Lib.hid (fun W (h : Rx R l b k k W) => passNumber_c hk hl W h)
  clear h hc e1
  go_enter Tryz.func54, Tryz.ntmps54
  go_wp2_with fail
  refine hne.mono ?_
  clear hne
  rintro e w1 ⟨rfl, q1, hw1⟩
  have hb1 : Below w.heap.size w w1 := grown_q hw1
  have H1 := Lib.hid (And.intro (HW.out.keep hb1) (Kr.of (R := R) hb1))
  clear hw1 hb1 HW
  go_wp2_with (go_at_call 76; refine (hbe _).mono ?_; rintro e w2 ⟨rfl, rfl⟩)
  have hp := HP.out w1 H1.out.1
  clear HP
  refine hp.mono ?_
  clear hp
  rintro e w3 hp3
  rcases HR.out with ⟨q, hE, hkq, hql, hwq⟩ | ⟨x, y, hE, hwq⟩
  · rw [hE] at hp3
    obtain ⟨k3, rfl, h3⟩ := hp3
    have hpd := passed_c hkq hql hl w3 h3
    have HX := Lib.hid (And.intro hkq (And.intro hql (And.intro hwq (H1.out.2.trans k3))))
    clear k3 h3 hE hkq hql hwq HR H1
    go_wp2_with fail
    refine hpd.mono ?_
    clear hpd
    rintro e w4 ⟨rfl, h4, k4⟩
    have HY := Lib.hid (WordTo.good HX.out.1 HX.out.2.1 HX.out.2.2.1 h4 (HX.out.2.2.2.trans k4))
    clear h4 k4 HX
    go_wp2_with fail
    go_ret2
    exact HY.out
  · rw [hE] at hp3
    obtain ⟨k3, ⟨n, hn0, rfl⟩, k', p', h3⟩ := hp3
    exact ⟨rfl, WordTo.bad hwq h3 (H1.out.2.trans k3) hn0⟩
set_option maxHeartbeats 1000000 in
set_option maxRecDepth 100000 in
theorem word_e {R : Nat} {l : List UInt8} {b : Int} {k : Nat} (hk : k < l.length) (hl : l.length ≤ 4194304) (hb : begB l[k] = false) (h46 : l[k] ≠ 46) (h36 : l[k] ≠ 36) (h45 : l[k] ≠ 45) (hd : digC l[k] = true) (w : World) (h : Rx R l b k k w) :
    Calls Tryz.prog 54 #[.pointer (some ⟨R, 0, none⟩)] w (WordTo R l b k w) := by
  have hne := next_q hk hl w h 0
  have hbe := fun W => begins_c l[k] W
  rw [hb] at hbe
  have hdi := fun W => digit_o l[k] W
  rw [hd] at hdi
  have b46 : (((l[k]).toNat : Int) == 46) = false := oct_ne (n := 46) h46 (by decide)
  have n46 : ¬ ((l[k]).toNat : Int) = 46 := by rw [beq_eq_false_iff_ne] at b46; exact b46
  have b36 : (((l[k]).toNat : Int) == 36) = false := oct_ne (n := 36) h36 (by decide)
  have n36 : ¬ ((l[k]).toNat : Int) = 36 := by rw [beq_eq_false_iff_ne] at b36; exact b36
  have b45 : (((l[k]).toNat : Int) == 45) = false := oct_ne (n := 45) h45 (by decide)
  have n45 : ¬ ((l[k]).toNat : Int) = 45 := by rw [beq_eq_false_iff_ne] at b45; exact b45
  have HW := Lib.hid h
  have HR := Lib.hid (word_num hk hb h46 h36 (.inr hd))
  have HP := Lib.hid (fun W (h : Rx R l b k k W) => passNumber_c hk hl W h)
  clear hb h46 h36 h45 hd
  generalize l[k] = c at *
  clear h
  go_enter Tryz.func54, Tryz.ntmps54
  go_wp2_with fail
  refine hne.mono ?_
  clear hne
  rintro e w1 ⟨rfl, q1, hw1⟩
  have hb1 : Below w.heap.size w w1 := grown_q hw1
  have H1 := Lib.hid (And.intro (HW.out.keep hb1) (Kr.of (R := R) hb1))
  clear hw1 hb1 HW
  go_wp2_with (first
    | (go_at_call 76; refine (hbe _).mono ?_; rintro e w2 ⟨rfl, rfl⟩)
    | (go_at_call 81; refine (hdi _).mono ?_; rintro e w2 ⟨rfl, rfl⟩))
  have hp := HP.out w1 H1.out.1
  clear HP
  refine hp.mono ?_
  clear hp
  rintro e w3 hp3
  rcases HR.out with ⟨q, hE, hkq, hql, hwq⟩ | ⟨x, y, hE, hwq⟩
  · rw [hE] at hp3
    obtain ⟨k3, rfl, h3⟩ := hp3
    have hpd := passed_c hkq hql hl w3 h3
    have HX := Lib.hid (And.intro hkq (And.intro hql (And.intro hwq (H1.out.2.trans k3))))
    clear k3 h3 hE hkq hql hwq HR H1
    go_wp2_with fail
    refine hpd.mono ?_
    clear hpd
    rintro e w4 ⟨rfl, h4, k4⟩
    have HY := Lib.hid (WordTo.good HX.out.1 HX.out.2.1 HX.out.2.2.1 h4 (HX.out.2.2.2.trans k4))
    clear h4 k4 HX
    go_wp2_with fail
    go_ret2
    exact HY.out
  · rw [hE] at hp3
    obtain ⟨k3, ⟨n, hn0, rfl⟩, k', p', h3⟩ := hp3
    exact ⟨rfl, WordTo.bad hwq h3 (H1.out.2.trans k3) hn0⟩
set_option maxHeartbeats 1000000 in
set_option maxRecDepth 100000 in
theorem word_f {R : Nat} {l : List UInt8} {b : Int} {k : Nat} (hk : k < l.length) (hl : l.length ≤ 4194304) (hb : begB l[k] = false) (h46 : l[k] ≠ 46) (h36 : l[k] ≠ 36) (h45 : l[k] ≠ 45) (hd : digC l[k] = false) (h34 : l[k] ≠ 34) (w : World) (h : Rx R l b k k w) :
    Calls Tryz.prog 54 #[.pointer (some ⟨R, 0, none⟩)] w (WordTo R l b k w) := by
  have hne := next_q hk hl w h 0
  have hbe := fun W => begins_c l[k] W
  rw [hb] at hbe
  have hdi := fun W => digit_o l[k] W
  rw [hd] at hdi
  have b46 : (((l[k]).toNat : Int) == 46) = false := oct_ne (n := 46) h46 (by decide)
  have n46 : ¬ ((l[k]).toNat : Int) = 46 := by rw [beq_eq_false_iff_ne] at b46; exact b46
  have b36 : (((l[k]).toNat : Int) == 36) = false := oct_ne (n := 36) h36 (by decide)
  have n36 : ¬ ((l[k]).toNat : Int) = 36 := by rw [beq_eq_false_iff_ne] at b36; exact b36
  have b45 : (((l[k]).toNat : Int) == 45) = false := oct_ne (n := 45) h45 (by decide)
  have n45 : ¬ ((l[k]).toNat : Int) = 45 := by rw [beq_eq_false_iff_ne] at b45; exact b45
  have b34 : (((l[k]).toNat : Int) == 34) = false := oct_ne (n := 34) h34 (by decide)
  have n34 : ¬ ((l[k]).toNat : Int) = 34 := by rw [beq_eq_false_iff_ne] at b34; exact b34
  have HW := Lib.hid h
  have HR := Lib.hid (word_sign hk hb h46 h36 (by rw [hd]; simp [h45]) h34)
  have HP := Lib.hid (fun W (h : Rx R l b k k W) => passSign_c hk hl W h)
  clear hb h46 h36 h45 hd h34
  generalize l[k] = c at *
  clear h
  go_enter Tryz.func54, Tryz.ntmps54
  go_wp2_with fail
  refine hne.mono ?_
  clear hne
  rintro e w1 ⟨rfl, q1, hw1⟩
  have hb1 : Below w.heap.size w w1 := grown_q hw1
  have H1 := Lib.hid (And.intro (HW.out.keep hb1) (Kr.of (R := R) hb1))
  clear hw1 hb1 HW
  go_wp2_with (first
    | (go_at_call 76; refine (hbe _).mono ?_; rintro e w2 ⟨rfl, rfl⟩)
    | (go_at_call 81; refine (hdi _).mono ?_; rintro e w2 ⟨rfl, rfl⟩))
  have hp := HP.out w1 H1.out.1
  clear HP
  refine hp.mono ?_
  clear hp
  rintro e w3 hp3
  rcases HR.out with ⟨q, hE, hkq, hql, hwq⟩ | ⟨x, y, hE, hwq⟩
  · rw [hE] at hp3
    obtain ⟨k3, rfl, h3⟩ := hp3
    have hpd := passed_c hkq hql hl w3 h3
    have HX := Lib.hid (And.intro hkq (And.intro hql (And.intro hwq (H1.out.2.trans k3))))
    clear k3 h3 hE hkq hql hwq HR H1
    go_wp2_with fail
    refine hpd.mono ?_
    clear hpd
    rintro e w4 ⟨rfl, h4, k4⟩
    have HY := Lib.hid (WordTo.good HX.out.1 HX.out.2.1 HX.out.2.2.1 h4 (HX.out.2.2.2.trans k4))
    clear h4 k4 HX
    go_wp2_with fail
    go_ret2
    exact HY.out
  · rw [hE] at hp3
    obtain ⟨k3, ⟨n, hn0, rfl⟩, k', p', h3⟩ := hp3
    exact ⟨rfl, WordTo.bad hwq h3 (H1.out.2.trans k3) hn0⟩
set_option maxHeartbeats 1000000 in
set_option maxRecDepth 100000 in
theorem word_g {R : Nat} {l : List UInt8} {b : Int} {k : Nat} (hk : k < l.length) (hl : l.length ≤ 4194304) (hc : l[k] = 34) (w : World) (h : Rx R l b k k w) :
    Calls Tryz.prog 54 #[.pointer (some ⟨R, 0, none⟩)] w (WordTo R l b k w) := by
  have hne := next_q hk hl w h 0
  have e1 : ((l[k]).toNat : Int) = 34 := by rw [hc]; rfl
  rw [e1] at hne
  have hbe : ∀ W, Calls Tryz.prog 76 #[.int .u8 34] W fun e w' => e = .returned (.bool false) ∧ W = w' := fun W => begins_c 34 W
  have hdi : ∀ W, Calls Tryz.prog 81 #[.int .u8 34] W fun e w' => e = .returned (.bool false) ∧ W = w' := fun W => digit_o 34 W
  have HW := Lib.hid h
  have HR := Lib.hid (word_str hk hc)
  clear h hc e1
  go_enter Tryz.func54, Tryz.ntmps54
  go_wp2_with fail
  refine hne.mono ?_
  clear hne
  rintro e w1 ⟨rfl, q1, hw1⟩
  have hb1 : Below w.heap.size w w1 := grown_q hw1
  have H1 := Lib.hid (And.intro (HW.out.keep hb1) (Kr.of (R := R) hb1))
  clear hw1 hb1 HW
  go_wp2_with (first
    | (go_at_call 76; refine (hbe _).mono ?_; rintro e w2 ⟨rfl, rfl⟩)
    | (go_at_call 81; refine (hdi _).mono ?_; rintro e w2 ⟨rfl, rfl⟩))
  cases hs : strL (l.drop (k + 1)) with
  | none =>
    have hp := passText_bad hk hl hs w1 H1.out.1
    rw [hs] at HR
    refine hp.mono ?_
    clear hp
    rintro e w3 h3
    obtain ⟨n, _, rfl⟩ := h3.1
    exact ⟨rfl, .inr ⟨⟨_, HR.out⟩, Bad.from H1.out.2 h3⟩⟩
  | some x =>
    obtain ⟨x, rest⟩ := x
    have hp := passText_c hk hl hs w1 H1.out.1
    rw [hs] at HR
    have hr := str_rest _ _ _ hs
    rw [List.length_drop] at hr
    by_cases hx : x.length ≤ 4096
    · have HX : Hid (wordL (l.drop k) = .ok (⟨5, x⟩, l.length - rest.length - k)) := by
        have := HR.out
        dsimp only at this
        rw [if_neg (by omega), List.length_drop, show 1 + (l.length - (k + 1)) - rest.length = l.length - rest.length - k by omega] at this
        exact this
      obtain ⟨q, hq⟩ : ∃ q, q = l.length - rest.length := ⟨_, rfl⟩
      have hkq : k ≤ q := by omega
      have hql : q ≤ l.length := by omega
      rw [← hq] at hp HX
      simp only [if_pos hx] at hp
      refine hp.mono ?_
      clear hp
      rintro e w3 ⟨rfl, h3, k3⟩
      have HY : Hid (WordTo R l b k w (.returned (.tuple #[.int .i64 5, .string (S x)])) w3) := .inl ⟨_, _, HX.out, by omega, rfl, by rw [show k + (q - k) = q by omega]; exact h3, H1.out.2.trans k3⟩
      clear hx hq hr h3 k3 HX HR H1
      go_wp2_with fail
      go_ret2
      exact HY.out
    · simp only [if_neg hx] at hp
      refine hp.mono ?_
      clear hp
      rintro e w3 ⟨rfl, h3, k3⟩
      have hy := HR.out
      dsimp only at hy
      rw [if_pos (by omega)] at hy
      exact ⟨rfl, WordTo.bad hy h3 (H1.out.2.trans k3)⟩
theorem word_all {R : Nat} {l : List UInt8} {b : Int} {k : Nat} (hk : k < l.length) (hl : l.length ≤ 4194304) (w : World) (h : Rx R l b k k w) :
    Calls Tryz.prog 54 #[.pointer (some ⟨R, 0, none⟩)] w (WordTo R l b k w) := by
  cases hb : begB l[k] with
  | true => exact word_a hk hl hb w h
  | false =>
    by_cases h46 : l[k] = 46
    · exact word_b hk hl h46 w h
    · by_cases h36 : l[k] = 36
      · exact word_c hk hl h36 w h
      · by_cases h45 : l[k] = 45
        · exact word_d hk hl h45 w h
        · cases hd : digC l[k] with
          | true => exact word_e hk hl hb h46 h36 h45 hd w h
          | false =>
            by_cases h34 : l[k] = 34
            · exact word_g hk hl h34 w h
            · exact word_f hk hl hb h46 h36 h45 hd h34 w h
end Go.Proofs.YtmccbcficbbidaaGreatDoor.Lxw

/-
  Contracts of faults.Caught at one of its instances, over whatever closure is handed in.
-/
namespace Go.Proofs.YtmccbcficbbidaaGreatDoor.LxwW
open Go.RowKit Go.Proofs.YtmccbcficbbidaaGreatDoor.Oct Go.Proofs.YtmccbcficbbidaaGreatDoor.Lxw

theorem assert_fault (x : Value) (xT : TypeId) (w : World) : (Instr.typeAssert (.iface 94 x) xT 94 true).run Tryz.prog w = .ok (.tuple #[x, .bool true]) w := by kernel_rfl
theorem assert_nil (xT : TypeId) (w : World) : (Instr.typeAssert .nilIface xT 94 true).run Tryz.prog w = .ok (.tuple #[.agg #[.int .i64 0], .bool false]) w := by kernel_rfl

set_option maxHeartbeats 4000000 in
set_option maxRecDepth 100000 in
theorem catch_none (r : Nat) (w : World) :
    CallsD Tryz.prog 52 #[.pointer (some ⟨r, 0, none⟩)] .returning w fun e u' w' =>
      e = .returned (.tuple #[]) ∧ u' = .returning ∧ Below w.heap.size w w' := by
  have hta := assert_nil
  refine callsD_of_wpS Tryz.func52 rfl fun c₀ cs hu => ?_
  apply wpS_seq
  apply wpS_region
  simp [wpOpsS, go_sem, recoverD, hu, Tryz.ntmps52, Exit.thenS]
  refine wpS_of_wp ?_
  simp only [List.replicate, Array.replicate, List.setIfInBounds_toArray, List.set_cons_succ, List.set_cons_zero, List.append_toArray, List.cons_append, List.nil_append]
  go_wp2_with fail
  simp only [bodyPostS]
  exact ⟨trivial, .returning, by cases c₀; simp_all, .tuple #[], by simp [results, Tryz.results52], rfl, rfl, (Below.refl _ w).alloc (Nat.le_refl _) _⟩

set_option maxHeartbeats 400000 in
set_option maxRecDepth 100000 in
theorem catch_fault (r : Nat) (n x : Int) (w : World) (hx : w.cell? ⟨r, 0, none⟩ = some (.int .i64 x)) (hz : w.frozen? ⟨r, 0, none⟩ = false) (hr : r < w.heap.size) :
    CallsD Tryz.prog 52 #[.pointer (some ⟨r, 0, none⟩)] (.panicking [{ v := faultV n, recovered := false }]) w fun e u' w' =>
      e = .returned (.tuple #[]) ∧ u' = .panicking [{ v := faultV n, recovered := true }] ∧ w' = (w.setCell ⟨r, 0, none⟩ (.int .i64 n)).alloc (.cells #[.int .i64 n] 94) := by
  have hb := (Below.refl w.heap.size w).alloc (Nat.le_refl _) (.cells #[.int .i64 n] 94)
  have hx1 := (hb.cell (p := ⟨r, 0, none⟩) hr).trans hx
  have hz1 := (hb.frozen (p := ⟨r, 0, none⟩) hr).trans hz
  have hnc : (w.alloc (.cells #[.int .i64 n] 94)).cell? ⟨w.heap.size, 0, none⟩ = some (.int .i64 n) := cell_of_row _ w.heap.size 0 _ _ _ (heap_alloc_new w _)
  clear hb
  have hta := assert_fault (.agg #[.int .i64 n])
  refine callsD_of_wpS Tryz.func52 rfl fun c₀ cs hu => ?_
  replace hu : c₀.mode = .panicking [{ v := .iface 94 (.agg #[.int .i64 n]), recovered := false }] := hu
  apply wpS_seq
  apply wpS_region
  simp [wpOpsS, go_sem, recoverD, hu, Tryz.ntmps52, Exit.thenS]
  refine wpS_of_wp ?_
  simp only [List.replicate, Array.replicate, List.setIfInBounds_toArray, List.set_cons_succ, List.set_cons_zero, List.append_toArray, List.cons_append, List.nil_append]
  go_wp2_with fail
  show bodyPostS _ _ _ _ _ _ _ _ _
  simp only [bodyPostS]
  exact ⟨trivial, .panicking [{ v := faultV n, recovered := true }], by cases c₀; simp_all, .tuple #[], by simp [results, Tryz.results52], rfl, rfl, (by first | trivial | rfl)⟩

/-- The error's box. -/
abbrev errBox (w : World) : World := w.alloc (.cells #[.int .i64 0] 24)
/-- All that lay in w lies as it lay, but for the block r. -/
structure But (r : Nat) (w w' : World) : Prop where
  os : w'.os = w.os
  tape : w'.tape = w.tape
  output : w'.output = w.output
  size : w.heap.size ≤ w'.heap.size
  block : ∀ k, k < w.heap.size → k ≠ r → w'.heap[k]? = w.heap[k]?
theorem caught_fin {r : Nat} {W X : World} {n : Int} (hbox : W.heap[r]? = some (.cells #[.int .i64 0] 24 (0, 0))) (hX : Below W.heap.size (W.setCell ⟨r, 0, none⟩ (.int .i64 n)) X) :
    But r W X ∧ X.cell? ⟨r, 0, none⟩ = some (.int .i64 n) := by
  have hlt : r < W.heap.size := (Array.getElem?_eq_some_iff.1 hbox).1
  have hset := heap_setCell_same W r 0 _ _ (.int .i64 n) hbox
  have hs : (W.setCell ⟨r, 0, none⟩ (.int .i64 n)).heap.size = W.heap.size := by simp [World.setCell]
  exact ⟨⟨hX.os, hX.tape, hX.output, by have := hX.size; omega, fun k hk hr => (hX.block k hk).trans (heap_setCell_other _ _ _ _ (by simpa using hr))⟩, cell_of_row X r 0 _ _ _ ((hX.block _ hlt).trans hset)⟩

set_option maxHeartbeats 400000 in
set_option maxRecDepth 100000 in
/-- A method's value: what it writes may lie outside; the error's box it leaves alone. -/
theorem caught_any (g : Nat) (lb : Array Value) (w : World) (F : Int → World → Prop) (V : Value → World → Prop) (eg : ∀ args w, (callFunc g args).run Tryz.prog w = .ok (.enter g args) w)
    (hc : Calls Tryz.prog g lb (errBox w) fun e W => W.heap[w.heap.size]? = some (.cells #[.int .i64 0] 24 (0, 0)) ∧ ((∃ n, e = Fault n ∧ F n W) ∨ ∃ v, e = .returned v ∧ V v W)) :
    Calls Tryz.prog 35 #[.func (.func g) lb #[]] w fun e w' => ∃ W, But w.heap.size W w' ∧
      ((∃ n, e = .returned (.tuple #[.slice none 0 0, .int .i64 n]) ∧ F n W) ∨ ∃ v, e = .returned (.tuple #[v, .int .i64 0]) ∧ V v W) := by
  have hmf : ∀ (fn : Fn) (first cap : Array Value) (w : World), (Instr.makeFunc fn first cap).run Tryz.prog w = .ok (.func fn first cap) w := fun _ _ _ _ => rfl
  have hsz : (errBox w).heap.size = w.heap.size + 1 := Array.size_push _
  have HC := Lib.hid hc
  clear hc
  go_enter_defers Tryz.func35, Tryz.ntmps35
  have HF : Hid (∀ W : World, W.heap[w.heap.size]? = some (.cells #[.int .i64 0] 24 (0, 0)) → W.cell? ⟨w.heap.size, 0, none⟩ = some (.int .i64 0) ∧ W.frozen? ⟨w.heap.size, 0, none⟩ = false ∧ w.heap.size < W.heap.size) := fun W hbox =>
    ⟨(cell_of_row W w.heap.size 0 _ _ _ hbox).trans rfl, frozen_of_row W w.heap.size 0 _ _ hbox, (Array.getElem?_eq_some_iff.1 hbox).1⟩
  go_wp2_with (go_at_fn g; refine HC.out.mono ?_; rintro e1 W1 ⟨hb, (⟨n, rfl, hF⟩ | ⟨v, rfl, hV⟩)⟩ <;> obtain ⟨xc, xz, xl⟩ := HF.out W1 hb)
  · refine leaves_cons (f := 52) (args := #[.pointer (some ⟨w.heap.size, 0, none⟩)]) (by simp) (by simp [go_sem]) ?_
    refine (catch_fault w.heap.size n 0 W1 xc xz xl).mono ?_
    rintro e u' w'' ⟨rfl, rfl, hw''⟩
    obtain ⟨f1, f2⟩ := caught_fin hb (n := n) (X := w'') (by rw [hw'']; exact (by simpa using (Below.refl (W1.setCell ⟨w.heap.size, 0, none⟩ (.int .i64 n)).heap.size (W1.setCell ⟨w.heap.size, 0, none⟩ (.int .i64 n))).alloc (Nat.le_refl _) (.cells #[.int .i64 n] 94)))
    clear hw''
    simp [Leaves, settle, results, Tryz.results35, go_sem, f2]
    exact ⟨W1, f1, .inl hF⟩
  · refine leaves_cons (f := 52) (args := #[.pointer (some ⟨w.heap.size, 0, none⟩)]) (by simp) (by simp [go_sem]) ?_
    refine (catch_none w.heap.size _).mono ?_
    rintro e u' w'' ⟨rfl, rfl, hw''⟩
    obtain ⟨f1, f2⟩ := caught_fin hb (n := 0) (X := w'') (by simpa using hw'')
    clear hw''
    simp [Leaves, settle, results, Tryz.results35, go_sem, f2]
    exact ⟨W1, f1, .inr hV⟩
end Go.Proofs.YtmccbcficbbidaaGreatDoor.LxwW
