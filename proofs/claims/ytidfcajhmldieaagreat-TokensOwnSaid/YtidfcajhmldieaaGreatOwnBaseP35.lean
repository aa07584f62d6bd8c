/-
  Part 35: RefNames.
-/
import Derived.Test.YtidfcajhmldieaaGreatOwnBaseP29
import Derived.Test.YtidfcajhmldieaaGreatOwnBaseP34
/-
  Contracts of the page's answers on names, on how a text begins, and on trimmed texts.
-/
namespace Go.Proofs.YtidfcajhmldieaaGreat.Oct
open Go.RowKit

theorem rbegins_c (p s : ByteArray) (w : World) :
    Calls Tryz.prog 27 #[.string p, .string s] w fun e w' => e = .returned (.bool (beginsB p.data.toList s.data.toList)) ∧ w = w' := by
  by_cases hl : p.size ≤ s.size
  · have hx : Hid (beginsB p.data.toList s.data.toList = ((s.extract 0 p.size).toList == p.toList)) := by
      show _ = _
      unfold beginsB
      rw [size_list, size_list, decide_eq_true hl, Bool.true_and, ByteArray.toList_eq, ByteArray.toList_eq, Lib.extract_data, List.drop_zero, Nat.sub_zero]
    go_enter Tryz.func27, Tryz.ntmps27
    go_wp2
    go_ret
    exact ⟨ret_bool hx.out.symm, rfl⟩
  · have hl' : decide ((p.size : Int) ≤ (s.size : Int)) = false := by simp; omega
    have hx : Hid (beginsB p.data.toList s.data.toList = false) := by
      show _ = _
      unfold beginsB
      rw [size_list, size_list, decide_eq_false hl, Bool.false_and]
    go_enter Tryz.func27, Tryz.ntmps27
    go_wp2
    go_ret
    exact ⟨ret_bool hx.out.symm, rfl⟩

theorem starts_begins (s p : List UInt8) : beginsB (p.map low) (s.map low) = startsB s p := by
  unfold beginsB startsB
  simp only [List.length_map]

theorem rstarts_c (s p : ByteArray) (w : World) (hs : s.size ≤ 140737488351232) (hp : p.size ≤ 140737488351232) :
    Calls Tryz.prog 28 #[.string s, .string p] w fun e w' => e = .returned (.bool (startsB s.data.toList p.data.toList)) ∧ Below w.heap.size w w' := by
  have h1 := fun w => rlower_c p w hp
  have h2 := fun w => rlower_c s w hs
  have h3 := fun w => rbegins_c (S (p.data.toList.map low)) (S (s.data.toList.map low)) w
  have hx : Hid (beginsB (S (p.data.toList.map low)).data.toList (S (s.data.toList.map low)).data.toList = startsB s.data.toList p.data.toList) := by
    show _ = _
    rw [list_S, list_S, starts_begins]
  generalize beginsB (S (p.data.toList.map low)).data.toList (S (s.data.toList.map low)).data.toList = r at h3 hx
  generalize S (p.data.toList.map low) = x at h1 h3
  generalize S (s.data.toList.map low) = y at h2 h3
  go_enter Tryz.func28, Tryz.ntmps28
  go_wp2_with fail
  refine (h1 w).mono ?_
  rintro e w1 ⟨rfl, hb1⟩
  go_wp2_with fail
  refine (h2 w1).mono ?_
  rintro e w2 ⟨rfl, hb2⟩
  go_wp2_with fail
  refine (h3 w2).mono ?_
  rintro e w3 ⟨rfl, rfl⟩
  go_wp2_with fail
  go_ret
  exact ⟨ret_bool hx.out, hb1.trans (hb2.mono hb1.size)⟩

theorem dropWhile_at (q : UInt8 → Bool) (l : List UInt8) (a : Nat) (h1 : ∀ j, j < a → ∀ c, l[j]? = some c → q c = true) (h2 : ∀ c, l[a]? = some c → q c = false) : l.dropWhile q = l.drop a := by
  induction l generalizing a with
  | nil => simp
  | cons c l ih =>
    cases a with
    | zero =>
      have := h2 c (by simp)
      simp [this]
    | succ a =>
      have h0 := h1 0 (by omega) c (by simp)
      simp only [List.dropWhile_cons, h0, if_true, List.drop_succ_cons]
      exact ih a (fun j hj c' hc => h1 (j + 1) (by omega) c' (by simpa using hc)) (fun c' hc => h2 c' (by simpa using hc))

/-- What two places tell of a trimmed text. -/
theorem trim_at (l : List UInt8) (a b : Nat) (hab : a ≤ b) (hb : b ≤ l.length) (h1 : ∀ j, j < a → ∀ c, l[j]? = some c → bl c = true) (h2 : a < l.length → ∀ c, l[a]? = some c → bl c = false)
    (h3 : ∀ j, b ≤ j → ∀ c, l[j]? = some c → bl c = true) (h4 : a < b → ∀ c, l[b - 1]? = some c → bl c = false) : (l.drop a).take (b - a) = trimL l := by
  unfold trimL
  have e1 : l.dropWhile bl = l.drop a := dropWhile_at bl l a h1 (fun c hc => by
    by_cases h : a < l.length
    · exact h2 h c hc
    · rw [List.getElem?_eq_none (by omega)] at hc; cases hc)
  rw [e1]
  have hr : ∀ j, (l.drop a).reverse[j]? = if j < l.length - a then l[l.length - 1 - j]? else none := by
    intro j
    by_cases hj : j < l.length - a
    · rw [if_pos hj, List.getElem?_reverse (by rw [List.length_drop]; exact hj), List.length_drop, List.getElem?_drop]
      congr 1
      omega
    · rw [if_neg hj, List.getElem?_eq_none (by rw [List.length_reverse, List.length_drop]; omega)]
  have e2 : (l.drop a).reverse.dropWhile bl = (l.drop a).reverse.drop (l.length - b) := dropWhile_at bl _ _ (fun j hj c hc => by
    rw [hr] at hc
    split at hc
    · exact h3 _ (by omega) c hc
    · cases hc) (fun c hc => by
    rw [hr] at hc
    split at hc
    · have e : l.length - 1 - (l.length - b) = b - 1 := by omega
      rw [e] at hc
      exact h4 (by omega) c hc
    · cases hc)
  rw [e2, List.reverse_drop, List.reverse_reverse, List.length_reverse, List.length_drop]
  congr 1
  omega

theorem get_at (s : ByteArray) (k : Nat) (h : k < s.size) : s.data.toList[k]? = some s[k] := by
  rw [List.getElem?_eq_getElem (by rw [size_list]; exact h)]; rfl

end Go.Proofs.YtidfcajhmldieaaGreat.Oct
