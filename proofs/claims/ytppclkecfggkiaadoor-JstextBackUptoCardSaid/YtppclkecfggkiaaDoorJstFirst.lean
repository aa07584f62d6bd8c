/-
  Contracts of short and first of package jstext: what a text tells first.
-/
import Derived.Test.YtppclkecfggkiaaDoorJstLeaf
import Derived.Test.YtppclkecfggkiaaDoorPctLeaf
namespace Go.Proofs.YtppclkecfggkiaaDoor.Jst
open Go.RowKit Go.Proofs.YtppclkecfggkiaaDoor.Oct Go.Proofs.YtppclkecfggkiaaDoor.Utf Go.Proofs.YtppclkecfggkiaaDoor.Pct
open Go.Lib (encodeRune)

/-! ### The numbers, as the plain text has them -/
theorem num_mark (d m : UInt8) (u : List UInt8) (k : Nat) (h : d ≠ m) : numL (92 :: d :: u) m k = none := by
  unfold numL
  rw [if_pos (.inr (by
    intro e
    simp at e
    exact h e))]
theorem num_len (l : List UInt8) (m : UInt8) (k : Nat) (h : l.length < 2 + k) : numL l m k = none := by
  unfold numL
  rw [if_pos (.inl h)]
theorem num_x (a b : UInt8) (r : List UInt8) : numL (92 :: 120 :: a :: b :: r) 120 2 = if two a b = true then some ((hc a).toNat * 16 + (hc b).toNat) else none := by
  unfold numL
  rw [if_neg (by rintro (h | h); simp at h; omega; simp at h)]
  have e : ((92 :: 120 :: a :: b :: r).drop 2).take 2 = [a, b] := rfl
  rw [e, unhex_two]
  cases two a b <;> rfl
theorem unhex_four (a b c d : UInt8) : unhexL [a, b, c, d] = if two a b = true ∧ two c d = true then ((((hc a).toNat * 16 + (hc b).toNat) * 16 + (hc c).toNat) * 16 + (hc d).toNat, 0) else (0, 33) := by
  have e1 : unhexL [a, b, c, d] = if [a, b, c, d].all (fun c => decide (0 ≤ hexC c)) then (valL [a, b, c, d], 0) else (0, 33) := by
    unfold unhexL
    rw [if_neg (by simp), if_neg (by simp)]
  have e2 : ([a, b, c, d].all (fun c => decide (0 ≤ hexC c)) = true) = (two a b = true ∧ two c d = true) := by
    unfold two
    simp only [hexC, hc, List.all_cons, List.all_nil, Bool.and_true, Bool.and_eq_true]
    apply propext
    exact ⟨fun h => ⟨decide_eq_true ⟨of_decide_eq_true h.1, of_decide_eq_true h.2.1⟩, decide_eq_true ⟨of_decide_eq_true h.2.2.1, of_decide_eq_true h.2.2.2⟩⟩,
      fun h => ⟨decide_eq_true (of_decide_eq_true h.1).1, decide_eq_true (of_decide_eq_true h.1).2, decide_eq_true (of_decide_eq_true h.2).1, decide_eq_true (of_decide_eq_true h.2).2⟩⟩
  have e3 : valL [a, b, c, d] = (((hc a).toNat * 16 + (hc b).toNat) * 16 + (hc c).toNat) * 16 + (hc d).toNat := by simp [valL, hexC, hc]
  rw [e1, e3]
  by_cases h : two a b = true ∧ two c d = true
  · rw [if_pos h, if_pos (e2.mpr h)]
  · rw [if_neg h, if_neg (fun x => h (e2.mp x))]
theorem four_short (u : List UInt8) (h : u.length < 4) : four u = none := by
  match u, h with
  | [], _ => rfl
  | [_], _ => rfl
  | [_, _], _ => rfl
  | [_, _, _], _ => rfl
  | _ :: _ :: _ :: _ :: _, h => simp at h; omega
theorem num_u (l : List UInt8) : numL l 117 4 = uniAt l := by
  match l with
  | [] => rfl
  | [c] => rw [num_len _ _ _ (by simp)]; unfold uniAt; split <;> simp_all
  | c :: d :: u =>
    by_cases hc2 : c = 92 ∧ d = 117
    · obtain ⟨rfl, rfl⟩ := hc2
      show _ = four u
      by_cases h4 : u.length < 4
      · rw [four_short u h4, num_len _ _ _ (by simp; omega)]
      · match u, h4 with
        | a :: b :: c :: d :: r, _ =>
          unfold numL
          rw [if_neg (by rintro (h | h); simp at h; omega; simp at h)]
          have e : ((92 :: 117 :: a :: b :: c :: d :: r).drop 2).take 4 = [a, b, c, d] := rfl
          rw [e, unhex_four]
          show _ = if _ then _ else _
          by_cases h : two a b = true ∧ two c d = true
          · rw [if_pos h, if_pos h]; rfl
          · rw [if_neg h, if_neg h]; rfl
        | [], h => exact absurd (by simp) h
        | [_], h => exact absurd (by simp) h
        | [_, _], h => exact absurd (by simp) h
        | [_, _, _], h => exact absurd (by simp) h
    · have e1 : numL (c :: d :: u) 117 4 = none := by
        unfold numL
        rw [if_pos (.inr (by
          intro e
          simp at e
          exact hc2 e))]
      rw [e1]
      unfold uniAt
      split
      · rename_i heq
        injection heq with h1 h2
        injection h2 with h2 _
        exact absurd ⟨h1, h2⟩ hc2
      · rfl

/-- What a sign that no number is behind tells. -/
def slashS : List UInt8 → List UInt8 × Nat
  | [] => ([], 0)
  | d :: _ => if d = 117 ∨ d = 120 ∨ digitI (d.toNat : Int) = true ∨ d = 10 ∨ d = 13 then ([], 0) else ([short d], 2)
/-- What a sign tells: a character below 256, one of 16 bits, a pair, or an octet. -/
theorem head_x (t : List UInt8) (n : Nat) (h : numL (92 :: t) 120 2 = some n) : headJ (92 :: t) = (lone n, 4) ∧ n < 256 := by
  match t, h with
  | [], h => rw [num_len _ _ _ (by simp)] at h; cases h
  | d :: u, h =>
    by_cases hd : d = 120
    · subst hd
      match u, h with
      | [], h => rw [num_len _ _ _ (by simp)] at h; cases h
      | [_], h => rw [num_len _ _ _ (by simp)] at h; cases h
      | a :: b :: r, h =>
        rw [num_x] at h
        by_cases h2 : two a b = true
        · rw [if_pos h2] at h
          have ha := hc_le a
          have hb := hc_le b
          have hn : (hc a).toNat * 16 + (hc b).toNat = n := Option.some.inj h
          have hl : n < 256 := by omega
          refine ⟨?_, hl⟩
          rw [headJ_cons, if_pos rfl, slashJ_cons, if_neg (by decide), if_pos rfl]
          show (if _ then _ else _) = _
          rw [if_pos h2, hn]
          unfold lone
          rw [if_neg (by omega)]
        · rw [if_neg h2] at h; cases h
    · rw [num_mark _ _ _ _ hd] at h; cases h
theorem head_u (t : List UInt8) (h : numL (92 :: t) 120 2 = none) :
    headJ (92 :: t) = match uniAt (92 :: t) with
      | none => slashS t
      | some n => match uniAt ((92 :: t).drop 6) with
        | some m => if (55296 ≤ n ∧ n < 56320) ∧ (56320 ≤ m ∧ m < 57344) then (lone (65536 + (n - 55296) * 1024 + (m - 56320)), 12) else (lone n, 6)
        | none => (lone n, 6) := by
  match t, h with
  | [], _ => rfl
  | d :: u, h =>
    rw [headJ_cons, if_pos rfl, slashJ_cons]
    by_cases h1 : d = 117
    · subst h1
      rw [if_pos rfl]
      show uJ u = match four u with
        | none => _
        | some n => _
      unfold uJ
      cases h4 : four u with
      | none => rfl
      | some n =>
        show _ = match uniAt (u.drop 4) with
          | some m => _
          | none => _
        cases hu : uniAt (u.drop 4) with
        | none => rfl
        | some m =>
          simp only
          by_cases hp : (55296 ≤ n ∧ n < 56320) ∧ (56320 ≤ m ∧ m < 57344)
          · rw [if_pos hp, if_pos hp]
            unfold lone
            rw [if_neg (by omega)]
          · rw [if_neg hp, if_neg hp]
    · rw [if_neg h1]
      have hu : uniAt (92 :: d :: u) = none := by
        unfold uniAt
        split
        · rename_i heq
          injection heq with _ h2
          injection h2 with h2 _
          exact absurd h2 h1
        · rfl
      rw [hu]
      show _ = if _ then _ else _
      by_cases h2 : d = 120
      · subst h2
        rw [if_pos rfl, if_pos (.inr (.inl rfl))]
        match u, h with
        | [], _ => rfl
        | [_], _ => rfl
        | a :: b :: r, h =>
          rw [num_x] at h
          show (if _ then _ else _) = _
          by_cases h2 : two a b = true
          · rw [if_pos h2] at h; cases h
          · rw [if_neg h2]
      · rw [if_neg h2]
        by_cases h3 : digitI (d.toNat : Int) = true ∨ d = 10 ∨ d = 13
        · rw [if_pos h3, if_pos (.inr (.inr h3))]
        · rw [if_neg h3, if_neg (by rintro (h | h | h); exact h1 h; exact h2 h; exact h3 h)]

/-! ### short -/
abbrev neverL : List UInt8 := [48, 49, 50, 51, 52, 53, 54, 55, 56, 57, 117, 120, 10, 13]
abbrev namesL : List UInt8 := [98, 116, 110, 118, 102, 114]
abbrev textsL : List UInt8 := [8, 9, 10, 11, 12, 13]
theorem never_t : ∀ k : Fin 256, decide (0 ≤ Lib.indexByte neverL (UInt8.ofNat k.val)) = decide (UInt8.ofNat k.val = 117 ∨ UInt8.ofNat k.val = 120 ∨ digitI ((UInt8.ofNat k.val).toNat : Int) = true ∨ UInt8.ofNat k.val = 10 ∨ UInt8.ofNat k.val = 13) := by decide +kernel
theorem never_d (d : UInt8) : decide (0 ≤ Lib.indexByte neverL d) = decide (d = 117 ∨ d = 120 ∨ digitI (d.toNat : Int) = true ∨ d = 10 ∨ d = 13) := by
  have h := never_t ⟨d.toNat, d.toNat_lt⟩
  simpa using h
theorem names_t : ∀ k : Fin 256, (if 0 ≤ Lib.indexByte namesL (UInt8.ofNat k.val) then Lib.indexByte namesL (UInt8.ofNat k.val) < 6 ∧ (textsL.drop (Lib.indexByte namesL (UInt8.ofNat k.val)).toNat).take 1 = [short (UInt8.ofNat k.val)] else short (UInt8.ofNat k.val) = UInt8.ofNat k.val) := by decide +kernel
theorem names_d (d : UInt8) : if 0 ≤ Lib.indexByte namesL d then Lib.indexByte namesL d < 6 ∧ (textsL.drop (Lib.indexByte namesL d).toNat).take 1 = [short d] else short d = d := by
  have h := names_t ⟨d.toNat, d.toNat_lt⟩
  simpa using h
theorem index_c (s : List UInt8) (d : UInt8) (w : World) :
    Calls Tryd.prog 33 #[.string (S s), .int .u8 (d.toNat : Int)] w fun e w' => e = .returned (.int .i64 (Lib.indexByte s d)) ∧ w' = w := by
  have := Tryd.strings_IndexByte (S s) (d.toNat : Int) w
  rwa [list_S, show ((d.toNat : Int)).toNat.toUInt8 = d by simp] at this

set_option maxRecDepth 100000 in
theorem short_c (t : List UInt8) (hn : t.length ≤ 140737488355328) (w : World) :
    Calls Tryd.prog 48 #[.string (S (92 :: t))] w fun e w' => e = .returned (.tuple #[.string (S (slashS t).1), .int .i64 ((slashS t).2 : Int)]) ∧ Below w.heap.size w w' := by
  match t, hn with
  | [], _ =>
    have hz : ((S [92]).size : Int) = 1 := by rw [size_S]; rfl
    go_enter Tryd.func48, Tryd.ntmps48
    go_wp2_with fail
    go_ret2
    exact ⟨rfl, Below.refl _ _⟩
  | d :: u, hn =>
    rw [List.length_cons] at hn
    have hz : ((S (92 :: d :: u)).size : Int) = (u.length : Int) + 2 := by rw [size_S]; rfl
    have hzz : ¬ ((u.length : Int) + 2 < 2) := by omega
    have h1 : (S (92 :: d :: u))[1]'(by rw [size_S]; simp) = d := rfl
    have hx : (S (92 :: d :: u)).extract 1 2 = S [d] := by rw [cutOf]; rfl
    have hlu : (u.length : Int) ≤ 140737488355328 := by omega
    have hi1 := fun w => index_c neverL d w
    have hi2 := fun w => index_c namesL d w
    have hnv := never_d d
    have hnm := names_d d
    have hcut : ∀ q : Int, 0 ≤ q → (S textsL).extract q.toNat (q + 1).toNat = S ((textsL.drop q.toNat).take 1) := fun q hq => by
      rw [cutOf, show (q + 1).toNat - q.toNat = 1 by omega]
    have ez : ((S textsL).size : Int) = 6 := rfl
    generalize Lib.indexByte neverL d = q1 at hi1 hnv
    generalize Lib.indexByte namesL d = q2 at hi2 hnm
    have hS : slashS (d :: u) = if d = 117 ∨ d = 120 ∨ digitI (d.toNat : Int) = true ∨ d = 10 ∨ d = 13 then ([], 0) else ([short d], 2) := rfl
    rw [hS]
    by_cases hv : d = 117 ∨ d = 120 ∨ digitI (d.toNat : Int) = true ∨ d = 10 ∨ d = 13
    · rw [if_pos hv]
      have hq : 0 ≤ q1 := by rw [decide_eq_true hv] at hnv; exact of_decide_eq_true hnv
      clear hnv hv hnm hS hn hi2 hcut ez hx
      go_enter Tryd.func48, Tryd.ntmps48
      go_wp2_with (go_at_call 33; refine (hi1 _).mono ?_; rintro e w1 ⟨rfl, rfl⟩)
      go_ret2
      exact ⟨rfl, Below.refl _ _⟩
    · rw [if_neg hv]
      have hq : ¬ (0 ≤ q1) := by rw [decide_eq_false hv] at hnv; exact of_decide_eq_false hnv
      clear hnv hv hS hn
      by_cases h2 : 0 ≤ q2
      · rw [if_pos h2] at hnm
        have hc := hcut q2 h2
        rw [hnm.2] at hc
        have h6 := hnm.1
        have a1 : q2 ≤ q2 + 1 := by omega
        have a2 : q2 + 1 ≤ 6 := by omega
        generalize S [short d] = T at hc ⊢
        clear hnm hcut hx
        go_enter Tryd.func48, Tryd.ntmps48
        go_wp2_with (first
          | (go_at_call 33; refine (hi1 _).mono ?_; rintro e w1 ⟨rfl, rfl⟩)
          | (go_at_call 33; refine (hi2 _).mono ?_; rintro e w1 ⟨rfl, rfl⟩))
        go_ret2
        exact ⟨rfl, Below.refl _ _⟩
      · rw [if_neg h2] at hnm
        rw [hnm]
        clear hnm hcut ez
        go_enter Tryd.func48, Tryd.ntmps48
        go_wp2_with (first
          | (go_at_call 33; refine (hi1 _).mono ?_; rintro e w1 ⟨rfl, rfl⟩)
          | (go_at_call 33; refine (hi2 _).mono ?_; rintro e w1 ⟨rfl, rfl⟩))
        go_ret2
        exact ⟨rfl, Below.refl _ _⟩
end Go.Proofs.YtppclkecfggkiaaDoor.Jst
