/-
  Plain facts on texts within a script's quotes, with no program: a text escaped, a text decoded, which texts are safe.
-/
import Derived.Test.YtppclkecfggkiaaDoorPctPure
namespace Go.Proofs.YtppclkecfggkiaaDoor.Jst
open Go.Proofs.YtppclkecfggkiaaDoor.Oct Go.Proofs.YtppclkecfggkiaaDoor.Utf Go.Proofs.YtppclkecfggkiaaDoor.Pct
open Go.Lib (encodeRune)

/-- What stays: letters, digits, blank, underscore, point and comma. -/
def keepI (n : Int) : Bool := letterI n || digitI n || decide (n = 32 ∨ n = 95 ∨ n = 46 ∨ n = 44)
/-- A number of 16 bits as \u and four digits. -/
def uni (n : Nat) : List UInt8 := 92 :: 117 :: hexL n 4
/-- A character, escaped. -/
def escC (c : Int) : List UInt8 :=
  if keepI c = true then [c.toNat.toUInt8] else if c < 65536 then uni c.toNat
  else uni (55296 + (c.toNat - 65536) / 1024) ++ uni (56320 + (c.toNat - 65536) % 1024)
def escJ (cs : List Int) : List UInt8 := cs.flatMap escC

/-- The number of four digits of base 16 at a text's head. -/
def four : List UInt8 → Option Nat
  | a :: b :: c :: d :: _ => if two a b = true ∧ two c d = true then some ((((hc a).toNat * 16 + (hc b).toNat) * 16 + (hc c).toNat) * 16 + (hc d).toNat) else none
  | _ => none
/-- Four digits behind \u at a text's head. -/
def uniAt : List UInt8 → Option Nat
  | 92 :: 117 :: t => four t
  | _ => none
/-- A unit of UTF-16 alone: a half is none. -/
def lone (n : Nat) : List UInt8 := if 55296 ≤ n ∧ n < 57344 then encodeRune 65533 else encodeRune (n : Int)
/-- The octet that stands for one of b t n v f r. -/
def short (d : UInt8) : UInt8 := if d = 98 then 8 else if d = 116 then 9 else if d = 110 then 10 else if d = 118 then 11 else if d = 102 then 12 else if d = 114 then 13 else d
/-- What stands behind \u tells, and how many octets tell it, those two among them. -/
def uJ (u : List UInt8) : List UInt8 × Nat := match four u with
  | none => ([], 0)
  | some n => match uniAt (u.drop 4) with
    | some m => if (55296 ≤ n ∧ n < 56320) ∧ (56320 ≤ m ∧ m < 57344) then (encodeRune ((65536 + (n - 55296) * 1024 + (m - 56320) : Nat) : Int), 12) else (lone n, 6)
    | none => (lone n, 6)
def xJ : List UInt8 → List UInt8 × Nat
  | a :: b :: _ => if two a b = true then (encodeRune (((hc a).toNat * 16 + (hc b).toNat : Nat) : Int), 4) else ([], 0)
  | _ => ([], 0)
def slashJ : List UInt8 → List UInt8 × Nat
  | [] => ([], 0)
  | d :: u => if d = 117 then uJ u else if d = 120 then xJ u else if digitI (d.toNat : Int) = true ∨ d = 10 ∨ d = 13 then ([], 0) else ([short d], 2)
/-- What a text tells first, and how many octets of it tell that: 0: none, it is wrong there. -/
def headJ : List UInt8 → List UInt8 × Nat
  | [] => ([], 0)
  | c :: t => if c = 92 then slashJ t else if c = 10 ∨ c = 13 ∨ c = 34 ∨ c = 39 then ([], 0) else ([c], 1)
theorem headJ_cons (c : UInt8) (t : List UInt8) : headJ (c :: t) = if c = 92 then slashJ t else if c = 10 ∨ c = 13 ∨ c = 34 ∨ c = 39 then ([], 0) else ([c], 1) := rfl
theorem slashJ_cons (d : UInt8) (u : List UInt8) : slashJ (d :: u) = if d = 117 then uJ u else if d = 120 then xJ u else if digitI (d.toNat : Int) = true ∨ d = 10 ∨ d = 13 then ([], 0) else ([short d], 2) := rfl
theorem uJ_none {u : List UInt8} (h : four u = none) : uJ u = ([], 0) := by unfold uJ; rw [h]
theorem uJ_some {u : List UInt8} {n : Nat} (h : four u = some n) (hp : ∀ m, uniAt (u.drop 4) = some m → ¬ ((55296 ≤ n ∧ n < 56320) ∧ (56320 ≤ m ∧ m < 57344))) : uJ u = (lone n, 6) := by
  unfold uJ
  rw [h]
  cases hu : uniAt (u.drop 4) with
  | none => rfl
  | some m => show (if _ then _ else _) = _; rw [if_neg (hp m hu)]
theorem uJ_pair {u : List UInt8} {n m : Nat} (h : four u = some n) (hu : uniAt (u.drop 4) = some m) (hp : (55296 ≤ n ∧ n < 56320) ∧ (56320 ≤ m ∧ m < 57344)) :
    uJ u = (encodeRune ((65536 + (n - 55296) * 1024 + (m - 56320) : Nat) : Int), 12) := by
  unfold uJ
  rw [h]
  simp only [hu]
  rw [if_pos hp]

/-- What a text tells up to where it is wrong, and the place of that, or the text's length. -/
def tellJF : Nat → List UInt8 → List UInt8 × Nat
  | 0, _ => ([], 0)
  | n + 1, l => if (headJ l).2 = 0 then ([], 0) else ((headJ l).1 ++ (tellJF n (l.drop (headJ l).2)).1, (headJ l).2 + (tellJF n (l.drop (headJ l).2)).2)
def tellJ (l : List UInt8) : List UInt8 × Nat := tellJF l.length l

theorem four_len {l : List UInt8} {n : Nat} (h : four l = some n) : 4 ≤ l.length := by
  match l, h with
  | _ :: _ :: _ :: _ :: _, _ => simp
theorem uni_len {l : List UInt8} {n : Nat} (h : uniAt l = some n) : 6 ≤ l.length := by
  unfold uniAt at h
  split at h
  · have := four_len h
    simp; omega
  · cases h
theorem uJ_len (u : List UInt8) : (uJ u).2 ≤ u.length + 2 := by
  cases h4 : four u with
  | none => rw [uJ_none h4]; exact Nat.zero_le _
  | some n =>
    have l4 := four_len h4
    unfold uJ
    rw [h4]
    cases hu : uniAt (u.drop 4) with
    | none => show 6 ≤ _; omega
    | some m =>
      have l6 := uni_len hu
      rw [List.length_drop] at l6
      simp only
      split <;> simp only <;> omega
theorem xJ_len (u : List UInt8) : (xJ u).2 ≤ u.length + 2 := by
  unfold xJ
  split
  · split
    · simp only [List.length_cons]; omega
    · exact Nat.zero_le _
  · exact Nat.zero_le _
theorem headJ_len (l : List UInt8) : (headJ l).2 ≤ l.length := by
  match l with
  | [] => exact Nat.le_refl _
  | c :: t =>
    rw [headJ_cons]
    by_cases h1 : c = 92
    · rw [if_pos h1]
      match t with
      | [] => exact Nat.zero_le _
      | d :: u =>
        rw [slashJ_cons]
        by_cases h2 : d = 117
        · rw [if_pos h2]; exact uJ_len u
        · rw [if_neg h2]
          by_cases h3 : d = 120
          · rw [if_pos h3]; exact xJ_len u
          · rw [if_neg h3]
            split
            · exact Nat.zero_le _
            · simp only [List.length_cons]; omega
    · rw [if_neg h1]
      split
      · exact Nat.zero_le _
      · simp only [List.length_cons]; omega
theorem tellJ_fuel : ∀ (n m : Nat) (l : List UInt8), l.length ≤ n → l.length ≤ m → tellJF n l = tellJF m l
  | 0, 0, _, _, _ => rfl
  | 0, m + 1, l, hn, _ => by
    have : l = [] := List.eq_nil_of_length_eq_zero (by omega)
    subst this; rfl
  | n + 1, 0, l, _, hm => by
    have : l = [] := List.eq_nil_of_length_eq_zero (by omega)
    subst this; rfl
  | n + 1, m + 1, l, hn, hm => by
    unfold tellJF
    by_cases hz : (headJ l).2 = 0
    · rw [if_pos hz, if_pos hz]
    · rw [if_neg hz, if_neg hz, tellJ_fuel n m (l.drop (headJ l).2) (by rw [List.length_drop]; omega) (by rw [List.length_drop]; omega)]
theorem tellJ_stop {l : List UInt8} (h : (headJ l).2 = 0) : tellJ l = ([], 0) := by
  unfold tellJ
  cases hl : l.length with
  | zero => rfl
  | succ n => unfold tellJF; rw [if_pos h]
theorem tellJ_step {l : List UInt8} (h : (headJ l).2 ≠ 0) : tellJ l = ((headJ l).1 ++ (tellJ (l.drop (headJ l).2)).1, (headJ l).2 + (tellJ (l.drop (headJ l).2)).2) := by
  have hh := headJ_len l
  unfold tellJ
  obtain ⟨n, hn⟩ : ∃ n, l.length = n + 1 := ⟨l.length - 1, by omega⟩
  rw [hn]
  show (if (headJ l).2 = 0 then _ else _) = _
  rw [if_neg h, tellJ_fuel n (l.drop (headJ l).2).length _ (by rw [List.length_drop]; omega) (Nat.le_refl _)]

/-! ### Escaped -/
theorem keep_small (c : Int) (h : keepI c = true) : 0 ≤ c ∧ c < 128 := by
  unfold keepI letterI digitI at h
  simp at h
  omega
theorem dig_hc (d : Nat) (h : d < 16) : hc (hexDig d) = (d : Int) := by
  have h1 : ∀ d : Fin 16, hc (hexDig d.val) = (d.val : Int) := by decide +kernel
  exact h1 ⟨d, h⟩
theorem two_dig (a b : Nat) (ha : a < 16) (hb : b < 16) : two (hexDig a) (hexDig b) = true := by
  refine decide_eq_true ?_
  rw [dig_hc a ha, dig_hc b hb]
  omega
theorem hexL4 (u : Nat) : hexL u 4 = [hexDig (u / 4096 % 16), hexDig (u / 256 % 16), hexDig (u / 16 % 16), hexDig (u % 16)] := by
  rw [hexL_cons, hexL_cons, hexL_cons, hexL_cons]
  simp [hexL]
theorem four_hex (u : Nat) (h : u < 65536) (t : List UInt8) : four (hexL u 4 ++ t) = some u := by
  rw [hexL4]
  show (if two _ _ = true ∧ two _ _ = true then some _ else none) = some u
  rw [if_pos ⟨two_dig _ _ (Nat.mod_lt _ (by decide)) (Nat.mod_lt _ (by decide)), two_dig _ _ (Nat.mod_lt _ (by decide)) (Nat.mod_lt _ (by decide))⟩]
  rw [dig_hc _ (Nat.mod_lt _ (by decide)), dig_hc _ (Nat.mod_lt _ (by decide)), dig_hc _ (Nat.mod_lt _ (by decide)), dig_hc _ (Nat.mod_lt _ (by decide))]
  congr 1
  omega
theorem headJ_u (u : List UInt8) : headJ (92 :: 117 :: u) = uJ u := rfl
theorem headJ_uni (n : Nat) (h : n < 65536) (hl : ¬ (55296 ≤ n ∧ n < 56320)) (t : List UInt8) : headJ (uni n ++ t) = (lone n, 6) := by
  unfold uni
  rw [List.cons_append, List.cons_append, headJ_u]
  exact uJ_some (four_hex n h t) (fun m _ h => hl h.1)
theorem headJ_pair (n m : Nat) (hn : 55296 ≤ n ∧ n < 56320) (hm : 56320 ≤ m ∧ m < 57344) (t : List UInt8) :
    headJ ((uni n ++ uni m) ++ t) = (encodeRune ((65536 + (n - 55296) * 1024 + (m - 56320) : Nat) : Int), 12) := by
  have e : (uni n ++ uni m) ++ t = 92 :: 117 :: (hexL n 4 ++ (uni m ++ t)) := by unfold uni; simp
  rw [e, headJ_u]
  refine uJ_pair (four_hex n (by omega) _) ?_ ⟨hn, hm⟩
  rw [List.drop_append_of_le_length (by rw [hexL_length]; exact Nat.le_refl 4), List.drop_of_length_le (by rw [hexL_length]; exact Nat.le_refl 4), List.nil_append]
  exact four_hex m (by omega) t
theorem headJ_keep (c : UInt8) (t : List UInt8) (h : keepI (c.toNat : Int) = true) : headJ (c :: t) = ([c], 1) := by
  have h1 : ∀ c : Fin 256, keepI ((UInt8.ofNat c.val).toNat : Int) = true → ¬ (UInt8.ofNat c.val = 92) ∧ ¬ (UInt8.ofNat c.val = 10 ∨ UInt8.ofNat c.val = 13 ∨ UInt8.ofNat c.val = 34 ∨ UInt8.ofNat c.val = 39) := by decide +kernel
  have h2 := h1 ⟨c.toNat, c.toNat_lt⟩
  simp only [UInt8.ofNat_toNat] at h2
  have h3 := h2 h
  rw [headJ_cons, if_neg h3.1, if_neg h3.2]
theorem uni_length (n : Nat) : (uni n).length = 6 := by unfold uni; simp [hexL_length]
/-- A character's escape tells it, whatever is behind. -/
theorem headJ_esc (c : Int) (h : isChar c) (t : List UInt8) : headJ (escC c ++ t) = (encodeRune c, (escC c).length) := by
  obtain ⟨n, rfl, hn⟩ := isChar_nat h
  unfold isChar at hn
  unfold escC
  by_cases hk : keepI (n : Int) = true
  · have hs := keep_small _ hk
    rw [if_pos hk]
    have e1 : ((n : Int).toNat.toUInt8).toNat = n := by
      rw [Int.toNat_natCast, Nat.toUInt8_eq, UInt8.toNat_ofNat_of_lt' (by show n < 256; omega)]
    have e2 := headJ_keep ((n : Int).toNat.toUInt8) t (by rw [e1]; exact hk)
    have e3 := enc_small ((n : Int).toNat.toUInt8) (by rw [e1]; omega)
    rw [e1] at e3
    rw [e3]
    exact e2
  · rw [if_neg hk]
    by_cases h16 : (n : Int) < 65536
    · rw [if_pos h16, Int.toNat_natCast, headJ_uni n (by omega) (by omega), uni_length]
      unfold lone
      rw [if_neg (by omega)]
    · rw [if_neg h16, Int.toNat_natCast, headJ_pair _ _ (by omega) (by omega), List.length_append, uni_length, uni_length]
      have e : 65536 + (55296 + (n - 65536) / 1024 - 55296) * 1024 + (56320 + (n - 65536) % 1024 - 56320) = n := by omega
      rw [e]
theorem escC_pos (c : Int) : (escC c).length ≠ 0 := by
  unfold escC
  split
  · simp
  · split
    · rw [uni_length]; simp
    · rw [List.length_append, uni_length, uni_length]; simp
theorem escC_len (c : Int) : (escC c).length ≤ 12 := by
  unfold escC
  split
  · simp
  · split
    · rw [uni_length]; simp
    · rw [List.length_append, uni_length, uni_length]; exact Nat.le_refl _
theorem escJ_len (cs : List Int) : (escJ cs).length ≤ 12 * cs.length := by
  induction cs with
  | nil => simp [escJ]
  | cons c r ih =>
    have := escC_len c
    unfold escJ at ih ⊢
    rw [List.flatMap_cons, List.length_append, List.length_cons]; omega
theorem escJ_snoc (cs : List Int) (c : Int) : escJ (cs ++ [c]) = escJ cs ++ escC c := by simp [escJ]
theorem escJ_append (a b : List Int) : escJ (a ++ b) = escJ a ++ escJ b := by simp [escJ]
/-- What is escaped tells the characters, whatever is behind. -/
theorem tellJ_front (cs : List Int) (h : ∀ c ∈ cs, isChar c) (t : List UInt8) : tellJ (escJ cs ++ t) = (encs cs ++ (tellJ t).1, (escJ cs).length + (tellJ t).2) := by
  induction cs with
  | nil => simp [escJ, encs]
  | cons c r ih =>
    have e : escJ (c :: r) ++ t = escC c ++ (escJ r ++ t) := by unfold escJ; rw [List.flatMap_cons, List.append_assoc]
    have hh := headJ_esc c (h c (by simp)) (escJ r ++ t)
    have hp := escC_pos c
    rw [e, tellJ_step (by rw [hh]; exact hp), hh]
    show (encodeRune c ++ (tellJ ((escC c ++ (escJ r ++ t)).drop (escC c).length)).1, (escC c).length + (tellJ ((escC c ++ (escJ r ++ t)).drop (escC c).length)).2) = _
    rw [List.drop_left, ih (fun d hd => h d (by simp [hd]))]
    have e1 : encs (c :: r) = encodeRune c ++ encs r := by unfold encs; rw [List.flatMap_cons]
    have e2 : (escJ (c :: r)).length = (escC c).length + (escJ r).length := by unfold escJ; rw [List.flatMap_cons, List.length_append]
    rw [e1, e2]
    simp only [List.append_assoc]
    rw [Prod.mk.injEq]
    exact ⟨rfl, by omega⟩
theorem tellJ_nil : tellJ [] = ([], 0) := rfl
/-- There and back. -/
theorem tellJ_esc (l : List UInt8) : tellJ (escJ (chars l)) = (rep l, (escJ (chars l)).length) := by
  have h := tellJ_front (chars l) (fun c hc => (chars_char l c hc).1) []
  rw [List.append_nil, tellJ_nil, List.append_nil] at h
  exact h
/-- Where a quote that is not escaped, a \ alone, a newline stands behind it, it ends. -/
theorem tellJ_end (l t : List UInt8) (ht : (headJ t).2 = 0) : (tellJ (escJ (chars l) ++ t)).2 = (escJ (chars l)).length := by
  rw [tellJ_front (chars l) (fun c hc => (chars_char l c hc).1) t, tellJ_stop ht]
  rfl

/-! ### Safe -/
def safeO (c : UInt8) : Bool := !decide (c = 60 ∨ c = 62 ∨ c = 38 ∨ c = 39 ∨ c = 34 ∨ c = 47 ∨ c = 33 ∨ c = 45 ∨ c = 96 ∨ c = 10 ∨ c = 13 ∨ c = 0)
def safeJ (l : List UInt8) : Bool := l.all safeO
theorem safe_keep (c : UInt8) (h : keepI (c.toNat : Int) = true ∨ c = 92) : safeO c = true := by
  have h1 : ∀ c : Fin 256, (keepI ((UInt8.ofNat c.val).toNat : Int) = true ∨ UInt8.ofNat c.val = 92) → safeO (UInt8.ofNat c.val) = true := by decide +kernel
  have h2 := h1 ⟨c.toNat, c.toNat_lt⟩
  simp only [UInt8.ofNat_toNat] at h2
  exact h2 h
theorem keep_dig (d : Nat) (h : d < 16) : keepI ((hexDig d).toNat : Int) = true := by
  have h1 : ∀ d : Fin 16, keepI ((hexDig d.val).toNat : Int) = true := by decide +kernel
  exact h1 ⟨d, h⟩
theorem safe_uni (n : Nat) : safeJ (uni n) = true := by
  unfold safeJ uni
  rw [hexL4]
  simp only [List.all_cons, List.all_nil, Bool.and_true, Bool.and_eq_true]
  exact ⟨by decide, by decide, safe_keep _ (.inl (keep_dig _ (Nat.mod_lt _ (by decide)))), safe_keep _ (.inl (keep_dig _ (Nat.mod_lt _ (by decide)))), safe_keep _ (.inl (keep_dig _ (Nat.mod_lt _ (by decide)))), safe_keep _ (.inl (keep_dig _ (Nat.mod_lt _ (by decide))))⟩
theorem safe_esc (cs : List Int) : safeJ (escJ cs) = true := by
  induction cs with
  | nil => rfl
  | cons c r ih =>
    have e : escJ (c :: r) = escC c ++ escJ r := by unfold escJ; rw [List.flatMap_cons]
    unfold safeJ at ih ⊢
    rw [e, List.all_append, ih, Bool.and_true]
    unfold escC
    split
    · rename_i hk
      have hs := keep_small _ hk
      have e1 : ((c.toNat.toUInt8).toNat : Int) = c := by
        rw [Nat.toUInt8_eq, UInt8.toNat_ofNat_of_lt' (by show c.toNat < 256; omega)]
        omega
      rw [List.all_cons, List.all_nil, Bool.and_true]
      exact safe_keep _ (.inl (by rw [e1]; exact hk))
    · split
      · exact safe_uni _
      · rw [List.all_append]
        have h1 := safe_uni (55296 + (c.toNat - 65536) / 1024)
        have h2 := safe_uni (56320 + (c.toNat - 65536) % 1024)
        unfold safeJ at h1 h2
        rw [h1, h2]
        rfl
/-- A text that is valid, and another one behind it. -/
theorem chars_append (a b : List UInt8) (h : valid a = true) : chars (a ++ b) = chars a ++ chars b := by
  induction a using parts_ind with
  | h0 => rfl
  | hbad x t hd ih =>
    unfold valid at h
    rw [parts_bad x t hd] at h
    simp at h
  | hc c t hc ih =>
    have hv : valid t = true := by
      unfold valid at h ⊢
      rw [parts_enc1 c hc t, List.all_cons] at h
      exact (Bool.and_eq_true_iff.1 h).2
    have ih := ih hv
    unfold chars at ih ⊢
    rw [List.append_assoc, parts_enc1 c hc, parts_enc1 c hc, List.map_cons, List.map_cons, ih, List.cons_append]
end Go.Proofs.YtppclkecfggkiaaDoor.Jst
