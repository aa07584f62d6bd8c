/-
  Part 3: CrfPure, TokPure.
-/
import Derived.Test.YtklpbkjplecdpaaGreatSwBaseP1
import Derived.Test.YtklpbkjplecdpaaGreatSwBaseP2
/-
  Plain facts on character references, with no program: what one stands for, a text escaped, a text decoded, a beginning of one.
-/
namespace Go.Proofs.YtklpbkjplecdpaaGreat.Crf
open Go.Proofs.YtklpbkjplecdpaaGreat.Oct Go.Proofs.YtklpbkjplecdpaaGreat.Num Go.Proofs.YtklpbkjplecdpaaGreat.Utf
open Go.Lib (encodeRune)

/-- What an octet counts as a digit of base 16; -1: none. -/
def hx (c : UInt8) : Int := hexI (c.toNat : Int)
def digB (base : Int) (c : UInt8) : Bool := decide (0 ≤ hx c ∧ hx c < base)
def valB (base : Nat) (l : List UInt8) : Nat := l.foldl (fun n c => n * base + (hx c).toNat) 0
/-- Are the digits behind the sign of base 16? -/
def isHex (t : List UInt8) : Bool := decide (t.head? = some 120 ∨ t.head? = some 88)
def baseOf (t : List UInt8) : Nat := if isHex t then 16 else 10
def digsOf (t : List UInt8) : List UInt8 := if isHex t then t.tail else t
/-- The number between a reference's ends, and how many digits it has. -/
def numR (l : List UInt8) : Option (Nat × Nat) :=
  if l.head? = some 35 ∧ (digsOf l.tail).length ≤ 7 ∧ (digsOf l.tail).all (digB (baseOf l.tail)) = true then some (valB (baseOf l.tail) (digsOf l.tail), (digsOf l.tail).length) else none
/-- What a number stands for. -/
def standL (n : Nat) : List UInt8 := if isChar (n : Int) ∧ n ≠ 0 then encodeRune (n : Int) else [239, 191, 189]
abbrev amp : List UInt8 := [97, 109, 112]
abbrev lt' : List UInt8 := [108, 116]
abbrev gt' : List UInt8 := [103, 116]
abbrev quot : List UInt8 := [113, 117, 111, 116]
abbrev apos : List UInt8 := [97, 112, 111, 115]
def nameR (l : List UInt8) : List UInt8 := if l = amp then [38] else if l = lt' then [60] else if l = gt' then [62] else if l = quot then [34] else if l = apos then [39] else []
/-- What stands between a reference's ends stands for; nothing: there is no such reference. -/
def refR (l : List UInt8) : List UInt8 := if nameR l ≠ [] then nameR l else match numR l with | some (n, d) => if d = 0 then [] else standL n | none => []
/-- Up to the first end. -/
def innerOf (l : List UInt8) : List UInt8 := l.takeWhile (fun c => !(c == 59))
/-- What the reference at the head stands for, and its length. -/
def oneL : List UInt8 → List UInt8 × Nat
  | 38 :: t => if 59 ∈ t.take 10 ∧ refR (innerOf (t.take 10)) ≠ [] then (refR (innerOf (t.take 10)), (innerOf (t.take 10)).length + 2) else ([], 0)
  | _ => ([], 0)
/-- A beginning of a reference. -/
def begName (l : List UInt8) : Bool := decide (l <+: amp ∨ l <+: lt' ∨ l <+: gt' ∨ l <+: quot ∨ l <+: apos)
def unfL : List UInt8 → Bool
  | 38 :: t => begName t || (numR t).isSome
  | _ => false
def cleanL (l : List UInt8) : Bool := l.all fun c => !(c == 60 || c == 62 || c == 34 || c == 39)
def escO (c : UInt8) : List UInt8 :=
  if c = 38 then [38, 97, 109, 112, 59] else if c = 60 then [38, 108, 116, 59] else if c = 62 then [38, 103, 116, 59] else if c = 34 then [38, 35, 51, 52, 59] else if c = 39 then [38, 35, 51, 57, 59] else if c = 43 then [38, 35, 52, 51, 59] else [c]
def escL (l : List UInt8) : List UInt8 := l.flatMap escO

theorem hx_le (c : UInt8) : hx c ≤ 15 := (hexI_range _).2
theorem hx_ge (c : UInt8) : -1 ≤ hx c := (hexI_range _).1
theorem no59 (c : UInt8) (b : Int) (h : digB b c = true) : c ≠ 59 := by
  rintro rfl
  have h' := of_decide_eq_true h
  have e : hx 59 = -1 := by decide
  omega
theorem name_cases {l : List UInt8} (h : nameR l ≠ []) : l = amp ∨ l = lt' ∨ l = gt' ∨ l = quot ∨ l = apos := by
  unfold nameR at h
  repeat' split at h
  all_goals first | (exact absurd rfl h) | simp_all
theorem num_some {l : List UInt8} {n d : Nat} (h : numR l = some (n, d)) : ∃ t, l = 35 :: t ∧ (digsOf t).length ≤ 7 ∧ (digsOf t).all (digB (baseOf t)) = true ∧ n = valB (baseOf t) (digsOf t) ∧ d = (digsOf t).length := by
  unfold numR at h
  split at h
  · rename_i hc
    injection h with h
    injection h with h1 h2
    obtain ⟨c1, c2, c3⟩ := hc
    cases l with
    | nil => cases c1
    | cons a t =>
      rw [List.head?_cons] at c1
      injection c1 with c1
      subst c1
      exact ⟨t, rfl, c2, c3, h1.symm, h2.symm⟩
  · cases h
theorem digs_cases (t : List UInt8) : (isHex t = true ∧ ∃ c, (c = 120 ∨ c = 88) ∧ t = c :: digsOf t) ∨ (isHex t = false ∧ digsOf t = t) := by
  unfold digsOf
  cases hh : isHex t with
  | true =>
    refine .inl ⟨rfl, ?_⟩
    have := of_decide_eq_true hh
    cases t with
    | nil => simp at this
    | cons c t => simp at this; exact ⟨c, this, by simp⟩
  | false => exact .inr ⟨rfl, by simp⟩
/-- What stands between the ends of a reference has no end in it, and at most nine octets. -/
theorem ref_small {l : List UInt8} (h : refR l ≠ []) : 59 ∉ l ∧ l.length ≤ 9 ∧ l ≠ [] := by
  unfold refR at h
  split at h
  · rename_i hn
    rcases name_cases hn with rfl | rfl | rfl | rfl | rfl <;> decide
  · cases hk : numR l with
    | none => rw [hk] at h; exact absurd rfl h
    | some q =>
      obtain ⟨n, d⟩ := q
      obtain ⟨t, rfl, h1, h2, -, -⟩ := num_some hk
      have hd : 59 ∉ digsOf t := fun hm => no59 59 _ (List.all_eq_true.1 h2 59 hm) rfl
      rcases digs_cases t with ⟨_, c, hc, ht⟩ | ⟨_, ht⟩
      · rw [ht]
        refine ⟨?_, by simp; omega, by simp⟩
        simp only [List.mem_cons, not_or]
        refine ⟨by decide, ?_, hd⟩
        rcases hc with rfl | rfl <;> decide
      · rw [ht] at hd h1
        refine ⟨?_, by simp; omega, by simp⟩
        simp only [List.mem_cons, not_or]
        exact ⟨by decide, hd⟩

theorem inner_split (l : List UInt8) (h : 59 ∈ l) : ∃ t, l = innerOf l ++ 59 :: t := by
  induction l with
  | nil => cases h
  | cons c l ih =>
    unfold innerOf
    by_cases hc : c = 59
    · subst hc; exact ⟨l, by simp⟩
    · obtain ⟨t, ht⟩ := ih (by rcases List.mem_cons.1 h with h | h; exact absurd h.symm hc; exact h)
      refine ⟨t, ?_⟩
      rw [List.takeWhile_cons_of_pos (by simp [hc])]
      unfold innerOf at ht
      rw [List.cons_append, ← ht]
theorem mem_tw (p : UInt8 → Bool) (l : List UInt8) : ∀ c ∈ l.takeWhile p, p c = true := by
  induction l with
  | nil => intro c h; cases h
  | cons a l ih =>
    intro c h
    by_cases ha : p a = true
    · rw [List.takeWhile_cons_of_pos ha] at h
      rcases List.mem_cons.1 h with rfl | h
      · exact ha
      · exact ih c h
    · rw [List.takeWhile_cons_of_neg ha] at h
      cases h
theorem inner_no (l : List UInt8) : 59 ∉ innerOf l := by
  intro h
  have := mem_tw _ _ _ h
  simp at this
theorem inner_at (l t : List UInt8) (h : 59 ∉ l) : innerOf (l ++ 59 :: t) = l := by
  unfold innerOf
  rw [List.takeWhile_append_of_pos (fun c hc => by
    have : c ≠ 59 := fun e => h (e ▸ hc)
    simp [this])]
  simp

/-- A reference at the head. -/
theorem one_of (l t : List UInt8) (h : refR l ≠ []) : oneL (38 :: (l ++ 59 :: t)) = (refR l, l.length + 2) := by
  obtain ⟨h1, h2, _⟩ := ref_small h
  have e : (l ++ 59 :: t).take 10 = l ++ 59 :: t.take (9 - l.length) := by
    rw [List.take_append, List.take_of_length_le (by omega)]
    rw [show 10 - l.length = (9 - l.length) + 1 by omega, List.take_succ_cons]
  unfold oneL
  simp only
  rw [e, inner_at _ _ h1, if_pos ⟨by simp, h⟩]
theorem one_none_head {l : List UInt8} (h : l.head? ≠ some 38) : oneL l = ([], 0) := by
  unfold oneL
  split
  · simp at h
  · rfl
/-- What is at the head, if there is a reference. -/
theorem one_some {l : List UInt8} (h : (oneL l).2 ≠ 0) : ∃ i t, l = 38 :: (i ++ 59 :: t) ∧ refR i ≠ [] ∧ oneL l = (refR i, i.length + 2) := by
  by_cases hh : l.head? = some 38
  · cases l with
    | nil => cases hh
    | cons c u =>
      rw [List.head?_cons] at hh
      injection hh with hh
      subst hh
      unfold oneL at h
      simp only at h
      split at h
      · rename_i hc
        obtain ⟨t, ht⟩ := inner_split _ hc.1
        have e : u = innerOf (u.take 10) ++ 59 :: (t ++ u.drop 10) := by
          conv => lhs; rw [← List.take_append_drop 10 u, ht]
          simp
        refine ⟨innerOf (u.take 10), t ++ u.drop 10, by rw [← e], hc.2, ?_⟩
        unfold oneL
        simp only
        rw [if_pos hc]
      · exact absurd rfl h
  · rw [one_none_head hh] at h
    exact absurd rfl h
theorem one_zero {l : List UInt8} (h : (oneL l).2 = 0) : oneL l = ([], 0) := by
  unfold oneL at h ⊢
  split at h
  · split at h
    · rename_i hc
      simp at h
    · rename_i hc
      rw [if_neg hc]
  · rfl
theorem one_len (l : List UInt8) : (oneL l).2 ≤ l.length := by
  by_cases h : (oneL l).2 = 0
  · omega
  · obtain ⟨i, t, rfl, _, e⟩ := one_some h
    rw [e]
    simp

/-- References as what they stand for. -/
def decF : Nat → List UInt8 → List UInt8
  | 0, _ => []
  | n + 1, l => match l with
    | [] => []
    | c :: t => if (oneL (c :: t)).2 = 0 then c :: decF n t else (oneL (c :: t)).1 ++ decF n ((c :: t).drop (oneL (c :: t)).2)
def decL' (l : List UInt8) : List UInt8 := decF l.length l
theorem decF_fuel : ∀ (n m : Nat) (l : List UInt8), l.length ≤ n → l.length ≤ m → decF n l = decF m l
  | 0, m, l, hn, _ => by
    have : l = [] := List.eq_nil_of_length_eq_zero (by omega)
    subst this; cases m <;> rfl
  | n + 1, 0, l, _, hm => by
    have : l = [] := List.eq_nil_of_length_eq_zero (by omega)
    subst this; rfl
  | n + 1, m + 1, [], hn, hm => rfl
  | n + 1, m + 1, c :: t, hn, hm => by
    rw [decF, decF]
    rw [List.length_cons] at hn hm
    split
    · rw [decF_fuel n m t (by omega) (by omega)]
    · rename_i h
      rw [decF_fuel n m _ (by rw [List.length_drop, List.length_cons]; omega) (by rw [List.length_drop, List.length_cons]; omega)]
theorem dec_nil' : decL' [] = [] := rfl
theorem dec_plain (c : UInt8) (t : List UInt8) (h : (oneL (c :: t)).2 = 0) : decL' (c :: t) = c :: decL' t := by
  unfold decL'
  rw [List.length_cons, decF, if_pos h]
theorem dec_ref (l : List UInt8) (h : (oneL l).2 ≠ 0) : decL' l = (oneL l).1 ++ decL' (l.drop (oneL l).2) := by
  cases l with
  | nil => exact absurd rfl h
  | cons c t =>
    unfold decL'
    rw [List.length_cons, decF, if_neg h, decF_fuel t.length _ _ (by rw [List.length_drop, List.length_cons]; omega) (Nat.le_refl _)]
theorem dec_ref' (i t : List UInt8) (h : refR i ≠ []) : decL' (38 :: (i ++ 59 :: t)) = refR i ++ decL' t := by
  have e := one_of i t h
  rw [dec_ref _ (by rw [e]; simp), e]
  simp only
  congr 2
  rw [List.drop_succ_cons, show i.length + 1 = i.length + 1 from rfl]
  simp

theorem esc_at (c : UInt8) (t : List UInt8) : decL' (escO c ++ t) = c :: decL' t := by
  have k1 : refR [97, 109, 112] = [38] := by decide
  have k2 : refR [108, 116] = [60] := by decide
  have k3 : refR [103, 116] = [62] := by decide
  have k4 : refR [35, 51, 52] = [34] := by decide +kernel
  have k5 : refR [35, 51, 57] = [39] := by decide +kernel
  have k6 : refR [35, 52, 51] = [43] := by decide +kernel
  unfold escO
  split
  · rename_i h; subst h; have := dec_ref' [97, 109, 112] t (by rw [k1]; simp); rw [k1] at this; exact this
  · split
    · rename_i h; subst h; have := dec_ref' [108, 116] t (by rw [k2]; simp); rw [k2] at this; exact this
    · split
      · rename_i h; subst h; have := dec_ref' [103, 116] t (by rw [k3]; simp); rw [k3] at this; exact this
      · split
        · rename_i h; subst h; have := dec_ref' [35, 51, 52] t (by rw [k4]; simp); rw [k4] at this; exact this
        · split
          · rename_i h; subst h; have := dec_ref' [35, 51, 57] t (by rw [k5]; simp); rw [k5] at this; exact this
          · split
            · rename_i h; subst h; have := dec_ref' [35, 52, 51] t (by rw [k6]; simp); rw [k6] at this; exact this
            · rename_i h0 _ _ _ _ _
              exact dec_plain c t (by rw [one_none_head (by simp [h0])])
/-- There and back. -/
theorem dec_esc (l : List UInt8) : decL' (escL l) = l := by
  induction l with
  | nil => rfl
  | cons c l ih =>
    have e : escL (c :: l) = escO c ++ escL l := rfl
    rw [e, esc_at, ih]
theorem esc_clean (l : List UInt8) : cleanL (escL l) = true := by
  have h1 : ∀ c : Fin 256, cleanL (escO (UInt8.ofNat c.val)) = true := by decide +kernel
  induction l with
  | nil => rfl
  | cons c l ih =>
    have e : escL (c :: l) = escO c ++ escL l := rfl
    have h2 := h1 ⟨c.toNat, c.toNat_lt⟩
    simp only [UInt8.ofNat_toNat] at h2
    unfold cleanL at ih h2 ⊢
    rw [e, List.all_append, ih, h2]
    rfl
theorem esc_len (l : List UInt8) : (escL l).length ≤ 5 * l.length := by
  have h1 : ∀ c : Fin 256, (escO (UInt8.ofNat c.val)).length ≤ 5 := by decide +kernel
  induction l with
  | nil => simp [escL]
  | cons c l ih =>
    have e : escL (c :: l) = escO c ++ escL l := rfl
    have h2 := h1 ⟨c.toNat, c.toNat_lt⟩
    simp only [UInt8.ofNat_toNat] at h2
    rw [e, List.length_append, List.length_cons]
    omega
theorem esc_snoc (l : List UInt8) (c : UInt8) : escL (l ++ [c]) = escL l ++ escO c := by simp [escL]

/-! ### Behind a text that is not unfinished at its end -/
theorem num_front {b m : List UInt8} (h : (numR (b ++ m)).isSome = true) : b = [] ∨ (numR b).isSome = true := by
  cases b with
  | nil => exact .inl rfl
  | cons a b =>
    obtain ⟨q, hq⟩ := Option.isSome_iff_exists.1 h
    obtain ⟨n, d⟩ := q
    obtain ⟨t, ht, h1, h2, -, -⟩ := num_some hq
    rw [List.cons_append] at ht
    injection ht with ha hb
    subst ha
    refine .inr ?_
    have key : (digsOf b).length ≤ 7 ∧ (digsOf b).all (digB (baseOf b)) = true := by
      cases b with
      | nil => exact ⟨by decide, by decide⟩
      | cons c b =>
        have e1 : isHex t = isHex (c :: b) := by rw [← hb]; rfl
        have e2 : digsOf t = digsOf (c :: b) ++ m := by
          unfold digsOf
          rw [e1, ← hb]
          cases isHex (c :: b) <;> simp
        have e3 : baseOf t = baseOf (c :: b) := by unfold baseOf; rw [e1]
        rw [e2, e3, List.all_append] at h2
        rw [e2, List.length_append] at h1
        exact ⟨by omega, (Bool.and_eq_true_iff.1 h2).1⟩
    unfold numR
    rw [if_pos ⟨rfl, key.1, key.2⟩]
    rfl
theorem ref_front {b m : List UInt8} (h : refR (b ++ m) ≠ []) : unfL (38 :: b) = true := by
  unfold refR at h
  have hb : begName b = true ∨ (numR b).isSome = true := by
    split at h
    · rename_i hn
      refine .inl ?_
      have hp : b <+: b ++ m := ⟨m, rfl⟩
      unfold begName
      refine decide_eq_true ?_
      rcases name_cases hn with e | e | e | e | e <;> rw [e] at hp
      · exact .inl hp
      · exact .inr (.inl hp)
      · exact .inr (.inr (.inl hp))
      · exact .inr (.inr (.inr (.inl hp)))
      · exact .inr (.inr (.inr (.inr hp)))
    · cases hk : numR (b ++ m) with
      | none => rw [hk] at h; exact absurd rfl h
      | some q =>
        rcases num_front (b := b) (m := m) (by rw [hk]; rfl) with rfl | h2
        · exact .inl (by decide)
        · exact .inr h2
  show (begName b || (numR b).isSome) = true
  rcases hb with h | h <;> rw [h] <;> simp

/-- Behind a text that does not begin an unfinished reference the head is read as it is. -/
theorem one_front (a t : List UInt8) (ha : a ≠ []) (h : unfL a = false) : oneL (a ++ t) = oneL a := by
  cases a with
  | nil => exact absurd rfl ha
  | cons c b =>
    by_cases hc : c = 38
    · subst hc
      by_cases hz : (oneL (38 :: b ++ t)).2 = 0
      · by_cases hy : (oneL (38 :: b)).2 = 0
        · rw [one_zero hz, one_zero hy]
        · obtain ⟨i, u, e, hr, he⟩ := one_some hy
          injection e with _ e
          exfalso
          rw [e, List.cons_append, List.append_assoc, List.cons_append, one_of i (u ++ t) hr] at hz
          simp at hz
      · obtain ⟨i, u, e, hr, he⟩ := one_some hz
        rw [List.cons_append] at e
        injection e with _ e
        by_cases hm : 59 ∈ b
        · obtain ⟨v, hv⟩ := inner_split b hm
          have e2 : innerOf (b ++ t) = i := by rw [e]; exact inner_at _ _ (ref_small hr).1
          have e3 : innerOf (b ++ t) = innerOf b := by
            rw [hv, List.append_assoc, List.cons_append, inner_at _ _ (inner_no b)]
            rw [← hv]
          rw [he, hv, ← e3, e2, one_of i v hr]
        · exfalso
          have : ∃ m, i = b ++ m := by
            have h1 : b <+: i ++ 59 :: u := ⟨t, e⟩
            have h2 : i <+: i ++ 59 :: u := ⟨_, rfl⟩
            rcases List.prefix_or_prefix_of_prefix h1 h2 with ⟨m, hm2⟩ | ⟨m, hm2⟩
            · exact ⟨m, hm2.symm⟩
            · cases m with
              | nil => exact ⟨[], by rw [List.append_nil] at hm2 ⊢; exact hm2⟩
              | cons x m =>
                exfalso
                rw [← hm2, List.append_assoc] at e
                have e4 := List.append_cancel_left e
                rw [List.cons_append] at e4
                injection e4 with e5 _
                apply hm
                rw [← hm2, e5]
                simp
          obtain ⟨m, rfl⟩ := this
          rw [ref_front hr] at h
          cases h
    · rw [one_none_head (by simp [hc]), one_none_head (by simp [hc])]

/-- No end of a text is an unfinished reference. -/
def doneL (a : List UInt8) : Prop := ∀ i, i < a.length → unfL (a.drop i) = false
theorem dec_parts (n : Nat) : ∀ (a t : List UInt8), a.length ≤ n → doneL a → decL' (a ++ t) = decL' a ++ decL' t := by
  induction n with
  | zero =>
    intro a t hl _
    have : a = [] := List.eq_nil_of_length_eq_zero (by omega)
    subst this; rfl
  | succ n ih =>
    intro a t hl ha
    cases a with
    | nil => rfl
    | cons c b =>
      have h0 : unfL (c :: b) = false := ha 0 (by simp)
      have h1 := one_front (c :: b) t (by simp) h0
      have hlen : (oneL (c :: b)).2 ≤ (c :: b).length := one_len _
      by_cases hz : (oneL (c :: b)).2 = 0
      · rw [dec_plain c b hz, List.cons_append, dec_plain c (b ++ t) (by rw [← List.cons_append, h1]; exact hz), ih b t (by simpa using hl) (fun i hi => by
          have := ha (i + 1) (by simp; omega)
          simpa using this)]
        rfl
      · rw [dec_ref _ hz, dec_ref (c :: b ++ t) (by rw [h1]; exact hz), h1, List.drop_append_of_le_length hlen, ih _ t (by rw [List.length_drop, List.length_cons]; rw [List.length_cons] at hl; omega) (fun i hi => by
          rw [List.drop_drop]
          exact ha _ (by rw [List.length_drop] at hi; omega)), List.append_assoc]

/-! ### Numbers -/
theorem dig_dec (c : UInt8) (h : isDig c = true) : digB 10 c = true ∧ (hx c).toNat = cnt c := by
  have h1 : ∀ c : Fin 256, isDig (UInt8.ofNat c.val) = true → digB 10 (UInt8.ofNat c.val) = true ∧ (hx (UInt8.ofNat c.val)).toNat = cnt (UInt8.ofNat c.val) := by decide +kernel
  have h2 := h1 ⟨c.toNat, c.toNat_lt⟩
  simp only [UInt8.ofNat_toNat] at h2
  exact h2 h
theorem val_dec (l : List UInt8) (h : ∀ c ∈ l, isDig c = true) : valB 10 l = valD l := by
  have gen : ∀ (l : List UInt8) (a : Nat), (∀ c ∈ l, isDig c = true) → l.foldl (fun n c => n * 10 + (hx c).toNat) a = l.foldl (fun n c => n * 10 + cnt c) a := by
    intro l
    induction l with
    | nil => intro a _; rfl
    | cons c l ih =>
      intro a h
      rw [List.foldl_cons, List.foldl_cons, (dig_dec c (h c (by simp))).2, ih _ (fun d hd => h d (by simp [hd]))]
  exact gen l 0 h
theorem stand_ne (n : Nat) : standL n ≠ [] := by
  unfold standL
  split
  · rename_i h
    have := (enc_len (n : Int)).1
    intro e
    rw [e] at this
    simp at this
  · simp
theorem name_35 (t : List UInt8) : nameR (35 :: t) = [] := by simp [nameR]
theorem ref_num (t : List UInt8) (h1 : (digsOf t).length ≤ 7) (h2 : (digsOf t).all (digB (baseOf t)) = true) (h0 : digsOf t ≠ []) : refR (35 :: t) = standL (valB (baseOf t) (digsOf t)) := by
  have : numR (35 :: t) = some (valB (baseOf t) (digsOf t), (digsOf t).length) := by
    unfold numR
    rw [if_pos ⟨rfl, h1, h2⟩]
    rfl
  unfold refR
  rw [name_35, this]
  simp [h0]
theorem dec_small (n : Nat) (h : n ≤ 9999999) : (decL n).length ≤ 7 := by
  rw [decL_len]
  have := rest_len 6 (n / 10) (by omega)
  unfold lowL
  rw [List.length_cons]
  omega
/-- A number in decimals. -/
theorem one_dec (n : Nat) (h : n ≤ 9999999) (t : List UInt8) : oneL (38 :: ((35 :: decL n) ++ 59 :: t)) = (standL n, (decL n).length + 3) := by
  have hd := decL_dig n
  have hx' : isHex (decL n) = false := by
    unfold isHex
    refine decide_eq_false ?_
    cases hl : decL n with
    | nil => simp
    | cons c l =>
      have := hd c (by rw [hl]; simp)
      simp only [List.head?_cons, Option.some.injEq]
      rintro (rfl | rfl) <;> exact absurd this (by decide)
  have e1 : digsOf (decL n) = decL n := by unfold digsOf; rw [hx']; simp
  have e2 : baseOf (decL n) = 10 := by unfold baseOf; rw [hx']; rfl
  have hr := ref_num (decL n) (by rw [e1]; exact dec_small n h) (by rw [e1, e2]; exact List.all_eq_true.2 fun c hc => (dig_dec c (hd c hc)).1) (by rw [e1]; exact decL_ne n)
  rw [e1, e2, val_dec _ hd, valD_decL] at hr
  rw [one_of (35 :: decL n) t (by rw [hr]; exact stand_ne n), hr]
  rfl
theorem hexDig_val (d : Nat) (h : d < 16) : digB 16 (hexDig d) = true ∧ (hx (hexDig d)).toNat = d := by
  have : ∀ d : Fin 16, digB 16 (hexDig d.val) = true ∧ (hx (hexDig d.val)).toNat = d.val := by decide +kernel
  exact this ⟨d, h⟩
theorem val_hex (u : Nat) : ∀ k, valB 16 (hexL u k) = u % 16 ^ k := by
  have gen : ∀ (k a : Nat), (hexL u k).foldl (fun n c => n * 16 + (hx c).toNat) a = a * 16 ^ k + u % 16 ^ k := by
    intro k
    induction k with
    | zero => intro a; simp [hexL, Nat.mod_one]
    | succ k ih =>
      intro a
      rw [hexL_cons, List.foldl_cons, (hexDig_val _ (Nat.mod_lt _ (by decide))).2, ih]
      have e : u % 16 ^ (k + 1) = u % 16 ^ k + 16 ^ k * (u / 16 ^ k % 16) := by rw [Nat.pow_succ, Nat.mod_mul]
      rw [e, Nat.pow_succ, Nat.add_mul, Nat.mul_assoc, Nat.mul_comm 16 (16 ^ k), Nat.mul_comm (u / 16 ^ k % 16)]
      omega
  intro k
  have := gen k 0
  simpa [valB] using this
theorem hexL_all (u k : Nat) : (hexL u k).all (digB 16) = true := by
  refine List.all_eq_true.2 fun c hc => ?_
  unfold hexL at hc
  obtain ⟨j, _, rfl⟩ := List.mem_map.1 hc
  exact (hexDig_val _ (Nat.mod_lt _ (by decide))).1
/-- A number in six digits of base 16. -/
theorem one_hex (n : Nat) (h : n < 16777216) (t : List UInt8) : oneL (38 :: ((35 :: 120 :: hexL n 6) ++ 59 :: t)) = (standL n, 10) := by
  have hi : isHex (120 :: hexL n 6) = true := by rfl
  have e1 : digsOf (120 :: hexL n 6) = hexL n 6 := by unfold digsOf; rw [hi]; rfl
  have e2 : baseOf (120 :: hexL n 6) = 16 := by unfold baseOf; rw [hi]; rfl
  have hr := ref_num (120 :: hexL n 6) (by rw [e1, hexL_length]; decide) (by rw [e1, e2]; exact hexL_all n 6) (by rw [e1]; intro e; have := hexL_length n 6; rw [e] at this; simp at this)
  rw [e1, e2, val_hex, Nat.mod_eq_of_lt (by simpa using h)] at hr
  rw [one_of (35 :: 120 :: hexL n 6) t (by rw [hr]; exact stand_ne n), hr]
  simp [hexL_length]

/-! ### A beginning -/
theorem unf_small {l : List UInt8} (h : unfL l = true) : 59 ∉ l ∧ l.length ≤ 10 ∧ ∃ b, l = 38 :: b := by
  unfold unfL at h
  split at h
  · rename_i t
    rcases Bool.or_eq_true_iff.1 h with h | h
    · have h := of_decide_eq_true h
      have key : 59 ∉ t ∧ t.length ≤ 5 := by
        rcases h with h | h | h | h | h
        all_goals exact ⟨fun hm => absurd (h.subset hm) (by decide), Nat.le_trans h.length_le (by decide)⟩
      exact ⟨by simp only [List.mem_cons, not_or]; exact ⟨by decide, key.1⟩, by rw [List.length_cons]; omega, t, rfl⟩
    · obtain ⟨q, hq⟩ := Option.isSome_iff_exists.1 h
      obtain ⟨n, d⟩ := q
      obtain ⟨u, rfl, h1, h2, -, -⟩ := num_some hq
      have hd : 59 ∉ digsOf u := fun hm => no59 59 _ (List.all_eq_true.1 h2 59 hm) rfl
      have key : 59 ∉ u ∧ u.length ≤ 8 := by
        rcases digs_cases u with ⟨_, c, hc, ht⟩ | ⟨_, ht⟩
        · rw [ht]
          refine ⟨?_, by simp; omega⟩
          simp only [List.mem_cons, not_or]
          refine ⟨?_, hd⟩
          rcases hc with rfl | rfl <;> decide
        · rw [ht] at hd h1
          exact ⟨hd, by omega⟩
      refine ⟨?_, by simp; omega, _, rfl⟩
      simp only [List.mem_cons, not_or]
      exact ⟨by decide, by decide, key.1⟩
  · cases h
theorem one_no59 {l : List UInt8} (h : 59 ∉ l) : oneL l = ([], 0) := by
  apply one_zero
  by_cases hz : (oneL l).2 = 0
  · exact hz
  · obtain ⟨i, t, e, _, _⟩ := one_some hz
    exact absurd (by rw [e]; simp) h
/-- With an octet more an unfinished one is a reference, or none. -/
theorem wait_yes (l : List UInt8) (c : UInt8) (h : unfL l = true) : (oneL l).2 = 0 ∧ ((oneL (l ++ [c])).2 = 0 ∨ (oneL (l ++ [c])).2 = l.length + 1 ∧ c = 59) ∧ l.length ≤ 10 := by
  obtain ⟨h1, h2, b, rfl⟩ := unf_small h
  refine ⟨by rw [one_no59 h1], ?_, h2⟩
  by_cases hz : (oneL (38 :: b ++ [c])).2 = 0
  · exact .inl hz
  · right
    obtain ⟨i, t, e, hr, he⟩ := one_some hz
    have hc : c = 59 := by
      have hm : (59 : UInt8) ∈ 38 :: b ++ [c] := by rw [e]; simp
      rcases List.mem_append.1 hm with hm | hm
      · exact absurd hm h1
      · exact (List.mem_singleton.1 hm).symm
    refine ⟨?_, hc⟩
    subst hc
    have hi : i = b := by
      rw [List.cons_append] at e
      injection e with _ e
      have e2 := congrArg innerOf e
      rw [inner_at i t (ref_small hr).1, inner_at b [] (fun hm => h1 (by simp [hm]))] at e2
      exact e2.symm
    rw [he, hi]
    rfl
theorem unf_front {l : List UInt8} {c : UInt8} (h : unfL (l ++ [c]) = true) : unfL l = true ∨ (l = [] ∧ c = 38) := by
  cases l with
  | nil =>
    right
    obtain ⟨_, _, b, hb⟩ := unf_small h
    rw [List.nil_append] at hb
    injection hb with hc _
    exact ⟨rfl, hc⟩
  | cons a b =>
    left
    obtain ⟨_, _, b', hb⟩ := unf_small h
    rw [List.cons_append] at hb
    injection hb with ha _
    subst ha
    have h : (begName (b ++ [c]) || (numR (b ++ [c])).isSome) = true := h
    show (begName b || (numR b).isSome) = true
    rcases Bool.or_eq_true_iff.1 h with h | h
    · have h := of_decide_eq_true h
      have hp : b <+: b ++ [c] := ⟨_, rfl⟩
      have : begName b = true := decide_eq_true (by
        rcases h with h | h | h | h | h
        · exact .inl (hp.trans h)
        · exact .inr (.inl (hp.trans h))
        · exact .inr (.inr (.inl (hp.trans h)))
        · exact .inr (.inr (.inr (.inl (hp.trans h))))
        · exact .inr (.inr (.inr (.inr (hp.trans h)))))
      rw [this]; rfl
    · rcases num_front h with rfl | h
      · rfl
      · rw [h]; simp
end Go.Proofs.YtklpbkjplecdpaaGreat.Crf

/-
  The reader of HTML as a plain machine, with no program: its states, its step, its run; what a run does in data, in raw text, within quotes.
-/
namespace Go.Proofs.YtklpbkjplecdpaaGreat.Tok
open Go.Proofs.YtklpbkjplecdpaaGreat.Oct Go.Proofs.YtklpbkjplecdpaaGreat.Utf Go.Proofs.YtklpbkjplecdpaaGreat.Crf Go.Proofs.YtklpbkjplecdpaaGreat.Tab

/-- An attribute: its name, its value. -/
structure At where
  n : List UInt8
  v : List UInt8
deriving DecidableEq
/-- A token. -/
structure Tk where
  k : Int
  n : List UInt8
  x : List UInt8
  a : List At
  c : Bool
deriving DecidableEq
abbrev noAt : At := ⟨[], []⟩
abbrev noTk : Tk := ⟨0, [], [], [], false⟩
abbrev txTk (x : List UInt8) : Tk := ⟨3, [], x, [], false⟩
/-- The reader: what was told, the state, the text, the tag and the attribute on their way, the quote, the raw text's name and its kind. -/
structure Rd where
  out : List Tk
  st : Nat
  tx : List UInt8
  tg : Tk
  av : At
  q : UInt8
  rw : List UInt8
  kd : Nat
deriving DecidableEq
abbrev rd0 : Rd := ⟨[], 0, [], noTk, noAt, 0, [], 0⟩

def blB (c : UInt8) : Bool := blankI (c.toNat : Int)
def letB (c : UInt8) : Bool := letterI (c.toNat : Int)
def textR (d : Bool) (r : Rd) : Rd :=
  { r with out := if (if d then decL' r.tx else r.tx) = [] then r.out else r.out ++ [txTk (if d then decL' r.tx else r.tx)], tx := [] }
def putR (r : Rd) : Rd := { r with tg := { r.tg with a := r.tg.a ++ [⟨r.av.n, decL' r.av.v⟩] }, av := noAt }
def toldT (t : Tk) : Tk := if t.k = 2 then { t with a := [], c := false } else t
def rawK (t : Tk) : Bool := decide (t.k = 1 ∧ 1 ≤ elemN t.n ∧ elemN t.n ≤ 3)
def endR (r : Rd) : Rd :=
  if rawK (toldT r.tg) then { r with out := r.out ++ [toldT r.tg], tg := noTk, st := 15, rw := (toldT r.tg).n, kd := elemN (toldT r.tg).n }
  else { r with out := r.out ++ [toldT r.tg], tg := noTk, st := 0 }
def goR (s : Nat) (r : Rd) : Rd := { r with st := s }
def tnameR (c : UInt8) (r : Rd) : Rd × Bool :=
  if blB c then (goR 4 r, false) else if c = 47 then (goR 11 r, false) else if c = 62 then (endR r, false) else ({ r with tg := { r.tg with n := r.tg.n ++ [low c] } }, false)
def beforeR (c : UInt8) (r : Rd) : Rd × Bool :=
  if blB c then (r, false) else if c = 47 then (goR 11 r, false) else if c = 62 then (endR r, false) else ({ r with st := 5, av := ⟨[low c], []⟩ }, false)
def attrR (c : UInt8) (r : Rd) : Rd × Bool :=
  if blB c then (goR 6 r, false) else if c = 61 then (goR 7 r, false) else if c = 47 then (goR 11 (putR r), false) else if c = 62 then (endR (putR r), false)
  else if r.st = 6 then (goR 4 (putR r), true) else ({ r with av := { r.av with n := r.av.n ++ [low c] } }, false)
def slashR (c : UInt8) (r : Rd) : Rd × Bool :=
  if c = 62 then (endR { r with tg := { r.tg with c := true } }, false) else (goR 4 r, true)
/-- The states within a tag; true: the octet is asked anew. -/
def tagR (c : UInt8) (r : Rd) : Rd × Bool :=
  if r.st = 3 then tnameR c r else if r.st = 4 then beforeR c r else if r.st = 5 ∨ r.st = 6 then attrR c r else if r.st = 10 then (goR 4 r, true) else slashR c r
def wantR (c : UInt8) (r : Rd) : Rd × Bool :=
  if blB c then (r, false) else if c = 34 ∨ c = 39 then ({ r with st := 8, q := c }, false) else if c = 62 then (endR (putR r), false) else (goR 9 r, true)
def addV (c : UInt8) (r : Rd) : Rd := { r with av := { r.av with v := r.av.v ++ [c] } }
def valueR (c : UInt8) (r : Rd) : Rd × Bool := if c = r.q then (goR 10 (putR r), false) else (addV c r, false)
def bareR (c : UInt8) (r : Rd) : Rd × Bool := if blB c = true ∨ c = 62 then (goR 4 (putR r), true) else (addV c r, false)
def valR (c : UInt8) (r : Rd) : Rd × Bool := if r.st = 7 then wantR c r else if r.st = 8 then valueR c r else bareR c r
def opens (c : UInt8) (t : List UInt8) : Bool :=
  (c == 60) && (match t with | [] => false | d :: u => letB d || d == 33 || d == 63 || (d == 47 && !u.isEmpty))
def addT (c : UInt8) (r : Rd) : Rd := { r with tx := r.tx ++ [c] }
def dataR (c : UInt8) (t : List UInt8) (r : Rd) : Rd × Nat := if opens c t then (goR 1 (textR true r), 1) else (addT c r, 1)
def openR (c : UInt8) (r : Rd) : Rd × Nat :=
  if c = 47 then (goR 2 r, 1) else if c = 33 then (goR 12 r, 1) else if c = 63 then (goR 13 r, 1) else ({ r with st := 3, tg := { noTk with k := 1 } }, 0)
def endOpenR (c : UInt8) (r : Rd) : Rd × Nat :=
  if letB c then ({ r with st := 3, tg := { noTk with k := 2 } }, 0) else if c = 62 then (goR 0 r, 1) else (goR 13 r, 0)
def bangR (l : List UInt8) (r : Rd) : Rd × Nat := if [45, 45].isPrefixOf l then (goR 14 r, 2) else (goR 13 r, 0)
def bogusR (c : UInt8) (r : Rd) : Rd × Nat := if c = 62 then (goR 0 r, 1) else (r, 1)
def commentR (l : List UInt8) (c : UInt8) (r : Rd) : Rd × Nat :=
  if [45, 45, 62].isPrefixOf l then ({ r with out := r.out ++ [⟨4, [], r.tx, [], false⟩], tx := [], st := 0 }, 3) else (addT c r, 1)
/-- Raw text's end: its tag, and behind it an octet that ends a name. -/
def hits (rw l : List UInt8) : Bool :=
  ((60 :: 47 :: rw).map low).isPrefixOf (l.map low) && (match l.drop (2 + rw.length) with | [] => false | d :: _ => blB d || d == 47 || d == 62)
def rawR (l : List UInt8) (c : UInt8) (r : Rd) : Rd × Nat :=
  if hits r.rw l then ({ textR (r.kd == 1) r with st := 3, tg := { noTk with k := 2, n := ((l.drop 2).take r.rw.length).map low } }, 2 + r.rw.length) else (addT c r, 1)
/-- The states outside of tags; how many octets were read. -/
def outR (c : UInt8) (t : List UInt8) (r : Rd) : Rd × Nat :=
  if r.st = 0 then dataR c t r else if r.st = 1 then openR c r else if r.st = 2 then endOpenR c r else if r.st = 12 then bangR (c :: t) r
  else if r.st = 13 then bogusR c r else if r.st = 14 then commentR (c :: t) c r else rawR (c :: t) c r
def inTag (s : Nat) : Bool := decide ((3 ≤ s ∧ s ≤ 6) ∨ s = 10 ∨ s = 11)
def inVal (s : Nat) : Bool := decide (7 ≤ s ∧ s ≤ 9)
def again (p : Rd × Bool) : Rd × Nat := (p.1, if p.2 then 0 else 1)
def stepR (c : UInt8) (t : List UInt8) (r : Rd) : Rd × Nat :=
  if inTag r.st then again (tagR c r) else if inVal r.st then again (valR c r) else outR c t r

/-! ### The run -/
def rank (s : Nat) : Nat := if s = 7 then 2 else if s = 9 ∨ s = 6 ∨ s = 10 ∨ s = 11 ∨ s = 1 ∨ s = 2 ∨ s = 12 then 1 else 0
def runF : Nat → List UInt8 → Rd → Rd
  | 0, _, r => r
  | _ + 1, [], r => r
  | f + 1, c :: t, r => runF f ((c :: t).drop (stepR c t r).2) (stepR c t r).1
def meas (l : List UInt8) (s : Nat) : Nat := 3 * l.length + rank s
def runR (l : List UInt8) (r : Rd) : Rd := runF (meas l r.st) l r

theorem rank_le (s : Nat) : rank s ≤ 2 := by
  unfold rank
  split
  · omega
  · split <;> omega
theorem tag_again (c : UInt8) (r : Rd) (hs : inTag r.st = true) (h : (tagR c r).2 = true) : rank (tagR c r).1.st < rank r.st := by
  have hs := of_decide_eq_true hs
  revert h
  unfold tagR
  split
  · intro h; exfalso; revert h; unfold tnameR; repeat' split
    all_goals simp
  · split
    · intro h; exfalso; revert h; unfold beforeR; repeat' split
      all_goals simp
    · split
      · unfold attrR
        repeat' split
        all_goals intro h
        all_goals first | (exfalso; revert h; simp; done) | skip
        rename_i h6
        rw [h6]
        exact (by decide : (0 : Nat) < 1)
      · split
        · rename_i h10
          intro _
          rw [h10]
          exact (by decide : (0 : Nat) < 1)
        · have h11 : r.st = 11 := by omega
          unfold slashR
          split
          · intro h; exfalso; revert h; simp
          · intro _
            rw [h11]
            exact (by decide : (0 : Nat) < 1)
theorem val_again (c : UInt8) (r : Rd) (hs : inVal r.st = true) (h : (valR c r).2 = true) : rank (valR c r).1.st < rank r.st := by
  have hs := of_decide_eq_true hs
  revert h
  unfold valR
  split
  · rename_i h7
    unfold wantR
    repeat' split
    all_goals intro h
    all_goals first | (exfalso; revert h; simp; done) | skip
    rw [h7]
    exact (by decide : (1 : Nat) < 2)
  · split
    · unfold valueR
      split <;> (intro h; exfalso; revert h; simp)
    · have h9 : r.st = 9 := by omega
      unfold bareR
      split
      · intro _
        rw [h9]
        exact (by decide : (0 : Nat) < 1)
      · intro h; exfalso; revert h; simp
theorem out_again (c : UInt8) (t : List UInt8) (r : Rd) (h : (outR c t r).2 = 0) : rank (outR c t r).1.st < rank r.st := by
  revert h
  unfold outR
  split
  · unfold dataR; split <;> (intro h; exfalso; revert h; simp)
  · split
    · rename_i hs
      unfold openR
      repeat' split
      all_goals intro h
      all_goals first | (exfalso; revert h; simp; done) | skip
      rw [hs]
      exact (by decide : (0 : Nat) < 1)
    · split
      · rename_i hs
        unfold endOpenR
        repeat' split
        all_goals intro h
        all_goals first | (exfalso; revert h; simp; done) | skip
        all_goals rw [hs]
        all_goals exact (by decide : (0 : Nat) < 1)
      · split
        · rename_i hs
          unfold bangR
          split
          · intro h; exfalso; revert h; simp
          · intro _
            rw [hs]
            exact (by decide : (0 : Nat) < 1)
        · split
          · unfold bogusR; split <;> (intro h; exfalso; revert h; simp)
          · split
            · unfold commentR; split <;> (intro h; exfalso; revert h; simp)
            · unfold rawR
              split
              · intro h; exfalso; revert h; simp
              · intro h; exfalso; revert h; simp
/-- Each step brings the end nearer. -/
theorem step_less (c : UInt8) (t : List UInt8) (r : Rd) : meas ((c :: t).drop (stepR c t r).2) (stepR c t r).1.st < meas (c :: t) r.st := by
  unfold meas
  have hr := rank_le (stepR c t r).1.st
  by_cases h0 : (stepR c t r).2 = 0
  · rw [h0, List.drop_zero]
    have : rank (stepR c t r).1.st < rank r.st := by
      revert h0
      unfold stepR
      split
      · rename_i hs
        intro h0
        refine tag_again c r hs ?_
        unfold again at h0
        revert h0
        cases (tagR c r).2 <;> simp
      · split
        · rename_i hs
          intro h0
          refine val_again c r hs ?_
          unfold again at h0
          revert h0
          cases (valR c r).2 <;> simp
        · intro h0
          exact out_again c t r h0
    omega
  · rw [List.length_drop, List.length_cons]
    omega
theorem run_enough (f : Nat) : ∀ (g : Nat) (l : List UInt8) (r : Rd), meas l r.st ≤ f → meas l r.st ≤ g → runF f l r = runF g l r := by
  induction f with
  | zero =>
    intro g l r h1 _
    have hl : l = [] := by
      cases l with
      | nil => rfl
      | cons c t => unfold meas at h1; simp at h1
    subst hl
    cases g <;> rfl
  | succ f ih =>
    intro g l r h1 h2
    cases l with
    | nil => cases g <;> rfl
    | cons c t =>
      cases g with
      | zero => unfold meas at h2; simp at h2
      | succ g =>
        have := step_less c t r
        show runF f _ _ = runF g _ _
        exact ih g _ _ (by omega) (by omega)
theorem run_nil (r : Rd) : runR [] r = r := by
  unfold runR
  cases meas [] r.st <;> rfl
theorem run_cons (c : UInt8) (t : List UInt8) (r : Rd) : runR (c :: t) r = runR ((c :: t).drop (stepR c t r).2) (stepR c t r).1 := by
  have hl := step_less c t r
  unfold runR
  obtain ⟨f, hf⟩ : ∃ f, meas (c :: t) r.st = f + 1 := ⟨meas (c :: t) r.st - 1, by omega⟩
  rw [hf]
  show runF f _ _ = _
  exact run_enough _ _ _ _ (by omega) (Nat.le_refl _)
/-- What is on its way at the end. -/
def lastR (r : Rd) : List Tk :=
  if r.st = 0 then (textR true r).out else if r.st = 15 then (textR (r.kd == 1) r).out else if r.st = 14 then r.out ++ [⟨4, [], r.tx, [], false⟩] else r.out
/-- A text's tokens. -/
def tokL (l : List UInt8) : List Tk := lastR (runR l rd0)
/-- So many steps on. -/
def stepsN : Nat → List UInt8 → Rd → List UInt8 × Rd
  | 0, l, r => (l, r)
  | _ + 1, [], r => ([], r)
  | f + 1, c :: t, r => stepsN f ((c :: t).drop (stepR c t r).2) (stepR c t r).1
theorem run_steps (f : Nat) : ∀ (l : List UInt8) (r : Rd), runR l r = runR (stepsN f l r).1 (stepsN f l r).2 := by
  induction f with
  | zero => intro l r; rfl
  | succ f ih =>
    intro l r
    cases l with
    | nil => rfl
    | cons c t => rw [run_cons]; exact ih _ _
theorem run_to {l l' : List UInt8} {r r' : Rd} (f : Nat) (h : stepsN f l r = (l', r')) : runR l r = runR l' r' := by rw [run_steps f, h]

/-! ### Bounds -/
/-- No list of the reader is longer than M less what is still to come. -/
def Bd (M m : Nat) (r : Rd) : Prop :=
  r.out.length + m ≤ M ∧ r.tx.length + m ≤ M ∧ r.tg.n.length + m ≤ M ∧ r.tg.a.length + m ≤ M ∧ r.av.n.length + m ≤ M ∧ r.av.v.length + m ≤ M ∧ r.rw.length ≤ M
/-- What a step makes longer by one at most. -/
def Gr (r r' : Rd) : Prop :=
  r'.out.length ≤ r.out.length + 1 ∧ r'.tx.length ≤ r.tx.length + 1 ∧ r'.tg.n.length ≤ r.tg.n.length + 1 ∧ r'.tg.a.length ≤ r.tg.a.length + 1 ∧ r'.av.n.length ≤ r.av.n.length + 1 ∧ r'.av.v.length ≤ r.av.v.length + 1 ∧ (r'.rw.length ≤ r.rw.length ∨ r'.rw.length ≤ r.tg.n.length)
theorem told_n (t : Tk) : (toldT t).n = t.n := by unfold toldT; split <;> rfl
theorem gr_refl (r : Rd) : Gr r r := by unfold Gr; omega
theorem gr_end (r : Rd) : Gr r (endR r) := by
  unfold endR Gr
  split <;> simp [told_n]
theorem gr_endput (r : Rd) : Gr r (endR (putR r)) := by
  unfold endR Gr
  split <;> simp [told_n, putR]
theorem gr_put (s : Nat) (r : Rd) : Gr r (goR s (putR r)) := by unfold Gr goR putR; simp
theorem gr_go (s : Nat) (r : Rd) : Gr r (goR s r) := by unfold Gr goR; simp
theorem text_facts (d : Bool) (r : Rd) : (textR d r).out.length ≤ r.out.length + 1 ∧ (textR d r).tx = [] ∧ (textR d r).av = r.av ∧ (textR d r).rw = r.rw ∧ (textR d r).tg = r.tg := by
  unfold textR
  refine ⟨?_, rfl, rfl, rfl, rfl⟩
  generalize (if d = true then decL' r.tx else r.tx) = x
  show (if x = [] then r.out else r.out ++ [txTk x]).length ≤ _
  split <;> simp
theorem gr_text (d : Bool) (s : Nat) (r : Rd) : Gr r (goR s (textR d r)) := by
  obtain ⟨h1, h2, h3, h4, h5⟩ := text_facts d r
  unfold Gr goR
  simp only [h2, h3, h4, h5]
  simp
  exact h1
theorem gr_tag (c : UInt8) (r : Rd) : Gr r (tagR c r).1 := by
  unfold tagR tnameR beforeR attrR slashR
  repeat' split
  all_goals first | exact gr_refl _ | exact gr_go _ _ | exact gr_end _ | exact gr_endput _ | exact gr_put _ _ | skip
  all_goals first | (unfold Gr; simp; done) | skip
theorem gr_val (c : UInt8) (r : Rd) : Gr r (valR c r).1 := by
  unfold valR wantR valueR bareR addV
  repeat' split
  all_goals first | exact gr_refl _ | exact gr_go _ _ | exact gr_end _ | exact gr_endput _ | exact gr_put _ _ | skip
  all_goals (unfold Gr; simp)
theorem gr_out (c : UInt8) (t : List UInt8) (r : Rd) (h : r.st ≠ 15) (h1 : inTag r.st = false) (h2 : inVal r.st = false) (hs : r.st ≤ 15) : Gr r (outR c t r).1 := by
  unfold outR
  have e1 := of_decide_eq_false h1
  have e2 := of_decide_eq_false h2
  unfold dataR openR endOpenR bangR bogusR commentR addT
  repeat' split
  all_goals first | exact gr_refl _ | exact gr_go _ _ | exact gr_text _ _ _ | skip
  all_goals first | (unfold Gr; simp; done) | skip
  all_goals (exfalso; omega)
theorem gr_bd {M m m' : Nat} {r r' : Rd} (h : Gr r r') (hm : m' < m) (hb : Bd M m r) : Bd M m' r' := by
  unfold Gr at h
  unfold Bd at hb ⊢
  omega
/-- The states are those sixteen. -/
theorem end_st (r : Rd) : (endR r).st ≤ 15 := by unfold endR; split <;> simp
theorem step_st (c : UInt8) (t : List UInt8) (r : Rd) (h : r.st ≤ 15) : (stepR c t r).1.st ≤ 15 := by
  unfold stepR again
  split
  · unfold tagR tnameR beforeR attrR slashR goR
    repeat' split
    all_goals first | exact end_st _ | (simp; done) | exact h
  · split
    · unfold valR wantR valueR bareR goR addV
      repeat' split
      all_goals first | exact end_st _ | (simp; done) | exact h
    · unfold outR dataR openR endOpenR bangR bogusR commentR rawR goR addT
      repeat' split
      all_goals first | (simp; done) | exact h
theorem step_bd {M : Nat} (c : UInt8) (t : List UInt8) (r : Rd) (hs : r.st ≤ 15) (h : Bd M (meas (c :: t) r.st) r) : Bd M (meas ((c :: t).drop (stepR c t r).2) (stepR c t r).1.st) (stepR c t r).1 := by
  have hl := step_less c t r
  by_cases h15 : r.st = 15
  · have e : stepR c t r = rawR (c :: t) c r := by
      unfold stepR outR
      rw [h15]
      rfl
    rw [e] at hl ⊢
    clear e
    unfold rawR at hl ⊢
    split
    · rename_i hh
      rw [if_pos hh] at hl
      unfold Bd at h ⊢
      have hx := text_facts (r.kd == 1) r
      refine ⟨?_, ?_, ?_, ?_, ?_, ?_, ?_⟩
      · have := hx.1; simp only at hl ⊢; omega
      · have := hx.2.1; simp only [this] at hl ⊢; simp; omega
      · simp only [List.length_map, List.length_take, List.length_drop]
        unfold meas at hl h ⊢
        simp only [List.length_drop, List.length_cons] at hl h ⊢
        have e3 : rank 3 = 0 := rfl
        simp only [e3] at hl ⊢
        omega
      · simp only at hl ⊢; simp; omega
      · have := hx.2.2.1; simp only [this] at hl ⊢; omega
      · have := hx.2.2.1; simp only [this] at hl ⊢; omega
      · have := hx.2.2.2.1; simp only [this] at hl ⊢; omega
    · rename_i hh
      rw [if_neg hh] at hl
      refine gr_bd ?_ hl h
      unfold Gr addT
      simp
  · refine gr_bd ?_ hl h
    unfold stepR again
    split
    · exact gr_tag c r
    · split
      · exact gr_val c r
      · rename_i h1 h2
        exact gr_out c t r h15 (by simpa using h1) (by simpa using h2) hs
theorem bd0 (l : List UInt8) : Bd (meas l 0) (meas l 0) rd0 := by
  unfold Bd
  simp
end Go.Proofs.YtklpbkjplecdpaaGreat.Tok
