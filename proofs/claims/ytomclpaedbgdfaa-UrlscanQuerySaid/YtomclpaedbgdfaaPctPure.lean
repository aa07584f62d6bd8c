/-
  Plain facts on percent signs, with no program: what is unreserved, what is reserved; a text encoded, a normal one, a text decoded.
-/
import Derived.Test.YtomclpaedbgdfaaHexPure
import Derived.Test.YtomclpaedbgdfaaUtfPure
namespace Go.Proofs.Ytomclpaedbgdfaa.Pct
open Go.Proofs.Ytomclpaedbgdfaa.Oct Go.Proofs.Ytomclpaedbgdfaa.Utf
open Go.Lib (encodeRune)

def unrI (n : Int) : Bool := letterI n || digitI n || decide (n = 45 ∨ n = 46 ∨ n = 95 ∨ n = 126)
def resI (n : Int) : Bool := decide (n ∈ [33, 35, 36, 38, 42, 43, 44, 47, 58, 59, 61, 63, 64, 91, 93])
def unr (c : UInt8) : Bool := unrI (c.toNat : Int)
def res (c : UInt8) : Bool := resI (c.toNat : Int)
/-- What a digit of base 16 counts; -1: none. -/
def hc (c : UInt8) : Int := hexI (c.toNat : Int)
def two (a b : UInt8) : Bool := decide (0 ≤ hc a ∧ 0 ≤ hc b)
def oct2 (a b : UInt8) : UInt8 := ((hc a).toNat * 16 + (hc b).toNat).toUInt8
/-- The octet that a text tells first, and how many octets tell it: none of a sign without its digits. -/
def headL : List UInt8 → UInt8 × Nat
  | [] => (0, 0)
  | c :: t => if c = 37 then (match t with
    | a :: b :: _ => if two a b = true then (oct2 a b, 3) else (0, 0)
    | _ => (0, 0)) else (c, 1)
/-- A text in which octets that p does not let stay are told by a sign and two digits. -/
def codL (p : List UInt8 → Bool) : List UInt8 → List UInt8
  | [] => []
  | c :: t => (if p (c :: t) = true then [c] else 37 :: hexL c.toNat 2) ++ codL p t
def encP (l : List UInt8) : Bool := unr (l.headD 0)
def norP (l : List UInt8) : Bool := unr (l.headD 0) || res (l.headD 0) || ((headL l).2 == 3)
def encL (l : List UInt8) : List UInt8 := codL encP l
def norL (l : List UInt8) : List UInt8 := codL norP l

/-- The octets that a text tells up to the first sign without digits, and the place of that, or the text's length. -/
def tellF : Nat → List UInt8 → List UInt8 × Nat
  | 0, _ => ([], 0)
  | n + 1, l => if (headL l).2 = 0 then ([], 0) else ((headL l).1 :: (tellF n (l.drop (headL l).2)).1, (headL l).2 + (tellF n (l.drop (headL l).2)).2)
def tellL (l : List UInt8) : List UInt8 × Nat := tellF l.length l

theorem head_other (c : UInt8) (t : List UInt8) (h : c ≠ 37) : headL (c :: t) = (c, 1) := by simp [headL, h]
theorem head_two (a b : UInt8) (t : List UInt8) (h : two a b = true) : headL (37 :: a :: b :: t) = (oct2 a b, 3) := by simp [headL, h]
theorem head_bad (a b : UInt8) (t : List UInt8) (h : two a b = false) : headL (37 :: a :: b :: t) = (0, 0) := by simp [headL, h]
theorem head_short (t : List UInt8) (h : t.length < 2) : headL (37 :: t) = (0, 0) := by
  match t, h with
  | [], _ => rfl
  | [_], _ => rfl
  | _ :: _ :: _, h => simp at h; omega
theorem head_len (l : List UInt8) : (headL l).2 ≤ l.length ∧ (headL l).2 ≤ 3 := by
  match l with
  | [] => exact ⟨Nat.le_refl _, by decide⟩
  | c :: t =>
    by_cases hc : c = 37
    · subst hc
      match t with
      | [] => exact ⟨by decide, by decide⟩
      | [_] => rw [head_short _ (by simp)]; simp
      | a :: b :: t =>
        cases h : two a b with
        | true => rw [head_two a b t h]; simp
        | false => rw [head_bad a b t h]; simp
    · rw [head_other c t hc]; simp

theorem tell_fuel : ∀ (n m : Nat) (l : List UInt8), l.length ≤ n → l.length ≤ m → tellF n l = tellF m l
  | 0, 0, _, _, _ => rfl
  | 0, m + 1, l, hn, _ => by
    have : l = [] := List.eq_nil_of_length_eq_zero (by omega)
    subst this; rfl
  | n + 1, 0, l, _, hm => by
    have : l = [] := List.eq_nil_of_length_eq_zero (by omega)
    subst this; rfl
  | n + 1, m + 1, l, hn, hm => by
    unfold tellF
    by_cases hz : (headL l).2 = 0
    · rw [if_pos hz, if_pos hz]
    · rw [if_neg hz, if_neg hz, tell_fuel n m (l.drop (headL l).2) (by rw [List.length_drop]; omega) (by rw [List.length_drop]; omega)]
theorem tell_stop {l : List UInt8} (h : (headL l).2 = 0) : tellL l = ([], 0) := by
  unfold tellL
  cases hl : l.length with
  | zero => rfl
  | succ n => unfold tellF; rw [if_pos h]
theorem tell_step {l : List UInt8} (h : (headL l).2 ≠ 0) : tellL l = ((headL l).1 :: (tellL (l.drop (headL l).2)).1, (headL l).2 + (tellL (l.drop (headL l).2)).2) := by
  have hh := head_len l
  unfold tellL
  obtain ⟨n, hn⟩ : ∃ n, l.length = n + 1 := ⟨l.length - 1, by omega⟩
  rw [hn]
  show (if (headL l).2 = 0 then _ else _) = _
  rw [if_neg h, tell_fuel n (l.drop (headL l).2).length _ (by rw [List.length_drop]; omega) (Nat.le_refl _)]
theorem tell_other (c : UInt8) (t : List UInt8) (h : c ≠ 37) : tellL (c :: t) = (c :: (tellL t).1, 1 + (tellL t).2) := by
  have e := head_other c t h
  rw [tell_step (by rw [e]; simp), e]
  rfl
theorem tell_two (a b : UInt8) (t : List UInt8) (h : two a b = true) : tellL (37 :: a :: b :: t) = (oct2 a b :: (tellL t).1, 3 + (tellL t).2) := by
  have e := head_two a b t h
  rw [tell_step (by rw [e]; simp), e]
  rfl
theorem tell_nil : tellL [] = ([], 0) := rfl
theorem tell_len (n : Nat) : ∀ l : List UInt8, l.length ≤ n → (tellL l).2 ≤ l.length ∧ (tellL l).1.length ≤ (tellL l).2 := by
  induction n with
  | zero =>
    intro l h
    have : l = [] := List.eq_nil_of_length_eq_zero (by omega)
    subst this; exact ⟨Nat.le_refl _, Nat.le_refl _⟩
  | succ n ih =>
    intro l h
    by_cases hz : (headL l).2 = 0
    · rw [tell_stop hz]; simp
    · have hh := head_len l
      have := ih (l.drop (headL l).2) (by rw [List.length_drop]; omega)
      rw [List.length_drop] at this
      rw [tell_step hz]
      simp only [List.length_cons]
      omega

/-! ### Octets -/
theorem hexL2 (u : Nat) : hexL u 2 = [hexDig (u / 16 % 16), hexDig (u % 16)] := by
  rw [hexL_cons, hexL_cons]
  simp [hexL]
theorem hex_two (c : UInt8) : two (hexDig (c.toNat / 16 % 16)) (hexDig (c.toNat % 16)) = true ∧ oct2 (hexDig (c.toNat / 16 % 16)) (hexDig (c.toNat % 16)) = c := by
  have h1 : ∀ c : Fin 256, two (hexDig ((UInt8.ofNat c.val).toNat / 16 % 16)) (hexDig ((UInt8.ofNat c.val).toNat % 16)) = true ∧ oct2 (hexDig ((UInt8.ofNat c.val).toNat / 16 % 16)) (hexDig ((UInt8.ofNat c.val).toNat % 16)) = UInt8.ofNat c.val := by decide +kernel
  have h2 := h1 ⟨c.toNat, c.toNat_lt⟩
  simp only [UInt8.ofNat_toNat] at h2
  exact h2
theorem digit_unr (a b : UInt8) (h : two a b = true) : unr a = true ∧ unr b = true := by
  have h1 : ∀ c : Fin 256, 0 ≤ hc (UInt8.ofNat c.val) → unr (UInt8.ofNat c.val) = true := by decide +kernel
  have h2 : ∀ c : UInt8, 0 ≤ hc c → unr c = true := fun c h => by
    have h2 := h1 ⟨c.toNat, c.toNat_lt⟩
    simp only [UInt8.ofNat_toNat] at h2
    exact h2 h
  have h3 := of_decide_eq_true h
  exact ⟨h2 a h3.1, h2 b h3.2⟩
theorem sign_not : unr 37 = false ∧ res 37 = false := by decide
theorem stay_small (c : UInt8) (h : c = 37 ∨ unr c = true ∨ res c = true) : c.toNat < 128 ∧ c.toNat ≠ 0 := by
  have h1 : ∀ c : Fin 256, (UInt8.ofNat c.val = 37 ∨ unr (UInt8.ofNat c.val) = true ∨ res (UInt8.ofNat c.val) = true) → (UInt8.ofNat c.val).toNat < 128 ∧ (UInt8.ofNat c.val).toNat ≠ 0 := by decide +kernel
  have h2 := h1 ⟨c.toNat, c.toNat_lt⟩
  simp only [UInt8.ofNat_toNat] at h2
  exact h2 h

/-! ### Encoded -/
theorem cod_len (p : List UInt8 → Bool) (l : List UInt8) : (codL p l).length ≤ 3 * l.length := by
  induction l with
  | nil => simp [codL]
  | cons c t ih =>
    have e : (if p (c :: t) = true then [c] else 37 :: hexL c.toNat 2).length ≤ 3 := by split <;> simp [hexL_length]
    show ((if p (c :: t) = true then [c] else 37 :: hexL c.toNat 2) ++ codL p t).length ≤ _
    rw [List.length_append, List.length_cons]
    omega
theorem enc_cons (c : UInt8) (t : List UInt8) : encL (c :: t) = (if unr c = true then [c] else 37 :: hexL c.toNat 2) ++ encL t := rfl
theorem enc_append (a b : List UInt8) : encL (a ++ b) = encL a ++ encL b := by
  induction a with
  | nil => rfl
  | cons c t ih => rw [List.cons_append, enc_cons, enc_cons, ih, List.append_assoc]
theorem enc_len' (l : List UInt8) : (encL l).length ≤ 3 * l.length := cod_len _ l
/-- There and back. -/
theorem tell_enc (l : List UInt8) : tellL (encL l) = (l, (encL l).length) := by
  induction l with
  | nil => rfl
  | cons c t ih =>
    rw [enc_cons]
    by_cases hu : unr c = true
    · rw [if_pos hu]
      have hc : c ≠ 37 := by rintro rfl; exact absurd hu (by decide)
      show tellL (c :: encL t) = (c :: t, (c :: encL t).length)
      rw [tell_other c _ hc, ih, List.length_cons, Nat.add_comm]
    · rw [if_neg hu, hexL2]
      have h := hex_two c
      show tellL (37 :: _ :: _ :: encL t) = (c :: t, (37 :: _ :: _ :: encL t).length)
      rw [tell_two _ _ _ h.1, h.2, ih]
      simp only [List.length_cons]
      rw [Prod.mk.injEq]
      exact ⟨rfl, by omega⟩

/-! ### Normal -/
inductive Norm : List UInt8 → Prop
  | nil : Norm []
  | cons (c : UInt8) (t : List UInt8) : c ≠ 37 → (unr c = true ∨ res c = true) → Norm t → Norm (c :: t)
  | sign (a b : UInt8) (t : List UInt8) : two a b = true → Norm t → Norm (37 :: a :: b :: t)

theorem nor_cons (c : UInt8) (t : List UInt8) : norL (c :: t) = (if norP (c :: t) = true then [c] else 37 :: hexL c.toNat 2) ++ norL t := rfl
theorem norP_stay (c : UInt8) (t : List UInt8) (h : unr c = true ∨ res c = true) : norP (c :: t) = true := by
  unfold norP
  show (unr c || res c || _) = true
  rcases h with h | h <;> rw [h] <;> simp
theorem norP_else (c : UInt8) (t : List UInt8) (h1 : unr c = false) (h2 : res c = false) (h3 : (headL (c :: t)).2 ≠ 3) : norP (c :: t) = false := by
  unfold norP
  show (unr c || res c || _) = false
  rw [h1, h2]; simpa using h3
theorem norP_sign (t : List UInt8) (h : (headL (37 :: t)).2 = 3) : norP (37 :: t) = true := by
  unfold norP
  rw [h]; simp
theorem norm_hex (c : UInt8) (t : List UInt8) (h : Norm t) : Norm ((37 :: hexL c.toNat 2) ++ t) := by
  rw [hexL2]
  exact .sign _ _ t (hex_two c).1 h
theorem nor_two (a b : UInt8) (t : List UInt8) (h : two a b = true) : norL (37 :: a :: b :: t) = 37 :: a :: b :: norL t := by
  have hd := digit_unr a b h
  rw [nor_cons, if_pos (norP_sign _ (by rw [head_two a b t h])), nor_cons, if_pos (norP_stay a _ (.inl hd.1)), nor_cons, if_pos (norP_stay b _ (.inl hd.2))]
  rfl
theorem norm_nor (n : Nat) : ∀ l : List UInt8, l.length ≤ n → Norm (norL l) := by
  induction n with
  | zero =>
    intro l h
    have : l = [] := List.eq_nil_of_length_eq_zero (by omega)
    subst this; exact .nil
  | succ n ih =>
    intro l h
    match l, h with
    | [], _ => exact .nil
    | c :: t, h =>
      have ht := ih t (by simpa using h)
      by_cases hc : c = 37
      · subst hc
        by_cases h3 : (headL (37 :: t)).2 = 3
        · match t, h, h3 with
          | [], _, h3 => exact absurd h3 (by decide)
          | [_], _, h3 => rw [head_short _ (by simp)] at h3; exact absurd h3 (by decide)
          | a :: b :: t, h, h3 =>
            cases h2 : two a b with
            | false => rw [head_bad a b t h2] at h3; exact absurd h3 (by decide)
            | true =>
              rw [nor_two a b t h2]
              exact .sign a b _ h2 (ih t (by simp at h; omega))
        · rw [nor_cons, norP_else 37 t sign_not.1 sign_not.2 h3]
          exact norm_hex 37 _ ht
      · by_cases hs : unr c = true ∨ res c = true
        · rw [nor_cons, if_pos (norP_stay c t hs)]
          exact .cons c _ hc hs ht
        · have h1 : unr c = false := by cases hu : unr c <;> simp_all
          have h2 : res c = false := by cases hu : res c <;> simp_all
          rw [nor_cons, norP_else c t h1 h2 (by rw [head_other c t hc]; simp)]
          exact norm_hex c _ ht
theorem norm_all {m : List UInt8} (h : Norm m) : ∀ c ∈ m, c = 37 ∨ unr c = true ∨ res c = true := by
  induction h with
  | nil => intro c hc; cases hc
  | cons c t hc hs _ ih =>
    intro d hd
    rcases List.mem_cons.1 hd with rfl | hd
    · exact .inr hs
    · exact ih d hd
  | sign a b t h2 _ ih =>
    have hu := digit_unr a b h2
    intro d hd
    rcases List.mem_cons.1 hd with rfl | hd
    · exact .inl rfl
    · rcases List.mem_cons.1 hd with rfl | hd
      · exact .inr (.inl hu.1)
      · rcases List.mem_cons.1 hd with rfl | hd
        · exact .inr (.inl hu.2)
        · exact ih d hd
theorem norm_tell {m : List UInt8} (h : Norm m) : (tellL m).2 = m.length := by
  induction h with
  | nil => rfl
  | cons c t hc hs _ ih => rw [tell_other c t hc, List.length_cons, ← ih, Nat.add_comm]
  | sign a b t h2 _ ih => rw [tell_two a b t h2]; simp only [List.length_cons]; omega
theorem norm_own {m : List UInt8} (h : Norm m) : norL m = m := by
  induction h with
  | nil => rfl
  | cons c t hc hs _ ih => rw [nor_cons, if_pos (norP_stay c t hs), ih]; rfl
  | sign a b t h2 _ ih => rw [nor_two a b t h2, ih]

/-! ### Repaired -/
theorem enc_small (c : UInt8) (h : c.toNat < 128) : encodeRune (c.toNat : Int) = [c] := by
  have h1 : ∀ c : Fin 128, encodeRune (c.val : Int) = [c.val.toUInt8] := by decide +kernel
  have h2 := h1 ⟨c.toNat, h⟩
  rw [show ((⟨c.toNat, h⟩ : Fin 128).val) = c.toNat from rfl] at h2
  rw [h2]
  simp
theorem rep_step (c : Int) (t : List UInt8) (h : isChar c) : rep (encodeRune c ++ t) = encodeRune (fix c) ++ rep t := by
  unfold rep chars encs
  rw [parts_enc1 c h t, List.map_cons, List.flatMap_cons]
theorem rep_small (l : List UInt8) (h : ∀ c ∈ l, c.toNat < 128 ∧ c.toNat ≠ 0) : rep l = l := by
  induction l with
  | nil => rfl
  | cons c t ih =>
    have hc := h c (by simp)
    have hch : isChar (c.toNat : Int) := .inl (by omega)
    have e := rep_step (c.toNat : Int) t hch
    rw [fix_id hch (by omega), enc_small c hc.1, ih (fun d hd => h d (by simp [hd]))] at e
    exact e
/-- A text that is valid, and another one behind it. -/
theorem rep_append (a b : List UInt8) (h : valid a = true) : rep (a ++ b) = rep a ++ rep b := by
  induction a using parts_ind with
  | h0 => rfl
  | hbad x t hd ih =>
    unfold valid at h
    rw [parts_bad x t hd] at h
    simp at h
  | hc c t hc ih =>
    have hv : valid t = true := by
      unfold valid at h ⊢
      rw [parts_enc1 c hc t, List.all_cons] at h
      exact (Bool.and_eq_true_iff.1 h).2
    rw [List.append_assoc, rep_step c _ hc, rep_step c _ hc, ih hv, List.append_assoc]
end Go.Proofs.Ytomclpaedbgdfaa.Pct
