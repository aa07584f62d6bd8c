/-
  Part 4: PctPure, SchPure, UscPure, ValTree, LitPure.
-/
import Derived.Test.YtklpbkjplecdpaaGreatSwBaseP1
import Derived.Test.YtklpbkjplecdpaaGreatSwBaseP2
import Derived.Test.YtklpbkjplecdpaaGreatProg
import Derived.Lib.Hide
import Derived.Laws.Rows
/-
  Plain facts on percent signs, with no program: what is unreserved, what is reserved; a text encoded, a normal one, a text decoded.
-/
namespace Go.Proofs.YtklpbkjplecdpaaGreat.Pct
open Go.Proofs.YtklpbkjplecdpaaGreat.Oct Go.Proofs.YtklpbkjplecdpaaGreat.Utf
open Go.Lib (encodeRune)

def unrI (n : Int) : Bool := letterI n || digitI n || decide (n = 45 ∨ n = 46 ∨ n = 95 ∨ n = 126)
def resI (n : Int) : Bool := decide (n ∈ [33, 35, 36, 38, 42, 43, 44, 47, 58, 59, 61, 63, 64, 91, 93])
def unr (c : UInt8) : Bool := unrI (c.toNat : Int)
def res (c : UInt8) : Bool := resI (c.toNat : Int)
/-- What a digit of base 16 counts; -1: none. -/
def hc (c : UInt8) : Int := hexI (c.toNat : Int)
def two (a b : UInt8) : Bool := decide (0 ≤ hc a ∧ 0 ≤ hc b)
def oct2 (a b : UInt8) : UInt8 := ((hc a).toNat * 16 + (hc b).toNat).toUInt8
/-- The octet that a text tells first, and how many octets tell it: none of a sign without its digits. -/
def headL : List UInt8 → UInt8 × Nat
  | [] => (0, 0)
  | c :: t => if c = 37 then (match t with
    | a :: b :: _ => if two a b = true then (oct2 a b, 3) else (0, 0)
    | _ => (0, 0)) else (c, 1)
/-- A text in which octets that p does not let stay are told by a sign and two digits. -/
def codL (p : List UInt8 → Bool) : List UInt8 → List UInt8
  | [] => []
  | c :: t => (if p (c :: t) = true then [c] else 37 :: hexL c.toNat 2) ++ codL p t
def encP (l : List UInt8) : Bool := unr (l.headD 0)
def norP (l : List UInt8) : Bool := unr (l.headD 0) || res (l.headD 0) || ((headL l).2 == 3)
def encL (l : List UInt8) : List UInt8 := codL encP l
def norL (l : List UInt8) : List UInt8 := codL norP l

/-- The octets that a text tells up to the first sign without digits, and the place of that, or the text's length. -/
def tellF : Nat → List UInt8 → List UInt8 × Nat
  | 0, _ => ([], 0)
  | n + 1, l => if (headL l).2 = 0 then ([], 0) else ((headL l).1 :: (tellF n (l.drop (headL l).2)).1, (headL l).2 + (tellF n (l.drop (headL l).2)).2)
def tellL (l : List UInt8) : List UInt8 × Nat := tellF l.length l

theorem head_other (c : UInt8) (t : List UInt8) (h : c ≠ 37) : headL (c :: t) = (c, 1) := by simp [headL, h]
theorem head_two (a b : UInt8) (t : List UInt8) (h : two a b = true) : headL (37 :: a :: b :: t) = (oct2 a b, 3) := by simp [headL, h]
theorem head_bad (a b : UInt8) (t : List UInt8) (h : two a b = false) : headL (37 :: a :: b :: t) = (0, 0) := by simp [headL, h]
theorem head_short (t : List UInt8) (h : t.length < 2) : headL (37 :: t) = (0, 0) := by
  match t, h with
  | [], _ => rfl
  | [_], _ => rfl
  | _ :: _ :: _, h => simp at h; omega
theorem head_len (l : List UInt8) : (headL l).2 ≤ l.length ∧ (headL l).2 ≤ 3 := by
  match l with
  | [] => exact ⟨Nat.le_refl _, by decide⟩
  | c :: t =>
    by_cases hc : c = 37
    · subst hc
      match t with
      | [] => exact ⟨by decide, by decide⟩
      | [_] => rw [head_short _ (by simp)]; simp
      | a :: b :: t =>
        cases h : two a b with
        | true => rw [head_two a b t h]; simp
        | false => rw [head_bad a b t h]; simp
    · rw [head_other c t hc]; simp

theorem tell_fuel : ∀ (n m : Nat) (l : List UInt8), l.length ≤ n → l.length ≤ m → tellF n l = tellF m l
  | 0, 0, _, _, _ => rfl
  | 0, m + 1, l, hn, _ => by
    have : l = [] := List.eq_nil_of_length_eq_zero (by omega)
    subst this; rfl
  | n + 1, 0, l, _, hm => by
    have : l = [] := List.eq_nil_of_length_eq_zero (by omega)
    subst this; rfl
  | n + 1, m + 1, l, hn, hm => by
    unfold tellF
    by_cases hz : (headL l).2 = 0
    · rw [if_pos hz, if_pos hz]
    · rw [if_neg hz, if_neg hz, tell_fuel n m (l.drop (headL l).2) (by rw [List.length_drop]; omega) (by rw [List.length_drop]; omega)]
theorem tell_stop {l : List UInt8} (h : (headL l).2 = 0) : tellL l = ([], 0) := by
  unfold tellL
  cases hl : l.length with
  | zero => rfl
  | succ n => unfold tellF; rw [if_pos h]
theorem tell_step {l : List UInt8} (h : (headL l).2 ≠ 0) : tellL l = ((headL l).1 :: (tellL (l.drop (headL l).2)).1, (headL l).2 + (tellL (l.drop (headL l).2)).2) := by
  have hh := head_len l
  unfold tellL
  obtain ⟨n, hn⟩ : ∃ n, l.length = n + 1 := ⟨l.length - 1, by omega⟩
  rw [hn]
  show (if (headL l).2 = 0 then _ else _) = _
  rw [if_neg h, tell_fuel n (l.drop (headL l).2).length _ (by rw [List.length_drop]; omega) (Nat.le_refl _)]
theorem tell_other (c : UInt8) (t : List UInt8) (h : c ≠ 37) : tellL (c :: t) = (c :: (tellL t).1, 1 + (tellL t).2) := by
  have e := head_other c t h
  rw [tell_step (by rw [e]; simp), e]
  rfl
theorem tell_two (a b : UInt8) (t : List UInt8) (h : two a b = true) : tellL (37 :: a :: b :: t) = (oct2 a b :: (tellL t).1, 3 + (tellL t).2) := by
  have e := head_two a b t h
  rw [tell_step (by rw [e]; simp), e]
  rfl
theorem tell_nil : tellL [] = ([], 0) := rfl
theorem tell_len (n : Nat) : ∀ l : List UInt8, l.length ≤ n → (tellL l).2 ≤ l.length ∧ (tellL l).1.length ≤ (tellL l).2 := by
  induction n with
  | zero =>
    intro l h
    have : l = [] := List.eq_nil_of_length_eq_zero (by omega)
    subst this; exact ⟨Nat.le_refl _, Nat.le_refl _⟩
  | succ n ih =>
    intro l h
    by_cases hz : (headL l).2 = 0
    · rw [tell_stop hz]; simp
    · have hh := head_len l
      have := ih (l.drop (headL l).2) (by rw [List.length_drop]; omega)
      rw [List.length_drop] at this
      rw [tell_step hz]
      simp only [List.length_cons]
      omega

/-! ### Octets -/
theorem hexL2 (u : Nat) : hexL u 2 = [hexDig (u / 16 % 16), hexDig (u % 16)] := by
  rw [hexL_cons, hexL_cons]
  simp [hexL]
theorem hex_two (c : UInt8) : two (hexDig (c.toNat / 16 % 16)) (hexDig (c.toNat % 16)) = true ∧ oct2 (hexDig (c.toNat / 16 % 16)) (hexDig (c.toNat % 16)) = c := by
  have h1 : ∀ c : Fin 256, two (hexDig ((UInt8.ofNat c.val).toNat / 16 % 16)) (hexDig ((UInt8.ofNat c.val).toNat % 16)) = true ∧ oct2 (hexDig ((UInt8.ofNat c.val).toNat / 16 % 16)) (hexDig ((UInt8.ofNat c.val).toNat % 16)) = UInt8.ofNat c.val := by decide +kernel
  have h2 := h1 ⟨c.toNat, c.toNat_lt⟩
  simp only [UInt8.ofNat_toNat] at h2
  exact h2
theorem digit_unr (a b : UInt8) (h : two a b = true) : unr a = true ∧ unr b = true := by
  have h1 : ∀ c : Fin 256, 0 ≤ hc (UInt8.ofNat c.val) → unr (UInt8.ofNat c.val) = true := by decide +kernel
  have h2 : ∀ c : UInt8, 0 ≤ hc c → unr c = true := fun c h => by
    have h2 := h1 ⟨c.toNat, c.toNat_lt⟩
    simp only [UInt8.ofNat_toNat] at h2
    exact h2 h
  have h3 := of_decide_eq_true h
  exact ⟨h2 a h3.1, h2 b h3.2⟩
theorem sign_not : unr 37 = false ∧ res 37 = false := by decide
theorem stay_small (c : UInt8) (h : c = 37 ∨ unr c = true ∨ res c = true) : c.toNat < 128 ∧ c.toNat ≠ 0 := by
  have h1 : ∀ c : Fin 256, (UInt8.ofNat c.val = 37 ∨ unr (UInt8.ofNat c.val) = true ∨ res (UInt8.ofNat c.val) = true) → (UInt8.ofNat c.val).toNat < 128 ∧ (UInt8.ofNat c.val).toNat ≠ 0 := by decide +kernel
  have h2 := h1 ⟨c.toNat, c.toNat_lt⟩
  simp only [UInt8.ofNat_toNat] at h2
  exact h2 h

/-! ### Encoded -/
theorem cod_len (p : List UInt8 → Bool) (l : List UInt8) : (codL p l).length ≤ 3 * l.length := by
  induction l with
  | nil => simp [codL]
  | cons c t ih =>
    have e : (if p (c :: t) = true then [c] else 37 :: hexL c.toNat 2).length ≤ 3 := by split <;> simp [hexL_length]
    show ((if p (c :: t) = true then [c] else 37 :: hexL c.toNat 2) ++ codL p t).length ≤ _
    rw [List.length_append, List.length_cons]
    omega
theorem enc_cons (c : UInt8) (t : List UInt8) : encL (c :: t) = (if unr c = true then [c] else 37 :: hexL c.toNat 2) ++ encL t := rfl
theorem enc_append (a b : List UInt8) : encL (a ++ b) = encL a ++ encL b := by
  induction a with
  | nil => rfl
  | cons c t ih => rw [List.cons_append, enc_cons, enc_cons, ih, List.append_assoc]
theorem enc_len' (l : List UInt8) : (encL l).length ≤ 3 * l.length := cod_len _ l
/-- There and back. -/
theorem tell_enc (l : List UInt8) : tellL (encL l) = (l, (encL l).length) := by
  induction l with
  | nil => rfl
  | cons c t ih =>
    rw [enc_cons]
    by_cases hu : unr c = true
    · rw [if_pos hu]
      have hc : c ≠ 37 := by rintro rfl; exact absurd hu (by decide)
      show tellL (c :: encL t) = (c :: t, (c :: encL t).length)
      rw [tell_other c _ hc, ih, List.length_cons, Nat.add_comm]
    · rw [if_neg hu, hexL2]
      have h := hex_two c
      show tellL (37 :: _ :: _ :: encL t) = (c :: t, (37 :: _ :: _ :: encL t).length)
      rw [tell_two _ _ _ h.1, h.2, ih]
      simp only [List.length_cons]
      rw [Prod.mk.injEq]
      exact ⟨rfl, by omega⟩

/-! ### Normal -/
inductive Norm : List UInt8 → Prop
  | nil : Norm []
  | cons (c : UInt8) (t : List UInt8) : c ≠ 37 → (unr c = true ∨ res c = true) → Norm t → Norm (c :: t)
  | sign (a b : UInt8) (t : List UInt8) : two a b = true → Norm t → Norm (37 :: a :: b :: t)

theorem nor_cons (c : UInt8) (t : List UInt8) : norL (c :: t) = (if norP (c :: t) = true then [c] else 37 :: hexL c.toNat 2) ++ norL t := rfl
theorem norP_stay (c : UInt8) (t : List UInt8) (h : unr c = true ∨ res c = true) : norP (c :: t) = true := by
  unfold norP
  show (unr c || res c || _) = true
  rcases h with h | h <;> rw [h] <;> simp
theorem norP_else (c : UInt8) (t : List UInt8) (h1 : unr c = false) (h2 : res c = false) (h3 : (headL (c :: t)).2 ≠ 3) : norP (c :: t) = false := by
  unfold norP
  show (unr c || res c || _) = false
  rw [h1, h2]; simpa using h3
theorem norP_sign (t : List UInt8) (h : (headL (37 :: t)).2 = 3) : norP (37 :: t) = true := by
  unfold norP
  rw [h]; simp
theorem norm_hex (c : UInt8) (t : List UInt8) (h : Norm t) : Norm ((37 :: hexL c.toNat 2) ++ t) := by
  rw [hexL2]
  exact .sign _ _ t (hex_two c).1 h
theorem nor_two (a b : UInt8) (t : List UInt8) (h : two a b = true) : norL (37 :: a :: b :: t) = 37 :: a :: b :: norL t := by
  have hd := digit_unr a b h
  rw [nor_cons, if_pos (norP_sign _ (by rw [head_two a b t h])), nor_cons, if_pos (norP_stay a _ (.inl hd.1)), nor_cons, if_pos (norP_stay b _ (.inl hd.2))]
  rfl
theorem norm_nor (n : Nat) : ∀ l : List UInt8, l.length ≤ n → Norm (norL l) := by
  induction n with
  | zero =>
    intro l h
    have : l = [] := List.eq_nil_of_length_eq_zero (by omega)
    subst this; exact .nil
  | succ n ih =>
    intro l h
    match l, h with
    | [], _ => exact .nil
    | c :: t, h =>
      have ht := ih t (by simpa using h)
      by_cases hc : c = 37
      · subst hc
        by_cases h3 : (headL (37 :: t)).2 = 3
        · match t, h, h3 with
          | [], _, h3 => exact absurd h3 (by decide)
          | [_], _, h3 => rw [head_short _ (by simp)] at h3; exact absurd h3 (by decide)
          | a :: b :: t, h, h3 =>
            cases h2 : two a b with
            | false => rw [head_bad a b t h2] at h3; exact absurd h3 (by decide)
            | true =>
              rw [nor_two a b t h2]
              exact .sign a b _ h2 (ih t (by simp at h; omega))
        · rw [nor_cons, norP_else 37 t sign_not.1 sign_not.2 h3]
          exact norm_hex 37 _ ht
      · by_cases hs : unr c = true ∨ res c = true
        · rw [nor_cons, if_pos (norP_stay c t hs)]
          exact .cons c _ hc hs ht
        · have h1 : unr c = false := by cases hu : unr c <;> simp_all
          have h2 : res c = false := by cases hu : res c <;> simp_all
          rw [nor_cons, norP_else c t h1 h2 (by rw [head_other c t hc]; simp)]
          exact norm_hex c _ ht
theorem norm_all {m : List UInt8} (h : Norm m) : ∀ c ∈ m, c = 37 ∨ unr c = true ∨ res c = true := by
  induction h with
  | nil => intro c hc; cases hc
  | cons c t hc hs _ ih =>
    intro d hd
    rcases List.mem_cons.1 hd with rfl | hd
    · exact .inr hs
    · exact ih d hd
  | sign a b t h2 _ ih =>
    have hu := digit_unr a b h2
    intro d hd
    rcases List.mem_cons.1 hd with rfl | hd
    · exact .inl rfl
    · rcases List.mem_cons.1 hd with rfl | hd
      · exact .inr (.inl hu.1)
      · rcases List.mem_cons.1 hd with rfl | hd
        · exact .inr (.inl hu.2)
        · exact ih d hd
theorem norm_tell {m : List UInt8} (h : Norm m) : (tellL m).2 = m.length := by
  induction h with
  | nil => rfl
  | cons c t hc hs _ ih => rw [tell_other c t hc, List.length_cons, ← ih, Nat.add_comm]
  | sign a b t h2 _ ih => rw [tell_two a b t h2]; simp only [List.length_cons]; omega
theorem norm_own {m : List UInt8} (h : Norm m) : norL m = m := by
  induction h with
  | nil => rfl
  | cons c t hc hs _ ih => rw [nor_cons, if_pos (norP_stay c t hs), ih]; rfl
  | sign a b t h2 _ ih => rw [nor_two a b t h2, ih]

/-! ### Repaired -/
theorem enc_small (c : UInt8) (h : c.toNat < 128) : encodeRune (c.toNat : Int) = [c] := by
  have h1 : ∀ c : Fin 128, encodeRune (c.val : Int) = [c.val.toUInt8] := by decide +kernel
  have h2 := h1 ⟨c.toNat, h⟩
  rw [show ((⟨c.toNat, h⟩ : Fin 128).val) = c.toNat from rfl] at h2
  rw [h2]
  simp
theorem rep_step (c : Int) (t : List UInt8) (h : isChar c) : rep (encodeRune c ++ t) = encodeRune (fix c) ++ rep t := by
  unfold rep chars encs
  rw [parts_enc1 c h t, List.map_cons, List.flatMap_cons]
theorem rep_small (l : List UInt8) (h : ∀ c ∈ l, c.toNat < 128 ∧ c.toNat ≠ 0) : rep l = l := by
  induction l with
  | nil => rfl
  | cons c t ih =>
    have hc := h c (by simp)
    have hch : isChar (c.toNat : Int) := .inl (by omega)
    have e := rep_step (c.toNat : Int) t hch
    rw [fix_id hch (by omega), enc_small c hc.1, ih (fun d hd => h d (by simp [hd]))] at e
    exact e
/-- A text that is valid, and another one behind it. -/
theorem rep_append (a b : List UInt8) (h : valid a = true) : rep (a ++ b) = rep a ++ rep b := by
  induction a using parts_ind with
  | h0 => rfl
  | hbad x t hd ih =>
    unfold valid at h
    rw [parts_bad x t hd] at h
    simp at h
  | hc c t hc ih =>
    have hv : valid t = true := by
      unfold valid at h ⊢
      rw [parts_enc1 c hc t, List.all_cons] at h
      exact (Bool.and_eq_true_iff.1 h).2
    rw [List.append_assoc, rep_step c _ hc, rep_step c _ hc, ih hv, List.append_assoc]
end Go.Proofs.YtklpbkjplecdpaaGreat.Pct

/-
  Plain facts on schemes, with no program: where one ends, which are allowed, a text filtered.
-/
namespace Go.Proofs.YtklpbkjplecdpaaGreat.Sch
open Go.Proofs.YtklpbkjplecdpaaGreat.Oct Go.Proofs.YtklpbkjplecdpaaGreat.Utf Go.Proofs.YtklpbkjplecdpaaGreat.Pct
open Go.Lib (encodeRune)

/-- Where a text's scheme ends: the place of the first : , if no / ? # stands ahead of it. -/
def schL : List UInt8 → Option Nat
  | [] => none
  | c :: t => if c = 58 then some 0 else if c = 47 ∨ c = 63 ∨ c = 35 then none else (schL t).map (· + 1)
/-- The scheme in small letters, and whether there is one. -/
def schemeL (l : List UInt8) : List UInt8 × Bool := match schL l with
  | some k => ((l.take k).map low, true)
  | none => ([], false)
abbrev httpL : List UInt8 := [104, 116, 116, 112]
abbrev httpsL : List UInt8 := [104, 116, 116, 112, 115]
abbrev mailtoL : List UInt8 := [109, 97, 105, 108, 116, 111]
abbrev markL : List UInt8 := [35, 90, 103, 111, 116, 109, 112, 108, 90]
def allowL (l : List UInt8) : Bool := decide (l = httpL ∨ l = httpsL ∨ l = mailtoL)
def filtL (l : List UInt8) : List UInt8 := if (schemeL l).2 = true ∧ allowL (schemeL l).1 = false then markL else norL (rep l)

theorem sch_le {l : List UInt8} {k : Nat} (h : schL l = some k) : k < l.length := by
  induction l generalizing k with
  | nil => cases h
  | cons c t ih =>
    unfold schL at h
    split at h
    · injection h with h; subst h; simp
    · split at h
      · cases h
      · obtain ⟨j, hj, rfl⟩ := Option.map_eq_some_iff.1 h
        have := ih hj
        simp; omega

/-! ### The four octets that part a URL at its beginning -/
def isM (c : UInt8) : Bool := decide (c = 58 ∨ c = 47 ∨ c = 63 ∨ c = 35)
def marks (l : List UInt8) : List UInt8 := l.filter isM
theorem marks_append (a b : List UInt8) : marks (a ++ b) = marks a ++ marks b := List.filter_append ..
theorem marks_none {l : List UInt8} (h : ∀ c ∈ l, isM c = false) : marks l = [] := by
  unfold marks
  rw [List.filter_eq_nil_iff]
  intro c hc
  rw [h c hc]; simp
theorem sch_marks (l : List UInt8) : (schL l).isSome = decide ((marks l).head? = some 58) := by
  induction l with
  | nil => rfl
  | cons c t ih =>
    unfold schL
    by_cases h1 : c = 58
    · subst h1; rfl
    · rw [if_neg h1]
      by_cases h2 : c = 47 ∨ c = 63 ∨ c = 35
      · rw [if_pos h2]
        have hm : isM c = true := decide_eq_true (.inr h2)
        unfold marks
        rw [List.filter_cons_of_pos hm]
        simp [h1]
      · rw [if_neg h2, Option.isSome_map, ih]
        have hm : ¬ isM c = true := by
          intro h
          rcases of_decide_eq_true h with h | h
          · exact h1 h
          · exact h2 h
        unfold marks
        rw [List.filter_cons_of_neg hm]
theorem small_oct (c : UInt8) (h : isM c = true) : (unr c = false ∧ res c = true ∧ c ≠ 37) := by
  rcases of_decide_eq_true h with h | h | h | h <;> subst h <;> decide
theorem marks_hex (c : UInt8) : marks (37 :: hexL c.toNat 2) = [] := by
  rw [hexL2]
  refine marks_none fun d hd => ?_
  have h2 := digit_unr _ _ (hex_two c).1
  have hn : ∀ d, unr d = true → isM d = false := fun d hu => by
    cases hq : isM d with
    | false => rfl
    | true => rw [(small_oct d hq).1] at hu; cases hu
  rcases List.mem_cons.1 hd with rfl | hd
  · decide
  · rcases List.mem_cons.1 hd with rfl | hd
    · exact hn _ h2.1
    · rw [List.mem_singleton] at hd
      subst hd
      exact hn _ h2.2
theorem marks_nor (l : List UInt8) : marks (norL l) = marks l := by
  induction l with
  | nil => rfl
  | cons c t ih =>
    rw [nor_cons, marks_append, ih]
    have e : marks (c :: t) = marks [c] ++ marks t := marks_append [c] t
    rw [e]
    congr 1
    by_cases hp : norP (c :: t) = true
    · rw [if_pos hp]
    · rw [if_neg hp, marks_hex]
      refine (marks_none fun d hd => ?_).symm
      rw [List.mem_singleton] at hd
      subst hd
      cases hq : isM d with
      | false => rfl
      | true => exact absurd (norP_stay d t (.inr (small_oct d hq).2.1)) hp
theorem isM_small (c : UInt8) (h : isM c = true) : c.toNat < 128 ∧ c.toNat ≠ 0 := stay_small c (.inr (.inr (small_oct c h).2.1))
theorem bad_big (x : UInt8) (t : List UInt8) (h : dec (x :: t) = (-1, 1)) : isM x = false := by
  cases hq : isM x with
  | false => rfl
  | true =>
    have hs := isM_small x hq
    have hch : isChar (x.toNat : Int) := .inl (by omega)
    have h2 := dec_enc (x.toNat : Int) hch t
    rw [enc_small x hs.1] at h2
    rw [show [x] ++ t = x :: t from rfl, h] at h2
    have h3 := congrArg Prod.fst h2
    simp at h3
theorem marks_fix (c : Int) : marks (encodeRune (fix c)) = marks (encodeRune c) ∨ c = -1 := by
  unfold fix
  by_cases h : c = -1 ∨ c = 0
  · rw [if_pos h]
    rcases h with rfl | rfl
    · exact .inr rfl
    · left
      decide +kernel
  · rw [if_neg h]; exact .inl rfl
theorem marks_rep (l : List UInt8) : marks (rep l) = marks l := by
  induction l using parts_ind with
  | h0 => rfl
  | hbad x t h ih =>
    have e : rep (x :: t) = encodeRune 65533 ++ rep t := by
      unfold rep chars encs
      rw [parts_bad x t h, List.map_cons, List.flatMap_cons]
      rfl
    have e2 : marks (x :: t) = marks t := by
      unfold marks
      rw [List.filter_cons_of_neg (by rw [bad_big x t h]; simp)]
    have e3 : marks (encodeRune 65533) = [] := by decide +kernel
    rw [e, marks_append, ih, e2, e3, List.nil_append]
  | hc c t hc ih =>
    rw [rep_step c t hc, marks_append, marks_append, ih]
    rcases marks_fix c with h | h
    · rw [h]
    · subst h
      exact absurd hc (by decide)

/-! ### Filtered -/
theorem sch_split {l : List UInt8} {k : Nat} (h : schL l = some k) : l = l.take k ++ 58 :: l.drop (k + 1) ∧ ∀ c ∈ l.take k, isM c = false := by
  induction l generalizing k with
  | nil => cases h
  | cons c t ih =>
    unfold schL at h
    by_cases h1 : c = 58
    · rw [if_pos h1] at h
      injection h with h
      subst h; subst h1
      exact ⟨rfl, fun c hc => by cases hc⟩
    · rw [if_neg h1] at h
      by_cases h2 : c = 47 ∨ c = 63 ∨ c = 35
      · rw [if_pos h2] at h; cases h
      · rw [if_neg h2] at h
        obtain ⟨j, hj, rfl⟩ := Option.map_eq_some_iff.1 h
        have hi := ih hj
        refine ⟨?_, ?_⟩
        · rw [List.take_succ_cons, List.drop_succ_cons, List.cons_append, ← hi.1]
        · rw [List.take_succ_cons]
          intro d hd
          rcases List.mem_cons.1 hd with rfl | hd
          · refine decide_eq_false ?_
            rintro (h | h)
            · exact h1 h
            · exact h2 h
          · exact hi.2 d hd
theorem sch_at (p t : List UInt8) (h : ∀ c ∈ p, isM c = false) : schL (p ++ 58 :: t) = some p.length := by
  induction p with
  | nil => rfl
  | cons c p ih =>
    have hc := of_decide_eq_false (h c (by simp))
    rw [List.cons_append]
    unfold schL
    rw [if_neg (fun e => hc (.inl e)), if_neg (fun e => hc (.inr e)), ih (fun d hd => h d (by simp [hd]))]
    rfl
theorem scheme_at (p t : List UInt8) (h : ∀ c ∈ p, isM c = false) : schemeL (p ++ 58 :: t) = (p.map low, true) := by
  unfold schemeL
  rw [sch_at p t h]
  show ((List.take p.length (p ++ 58 :: t)).map low, true) = _
  rw [List.take_left]
theorem scheme_none {l : List UInt8} (h : (marks l).head? ≠ some 58) : schemeL l = ([], false) := by
  have h1 := sch_marks l
  rw [decide_eq_false h] at h1
  unfold schemeL
  cases hs : schL l with
  | none => rfl
  | some k => rw [hs] at h1; cases h1
theorem rep_front (p t : List UInt8) (h : ∀ c ∈ p, c.toNat < 128 ∧ c.toNat ≠ 0) : rep (p ++ t) = p ++ rep t := by
  induction p with
  | nil => rfl
  | cons c p ih =>
    have hc := h c (by simp)
    have hch : isChar (c.toNat : Int) := .inl (by omega)
    have e := rep_step (c.toNat : Int) (p ++ t) hch
    rw [fix_id hch (by omega), enc_small c hc.1, ih (fun d hd => h d (by simp [hd]))] at e
    exact e
theorem nor_front (p t : List UInt8) (h : ∀ c ∈ p, unr c = true ∨ res c = true) : norL (p ++ t) = p ++ norL t := by
  induction p with
  | nil => rfl
  | cons c p ih => rw [List.cons_append, nor_cons, if_pos (norP_stay c _ (h c (by simp))), ih (fun d hd => h d (by simp [hd]))]; rfl
theorem allow_letters (p : List UInt8) (h : allowL (p.map low) = true) : ∀ c ∈ p, unr c = true := by
  have h1 : ∀ c : Fin 256, low (UInt8.ofNat c.val) ∈ httpL ++ httpsL ++ mailtoL → unr (UInt8.ofNat c.val) = true := by decide +kernel
  intro c hc
  have h2 : low c ∈ httpL ++ httpsL ++ mailtoL := by
    have h3 : low c ∈ p.map low := List.mem_map.2 ⟨c, hc, rfl⟩
    rcases of_decide_eq_true h with h | h | h
    · rw [h] at h3; exact List.mem_append.2 (.inl (List.mem_append.2 (.inl h3)))
    · rw [h] at h3; exact List.mem_append.2 (.inl (List.mem_append.2 (.inr h3)))
    · rw [h] at h3; exact List.mem_append.2 (.inr h3)
  have h4 := h1 ⟨c.toNat, c.toNat_lt⟩
  simp only [UInt8.ofNat_toNat] at h4
  exact h4 h2
/-- What is normal stays, repaired and told anew. -/
theorem nor_again (l : List UInt8) : norL (rep (norL l)) = norL l := by
  have hm := norm_nor _ l (Nat.le_refl _)
  rw [rep_small _ (fun c hc => stay_small c (norm_all hm c hc)), norm_own hm]
theorem filt_cases (l : List UInt8) : (filtL l = markL) ∨ (filtL l = norL (rep l) ∧ ((marks l).head? ≠ some 58 ∨ ∃ p t, l = p ++ 58 :: t ∧ (∀ c ∈ p, isM c = false) ∧ allowL (p.map low) = true)) := by
  unfold filtL
  by_cases h : (schemeL l).2 = true ∧ allowL (schemeL l).1 = false
  · rw [if_pos h]; exact .inl rfl
  · rw [if_neg h]
    refine .inr ⟨rfl, ?_⟩
    by_cases hm : (marks l).head? = some 58
    · right
      have h1 := sch_marks l
      rw [decide_eq_true hm] at h1
      obtain ⟨k, hk⟩ := Option.isSome_iff_exists.1 h1
      have hs := sch_split hk
      have he : schemeL l = ((l.take k).map low, true) := by unfold schemeL; rw [hk]
      rw [he] at h
      refine ⟨l.take k, l.drop (k + 1), hs.1, hs.2, ?_⟩
      cases hq : allowL ((l.take k).map low) with
      | true => rfl
      | false => exact absurd ⟨rfl, hq⟩ h
    · exact .inl hm
/-- A filtered text has no scheme, or one that is allowed. -/
theorem filt_scheme (l : List UInt8) : (schemeL (filtL l)).2 = false ∨ allowL (schemeL (filtL l)).1 = true := by
  rcases filt_cases l with h | ⟨h, hm | ⟨p, t, rfl, hp, ha⟩⟩
  · rw [h]; exact .inl (by decide)
  · rw [h]
    left
    rw [scheme_none (by rw [marks_nor, marks_rep]; exact hm)]
  · right
    have hl := allow_letters p ha
    rw [h, rep_front p _ (fun c hc => stay_small c (.inr (.inl (hl c hc)))), nor_front p _ (fun c hc => .inl (hl c hc))]
    have e1 : rep (58 :: t) = 58 :: rep t := rep_front [58] t (fun c hc => by rw [List.mem_singleton] at hc; subst hc; decide)
    have e2 : norL (58 :: rep t) = 58 :: norL (rep t) := nor_front [58] (rep t) (fun c hc => by rw [List.mem_singleton] at hc; subst hc; decide)
    rw [e1, e2, scheme_at p _ hp]
    exact ha
/-- Filtered again it stays. -/
theorem filt_again (l : List UInt8) : filtL (filtL l) = filtL l := by
  have hs := filt_scheme l
  have e : filtL (filtL l) = norL (rep (filtL l)) := by
    have h : ¬ ((schemeL (filtL l)).2 = true ∧ allowL (schemeL (filtL l)).1 = false) := by
      rintro ⟨h1, h2⟩
      rcases hs with h | h
      · rw [h1] at h; cases h
      · rw [h2] at h; cases h
    rw [show filtL (filtL l) = if (schemeL (filtL l)).2 = true ∧ allowL (schemeL (filtL l)).1 = false then markL else norL (rep (filtL l)) from rfl, if_neg h]
  rw [e]
  rcases filt_cases l with h | ⟨h, _⟩
  · rw [h]; decide +kernel
  · rw [h, nor_again]
theorem filt_len (l : List UInt8) (n : Nat) (h : (rep l).length ≤ n) (h9 : 3 ≤ n) : (filtL l).length ≤ 3 * n := by
  rcases filt_cases l with e | ⟨e, _⟩
  · rw [e]; show 9 ≤ _; omega
  · rw [e]
    have := cod_len norP (rep l)
    unfold norL
    omega
/-- Behind a / ? # there is no scheme. -/
theorem hidden (a b : List UInt8) (c : UInt8) (h : ∀ d ∈ a, isM d = false) (hc : c = 47 ∨ c = 63 ∨ c = 35) : schemeL (a ++ c :: b) = ([], false) := by
  refine scheme_none ?_
  rw [marks_append, marks_none h, List.nil_append]
  have hm : isM c = true := decide_eq_true (.inr hc)
  unfold marks
  rw [List.filter_cons_of_pos hm]
  simp
  rcases hc with rfl | rfl | rfl <;> decide
end Go.Proofs.YtklpbkjplecdpaaGreat.Sch

/-
  Plain facts on where in a URL a text stands, with no program: its parts, octet by octet.
-/
namespace Go.Proofs.YtklpbkjplecdpaaGreat.Usc
open Go.Proofs.YtklpbkjplecdpaaGreat.Oct Go.Proofs.YtklpbkjplecdpaaGreat.Utf Go.Proofs.YtklpbkjplecdpaaGreat.Pct Go.Proofs.YtklpbkjplecdpaaGreat.Sch

/-- A part, and the word on its way. -/
abbrev St := Int × List UInt8
def askB (c : UInt8) : Bool := decide (c = 63 ∨ c = 35)
def headU (w : List UInt8) (c : UInt8) : St :=
  if c = 47 then (2, []) else if askB c = true then (3, []) else if c = 58 then (if allowL w = true then (2, []) else (5, [])) else (1, if w.length < 16 then w ++ [low c] else w)
def stepU (s : St) (c : UInt8) : St :=
  if s.1 = 0 then headU [] c else if s.1 = 1 then headU s.2 c
  else if s.1 = 2 then (if askB c = true then (3, []) else (2, []))
  else if s.1 = 3 then (3, [])
  else if s.1 = 4 then (if c = 47 then (2, []) else if askB c = true then (3, []) else if c = 58 then (5, []) else (4, []))
  else (5, [])
def feedU (s : St) (l : List UInt8) : St := l.foldl stepU s

theorem feed_append (s : St) (a b : List UInt8) : feedU s (a ++ b) = feedU (feedU s a) b := List.foldl_append ..
theorem feed_nil (s : St) : feedU s [] = s := rfl
theorem feed_cons (s : St) (c : UInt8) (t : List UInt8) : feedU s (c :: t) = feedU (stepU s c) t := rfl
theorem step_zero (w : List UInt8) (c : UInt8) : stepU (0, w) c = headU [] c := rfl
theorem step_one (w : List UInt8) (c : UInt8) : stepU (1, w) c = headU w c := rfl
theorem stay_five (w : List UInt8) (l : List UInt8) : (feedU (5, w) l).1 = 5 := by
  induction l generalizing w with
  | nil => rfl
  | cons c t ih => rw [feed_cons]; exact ih []
theorem stay_three (w : List UInt8) (l : List UInt8) : (feedU (3, w) l).1 = 3 := by
  induction l generalizing w with
  | nil => rfl
  | cons c t ih => rw [feed_cons]; exact ih []
theorem stay_two (w : List UInt8) (l : List UInt8) : (feedU (2, w) l).1 = 2 ∨ (feedU (2, w) l).1 = 3 := by
  induction l generalizing w with
  | nil => exact .inl rfl
  | cons c t ih =>
    rw [feed_cons]
    show (feedU (if askB c = true then (3, []) else (2, [])) t).1 = 2 ∨ (feedU (if askB c = true then (3, []) else (2, [])) t).1 = 3
    split
    · exact .inr (stay_three [] t)
    · exact ih []
/-- UrlscanQuery. -/
theorem usc_query (a s : List UInt8) : (feedU (0, []) (47 :: (a ++ 63 :: s))).1 = 3 := by
  rw [feed_cons, feed_append]
  have e : stepU (0, []) 47 = (2, []) := rfl
  rw [e]
  have h : ∀ x : St, (x.1 = 2 ∨ x.1 = 3) → (feedU x (63 :: s)).1 = 3 := by
    rintro ⟨p, w⟩ hp
    rw [feed_cons]
    rcases hp with h | h
    · have h : p = 2 := h
      subst h
      exact stay_three _ _
    · have h : p = 3 := h
      subst h
      exact stay_three _ _
  exact h _ (stay_two _ _)
theorem head_other (w : List UInt8) {c : UInt8} (h1 : c ≠ 58) (h2 : ¬ (c = 47 ∨ c = 63 ∨ c = 35)) : headU w c = (1, if w.length < 16 then w ++ [low c] else w) := by
  unfold headU
  rw [if_neg (fun h => h2 (.inl h)), if_neg (by unfold askB; simp; exact ⟨fun h => h2 (.inr (.inl h)), fun h => h2 (.inr (.inr h))⟩), if_neg h1]
theorem head_stop (w : List UInt8) {c : UInt8} (h2 : c = 47 ∨ c = 63 ∨ c = 35) (t : List UInt8) : (feedU (headU w c) t).1 ≠ 5 := by
  rcases h2 with rfl | rfl | rfl
  · show (feedU (2, []) t).1 ≠ 5
    rcases stay_two [] t with h | h <;> rw [h] <;> decide
  · show (feedU (3, []) t).1 ≠ 5
    rw [stay_three]; decide
  · show (feedU (3, []) t).1 ≠ 5
    rw [stay_three]; decide
theorem none_not (l : List UInt8) : ∀ w, schL l = none → (feedU (1, w) l).1 ≠ 5 := by
  induction l with
  | nil => intro w _; show (1 : Int) ≠ 5; decide
  | cons c t ih =>
    intro w h
    rw [feed_cons, step_one]
    unfold schL at h
    split at h
    · cases h
    · rename_i h1
      split at h
      · rename_i h2
        exact head_stop w h2 t
      · rename_i h2
        rw [head_other w h1 h2]
        exact ih _ (Option.map_eq_none_iff.1 h)
theorem some_iff (l : List UInt8) : ∀ w k, schL l = some k → w.length + k ≤ 16 → (decide ((feedU (1, w) l).1 = 5)) = !allowL (w ++ (l.take k).map low) := by
  induction l with
  | nil => intro w k h; cases h
  | cons c t ih =>
    intro w k h hk
    rw [feed_cons, step_one]
    unfold schL at h
    split at h
    · rename_i h1
      injection h with h
      subst h
      subst h1
      rw [List.take_zero, List.map_nil, List.append_nil]
      have e : headU w 58 = if allowL w = true then (2, []) else (5, []) := rfl
      rw [e]
      cases hw : allowL w with
      | true =>
        rw [if_pos rfl]
        have : ¬ ((feedU (2, []) t).1 = 5) := by rcases stay_two [] t with h | h <;> rw [h] <;> decide
        rw [decide_eq_false this]
        rfl
      | false =>
        rw [if_neg (by simp), decide_eq_true (stay_five [] t)]
        rfl
    · rename_i h1
      split at h
      · cases h
      · rename_i h2
        obtain ⟨j, hj, rfl⟩ := Option.map_eq_some_iff.1 h
        rw [head_other w h1 h2, if_pos (by omega), ih (w ++ [low c]) j hj (by rw [List.length_append, List.length_singleton]; omega)]
        rw [List.take_succ_cons, List.map_cons, List.append_assoc, List.singleton_append]
/-- UrlscanSchemes: whether a part is 5. -/
theorem usc_schemes (l : List UInt8) (h : (schemeL l).1.length ≤ 16) : decide ((feedU (0, []) l).1 = 5) = ((schemeL l).2 && !allowL (schemeL l).1) := by
  have e0 : decide ((feedU (0, []) l).1 = 5) = decide ((feedU (1, []) l).1 = 5) := by
    cases l with
    | nil => rfl
    | cons c t => rfl
  rw [e0]
  unfold schemeL at h ⊢
  cases hs : schL l with
  | none =>
    rw [decide_eq_false (none_not l [] hs)]
    rfl
  | some k =>
    rw [hs] at h
    have hk := sch_le hs
    have hl : ((l.take k).map low).length = k := by rw [List.length_map, List.length_take]; omega
    have h : ((l.take k).map low).length ≤ 16 := h
    rw [some_iff l [] k hs (by rw [List.length_nil]; omega), List.nil_append]
    rfl
end Go.Proofs.YtklpbkjplecdpaaGreat.Usc

/-
  Values in memory: a value as a tree of plain data, and what a world must hold so that it reads as that tree.
-/
namespace Go.Proofs.YtklpbkjplecdpaaGreat.Val
open Go.RowKit Go.Proofs.YtklpbkjplecdpaaGreat.Oct

/-- A value: kind, number, text, values, keys. -/
inductive V where
  | mk (kind num : Int) (text : ByteArray) (list : List V) (keys : List ByteArray)

/-- What is asked of each block that is reached: is it one of texts?, the block, the place in it, how many. -/
abbrev Cond := Bool → Nat → Nat → Nat → Prop

/-- A slice of texts reads as ks. -/
def Texts (C : Cond) (w : World) (K : Value) (ks : List ByteArray) : Prop :=
  ∃ (p : Option Addr) (cap b off : Nat), K = .slice p ks.length cap ∧ (ks.length * 16 ≤ 140737488351232 ∧ ∀ s ∈ ks, s.size ≤ 140737488351232) ∧
    (0 < ks.length → p = some ⟨b, off, none⟩ ∧ C true b off ks.length) ∧ ∀ i (h : i < ks.length), w.cell? ⟨b, off + i, none⟩ = some (.string ks[i])

/-- A value reads as a tree. -/
inductive Holds (C : Cond) (w : World) : Value → V → Prop where
  | mk (k n : Int) (s : ByteArray) (p : Option Addr) (cap : Nat) (K : Value) (l : List V) (ks : List ByteArray) (b off : Nat) (c : Nat → Nat → Value)
      (hr : -9223372036854775808 ≤ k ∧ k ≤ 9223372036854775807 ∧ -9223372036854775808 ≤ n ∧ n ≤ 9223372036854775807 ∧ s.size ≤ 140737488351232 ∧ l.length * 80 ≤ 140737488351232)
      (hp : 0 < l.length → p = some ⟨b, off, none⟩ ∧ C false b off l.length)
      (hc : ∀ i j, i < l.length → j < 5 → w.cell? ⟨b, off + (i * 5 + j), none⟩ = some (c i j))
      (hK : Texts C w K ks)
      (hl : ∀ i (h : i < l.length), Holds C w (.agg #[c i 0, c i 1, c i 2, c i 3, c i 4]) l[i]) :
      Holds C w (.agg #[.int .i64 k, .int .i64 n, .string s, .slice p l.length cap, K]) (.mk k n s l ks)

theorem Texts.frame {C C' : Cond} {w w' : World} {K : Value} {ks : List ByteArray} (h : Texts C w K ks) (hC : ∀ t b off n, C t b off n → w'.heap[b]? = w.heap[b]?) (hC' : ∀ t b off n, C t b off n → C' t b off n) : Texts C' w' K ks := by
  obtain ⟨p, cap, b, off, h1, h2, h3, h4⟩ := h
  refine ⟨p, cap, b, off, h1, h2, fun h0 => ⟨(h3 h0).1, hC' _ _ _ _ (h3 h0).2⟩, fun i hi => ?_⟩
  have := hC _ _ _ _ (h3 (by omega)).2
  rw [← h4 i hi]
  simp [World.cell?, this]

theorem Holds.frame {C C' : Cond} {w w' : World} {v : Value} {x : V} (h : Holds C w v x) (hC : ∀ t b off n, C t b off n → w'.heap[b]? = w.heap[b]?) (hC' : ∀ t b off n, C t b off n → C' t b off n) : Holds C' w' v x := by
  induction h with
  | mk k n s p cap K l ks b off c hr hp hc hK hl ih =>
    refine .mk k n s p cap K l ks b off c hr (fun h0 => ⟨(hp h0).1, hC' _ _ _ _ (hp h0).2⟩) (fun i j hi hj => ?_) (hK.frame hC hC') (fun i hi => ih i hi)
    have := hC _ _ _ _ (hp (by omega)).2
    rw [← hc i j hi hj]
    simp [World.cell?, this]

/-- What lies below n. -/
abbrev Old (n : Nat) : Cond := fun _ b _ _ => b < n

theorem Holds.kept {n : Nat} {w w' : World} {v : Value} {x : V} (h : Holds (Old n) w v x) (hb : Below n w w') : Holds (Old n) w' v x :=
  h.frame (fun _ b _ _ hb' => hb.block b hb') (fun _ _ _ _ h => h)
theorem Holds.older {n m : Nat} {w : World} {v : Value} {x : V} (h : Holds (Old n) w v x) (hnm : n ≤ m) : Holds (Old m) w v x :=
  h.frame (fun _ _ _ _ _ => rfl) (fun _ _ _ _ h => Nat.lt_of_lt_of_le h hnm)
end Go.Proofs.YtklpbkjplecdpaaGreat.Val

/-
  Plain facts on literals, with no program: a character, a text, a value as a script's literal.
-/
namespace Go.Proofs.YtklpbkjplecdpaaGreat.Lit
open Go.Proofs.YtklpbkjplecdpaaGreat.Oct Go.Proofs.YtklpbkjplecdpaaGreat.Num Go.Proofs.YtklpbkjplecdpaaGreat.Utf Go.Proofs.YtklpbkjplecdpaaGreat.Val

/-- Does a character stand as it is? -/
def bareB (c : Int) : Bool := decide ((97 ≤ c ∧ c ≤ 122) ∨ (65 ≤ c ∧ c ≤ 90) ∨ (48 ≤ c ∧ c ≤ 57) ∨ c = 32 ∨ c = 95 ∨ c = 46 ∨ c = 44)
/-- A backslash, u and four digits. -/
def escL (n : Nat) : List UInt8 := [92, 117] ++ hexL n 4
/-- A character within quotes. -/
def charL (c : Int) : List UInt8 :=
  if bareB c then [c.toNat.toUInt8] else if 65536 ≤ c then escL (55296 + (c - 65536).toNat / 1024) ++ escL (56320 + (c - 65536).toNat % 1024) else escL c.toNat
/-- Characters within quotes. -/
def insideL (cs : List Int) : List UInt8 := cs.flatMap charL
/-- A text as a literal. -/
def quoteL (s : ByteArray) : List UInt8 := [34] ++ insideL (chars s.data.toList) ++ [34]

theorem escL_len (n : Nat) : (escL n).length = 6 := by simp [escL, hexL_length]
theorem charL_pos (c : Int) : 1 ≤ (charL c).length := by
  unfold charL
  split
  · simp
  · split
    · simp [escL_len]
    · simp [escL_len]
theorem insideL_snoc (cs : List Int) (c : Int) : insideL (cs ++ [c]) = insideL cs ++ charL c := by simp [insideL]
theorem insideL_len (cs : List Int) : cs.length ≤ (insideL cs).length := by
  induction cs with
  | nil => simp
  | cons c cs ih =>
    have e : insideL (c :: cs) = charL c ++ insideL cs := rfl
    rw [e, List.length_append, List.length_cons]
    have := charL_pos c
    omega
theorem insideL_take (cs : List Int) (k : Nat) : (insideL (cs.take k)).length ≤ (insideL cs).length := by
  have e : insideL cs = insideL (cs.take k) ++ insideL (cs.drop k) := by
    unfold insideL
    rw [← List.flatMap_append, List.take_append_drop]
  rw [e, List.length_append]
  omega
theorem parts_wide (l : List UInt8) : l.length ≤ 4 * (parts l).length := by
  refine parts_ind (P := fun l => l.length ≤ 4 * (parts l).length) (by simp [parts_nil]) (fun x t h ih => ?_) (fun c t hc ih => ?_) l
  · rw [parts_bad x t h, List.length_cons, List.length_cons]; omega
  · rw [parts_enc1 c hc, List.length_append, List.length_cons]
    have := (enc_len c).2
    omega
theorem quoteL_wide (s : ByteArray) : s.size ≤ 4 * (quoteL s).length := by
  have h1 := parts_wide s.data.toList
  have h2 := insideL_len (chars s.data.toList)
  have h3 : (chars s.data.toList).length = (parts s.data.toList).length := by unfold chars; simp
  have h4 : (quoteL s).length = (insideL (chars s.data.toList)).length + 2 := by simp [quoteL]
  rw [size_list] at h1
  omega

/-- The key of a place, with its sign. -/
def keyAt (r : Bool) (ks : List ByteArray) (k : Nat) : List UInt8 := if r then (match ks[k]? with | some key => quoteL key ++ [58] | none => []) else []
/-- What stands between the brackets, of the first k values. -/
def joinK (r : Bool) (ks : List ByteArray) (ts : List (List UInt8)) : Nat → List UInt8
  | 0 => []
  | k + 1 => joinK r ks ts k ++ ((if k = 0 then [] else [44]) ++ (keyAt r ks k ++ ts.getD k []))

/-- Between brackets. -/
def brackL (a b : UInt8) (t : List UInt8) : List UInt8 := [a] ++ t ++ [b]
theorem brackL_len (a b : UInt8) (t : List UInt8) : (brackL a b t).length = t.length + 2 := by simp [brackL]

mutual
/-- A value as a literal. -/
def litL : V → List UInt8
  | .mk k n s l ks => if k = 0 then [110, 117, 108, 108] else if k = 1 then [102, 97, 108, 115, 101] else if k = 2 then [116, 114, 117, 101]
    else if k = 3 then (if n < 0 then 32 :: printL n else printL n)
    else if k = 5 then brackL 91 93 (joinK false ks (litAll l) (litAll l).length)
    else if k = 6 then brackL 123 125 (joinK true ks (litAll l) (litAll l).length) else quoteL s
def litAll : List V → List (List UInt8)
  | [] => []
  | x :: l => litL x :: litAll l
end

theorem litAll_eq (l : List V) : litAll l = l.map litL := by
  induction l with
  | nil => rfl
  | cons x l ih => rw [litAll, ih]; rfl
theorem litAll_len (l : List V) : (litAll l).length = l.length := by rw [litAll_eq]; simp
theorem litAll_at (l : List V) (k : Nat) (h : k < l.length) : (litAll l).getD k [] = litL l[k] := by rw [litAll_eq]; simp [h]

theorem joinK_le (r : Bool) (ks : List ByteArray) (ts : List (List UInt8)) {j k : Nat} (h : j ≤ k) : (joinK r ks ts j).length ≤ (joinK r ks ts k).length := by
  induction k with
  | zero =>
    have : j = 0 := by omega
    subst this; exact Nat.le_refl _
  | succ k ih =>
    rcases Nat.lt_or_ge k j with h1 | h1
    · have : j = k + 1 := by omega
      subst this; exact Nat.le_refl _
    · have := ih h1
      simp only [joinK, List.length_append]
      omega

mutual
/-- No Kind above 6 in it. -/
def plainV : V → Bool
  | .mk k _ _ l _ => plainAll l && decide (k < 7)
def plainAll : List V → Bool
  | [] => true
  | x :: l => plainV x && plainAll l
end
theorem plainAll_eq (l : List V) : plainAll l = l.all plainV := by
  induction l with
  | nil => rfl
  | cons x l ih => rw [plainAll, ih]; rfl
end Go.Proofs.YtklpbkjplecdpaaGreat.Lit
