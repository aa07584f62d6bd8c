/-
  Part 2: UtfPure.
-/
import Derived.Test.YtklpbkjplecdpaaGreatSwBaseP1
import Derived.Lib.DecodeN
import Derived.Lib.RuneBytes
import Derived.Shelf.Unicode.DecodeSlow
/-
  Plain facts on characters and their octets, with no program: what a text begins with, its parts, its characters, the text repaired, whether it is valid.
-/
namespace Go.Proofs.YtklpbkjplecdpaaGreat.Utf
open Go.Lib

/-- A character's number. -/
def isChar (c : Int) : Prop := (0 ≤ c ∧ c < 55296) ∨ (57343 < c ∧ c ≤ 1114111)
instance (c : Int) : Decidable (isChar c) := by unfold isChar; infer_instance

/-- The octet at a place of a list, as a number; 0 behind the end. -/
def oct (l : List UInt8) (k : Nat) : Nat := (l.getD k 0).toNat

/-- The character that a text begins with, and how many octets it has. -/
def dec (l : List UInt8) : Int × Nat :=
  if l = [] then (-1, 0)
  else if (decodeN l.length (oct l 0) (oct l 1) (oct l 2) (oct l 3)).1 = 65533 ∧ (decodeN l.length (oct l 0) (oct l 1) (oct l 2) (oct l 3)).2 ≤ 1 then (-1, 1)
  else (((decodeN l.length (oct l 0) (oct l 1) (oct l 2) (oct l 3)).1 : Int), (decodeN l.length (oct l 0) (oct l 1) (oct l 2) (oct l 3)).2)

/-- A character's octets, as numbers. -/
def encN (n : Nat) : List Nat :=
  if n < 128 then [n] else if n < 2048 then [192 + n / 64, 128 + n % 64] else if n < 65536 then [224 + n / 4096, 128 + n / 64 % 64, 128 + n % 64]
  else [240 + n / 262144, 128 + n / 4096 % 64, 128 + n / 64 % 64, 128 + n % 64]

theorem enc_eq (n : Nat) (h : isChar n) : encodeRune n = (encN n).map Nat.toUInt8 := by
  unfold isChar at h
  unfold encodeRune encN
  by_cases h1 : n < 128
  · rw [if_pos h1, encodeRuneZ_one (by omega) (by omega)]; simp
  · rw [if_neg h1]
    by_cases h2 : n < 2048
    · rw [if_pos h2, encodeRuneZ_two (by omega) (by omega)]
      simp only [List.map_cons, List.map_nil]
      rw [show (192 + (n : Int) / 64).toNat = 192 + n / 64 by omega, show (128 + (n : Int) % 64).toNat = 128 + n % 64 by omega]
    · rw [if_neg h2]
      by_cases h3 : n < 65536
      · rw [if_pos h3, encodeRuneZ_three (by omega)]
        simp only [List.map_cons, List.map_nil]
        rw [show (224 + (n : Int) / 4096).toNat = 224 + n / 4096 by omega, show (128 + (n : Int) / 64 % 64).toNat = 128 + n / 64 % 64 by omega, show (128 + (n : Int) % 64).toNat = 128 + n % 64 by omega]
      · rw [if_neg h3, encodeRuneZ_four (by omega) (by omega)]
        simp only [List.map_cons, List.map_nil]
        rw [show (240 + (n : Int) / 262144).toNat = 240 + n / 262144 by omega, show (128 + (n : Int) / 4096 % 64).toNat = 128 + n / 4096 % 64 by omega, show (128 + (n : Int) / 64 % 64).toNat = 128 + n / 64 % 64 by omega, show (128 + (n : Int) % 64).toNat = 128 + n % 64 by omega]

theorem u8 (n : Nat) (h : n < 256) : n.toUInt8.toNat = n := by simp; omega

theorem decodeN_enc (n : Nat) (h : isChar n) (t : List UInt8) :
    decodeN (encodeRune n ++ t).length (oct (encodeRune n ++ t) 0) (oct (encodeRune n ++ t) 1) (oct (encodeRune n ++ t) 2) (oct (encodeRune n ++ t) 3) = (n, (encodeRune n).length) := by
  rw [enc_eq n h]
  unfold isChar at h
  unfold encN oct
  by_cases h1 : n < 128
  · rw [if_pos h1]
    simp only [List.map_cons, List.map_nil, List.cons_append, List.nil_append, List.length_cons, List.getD_cons_zero, List.length_nil]
    rw [u8 n (by omega)]
    simp [decodeN, h1]
  · rw [if_neg h1]
    by_cases h2 : n < 2048
    · rw [if_pos h2]
      simp only [List.map_cons, List.map_nil, List.cons_append, List.nil_append, List.length_cons, List.getD_cons_zero, List.getD_cons_succ, List.length_nil]
      rw [u8 (192 + n / 64) (by omega), u8 (128 + n % 64) (by omega)]
      unfold decodeN
      rw [if_neg (by omega), if_pos (by omega), if_pos (by omega)]
      exact Prod.ext (by show _ = n; omega) rfl
    · rw [if_neg h2]
      by_cases h3 : n < 65536
      · rw [if_pos h3]
        simp only [List.map_cons, List.map_nil, List.cons_append, List.nil_append, List.length_cons, List.getD_cons_zero, List.getD_cons_succ, List.length_nil]
        rw [u8 (224 + n / 4096) (by omega), u8 (128 + n / 64 % 64) (by omega), u8 (128 + n % 64) (by omega)]
        unfold decodeN
        have e : (224 + n / 4096) % 16 * 4096 + (128 + n / 64 % 64) % 64 * 64 + (128 + n % 64) % 64 = n := by omega
        rw [if_neg (by omega), if_neg (by omega), if_pos (by omega), e, if_pos (by omega)]
      · rw [if_neg h3]
        simp only [List.map_cons, List.map_nil, List.cons_append, List.nil_append, List.length_cons, List.getD_cons_zero, List.getD_cons_succ, List.length_nil]
        rw [u8 (240 + n / 262144) (by omega), u8 (128 + n / 4096 % 64) (by omega), u8 (128 + n / 64 % 64) (by omega), u8 (128 + n % 64) (by omega)]
        unfold decodeN
        have e : (240 + n / 262144) % 8 * 262144 + (128 + n / 4096 % 64) % 64 * 4096 + (128 + n / 64 % 64) % 64 * 64 + (128 + n % 64) % 64 = n := by omega
        rw [if_neg (by omega), if_neg (by omega), if_neg (by omega), if_pos (by omega), e, if_pos (by omega)]

theorem enc_len (c : Int) : 1 ≤ (encodeRune c).length ∧ (encodeRune c).length ≤ 4 := by
  have := encodeRuneZ_length c
  simpa [encodeRune] using this
theorem enc_ne (c : Int) : encodeRune c ≠ [] := by
  intro h; have := enc_len c; rw [h] at this; simp at this

theorem isChar_nat {c : Int} (h : isChar c) : ∃ n : Nat, c = n ∧ isChar (n : Int) := by
  have h0 : 0 ≤ c := by unfold isChar at h; omega
  obtain ⟨n, rfl⟩ := Int.eq_ofNat_of_zero_le h0
  exact ⟨n, rfl, h⟩

/-- A character comes back from its octets, whatever stands behind them. -/
theorem dec_enc (c : Int) (h : isChar c) (t : List UInt8) : dec (encodeRune c ++ t) = (c, (encodeRune c).length) := by
  obtain ⟨n, rfl, hn⟩ := isChar_nat h
  have hl := enc_len n
  unfold dec
  rw [if_neg (by simp [enc_ne]), decodeN_enc n hn t]
  rw [if_neg]
  rintro ⟨h1, h2⟩
  have e : n = 65533 := h1
  subst e
  have : (encodeRune ((65533 : Nat) : Int)).length = 3 := by decide +kernel
  have h2' : (encodeRune ((65533 : Nat) : Int)).length ≤ 1 := h2
  omega

theorem u8_back (x : UInt8) (n : Nat) (h : n = x.toNat) : n.toUInt8 = x := by subst h; simp

set_option maxRecDepth 100000 in
set_option maxHeartbeats 2000000 in
theorem decodeN_cases (n b0 b1 b2 b3 : Nat) (h0 : b0 < 256) (h1 : b1 < 256) (h2 : b2 < 256) (_ : b3 < 256) :
    decodeN n b0 b1 b2 b3 = (65533, 1) ∨
    (∃ c : Nat, isChar c ∧ ((decodeN n b0 b1 b2 b3 = (c, 1) ∧ encN c = [b0]) ∨ (decodeN n b0 b1 b2 b3 = (c, 2) ∧ 1 < n ∧ encN c = [b0, b1]) ∨ (decodeN n b0 b1 b2 b3 = (c, 3) ∧ 2 < n ∧ encN c = [b0, b1, b2]) ∨
      (decodeN n b0 b1 b2 b3 = (c, 4) ∧ 3 < n ∧ encN c = [b0, b1, b2, b3]))) := by
  unfold decodeN isChar
  split
  · right
    refine ⟨b0, by omega, .inl ⟨rfl, ?_⟩⟩
    unfold encN; rw [if_pos (by omega)]
  · split
    · split
      · right
        refine ⟨_, ?_, .inr (.inl ⟨rfl, by omega, ?_⟩)⟩
        · omega
        · unfold encN; rw [if_neg (by omega), if_pos (by omega)]
          congr 1
          · omega
          · congr 1; omega
      · left; rfl
    · split
      · split
        · right
          refine ⟨_, ?_, .inr (.inr (.inl ⟨rfl, by omega, ?_⟩))⟩
          · omega
          · unfold encN; rw [if_neg (by omega), if_neg (by omega), if_pos (by omega)]
            congr 1
            · omega
            · congr 1
              · omega
              · congr 1; omega
        · left; rfl
      · split
        · split
          · right
            refine ⟨_, ?_, .inr (.inr (.inr ⟨rfl, by omega, ?_⟩))⟩
            · omega
            · unfold encN; rw [if_neg (by omega), if_neg (by omega), if_neg (by omega)]
              congr 1
              · omega
              · congr 1
                · omega
                · congr 1
                  · omega
                  · congr 1; omega
          · left; rfl
        · left; rfl

theorem oct_lt (l : List UInt8) (k : Nat) : oct l k < 256 := (l.getD k 0).toNat_lt

theorem u8_oct (l : List UInt8) (k : Nat) : (oct l k).toUInt8 = l.getD k 0 := by unfold oct; simp

/-- What a text begins with: an octet that begins none, or a character's octets. -/
theorem dec_cases (l : List UInt8) (hl : l ≠ []) : dec l = (-1, 1) ∨ ∃ c t, isChar c ∧ l = encodeRune c ++ t := by
  rcases decodeN_cases l.length (oct l 0) (oct l 1) (oct l 2) (oct l 3) (oct_lt _ _) (oct_lt _ _) (oct_lt _ _) (oct_lt _ _) with h | ⟨c, hc, h⟩
  · left
    unfold dec
    rw [if_neg hl, h, if_pos ⟨rfl, Nat.le_refl _⟩]
  · right
    refine ⟨(c : Int), ?_⟩
    rw [enc_eq c hc]
    rcases h with ⟨_, he⟩ | ⟨_, hn, he⟩ | ⟨_, hn, he⟩ | ⟨_, hn, he⟩
    · rw [he]
      match l, hl with
      | x :: t, _ => exact ⟨t, hc, by simp [oct]⟩
    · rw [he]
      match l, hn with
      | x :: y :: t, _ => exact ⟨t, hc, by simp [oct]⟩
    · rw [he]
      match l, hn with
      | x :: y :: z :: t, _ => exact ⟨t, hc, by simp [oct]⟩
    · rw [he]
      match l, hn with
      | x :: y :: z :: u :: t, _ => exact ⟨t, hc, by simp [oct]⟩

theorem dec_nil : dec [] = (-1, 0) := rfl

theorem dec_width (l : List UInt8) (hl : l ≠ []) : 1 ≤ (dec l).2 ∧ (dec l).2 ≤ 4 ∧ (dec l).2 ≤ l.length := by
  have hp : 0 < l.length := List.length_pos_iff.2 hl
  rcases dec_cases l hl with h | ⟨c, t, hc, rfl⟩
  · rw [h]; simp; omega
  · rw [dec_enc c hc t]
    have := enc_len c
    simp
    omega

theorem dec_char (l : List UInt8) (hl : l ≠ []) : (dec l).1 = -1 ∨ isChar (dec l).1 := by
  rcases dec_cases l hl with h | ⟨c, t, hc, rfl⟩
  · rw [h]; exact .inl rfl
  · rw [dec_enc c hc t]; exact .inr hc

theorem dec_range (l : List UInt8) : -1 ≤ (dec l).1 ∧ (dec l).1 ≤ 1114111 := by
  by_cases hl : l = []
  · subst hl; rw [dec_nil]; simp
  · rcases dec_char l hl with h | h
    · omega
    · unfold isChar at h; omega

/-! ### Parts -/
def partsF : Nat → List UInt8 → List Int
  | 0, _ => []
  | n + 1, l => if l = [] then [] else (dec l).1 :: partsF n (l.drop (dec l).2)
/-- What a text is made of: characters, and -1 for each octet that begins none. -/
def parts (l : List UInt8) : List Int := partsF l.length l

theorem partsF_nil (n : Nat) : partsF n [] = [] := by cases n <;> simp [partsF]
theorem partsF_fuel : ∀ (n m : Nat) (l : List UInt8), l.length ≤ n → l.length ≤ m → partsF n l = partsF m l
  | 0, m, l, hn, _ => by
    have : l = [] := List.eq_nil_of_length_eq_zero (by omega)
    subst this; rw [partsF_nil, partsF_nil]
  | n + 1, 0, l, _, hm => by
    have : l = [] := List.eq_nil_of_length_eq_zero (by omega)
    subst this; rw [partsF_nil, partsF_nil]
  | n + 1, m + 1, l, hn, hm => by
    unfold partsF
    by_cases hne : l = []
    · simp [hne]
    · have hw := dec_width l hne
      rw [if_neg hne, if_neg hne, partsF_fuel n m (l.drop (dec l).2) (by rw [List.length_drop]; omega) (by rw [List.length_drop]; omega)]
theorem parts_nil : parts [] = [] := rfl
theorem parts_step (l : List UInt8) (hl : l ≠ []) : parts l = (dec l).1 :: parts (l.drop (dec l).2) := by
  have hp : 0 < l.length := List.length_pos_iff.2 hl
  have hw := dec_width l hl
  obtain ⟨n, hn⟩ : ∃ n, l.length = n + 1 := ⟨l.length - 1, by omega⟩
  unfold parts
  rw [hn]
  show (if l = [] then [] else _) = _
  rw [if_neg hl, partsF_fuel n (l.drop (dec l).2).length _ (by rw [List.length_drop]; omega) (Nat.le_refl _)]

theorem parts_enc1 (c : Int) (hc : isChar c) (t : List UInt8) : parts (encodeRune c ++ t) = c :: parts t := by
  rw [parts_step _ (by simp [enc_ne]), dec_enc c hc t]
  simp

/-- Induction along a text's parts. -/
theorem parts_ind {P : List UInt8 → Prop} (h0 : P []) (hbad : ∀ x t, dec (x :: t) = (-1, 1) → P t → P (x :: t)) (hc : ∀ c t, isChar c → P t → P (encodeRune c ++ t)) : ∀ l, P l := by
  intro l
  generalize hn : l.length = n
  induction n using Nat.strongRecOn generalizing l with
  | _ n ih =>
    by_cases hl : l = []
    · subst hl; exact h0
    · rcases dec_cases l hl with h | ⟨c, t, hch, rfl⟩
      · match l, hl with
        | x :: t, _ => exact hbad x t h (ih t.length (by rw [← hn]; simp) t rfl)
      · exact hc c t hch (ih t.length (by have := enc_len c; rw [← hn]; simp; omega) t rfl)

theorem parts_bad (x : UInt8) (t : List UInt8) (h : dec (x :: t) = (-1, 1)) : parts (x :: t) = -1 :: parts t := by
  rw [parts_step _ (by simp), h]; simp

def fix (c : Int) : Int := if c = -1 ∨ c = 0 then 65533 else c
/-- The characters of the repaired text. -/
def chars (l : List UInt8) : List Int := (parts l).map fix
def encs (cs : List Int) : List UInt8 := cs.flatMap encodeRune
/-- A text, repaired. -/
def rep (l : List UInt8) : List UInt8 := encs (chars l)
def valid (l : List UInt8) : Bool := (parts l).all (fun c => decide (c ≠ -1))

theorem parts_char (l : List UInt8) : ∀ c ∈ parts l, c = -1 ∨ isChar c := by
  induction l using parts_ind with
  | h0 => simp [parts_nil]
  | hbad x t h ih => rw [parts_bad x t h]; simp; exact ih
  | hc c t h ih =>
    rw [parts_enc1 c h t]
    intro d hd
    rcases List.mem_cons.1 hd with rfl | hd
    · exact .inr h
    · exact ih d hd

theorem fix_char {c : Int} (h : c = -1 ∨ isChar c) : isChar (fix c) ∧ fix c ≠ 0 := by
  unfold fix
  split
  · exact ⟨by decide, by omega⟩
  · rcases h with h | h
    · omega
    · exact ⟨h, by omega⟩
theorem fix_id {c : Int} (h : isChar c) (h0 : c ≠ 0) : fix c = c := by
  unfold fix; unfold isChar at h; rw [if_neg (by omega)]

theorem chars_char (l : List UInt8) : ∀ c ∈ chars l, isChar c ∧ c ≠ 0 := by
  intro c hc
  obtain ⟨d, hd, rfl⟩ := List.mem_map.1 hc
  exact fix_char (parts_char l d hd)

theorem parts_encs (cs : List Int) (h : ∀ c ∈ cs, isChar c) : parts (encs cs) = cs := by
  induction cs with
  | nil => rfl
  | cons c r ih =>
    unfold encs
    rw [List.flatMap_cons, parts_enc1 c (h c (by simp))]
    congr 1
    exact ih (fun d hd => h d (by simp [hd]))

theorem parts_rep (l : List UInt8) : parts (rep l) = chars l := parts_encs _ (fun c hc => (chars_char l c hc).1)
theorem chars_rep (l : List UInt8) : chars (rep l) = chars l := by
  show (parts (rep l)).map fix = _
  rw [parts_rep]
  have : (chars l).map fix = (chars l).map id := List.map_congr_left (fun c hc => fix_id (chars_char l c hc).1 (chars_char l c hc).2)
  rw [this, List.map_id]
theorem rep_rep (l : List UInt8) : rep (rep l) = rep l := by unfold rep; rw [show chars (encs (chars l)) = chars l from chars_rep l]
theorem valid_rep (l : List UInt8) : valid (rep l) = true := by
  unfold valid
  rw [parts_rep, List.all_eq_true]
  intro c hc
  have := (chars_char l c hc).1
  unfold isChar at this
  simp; omega

theorem enc_no0 (c : Int) (h : isChar c) (h0 : c ≠ 0) : (0 : UInt8) ∉ encodeRune c := by
  obtain ⟨n, rfl, hn⟩ := isChar_nat h
  rw [enc_eq n hn]
  unfold isChar at hn
  intro hm
  obtain ⟨k, hk, e⟩ := List.mem_map.1 hm
  have hk' : k % 256 = 0 := by have := congrArg UInt8.toNat e; simpa using this
  unfold encN at hk
  split at hk
  · simp at hk; omega
  · split at hk
    · simp at hk; omega
    · split at hk
      · simp at hk; omega
      · simp at hk; omega
theorem rep_no0 (l : List UInt8) : (0 : UInt8) ∉ rep l := by
  unfold rep encs
  intro h
  obtain ⟨c, hc, h⟩ := List.mem_flatMap.1 h
  exact enc_no0 c (chars_char l c hc).1 (chars_char l c hc).2 h

theorem enc_zero : encodeRune 0 = [0] := by decide +kernel

theorem rep_of_valid (l : List UInt8) (hv : valid l = true) (h0 : (0 : UInt8) ∉ l) : rep l = l := by
  induction l using parts_ind with
  | h0 => rfl
  | hbad x t h ih =>
    unfold valid at hv
    rw [parts_bad x t h] at hv
    simp at hv
  | hc c t h ih =>
    have hv' : valid t = true := by
      unfold valid at hv ⊢
      rw [parts_enc1 c h t, List.all_cons] at hv
      exact (Bool.and_eq_true_iff.1 hv).2
    have hc0 : c ≠ 0 := by
      rintro rfl
      rw [enc_zero] at h0
      simp at h0
    have ht : (0 : UInt8) ∉ t := fun hm => h0 (List.mem_append.2 (.inr hm))
    have := ih hv' ht
    unfold rep chars at this ⊢
    rw [parts_enc1 c h t, List.map_cons, fix_id h hc0]
    unfold encs at this ⊢
    rw [List.flatMap_cons, this]

/-- A repaired text is the text itself just if that is valid and has no 0. -/
theorem rep_eq_iff (l : List UInt8) : rep l = l ↔ (valid l = true ∧ (0 : UInt8) ∉ l) :=
  ⟨fun h => ⟨by rw [← h]; exact valid_rep l, by rw [← h]; exact rep_no0 l⟩, fun h => rep_of_valid l h.1 h.2⟩

theorem parts_len (l : List UInt8) : (parts l).length ≤ l.length := by
  induction l using parts_ind with
  | h0 => simp [parts_nil]
  | hbad x t h ih => rw [parts_bad x t h]; simp; exact ih
  | hc c t h ih =>
    have := enc_len c
    rw [parts_enc1 c h t]; simp; omega
theorem chars_len (l : List UInt8) : (chars l).length ≤ l.length := by unfold chars; rw [List.length_map]; exact parts_len l

theorem encs_len (cs : List Int) : (encs cs).length ≤ 4 * cs.length := by
  induction cs with
  | nil => simp [encs]
  | cons c r ih =>
    have := enc_len c
    unfold encs at ih ⊢
    rw [List.flatMap_cons, List.length_append, List.length_cons]; omega
theorem encs_snoc (cs : List Int) (c : Int) : encs (cs ++ [c]) = encs cs ++ encodeRune c := by simp [encs]

/-- A text of characters is valid. -/
theorem valid_enc (c : Int) (h : isChar c) : valid (encodeRune c) = true := by
  unfold valid
  have := parts_enc1 c h []
  rw [List.append_nil] at this
  rw [this]
  unfold isChar at h
  simp [parts_nil]; omega

/-! ### Go's decoder -/
theorem get_oct (s : ByteArray) (k : Nat) : (s.get! k).toNat = oct s.data.toList k := by
  unfold oct
  cases s with
  | mk d =>
    show (d[k]!).toNat = _
    rw [List.getD_eq_getElem?_getD, Array.getElem?_toList]
    by_cases h : k < d.size
    · rw [getElem!_pos d k h, Array.getElem?_eq_getElem h]; rfl
    · rw [getElem!_neg d k h, Array.getElem?_eq_none (by show d.size ≤ k; omega)]; rfl

theorem go_dec (s : ByteArray) : dec s.data.toList = if (decodeGo s).1 = 65533 ∧ (decodeGo s).2 ≤ 1 then (-1, (decodeGo s).2) else (((decodeGo s).1 : Int), (decodeGo s).2) := by
  unfold dec decodeGo
  by_cases h : s.size = 0
  · have hl : s.data.toList = [] := List.eq_nil_of_length_eq_zero (by rw [Oct.size_list]; exact h)
    rw [if_pos hl, if_pos h]; simp
  · have hl : s.data.toList ≠ [] := by intro e; apply h; rw [← Oct.size_list, e]; rfl
    have e : Utf8.decode s 0 = decodeN s.data.toList.length (oct s.data.toList 0) (oct s.data.toList 1) (oct s.data.toList 2) (oct s.data.toList 3) := by
      rw [decode_at, get_oct, get_oct, get_oct, get_oct, Oct.size_list]; rfl
    rw [if_neg hl, if_neg h, e]
    rcases decodeN_cases s.data.toList.length (oct s.data.toList 0) (oct s.data.toList 1) (oct s.data.toList 2) (oct s.data.toList 3) (oct_lt _ _) (oct_lt _ _) (oct_lt _ _) (oct_lt _ _) with h' | ⟨c, hc, h'⟩
    · rw [h']
    · rcases h' with ⟨h', _⟩ | ⟨h', _, _⟩ | ⟨h', _, _⟩ | ⟨h', _, _⟩
      · rw [h']
      all_goals (rw [h']; simp)

/-- Is it a character's number? -/
def charB (c : Int) : Bool := decide (isChar c)

theorem cut_list (s : ByteArray) (a : Nat) : (s.extract a s.size).data.toList = s.data.toList.drop a := by
  rw [Lib.extract_data, List.take_of_length_le (by rw [List.length_drop, Go.Proofs.YtklpbkjplecdpaaGreat.Oct.size_list]; exact Nat.le_refl _)]
end Go.Proofs.YtklpbkjplecdpaaGreat.Utf
