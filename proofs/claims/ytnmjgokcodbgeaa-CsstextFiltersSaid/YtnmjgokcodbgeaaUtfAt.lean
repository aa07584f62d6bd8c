/-
  Plain facts, with no program: what Go's decoder reads of a text at a place: an octet below 128 is its own character; at another one a rune above 127 is read.
-/
import Derived.Test.YtnmjgokcodbgeaaUtfPure
import Derived.Lib.RuneCountTail
import Derived.Laws.Runes
namespace Go.Proofs.Ytnmjgokcodbgeaa.Css
open Go.RowKit Go.Proofs.Ytnmjgokcodbgeaa.Oct Go.Proofs.Ytnmjgokcodbgeaa.Utf
open Go.Lib (encodeRune)

theorem enc_small (c : UInt8) (h : c.toNat < 128) : encodeRune (c.toNat : Int) = [c] := by
  have h1 : ∀ c : Fin 128, encodeRune (c.val : Int) = [c.val.toUInt8] := by decide +kernel
  have h2 := h1 ⟨c.toNat, h⟩
  rw [show ((⟨c.toNat, h⟩ : Fin 128).val) = c.toNat from rfl] at h2
  rw [h2]
  simp
/-! ### What a text reads at a place -/
theorem cutOn (s : ByteArray) (n : Nat) : s.extract n s.size = S (s.data.toList.drop n) := by
  rw [Lib.extract_eq, List.take_of_length_le (by rw [List.length_drop, size_list]; omega)]
theorem decode_head (c : Int) (hc : isChar c) (t : List UInt8) : Utf8.decode (S (encodeRune c ++ t)) 0 = (c.toNat, (encodeRune c).length) := by
  have hl := (enc_len c).1
  have hg := go_dec (S (encodeRune c ++ t))
  rw [list_S, dec_enc _ hc] at hg
  have hz : ¬ (S (encodeRune c ++ t)).size = 0 := by rw [size_S, List.length_append]; omega
  have hD : Lib.decodeGo (S (encodeRune c ++ t)) = Utf8.decode (S (encodeRune c ++ t)) 0 := by
    unfold Lib.decodeGo
    rw [if_neg hz]
  rw [hD] at hg
  clear hD hz
  generalize Utf8.decode (S (encodeRune c ++ t)) 0 = d at hg ⊢
  generalize (encodeRune c).length = m at hg ⊢
  obtain ⟨r, k⟩ := d
  by_cases hh : r = 65533 ∧ k ≤ 1
  · rw [if_pos hh] at hg
    have h1 : c = -1 := congrArg Prod.fst hg
    unfold isChar at hc
    omega
  · rw [if_neg hh] at hg
    have h1 : c = (r : Int) := congrArg Prod.fst hg
    have h2 : m = k := congrArg Prod.snd hg
    rw [h1, h2]
    rfl
theorem decode_bad (l : List UInt8) (hl : l ≠ []) (h : dec l = (-1, 1)) : Utf8.decode (S l) 0 = (65533, 1) := by
  have hg := go_dec (S l)
  rw [list_S, h] at hg
  have hz : ¬ (S l).size = 0 := by rw [size_S]; have := List.length_pos_iff.2 hl; omega
  have hD : Lib.decodeGo (S l) = Utf8.decode (S l) 0 := by
    unfold Lib.decodeGo
    rw [if_neg hz]
  rw [hD] at hg
  clear hD hz
  generalize Utf8.decode (S l) 0 = d at hg ⊢
  obtain ⟨r, k⟩ := d
  by_cases hh : r = 65533 ∧ k ≤ 1
  · rw [if_pos hh] at hg
    have h2 : 1 = k := congrArg Prod.snd hg
    rw [hh.1, ← h2]
  · rw [if_neg hh] at hg
    have h1 : (-1 : Int) = (r : Int) := congrArg Prod.fst hg
    omega
theorem enc_high (c : Int) (hc : isChar c) (h : 128 ≤ c) : ∀ b ∈ encodeRune c, 128 ≤ b.toNat := by
  obtain ⟨n, rfl, hn⟩ := isChar_nat hc
  rw [enc_eq n hn]
  intro b hb
  obtain ⟨k, hk, rfl⟩ := List.mem_map.1 hb
  have hk2 : 128 ≤ k ∧ k < 256 := by
    unfold isChar at hn
    unfold encN at hk
    rw [if_neg (by omega)] at hk
    split at hk
    · simp at hk; omega
    · split at hk
      · simp at hk; omega
      · simp at hk; omega
  rw [u8 k hk2.2]
  exact hk2.1
theorem enc_low (c : Int) (hc : isChar c) (h : c < 128) : ∃ b : UInt8, encodeRune c = [b] ∧ (b.toNat : Int) = c := by
  obtain ⟨n, rfl, hn⟩ := isChar_nat hc
  rw [enc_eq n hn]
  unfold encN
  rw [if_pos (by omega)]
  exact ⟨n.toUInt8, rfl, by rw [u8 n (by omega)]⟩

/-- At an octet above 127: the rune is above it too, and so is every octet that it takes. -/
theorem decode_high (l : List UInt8) (p : Nat) (hp : p < l.length) (h : 128 ≤ l[p].toNat) :
    ∃ (r k : Nat), Utf8.decode (S l) p = (r, k) ∧ 128 ≤ r ∧ r ≤ 1114111 ∧ isChar (r : Int) ∧ 1 ≤ k ∧ p + k ≤ l.length ∧ ∀ j (_ : p ≤ j) (_ : j < p + k) (hl : j < l.length), 128 ≤ l[j].toNat := by
  have h1 := Lib.tail_decode (S l) p 0
  rw [Nat.add_zero, cutOn, list_S] at h1
  have hne : l.drop p ≠ [] := by
    intro e
    have := congrArg List.length e
    rw [List.length_drop, List.length_nil] at this
    omega
  have hd : l.drop p = l[p] :: l.drop (p + 1) := List.drop_eq_getElem_cons hp
  rcases dec_cases (l.drop p) hne with hb | ⟨c, t, hc, e⟩
  · rw [decode_bad _ hne hb] at h1
    exact ⟨65533, 1, h1.symm, by decide, by decide, by decide, by decide, by omega, fun j h2 h3 h4 => by
      obtain rfl : j = p := by omega
      exact h⟩
  · rw [e, decode_head c hc t] at h1
    have hlen := enc_len c
    have hle : p + (encodeRune c).length ≤ l.length := by
      have := congrArg List.length e
      rw [List.length_drop, List.length_append] at this
      omega
    have h128 : 128 ≤ c := by
      rcases Int.lt_or_le c 128 with hlt | hge
      · exfalso
        obtain ⟨b, hb, hbc⟩ := enc_low c hc hlt
        rw [hb, hd] at e
        injection e with e1 _
        rw [e1] at h
        omega
      · exact hge
    have hct : ((c.toNat : Nat) : Int) = c := Int.toNat_of_nonneg (by omega)
    refine ⟨c.toNat, (encodeRune c).length, h1.symm, by omega, ?_, by rw [hct]; exact hc, hlen.1, hle, fun j h2 h3 h4 => ?_⟩
    · unfold isChar at hc; omega
    · have hj : l[j] ∈ encodeRune c := by
        have h5 : (l.drop p)[j - p]'(by rw [List.length_drop]; omega) = l[j] := by
          rw [List.getElem_drop]
          congr 1
          omega
        rw [← h5]
        have h6 : (l.drop p)[j - p]'(by rw [List.length_drop]; omega) = (encodeRune c)[j - p]'(by omega) := by
          have := List.getElem_of_eq e (i := j - p) (by rw [List.length_drop]; omega)
          rw [this, List.getElem_append_left (by omega)]
        rw [h6]
        exact List.getElem_mem _
      exact enc_high c hc h128 _ hj
theorem decode_low (l : List UInt8) (p : Nat) (hp : p < l.length) (h : l[p].toNat < 128) : Utf8.decode (S l) p = (l[p].toNat, 1) := by
  have h1 := Lib.tail_decode (S l) p 0
  rw [Nat.add_zero, cutOn, list_S] at h1
  have hd : l.drop p = l[p] :: l.drop (p + 1) := List.drop_eq_getElem_cons hp
  have hch : isChar (l[p].toNat : Int) := .inl (by omega)
  have he := enc_small l[p] h
  have hh := decode_head (l[p].toNat : Int) hch (l.drop (p + 1))
  rw [he] at hh
  have e2 : S ([l[p]] ++ l.drop (p + 1)) = S (l.drop p) := by rw [hd]; rfl
  rw [e2] at hh
  exact h1.symm.trans hh
end Go.Proofs.Ytnmjgokcodbgeaa.Css
