/-
  Part 14: UtfRefPure, UtfRef.
-/
import Derived.Test.YtidfcajhmldieaaGreatOwnBaseP2
import Derived.Test.YtidfcajhmldieaaGreatOwnBaseP8
import Derived.RangeFuncBox
import Derived.Deep.QuietTactic
import Derived.BigQuiet
import Derived.Laws.BitsLemmas
/-
  Plain facts on how the page reads a character: how many octets the first one says, what they count, and that this is what a text begins with.
-/
namespace Go.Proofs.YtidfcajhmldieaaGreat.Utf
open Go.Lib (encodeRune)

/-- How many octets a first one says; 0: none. -/
def sizeN (b : Nat) : Nat := if b < 128 then 1 else if 194 ≤ b ∧ b < 224 then 2 else if 224 ≤ b ∧ b < 240 then 3 else if 240 ≤ b ∧ b < 245 then 4 else 0
theorem sizeN_le (b : Nat) : sizeN b ≤ 4 := by
  unfold sizeN
  repeat' split
  all_goals omega
/-- What of the first octet counts. -/
def partN (n : Nat) : Nat := if n = 1 then 128 else if n = 2 then 32 else if n = 3 then 16 else 8
/-- What the first k + 1 octets count. -/
def runV (l : List UInt8) (m : Nat) : Nat → Int
  | 0 => ((oct l 0 % m : Nat) : Int)
  | k + 1 => runV l m k * 64 + (oct l (k + 1) : Int) - 128

theorem oct_app (a t : List UInt8) (k : Nat) (h : k < a.length) : oct (a ++ t) k = oct a k := by
  unfold oct
  rw [List.getD_eq_getElem?_getD, List.getD_eq_getElem?_getD, List.getElem?_append_left h]

theorem enc_facts (n : Nat) (h : isChar n) :
    sizeN (oct (encodeRune n) 0) = (encodeRune n).length ∧ runV (encodeRune n) (partN (encodeRune n).length) ((encodeRune n).length - 1) = (n : Int) ∧
    ∀ k, 1 ≤ k → k < (encodeRune n).length → 128 ≤ oct (encodeRune n) k ∧ oct (encodeRune n) k ≤ 191 := by
  rw [enc_eq n h]
  unfold isChar at h
  unfold encN
  by_cases h1 : n < 128
  · rw [if_pos h1]
    refine ⟨?_, ?_, ?_⟩
    · simp only [oct, List.map_cons, List.map_nil, List.getD_cons_zero, List.length_cons, List.length_nil]
      rw [u8 n (by omega)]; unfold sizeN; rw [if_pos h1]
    · show (((n.toUInt8.toNat) % 128 : Nat) : Int) = (n : Int)
      rw [u8 n (by omega)]; omega
    · intro k hk1 hk2; simp at hk2; omega
  · rw [if_neg h1]
    by_cases h2 : n < 2048
    · rw [if_pos h2]
      have e0 := u8 (192 + n / 64) (by omega)
      have e1 := u8 (128 + n % 64) (by omega)
      refine ⟨?_, ?_, ?_⟩
      · simp only [oct, List.map_cons, List.map_nil, List.getD_cons_zero, List.length_cons, List.length_nil, e0]
        unfold sizeN; rw [if_neg (by omega), if_pos (by omega)]
      · simp only [oct, runV, partN, List.map_cons, List.map_nil, List.getD_cons_zero, List.getD_cons_succ, List.length_cons, List.length_nil, e0, e1]
        simp; omega
      · intro k hk1 hk2
        match k, hk1, hk2 with
        | 1, _, _ => simp only [oct, List.map_cons, List.map_nil, List.getD_cons_zero, List.getD_cons_succ, e1]; omega
        | k + 2, _, hk2 => simp at hk2; omega
    · rw [if_neg h2]
      by_cases h3 : n < 65536
      · rw [if_pos h3]
        have e0 := u8 (224 + n / 4096) (by omega)
        have e1 := u8 (128 + n / 64 % 64) (by omega)
        have e2 := u8 (128 + n % 64) (by omega)
        refine ⟨?_, ?_, ?_⟩
        · simp only [oct, List.map_cons, List.map_nil, List.getD_cons_zero, List.length_cons, List.length_nil, e0]
          unfold sizeN; rw [if_neg (by omega), if_neg (by omega), if_pos (by omega)]
        · simp only [oct, runV, partN, List.map_cons, List.map_nil, List.getD_cons_zero, List.getD_cons_succ, List.length_cons, List.length_nil, e0, e1, e2]
          simp; omega
        · intro k hk1 hk2
          match k, hk1, hk2 with
          | 1, _, _ => simp only [oct, List.map_cons, List.map_nil, List.getD_cons_zero, List.getD_cons_succ, e1]; omega
          | 2, _, _ => simp only [oct, List.map_cons, List.map_nil, List.getD_cons_zero, List.getD_cons_succ, e2]; omega
          | k + 3, _, hk2 => simp at hk2; omega
      · rw [if_neg h3]
        have e0 := u8 (240 + n / 262144) (by omega)
        have e1 := u8 (128 + n / 4096 % 64) (by omega)
        have e2 := u8 (128 + n / 64 % 64) (by omega)
        have e3 := u8 (128 + n % 64) (by omega)
        refine ⟨?_, ?_, ?_⟩
        · simp only [oct, List.map_cons, List.map_nil, List.getD_cons_zero, List.length_cons, List.length_nil, e0]
          unfold sizeN; rw [if_neg (by omega), if_neg (by omega), if_neg (by omega), if_pos (by omega)]
        · simp only [oct, runV, partN, List.map_cons, List.map_nil, List.getD_cons_zero, List.getD_cons_succ, List.length_cons, List.length_nil, e0, e1, e2, e3]
          simp; omega
        · intro k hk1 hk2
          match k, hk1, hk2 with
          | 1, _, _ => simp only [oct, List.map_cons, List.map_nil, List.getD_cons_zero, List.getD_cons_succ, e1]; omega
          | 2, _, _ => simp only [oct, List.map_cons, List.map_nil, List.getD_cons_zero, List.getD_cons_succ, e2]; omega
          | 3, _, _ => simp only [oct, List.map_cons, List.map_nil, List.getD_cons_zero, List.getD_cons_succ, e3]; omega
          | k + 4, _, hk2 => simp at hk2; omega

theorem runV_app (a t : List UInt8) (m k : Nat) (h : k < a.length) : runV (a ++ t) m k = runV a m k := by
  induction k with
  | zero => unfold runV; rw [oct_app a t 0 h]
  | succ k ih => unfold runV; rw [ih (by omega), oct_app a t (k + 1) h]

theorem dec_none (l : List UInt8) (hl : l ≠ []) (h : ∀ c t, isChar c → l = encodeRune c ++ t → False) : dec l = (-1, 1) := by
  rcases dec_cases l hl with h' | ⟨c, t, hc, e⟩
  · exact h'
  · exact (h c t hc e).elim

theorem enc_app (c : Int) (h : isChar c) (t : List UInt8) :
    sizeN (oct (encodeRune c ++ t) 0) = (encodeRune c).length ∧ runV (encodeRune c ++ t) (partN (encodeRune c).length) ((encodeRune c).length - 1) = c ∧
    ∀ k, 1 ≤ k → k < (encodeRune c).length → 128 ≤ oct (encodeRune c ++ t) k ∧ oct (encodeRune c ++ t) k ≤ 191 := by
  have hl := enc_len c
  obtain ⟨n, rfl, hn⟩ := isChar_nat h
  obtain ⟨h1, h2, h3⟩ := enc_facts n hn
  refine ⟨by rw [oct_app _ _ _ (by omega)]; exact h1, by rw [runV_app _ _ _ _ (by omega)]; exact h2, fun k hk1 hk2 => by rw [oct_app _ _ _ hk2]; exact h3 k hk1 hk2⟩

theorem dec_short (l : List UInt8) (hl : l ≠ []) (h : sizeN (oct l 0) = 0 ∨ l.length < sizeN (oct l 0)) : dec l = (-1, 1) :=
  dec_none l hl (fun c t hc e => by
    subst e
    have h1 := (enc_app c hc t).1
    have hl := enc_len c
    rw [h1, List.length_append] at h
    omega)
theorem dec_broken (l : List UInt8) (hl : l ≠ []) (k : Nat) (h1 : 1 ≤ k) (h2 : k < sizeN (oct l 0)) (h : oct l k < 128 ∨ 191 < oct l k) : dec l = (-1, 1) :=
  dec_none l hl (fun c t hc e => by
    subst e
    have h3 := enc_app c hc t
    rw [h3.1] at h2
    have := h3.2.2 k h1 h2
    omega)
theorem dec_yes (l : List UInt8) (v : Int) (hc : isChar v) (h : l.take (sizeN (oct l 0)) = encodeRune v) : dec l = (v, sizeN (oct l 0)) := by
  have e : l = encodeRune v ++ l.drop (sizeN (oct l 0)) := by rw [← h, List.take_append_drop]
  have h1 := (enc_app v hc (l.drop (sizeN (oct l 0)))).1
  rw [← e] at h1
  rw [h1, e, dec_enc v hc]
theorem dec_no (l : List UInt8) (hl : l ≠ []) (h : ¬ (isChar (runV l (partN (sizeN (oct l 0))) (sizeN (oct l 0) - 1)) ∧ l.take (sizeN (oct l 0)) = encodeRune (runV l (partN (sizeN (oct l 0))) (sizeN (oct l 0) - 1)))) : dec l = (-1, 1) :=
  dec_none l hl (fun c t hc e => by
    subst e
    have h3 := enc_app c hc t
    rw [h3.1, h3.2.1] at h
    exact h ⟨hc, by simp⟩)

theorem runV_bound (l : List UInt8) (m : Nat) (hm : 0 < m) (hm' : m ≤ 128) (k : Nat) (hk : k ≤ 3) (h : ∀ j, 1 ≤ j → j ≤ k → 128 ≤ oct l j ∧ oct l j ≤ 191) : 0 ≤ runV l m k ∧ runV l m k ≤ 33554431 := by
  have h0 : oct l 0 % m < m := Nat.mod_lt _ hm
  match k, hk with
  | 0, _ => unfold runV; omega
  | 1, _ => have h1 := h 1 (by omega) (by omega); simp only [runV, Nat.zero_add]; omega
  | 2, _ => have h1 := h 1 (by omega) (by omega); have h2 := h 2 (by omega) (by omega); simp only [runV, Nat.zero_add, Nat.reduceAdd]; omega
  | 3, _ => have h1 := h 1 (by omega) (by omega); have h2 := h 2 (by omega) (by omega); have h3 := h 3 (by omega) (by omega); simp only [runV, Nat.zero_add, Nat.reduceAdd]; omega
end Go.Proofs.YtidfcajhmldieaaGreat.Utf

/-
  Contracts of the page's answers on characters: Encode, size, Decode.
-/
namespace Go.Proofs.YtidfcajhmldieaaGreat.Utf
open Go.RowKit Go.Proofs.YtidfcajhmldieaaGreat.Oct Go.Proofs.YtidfcajhmldieaaGreat.Mem
open Go.Lib (encodeRune encodeRuneZ)

/-- 'string([]byte{..})' of numbers of one octet. -/
theorem conv_new (w : World) (xs : List Int) (hx : ∀ x ∈ xs, 0 ≤ x ∧ x < 256) :
    (convert 42 9 (.slice (some ⟨w.heap.size, 0, none⟩) xs.length xs.length)).run Tryz.prog (w.alloc (.cells (xs.map (Value.int .u8)).toArray 5)) =
      .ok (.string (S (xs.map fun x => x.toNat.toUInt8))) (w.alloc (.cells (xs.map (Value.int .u8)).toArray 5)) := by
  have h := run_convert_bytes_back (P := Tryz.prog) (w.alloc (.cells (xs.map (Value.int .u8)).toArray 5)) 42 9 5 ⟨w.heap.size, 0, none⟩ xs.length (xs.map fun x => x.toNat.toUInt8) Tryz.underlying42 Tryz.underlying5 Tryz.underlying9 (fun j hj => by
    have hj' : j < xs.length := by simpa using hj
    have hb := hx xs[j] (List.getElem_mem _)
    rw [Addr.add_lit, Nat.zero_add]
    have e : (w.alloc (.cells (xs.map (Value.int .u8)).toArray 5)).cell? ⟨w.heap.size, j, none⟩ = some (Value.int .u8 xs[j]) := by
      unfold World.cell?
      rw [World.alloc_heap_new]
      simp [hj']
    rw [e]
    simp
    omega)
  simpa using h

theorem rencode_no (c : Int) (w : World) (h : charB c = false) :
    Calls Tryz.prog 58 #[.int .i64 c] w fun e w' => e = .returned (.tuple #[.string ⟨#[]⟩, .int .i64 4]) ∧ Kept w w' := by
  have hch : ¬ isChar c := of_decide_eq_false h
  have hcase : c < 0 ∨ 1114111 < c ∨ (55296 ≤ c ∧ c ≤ 57343) := by unfold isChar at hch; omega
  clear h hch
  rcases hcase with hc | hc | ⟨hc1, hc2⟩
  · go_enter Tryz.func58, Tryz.ntmps58
    go_wp2
    go_ret2
    exact ⟨rfl, Below.refl _ _⟩
  · have d0 : decide (c < 0) = false := by simp; omega
    go_enter Tryz.func58, Tryz.ntmps58
    go_wp2
    go_ret2
    exact ⟨rfl, Below.refl _ _⟩
  · have d0 : decide (c < 0) = false := by simp; omega
    have d1 : decide (1114111 < c) = false := by simp; omega
    go_enter Tryz.func58, Tryz.ntmps58
    go_wp2
    go_ret2
    exact ⟨rfl, Below.refl _ _⟩

set_option maxHeartbeats 2000000 in
theorem rencode_yes (c : Int) (w : World) (h : charB c = true) :
    Calls Tryz.prog 58 #[.int .i64 c] w fun e w' => e = .returned (.tuple #[.string (S (encodeRune c)), .int .i64 0]) ∧ Kept w w' := by
  have hch : isChar c := of_decide_eq_true h
  have h0 : 0 ≤ c := by unfold isChar at hch; omega
  have h1 : c ≤ 1114111 := by unfold isChar at hch; omega
  have hsur : c < 55296 ∨ 57343 < c := by unfold isChar at hch; omega
  have d0 : decide (c < 0) = false := by simp; omega
  have d1 : decide (1114111 < c) = false := by simp; omega
  have hb := Lib.encodeRuneZ_byte c
  have hcv := conv_new w (encodeRuneZ c) hb
  have he : S ((encodeRuneZ c).map fun x => x.toNat.toUInt8) = S (encodeRune c) := rfl
  rw [he] at hcv
  clear hch h hb he
  by_cases k1 : c < 128
  · rw [Lib.encodeRuneZ_one h0 (by omega)] at hcv
    simp only [List.map_cons, List.map_nil, List.length_cons, List.length_nil, Nat.zero_add] at hcv
    have d2 : decide (55296 ≤ c) = false := by simp; omega
    clear hsur
    go_enter Tryz.func58, Tryz.ntmps58
    go_wp2
    go_ret2
    exact ⟨rfl, (Below.refl _ w).alloc (Nat.le_refl _) _⟩
  · have e1 : decide (c < 128) = false := by simp; omega
    by_cases k2 : c < 2048
    · rw [Lib.encodeRuneZ_two (by omega) (by omega)] at hcv
      simp only [List.map_cons, List.map_nil, List.length_cons, List.length_nil, Nat.zero_add, Nat.reduceAdd] at hcv
      have d2 : decide (55296 ≤ c) = false := by simp; omega
      clear hsur
      go_enter Tryz.func58, Tryz.ntmps58
      go_wp2
      go_ret2
      exact ⟨rfl, (Below.refl _ w).alloc (Nat.le_refl _) _⟩
    · have e2 : decide (c < 2048) = false := by simp; omega
      by_cases k3 : c < 65536
      · rw [Lib.encodeRuneZ_three (by omega)] at hcv
        simp only [List.map_cons, List.map_nil, List.length_cons, List.length_nil, Nat.zero_add, Nat.reduceAdd] at hcv
        rcases hsur with hs | hs
        · have d2 : decide (55296 ≤ c) = false := by simp; omega
          go_enter Tryz.func58, Tryz.ntmps58
          go_wp2
          go_ret2
          exact ⟨rfl, (Below.refl _ w).alloc (Nat.le_refl _) _⟩
        · have d2 : (55296 : Int) ≤ c := by omega
          have d3 : decide (c ≤ 57343) = false := by simp; omega
          go_enter Tryz.func58, Tryz.ntmps58
          go_wp2
          go_ret2
          exact ⟨rfl, (Below.refl _ w).alloc (Nat.le_refl _) _⟩
      · have e3 : decide (c < 65536) = false := by simp; omega
        rw [Lib.encodeRuneZ_four (by omega) (by omega)] at hcv
        simp only [List.map_cons, List.map_nil, List.length_cons, List.length_nil, Nat.zero_add, Nat.reduceAdd] at hcv
        have d2 : (55296 : Int) ≤ c := by omega
        have d3 : decide (c ≤ 57343) = false := by simp; omega
        clear hsur
        go_enter Tryz.func58, Tryz.ntmps58
        go_wp2
        go_ret2
        exact ⟨rfl, (Below.refl _ w).alloc (Nat.le_refl _) _⟩

/-- What the page's Encode answers. -/
def encS (c : Int) : ByteArray := if charB c then S (encodeRune c) else ⟨#[]⟩
def encE (c : Int) : Int := if charB c then 0 else 4
theorem rencode_c (c : Int) (w : World) :
    Calls Tryz.prog 58 #[.int .i64 c] w fun e w' => e = .returned (.tuple #[.string (encS c), .int .i64 (encE c)]) ∧ Kept w w' := by
  cases h : charB c with
  | true => unfold encS encE; rw [h]; exact rencode_yes c w h
  | false => unfold encS encE; rw [h]; exact rencode_no c w h

def sizeI (n : Int) : Int := if n < 128 then 1 else if 194 ≤ n ∧ n < 224 then 2 else if 224 ≤ n ∧ n < 240 then 3 else if 240 ≤ n ∧ n < 245 then 4 else 0
theorem sizeI_eq (n : Nat) : sizeI (n : Int) = (sizeN n : Nat) := by
  unfold sizeI sizeN
  repeat' split
  all_goals first | rfl | omega
end Go.Proofs.YtidfcajhmldieaaGreat.Utf
