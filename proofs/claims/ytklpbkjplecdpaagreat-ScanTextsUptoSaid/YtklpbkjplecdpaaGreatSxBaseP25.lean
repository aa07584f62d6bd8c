/-
  Part 25: UtfRefPure, UtfRef, UtfRefDec, PgChars, LitQuote, PgPrint, LitLiteral, CrfPage.
-/
import Derived.Test.YtklpbkjplecdpaaGreatSxBaseP1
import Derived.Test.YtklpbkjplecdpaaGreatSxBaseP9
import Derived.RangeFuncBox
import Derived.Deep.QuietTactic
import Derived.BigQuiet
import Derived.Laws.BitsLemmas
import Derived.Maps.AppendAt
import Derived.Test.YtklpbkjplecdpaaGreatSxBaseP2
import Derived.Test.YtklpbkjplecdpaaGreatSxBaseP5
import Derived.Test.YtklpbkjplecdpaaGreatSxBaseP24
import Derived.Test.YtklpbkjplecdpaaGreatProg
import Derived.Lib.Hide
import Derived.Test.YtklpbkjplecdpaaGreatSxBaseP10
import Derived.LoopTactic
/-
  Plain facts on how the page reads a character: how many octets the first one says, what they count, and that this is what a text begins with.
-/
namespace Go.Proofs.YtklpbkjplecdpaaGreat.Utf
open Go.Lib (encodeRune)

def sizeN (b : Nat) : Nat := if b < 128 then 1 else if 194 ≤ b ∧ b < 224 then 2 else if 224 ≤ b ∧ b < 240 then 3 else if 240 ≤ b ∧ b < 245 then 4 else 0
theorem sizeN_le (b : Nat) : sizeN b ≤ 4 := by
  unfold sizeN
  repeat' split
  all_goals omega
def partN (n : Nat) : Nat := if n = 1 then 128 else if n = 2 then 32 else if n = 3 then 16 else 8
def runV (l : List UInt8) (m : Nat) : Nat → Int
  | 0 => ((oct l 0 % m : Nat) : Int)
  | k + 1 => runV l m k * 64 + (oct l (k + 1) : Int) - 128

theorem oct_app (a t : List UInt8) (k : Nat) (h : k < a.length) : oct (a ++ t) k = oct a k := by
  unfold oct
  rw [List.getD_eq_getElem?_getD, List.getD_eq_getElem?_getD, List.getElem?_append_left h]

theorem enc_facts (n : Nat) (h : isChar n) :
    sizeN (oct (encodeRune n) 0) = (encodeRune n).length ∧ runV (encodeRune n) (partN (encodeRune n).length) ((encodeRune n).length - 1) = (n : Int) ∧
    ∀ k, 1 ≤ k → k < (encodeRune n).length → 128 ≤ oct (encodeRune n) k ∧ oct (encodeRune n) k ≤ 191 := by
  rw [enc_eq n h]
  unfold isChar at h
  unfold encN
  by_cases h1 : n < 128
  · rw [if_pos h1]
    refine ⟨?_, ?_, ?_⟩
    · simp only [oct, List.map_cons, List.map_nil, List.getD_cons_zero, List.length_cons, List.length_nil]
      rw [u8 n (by omega)]; unfold sizeN; rw [if_pos h1]
    · show (((n.toUInt8.toNat) % 128 : Nat) : Int) = (n : Int)
      rw [u8 n (by omega)]; omega
    · intro k hk1 hk2; simp at hk2; omega
  · rw [if_neg h1]
    by_cases h2 : n < 2048
    · rw [if_pos h2]
      have e0 := u8 (192 + n / 64) (by omega)
      have e1 := u8 (128 + n % 64) (by omega)
      refine ⟨?_, ?_, ?_⟩
      · simp only [oct, List.map_cons, List.map_nil, List.getD_cons_zero, List.length_cons, List.length_nil, e0]
        unfold sizeN; rw [if_neg (by omega), if_pos (by omega)]
      · simp only [oct, runV, partN, List.map_cons, List.map_nil, List.getD_cons_zero, List.getD_cons_succ, List.length_cons, List.length_nil, e0, e1]
        simp; omega
      · intro k hk1 hk2
        match k, hk1, hk2 with
        | 1, _, _ => simp only [oct, List.map_cons, List.map_nil, List.getD_cons_zero, List.getD_cons_succ, e1]; omega
        | k + 2, _, hk2 => simp at hk2; omega
    · rw [if_neg h2]
      by_cases h3 : n < 65536
      · rw [if_pos h3]
        have e0 := u8 (224 + n / 4096) (by omega)
        have e1 := u8 (128 + n / 64 % 64) (by omega)
        have e2 := u8 (128 + n % 64) (by omega)
        refine ⟨?_, ?_, ?_⟩
        · simp only [oct, List.map_cons, List.map_nil, List.getD_cons_zero, List.length_cons, List.length_nil, e0]
          unfold sizeN; rw [if_neg (by omega), if_neg (by omega), if_pos (by omega)]
        · simp only [oct, runV, partN, List.map_cons, List.map_nil, List.getD_cons_zero, List.getD_cons_succ, List.length_cons, List.length_nil, e0, e1, e2]
          simp; omega
        · intro k hk1 hk2
          match k, hk1, hk2 with
          | 1, _, _ => simp only [oct, List.map_cons, List.map_nil, List.getD_cons_zero, List.getD_cons_succ, e1]; omega
          | 2, _, _ => simp only [oct, List.map_cons, List.map_nil, List.getD_cons_zero, List.getD_cons_succ, e2]; omega
          | k + 3, _, hk2 => simp at hk2; omega
      · rw [if_neg h3]
        have e0 := u8 (240 + n / 262144) (by omega)
        have e1 := u8 (128 + n / 4096 % 64) (by omega)
        have e2 := u8 (128 + n / 64 % 64) (by omega)
        have e3 := u8 (128 + n % 64) (by omega)
        refine ⟨?_, ?_, ?_⟩
        · simp only [oct, List.map_cons, List.map_nil, List.getD_cons_zero, List.length_cons, List.length_nil, e0]
          unfold sizeN; rw [if_neg (by omega), if_neg (by omega), if_neg (by omega), if_pos (by omega)]
        · simp only [oct, runV, partN, List.map_cons, List.map_nil, List.getD_cons_zero, List.getD_cons_succ, List.length_cons, List.length_nil, e0, e1, e2, e3]
          simp; omega
        · intro k hk1 hk2
          match k, hk1, hk2 with
          | 1, _, _ => simp only [oct, List.map_cons, List.map_nil, List.getD_cons_zero, List.getD_cons_succ, e1]; omega
          | 2, _, _ => simp only [oct, List.map_cons, List.map_nil, List.getD_cons_zero, List.getD_cons_succ, e2]; omega
          | 3, _, _ => simp only [oct, List.map_cons, List.map_nil, List.getD_cons_zero, List.getD_cons_succ, e3]; omega
          | k + 4, _, hk2 => simp at hk2; omega

theorem runV_app (a t : List UInt8) (m k : Nat) (h : k < a.length) : runV (a ++ t) m k = runV a m k := by
  induction k with
  | zero => unfold runV; rw [oct_app a t 0 h]
  | succ k ih => unfold runV; rw [ih (by omega), oct_app a t (k + 1) h]

theorem dec_none (l : List UInt8) (hl : l ≠ []) (h : ∀ c t, isChar c → l = encodeRune c ++ t → False) : dec l = (-1, 1) := by
  rcases dec_cases l hl with h' | ⟨c, t, hc, e⟩
  · exact h'
  · exact (h c t hc e).elim

theorem enc_app (c : Int) (h : isChar c) (t : List UInt8) :
    sizeN (oct (encodeRune c ++ t) 0) = (encodeRune c).length ∧ runV (encodeRune c ++ t) (partN (encodeRune c).length) ((encodeRune c).length - 1) = c ∧
    ∀ k, 1 ≤ k → k < (encodeRune c).length → 128 ≤ oct (encodeRune c ++ t) k ∧ oct (encodeRune c ++ t) k ≤ 191 := by
  have hl := enc_len c
  obtain ⟨n, rfl, hn⟩ := isChar_nat h
  obtain ⟨h1, h2, h3⟩ := enc_facts n hn
  refine ⟨by rw [oct_app _ _ _ (by omega)]; exact h1, by rw [runV_app _ _ _ _ (by omega)]; exact h2, fun k hk1 hk2 => by rw [oct_app _ _ _ hk2]; exact h3 k hk1 hk2⟩

theorem dec_short (l : List UInt8) (hl : l ≠ []) (h : sizeN (oct l 0) = 0 ∨ l.length < sizeN (oct l 0)) : dec l = (-1, 1) :=
  dec_none l hl (fun c t hc e => by
    subst e
    have h1 := (enc_app c hc t).1
    have hl := enc_len c
    rw [h1, List.length_append] at h
    omega)
theorem dec_broken (l : List UInt8) (hl : l ≠ []) (k : Nat) (h1 : 1 ≤ k) (h2 : k < sizeN (oct l 0)) (h : oct l k < 128 ∨ 191 < oct l k) : dec l = (-1, 1) :=
  dec_none l hl (fun c t hc e => by
    subst e
    have h3 := enc_app c hc t
    rw [h3.1] at h2
    have := h3.2.2 k h1 h2
    omega)
theorem dec_yes (l : List UInt8) (v : Int) (hc : isChar v) (h : l.take (sizeN (oct l 0)) = encodeRune v) : dec l = (v, sizeN (oct l 0)) := by
  have e : l = encodeRune v ++ l.drop (sizeN (oct l 0)) := by rw [← h, List.take_append_drop]
  have h1 := (enc_app v hc (l.drop (sizeN (oct l 0)))).1
  rw [← e] at h1
  rw [h1, e, dec_enc v hc]
theorem dec_no (l : List UInt8) (hl : l ≠ []) (h : ¬ (isChar (runV l (partN (sizeN (oct l 0))) (sizeN (oct l 0) - 1)) ∧ l.take (sizeN (oct l 0)) = encodeRune (runV l (partN (sizeN (oct l 0))) (sizeN (oct l 0) - 1)))) : dec l = (-1, 1) :=
  dec_none l hl (fun c t hc e => by
    subst e
    have h3 := enc_app c hc t
    rw [h3.1, h3.2.1] at h
    exact h ⟨hc, by simp⟩)

theorem runV_bound (l : List UInt8) (m : Nat) (hm : 0 < m) (hm' : m ≤ 128) (k : Nat) (hk : k ≤ 3) (h : ∀ j, 1 ≤ j → j ≤ k → 128 ≤ oct l j ∧ oct l j ≤ 191) : 0 ≤ runV l m k ∧ runV l m k ≤ 33554431 := by
  have h0 : oct l 0 % m < m := Nat.mod_lt _ hm
  match k, hk with
  | 0, _ => unfold runV; omega
  | 1, _ => have h1 := h 1 (by omega) (by omega); simp only [runV, Nat.zero_add]; omega
  | 2, _ => have h1 := h 1 (by omega) (by omega); have h2 := h 2 (by omega) (by omega); simp only [runV, Nat.zero_add, Nat.reduceAdd]; omega
  | 3, _ => have h1 := h 1 (by omega) (by omega); have h2 := h 2 (by omega) (by omega); have h3 := h 3 (by omega) (by omega); simp only [runV, Nat.zero_add, Nat.reduceAdd]; omega
end Go.Proofs.YtklpbkjplecdpaaGreat.Utf

/-
  Contracts of the page's answers on characters: Encode, size, Decode.
-/
namespace Go.Proofs.YtklpbkjplecdpaaGreat.Utf
open Go.RowKit Oct Mem
open Go.Lib (encodeRune encodeRuneZ)

theorem conv_new (w : World) (xs : List Int) (hx : ∀ x ∈ xs, 0 ≤ x ∧ x < 256) :
    (convert 49 9 (.slice (some ⟨w.heap.size, 0, none⟩) xs.length xs.length)).run Tryz.prog (w.alloc (.cells (xs.map (Value.int .u8)).toArray 5)) =
      .ok (.string (S (xs.map fun x => x.toNat.toUInt8))) (w.alloc (.cells (xs.map (Value.int .u8)).toArray 5)) := by
  have h := run_convert_bytes_back (P := Tryz.prog) (w.alloc (.cells (xs.map (Value.int .u8)).toArray 5)) 49 9 5 ⟨w.heap.size, 0, none⟩ xs.length (xs.map fun x => x.toNat.toUInt8) Tryz.underlying49 Tryz.underlying5 Tryz.underlying9 (fun j hj => by
    have hj' : j < xs.length := by simpa using hj
    have hb := hx xs[j] (List.getElem_mem _)
    rw [Addr.add_lit, Nat.zero_add]
    have e : (w.alloc (.cells (xs.map (Value.int .u8)).toArray 5)).cell? ⟨w.heap.size, j, none⟩ = some (Value.int .u8 xs[j]) := by
      unfold World.cell?
      rw [World.alloc_heap_new]
      simp [hj']
    rw [e]
    simp
    omega)
  simpa using h

theorem rencode_no (c : Int) (w : World) (h : charB c = false) :
    Calls Tryz.prog 65 #[.int .i64 c] w fun e w' => e = .returned (.tuple #[.string ⟨#[]⟩, .int .i64 4]) ∧ Kept w w' := by
  have hch : ¬ isChar c := of_decide_eq_false h
  have hcase : c < 0 ∨ 1114111 < c ∨ (55296 ≤ c ∧ c ≤ 57343) := by unfold isChar at hch; omega
  clear h hch
  rcases hcase with hc | hc | ⟨hc1, hc2⟩
  · go_enter Tryz.func65, Tryz.ntmps65
    go_wp2
    go_ret2
    exact ⟨rfl, Below.refl _ _⟩
  · have d0 : decide (c < 0) = false := by simp; omega
    go_enter Tryz.func65, Tryz.ntmps65
    go_wp2
    go_ret2
    exact ⟨rfl, Below.refl _ _⟩
  · have d0 : decide (c < 0) = false := by simp; omega
    have d1 : decide (1114111 < c) = false := by simp; omega
    go_enter Tryz.func65, Tryz.ntmps65
    go_wp2
    go_ret2
    exact ⟨rfl, Below.refl _ _⟩

set_option maxHeartbeats 2000000 in
theorem rencode_yes (c : Int) (w : World) (h : charB c = true) :
    Calls Tryz.prog 65 #[.int .i64 c] w fun e w' => e = .returned (.tuple #[.string (S (encodeRune c)), .int .i64 0]) ∧ Kept w w' := by
  have hch : isChar c := of_decide_eq_true h
  have h0 : 0 ≤ c := by unfold isChar at hch; omega
  have h1 : c ≤ 1114111 := by unfold isChar at hch; omega
  have hsur : c < 55296 ∨ 57343 < c := by unfold isChar at hch; omega
  have d0 : decide (c < 0) = false := by simp; omega
  have d1 : decide (1114111 < c) = false := by simp; omega
  have hb := Lib.encodeRuneZ_byte c
  have hcv := conv_new w (encodeRuneZ c) hb
  have he : S ((encodeRuneZ c).map fun x => x.toNat.toUInt8) = S (encodeRune c) := rfl
  rw [he] at hcv
  clear hch h hb he
  by_cases k1 : c < 128
  · rw [Lib.encodeRuneZ_one h0 (by omega)] at hcv
    simp only [List.map_cons, List.map_nil, List.length_cons, List.length_nil, Nat.zero_add] at hcv
    have d2 : decide (55296 ≤ c) = false := by simp; omega
    clear hsur
    go_enter Tryz.func65, Tryz.ntmps65
    go_wp2
    go_ret2
    exact ⟨rfl, (Below.refl _ w).alloc (Nat.le_refl _) _⟩
  · have e1 : decide (c < 128) = false := by simp; omega
    by_cases k2 : c < 2048
    · rw [Lib.encodeRuneZ_two (by omega) (by omega)] at hcv
      simp only [List.map_cons, List.map_nil, List.length_cons, List.length_nil, Nat.zero_add, Nat.reduceAdd] at hcv
      have d2 : decide (55296 ≤ c) = false := by simp; omega
      clear hsur
      go_enter Tryz.func65, Tryz.ntmps65
      go_wp2
      go_ret2
      exact ⟨rfl, (Below.refl _ w).alloc (Nat.le_refl _) _⟩
    · have e2 : decide (c < 2048) = false := by simp; omega
      by_cases k3 : c < 65536
      · rw [Lib.encodeRuneZ_three (by omega)] at hcv
        simp only [List.map_cons, List.map_nil, List.length_cons, List.length_nil, Nat.zero_add, Nat.reduceAdd] at hcv
        rcases hsur with hs | hs
        · have d2 : decide (55296 ≤ c) = false := by simp; omega
          go_enter Tryz.func65, Tryz.ntmps65
          go_wp2
          go_ret2
          exact ⟨rfl, (Below.refl _ w).alloc (Nat.le_refl _) _⟩
        · have d2 : (55296 : Int) ≤ c := by omega
          have d3 : decide (c ≤ 57343) = false := by simp; omega
          go_enter Tryz.func65, Tryz.ntmps65
          go_wp2
          go_ret2
          exact ⟨rfl, (Below.refl _ w).alloc (Nat.le_refl _) _⟩
      · have e3 : decide (c < 65536) = false := by simp; omega
        rw [Lib.encodeRuneZ_four (by omega) (by omega)] at hcv
        simp only [List.map_cons, List.map_nil, List.length_cons, List.length_nil, Nat.zero_add, Nat.reduceAdd] at hcv
        have d2 : (55296 : Int) ≤ c := by omega
        have d3 : decide (c ≤ 57343) = false := by simp; omega
        clear hsur
        go_enter Tryz.func65, Tryz.ntmps65
        go_wp2
        go_ret2
        exact ⟨rfl, (Below.refl _ w).alloc (Nat.le_refl _) _⟩

def encS (c : Int) : ByteArray := if charB c then S (encodeRune c) else ⟨#[]⟩
def encE (c : Int) : Int := if charB c then 0 else 4
theorem rencode_c (c : Int) (w : World) :
    Calls Tryz.prog 65 #[.int .i64 c] w fun e w' => e = .returned (.tuple #[.string (encS c), .int .i64 (encE c)]) ∧ Kept w w' := by
  cases h : charB c with
  | true => unfold encS encE; rw [h]; exact rencode_yes c w h
  | false => unfold encS encE; rw [h]; exact rencode_no c w h

def sizeI (n : Int) : Int := if n < 128 then 1 else if 194 ≤ n ∧ n < 224 then 2 else if 224 ≤ n ∧ n < 240 then 3 else if 240 ≤ n ∧ n < 245 then 4 else 0
theorem sizeI_eq (n : Nat) : sizeI (n : Int) = (sizeN n : Nat) := by
  unfold sizeI sizeN
  repeat' split
  all_goals first | rfl | omega
theorem rsize_c (n : Int) (w : World) (h0 : 0 ≤ n) (h1 : n ≤ 255) :
    Calls Tryz.prog 98 #[.int .u8 n] w fun e w' => e = .returned (.int .i64 (sizeI n)) ∧ w = w' := by
  go_enter Tryz.func98, Tryz.ntmps98
  go_wp2
  all_goals go_ret
  all_goals (refine ⟨ret_int ?_, rfl⟩; unfold sizeI; repeat' split)
  all_goals first | rfl | omega
end Go.Proofs.YtklpbkjplecdpaaGreat.Utf

/-
  Contract of the page's Decode.
-/
namespace Go.Proofs.YtklpbkjplecdpaaGreat.Utf
open Go.RowKit Oct Mem
open Go.Lib (encodeRune encodeRuneZ)

theorem oct_at (s : ByteArray) (k : Nat) (h : k < s.size) : oct s.data.toList k = s[k].toNat := by
  unfold oct
  rw [at_eq s k h]; rfl

def maskI (n : Nat) : Int := if n = 1 then 127 else if n = 2 then 31 else if n = 3 then 15 else 7
theorem mask_all : ∀ (n : Fin 4) (b : Fin 256), bits .and .i64 ((b.val : Nat) : Int) (maskI (n.val + 1)) = ((b.val % partN (n.val + 1) : Nat) : Int) := by decide +kernel
theorem mask_eq (n b : Nat) (h1 : 1 ≤ n) (h4 : n ≤ 4) (hb : b < 256) : bits .and .i64 (b : Int) (maskI n) = ((b % partN n : Nat) : Int) := by
  have := mask_all ⟨n - 1, by omega⟩ ⟨b, hb⟩
  simp only at this
  rwa [show n - 1 + 1 = n by omega] at this

theorem cut_take (s : ByteArray) (n : Nat) : (s.extract 0 n).data.toList = s.data.toList.take n := by
  rw [Lib.extract_data, List.drop_zero, Nat.sub_zero]

theorem rdecode_nil (s : ByteArray) (hs : s.size = 0) (w : World) :
    Calls Tryz.prog 66 #[.string s] w fun e w' => e = .returned (.tuple #[.int .i64 (-1), .int .i64 0]) ∧ Kept w w' := by
  have hne : s.toList.isEmpty = true := by
    rw [Lib.toList_data, List.isEmpty_iff]
    exact List.eq_nil_of_length_eq_zero (by rw [size_list]; exact hs)
  have hne2 : s.toList = [] := List.isEmpty_iff.1 hne
  go_enter Tryz.func66, Tryz.ntmps66
  go_wp2
  go_ret2
  exact ⟨rfl, Below.refl _ _⟩

theorem rsize_at (s : ByteArray) (hs : 0 < s.size) (w : World) :
    Calls Tryz.prog 98 #[.int .u8 (s[0].toNat : Int)] w fun e w' => e = .returned (.int .i64 (sizeN (oct s.data.toList 0) : Nat)) ∧ w = w' := by
  rw [oct_at s 0 hs, ← sizeI_eq]
  exact rsize_c _ w (by omega) (by have := s[0].toNat_lt; omega)

theorem text_ne (s : ByteArray) (hs : 0 < s.size) : s.toList.isEmpty = false ∧ s.toList ≠ [] := by
  have hne : s.toList.isEmpty = false := by
    rw [Lib.toList_data]
    cases h : s.data.toList with
    | nil => have := size_list s; rw [h] at this; simp at this; omega
    | cons _ _ => rfl
  exact ⟨hne, by intro e; rw [e] at hne; simp at hne⟩

set_option maxHeartbeats 2000000 in
theorem rdecode_short (s : ByteArray) (hs : 0 < s.size) (_ : s.size ≤ 4611686018427387904) (w : World) (h : sizeN (oct s.data.toList 0) = 0 ∨ s.size < sizeN (oct s.data.toList 0)) :
    Calls Tryz.prog 66 #[.string s] w fun e w' => e = .returned (.tuple #[.int .i64 (-1), .int .i64 1]) ∧ Kept w w' := by
  obtain ⟨hne, hne2⟩ := text_ne s hs
  have hz := fun w => rsize_at s hs w
  have hle := sizeN_le (oct s.data.toList 0)
  generalize sizeN (oct s.data.toList 0) = n at h hle hz
  by_cases hn0 : n = 0
  · subst hn0
    clear h
    go_enter Tryz.func66, Tryz.ntmps66
    go_wp2_with (go_at_call 98; refine (hz _).mono ?_; rintro e w' ⟨rfl, rfl⟩)
    go_ret2
    exact ⟨rfl, Below.refl _ _⟩
  · have hlt : s.size < n := by omega
    have b0 : ((n : Int) == 0) = false := by simp; omega
    clear h
    go_enter Tryz.func66, Tryz.ntmps66
    go_wp2_with (go_at_call 98; refine (hz _).mono ?_; rintro e w' ⟨rfl, rfl⟩)
    go_ret2
    exact ⟨rfl, Below.refl _ _⟩

theorem mask_cell (w : World) (n : Nat) (h1 : 1 ≤ n) (h4 : n ≤ 4) : (w.alloc (.cells #[.int .i64 0, .int .i64 127, .int .i64 31, .int .i64 15, .int .i64 7] 3)).cell? ⟨w.heap.size, n, none⟩ = some (.int .i64 (maskI n)) := by
  unfold World.cell?
  rw [World.alloc_heap_new]
  match n, h1, h4 with
  | 1, _, _ => rfl
  | 2, _, _ => rfl
  | 3, _, _ => rfl
  | 4, _, _ => rfl

theorem partN_b (n : Nat) : 0 < partN n ∧ partN n ≤ 128 := by
  unfold partN
  repeat' split
  all_goals omega
theorem below_drewN {B : Nat} {a w : World} (h : Below B a w) : ∀ q, Below B a (w.drewN q)
  | 0 => h
  | q + 1 => (below_drewN h q).drew

set_option maxHeartbeats 4000000 in
set_option maxRecDepth 100000 in
theorem rdecode_main (s : ByteArray) (hm : s.size ≤ 4611686018427387904) (w : World) (n : Nat) (hn : n = sizeN (oct s.data.toList 0)) (h1 : 1 ≤ n) (hns : n ≤ s.size) :
    Calls Tryz.prog 66 #[.string s] w fun e w' => e = .returned (.tuple #[.int .i64 (dec s.data.toList).1, .int .i64 ((dec s.data.toList).2 : Nat)]) ∧ Kept w w' := by
  have hs : 0 < s.size := by omega
  obtain ⟨hne, hne2⟩ := text_ne s hs
  have hz := fun w => rsize_at s hs w
  have h4 : n ≤ 4 := by rw [hn]; exact sizeN_le _
  rw [← hn] at hz
  have hlne : s.data.toList ≠ [] := by intro e; have := size_list s; rw [e] at this; simp at this; omega
  have b0 : ((n : Int) == 0) = false := by simp; omega
  have b1 : decide (s.size < n) = false := by simp; omega
  have hcell := mask_cell w n h1 h4
  have hand := mask_eq n s[0].toNat h1 h4 s[0].toNat_lt
  have HN := Lib.hid hn
  clear hn
  obtain ⟨mk, hmk⟩ : ∃ mk, mk = maskI n := ⟨_, rfl⟩
  rw [← hmk] at hcell hand
  clear hmk
  go_enter Tryz.func66, Tryz.ntmps66
  go_wp2_with (go_at_call 98; refine (hz _).mono ?_; rintro e w' ⟨rfl, rfl⟩)
  go_quiet (fail)
  rename_i nq _
  have hk0 : Kept w ((w.alloc (.cells #[.int .i64 0, .int .i64 127, .int .i64 31, .int .i64 15, .int .i64 7] 3)).drewN nq) := below_drewN ((Below.refl _ w).alloc (Nat.le_refl _) _) nq
  have HK0 := Lib.hid hk0
  have HA : Hid (bits .and .i64 (wrap64 (s[0].toNat : Int)) mk = runV s.data.toList (partN n) 0) := by
    show _ = _
    rw [IntWalk.wrap64_in _ (by have := s[0].toNat_lt; omega), hand]
    unfold runV
    rw [oct_at s 0 hs]
  clear hcell hand hk0 hz hne hne2 b1
  go_wp2
  go_loop [6, 7] (fun c i => ∃ k : Nat, 1 ≤ k ∧ k ≤ n ∧ i = .int .i64 (k : Int) ∧ c = .int .i64 (runV s.data.toList (partN n) (k - 1)) ∧ Hid (∀ j, 1 ≤ j → j < k → 128 ≤ oct s.data.toList j ∧ oct s.data.toList j ≤ 191)) (fun _ i => n - (intOf i).toNat)
  case atStart => exact ⟨1, Nat.le_refl _, h1, rfl, by rw [HA.out], fun j hj1 hj2 => absurd hj1 (by omega)⟩
  case round =>
    obtain ⟨k, hk1, hk2, rfl, rfl, hcont⟩ := hrel
    have hbd := runV_bound s.data.toList (partN n) (partN_b n).1 (partN_b n).2 (k - 1) (by omega) (fun j hj1 hj2 => hcont.out j hj1 (by omega))
    by_cases hlt : k < n
    · have hks : k < s.size := by omega
      have ho := oct_at s k hks
      have hb : (s[k].toNat : Int) ≤ 255 := by have := s[k].toNat_lt; omega
      rcases (show (s[k].toNat : Int) < 128 ∨ 191 < (s[k].toNat : Int) ∨ (128 ≤ (s[k].toNat : Int) ∧ (s[k].toNat : Int) ≤ 191) by omega) with hx | hx | ⟨hx1, hx2⟩
      · have E := Lib.hid (dec_broken s.data.toList hlne k hk1 (by rw [← HN.out]; exact hlt) (by rw [ho]; omega))
        clear ho
        go_wp2
        go_ret2
        rw [E.out]
        exact ⟨rfl, HK0.out⟩
      · have E := Lib.hid (dec_broken s.data.toList hlne k hk1 (by rw [← HN.out]; exact hlt) (by rw [ho]; omega))
        have d1 : decide ((s[k].toNat : Int) < 128) = false := by simp; omega
        clear ho
        go_wp2
        go_ret2
        rw [E.out]
        exact ⟨rfl, HK0.out⟩
      · have d1 : decide ((s[k].toNat : Int) < 128) = false := by simp; omega
        have d2 : decide (191 < (s[k].toNat : Int)) = false := by simp; omega
        have E : Hid (runV s.data.toList (partN n) (k - 1) * 64 + (s[k].toNat : Int) - 128 = runV s.data.toList (partN n) k) := by
          show _ = _
          obtain ⟨k', rfl⟩ : ∃ k', k = k' + 1 := ⟨k - 1, by omega⟩
          rw [Nat.add_sub_cancel]
          show _ = runV s.data.toList (partN n) k' * 64 + (oct s.data.toList (k' + 1) : Int) - 128
          rw [ho]
        have HC : Hid (∀ j, 1 ≤ j → j < k + 1 → 128 ≤ oct s.data.toList j ∧ oct s.data.toList j ≤ 191) := fun j hj1 hj2 => by
          by_cases e : j = k
          · subst e; rw [ho]; omega
          · exact hcont.out j hj1 (by omega)
        clear ho
        go_wp2
        go_round
        case rel => exact ⟨k + 1, by omega, by omega, by go_num, by rw [Nat.add_sub_cancel, ← E.out], HC⟩
        case measure => simp [intOf]; omega
    · obtain rfl : k = n := by omega
      clear hcont hlt
      have hno := dec_no s.data.toList hlne
      rw [← HN.out] at hno
      have hyes := fun hc h => dec_yes s.data.toList (runV s.data.toList (partN k) (k - 1)) hc (by rw [← HN.out]; exact h)
      rw [← HN.out] at hyes
      have HNO := Lib.hid hno
      have HYES := Lib.hid hyes
      clear hno hyes
      generalize runV s.data.toList (partN k) (k - 1) = v at hbd HNO HYES
      cases hc : charB v with
      | false =>
        have henc := fun w => rencode_no v w hc
        have E := Lib.hid (HNO.out (fun h => of_decide_eq_false hc h.1))
        clear HNO HYES hc
        go_wp2_with fail
        refine (henc _).mono ?_
        rintro e w1 ⟨rfl, hb1⟩
        have HB := Lib.hid (kept_trans HK0.out hb1)
        clear hb1 henc
        go_wp2
        go_ret2
        rw [E.out]
        exact ⟨rfl, HB.out⟩
      | true =>
        have henc := fun w => rencode_yes v w hc
        obtain ⟨t, ht⟩ : ∃ t, t = S (encodeRune v) := ⟨_, rfl⟩
        rw [← ht] at henc
        by_cases heq : s.data.toList.take k = encodeRune v
        · have E := Lib.hid (HYES.out (of_decide_eq_true hc) heq)
          have q1 : (t.toList == (s.extract 0 k).toList) = true := by
            rw [str_beq, decide_eq_true_eq, ht, ← S_list (s.extract 0 k), cut_take, heq]
          have q2 : (t.toList != (s.extract 0 k).toList) = false := by rw [bne, q1]; rfl
          clear HNO HYES hc heq ht
          go_wp2_with fail
          refine (henc _).mono ?_
          rintro e w1 ⟨rfl, hb1⟩
          have HB := Lib.hid (kept_trans HK0.out hb1)
          clear hb1 henc
          go_wp2
          go_ret2
          rw [E.out]
          exact ⟨rfl, HB.out⟩
        · have E := Lib.hid (HNO.out (fun h => heq h.2))
          have q1 : (t.toList == (s.extract 0 k).toList) = false := by
            rw [str_beq, decide_eq_false_iff_not, ht]
            intro e; apply heq; rw [← cut_take, ← e, list_S]
          have q2 : (t.toList != (s.extract 0 k).toList) = true := by rw [bne, q1]; rfl
          clear HNO HYES hc heq ht
          go_wp2_with fail
          refine (henc _).mono ?_
          rintro e w1 ⟨rfl, hb1⟩
          have HB := Lib.hid (kept_trans HK0.out hb1)
          clear hb1 henc
          go_wp2
          go_ret2
          rw [E.out]
          exact ⟨rfl, HB.out⟩

theorem rdecode_c (s : ByteArray) (hm : s.size ≤ 4611686018427387904) (w : World) :
    Calls Tryz.prog 66 #[.string s] w fun e w' => e = .returned (.tuple #[.int .i64 (dec s.data.toList).1, .int .i64 ((dec s.data.toList).2 : Nat)]) ∧ Kept w w' := by
  by_cases h0 : s.size = 0
  · have hl : s.data.toList = [] := List.eq_nil_of_length_eq_zero (by rw [size_list]; exact h0)
    rw [hl, dec_nil]
    exact rdecode_nil s h0 w
  · have hl : s.data.toList ≠ [] := by intro e; apply h0; rw [← size_list, e]; rfl
    by_cases h : sizeN (oct s.data.toList 0) = 0 ∨ s.size < sizeN (oct s.data.toList 0)
    · rw [dec_short s.data.toList hl (by rw [size_list]; exact h)]
      exact rdecode_short s (by omega) hm w h
    · exact rdecode_main s hm w _ rfl (by omega) (by omega)
end Go.Proofs.YtklpbkjplecdpaaGreat.Utf

/-
  Contract of the page's Chars: the characters of a text, as they are repaired, in a list of its own.
-/
namespace Go.Proofs.YtklpbkjplecdpaaGreat.Utf
open Go.RowKit Oct Mem
open Go.Lib (encodeRune encodeRuneZ)

theorem chars_step (l : List UInt8) (hl : l ≠ []) : chars l = fix (dec l).1 :: chars (l.drop (dec l).2) := by
  unfold chars
  rw [parts_step l hl, List.map_cons]
theorem chars_nil : chars [] = [] := rfl
theorem drop_ne (s : ByteArray) (a : Nat) (h : a < s.size) : s.data.toList.drop a ≠ [] := by
  intro e; have := congrArg List.length e; rw [List.length_drop, size_list] at this; simp at this; omega
theorem drop_nil (s : ByteArray) (a : Nat) (h : s.size ≤ a) : s.data.toList.drop a = [] := List.drop_eq_nil_of_le (by rw [size_list]; exact h)

theorem fix_low {c : Int} (h : c = -1 ∨ isChar c) (hc : c ≤ 0) : fix c = 65533 := by
  unfold fix; rw [if_pos]; unfold isChar at h; omega
theorem fix_high {c : Int} (hc : 0 < c) : fix c = c := by
  unfold fix; rw [if_neg]; omega

set_option maxHeartbeats 4000000 in
theorem rchars_c (s : ByteArray) (hs : s.size ≤ 17592186044416) (w : World) :
    Calls Tryz.prog 32 #[.string s] w fun e w' => ∃ v, e = .returned v ∧ w'.ownsRow w.heap.size 3 1 v (chars s.data.toList).length ((chars s.data.toList).map iv) ∧ Kept w w' := by
  obtain ⟨i0, hi, hz0, hz1, hz2⟩ := info_parts info_int
  go_enter Tryz.func32, Tryz.ntmps32
  go_wp2
  go_loopw [3, 4, 5, 6] (fun v i _ _ wr => ∃ (a n : Nat) (pre : List Int), a ≤ s.size ∧ n ≤ a ∧ i = .int .i64 a ∧ Hid (pre ++ chars (s.data.toList.drop a) = chars s.data.toList) ∧ Hid (wr.ownsRow w.heap.size 3 1 v n (pre.map iv)) ∧ Hid (Kept w wr)) (fun _ i _ _ _ => s.size - (intOf i).toNat)
  case atStart => exact ⟨0, 0, [], Nat.zero_le _, Nat.le_refl _, rfl, rfl, World.ownsRow_nil _ _ _ _, Below.refl _ _⟩
  case round =>
    obtain ⟨a, n, pre, ha, hna, rfl, hv, hrow, hb⟩ := hrel
    by_cases hlt : a < s.size
    · have hsz : (s.extract a s.size).size ≤ 4611686018427387904 := by rw [← size_list, cut_list, List.length_drop, size_list]; omega
      have hd := rdecode_c (s.extract a s.size) hsz wr
      rw [cut_list] at hd
      have hne := drop_ne s a hlt
      have hw := dec_width _ hne
      rw [List.length_drop, size_list] at hw
      have hc := dec_char _ hne
      have hst := Lib.hid (chars_step _ hne)
      rw [List.drop_drop] at hst
      clear hne hsz
      generalize dec (s.data.toList.drop a) = d at hd hw hc hst
      obtain ⟨c, k⟩ := d
      simp only at hd hw hc
      have hst' : Hid (chars (s.data.toList.drop a) = fix c :: chars (s.data.toList.drop (a + k))) := hst
      clear hst
      have HC := Lib.hid hc
      clear hc
      go_wp2_with fail
      refine hd.mono ?_
      rintro e w1 ⟨rfl, hb1⟩
      have HB1 := Lib.hid (kept_trans hb.out hb1)
      have HR1 : Hid (w1.ownsRow w.heap.size 3 1 _ n (pre.map iv)) := own_kept hrow.out hb1
      have hB : w.heap.size ≤ w1.heap.size := HB1.out.size
      clear hb1 hd hb hrow
      by_cases hc0 : c ≤ 0
      · have hfx := Lib.hid (fix_low HC.out hc0)
        go_wp2_with (at_builtin; refine wpList_append_own _ rfl _ _ 62 rfl w.heap.size 3 i0 (.int .i64 0) 1 8 Tryz.underlying62 hi hz0 hz1 hz2 rfl (by decide) _ _ _ rfl (HR1.out.alloc _) ⟨w1.heap.size, 0, none⟩ 1 1 [iv 65533] rfl rfl (cell_one_new _ _ _) (by simp [Value.oneCell']) (by unfold maxLen; omega) (by omega) (by simp; omega) ?_)
        intro v' w2 hown hg _
        have HO := Lib.hid hown
        have HB2 : Hid (Kept w w2) := (HB1.out.alloc hB _).grown hg (by simp; omega) (Mem.own_base HR1.out)
        clear hown hg HR1 HB1
        go_wp2
        go_roundw
        case rel =>
          refine ⟨a + k, n + 1, pre ++ [65533], by omega, by omega, by go_num, ?_, ?_, HB2⟩
          · show _ = _
            rw [← hv.out, hst'.out, hfx.out]; simp
          · show World.ownsRow _ _ _ _ _ _ _
            rw [List.map_append]; exact HO.out
        case measure => simp [intOf]; omega
      · have hc1 : 0 < c := by omega
        have hfx := Lib.hid (fix_high hc1)
        have d0 : decide (c ≤ 0) = false := by simp; omega
        go_wp2_with (at_builtin; refine wpList_append_own _ rfl _ _ 62 rfl w.heap.size 3 i0 (.int .i64 0) 1 8 Tryz.underlying62 hi hz0 hz1 hz2 rfl (by decide) _ _ _ rfl (HR1.out.alloc _) ⟨w1.heap.size, 0, none⟩ 1 1 [iv c] rfl rfl (cell_one_new _ _ _) (by simp [Value.oneCell']) (by unfold maxLen; omega) (by omega) (by simp; omega) ?_)
        intro v' w2 hown hg _
        have HO := Lib.hid hown
        have HB2 : Hid (Kept w w2) := (HB1.out.alloc hB _).grown hg (by simp; omega) (Mem.own_base HR1.out)
        clear hown hg HR1 HB1
        go_wp2
        go_roundw
        case rel =>
          refine ⟨a + k, n + 1, pre ++ [c], by omega, by omega, by go_num, ?_, ?_, HB2⟩
          · show _ = _
            rw [← hv.out, hst'.out, hfx.out]; simp
          · show World.ownsRow _ _ _ _ _ _ _
            rw [List.map_append]; exact HO.out
        case measure => simp [intOf]; omega
    · have hfin : Hid (pre = chars s.data.toList) := by
        show _ = _
        rw [← hv.out, drop_nil s a (by omega), chars_nil, List.append_nil]
      go_wp2
      go_ret
      refine ⟨_, rfl, ?_, hb.out⟩
      have hr := hrow.out
      have hn : pre.length = n := by simpa using hr.1
      rw [← hfin.out, hn]
      exact hr
end Go.Proofs.YtklpbkjplecdpaaGreat.Utf

/-
  Contracts of the page's Bare, Inside and Quote: a text as a literal.
-/
namespace Go.Proofs.YtklpbkjplecdpaaGreat.Lit
open Go.RowKit Oct Num Utf Val Mem

end Go.Proofs.YtklpbkjplecdpaaGreat.Lit

/-
  Contract of the page's Print of a number: its digits; it changes nothing.
-/
namespace Go.Proofs.YtklpbkjplecdpaaGreat.Num
open Go.RowKit Oct

end Go.Proofs.YtklpbkjplecdpaaGreat.Num

/-
  Contracts of the page's Quote, Print at null and truths, and Literal: a value as a script's literal.
-/
namespace Go.Proofs.YtklpbkjplecdpaaGreat.Lit
open Go.RowKit Oct Num Utf Val Mem

end Go.Proofs.YtklpbkjplecdpaaGreat.Lit

/-
  Contracts of the page's leaves that references are read by: Begins, Has, digit, Unhex at one octet, run, number.
-/
namespace Go.Proofs.YtklpbkjplecdpaaGreat.Crf
open Go.RowKit Oct Num Utf
open Go.Lib (encodeRune)

theorem prefix_take (l p : List UInt8) : Lib.hasPrefix l p = decide (l.take p.length = p) := by
  rw [Bool.eq_iff_iff, pre_iff, decide_eq_true_eq]
  constructor
  · intro hp
    exact (List.prefix_iff_eq_take.1 hp).symm
  · intro e
    rw [← e]
    exact List.take_prefix _ _

theorem rbegins_c (p l : List UInt8) (w : World) :
    Calls Tryz.prog 58 #[.string (S p), .string (S l)] w fun e w' => e = .returned (.bool (Lib.hasPrefix l p)) ∧ w = w' := by
  have z1 : ((S p).size : Int) = (p.length : Int) := by rw [size_S]
  have z2 : ((S l).size : Int) = (l.length : Int) := by rw [size_S]
  by_cases h : p.length ≤ l.length
  · have hcut : (S l).extract 0 p.length = S (l.take p.length) := by rw [cutTo, list_S]
    have HE : Hid (Lib.hasPrefix l p = ((S (l.take p.length)).toList == (S p).toList)) := by
      show _ = _
      rw [prefix_take l p, eqB]
    generalize S (l.take p.length) = T at hcut HE
    generalize S p = P at z1 HE
    generalize S l = L at z2 hcut
    have h1 : (p.length : Int) ≤ (l.length : Int) := by omega
    have h2 : (0 : Int) ≤ (p.length : Int) := by omega
    go_enter Tryz.func58, Tryz.ntmps58
    go_wp2
    go_ret
    exact ⟨by rw [HE.out]; rfl, rfl⟩
  · have HE : Hid (Lib.hasPrefix l p = false) := by
      show _ = _
      cases hb : Lib.hasPrefix l p with
      | false => rfl
      | true => exact absurd ((pre_iff l p).1 hb).length_le h
    generalize S p = P at z1
    generalize S l = L at z2
    have h1 : decide ((p.length : Int) ≤ (l.length : Int)) = false := decide_eq_false (by omega)
    have h2 : decide (p.length ≤ l.length) = false := decide_eq_false h
    go_enter Tryz.func58, Tryz.ntmps58
    go_wp2
    go_ret
    exact ⟨by rw [HE.out]; rfl, rfl⟩

def hasB (l : List UInt8) (c : UInt8) : Bool := l.contains c
theorem rhas_c (s : ByteArray) (c : UInt8) (hs : s.size ≤ 4611686018427387904) (w : World) :
    Calls Tryz.prog 128 #[.string s, .int .u8 (c.toNat : Int)] w fun e w' => e = .returned (.bool (hasB s.data.toList c)) ∧ w = w' := by
  have HL := Lib.hid (fun k (h : k < s.size) => (by
    rw [List.getElem?_eq_getElem (by rw [size_list]; exact h)]
    rfl : s.data.toList[k]? = some s[k]))
  go_enter Tryz.func128, Tryz.ntmps128
  go_wp2_with fail
  go_loop [5] (fun i => ∃ k : Nat, k ≤ s.size ∧ i = .int .i64 k ∧ Hid (∀ j (x : UInt8), j < k → s.data.toList[j]? = some x → x ≠ c)) (fun i => s.size - (intOf i).toNat)
  case atStart => exact ⟨0, Nat.zero_le _, rfl, fun j _ h => absurd h (by omega)⟩
  case round =>
    obtain ⟨k, hk, rfl, hno⟩ := hrel
    by_cases hlt : k < s.size
    · have hx := HL.out k hlt
      by_cases he : s[k] = c
      · have HR : Hid (hasB s.data.toList c = true) := by
          show s.data.toList.contains c = true
          rw [List.contains_iff_mem, ← he]
          exact List.mem_of_getElem? hx
        have hb : ((s[k].toNat : Int) == (c.toNat : Int)) = true := by rw [he]; simp
        clear hx he
        go_wp2_with fail
        go_ret
        exact ⟨by rw [HR.out]; rfl, rfl⟩
      · have hb : ((s[k].toNat : Int) == (c.toNat : Int)) = false := by
          rw [beq_eq_false_iff_ne]
          intro e
          exact he (UInt8.toNat_inj.1 (by omega))
        have HN : Hid (∀ j (x : UInt8), j < k + 1 → s.data.toList[j]? = some x → x ≠ c) := fun j x hj hxj => by
          rcases Nat.lt_or_ge j k with h | h
          · exact hno.out j x h hxj
          · obtain rfl : j = k := by omega
            rw [hx] at hxj
            injection hxj with e
            rw [← e]
            exact he
        clear hx he
        go_wp2_with fail
        go_round
        case rel => exact ⟨k + 1, by omega, by go_num, HN⟩
        case measure => simp [intOf]; omega
    · have HR : Hid (hasB s.data.toList c = false) := by
        show s.data.toList.contains c = false
        rw [Bool.eq_false_iff]
        intro hc
        rw [List.contains_iff_mem] at hc
        obtain ⟨j, hj⟩ := List.mem_iff_getElem?.1 hc
        have hjl := (List.getElem?_eq_some_iff.1 hj).1
        rw [size_list] at hjl
        exact hno.out j c (by omega) hj rfl
      go_wp2_with fail
      go_ret
      exact ⟨by rw [HR.out]; rfl, rfl⟩

theorem rdig_c (n : Int) (w : World) (h0 : 0 ≤ n) (h1 : n ≤ 255) :
    Calls Tryz.prog 141 #[.int .u8 n] w fun e w' => e = .returned (.int .i64 (hexI n)) ∧ w = w' := by
  have hd := rdigit_c n w h0 h1
  by_cases c1 : 48 ≤ n ∧ n ≤ 57
  · have e : Hid (hexI n = n - 48) := by show _ = _; unfold hexI; rw [if_pos c1]
    rw [show digitI n = true from decide_eq_true c1] at hd
    obtain ⟨c2, c3⟩ := c1
    go_enter Tryz.func141, Tryz.ntmps141
    go_wp2_with (go_at_call 67; refine hd.mono ?_; rintro e' w' ⟨rfl, rfl⟩)
    go_ret
    exact ⟨by rw [e.out]; rfl, rfl⟩
  · rw [show digitI n = false from decide_eq_false c1] at hd
    by_cases c2 : 97 ≤ n ∧ n ≤ 102
    · have e : Hid (hexI n = n - 97 + 10) := by show _ = _; unfold hexI; rw [if_neg c1, if_pos c2]; omega
      obtain ⟨c3, c4⟩ := c2
      clear c1
      go_enter Tryz.func141, Tryz.ntmps141
      go_wp2_with (go_at_call 67; refine hd.mono ?_; rintro e' w' ⟨rfl, rfl⟩)
      go_ret
      exact ⟨by rw [e.out]; rfl, rfl⟩
    · by_cases c3 : 65 ≤ n ∧ n ≤ 70
      · have e : Hid (hexI n = n - 65 + 10) := by show _ = _; unfold hexI; rw [if_neg c1, if_neg c2, if_pos c3]; omega
        obtain ⟨c4, c5⟩ := c3
        have d1 : decide (97 ≤ n) = false := decide_eq_false (by omega)
        clear c1 c2
        go_enter Tryz.func141, Tryz.ntmps141
        go_wp2_with (go_at_call 67; refine hd.mono ?_; rintro e' w' ⟨rfl, rfl⟩)
        go_ret
        exact ⟨by rw [e.out]; rfl, rfl⟩
      · have HE : Hid (hexI n = -1) := by show _ = _; unfold hexI; rw [if_neg c1, if_neg c2, if_neg c3]
        rcases (by omega : n < 65 ∨ (70 < n ∧ n < 97) ∨ 102 < n) with c | ⟨c, c'⟩ | c
        · have d1 : decide (97 ≤ n) = false := decide_eq_false (by omega)
          have d2 : decide (65 ≤ n) = false := decide_eq_false (by omega)
          clear c1 c2 c3
          go_enter Tryz.func141, Tryz.ntmps141
          go_wp2_with (go_at_call 67; refine hd.mono ?_; rintro e w' ⟨rfl, rfl⟩)
          go_ret
          exact ⟨by rw [HE.out]; rfl, rfl⟩
        · have d1 : decide (97 ≤ n) = false := decide_eq_false (by omega)
          have d2 : (65 : Int) ≤ n := by omega
          have d3 : decide (n ≤ 70) = false := decide_eq_false (by omega)
          clear c1 c2 c3
          go_enter Tryz.func141, Tryz.ntmps141
          go_wp2_with (go_at_call 67; refine hd.mono ?_; rintro e w' ⟨rfl, rfl⟩)
          go_ret
          exact ⟨by rw [HE.out]; rfl, rfl⟩
        · have d1 : (97 : Int) ≤ n := by omega
          have d2 : (65 : Int) ≤ n := by omega
          have d3 : decide (n ≤ 70) = false := decide_eq_false (by omega)
          have d4 : decide (n ≤ 102) = false := decide_eq_false (by omega)
          clear c1 c2 c3
          go_enter Tryz.func141, Tryz.ntmps141
          go_wp2_with (go_at_call 67; refine hd.mono ?_; rintro e w' ⟨rfl, rfl⟩)
          go_ret
          exact ⟨by rw [HE.out]; rfl, rfl⟩

theorem rone_c (c : UInt8) (hc : 0 ≤ hx c) (w : World) :
    Calls Tryz.prog 129 #[.string (S [c])] w fun e w' => e = .returned (.tuple #[.int .i64 (hx c), .int .i64 0]) ∧ w = w' := by
  have hd := fun w => rdig_c (c.toNat : Int) w (by omega) (by have := c.toNat_lt; omega)
  have e : hexI (c.toNat : Int) = hx c := rfl
  rw [e] at hd
  have hr := hx_le c
  have h0 : (S [c]).toList.isEmpty = false := by rw [ByteArray.toList_eq, list_S]; rfl
  have h1 : (S [c]).size = 1 := rfl
  have h2 : (S [c])[0]'(by show (0 : Nat) < 1; omega) = c := rfl
  have hcn : (c.toNat : Int) ≤ 255 := by have := c.toNat_lt; omega
  generalize hx c = d at hd hc hr
  go_enter Tryz.func129, Tryz.ntmps129
  go_wp2_with fail
  go_loop [4, 5] (fun n i => (n = .int .i64 0 ∧ i = .int .i64 0) ∨ (n = .int .i64 d ∧ i = .int .i64 1)) (fun _ i => 1 - (intOf i).toNat)
  case atStart => exact .inl ⟨rfl, rfl⟩
  case round =>
    rcases hrel with ⟨rfl, rfl⟩ | ⟨rfl, rfl⟩
    · go_wp2_with (go_at_call 141; refine (hd _).mono ?_; rintro e w' ⟨rfl, rfl⟩)
      go_round
      case rel => exact .inr ⟨by simp, by go_num⟩
      case measure => simp [intOf]
    · go_wp2_with fail
      go_ret2
      exact ⟨rfl, rfl⟩
end Go.Proofs.YtklpbkjplecdpaaGreat.Crf
