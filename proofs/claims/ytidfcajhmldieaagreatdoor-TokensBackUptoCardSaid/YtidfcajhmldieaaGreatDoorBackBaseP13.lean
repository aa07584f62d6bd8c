/-
  Part 13: CrfRead, UtfRefPure, UtfRef, CrfOne, UtfRefDec, PgChars.
-/
import Derived.Test.YtidfcajhmldieaaGreatDoorBackBaseP12
import Derived.Test.YtidfcajhmldieaaGreatDoorBackBaseP2
import Derived.Test.YtidfcajhmldieaaGreatDoorBackBaseP8
import Derived.RangeFuncBox
import Derived.Deep.QuietTactic
import Derived.BigQuiet
import Derived.Laws.BitsLemmas
import Derived.Maps.AppendAt
/-
  Contracts of read, One and Unfinished of package refs.
-/
namespace Go.Proofs.YtidfcajhmldieaaGreatDoor.Crf
open Go.RowKit Go.Proofs.YtidfcajhmldieaaGreatDoor.Oct Go.Proofs.YtidfcajhmldieaaGreatDoor.Num Go.Proofs.YtidfcajhmldieaaGreatDoor.Utf
open Go.Lib (encodeRune)

theorem amp_head (l : List UInt8) : Lib.hasPrefix l [38] = decide (l.head? = some 38) := by
  cases l with
  | nil => rfl
  | cons a l =>
    by_cases h : a = 38
    · subst h; rfl
    · simp [Lib.hasPrefix, List.isPrefixOf, h, Ne.symm h]
theorem amp_trim (l : List UInt8) : Lib.trimPrefix l [38] = if l.head? = some 38 then l.tail else l := by
  unfold Lib.trimPrefix
  rw [amp_head]
  by_cases h : l.head? = some 38
  · simp [h]
  · simp [h]
theorem cutAmp_c (l : List UInt8) (w : World) : Calls Tryz.prog 54 #[.string (S l), .string ⟨#[38]⟩] w fun e w' => e = .returned (.tuple #[.string (S (if l.head? = some 38 then l.tail else l)), .bool (decide (l.head? = some 38))]) ∧ w' = w := by
  have := Tryz.strings_CutPrefix (S l) (S [38]) w
  rw [list_S, list_S, amp_head, amp_trim] at this
  exact this

/-- What read makes of what stands behind the & (r: at most ten octets). -/
def oneR (r : List UInt8) : List UInt8 × Nat := if 59 ∈ r ∧ refR (innerOf r) ≠ [] then (refR (innerOf r), (innerOf r).length + 2) else ([], 0)
theorem one_amp {l : List UInt8} (h : l.head? = some 38) : oneL l = oneR (l.tail.take 10) := by
  cases l with
  | nil => cases h
  | cons a t =>
    rw [List.head?_cons] at h
    injection h with h
    subst h
    rfl

set_option maxHeartbeats 4000000 in
set_option maxRecDepth 100000 in
/-- What stands behind the cut at the &: whatever begins. -/
theorem read_c (l : List UInt8) (hl : l.length ≤ 4611686018427387904) (w : World) :
    Calls Tryz.prog 42 #[.string (S l)] w fun e w' => e = .returned (.tuple #[.string (S (oneL l).1), .int .i64 ((oneL l).2 : Int)]) ∧ Below w.heap.size w w' := by
  obtain ⟨m, hm⟩ : ∃ m, m = min l.length 11 := ⟨_, rfl⟩
  have hcutS : (S l).extract 0 m = S (l.take m) := by rw [cutTo, list_S]
  have hmin : min ((S l).size : Int) 11 = (m : Int) := by rw [size_S, hm]; omega
  have hm0 : (0 : Int) ≤ (m : Int) := by omega
  have hm1 : (m : Int) ≤ ((S l).size : Int) := by rw [size_S]; omega
  have hcp := fun w => cutAmp_c (l.take m) w
  have hhd : (l.take m).head? = l.head? := by
    cases l with
    | nil => rw [List.take_nil]
    | cons a t =>
      have : m = (m - 1) + 1 := by rw [List.length_cons] at hm; omega
      rw [this, List.take_succ_cons]
      rfl
  rw [hhd] at hcp
  obtain ⟨r, hr⟩ : ∃ r, r = (if l.head? = some 38 then (l.take m).tail else l.take m) := ⟨_, rfl⟩
  rw [← hr] at hcp
  have hrl : r.length ≤ 11 := by
    rw [hr]
    split
    · rw [List.length_tail, List.length_take]; omega
    · rw [List.length_take]; omega
  have hO : Hid (l.head? = some 38 → oneL l = oneR r) := fun h => by
    have e : r = l.tail.take 10 := by
      rw [hr, if_pos h]
      cases l with
      | nil => cases h
      | cons a t =>
        rw [hm, List.length_cons, List.tail_cons]
        by_cases ht : t.length ≤ 10
        · rw [List.take_of_length_le (by rw [List.length_cons]; omega), List.take_of_length_le ht]; rfl
        · rw [show min (t.length + 1) 11 = 10 + 1 by omega, List.take_succ_cons]; rfl
    rw [one_amp h, e]
  have hO0 : Hid (l.head? ≠ some 38 → oneL l = ([], 0)) := one_none_head
  have HS := Lib.hid (fun i (h : i.length ≤ 11) w => stands_c i (by omega) w)
  have key : ∀ (i : List UInt8) (hi : i.length ≤ 11), Hid (∀ w, Calls Tryz.prog 60 #[.string (S i)] w fun e w' => e = .returned (.string (S (refR i))) ∧ Below w.heap.size w w') := fun i hi w => HS.out i hi w
  clear hhd hm hr
  generalize hL : S l = L at hcutS hmin hm1
  have HL := Lib.hid hL
  have hcutL := hcutS
  generalize l.take m = lm at hcutL hcutS hcp
  generalize S lm = LM at hcutL hcutS hcp
  clear hL hcutS
  -- is there an end
  by_cases h59 : 59 ∈ r
  · have hct := fun w => cut_yes r h59 (by omega) w
    have hil := inner_len r h59
    have hin := (key (innerOf r) (by omega)).out
    have hisz : ((S (innerOf r)).size : Int) = ((innerOf r).length : Int) := by rw [size_S]
    have hlen : ((innerOf r).length : Int) ≤ 11 := by omega
    have H59 := Lib.hid h59
    generalize S (r.drop ((innerOf r).length + 1)) = R2 at hct
    generalize hI : S (innerOf r) = I at hct hin hisz
    generalize hR : S r = R at hcp hct
    by_cases hok : l.head? = some 38
    · have hO1 : Hid (oneL l = oneR r) := hO.out hok
      rw [decide_eq_true hok] at hcp
      by_cases hst : refR (innerOf r) = []
      · have HE : Hid (oneL l = ([], 0)) := by
          show _ = _
          rw [hO1.out]; unfold oneR; rw [if_neg (fun h => h.2 hst)]
        rw [hst] at hin
        clear h59 hil hI hR hok hst hlen
        generalize (innerOf r).length = il at hisz
        go_enter Tryz.func42, Tryz.ntmps42
        go_wp2_with fail
        refine (hcp _).mono ?_
        rintro e w1 ⟨rfl, rfl⟩
        go_wp2_with fail
        refine (hct _).mono ?_
        rintro e w2 ⟨rfl, hb2⟩
        go_wp2_with fail
        refine (hin _).mono ?_
        rintro e w3 ⟨rfl, hb3⟩
        go_wp2_with fail
        go_ret2
        exact ⟨by rw [HE.out]; rfl, hb2.trans (hb3.mono hb2.size)⟩
      · have HE : Hid (oneL l = (refR (innerOf r), (innerOf r).length + 2)) := by
          show _ = _
          rw [hO1.out]; unfold oneR; rw [if_pos ⟨h59, hst⟩]
        have hne : (S (refR (innerOf r))).toList.isEmpty = false := by
          rw [ByteArray.toList_eq, list_S, List.isEmpty_eq_false_iff]; exact hst
        generalize hst2 : S (refR (innerOf r)) = ST at hin hne
        have HST := Lib.hid hst2
        clear h59 hil hI hR hok hst hst2
        generalize hilq : (innerOf r).length = il at hisz hlen
        have HIL := Lib.hid hilq
        clear hilq
        go_enter Tryz.func42, Tryz.ntmps42
        go_wp2_with fail
        refine (hcp _).mono ?_
        rintro e w1 ⟨rfl, rfl⟩
        go_wp2_with fail
        refine (hct _).mono ?_
        rintro e w2 ⟨rfl, hb2⟩
        go_wp2_with fail
        refine (hin _).mono ?_
        rintro e w3 ⟨rfl, hb3⟩
        go_wp2_with fail
        go_ret2
        refine ⟨?_, hb2.trans (hb3.mono hb2.size)⟩
        rw [HE.out, ← HST.out, HIL.out]
        exact congrArg (fun z => Ending.returned (.tuple #[.string (S (refR (innerOf r))), .int .i64 z])) (by omega : (1 : Int) + (il : Int) + 1 = ((il + 2 : Nat) : Int))
    · have HE : Hid (oneL l = ([], 0)) := hO0.out hok
      rw [decide_eq_false hok] at hcp
      generalize S (refR (innerOf r)) = ST at hin
      clear h59 hil hI hR hok hlen
      generalize (innerOf r).length = il at hisz
      go_enter Tryz.func42, Tryz.ntmps42
      go_wp2_with fail
      refine (hcp _).mono ?_
      rintro e w1 ⟨rfl, rfl⟩
      go_wp2_with fail
      refine (hct _).mono ?_
      rintro e w2 ⟨rfl, hb2⟩
      go_wp2_with fail
      refine (hin _).mono ?_
      rintro e w3 ⟨rfl, hb3⟩
      go_wp2_with fail
      go_ret2
      exact ⟨by rw [HE.out]; rfl, hb2.trans (hb3.mono hb2.size)⟩
  · have hct := fun w => cut_no r h59 w
    have hin := (key r hrl).out
    have HE : Hid (oneL l = ([], 0)) := by
      show _ = _
      by_cases hok : l.head? = some 38
      · rw [hO.out hok]; unfold oneR; rw [if_neg (fun h => h59 h.1)]
      · exact hO0.out hok
    generalize S (refR r) = ST at hin
    generalize S r = R at hcp hct hin
    clear h59
    cases hok : decide (l.head? = some 38) with
    | true =>
      rw [hok] at hcp
      clear hok
      go_enter Tryz.func42, Tryz.ntmps42
      go_wp2_with fail
      refine (hcp _).mono ?_
      rintro e w1 ⟨rfl, rfl⟩
      go_wp2_with fail
      refine (hct _).mono ?_
      rintro e w2 ⟨rfl, hb2⟩
      go_wp2_with fail
      refine (hin _).mono ?_
      rintro e w3 ⟨rfl, hb3⟩
      go_wp2_with fail
      go_ret2
      exact ⟨by rw [HE.out]; rfl, hb2.trans (hb3.mono hb2.size)⟩
    | false =>
      rw [hok] at hcp
      clear hok
      go_enter Tryz.func42, Tryz.ntmps42
      go_wp2_with fail
      refine (hcp _).mono ?_
      rintro e w1 ⟨rfl, rfl⟩
      go_wp2_with fail
      refine (hct _).mono ?_
      rintro e w2 ⟨rfl, hb2⟩
      go_wp2_with fail
      refine (hin _).mono ?_
      rintro e w3 ⟨rfl, hb3⟩
      go_wp2_with fail
      go_ret2
      exact ⟨by rw [HE.out]; rfl, hb2.trans (hb3.mono hb2.size)⟩

theorem stand_len (n : Nat) : (standL n).length ≤ 4 := by
  unfold standL
  split
  · exact (enc_len (n : Int)).2
  · simp
theorem ref_len (l : List UInt8) : (refR l).length ≤ 4 := by
  unfold refR
  split
  · rename_i h
    rcases name_cases h with rfl | rfl | rfl | rfl | rfl <;> decide
  · cases numR l with
    | none => simp
    | some q =>
      obtain ⟨n, d⟩ := q
      simp only
      split
      · simp
      · exact stand_len n
theorem one_slen (l : List UInt8) : (oneL l).1.length ≤ 4 := by
  by_cases h : (oneL l).2 = 0
  · rw [one_zero h]; simp
  · obtain ⟨i, t, _, _, e⟩ := one_some h
    rw [e]
    exact ref_len i

end Go.Proofs.YtidfcajhmldieaaGreatDoor.Crf

/-
  Plain facts on how the page reads a character: how many octets the first one says, what they count, and that this is what a text begins with.
-/
namespace Go.Proofs.YtidfcajhmldieaaGreatDoor.Utf
open Go.Lib (encodeRune)

/-- How many octets a first one says; 0: none. -/
def sizeN (b : Nat) : Nat := if b < 128 then 1 else if 194 ≤ b ∧ b < 224 then 2 else if 224 ≤ b ∧ b < 240 then 3 else if 240 ≤ b ∧ b < 245 then 4 else 0
theorem sizeN_le (b : Nat) : sizeN b ≤ 4 := by
  unfold sizeN
  repeat' split
  all_goals omega
/-- What of the first octet counts. -/
def partN (n : Nat) : Nat := if n = 1 then 128 else if n = 2 then 32 else if n = 3 then 16 else 8
/-- What the first k + 1 octets count. -/
def runV (l : List UInt8) (m : Nat) : Nat → Int
  | 0 => ((oct l 0 % m : Nat) : Int)
  | k + 1 => runV l m k * 64 + (oct l (k + 1) : Int) - 128

theorem oct_app (a t : List UInt8) (k : Nat) (h : k < a.length) : oct (a ++ t) k = oct a k := by
  unfold oct
  rw [List.getD_eq_getElem?_getD, List.getD_eq_getElem?_getD, List.getElem?_append_left h]

theorem enc_facts (n : Nat) (h : isChar n) :
    sizeN (oct (encodeRune n) 0) = (encodeRune n).length ∧ runV (encodeRune n) (partN (encodeRune n).length) ((encodeRune n).length - 1) = (n : Int) ∧
    ∀ k, 1 ≤ k → k < (encodeRune n).length → 128 ≤ oct (encodeRune n) k ∧ oct (encodeRune n) k ≤ 191 := by
  rw [enc_eq n h]
  unfold isChar at h
  unfold encN
  by_cases h1 : n < 128
  · rw [if_pos h1]
    refine ⟨?_, ?_, ?_⟩
    · simp only [oct, List.map_cons, List.map_nil, List.getD_cons_zero, List.length_cons, List.length_nil]
      rw [u8 n (by omega)]; unfold sizeN; rw [if_pos h1]
    · show (((n.toUInt8.toNat) % 128 : Nat) : Int) = (n : Int)
      rw [u8 n (by omega)]; omega
    · intro k hk1 hk2; simp at hk2; omega
  · rw [if_neg h1]
    by_cases h2 : n < 2048
    · rw [if_pos h2]
      have e0 := u8 (192 + n / 64) (by omega)
      have e1 := u8 (128 + n % 64) (by omega)
      refine ⟨?_, ?_, ?_⟩
      · simp only [oct, List.map_cons, List.map_nil, List.getD_cons_zero, List.length_cons, List.length_nil, e0]
        unfold sizeN; rw [if_neg (by omega), if_pos (by omega)]
      · simp only [oct, runV, partN, List.map_cons, List.map_nil, List.getD_cons_zero, List.getD_cons_succ, List.length_cons, List.length_nil, e0, e1]
        simp; omega
      · intro k hk1 hk2
        match k, hk1, hk2 with
        | 1, _, _ => simp only [oct, List.map_cons, List.map_nil, List.getD_cons_zero, List.getD_cons_succ, e1]; omega
        | k + 2, _, hk2 => simp at hk2; omega
    · rw [if_neg h2]
      by_cases h3 : n < 65536
      · rw [if_pos h3]
        have e0 := u8 (224 + n / 4096) (by omega)
        have e1 := u8 (128 + n / 64 % 64) (by omega)
        have e2 := u8 (128 + n % 64) (by omega)
        refine ⟨?_, ?_, ?_⟩
        · simp only [oct, List.map_cons, List.map_nil, List.getD_cons_zero, List.length_cons, List.length_nil, e0]
          unfold sizeN; rw [if_neg (by omega), if_neg (by omega), if_pos (by omega)]
        · simp only [oct, runV, partN, List.map_cons, List.map_nil, List.getD_cons_zero, List.getD_cons_succ, List.length_cons, List.length_nil, e0, e1, e2]
          simp; omega
        · intro k hk1 hk2
          match k, hk1, hk2 with
          | 1, _, _ => simp only [oct, List.map_cons, List.map_nil, List.getD_cons_zero, List.getD_cons_succ, e1]; omega
          | 2, _, _ => simp only [oct, List.map_cons, List.map_nil, List.getD_cons_zero, List.getD_cons_succ, e2]; omega
          | k + 3, _, hk2 => simp at hk2; omega
      · rw [if_neg h3]
        have e0 := u8 (240 + n / 262144) (by omega)
        have e1 := u8 (128 + n / 4096 % 64) (by omega)
        have e2 := u8 (128 + n / 64 % 64) (by omega)
        have e3 := u8 (128 + n % 64) (by omega)
        refine ⟨?_, ?_, ?_⟩
        · simp only [oct, List.map_cons, List.map_nil, List.getD_cons_zero, List.length_cons, List.length_nil, e0]
          unfold sizeN; rw [if_neg (by omega), if_neg (by omega), if_neg (by omega), if_pos (by omega)]
        · simp only [oct, runV, partN, List.map_cons, List.map_nil, List.getD_cons_zero, List.getD_cons_succ, List.length_cons, List.length_nil, e0, e1, e2, e3]
          simp; omega
        · intro k hk1 hk2
          match k, hk1, hk2 with
          | 1, _, _ => simp only [oct, List.map_cons, List.map_nil, List.getD_cons_zero, List.getD_cons_succ, e1]; omega
          | 2, _, _ => simp only [oct, List.map_cons, List.map_nil, List.getD_cons_zero, List.getD_cons_succ, e2]; omega
          | 3, _, _ => simp only [oct, List.map_cons, List.map_nil, List.getD_cons_zero, List.getD_cons_succ, e3]; omega
          | k + 4, _, hk2 => simp at hk2; omega

theorem runV_app (a t : List UInt8) (m k : Nat) (h : k < a.length) : runV (a ++ t) m k = runV a m k := by
  induction k with
  | zero => unfold runV; rw [oct_app a t 0 h]
  | succ k ih => unfold runV; rw [ih (by omega), oct_app a t (k + 1) h]

theorem dec_none (l : List UInt8) (hl : l ≠ []) (h : ∀ c t, isChar c → l = encodeRune c ++ t → False) : dec l = (-1, 1) := by
  rcases dec_cases l hl with h' | ⟨c, t, hc, e⟩
  · exact h'
  · exact (h c t hc e).elim

theorem enc_app (c : Int) (h : isChar c) (t : List UInt8) :
    sizeN (oct (encodeRune c ++ t) 0) = (encodeRune c).length ∧ runV (encodeRune c ++ t) (partN (encodeRune c).length) ((encodeRune c).length - 1) = c ∧
    ∀ k, 1 ≤ k → k < (encodeRune c).length → 128 ≤ oct (encodeRune c ++ t) k ∧ oct (encodeRune c ++ t) k ≤ 191 := by
  have hl := enc_len c
  obtain ⟨n, rfl, hn⟩ := isChar_nat h
  obtain ⟨h1, h2, h3⟩ := enc_facts n hn
  refine ⟨by rw [oct_app _ _ _ (by omega)]; exact h1, by rw [runV_app _ _ _ _ (by omega)]; exact h2, fun k hk1 hk2 => by rw [oct_app _ _ _ hk2]; exact h3 k hk1 hk2⟩

theorem dec_short (l : List UInt8) (hl : l ≠ []) (h : sizeN (oct l 0) = 0 ∨ l.length < sizeN (oct l 0)) : dec l = (-1, 1) :=
  dec_none l hl (fun c t hc e => by
    subst e
    have h1 := (enc_app c hc t).1
    have hl := enc_len c
    rw [h1, List.length_append] at h
    omega)
theorem dec_broken (l : List UInt8) (hl : l ≠ []) (k : Nat) (h1 : 1 ≤ k) (h2 : k < sizeN (oct l 0)) (h : oct l k < 128 ∨ 191 < oct l k) : dec l = (-1, 1) :=
  dec_none l hl (fun c t hc e => by
    subst e
    have h3 := enc_app c hc t
    rw [h3.1] at h2
    have := h3.2.2 k h1 h2
    omega)
theorem dec_yes (l : List UInt8) (v : Int) (hc : isChar v) (h : l.take (sizeN (oct l 0)) = encodeRune v) : dec l = (v, sizeN (oct l 0)) := by
  have e : l = encodeRune v ++ l.drop (sizeN (oct l 0)) := by rw [← h, List.take_append_drop]
  have h1 := (enc_app v hc (l.drop (sizeN (oct l 0)))).1
  rw [← e] at h1
  rw [h1, e, dec_enc v hc]
theorem dec_no (l : List UInt8) (hl : l ≠ []) (h : ¬ (isChar (runV l (partN (sizeN (oct l 0))) (sizeN (oct l 0) - 1)) ∧ l.take (sizeN (oct l 0)) = encodeRune (runV l (partN (sizeN (oct l 0))) (sizeN (oct l 0) - 1)))) : dec l = (-1, 1) :=
  dec_none l hl (fun c t hc e => by
    subst e
    have h3 := enc_app c hc t
    rw [h3.1, h3.2.1] at h
    exact h ⟨hc, by simp⟩)

theorem runV_bound (l : List UInt8) (m : Nat) (hm : 0 < m) (hm' : m ≤ 128) (k : Nat) (hk : k ≤ 3) (h : ∀ j, 1 ≤ j → j ≤ k → 128 ≤ oct l j ∧ oct l j ≤ 191) : 0 ≤ runV l m k ∧ runV l m k ≤ 33554431 := by
  have h0 : oct l 0 % m < m := Nat.mod_lt _ hm
  match k, hk with
  | 0, _ => unfold runV; omega
  | 1, _ => have h1 := h 1 (by omega) (by omega); simp only [runV, Nat.zero_add]; omega
  | 2, _ => have h1 := h 1 (by omega) (by omega); have h2 := h 2 (by omega) (by omega); simp only [runV, Nat.zero_add, Nat.reduceAdd]; omega
  | 3, _ => have h1 := h 1 (by omega) (by omega); have h2 := h 2 (by omega) (by omega); have h3 := h 3 (by omega) (by omega); simp only [runV, Nat.zero_add, Nat.reduceAdd]; omega
end Go.Proofs.YtidfcajhmldieaaGreatDoor.Utf

/-
  Contracts of the page's answers on characters: Encode, size, Decode.
-/
namespace Go.Proofs.YtidfcajhmldieaaGreatDoor.Utf
open Go.RowKit Go.Proofs.YtidfcajhmldieaaGreatDoor.Oct Go.Proofs.YtidfcajhmldieaaGreatDoor.Mem
open Go.Lib (encodeRune encodeRuneZ)

/-- 'string([]byte{..})' of numbers of one octet. -/
theorem conv_new (w : World) (xs : List Int) (hx : ∀ x ∈ xs, 0 ≤ x ∧ x < 256) :
    (convert 49 9 (.slice (some ⟨w.heap.size, 0, none⟩) xs.length xs.length)).run Tryz.prog (w.alloc (.cells (xs.map (Value.int .u8)).toArray 5)) =
      .ok (.string (S (xs.map fun x => x.toNat.toUInt8))) (w.alloc (.cells (xs.map (Value.int .u8)).toArray 5)) := by
  have h := run_convert_bytes_back (P := Tryz.prog) (w.alloc (.cells (xs.map (Value.int .u8)).toArray 5)) 49 9 5 ⟨w.heap.size, 0, none⟩ xs.length (xs.map fun x => x.toNat.toUInt8) Tryz.underlying49 Tryz.underlying5 Tryz.underlying9 (fun j hj => by
    have hj' : j < xs.length := by simpa using hj
    have hb := hx xs[j] (List.getElem_mem _)
    rw [Addr.add_lit, Nat.zero_add]
    have e : (w.alloc (.cells (xs.map (Value.int .u8)).toArray 5)).cell? ⟨w.heap.size, j, none⟩ = some (Value.int .u8 xs[j]) := by
      unfold World.cell?
      rw [World.alloc_heap_new]
      simp [hj']
    rw [e]
    simp
    omega)
  simpa using h

/-- What the page's Encode answers. -/
def encS (c : Int) : ByteArray := if charB c then S (encodeRune c) else ⟨#[]⟩
def encE (c : Int) : Int := if charB c then 0 else 4
def sizeI (n : Int) : Int := if n < 128 then 1 else if 194 ≤ n ∧ n < 224 then 2 else if 224 ≤ n ∧ n < 240 then 3 else if 240 ≤ n ∧ n < 245 then 4 else 0
theorem sizeI_eq (n : Nat) : sizeI (n : Int) = (sizeN n : Nat) := by
  unfold sizeI sizeN
  repeat' split
  all_goals first | rfl | omega
end Go.Proofs.YtidfcajhmldieaaGreatDoor.Utf

/-
  Contract of the page's One.
-/
namespace Go.Proofs.YtidfcajhmldieaaGreatDoor.Crf
open Go.RowKit Go.Proofs.YtidfcajhmldieaaGreatDoor.Oct Go.Proofs.YtidfcajhmldieaaGreatDoor.Num Go.Proofs.YtidfcajhmldieaaGreatDoor.Utf
open Go.Lib (encodeRune)

theorem two_eq {a a' : ByteArray} {m m' : Int} (h1 : a = a') (h2 : m = m') : Ending.returned (.tuple #[.string a, .int .i64 m]) = .returned (.tuple #[.string a', .int .i64 m']) := by rw [h1, h2]

/-- The k-th name between its ends. -/
def wordP (k : Nat) : List UInt8 := 38 :: (wordL k ++ [59])
theorem wordP_len (k : Nat) : (wordP k).length = (wordL k).length + 2 := by simp [wordP]
theorem word_small (k : Nat) : (wordL k).length ≤ 4 := by
  unfold wordL
  split <;> decide
theorem pOne_name {l : List UInt8} {k : Nat} (hk : k < 5) (h : Lib.hasPrefix l (wordP k) = true) : oneL l = (wordS k, (wordP k).length) := by
  obtain ⟨t, ht⟩ := pre_cut h
  have hr : refR (wordL k) = wordS k := by
    have := name_word hk rfl
    unfold refR
    rw [if_pos (by rw [this]; exact wordS_ne k), this]
  have e : l = 38 :: (wordL k ++ 59 :: t) := by rw [ht]; simp [wordP]
  rw [e, one_of _ _ (by rw [hr]; exact wordS_ne k), hr, wordP_len]
theorem pOne_none {l : List UInt8} (h : ∀ k, k < 5 → Lib.hasPrefix l (wordP k) = false) (hn : Lib.hasPrefix l [38, 35] = false) : oneL l = ([], 0) := by
  have h0 : Lib.hasPrefix l [38, 97, 109, 112, 59] = false := h 0 (by omega)
  have h1 : Lib.hasPrefix l [38, 108, 116, 59] = false := h 1 (by omega)
  have h2 : Lib.hasPrefix l [38, 103, 116, 59] = false := h 2 (by omega)
  have h3 : Lib.hasPrefix l [38, 113, 117, 111, 116, 59] = false := h 3 (by omega)
  have h4 : Lib.hasPrefix l [38, 97, 112, 111, 115, 59] = false := h 4 (by omega)
  rw [← pOne_eq]
  unfold pOne
  rw [h0, h1, h2, h3, h4, hn]
  rfl
theorem pOne_num (u : List UInt8) : oneL (38 :: 35 :: u) = pNum u := by
  rw [← pOne_eq]
  simp [pOne, Lib.hasPrefix, List.isPrefixOf]
theorem num_names (u : List UInt8) (k : Nat) : Lib.hasPrefix (38 :: 35 :: u) (wordP k) = false := by
  unfold wordP wordL
  split <;> simp [Lib.hasPrefix, List.isPrefixOf]
theorem pNum_bad {u : List UInt8} (h : ¬ (1 ≤ runN (baseOf u) (digsOf u) ∧ runN (baseOf u) (digsOf u) ≤ 7 ∧ (digsOf u)[runN (baseOf u) (digsOf u)]? = some 59)) : pNum u = ([], 0) := by
  unfold pNum
  rw [if_neg h]
theorem pNum_good {u : List UInt8} (h : 1 ≤ runN (baseOf u) (digsOf u) ∧ runN (baseOf u) (digsOf u) ≤ 7 ∧ (digsOf u)[runN (baseOf u) (digsOf u)]? = some 59) :
    pNum u = (standL (valB (baseOf u) ((digsOf u).take (runN (baseOf u) (digsOf u)))), 2 + (if isHex u then 1 else 0) + runN (baseOf u) (digsOf u) + 1) := by
  unfold pNum
  rw [if_pos h]

/-- The block of the five names. -/
abbrev fiveW (w : World) : World := w.alloc (.cells #[.string ⟨#[38, 97, 109, 112, 59]⟩, .string ⟨#[38, 108, 116, 59]⟩, .string ⟨#[38, 103, 116, 59]⟩, .string ⟨#[38, 113, 117, 111, 116, 59]⟩, .string ⟨#[38, 97, 112, 111, 115, 59]⟩] 9)
theorem five_cell (w : World) (k : Nat) (h : k < 5) : (fiveW w).cell? ⟨w.heap.size, k, none⟩ = some (.string (S (wordP k))) := by
  have e := heap_alloc_new w (.cells #[.string ⟨#[38, 97, 109, 112, 59]⟩, .string ⟨#[38, 108, 116, 59]⟩, .string ⟨#[38, 103, 116, 59]⟩, .string ⟨#[38, 113, 117, 111, 116, 59]⟩, .string ⟨#[38, 97, 112, 111, 115, 59]⟩] 9)
  match k, h with
  | 0, _ => exact cell_of_row _ w.heap.size 0 _ _ _ e
  | 1, _ => exact cell_of_row _ w.heap.size 1 _ _ _ e
  | 2, _ => exact cell_of_row _ w.heap.size 2 _ _ _ e
  | 3, _ => exact cell_of_row _ w.heap.size 3 _ _ _ e
  | 4, _ => exact cell_of_row _ w.heap.size 4 _ _ _ e
theorem five_cut (k : Nat) (h : k < 5) : (⟨#[38, 60, 62, 34, 39]⟩ : ByteArray).extract k (k + 1) = S (wordS k) := by
  have : ∀ k : Fin 5, (⟨#[38, 60, 62, 34, 39]⟩ : ByteArray).extract k.val (k.val + 1) = S (wordS k.val) := by decide +kernel
  exact this ⟨k, h⟩

end Go.Proofs.YtidfcajhmldieaaGreatDoor.Crf

/-
  Contract of the page's Decode.
-/
namespace Go.Proofs.YtidfcajhmldieaaGreatDoor.Utf
open Go.RowKit Go.Proofs.YtidfcajhmldieaaGreatDoor.Oct Go.Proofs.YtidfcajhmldieaaGreatDoor.Mem
open Go.Lib (encodeRune encodeRuneZ)

theorem oct_at (s : ByteArray) (k : Nat) (h : k < s.size) : oct s.data.toList k = s[k].toNat := by
  unfold oct
  rw [at_eq s k h]; rfl

def maskI (n : Nat) : Int := if n = 1 then 127 else if n = 2 then 31 else if n = 3 then 15 else 7
theorem mask_all : ∀ (n : Fin 4) (b : Fin 256), bits .and .i64 ((b.val : Nat) : Int) (maskI (n.val + 1)) = ((b.val % partN (n.val + 1) : Nat) : Int) := by decide +kernel
theorem mask_eq (n b : Nat) (h1 : 1 ≤ n) (h4 : n ≤ 4) (hb : b < 256) : bits .and .i64 (b : Int) (maskI n) = ((b % partN n : Nat) : Int) := by
  have := mask_all ⟨n - 1, by omega⟩ ⟨b, hb⟩
  simp only at this
  rwa [show n - 1 + 1 = n by omega] at this

theorem cut_take (s : ByteArray) (n : Nat) : (s.extract 0 n).data.toList = s.data.toList.take n := by
  rw [Lib.extract_data, List.drop_zero, Nat.sub_zero]

theorem text_ne (s : ByteArray) (hs : 0 < s.size) : s.toList.isEmpty = false ∧ s.toList ≠ [] := by
  have hne : s.toList.isEmpty = false := by
    rw [Lib.toList_data]
    cases h : s.data.toList with
    | nil => have := size_list s; rw [h] at this; simp at this; omega
    | cons _ _ => rfl
  exact ⟨hne, by intro e; rw [e] at hne; simp at hne⟩

theorem mask_cell (w : World) (n : Nat) (h1 : 1 ≤ n) (h4 : n ≤ 4) : (w.alloc (.cells #[.int .i64 0, .int .i64 127, .int .i64 31, .int .i64 15, .int .i64 7] 3)).cell? ⟨w.heap.size, n, none⟩ = some (.int .i64 (maskI n)) := by
  unfold World.cell?
  rw [World.alloc_heap_new]
  match n, h1, h4 with
  | 1, _, _ => rfl
  | 2, _, _ => rfl
  | 3, _, _ => rfl
  | 4, _, _ => rfl

theorem partN_b (n : Nat) : 0 < partN n ∧ partN n ≤ 128 := by
  unfold partN
  repeat' split
  all_goals omega
theorem below_drewN {B : Nat} {a w : World} (h : Below B a w) : ∀ q, Below B a (w.drewN q)
  | 0 => h
  | q + 1 => (below_drewN h q).drew

end Go.Proofs.YtidfcajhmldieaaGreatDoor.Utf

/-
  Contract of the page's Chars: the characters of a text, as they are repaired, in a list of its own.
-/
namespace Go.Proofs.YtidfcajhmldieaaGreatDoor.Utf
open Go.RowKit Go.Proofs.YtidfcajhmldieaaGreatDoor.Oct Go.Proofs.YtidfcajhmldieaaGreatDoor.Mem
open Go.Lib (encodeRune encodeRuneZ)

theorem chars_step (l : List UInt8) (hl : l ≠ []) : chars l = fix (dec l).1 :: chars (l.drop (dec l).2) := by
  unfold chars
  rw [parts_step l hl, List.map_cons]
theorem chars_nil : chars [] = [] := rfl
theorem drop_ne (s : ByteArray) (a : Nat) (h : a < s.size) : s.data.toList.drop a ≠ [] := by
  intro e; have := congrArg List.length e; rw [List.length_drop, size_list] at this; simp at this; omega
theorem drop_nil (s : ByteArray) (a : Nat) (h : s.size ≤ a) : s.data.toList.drop a = [] := List.drop_eq_nil_of_le (by rw [size_list]; exact h)

theorem fix_low {c : Int} (h : c = -1 ∨ isChar c) (hc : c ≤ 0) : fix c = 65533 := by
  unfold fix; rw [if_pos]; unfold isChar at h; omega
theorem fix_high {c : Int} (hc : 0 < c) : fix c = c := by
  unfold fix; rw [if_neg]; omega

end Go.Proofs.YtidfcajhmldieaaGreatDoor.Utf
