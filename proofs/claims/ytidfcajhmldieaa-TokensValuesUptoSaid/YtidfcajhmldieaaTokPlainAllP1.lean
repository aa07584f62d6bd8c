/-
  Part 1: OctPure, HexPure, NumPure, UtfPure, CrfPure, TabPure, TokPure.
-/
import Derived.WalkKit
import Derived.Lib.DecodeN
import Derived.Lib.RuneBytes
import Derived.Shelf.Unicode.DecodeSlow
/-
  Plain facts on octets and lists of octets, with no program: what a blank, a letter, a digit is; small and great letters; the first place of a property; digits of base 16.
-/
namespace Go.Proofs.Ytidfcajhmldieaa.Oct
open Go.RowKit

/-- A text of these octets. -/
abbrev S (l : List UInt8) : ByteArray := ⟨l.toArray⟩

theorem S_list (s : ByteArray) : S s.data.toList = s := by cases s; simp [S]
theorem list_S (l : List UInt8) : (S l).data.toList = l := by simp
theorem size_S (l : List UInt8) : (S l).size = l.length := by simp [ByteArray.size]
theorem S_append (a b : List UInt8) : S a ++ S b = S (a ++ b) := by simp [S, ByteArray.mk_append_mk]
theorem size_list (s : ByteArray) : s.data.toList.length = s.size := by rw [Array.length_toList]; rfl

def blankI (n : Int) : Bool := decide (n = 9 ∨ n = 10 ∨ n = 12 ∨ n = 13 ∨ n = 32)
def smallI (n : Int) : Bool := decide (97 ≤ n ∧ n ≤ 122)
def greatI (n : Int) : Bool := decide (65 ≤ n ∧ n ≤ 90)
def letterI (n : Int) : Bool := decide ((97 ≤ n ∧ n ≤ 122) ∨ (65 ≤ n ∧ n ≤ 90))
def digitI (n : Int) : Bool := decide (48 ≤ n ∧ n ≤ 57)
def nameI (n : Int) : Bool := decide ((97 ≤ n ∧ n ≤ 122) ∨ (65 ≤ n ∧ n ≤ 90) ∨ (48 ≤ n ∧ n ≤ 57) ∨ n = 95)
def lowI (n : Int) : Int := if 65 ≤ n ∧ n ≤ 90 then n + 32 else n
def upI (n : Int) : Int := if 97 ≤ n ∧ n ≤ 122 then n - 32 else n
/-- What a digit of base 16 counts; -1: none. -/
def hexI (n : Int) : Int := if 48 ≤ n ∧ n ≤ 57 then n - 48 else if 97 ≤ n ∧ n ≤ 102 then n - 87 else if 65 ≤ n ∧ n ≤ 70 then n - 55 else -1

theorem ret_bool {a b : Bool} (h : a = b) : Ending.returned (.bool a) = .returned (.bool b) := by rw [h]
theorem ret_int {k : IntKind} {a b : Int} (h : a = b) : Ending.returned (.int k a) = .returned (.int k b) := by rw [h]

theorem lowI_range {n : Int} (h0 : 0 ≤ n) (h1 : n ≤ 255) : 0 ≤ lowI n ∧ lowI n ≤ 255 := by unfold lowI; split <;> omega
theorem upI_range {n : Int} (h0 : 0 ≤ n) (h1 : n ≤ 255) : 0 ≤ upI n ∧ upI n ≤ 255 := by unfold upI; split <;> omega
theorem hexI_range (n : Int) : -1 ≤ hexI n ∧ hexI n ≤ 15 := by
  unfold hexI
  repeat' split
  all_goals omega

/-- A letter, small; great. -/
def low (c : UInt8) : UInt8 := if 65 ≤ c ∧ c ≤ 90 then c + 32 else c
def up (c : UInt8) : UInt8 := if 97 ≤ c ∧ c ≤ 122 then c - 32 else c

theorem low_all : ∀ k : Fin 256, (((low (UInt8.ofNat k.val)).toNat : Nat) : Int) = lowI ((UInt8.ofNat k.val).toNat : Int) := by decide +kernel
theorem up_all : ∀ k : Fin 256, (((up (UInt8.ofNat k.val)).toNat : Nat) : Int) = upI ((UInt8.ofNat k.val).toNat : Int) := by decide +kernel
theorem low_toNat (c : UInt8) : ((low c).toNat : Int) = lowI (c.toNat : Int) := by
  have := low_all ⟨c.toNat, c.toNat_lt⟩
  simpa using this
theorem up_toNat (c : UInt8) : ((up c).toNat : Int) = upI (c.toNat : Int) := by
  have := up_all ⟨c.toNat, c.toNat_lt⟩
  simpa using this

/-- The octet at a place of a text; 0 behind its end. -/
def at' (s : ByteArray) (k : Nat) : UInt8 := s.data.toList.getD k 0
theorem at_eq (s : ByteArray) (k : Nat) (h : k < s.size) : s[k] = at' s k := by
  have h' : k < s.data.toList.length := by rw [size_list]; exact h
  unfold at'
  rw [List.getD_eq_getElem?_getD, List.getElem?_eq_getElem h', Option.getD_some, Array.getElem_toList]
  rfl
theorem map_at (s : ByteArray) (f : UInt8 → UInt8) : (List.range s.size).map (fun k => f (at' s k)) = s.data.toList.map f := by
  apply List.ext_getElem
  · simp
  · intro i h1 h2
    have h : i < s.data.toList.length := by simpa using h2
    simp only [List.getElem_map, List.getElem_range]
    unfold at'
    rw [List.getD_eq_getElem?_getD, List.getElem?_eq_getElem h, Option.getD_some]

theorem all_at (s : ByteArray) (q : UInt8 → Bool) : (List.range s.size).all (fun k => q (at' s k)) = s.data.toList.all q := by
  have h := map_at s (fun c => if q c then 1 else 0)
  have e : ∀ l : List UInt8, (l.map (fun c => if q c then (1 : UInt8) else 0)).all (· == 1) = l.all q := by
    intro l
    induction l with
    | nil => rfl
    | cons c l ih =>
      simp only [List.map_cons, List.all_cons, ih]
      cases q c <;> simp
  rw [← e, ← h, List.all_map]
  congr 1
  funext k
  simp only [Function.comp]
  cases q (at' s k) <;> simp

theorem at_zero (s : ByteArray) : s.data.toList.getD 0 0 = at' s 0 := rfl

/-- A name, as the page says. -/
def nameB (l : List UInt8) : Bool := decide (1 ≤ l.length ∧ l.length ≤ 32) && !digitI ((l.getD 0 0).toNat : Int) && l.all (fun c => nameI (c.toNat : Int))
end Go.Proofs.Ytidfcajhmldieaa.Oct

/-
  Plain facts on digits of base 16, with no program.
-/
namespace Go.Proofs.Ytidfcajhmldieaa.Oct
open Go.RowKit

/-- A number of 64 bits, in two's complement. -/
def u64 (n : Int) : Nat := (n % 18446744073709551616).toNat
theorem u64_lt (n : Int) : u64 n < 18446744073709551616 := by unfold u64; omega
theorem u64_wrap (n : Int) : IntKind.u64.wrap n = ((u64 n : Nat) : Int) := by rw [IntKind.wrap_u64]; unfold u64; omega

def hexDig (d : Nat) : UInt8 := at' ⟨#[48, 49, 50, 51, 52, 53, 54, 55, 56, 57, 97, 98, 99, 100, 101, 102]⟩ d
/-- The lowest digits of u. -/
def hexL (u size : Nat) : List UInt8 := (List.range size).map fun k => hexDig (u / 2 ^ (4 * (size - 1 - k)) % 16)
/-- A size as the nearest of 0 to 16. -/
def clamp (size : Int) : Nat := (min (max size 0) 16).toNat
theorem clamp_le (size : Int) : clamp size ≤ 16 := by unfold clamp; omega
theorem clamp_eq (size : Int) : min (max size 0) 16 = ((clamp size : Nat) : Int) := by unfold clamp; omega

theorem hexL_length (u n : Nat) : (hexL u n).length = n := by simp [hexL]
theorem hexL_cons (u k : Nat) : hexL u (k + 1) = hexDig (u / 16 ^ k % 16) :: hexL u k := by
  unfold hexL
  rw [List.range_succ_eq_map, List.map_cons, List.map_map]
  congr 1
  · have e : 2 ^ (4 * (k + 1 - 1 - 0)) = 16 ^ k := by
      rw [show k + 1 - 1 - 0 = k by omega, Nat.pow_mul]
    rw [e]
  · apply List.map_congr_left
    intro j hj
    simp only [Function.comp]
    rw [show k + 1 - 1 - (j + 1) = k - 1 - j by omega]

theorem digit_cut (d : Nat) (h : d < 16) : (⟨#[48, 49, 50, 51, 52, 53, 54, 55, 56, 57, 97, 98, 99, 100, 101, 102]⟩ : ByteArray).extract d (d + 1) = S [hexDig d] := by
  have : ∀ d : Fin 16, (⟨#[48, 49, 50, 51, 52, 53, 54, 55, 56, 57, 97, 98, 99, 100, 101, 102]⟩ : ByteArray).extract d.val (d.val + 1) = S [hexDig d.val] := by decide +kernel
  exact this ⟨d, h⟩
end Go.Proofs.Ytidfcajhmldieaa.Oct

/-
  Plain facts on decimal digits, with no program: the digits of a number, a text as a number, there and back.
-/
namespace Go.Proofs.Ytidfcajhmldieaa.Num
open Go.Proofs.Ytidfcajhmldieaa.Oct

/-- The digits of u, the lowest first; none of 0. -/
def rest (u : Nat) : List Nat := if u = 0 then [] else (u % 10) :: rest (u / 10)
termination_by u
decreasing_by omega

/-- The digits of u, the lowest first; one of 0. -/
def lowL (u : Nat) : List Nat := (u % 10) :: rest (u / 10)
/-- A digit's octet. -/
def dig (d : Nat) : UInt8 := UInt8.ofNat (48 + d)
/-- The digits of u as a text. -/
def decL (u : Nat) : List UInt8 := (lowL u).reverse.map dig
/-- A number as a text. -/
def printL (n : Int) : List UInt8 := if n < 0 then 45 :: decL n.natAbs else decL n.natAbs

theorem rest_zero : rest 0 = [] := by rw [rest]; rfl
theorem rest_pos {u : Nat} (h : 0 < u) : rest u = (u % 10) :: rest (u / 10) := by rw [rest, if_neg (by omega)]
theorem rest_low {u : Nat} (h : 0 < u) : rest u = lowL u := rest_pos h
theorem rest_lt (u : Nat) : ∀ d ∈ rest u, d < 10 := by
  induction u using Nat.strongRecOn with
  | ind u ih =>
    intro d hd
    by_cases h : u = 0
    · rw [h, rest_zero] at hd; cases hd
    · rw [rest_pos (by omega)] at hd
      rcases List.mem_cons.1 hd with rfl | hd
      · omega
      · exact ih (u / 10) (by omega) d hd
theorem lowL_lt (u : Nat) : ∀ d ∈ lowL u, d < 10 := by
  intro d hd
  rcases List.mem_cons.1 hd with rfl | hd
  · omega
  · exact rest_lt _ d hd
theorem rest_len (k : Nat) : ∀ u, u < 10 ^ k → (rest u).length ≤ k := by
  induction k with
  | zero => intro u h; have : u = 0 := by simpa using h
            rw [this, rest_zero]; simp
  | succ k ih =>
    intro u h
    by_cases hz : u = 0
    · rw [hz, rest_zero]; simp
    · rw [rest_pos (by omega), List.length_cons]
      have := ih (u / 10) (by rw [Nat.pow_succ] at h; omega)
      omega
theorem lowL_len {u : Nat} (h : u < 10000000000000000000) : (lowL u).length ≤ 19 := by
  have := rest_len 18 (u / 10) (by omega)
  unfold lowL; rw [List.length_cons]; omega
theorem lowL_ne (u : Nat) : lowL u ≠ [] := by unfold lowL; simp

theorem decL_len (u : Nat) : (decL u).length = (lowL u).length := by simp [decL]
theorem decL_ne (u : Nat) : decL u ≠ [] := by
  intro h; have := decL_len u; rw [h] at this; exact lowL_ne u (List.eq_nil_of_length_eq_zero this.symm)
theorem decL_lt {u : Nat} (h : u < 10) : decL u = [dig u] := by
  have e : u / 10 = 0 := by omega
  have m : u % 10 = u := by omega
  simp [decL, lowL, e, m, rest_zero]
theorem decL_ge {u : Nat} (h : 10 ≤ u) : decL u = decL (u / 10) ++ [dig (u % 10)] := by
  unfold decL
  rw [show lowL u = (u % 10) :: lowL (u / 10) by unfold lowL; rw [rest_pos (u := u / 10) (by omega)]]
  simp
theorem decL_snoc {v d : Nat} (hv : 0 < v) (hd : d < 10) : decL (v * 10 + d) = decL v ++ [dig d] := by
  rw [decL_ge (by omega), show (v * 10 + d) / 10 = v by omega, show (v * 10 + d) % 10 = d by omega]

/-- What an octet counts as a digit. -/
def cnt (c : UInt8) : Nat := c.toNat - 48
def isDig (c : UInt8) : Bool := decide (48 ≤ c.toNat ∧ c.toNat ≤ 57)
def valD (l : List UInt8) : Nat := l.foldl (fun n c => n * 10 + cnt c) 0

theorem dig_toNat {d : Nat} (h : d < 10) : (dig d).toNat = 48 + d := by
  unfold dig; rw [UInt8.toNat_ofNat']; omega
theorem cnt_dig {d : Nat} (h : d < 10) : cnt (dig d) = d := by unfold cnt; rw [dig_toNat h]; omega
theorem isDig_dig {d : Nat} (h : d < 10) : isDig (dig d) = true := by unfold isDig; rw [dig_toNat h]; exact decide_eq_true (by omega)
theorem dig_cnt {c : UInt8} (h : isDig c = true) : dig (cnt c) = c := by
  have h' := of_decide_eq_true h
  apply UInt8.toNat_inj.1
  rw [dig_toNat (by unfold cnt; omega)]
  unfold cnt; omega
theorem cnt_lt {c : UInt8} (h : isDig c = true) : cnt c < 10 := by have h' := of_decide_eq_true h; unfold cnt; omega

theorem valD_snoc (l : List UInt8) (c : UInt8) : valD (l ++ [c]) = valD l * 10 + cnt c := by simp [valD]
theorem valD_lt (l : List UInt8) (h : ∀ c ∈ l, isDig c = true) : valD l < 10 ^ l.length := by
  have gen : ∀ (l : List UInt8) (a e : Nat), (∀ c ∈ l, isDig c = true) → a < 10 ^ e → l.foldl (fun n c => n * 10 + cnt c) a < 10 ^ (e + l.length) := by
    intro l
    induction l with
    | nil => intro a e _ h; simpa using h
    | cons c l ih =>
      intro a e hc h
      have h1 := cnt_lt (hc c (List.mem_cons_self ..))
      have := ih (a * 10 + cnt c) (e + 1) (fun d hd => hc d (List.mem_cons_of_mem _ hd)) (by rw [Nat.pow_succ]; omega)
      rw [List.foldl_cons, List.length_cons, show e + (l.length + 1) = e + 1 + l.length by omega]
      exact this
  have := gen l 0 0 h (by simp)
  simpa [valD] using this
theorem valD_take {l : List UInt8} (k : Nat) (h : ∀ c ∈ l, isDig c = true) (hk : k ≤ 18) : valD (l.take k) < 1000000000000000000 := by
  have h1 := valD_lt (l.take k) (fun c hc => h c (List.mem_of_mem_take hc))
  have h2 : 10 ^ (l.take k).length ≤ 10 ^ 18 := Nat.pow_le_pow_right (by omega) (by rw [List.length_take]; omega)
  omega
theorem valD_all {l : List UInt8} (h : ∀ c ∈ l, isDig c = true) (hl : l.length ≤ 19) : valD l < 10000000000000000000 := by
  have h1 := valD_lt l h
  have h2 : 10 ^ l.length ≤ 10 ^ 19 := Nat.pow_le_pow_right (by omega) hl
  omega

theorem decL_dig (u : Nat) : ∀ c ∈ decL u, isDig c = true := by
  intro c hc
  obtain ⟨d, hd, rfl⟩ := List.mem_map.1 hc
  exact isDig_dig (lowL_lt u d (List.mem_reverse.1 hd))
theorem valD_decL (u : Nat) : valD (decL u) = u := by
  induction u using Nat.strongRecOn with
  | ind u ih =>
    by_cases h : u < 10
    · rw [decL_lt h]; simp [valD, cnt_dig h]
    · rw [decL_ge (by omega), valD_snoc, ih _ (by omega), cnt_dig (by omega)]; omega
theorem decL_head (u : Nat) (h : 0 < u) : (decL u).head? ≠ some 48 := by
  induction u using Nat.strongRecOn with
  | ind u ih =>
    by_cases h1 : u < 10
    · rw [decL_lt h1, List.head?_cons]
      intro e
      have e1 := congrArg UInt8.toNat (Option.some.inj e)
      rw [dig_toNat h1] at e1
      have : (48 : UInt8).toNat = 48 := rfl
      omega
    · rw [decL_ge (by omega), List.head?_append]
      have := ih (u / 10) (by omega) (by omega)
      cases hh : (decL (u / 10)).head? with
      | none => exact absurd (List.head?_eq_none_iff.1 hh) (decL_ne _)
      | some c => rw [hh] at this; simpa using this

/-- A text of digits without a 0 ahead is that of its number. -/
theorem decL_valD (n : Nat) : ∀ t : List UInt8, t.length = n → t ≠ [] → (∀ c ∈ t, isDig c = true) → (t.head? = some 48 → t.length = 1) → decL (valD t) = t ∧ (t.head? ≠ some 48 → 0 < valD t) := by
  induction n with
  | zero => intro t hl hne; exact absurd (List.eq_nil_of_length_eq_zero hl) hne
  | succ n ih =>
    intro t hl hne hd hh
    obtain ⟨l, c, rfl⟩ : ∃ l c, t = l ++ [c] := ⟨_, _, (List.dropLast_concat_getLast hne).symm⟩
    have hc := hd c (by simp)
    by_cases hln : l = []
    · subst hln
      have e : valD ([] ++ [c]) = cnt c := by simp [valD]
      rw [e, decL_lt (cnt_lt hc), dig_cnt hc]
      refine ⟨rfl, fun h => ?_⟩
      by_cases h0 : cnt c = 0
      · exfalso; apply h
        rw [← dig_cnt hc, h0]; rfl
      · omega
    · have hll : l.length = n := by simp at hl; exact hl
      have hhd : (l ++ [c]).head? = l.head? := by
        cases l with
        | nil => exact absurd rfl hln
        | cons a l => rfl
      have hn0 : l.head? ≠ some 48 := by
        intro e
        have := hh (by rw [hhd]; exact e)
        rw [List.length_append, List.length_singleton] at this
        exact hln (List.eq_nil_of_length_eq_zero (by omega))
      obtain ⟨h1, h2⟩ := ih l hll hln (fun d hdl => hd d (by simp [hdl])) (fun e => absurd e hn0)
      have hv := h2 hn0
      rw [valD_snoc, decL_snoc hv (cnt_lt hc), h1, dig_cnt hc]
      exact ⟨rfl, fun _ => by omega⟩

/-- Digits alone. -/
def allDig (l : List UInt8) : Bool := l.all isDig
theorem allDig_of {l : List UInt8} (h : ∀ c ∈ l, isDig c = true) : allDig l = true := List.all_eq_true.2 h
theorem allDig_mem {l : List UInt8} (h : allDig l = true) : ∀ c ∈ l, isDig c = true := List.all_eq_true.1 h
theorem allDig_no {l : List UInt8} {c : UInt8} (hc : c ∈ l) (h : isDig c = false) : allDig l = false := List.all_eq_false.2 ⟨c, hc, by rw [h]; simp⟩

/-- The number of that size, below 0 or not, and the error's. -/
def signedL (u : Nat) (below : Bool) : Int × Nat :=
  if below then (if u ≤ 9223372036854775808 then (-(u : Int), 0) else (0, 4)) else (if u ≤ 9223372036854775807 then ((u : Int), 0) else (0, 4))
/-- What comes of the digits t, - ahead or not. -/
def parseT (below : Bool) (t : List UInt8) : Int × Nat :=
  if t = [] then (0, 8) else if allDig t = false then (0, 33) else if t.head? = some 48 ∧ (below = true ∨ 1 < t.length) then (0, 33) else if 19 < t.length then (0, 4) else signedL (valD t) below
def parseL (l : List UInt8) : Int × Nat := if l.head? = some 45 then parseT true l.tail else parseT false l

theorem head_dig {t : List UInt8} (hd : ∀ c ∈ t, isDig c = true) : t.head? ≠ some 45 := by
  intro h
  cases t with
  | nil => cases h
  | cons a t =>
    have ha := hd a (by simp)
    rw [Option.some.inj h] at ha
    exact absurd ha (by decide)

theorem parse_print (n : Int) (h0 : -9223372036854775808 ≤ n) (h1 : n ≤ 9223372036854775807) : parseL (printL n) = (n, 0) := by
  have hall : ∀ u, allDig (decL u) = true := fun u => allDig_of (decL_dig u)
  have hlen : ∀ u, u < 10000000000000000000 → ¬ 19 < (decL u).length := fun u h => by rw [decL_len]; have := lowL_len h; omega
  unfold parseL printL
  by_cases hn : n < 0
  · rw [if_pos hn, if_pos (by rfl), List.tail_cons]
    unfold parseT
    rw [if_neg (decL_ne _), if_neg (by rw [hall]; simp), if_neg (fun h => decL_head _ (by omega) h.1), if_neg (hlen _ (by omega)), valD_decL]
    unfold signedL
    rw [if_pos rfl, if_pos (by omega)]
    congr 1; omega
  · rw [if_neg hn, if_neg (head_dig (decL_dig _))]
    unfold parseT
    rw [if_neg (decL_ne _), if_neg (by rw [hall]; simp)]
    rw [if_neg (by
      intro ⟨h48, h⟩
      by_cases hz : n.natAbs = 0
      · rw [hz, decL_lt (by omega)] at h; simp at h
      · exact decL_head _ (by omega) h48), if_neg (hlen _ (by omega)), valD_decL]
    unfold signedL
    rw [if_neg (by simp), if_pos (by omega)]
    congr 1; omega

theorem print_parse (l : List UInt8) (k : Int) (h : parseL l = (k, 0)) : printL k = l := by
  have gen : ∀ (below : Bool) (t : List UInt8), parseT below t = (k, 0) → printL k = (if below then 45 :: t else t) := by
    intro below t h
    unfold parseT at h
    by_cases c1 : t = []
    · rw [if_pos c1] at h; simp at h
    rw [if_neg c1] at h
    by_cases c2 : allDig t = false
    · rw [if_pos c2] at h; simp at h
    rw [if_neg c2] at h
    by_cases c3 : t.head? = some 48 ∧ (below = true ∨ 1 < t.length)
    · rw [if_pos c3] at h; simp at h
    rw [if_neg c3] at h
    by_cases c4 : 19 < t.length
    · rw [if_pos c4] at h; simp at h
    rw [if_neg c4] at h
    have hd : ∀ c ∈ t, isDig c = true := allDig_mem (by simpa using c2)
    have hlen1 : 0 < t.length := List.length_pos_iff.2 c1
    have hone : t.head? = some 48 → t.length = 1 := fun e => by
      by_cases hq : 1 < t.length
      · exact absurd ⟨e, .inr hq⟩ c3
      · omega
    obtain ⟨hb, hp⟩ := decL_valD t.length t rfl c1 hd hone
    unfold signedL at h
    cases below with
    | true =>
      have hv := hp (fun e => c3 ⟨e, .inl rfl⟩)
      rw [if_pos rfl] at h
      by_cases c5 : valD t ≤ 9223372036854775808
      · rw [if_pos c5] at h
        have hk : k = -(valD t : Int) := (Prod.mk.inj h).1.symm
        unfold printL
        rw [if_pos (by omega), show k.natAbs = valD t by omega, hb]
        rfl
      · rw [if_neg c5] at h; simp at h
    | false =>
      rw [if_neg (by simp)] at h
      by_cases c5 : valD t ≤ 9223372036854775807
      · rw [if_pos c5] at h
        have hk : k = (valD t : Int) := (Prod.mk.inj h).1.symm
        unfold printL
        rw [if_neg (by omega), show k.natAbs = valD t by omega, hb]
        rfl
      · rw [if_neg c5] at h; simp at h
  unfold parseL at h
  by_cases c : l.head? = some 45
  · rw [if_pos c] at h
    have := gen true l.tail h
    rw [this, if_pos rfl]
    cases l with
    | nil => cases c
    | cons a l => rw [Option.some.inj c]; rfl
  · rw [if_neg c] at h
    exact gen false l h
end Go.Proofs.Ytidfcajhmldieaa.Num

/-
  Plain facts on characters and their octets, with no program: what a text begins with, its parts, its characters, the text repaired, whether it is valid.
-/
namespace Go.Proofs.Ytidfcajhmldieaa.Utf
open Go.Lib

/-- A character's number. -/
def isChar (c : Int) : Prop := (0 ≤ c ∧ c < 55296) ∨ (57343 < c ∧ c ≤ 1114111)
instance (c : Int) : Decidable (isChar c) := by unfold isChar; infer_instance

/-- The octet at a place of a list, as a number; 0 behind the end. -/
def oct (l : List UInt8) (k : Nat) : Nat := (l.getD k 0).toNat

/-- The character that a text begins with, and how many octets it has. -/
def dec (l : List UInt8) : Int × Nat :=
  if l = [] then (-1, 0)
  else if (decodeN l.length (oct l 0) (oct l 1) (oct l 2) (oct l 3)).1 = 65533 ∧ (decodeN l.length (oct l 0) (oct l 1) (oct l 2) (oct l 3)).2 ≤ 1 then (-1, 1)
  else (((decodeN l.length (oct l 0) (oct l 1) (oct l 2) (oct l 3)).1 : Int), (decodeN l.length (oct l 0) (oct l 1) (oct l 2) (oct l 3)).2)

/-- A character's octets, as numbers. -/
def encN (n : Nat) : List Nat :=
  if n < 128 then [n] else if n < 2048 then [192 + n / 64, 128 + n % 64] else if n < 65536 then [224 + n / 4096, 128 + n / 64 % 64, 128 + n % 64]
  else [240 + n / 262144, 128 + n / 4096 % 64, 128 + n / 64 % 64, 128 + n % 64]

theorem enc_eq (n : Nat) (h : isChar n) : encodeRune n = (encN n).map Nat.toUInt8 := by
  unfold isChar at h
  unfold encodeRune encN
  by_cases h1 : n < 128
  · rw [if_pos h1, encodeRuneZ_one (by omega) (by omega)]; simp
  · rw [if_neg h1]
    by_cases h2 : n < 2048
    · rw [if_pos h2, encodeRuneZ_two (by omega) (by omega)]
      simp only [List.map_cons, List.map_nil]
      rw [show (192 + (n : Int) / 64).toNat = 192 + n / 64 by omega, show (128 + (n : Int) % 64).toNat = 128 + n % 64 by omega]
    · rw [if_neg h2]
      by_cases h3 : n < 65536
      · rw [if_pos h3, encodeRuneZ_three (by omega)]
        simp only [List.map_cons, List.map_nil]
        rw [show (224 + (n : Int) / 4096).toNat = 224 + n / 4096 by omega, show (128 + (n : Int) / 64 % 64).toNat = 128 + n / 64 % 64 by omega, show (128 + (n : Int) % 64).toNat = 128 + n % 64 by omega]
      · rw [if_neg h3, encodeRuneZ_four (by omega) (by omega)]
        simp only [List.map_cons, List.map_nil]
        rw [show (240 + (n : Int) / 262144).toNat = 240 + n / 262144 by omega, show (128 + (n : Int) / 4096 % 64).toNat = 128 + n / 4096 % 64 by omega, show (128 + (n : Int) / 64 % 64).toNat = 128 + n / 64 % 64 by omega, show (128 + (n : Int) % 64).toNat = 128 + n % 64 by omega]

theorem u8 (n : Nat) (h : n < 256) : n.toUInt8.toNat = n := by simp; omega

theorem decodeN_enc (n : Nat) (h : isChar n) (t : List UInt8) :
    decodeN (encodeRune n ++ t).length (oct (encodeRune n ++ t) 0) (oct (encodeRune n ++ t) 1) (oct (encodeRune n ++ t) 2) (oct (encodeRune n ++ t) 3) = (n, (encodeRune n).length) := by
  rw [enc_eq n h]
  unfold isChar at h
  unfold encN oct
  by_cases h1 : n < 128
  · rw [if_pos h1]
    simp only [List.map_cons, List.map_nil, List.cons_append, List.nil_append, List.length_cons, List.getD_cons_zero, List.length_nil]
    rw [u8 n (by omega)]
    simp [decodeN, h1]
  · rw [if_neg h1]
    by_cases h2 : n < 2048
    · rw [if_pos h2]
      simp only [List.map_cons, List.map_nil, List.cons_append, List.nil_append, List.length_cons, List.getD_cons_zero, List.getD_cons_succ, List.length_nil]
      rw [u8 (192 + n / 64) (by omega), u8 (128 + n % 64) (by omega)]
      unfold decodeN
      rw [if_neg (by omega), if_pos (by omega), if_pos (by omega)]
      exact Prod.ext (by show _ = n; omega) rfl
    · rw [if_neg h2]
      by_cases h3 : n < 65536
      · rw [if_pos h3]
        simp only [List.map_cons, List.map_nil, List.cons_append, List.nil_append, List.length_cons, List.getD_cons_zero, List.getD_cons_succ, List.length_nil]
        rw [u8 (224 + n / 4096) (by omega), u8 (128 + n / 64 % 64) (by omega), u8 (128 + n % 64) (by omega)]
        unfold decodeN
        have e : (224 + n / 4096) % 16 * 4096 + (128 + n / 64 % 64) % 64 * 64 + (128 + n % 64) % 64 = n := by omega
        rw [if_neg (by omega), if_neg (by omega), if_pos (by omega), e, if_pos (by omega)]
      · rw [if_neg h3]
        simp only [List.map_cons, List.map_nil, List.cons_append, List.nil_append, List.length_cons, List.getD_cons_zero, List.getD_cons_succ, List.length_nil]
        rw [u8 (240 + n / 262144) (by omega), u8 (128 + n / 4096 % 64) (by omega), u8 (128 + n / 64 % 64) (by omega), u8 (128 + n % 64) (by omega)]
        unfold decodeN
        have e : (240 + n / 262144) % 8 * 262144 + (128 + n / 4096 % 64) % 64 * 4096 + (128 + n / 64 % 64) % 64 * 64 + (128 + n % 64) % 64 = n := by omega
        rw [if_neg (by omega), if_neg (by omega), if_neg (by omega), if_pos (by omega), e, if_pos (by omega)]

theorem enc_len (c : Int) : 1 ≤ (encodeRune c).length ∧ (encodeRune c).length ≤ 4 := by
  have := encodeRuneZ_length c
  simpa [encodeRune] using this
theorem enc_ne (c : Int) : encodeRune c ≠ [] := by
  intro h; have := enc_len c; rw [h] at this; simp at this

theorem isChar_nat {c : Int} (h : isChar c) : ∃ n : Nat, c = n ∧ isChar (n : Int) := by
  have h0 : 0 ≤ c := by unfold isChar at h; omega
  obtain ⟨n, rfl⟩ := Int.eq_ofNat_of_zero_le h0
  exact ⟨n, rfl, h⟩

/-- A character comes back from its octets, whatever stands behind them. -/
theorem dec_enc (c : Int) (h : isChar c) (t : List UInt8) : dec (encodeRune c ++ t) = (c, (encodeRune c).length) := by
  obtain ⟨n, rfl, hn⟩ := isChar_nat h
  have hl := enc_len n
  unfold dec
  rw [if_neg (by simp [enc_ne]), decodeN_enc n hn t]
  rw [if_neg]
  rintro ⟨h1, h2⟩
  have e : n = 65533 := h1
  subst e
  have : (encodeRune ((65533 : Nat) : Int)).length = 3 := by decide +kernel
  have h2' : (encodeRune ((65533 : Nat) : Int)).length ≤ 1 := h2
  omega

theorem u8_back (x : UInt8) (n : Nat) (h : n = x.toNat) : n.toUInt8 = x := by subst h; simp

set_option maxRecDepth 100000 in
set_option maxHeartbeats 2000000 in
theorem decodeN_cases (n b0 b1 b2 b3 : Nat) (h0 : b0 < 256) (h1 : b1 < 256) (h2 : b2 < 256) (_ : b3 < 256) :
    decodeN n b0 b1 b2 b3 = (65533, 1) ∨
    (∃ c : Nat, isChar c ∧ ((decodeN n b0 b1 b2 b3 = (c, 1) ∧ encN c = [b0]) ∨ (decodeN n b0 b1 b2 b3 = (c, 2) ∧ 1 < n ∧ encN c = [b0, b1]) ∨ (decodeN n b0 b1 b2 b3 = (c, 3) ∧ 2 < n ∧ encN c = [b0, b1, b2]) ∨
      (decodeN n b0 b1 b2 b3 = (c, 4) ∧ 3 < n ∧ encN c = [b0, b1, b2, b3]))) := by
  unfold decodeN isChar
  split
  · right
    refine ⟨b0, by omega, .inl ⟨rfl, ?_⟩⟩
    unfold encN; rw [if_pos (by omega)]
  · split
    · split
      · right
        refine ⟨_, ?_, .inr (.inl ⟨rfl, by omega, ?_⟩)⟩
        · omega
        · unfold encN; rw [if_neg (by omega), if_pos (by omega)]
          congr 1
          · omega
          · congr 1; omega
      · left; rfl
    · split
      · split
        · right
          refine ⟨_, ?_, .inr (.inr (.inl ⟨rfl, by omega, ?_⟩))⟩
          · omega
          · unfold encN; rw [if_neg (by omega), if_neg (by omega), if_pos (by omega)]
            congr 1
            · omega
            · congr 1
              · omega
              · congr 1; omega
        · left; rfl
      · split
        · split
          · right
            refine ⟨_, ?_, .inr (.inr (.inr ⟨rfl, by omega, ?_⟩))⟩
            · omega
            · unfold encN; rw [if_neg (by omega), if_neg (by omega), if_neg (by omega)]
              congr 1
              · omega
              · congr 1
                · omega
                · congr 1
                  · omega
                  · congr 1; omega
          · left; rfl
        · left; rfl

theorem oct_lt (l : List UInt8) (k : Nat) : oct l k < 256 := (l.getD k 0).toNat_lt

theorem u8_oct (l : List UInt8) (k : Nat) : (oct l k).toUInt8 = l.getD k 0 := by unfold oct; simp

/-- What a text begins with: an octet that begins none, or a character's octets. -/
theorem dec_cases (l : List UInt8) (hl : l ≠ []) : dec l = (-1, 1) ∨ ∃ c t, isChar c ∧ l = encodeRune c ++ t := by
  rcases decodeN_cases l.length (oct l 0) (oct l 1) (oct l 2) (oct l 3) (oct_lt _ _) (oct_lt _ _) (oct_lt _ _) (oct_lt _ _) with h | ⟨c, hc, h⟩
  · left
    unfold dec
    rw [if_neg hl, h, if_pos ⟨rfl, Nat.le_refl _⟩]
  · right
    refine ⟨(c : Int), ?_⟩
    rw [enc_eq c hc]
    rcases h with ⟨_, he⟩ | ⟨_, hn, he⟩ | ⟨_, hn, he⟩ | ⟨_, hn, he⟩
    · rw [he]
      match l, hl with
      | x :: t, _ => exact ⟨t, hc, by simp [oct]⟩
    · rw [he]
      match l, hn with
      | x :: y :: t, _ => exact ⟨t, hc, by simp [oct]⟩
    · rw [he]
      match l, hn with
      | x :: y :: z :: t, _ => exact ⟨t, hc, by simp [oct]⟩
    · rw [he]
      match l, hn with
      | x :: y :: z :: u :: t, _ => exact ⟨t, hc, by simp [oct]⟩

theorem dec_nil : dec [] = (-1, 0) := rfl

theorem dec_width (l : List UInt8) (hl : l ≠ []) : 1 ≤ (dec l).2 ∧ (dec l).2 ≤ 4 ∧ (dec l).2 ≤ l.length := by
  have hp : 0 < l.length := List.length_pos_iff.2 hl
  rcases dec_cases l hl with h | ⟨c, t, hc, rfl⟩
  · rw [h]; simp; omega
  · rw [dec_enc c hc t]
    have := enc_len c
    simp
    omega

theorem dec_char (l : List UInt8) (hl : l ≠ []) : (dec l).1 = -1 ∨ isChar (dec l).1 := by
  rcases dec_cases l hl with h | ⟨c, t, hc, rfl⟩
  · rw [h]; exact .inl rfl
  · rw [dec_enc c hc t]; exact .inr hc

theorem dec_range (l : List UInt8) : -1 ≤ (dec l).1 ∧ (dec l).1 ≤ 1114111 := by
  by_cases hl : l = []
  · subst hl; rw [dec_nil]; simp
  · rcases dec_char l hl with h | h
    · omega
    · unfold isChar at h; omega

/-! ### Parts -/
def partsF : Nat → List UInt8 → List Int
  | 0, _ => []
  | n + 1, l => if l = [] then [] else (dec l).1 :: partsF n (l.drop (dec l).2)
/-- What a text is made of: characters, and -1 for each octet that begins none. -/
def parts (l : List UInt8) : List Int := partsF l.length l

theorem partsF_nil (n : Nat) : partsF n [] = [] := by cases n <;> simp [partsF]
theorem partsF_fuel : ∀ (n m : Nat) (l : List UInt8), l.length ≤ n → l.length ≤ m → partsF n l = partsF m l
  | 0, m, l, hn, _ => by
    have : l = [] := List.eq_nil_of_length_eq_zero (by omega)
    subst this; rw [partsF_nil, partsF_nil]
  | n + 1, 0, l, _, hm => by
    have : l = [] := List.eq_nil_of_length_eq_zero (by omega)
    subst this; rw [partsF_nil, partsF_nil]
  | n + 1, m + 1, l, hn, hm => by
    unfold partsF
    by_cases hne : l = []
    · simp [hne]
    · have hw := dec_width l hne
      rw [if_neg hne, if_neg hne, partsF_fuel n m (l.drop (dec l).2) (by rw [List.length_drop]; omega) (by rw [List.length_drop]; omega)]
theorem parts_nil : parts [] = [] := rfl
theorem parts_step (l : List UInt8) (hl : l ≠ []) : parts l = (dec l).1 :: parts (l.drop (dec l).2) := by
  have hp : 0 < l.length := List.length_pos_iff.2 hl
  have hw := dec_width l hl
  obtain ⟨n, hn⟩ : ∃ n, l.length = n + 1 := ⟨l.length - 1, by omega⟩
  unfold parts
  rw [hn]
  show (if l = [] then [] else _) = _
  rw [if_neg hl, partsF_fuel n (l.drop (dec l).2).length _ (by rw [List.length_drop]; omega) (Nat.le_refl _)]

theorem parts_enc1 (c : Int) (hc : isChar c) (t : List UInt8) : parts (encodeRune c ++ t) = c :: parts t := by
  rw [parts_step _ (by simp [enc_ne]), dec_enc c hc t]
  simp

/-- Induction along a text's parts. -/
theorem parts_ind {P : List UInt8 → Prop} (h0 : P []) (hbad : ∀ x t, dec (x :: t) = (-1, 1) → P t → P (x :: t)) (hc : ∀ c t, isChar c → P t → P (encodeRune c ++ t)) : ∀ l, P l := by
  intro l
  generalize hn : l.length = n
  induction n using Nat.strongRecOn generalizing l with
  | _ n ih =>
    by_cases hl : l = []
    · subst hl; exact h0
    · rcases dec_cases l hl with h | ⟨c, t, hch, rfl⟩
      · match l, hl with
        | x :: t, _ => exact hbad x t h (ih t.length (by rw [← hn]; simp) t rfl)
      · exact hc c t hch (ih t.length (by have := enc_len c; rw [← hn]; simp; omega) t rfl)

theorem parts_bad (x : UInt8) (t : List UInt8) (h : dec (x :: t) = (-1, 1)) : parts (x :: t) = -1 :: parts t := by
  rw [parts_step _ (by simp), h]; simp

def fix (c : Int) : Int := if c = -1 ∨ c = 0 then 65533 else c
/-- The characters of the repaired text. -/
def chars (l : List UInt8) : List Int := (parts l).map fix
def encs (cs : List Int) : List UInt8 := cs.flatMap encodeRune
/-- A text, repaired. -/
def rep (l : List UInt8) : List UInt8 := encs (chars l)
def valid (l : List UInt8) : Bool := (parts l).all (fun c => decide (c ≠ -1))

theorem parts_char (l : List UInt8) : ∀ c ∈ parts l, c = -1 ∨ isChar c := by
  induction l using parts_ind with
  | h0 => simp [parts_nil]
  | hbad x t h ih => rw [parts_bad x t h]; simp; exact ih
  | hc c t h ih =>
    rw [parts_enc1 c h t]
    intro d hd
    rcases List.mem_cons.1 hd with rfl | hd
    · exact .inr h
    · exact ih d hd

theorem fix_char {c : Int} (h : c = -1 ∨ isChar c) : isChar (fix c) ∧ fix c ≠ 0 := by
  unfold fix
  split
  · exact ⟨by decide, by omega⟩
  · rcases h with h | h
    · omega
    · exact ⟨h, by omega⟩
theorem fix_id {c : Int} (h : isChar c) (h0 : c ≠ 0) : fix c = c := by
  unfold fix; unfold isChar at h; rw [if_neg (by omega)]

theorem chars_char (l : List UInt8) : ∀ c ∈ chars l, isChar c ∧ c ≠ 0 := by
  intro c hc
  obtain ⟨d, hd, rfl⟩ := List.mem_map.1 hc
  exact fix_char (parts_char l d hd)

theorem parts_encs (cs : List Int) (h : ∀ c ∈ cs, isChar c) : parts (encs cs) = cs := by
  induction cs with
  | nil => rfl
  | cons c r ih =>
    unfold encs
    rw [List.flatMap_cons, parts_enc1 c (h c (by simp))]
    congr 1
    exact ih (fun d hd => h d (by simp [hd]))

theorem parts_rep (l : List UInt8) : parts (rep l) = chars l := parts_encs _ (fun c hc => (chars_char l c hc).1)
theorem chars_rep (l : List UInt8) : chars (rep l) = chars l := by
  show (parts (rep l)).map fix = _
  rw [parts_rep]
  have : (chars l).map fix = (chars l).map id := List.map_congr_left (fun c hc => fix_id (chars_char l c hc).1 (chars_char l c hc).2)
  rw [this, List.map_id]
theorem rep_rep (l : List UInt8) : rep (rep l) = rep l := by unfold rep; rw [show chars (encs (chars l)) = chars l from chars_rep l]
theorem valid_rep (l : List UInt8) : valid (rep l) = true := by
  unfold valid
  rw [parts_rep, List.all_eq_true]
  intro c hc
  have := (chars_char l c hc).1
  unfold isChar at this
  simp; omega

theorem enc_no0 (c : Int) (h : isChar c) (h0 : c ≠ 0) : (0 : UInt8) ∉ encodeRune c := by
  obtain ⟨n, rfl, hn⟩ := isChar_nat h
  rw [enc_eq n hn]
  unfold isChar at hn
  intro hm
  obtain ⟨k, hk, e⟩ := List.mem_map.1 hm
  have hk' : k % 256 = 0 := by have := congrArg UInt8.toNat e; simpa using this
  unfold encN at hk
  split at hk
  · simp at hk; omega
  · split at hk
    · simp at hk; omega
    · split at hk
      · simp at hk; omega
      · simp at hk; omega
theorem rep_no0 (l : List UInt8) : (0 : UInt8) ∉ rep l := by
  unfold rep encs
  intro h
  obtain ⟨c, hc, h⟩ := List.mem_flatMap.1 h
  exact enc_no0 c (chars_char l c hc).1 (chars_char l c hc).2 h

theorem enc_zero : encodeRune 0 = [0] := by decide +kernel

theorem rep_of_valid (l : List UInt8) (hv : valid l = true) (h0 : (0 : UInt8) ∉ l) : rep l = l := by
  induction l using parts_ind with
  | h0 => rfl
  | hbad x t h ih =>
    unfold valid at hv
    rw [parts_bad x t h] at hv
    simp at hv
  | hc c t h ih =>
    have hv' : valid t = true := by
      unfold valid at hv ⊢
      rw [parts_enc1 c h t, List.all_cons] at hv
      exact (Bool.and_eq_true_iff.1 hv).2
    have hc0 : c ≠ 0 := by
      rintro rfl
      rw [enc_zero] at h0
      simp at h0
    have ht : (0 : UInt8) ∉ t := fun hm => h0 (List.mem_append.2 (.inr hm))
    have := ih hv' ht
    unfold rep chars at this ⊢
    rw [parts_enc1 c h t, List.map_cons, fix_id h hc0]
    unfold encs at this ⊢
    rw [List.flatMap_cons, this]

/-- A repaired text is the text itself just if that is valid and has no 0. -/
theorem rep_eq_iff (l : List UInt8) : rep l = l ↔ (valid l = true ∧ (0 : UInt8) ∉ l) :=
  ⟨fun h => ⟨by rw [← h]; exact valid_rep l, by rw [← h]; exact rep_no0 l⟩, fun h => rep_of_valid l h.1 h.2⟩

theorem parts_len (l : List UInt8) : (parts l).length ≤ l.length := by
  induction l using parts_ind with
  | h0 => simp [parts_nil]
  | hbad x t h ih => rw [parts_bad x t h]; simp; exact ih
  | hc c t h ih =>
    have := enc_len c
    rw [parts_enc1 c h t]; simp; omega
theorem chars_len (l : List UInt8) : (chars l).length ≤ l.length := by unfold chars; rw [List.length_map]; exact parts_len l

theorem encs_len (cs : List Int) : (encs cs).length ≤ 4 * cs.length := by
  induction cs with
  | nil => simp [encs]
  | cons c r ih =>
    have := enc_len c
    unfold encs at ih ⊢
    rw [List.flatMap_cons, List.length_append, List.length_cons]; omega
theorem encs_snoc (cs : List Int) (c : Int) : encs (cs ++ [c]) = encs cs ++ encodeRune c := by simp [encs]

/-- A text of characters is valid. -/
theorem valid_enc (c : Int) (h : isChar c) : valid (encodeRune c) = true := by
  unfold valid
  have := parts_enc1 c h []
  rw [List.append_nil] at this
  rw [this]
  unfold isChar at h
  simp [parts_nil]; omega

/-! ### Go's decoder -/
theorem get_oct (s : ByteArray) (k : Nat) : (s.get! k).toNat = oct s.data.toList k := by
  unfold oct
  cases s with
  | mk d =>
    show (d[k]!).toNat = _
    rw [List.getD_eq_getElem?_getD, Array.getElem?_toList]
    by_cases h : k < d.size
    · rw [getElem!_pos d k h, Array.getElem?_eq_getElem h]; rfl
    · rw [getElem!_neg d k h, Array.getElem?_eq_none (by show d.size ≤ k; omega)]; rfl

theorem go_dec (s : ByteArray) : dec s.data.toList = if (decodeGo s).1 = 65533 ∧ (decodeGo s).2 ≤ 1 then (-1, (decodeGo s).2) else (((decodeGo s).1 : Int), (decodeGo s).2) := by
  unfold dec decodeGo
  by_cases h : s.size = 0
  · have hl : s.data.toList = [] := List.eq_nil_of_length_eq_zero (by rw [Oct.size_list]; exact h)
    rw [if_pos hl, if_pos h]; simp
  · have hl : s.data.toList ≠ [] := by intro e; apply h; rw [← Oct.size_list, e]; rfl
    have e : Utf8.decode s 0 = decodeN s.data.toList.length (oct s.data.toList 0) (oct s.data.toList 1) (oct s.data.toList 2) (oct s.data.toList 3) := by
      rw [decode_at, get_oct, get_oct, get_oct, get_oct, Oct.size_list]; rfl
    rw [if_neg hl, if_neg h, e]
    rcases decodeN_cases s.data.toList.length (oct s.data.toList 0) (oct s.data.toList 1) (oct s.data.toList 2) (oct s.data.toList 3) (oct_lt _ _) (oct_lt _ _) (oct_lt _ _) (oct_lt _ _) with h' | ⟨c, hc, h'⟩
    · rw [h']
    · rcases h' with ⟨h', _⟩ | ⟨h', _, _⟩ | ⟨h', _, _⟩ | ⟨h', _, _⟩
      · rw [h']
      all_goals (rw [h']; simp)

/-- Is it a character's number? -/
def charB (c : Int) : Bool := decide (isChar c)

theorem cut_list (s : ByteArray) (a : Nat) : (s.extract a s.size).data.toList = s.data.toList.drop a := by
  rw [Lib.extract_data, List.take_of_length_le (by rw [List.length_drop, Go.Proofs.Ytidfcajhmldieaa.Oct.size_list]; exact Nat.le_refl _)]
end Go.Proofs.Ytidfcajhmldieaa.Utf

/-
  Plain facts on character references, with no program: what one stands for, a text escaped, a text decoded, a beginning of one.
-/
namespace Go.Proofs.Ytidfcajhmldieaa.Crf
open Go.Proofs.Ytidfcajhmldieaa.Oct Go.Proofs.Ytidfcajhmldieaa.Num Go.Proofs.Ytidfcajhmldieaa.Utf
open Go.Lib (encodeRune)

/-- What an octet counts as a digit of base 16; -1: none. -/
def hx (c : UInt8) : Int := hexI (c.toNat : Int)
def digB (base : Int) (c : UInt8) : Bool := decide (0 ≤ hx c ∧ hx c < base)
def valB (base : Nat) (l : List UInt8) : Nat := l.foldl (fun n c => n * base + (hx c).toNat) 0
/-- Are the digits behind the sign of base 16? -/
def isHex (t : List UInt8) : Bool := decide (t.head? = some 120 ∨ t.head? = some 88)
def baseOf (t : List UInt8) : Nat := if isHex t then 16 else 10
def digsOf (t : List UInt8) : List UInt8 := if isHex t then t.tail else t
/-- The number between a reference's ends, and how many digits it has. -/
def numR (l : List UInt8) : Option (Nat × Nat) :=
  if l.head? = some 35 ∧ (digsOf l.tail).length ≤ 7 ∧ (digsOf l.tail).all (digB (baseOf l.tail)) = true then some (valB (baseOf l.tail) (digsOf l.tail), (digsOf l.tail).length) else none
/-- What a number stands for. -/
def standL (n : Nat) : List UInt8 := if isChar (n : Int) ∧ n ≠ 0 then encodeRune (n : Int) else [239, 191, 189]
abbrev amp : List UInt8 := [97, 109, 112]
abbrev lt' : List UInt8 := [108, 116]
abbrev gt' : List UInt8 := [103, 116]
abbrev quot : List UInt8 := [113, 117, 111, 116]
abbrev apos : List UInt8 := [97, 112, 111, 115]
def nameR (l : List UInt8) : List UInt8 := if l = amp then [38] else if l = lt' then [60] else if l = gt' then [62] else if l = quot then [34] else if l = apos then [39] else []
/-- What stands between a reference's ends stands for; nothing: there is no such reference. -/
def refR (l : List UInt8) : List UInt8 := if nameR l ≠ [] then nameR l else match numR l with | some (n, d) => if d = 0 then [] else standL n | none => []
/-- Up to the first end. -/
def innerOf (l : List UInt8) : List UInt8 := l.takeWhile (fun c => !(c == 59))
/-- What the reference at the head stands for, and its length. -/
def oneL : List UInt8 → List UInt8 × Nat
  | 38 :: t => if 59 ∈ t.take 10 ∧ refR (innerOf (t.take 10)) ≠ [] then (refR (innerOf (t.take 10)), (innerOf (t.take 10)).length + 2) else ([], 0)
  | _ => ([], 0)
/-- A beginning of a reference. -/
def begName (l : List UInt8) : Bool := decide (l <+: amp ∨ l <+: lt' ∨ l <+: gt' ∨ l <+: quot ∨ l <+: apos)
def unfL : List UInt8 → Bool
  | 38 :: t => begName t || (numR t).isSome
  | _ => false
def cleanL (l : List UInt8) : Bool := l.all fun c => !(c == 60 || c == 62 || c == 34 || c == 39)
def escO (c : UInt8) : List UInt8 :=
  if c = 38 then [38, 97, 109, 112, 59] else if c = 60 then [38, 108, 116, 59] else if c = 62 then [38, 103, 116, 59] else if c = 34 then [38, 35, 51, 52, 59] else if c = 39 then [38, 35, 51, 57, 59] else if c = 43 then [38, 35, 52, 51, 59] else [c]
def escL (l : List UInt8) : List UInt8 := l.flatMap escO

theorem hx_le (c : UInt8) : hx c ≤ 15 := (hexI_range _).2
theorem hx_ge (c : UInt8) : -1 ≤ hx c := (hexI_range _).1
theorem no59 (c : UInt8) (b : Int) (h : digB b c = true) : c ≠ 59 := by
  rintro rfl
  have h' := of_decide_eq_true h
  have e : hx 59 = -1 := by decide
  omega
theorem name_cases {l : List UInt8} (h : nameR l ≠ []) : l = amp ∨ l = lt' ∨ l = gt' ∨ l = quot ∨ l = apos := by
  unfold nameR at h
  repeat' split at h
  all_goals first | (exact absurd rfl h) | simp_all
theorem num_some {l : List UInt8} {n d : Nat} (h : numR l = some (n, d)) : ∃ t, l = 35 :: t ∧ (digsOf t).length ≤ 7 ∧ (digsOf t).all (digB (baseOf t)) = true ∧ n = valB (baseOf t) (digsOf t) ∧ d = (digsOf t).length := by
  unfold numR at h
  split at h
  · rename_i hc
    injection h with h
    injection h with h1 h2
    obtain ⟨c1, c2, c3⟩ := hc
    cases l with
    | nil => cases c1
    | cons a t =>
      rw [List.head?_cons] at c1
      injection c1 with c1
      subst c1
      exact ⟨t, rfl, c2, c3, h1.symm, h2.symm⟩
  · cases h
theorem digs_cases (t : List UInt8) : (isHex t = true ∧ ∃ c, (c = 120 ∨ c = 88) ∧ t = c :: digsOf t) ∨ (isHex t = false ∧ digsOf t = t) := by
  unfold digsOf
  cases hh : isHex t with
  | true =>
    refine .inl ⟨rfl, ?_⟩
    have := of_decide_eq_true hh
    cases t with
    | nil => simp at this
    | cons c t => simp at this; exact ⟨c, this, by simp⟩
  | false => exact .inr ⟨rfl, by simp⟩
/-- What stands between the ends of a reference has no end in it, and at most nine octets. -/
theorem ref_small {l : List UInt8} (h : refR l ≠ []) : 59 ∉ l ∧ l.length ≤ 9 ∧ l ≠ [] := by
  unfold refR at h
  split at h
  · rename_i hn
    rcases name_cases hn with rfl | rfl | rfl | rfl | rfl <;> decide
  · cases hk : numR l with
    | none => rw [hk] at h; exact absurd rfl h
    | some q =>
      obtain ⟨n, d⟩ := q
      obtain ⟨t, rfl, h1, h2, -, -⟩ := num_some hk
      have hd : 59 ∉ digsOf t := fun hm => no59 59 _ (List.all_eq_true.1 h2 59 hm) rfl
      rcases digs_cases t with ⟨_, c, hc, ht⟩ | ⟨_, ht⟩
      · rw [ht]
        refine ⟨?_, by simp; omega, by simp⟩
        simp only [List.mem_cons, not_or]
        refine ⟨by decide, ?_, hd⟩
        rcases hc with rfl | rfl <;> decide
      · rw [ht] at hd h1
        refine ⟨?_, by simp; omega, by simp⟩
        simp only [List.mem_cons, not_or]
        exact ⟨by decide, hd⟩

theorem inner_split (l : List UInt8) (h : 59 ∈ l) : ∃ t, l = innerOf l ++ 59 :: t := by
  induction l with
  | nil => cases h
  | cons c l ih =>
    unfold innerOf
    by_cases hc : c = 59
    · subst hc; exact ⟨l, by simp⟩
    · obtain ⟨t, ht⟩ := ih (by rcases List.mem_cons.1 h with h | h; exact absurd h.symm hc; exact h)
      refine ⟨t, ?_⟩
      rw [List.takeWhile_cons_of_pos (by simp [hc])]
      unfold innerOf at ht
      rw [List.cons_append, ← ht]
theorem mem_tw (p : UInt8 → Bool) (l : List UInt8) : ∀ c ∈ l.takeWhile p, p c = true := by
  induction l with
  | nil => intro c h; cases h
  | cons a l ih =>
    intro c h
    by_cases ha : p a = true
    · rw [List.takeWhile_cons_of_pos ha] at h
      rcases List.mem_cons.1 h with rfl | h
      · exact ha
      · exact ih c h
    · rw [List.takeWhile_cons_of_neg ha] at h
      cases h
theorem inner_no (l : List UInt8) : 59 ∉ innerOf l := by
  intro h
  have := mem_tw _ _ _ h
  simp at this
theorem inner_at (l t : List UInt8) (h : 59 ∉ l) : innerOf (l ++ 59 :: t) = l := by
  unfold innerOf
  rw [List.takeWhile_append_of_pos (fun c hc => by
    have : c ≠ 59 := fun e => h (e ▸ hc)
    simp [this])]
  simp

/-- A reference at the head. -/
theorem one_of (l t : List UInt8) (h : refR l ≠ []) : oneL (38 :: (l ++ 59 :: t)) = (refR l, l.length + 2) := by
  obtain ⟨h1, h2, _⟩ := ref_small h
  have e : (l ++ 59 :: t).take 10 = l ++ 59 :: t.take (9 - l.length) := by
    rw [List.take_append, List.take_of_length_le (by omega)]
    rw [show 10 - l.length = (9 - l.length) + 1 by omega, List.take_succ_cons]
  unfold oneL
  simp only
  rw [e, inner_at _ _ h1, if_pos ⟨by simp, h⟩]
theorem one_none_head {l : List UInt8} (h : l.head? ≠ some 38) : oneL l = ([], 0) := by
  unfold oneL
  split
  · simp at h
  · rfl
/-- What is at the head, if there is a reference. -/
theorem one_some {l : List UInt8} (h : (oneL l).2 ≠ 0) : ∃ i t, l = 38 :: (i ++ 59 :: t) ∧ refR i ≠ [] ∧ oneL l = (refR i, i.length + 2) := by
  by_cases hh : l.head? = some 38
  · cases l with
    | nil => cases hh
    | cons c u =>
      rw [List.head?_cons] at hh
      injection hh with hh
      subst hh
      unfold oneL at h
      simp only at h
      split at h
      · rename_i hc
        obtain ⟨t, ht⟩ := inner_split _ hc.1
        have e : u = innerOf (u.take 10) ++ 59 :: (t ++ u.drop 10) := by
          conv => lhs; rw [← List.take_append_drop 10 u, ht]
          simp
        refine ⟨innerOf (u.take 10), t ++ u.drop 10, by rw [← e], hc.2, ?_⟩
        unfold oneL
        simp only
        rw [if_pos hc]
      · exact absurd rfl h
  · rw [one_none_head hh] at h
    exact absurd rfl h
theorem one_zero {l : List UInt8} (h : (oneL l).2 = 0) : oneL l = ([], 0) := by
  unfold oneL at h ⊢
  split at h
  · split at h
    · rename_i hc
      simp at h
    · rename_i hc
      rw [if_neg hc]
  · rfl
theorem one_len (l : List UInt8) : (oneL l).2 ≤ l.length := by
  by_cases h : (oneL l).2 = 0
  · omega
  · obtain ⟨i, t, rfl, _, e⟩ := one_some h
    rw [e]
    simp

/-- References as what they stand for. -/
def decF : Nat → List UInt8 → List UInt8
  | 0, _ => []
  | n + 1, l => match l with
    | [] => []
    | c :: t => if (oneL (c :: t)).2 = 0 then c :: decF n t else (oneL (c :: t)).1 ++ decF n ((c :: t).drop (oneL (c :: t)).2)
def decL' (l : List UInt8) : List UInt8 := decF l.length l
theorem decF_fuel : ∀ (n m : Nat) (l : List UInt8), l.length ≤ n → l.length ≤ m → decF n l = decF m l
  | 0, m, l, hn, _ => by
    have : l = [] := List.eq_nil_of_length_eq_zero (by omega)
    subst this; cases m <;> rfl
  | n + 1, 0, l, _, hm => by
    have : l = [] := List.eq_nil_of_length_eq_zero (by omega)
    subst this; rfl
  | n + 1, m + 1, [], hn, hm => rfl
  | n + 1, m + 1, c :: t, hn, hm => by
    rw [decF, decF]
    rw [List.length_cons] at hn hm
    split
    · rw [decF_fuel n m t (by omega) (by omega)]
    · rename_i h
      rw [decF_fuel n m _ (by rw [List.length_drop, List.length_cons]; omega) (by rw [List.length_drop, List.length_cons]; omega)]
theorem dec_nil' : decL' [] = [] := rfl
theorem dec_plain (c : UInt8) (t : List UInt8) (h : (oneL (c :: t)).2 = 0) : decL' (c :: t) = c :: decL' t := by
  unfold decL'
  rw [List.length_cons, decF, if_pos h]
theorem dec_ref (l : List UInt8) (h : (oneL l).2 ≠ 0) : decL' l = (oneL l).1 ++ decL' (l.drop (oneL l).2) := by
  cases l with
  | nil => exact absurd rfl h
  | cons c t =>
    unfold decL'
    rw [List.length_cons, decF, if_neg h, decF_fuel t.length _ _ (by rw [List.length_drop, List.length_cons]; omega) (Nat.le_refl _)]
theorem dec_ref' (i t : List UInt8) (h : refR i ≠ []) : decL' (38 :: (i ++ 59 :: t)) = refR i ++ decL' t := by
  have e := one_of i t h
  rw [dec_ref _ (by rw [e]; simp), e]
  simp only
  congr 2
  rw [List.drop_succ_cons, show i.length + 1 = i.length + 1 from rfl]
  simp

theorem esc_at (c : UInt8) (t : List UInt8) : decL' (escO c ++ t) = c :: decL' t := by
  have k1 : refR [97, 109, 112] = [38] := by decide
  have k2 : refR [108, 116] = [60] := by decide
  have k3 : refR [103, 116] = [62] := by decide
  have k4 : refR [35, 51, 52] = [34] := by decide +kernel
  have k5 : refR [35, 51, 57] = [39] := by decide +kernel
  have k6 : refR [35, 52, 51] = [43] := by decide +kernel
  unfold escO
  split
  · rename_i h; subst h; have := dec_ref' [97, 109, 112] t (by rw [k1]; simp); rw [k1] at this; exact this
  · split
    · rename_i h; subst h; have := dec_ref' [108, 116] t (by rw [k2]; simp); rw [k2] at this; exact this
    · split
      · rename_i h; subst h; have := dec_ref' [103, 116] t (by rw [k3]; simp); rw [k3] at this; exact this
      · split
        · rename_i h; subst h; have := dec_ref' [35, 51, 52] t (by rw [k4]; simp); rw [k4] at this; exact this
        · split
          · rename_i h; subst h; have := dec_ref' [35, 51, 57] t (by rw [k5]; simp); rw [k5] at this; exact this
          · split
            · rename_i h; subst h; have := dec_ref' [35, 52, 51] t (by rw [k6]; simp); rw [k6] at this; exact this
            · rename_i h0 _ _ _ _ _
              exact dec_plain c t (by rw [one_none_head (by simp [h0])])
/-- There and back. -/
theorem dec_esc (l : List UInt8) : decL' (escL l) = l := by
  induction l with
  | nil => rfl
  | cons c l ih =>
    have e : escL (c :: l) = escO c ++ escL l := rfl
    rw [e, esc_at, ih]
theorem esc_clean (l : List UInt8) : cleanL (escL l) = true := by
  have h1 : ∀ c : Fin 256, cleanL (escO (UInt8.ofNat c.val)) = true := by decide +kernel
  induction l with
  | nil => rfl
  | cons c l ih =>
    have e : escL (c :: l) = escO c ++ escL l := rfl
    have h2 := h1 ⟨c.toNat, c.toNat_lt⟩
    simp only [UInt8.ofNat_toNat] at h2
    unfold cleanL at ih h2 ⊢
    rw [e, List.all_append, ih, h2]
    rfl
theorem esc_len (l : List UInt8) : (escL l).length ≤ 5 * l.length := by
  have h1 : ∀ c : Fin 256, (escO (UInt8.ofNat c.val)).length ≤ 5 := by decide +kernel
  induction l with
  | nil => simp [escL]
  | cons c l ih =>
    have e : escL (c :: l) = escO c ++ escL l := rfl
    have h2 := h1 ⟨c.toNat, c.toNat_lt⟩
    simp only [UInt8.ofNat_toNat] at h2
    rw [e, List.length_append, List.length_cons]
    omega
theorem esc_snoc (l : List UInt8) (c : UInt8) : escL (l ++ [c]) = escL l ++ escO c := by simp [escL]

/-! ### Behind a text that is not unfinished at its end -/
theorem num_front {b m : List UInt8} (h : (numR (b ++ m)).isSome = true) : b = [] ∨ (numR b).isSome = true := by
  cases b with
  | nil => exact .inl rfl
  | cons a b =>
    obtain ⟨q, hq⟩ := Option.isSome_iff_exists.1 h
    obtain ⟨n, d⟩ := q
    obtain ⟨t, ht, h1, h2, -, -⟩ := num_some hq
    rw [List.cons_append] at ht
    injection ht with ha hb
    subst ha
    refine .inr ?_
    have key : (digsOf b).length ≤ 7 ∧ (digsOf b).all (digB (baseOf b)) = true := by
      cases b with
      | nil => exact ⟨by decide, by decide⟩
      | cons c b =>
        have e1 : isHex t = isHex (c :: b) := by rw [← hb]; rfl
        have e2 : digsOf t = digsOf (c :: b) ++ m := by
          unfold digsOf
          rw [e1, ← hb]
          cases isHex (c :: b) <;> simp
        have e3 : baseOf t = baseOf (c :: b) := by unfold baseOf; rw [e1]
        rw [e2, e3, List.all_append] at h2
        rw [e2, List.length_append] at h1
        exact ⟨by omega, (Bool.and_eq_true_iff.1 h2).1⟩
    unfold numR
    rw [if_pos ⟨rfl, key.1, key.2⟩]
    rfl
theorem ref_front {b m : List UInt8} (h : refR (b ++ m) ≠ []) : unfL (38 :: b) = true := by
  unfold refR at h
  have hb : begName b = true ∨ (numR b).isSome = true := by
    split at h
    · rename_i hn
      refine .inl ?_
      have hp : b <+: b ++ m := ⟨m, rfl⟩
      unfold begName
      refine decide_eq_true ?_
      rcases name_cases hn with e | e | e | e | e <;> rw [e] at hp
      · exact .inl hp
      · exact .inr (.inl hp)
      · exact .inr (.inr (.inl hp))
      · exact .inr (.inr (.inr (.inl hp)))
      · exact .inr (.inr (.inr (.inr hp)))
    · cases hk : numR (b ++ m) with
      | none => rw [hk] at h; exact absurd rfl h
      | some q =>
        rcases num_front (b := b) (m := m) (by rw [hk]; rfl) with rfl | h2
        · exact .inl (by decide)
        · exact .inr h2
  show (begName b || (numR b).isSome) = true
  rcases hb with h | h <;> rw [h] <;> simp

/-- Behind a text that does not begin an unfinished reference the head is read as it is. -/
theorem one_front (a t : List UInt8) (ha : a ≠ []) (h : unfL a = false) : oneL (a ++ t) = oneL a := by
  cases a with
  | nil => exact absurd rfl ha
  | cons c b =>
    by_cases hc : c = 38
    · subst hc
      by_cases hz : (oneL (38 :: b ++ t)).2 = 0
      · by_cases hy : (oneL (38 :: b)).2 = 0
        · rw [one_zero hz, one_zero hy]
        · obtain ⟨i, u, e, hr, he⟩ := one_some hy
          injection e with _ e
          exfalso
          rw [e, List.cons_append, List.append_assoc, List.cons_append, one_of i (u ++ t) hr] at hz
          simp at hz
      · obtain ⟨i, u, e, hr, he⟩ := one_some hz
        rw [List.cons_append] at e
        injection e with _ e
        by_cases hm : 59 ∈ b
        · obtain ⟨v, hv⟩ := inner_split b hm
          have e2 : innerOf (b ++ t) = i := by rw [e]; exact inner_at _ _ (ref_small hr).1
          have e3 : innerOf (b ++ t) = innerOf b := by
            rw [hv, List.append_assoc, List.cons_append, inner_at _ _ (inner_no b)]
            rw [← hv]
          rw [he, hv, ← e3, e2, one_of i v hr]
        · exfalso
          have : ∃ m, i = b ++ m := by
            have h1 : b <+: i ++ 59 :: u := ⟨t, e⟩
            have h2 : i <+: i ++ 59 :: u := ⟨_, rfl⟩
            rcases List.prefix_or_prefix_of_prefix h1 h2 with ⟨m, hm2⟩ | ⟨m, hm2⟩
            · exact ⟨m, hm2.symm⟩
            · cases m with
              | nil => exact ⟨[], by rw [List.append_nil] at hm2 ⊢; exact hm2⟩
              | cons x m =>
                exfalso
                rw [← hm2, List.append_assoc] at e
                have e4 := List.append_cancel_left e
                rw [List.cons_append] at e4
                injection e4 with e5 _
                apply hm
                rw [← hm2, e5]
                simp
          obtain ⟨m, rfl⟩ := this
          rw [ref_front hr] at h
          cases h
    · rw [one_none_head (by simp [hc]), one_none_head (by simp [hc])]

/-- No end of a text is an unfinished reference. -/
def doneL (a : List UInt8) : Prop := ∀ i, i < a.length → unfL (a.drop i) = false
theorem dec_parts (n : Nat) : ∀ (a t : List UInt8), a.length ≤ n → doneL a → decL' (a ++ t) = decL' a ++ decL' t := by
  induction n with
  | zero =>
    intro a t hl _
    have : a = [] := List.eq_nil_of_length_eq_zero (by omega)
    subst this; rfl
  | succ n ih =>
    intro a t hl ha
    cases a with
    | nil => rfl
    | cons c b =>
      have h0 : unfL (c :: b) = false := ha 0 (by simp)
      have h1 := one_front (c :: b) t (by simp) h0
      have hlen : (oneL (c :: b)).2 ≤ (c :: b).length := one_len _
      by_cases hz : (oneL (c :: b)).2 = 0
      · rw [dec_plain c b hz, List.cons_append, dec_plain c (b ++ t) (by rw [← List.cons_append, h1]; exact hz), ih b t (by simpa using hl) (fun i hi => by
          have := ha (i + 1) (by simp; omega)
          simpa using this)]
        rfl
      · rw [dec_ref _ hz, dec_ref (c :: b ++ t) (by rw [h1]; exact hz), h1, List.drop_append_of_le_length hlen, ih _ t (by rw [List.length_drop, List.length_cons]; rw [List.length_cons] at hl; omega) (fun i hi => by
          rw [List.drop_drop]
          exact ha _ (by rw [List.length_drop] at hi; omega)), List.append_assoc]

/-! ### Numbers -/
theorem dig_dec (c : UInt8) (h : isDig c = true) : digB 10 c = true ∧ (hx c).toNat = cnt c := by
  have h1 : ∀ c : Fin 256, isDig (UInt8.ofNat c.val) = true → digB 10 (UInt8.ofNat c.val) = true ∧ (hx (UInt8.ofNat c.val)).toNat = cnt (UInt8.ofNat c.val) := by decide +kernel
  have h2 := h1 ⟨c.toNat, c.toNat_lt⟩
  simp only [UInt8.ofNat_toNat] at h2
  exact h2 h
theorem val_dec (l : List UInt8) (h : ∀ c ∈ l, isDig c = true) : valB 10 l = valD l := by
  have gen : ∀ (l : List UInt8) (a : Nat), (∀ c ∈ l, isDig c = true) → l.foldl (fun n c => n * 10 + (hx c).toNat) a = l.foldl (fun n c => n * 10 + cnt c) a := by
    intro l
    induction l with
    | nil => intro a _; rfl
    | cons c l ih =>
      intro a h
      rw [List.foldl_cons, List.foldl_cons, (dig_dec c (h c (by simp))).2, ih _ (fun d hd => h d (by simp [hd]))]
  exact gen l 0 h
theorem stand_ne (n : Nat) : standL n ≠ [] := by
  unfold standL
  split
  · rename_i h
    have := (enc_len (n : Int)).1
    intro e
    rw [e] at this
    simp at this
  · simp
theorem name_35 (t : List UInt8) : nameR (35 :: t) = [] := by simp [nameR]
theorem ref_num (t : List UInt8) (h1 : (digsOf t).length ≤ 7) (h2 : (digsOf t).all (digB (baseOf t)) = true) (h0 : digsOf t ≠ []) : refR (35 :: t) = standL (valB (baseOf t) (digsOf t)) := by
  have : numR (35 :: t) = some (valB (baseOf t) (digsOf t), (digsOf t).length) := by
    unfold numR
    rw [if_pos ⟨rfl, h1, h2⟩]
    rfl
  unfold refR
  rw [name_35, this]
  simp [h0]
theorem dec_small (n : Nat) (h : n ≤ 9999999) : (decL n).length ≤ 7 := by
  rw [decL_len]
  have := rest_len 6 (n / 10) (by omega)
  unfold lowL
  rw [List.length_cons]
  omega
/-- A number in decimals. -/
theorem one_dec (n : Nat) (h : n ≤ 9999999) (t : List UInt8) : oneL (38 :: ((35 :: decL n) ++ 59 :: t)) = (standL n, (decL n).length + 3) := by
  have hd := decL_dig n
  have hx' : isHex (decL n) = false := by
    unfold isHex
    refine decide_eq_false ?_
    cases hl : decL n with
    | nil => simp
    | cons c l =>
      have := hd c (by rw [hl]; simp)
      simp only [List.head?_cons, Option.some.injEq]
      rintro (rfl | rfl) <;> exact absurd this (by decide)
  have e1 : digsOf (decL n) = decL n := by unfold digsOf; rw [hx']; simp
  have e2 : baseOf (decL n) = 10 := by unfold baseOf; rw [hx']; rfl
  have hr := ref_num (decL n) (by rw [e1]; exact dec_small n h) (by rw [e1, e2]; exact List.all_eq_true.2 fun c hc => (dig_dec c (hd c hc)).1) (by rw [e1]; exact decL_ne n)
  rw [e1, e2, val_dec _ hd, valD_decL] at hr
  rw [one_of (35 :: decL n) t (by rw [hr]; exact stand_ne n), hr]
  rfl
theorem hexDig_val (d : Nat) (h : d < 16) : digB 16 (hexDig d) = true ∧ (hx (hexDig d)).toNat = d := by
  have : ∀ d : Fin 16, digB 16 (hexDig d.val) = true ∧ (hx (hexDig d.val)).toNat = d.val := by decide +kernel
  exact this ⟨d, h⟩
theorem val_hex (u : Nat) : ∀ k, valB 16 (hexL u k) = u % 16 ^ k := by
  have gen : ∀ (k a : Nat), (hexL u k).foldl (fun n c => n * 16 + (hx c).toNat) a = a * 16 ^ k + u % 16 ^ k := by
    intro k
    induction k with
    | zero => intro a; simp [hexL, Nat.mod_one]
    | succ k ih =>
      intro a
      rw [hexL_cons, List.foldl_cons, (hexDig_val _ (Nat.mod_lt _ (by decide))).2, ih]
      have e : u % 16 ^ (k + 1) = u % 16 ^ k + 16 ^ k * (u / 16 ^ k % 16) := by rw [Nat.pow_succ, Nat.mod_mul]
      rw [e, Nat.pow_succ, Nat.add_mul, Nat.mul_assoc, Nat.mul_comm 16 (16 ^ k), Nat.mul_comm (u / 16 ^ k % 16)]
      omega
  intro k
  have := gen k 0
  simpa [valB] using this
theorem hexL_all (u k : Nat) : (hexL u k).all (digB 16) = true := by
  refine List.all_eq_true.2 fun c hc => ?_
  unfold hexL at hc
  obtain ⟨j, _, rfl⟩ := List.mem_map.1 hc
  exact (hexDig_val _ (Nat.mod_lt _ (by decide))).1
/-- A number in six digits of base 16. -/
theorem one_hex (n : Nat) (h : n < 16777216) (t : List UInt8) : oneL (38 :: ((35 :: 120 :: hexL n 6) ++ 59 :: t)) = (standL n, 10) := by
  have hi : isHex (120 :: hexL n 6) = true := by rfl
  have e1 : digsOf (120 :: hexL n 6) = hexL n 6 := by unfold digsOf; rw [hi]; rfl
  have e2 : baseOf (120 :: hexL n 6) = 16 := by unfold baseOf; rw [hi]; rfl
  have hr := ref_num (120 :: hexL n 6) (by rw [e1, hexL_length]; decide) (by rw [e1, e2]; exact hexL_all n 6) (by rw [e1]; intro e; have := hexL_length n 6; rw [e] at this; simp at this)
  rw [e1, e2, val_hex, Nat.mod_eq_of_lt (by simpa using h)] at hr
  rw [one_of (35 :: 120 :: hexL n 6) t (by rw [hr]; exact stand_ne n), hr]
  simp [hexL_length]

/-! ### A beginning -/
theorem unf_small {l : List UInt8} (h : unfL l = true) : 59 ∉ l ∧ l.length ≤ 10 ∧ ∃ b, l = 38 :: b := by
  unfold unfL at h
  split at h
  · rename_i t
    rcases Bool.or_eq_true_iff.1 h with h | h
    · have h := of_decide_eq_true h
      have key : 59 ∉ t ∧ t.length ≤ 5 := by
        rcases h with h | h | h | h | h
        all_goals exact ⟨fun hm => absurd (h.subset hm) (by decide), Nat.le_trans h.length_le (by decide)⟩
      exact ⟨by simp only [List.mem_cons, not_or]; exact ⟨by decide, key.1⟩, by rw [List.length_cons]; omega, t, rfl⟩
    · obtain ⟨q, hq⟩ := Option.isSome_iff_exists.1 h
      obtain ⟨n, d⟩ := q
      obtain ⟨u, rfl, h1, h2, -, -⟩ := num_some hq
      have hd : 59 ∉ digsOf u := fun hm => no59 59 _ (List.all_eq_true.1 h2 59 hm) rfl
      have key : 59 ∉ u ∧ u.length ≤ 8 := by
        rcases digs_cases u with ⟨_, c, hc, ht⟩ | ⟨_, ht⟩
        · rw [ht]
          refine ⟨?_, by simp; omega⟩
          simp only [List.mem_cons, not_or]
          refine ⟨?_, hd⟩
          rcases hc with rfl | rfl <;> decide
        · rw [ht] at hd h1
          exact ⟨hd, by omega⟩
      refine ⟨?_, by simp; omega, _, rfl⟩
      simp only [List.mem_cons, not_or]
      exact ⟨by decide, by decide, key.1⟩
  · cases h
theorem one_no59 {l : List UInt8} (h : 59 ∉ l) : oneL l = ([], 0) := by
  apply one_zero
  by_cases hz : (oneL l).2 = 0
  · exact hz
  · obtain ⟨i, t, e, _, _⟩ := one_some hz
    exact absurd (by rw [e]; simp) h
/-- With an octet more an unfinished one is a reference, or none. -/
theorem wait_yes (l : List UInt8) (c : UInt8) (h : unfL l = true) : (oneL l).2 = 0 ∧ ((oneL (l ++ [c])).2 = 0 ∨ (oneL (l ++ [c])).2 = l.length + 1 ∧ c = 59) ∧ l.length ≤ 10 := by
  obtain ⟨h1, h2, b, rfl⟩ := unf_small h
  refine ⟨by rw [one_no59 h1], ?_, h2⟩
  by_cases hz : (oneL (38 :: b ++ [c])).2 = 0
  · exact .inl hz
  · right
    obtain ⟨i, t, e, hr, he⟩ := one_some hz
    have hc : c = 59 := by
      have hm : (59 : UInt8) ∈ 38 :: b ++ [c] := by rw [e]; simp
      rcases List.mem_append.1 hm with hm | hm
      · exact absurd hm h1
      · exact (List.mem_singleton.1 hm).symm
    refine ⟨?_, hc⟩
    subst hc
    have hi : i = b := by
      rw [List.cons_append] at e
      injection e with _ e
      have e2 := congrArg innerOf e
      rw [inner_at i t (ref_small hr).1, inner_at b [] (fun hm => h1 (by simp [hm]))] at e2
      exact e2.symm
    rw [he, hi]
    rfl
theorem unf_front {l : List UInt8} {c : UInt8} (h : unfL (l ++ [c]) = true) : unfL l = true ∨ (l = [] ∧ c = 38) := by
  cases l with
  | nil =>
    right
    obtain ⟨_, _, b, hb⟩ := unf_small h
    rw [List.nil_append] at hb
    injection hb with hc _
    exact ⟨rfl, hc⟩
  | cons a b =>
    left
    obtain ⟨_, _, b', hb⟩ := unf_small h
    rw [List.cons_append] at hb
    injection hb with ha _
    subst ha
    have h : (begName (b ++ [c]) || (numR (b ++ [c])).isSome) = true := h
    show (begName b || (numR b).isSome) = true
    rcases Bool.or_eq_true_iff.1 h with h | h
    · have h := of_decide_eq_true h
      have hp : b <+: b ++ [c] := ⟨_, rfl⟩
      have : begName b = true := decide_eq_true (by
        rcases h with h | h | h | h | h
        · exact .inl (hp.trans h)
        · exact .inr (.inl (hp.trans h))
        · exact .inr (.inr (.inl (hp.trans h)))
        · exact .inr (.inr (.inr (.inl (hp.trans h))))
        · exact .inr (.inr (.inr (.inr (hp.trans h)))))
      rw [this]; rfl
    · rcases num_front h with rfl | h
      · rfl
      · rw [h]; simp
end Go.Proofs.Ytidfcajhmldieaa.Crf

/-
  Plain facts on the tables of elements and attributes, with no program.
-/
namespace Go.Proofs.Ytidfcajhmldieaa.Tab
open Go.Proofs.Ytidfcajhmldieaa.Oct

abbrev elsL : List (List UInt8) := [[116, 105, 116, 108, 101], [116, 101, 120, 116, 97, 114, 101, 97], [115, 116, 121, 108, 101], [115, 99, 114, 105, 112, 116], [112, 108, 97, 105, 110, 116, 101, 120, 116], [120, 109, 112], [105, 102, 114, 97, 109, 101], [110, 111, 101, 109, 98, 101, 100], [110, 111, 102, 114, 97, 109, 101, 115], [110, 111, 115, 99, 114, 105, 112, 116]]
abbrev urlsL : List (List UInt8) := [[104, 114, 101, 102], [115, 114, 99], [97, 99, 116, 105, 111, 110], [102, 111, 114, 109, 97, 99, 116, 105, 111, 110], [99, 105, 116, 101], [112, 111, 115, 116, 101, 114], [98, 97, 99, 107, 103, 114, 111, 117, 110, 100], [108, 111, 110, 103, 100, 101, 115, 99], [109, 97, 110, 105, 102, 101, 115, 116], [105, 99, 111, 110]]
abbrev nosL : List (List UInt8) := [[115, 114, 99, 100, 111, 99], [115, 114, 99, 115, 101, 116], [104, 116, 116, 112, 45, 101, 113, 117, 105, 118], [112, 105, 110, 103]]
abbrev voidsL : List (List UInt8) := [[97, 114, 101, 97], [98, 97, 115, 101], [98, 114], [99, 111, 108], [101, 109, 98, 101, 100], [104, 114], [105, 109, 103], [105, 110, 112, 117, 116], [108, 105, 110, 107], [109, 101, 116, 97], [112, 97, 114, 97, 109], [115, 111, 117, 114, 99, 101], [116, 114, 97, 99, 107], [119, 98, 114]]
abbrev dataL : List UInt8 := [100, 97, 116, 97]
abbrev objectL : List UInt8 := [111, 98, 106, 101, 99, 116]
abbrev onL : List UInt8 := [111, 110]
abbrev styleL : List UInt8 := [115, 116, 121, 108, 101]
abbrev xmlnsL : List UInt8 := [120, 109, 108, 110, 115]
/-- What an element's number is by its place. -/
def codeN (i : Nat) : Nat := if i < 2 then 1 else if i < 4 then i else 4
/-- The first place of a text in a list. -/
def placeL (s : List UInt8) : List (List UInt8) → Option Nat
  | [] => none
  | x :: r => if x = s then some 0 else (placeL s r).map (· + 1)
def elemN (s : List UInt8) : Nat := match placeL s elsL with
  | some i => codeN i
  | none => 0
def inL (l : List (List UInt8)) (s : List UInt8) : Bool := decide (s ∈ l)
def preL (p s : List UInt8) : Bool := decide (p <+: s)
def attrN (elem attr : List UInt8) : Nat :=
  if inL urlsL attr = true ∨ (attr = dataL ∧ elem = objectL) then 1 else if preL onL attr = true then 2 else if attr = styleL then 3
  else if attr = [] ∨ inL nosL attr = true ∨ preL xmlnsL attr = true then 4 else 0
def voidB (s : List UInt8) : Bool := inL voidsL s

theorem take_ne {p s : List UInt8} {l : List (List UInt8)} (h : ∀ x ∈ l, x.take p.length ≠ p) : inL l (p ++ s) = false := by
  refine decide_eq_false fun hm => h _ hm ?_
  rw [List.take_left]
theorem attr_on (elem s : List UInt8) : attrN elem (onL ++ s) = 2 := by
  unfold attrN
  have h1 : inL urlsL (onL ++ s) = false := take_ne (by decide)
  have h2 : onL ++ s ≠ dataL := fun h => absurd (congrArg (List.take 1) h) (by simp)
  have h3 : preL onL (onL ++ s) = true := decide_eq_true (List.prefix_append ..)
  rw [if_neg (by rw [h1]; exact fun h => h.elim (fun h => Bool.noConfusion h) (fun h => h2 h.1)), if_pos h3]
theorem attr_q (elem s : List UInt8) : attrN elem ([113, 45, 111, 110] ++ s) = 0 := by
  unfold attrN
  have h1 : inL urlsL ([113, 45, 111, 110] ++ s) = false := take_ne (by decide)
  have h2 : [113, 45, 111, 110] ++ s ≠ dataL := fun h => absurd (congrArg (List.take 1) h) (by simp)
  have h3 : preL onL ([113, 45, 111, 110] ++ s) = false := decide_eq_false (by rintro ⟨t, ht⟩; simp at ht)
  have h4 : [113, 45, 111, 110] ++ s ≠ styleL := fun h => absurd (congrArg (List.take 1) h) (by simp)
  have h5 : [113, 45, 111, 110] ++ s ≠ [] := by simp
  have h6 : inL nosL ([113, 45, 111, 110] ++ s) = false := take_ne (by decide)
  have h7 : preL xmlnsL ([113, 45, 111, 110] ++ s) = false := decide_eq_false (by rintro ⟨t, ht⟩; simp at ht)
  rw [if_neg (by rw [h1]; exact fun h => h.elim (fun h => Bool.noConfusion h) (fun h => h2 h.1)), if_neg (by rw [h3]; simp), if_neg h4, if_neg (by rw [h6, h7]; exact fun h => h.elim h5 (fun h => h.elim (fun h => Bool.noConfusion h) (fun h => Bool.noConfusion h)))]

/-! ### A loop that looks a text up -/
theorem place_none {s : List UInt8} : ∀ {l : List (List UInt8)}, (∀ k, (h : k < l.length) → l[k] ≠ s) → placeL s l = none
  | [], _ => rfl
  | x :: r, h => by
    unfold placeL
    rw [if_neg (show x ≠ s from h 0 (by simp)), place_none (fun k hk => by have := h (k + 1) (by simp; omega); simpa using this)]
    rfl
theorem place_some {s : List UInt8} : ∀ {l : List (List UInt8)} {k : Nat} (hk : k < l.length), (∀ j, (h : j < l.length) → j < k → l[j] ≠ s) → l[k] = s → placeL s l = some k
  | [], k, hk, _, _ => absurd hk (by simp)
  | x :: r, 0, _, _, he => by
    unfold placeL
    rw [if_pos (show x = s from he)]
  | x :: r, k + 1, hk, hn, he => by
    unfold placeL
    rw [if_neg (show x ≠ s from hn 0 (by simp) (by omega)), place_some (k := k) (by simpa using hk) (fun j h hj => by have := hn (j + 1) (by simp; omega) (by omega); simpa using this) (by simpa using he)]
    rfl
theorem in_yes {l : List (List UInt8)} {s : List UInt8} {k : Nat} (hk : k < l.length) (he : l[k] = s) : inL l s = true := decide_eq_true (he ▸ List.getElem_mem hk)
theorem in_no {l : List (List UInt8)} {s : List UInt8} (h : ∀ k, (h : k < l.length) → l[k] ≠ s) : inL l s = false := by
  refine decide_eq_false fun hm => ?_
  obtain ⟨k, hk, he⟩ := List.getElem_of_mem hm
  exact h k hk he
end Go.Proofs.Ytidfcajhmldieaa.Tab

/-
  The reader of HTML as a plain machine, with no program: its states, its step, its run; what a run does in data, in raw text, within quotes.
-/
namespace Go.Proofs.Ytidfcajhmldieaa.Tok
open Go.Proofs.Ytidfcajhmldieaa.Oct Go.Proofs.Ytidfcajhmldieaa.Utf Go.Proofs.Ytidfcajhmldieaa.Crf Go.Proofs.Ytidfcajhmldieaa.Tab

/-- An attribute: its name, its value. -/
structure At where
  n : List UInt8
  v : List UInt8
deriving DecidableEq
/-- A token. -/
structure Tk where
  k : Int
  n : List UInt8
  x : List UInt8
  a : List At
  c : Bool
deriving DecidableEq
abbrev noAt : At := ⟨[], []⟩
abbrev noTk : Tk := ⟨0, [], [], [], false⟩
abbrev txTk (x : List UInt8) : Tk := ⟨3, [], x, [], false⟩
/-- The reader: what was told, the state, the text, the tag and the attribute on their way, the quote, the raw text's name and its kind. -/
structure Rd where
  out : List Tk
  st : Nat
  tx : List UInt8
  tg : Tk
  av : At
  q : UInt8
  rw : List UInt8
  kd : Nat
deriving DecidableEq
abbrev rd0 : Rd := ⟨[], 0, [], noTk, noAt, 0, [], 0⟩

def blB (c : UInt8) : Bool := blankI (c.toNat : Int)
def letB (c : UInt8) : Bool := letterI (c.toNat : Int)
def textR (d : Bool) (r : Rd) : Rd :=
  { r with out := if (if d then decL' r.tx else r.tx) = [] then r.out else r.out ++ [txTk (if d then decL' r.tx else r.tx)], tx := [] }
def putR (r : Rd) : Rd := { r with tg := { r.tg with a := r.tg.a ++ [⟨r.av.n, decL' r.av.v⟩] }, av := noAt }
def toldT (t : Tk) : Tk := if t.k = 2 then { t with a := [], c := false } else t
def rawK (t : Tk) : Bool := decide (t.k = 1 ∧ 1 ≤ elemN t.n ∧ elemN t.n ≤ 3)
def endR (r : Rd) : Rd :=
  if rawK (toldT r.tg) then { r with out := r.out ++ [toldT r.tg], tg := noTk, st := 15, rw := (toldT r.tg).n, kd := elemN (toldT r.tg).n }
  else { r with out := r.out ++ [toldT r.tg], tg := noTk, st := 0 }
def goR (s : Nat) (r : Rd) : Rd := { r with st := s }
def tnameR (c : UInt8) (r : Rd) : Rd × Bool :=
  if blB c then (goR 4 r, false) else if c = 47 then (goR 11 r, false) else if c = 62 then (endR r, false) else ({ r with tg := { r.tg with n := r.tg.n ++ [low c] } }, false)
def beforeR (c : UInt8) (r : Rd) : Rd × Bool :=
  if blB c then (r, false) else if c = 47 then (goR 11 r, false) else if c = 62 then (endR r, false) else ({ r with st := 5, av := ⟨[low c], []⟩ }, false)
def attrR (c : UInt8) (r : Rd) : Rd × Bool :=
  if blB c then (goR 6 r, false) else if c = 61 then (goR 7 r, false) else if c = 47 then (goR 11 (putR r), false) else if c = 62 then (endR (putR r), false)
  else if r.st = 6 then (goR 4 (putR r), true) else ({ r with av := { r.av with n := r.av.n ++ [low c] } }, false)
def slashR (c : UInt8) (r : Rd) : Rd × Bool :=
  if c = 62 then (endR { r with tg := { r.tg with c := true } }, false) else (goR 4 r, true)
/-- The states within a tag; true: the octet is asked anew. -/
def tagR (c : UInt8) (r : Rd) : Rd × Bool :=
  if r.st = 3 then tnameR c r else if r.st = 4 then beforeR c r else if r.st = 5 ∨ r.st = 6 then attrR c r else if r.st = 10 then (goR 4 r, true) else slashR c r
def wantR (c : UInt8) (r : Rd) : Rd × Bool :=
  if blB c then (r, false) else if c = 34 ∨ c = 39 then ({ r with st := 8, q := c }, false) else if c = 62 then (endR (putR r), false) else (goR 9 r, true)
def addV (c : UInt8) (r : Rd) : Rd := { r with av := { r.av with v := r.av.v ++ [c] } }
def valueR (c : UInt8) (r : Rd) : Rd × Bool := if c = r.q then (goR 10 (putR r), false) else (addV c r, false)
def bareR (c : UInt8) (r : Rd) : Rd × Bool := if blB c = true ∨ c = 62 then (goR 4 (putR r), true) else (addV c r, false)
def valR (c : UInt8) (r : Rd) : Rd × Bool := if r.st = 7 then wantR c r else if r.st = 8 then valueR c r else bareR c r
def opens (c : UInt8) (t : List UInt8) : Bool :=
  (c == 60) && (match t with | [] => false | d :: u => letB d || d == 33 || d == 63 || (d == 47 && !u.isEmpty))
def addT (c : UInt8) (r : Rd) : Rd := { r with tx := r.tx ++ [c] }
def dataR (c : UInt8) (t : List UInt8) (r : Rd) : Rd × Nat := if opens c t then (goR 1 (textR true r), 1) else (addT c r, 1)
def openR (c : UInt8) (r : Rd) : Rd × Nat :=
  if c = 47 then (goR 2 r, 1) else if c = 33 then (goR 12 r, 1) else if c = 63 then (goR 13 r, 1) else ({ r with st := 3, tg := { noTk with k := 1 } }, 0)
def endOpenR (c : UInt8) (r : Rd) : Rd × Nat :=
  if letB c then ({ r with st := 3, tg := { noTk with k := 2 } }, 0) else if c = 62 then (goR 0 r, 1) else (goR 13 r, 0)
def bangR (l : List UInt8) (r : Rd) : Rd × Nat := if [45, 45].isPrefixOf l then (goR 14 r, 2) else (goR 13 r, 0)
def bogusR (c : UInt8) (r : Rd) : Rd × Nat := if c = 62 then (goR 0 r, 1) else (r, 1)
def commentR (l : List UInt8) (c : UInt8) (r : Rd) : Rd × Nat :=
  if [45, 45, 62].isPrefixOf l then ({ r with out := r.out ++ [⟨4, [], r.tx, [], false⟩], tx := [], st := 0 }, 3) else (addT c r, 1)
/-- Raw text's end: its tag, and behind it an octet that ends a name. -/
def hits (rw l : List UInt8) : Bool :=
  ((60 :: 47 :: rw).map low).isPrefixOf (l.map low) && (match l.drop (2 + rw.length) with | [] => false | d :: _ => blB d || d == 47 || d == 62)
def rawR (l : List UInt8) (c : UInt8) (r : Rd) : Rd × Nat :=
  if hits r.rw l then ({ textR (r.kd == 1) r with st := 3, tg := { noTk with k := 2, n := ((l.drop 2).take r.rw.length).map low } }, 2 + r.rw.length) else (addT c r, 1)
/-- The states outside of tags; how many octets were read. -/
def outR (c : UInt8) (t : List UInt8) (r : Rd) : Rd × Nat :=
  if r.st = 0 then dataR c t r else if r.st = 1 then openR c r else if r.st = 2 then endOpenR c r else if r.st = 12 then bangR (c :: t) r
  else if r.st = 13 then bogusR c r else if r.st = 14 then commentR (c :: t) c r else rawR (c :: t) c r
def inTag (s : Nat) : Bool := decide ((3 ≤ s ∧ s ≤ 6) ∨ s = 10 ∨ s = 11)
def inVal (s : Nat) : Bool := decide (7 ≤ s ∧ s ≤ 9)
def again (p : Rd × Bool) : Rd × Nat := (p.1, if p.2 then 0 else 1)
def stepR (c : UInt8) (t : List UInt8) (r : Rd) : Rd × Nat :=
  if inTag r.st then again (tagR c r) else if inVal r.st then again (valR c r) else outR c t r

/-! ### The run -/
def rank (s : Nat) : Nat := if s = 7 then 2 else if s = 9 ∨ s = 6 ∨ s = 10 ∨ s = 11 ∨ s = 1 ∨ s = 2 ∨ s = 12 then 1 else 0
def runF : Nat → List UInt8 → Rd → Rd
  | 0, _, r => r
  | _ + 1, [], r => r
  | f + 1, c :: t, r => runF f ((c :: t).drop (stepR c t r).2) (stepR c t r).1
def meas (l : List UInt8) (s : Nat) : Nat := 3 * l.length + rank s
def runR (l : List UInt8) (r : Rd) : Rd := runF (meas l r.st) l r

theorem rank_le (s : Nat) : rank s ≤ 2 := by
  unfold rank
  split
  · omega
  · split <;> omega
theorem tag_again (c : UInt8) (r : Rd) (hs : inTag r.st = true) (h : (tagR c r).2 = true) : rank (tagR c r).1.st < rank r.st := by
  have hs := of_decide_eq_true hs
  revert h
  unfold tagR
  split
  · intro h; exfalso; revert h; unfold tnameR; repeat' split
    all_goals simp
  · split
    · intro h; exfalso; revert h; unfold beforeR; repeat' split
      all_goals simp
    · split
      · unfold attrR
        repeat' split
        all_goals intro h
        all_goals first | (exfalso; revert h; simp; done) | skip
        rename_i h6
        rw [h6]
        exact (by decide : (0 : Nat) < 1)
      · split
        · rename_i h10
          intro _
          rw [h10]
          exact (by decide : (0 : Nat) < 1)
        · have h11 : r.st = 11 := by omega
          unfold slashR
          split
          · intro h; exfalso; revert h; simp
          · intro _
            rw [h11]
            exact (by decide : (0 : Nat) < 1)
theorem val_again (c : UInt8) (r : Rd) (hs : inVal r.st = true) (h : (valR c r).2 = true) : rank (valR c r).1.st < rank r.st := by
  have hs := of_decide_eq_true hs
  revert h
  unfold valR
  split
  · rename_i h7
    unfold wantR
    repeat' split
    all_goals intro h
    all_goals first | (exfalso; revert h; simp; done) | skip
    rw [h7]
    exact (by decide : (1 : Nat) < 2)
  · split
    · unfold valueR
      split <;> (intro h; exfalso; revert h; simp)
    · have h9 : r.st = 9 := by omega
      unfold bareR
      split
      · intro _
        rw [h9]
        exact (by decide : (0 : Nat) < 1)
      · intro h; exfalso; revert h; simp
theorem out_again (c : UInt8) (t : List UInt8) (r : Rd) (h : (outR c t r).2 = 0) : rank (outR c t r).1.st < rank r.st := by
  revert h
  unfold outR
  split
  · unfold dataR; split <;> (intro h; exfalso; revert h; simp)
  · split
    · rename_i hs
      unfold openR
      repeat' split
      all_goals intro h
      all_goals first | (exfalso; revert h; simp; done) | skip
      rw [hs]
      exact (by decide : (0 : Nat) < 1)
    · split
      · rename_i hs
        unfold endOpenR
        repeat' split
        all_goals intro h
        all_goals first | (exfalso; revert h; simp; done) | skip
        all_goals rw [hs]
        all_goals exact (by decide : (0 : Nat) < 1)
      · split
        · rename_i hs
          unfold bangR
          split
          · intro h; exfalso; revert h; simp
          · intro _
            rw [hs]
            exact (by decide : (0 : Nat) < 1)
        · split
          · unfold bogusR; split <;> (intro h; exfalso; revert h; simp)
          · split
            · unfold commentR; split <;> (intro h; exfalso; revert h; simp)
            · unfold rawR
              split
              · intro h; exfalso; revert h; simp
              · intro h; exfalso; revert h; simp
/-- Each step brings the end nearer. -/
theorem step_less (c : UInt8) (t : List UInt8) (r : Rd) : meas ((c :: t).drop (stepR c t r).2) (stepR c t r).1.st < meas (c :: t) r.st := by
  unfold meas
  have hr := rank_le (stepR c t r).1.st
  by_cases h0 : (stepR c t r).2 = 0
  · rw [h0, List.drop_zero]
    have : rank (stepR c t r).1.st < rank r.st := by
      revert h0
      unfold stepR
      split
      · rename_i hs
        intro h0
        refine tag_again c r hs ?_
        unfold again at h0
        revert h0
        cases (tagR c r).2 <;> simp
      · split
        · rename_i hs
          intro h0
          refine val_again c r hs ?_
          unfold again at h0
          revert h0
          cases (valR c r).2 <;> simp
        · intro h0
          exact out_again c t r h0
    omega
  · rw [List.length_drop, List.length_cons]
    omega
theorem run_enough (f : Nat) : ∀ (g : Nat) (l : List UInt8) (r : Rd), meas l r.st ≤ f → meas l r.st ≤ g → runF f l r = runF g l r := by
  induction f with
  | zero =>
    intro g l r h1 _
    have hl : l = [] := by
      cases l with
      | nil => rfl
      | cons c t => unfold meas at h1; simp at h1
    subst hl
    cases g <;> rfl
  | succ f ih =>
    intro g l r h1 h2
    cases l with
    | nil => cases g <;> rfl
    | cons c t =>
      cases g with
      | zero => unfold meas at h2; simp at h2
      | succ g =>
        have := step_less c t r
        show runF f _ _ = runF g _ _
        exact ih g _ _ (by omega) (by omega)
theorem run_nil (r : Rd) : runR [] r = r := by
  unfold runR
  cases meas [] r.st <;> rfl
theorem run_cons (c : UInt8) (t : List UInt8) (r : Rd) : runR (c :: t) r = runR ((c :: t).drop (stepR c t r).2) (stepR c t r).1 := by
  have hl := step_less c t r
  unfold runR
  obtain ⟨f, hf⟩ : ∃ f, meas (c :: t) r.st = f + 1 := ⟨meas (c :: t) r.st - 1, by omega⟩
  rw [hf]
  show runF f _ _ = _
  exact run_enough _ _ _ _ (by omega) (Nat.le_refl _)
/-- What is on its way at the end. -/
def lastR (r : Rd) : List Tk :=
  if r.st = 0 then (textR true r).out else if r.st = 15 then (textR (r.kd == 1) r).out else if r.st = 14 then r.out ++ [⟨4, [], r.tx, [], false⟩] else r.out
/-- A text's tokens. -/
def tokL (l : List UInt8) : List Tk := lastR (runR l rd0)
/-- So many steps on. -/
def stepsN : Nat → List UInt8 → Rd → List UInt8 × Rd
  | 0, l, r => (l, r)
  | _ + 1, [], r => ([], r)
  | f + 1, c :: t, r => stepsN f ((c :: t).drop (stepR c t r).2) (stepR c t r).1
theorem run_steps (f : Nat) : ∀ (l : List UInt8) (r : Rd), runR l r = runR (stepsN f l r).1 (stepsN f l r).2 := by
  induction f with
  | zero => intro l r; rfl
  | succ f ih =>
    intro l r
    cases l with
    | nil => rfl
    | cons c t => rw [run_cons]; exact ih _ _
theorem run_to {l l' : List UInt8} {r r' : Rd} (f : Nat) (h : stepsN f l r = (l', r')) : runR l r = runR l' r' := by rw [run_steps f, h]

/-! ### Bounds -/
/-- No list of the reader is longer than M less what is still to come. -/
def Bd (M m : Nat) (r : Rd) : Prop :=
  r.out.length + m ≤ M ∧ r.tx.length + m ≤ M ∧ r.tg.n.length + m ≤ M ∧ r.tg.a.length + m ≤ M ∧ r.av.n.length + m ≤ M ∧ r.av.v.length + m ≤ M ∧ r.rw.length ≤ M
/-- What a step makes longer by one at most. -/
def Gr (r r' : Rd) : Prop :=
  r'.out.length ≤ r.out.length + 1 ∧ r'.tx.length ≤ r.tx.length + 1 ∧ r'.tg.n.length ≤ r.tg.n.length + 1 ∧ r'.tg.a.length ≤ r.tg.a.length + 1 ∧ r'.av.n.length ≤ r.av.n.length + 1 ∧ r'.av.v.length ≤ r.av.v.length + 1 ∧ (r'.rw.length ≤ r.rw.length ∨ r'.rw.length ≤ r.tg.n.length)
theorem told_n (t : Tk) : (toldT t).n = t.n := by unfold toldT; split <;> rfl
theorem gr_refl (r : Rd) : Gr r r := by unfold Gr; omega
theorem gr_end (r : Rd) : Gr r (endR r) := by
  unfold endR Gr
  split <;> simp [told_n]
theorem gr_endput (r : Rd) : Gr r (endR (putR r)) := by
  unfold endR Gr
  split <;> simp [told_n, putR]
theorem gr_put (s : Nat) (r : Rd) : Gr r (goR s (putR r)) := by unfold Gr goR putR; simp
theorem gr_go (s : Nat) (r : Rd) : Gr r (goR s r) := by unfold Gr goR; simp
theorem text_facts (d : Bool) (r : Rd) : (textR d r).out.length ≤ r.out.length + 1 ∧ (textR d r).tx = [] ∧ (textR d r).av = r.av ∧ (textR d r).rw = r.rw ∧ (textR d r).tg = r.tg := by
  unfold textR
  refine ⟨?_, rfl, rfl, rfl, rfl⟩
  generalize (if d = true then decL' r.tx else r.tx) = x
  show (if x = [] then r.out else r.out ++ [txTk x]).length ≤ _
  split <;> simp
theorem gr_text (d : Bool) (s : Nat) (r : Rd) : Gr r (goR s (textR d r)) := by
  obtain ⟨h1, h2, h3, h4, h5⟩ := text_facts d r
  unfold Gr goR
  simp only [h2, h3, h4, h5]
  simp
  exact h1
theorem gr_tag (c : UInt8) (r : Rd) : Gr r (tagR c r).1 := by
  unfold tagR tnameR beforeR attrR slashR
  repeat' split
  all_goals first | exact gr_refl _ | exact gr_go _ _ | exact gr_end _ | exact gr_endput _ | exact gr_put _ _ | skip
  all_goals first | (unfold Gr; simp; done) | skip
theorem gr_val (c : UInt8) (r : Rd) : Gr r (valR c r).1 := by
  unfold valR wantR valueR bareR addV
  repeat' split
  all_goals first | exact gr_refl _ | exact gr_go _ _ | exact gr_end _ | exact gr_endput _ | exact gr_put _ _ | skip
  all_goals (unfold Gr; simp)
theorem gr_out (c : UInt8) (t : List UInt8) (r : Rd) (h : r.st ≠ 15) (h1 : inTag r.st = false) (h2 : inVal r.st = false) (hs : r.st ≤ 15) : Gr r (outR c t r).1 := by
  unfold outR
  have e1 := of_decide_eq_false h1
  have e2 := of_decide_eq_false h2
  unfold dataR openR endOpenR bangR bogusR commentR addT
  repeat' split
  all_goals first | exact gr_refl _ | exact gr_go _ _ | exact gr_text _ _ _ | skip
  all_goals first | (unfold Gr; simp; done) | skip
  all_goals (exfalso; omega)
theorem gr_bd {M m m' : Nat} {r r' : Rd} (h : Gr r r') (hm : m' < m) (hb : Bd M m r) : Bd M m' r' := by
  unfold Gr at h
  unfold Bd at hb ⊢
  omega
/-- The states are those sixteen. -/
theorem end_st (r : Rd) : (endR r).st ≤ 15 := by unfold endR; split <;> simp
theorem step_st (c : UInt8) (t : List UInt8) (r : Rd) (h : r.st ≤ 15) : (stepR c t r).1.st ≤ 15 := by
  unfold stepR again
  split
  · unfold tagR tnameR beforeR attrR slashR goR
    repeat' split
    all_goals first | exact end_st _ | (simp; done) | exact h
  · split
    · unfold valR wantR valueR bareR goR addV
      repeat' split
      all_goals first | exact end_st _ | (simp; done) | exact h
    · unfold outR dataR openR endOpenR bangR bogusR commentR rawR goR addT
      repeat' split
      all_goals first | (simp; done) | exact h
theorem step_bd {M : Nat} (c : UInt8) (t : List UInt8) (r : Rd) (hs : r.st ≤ 15) (h : Bd M (meas (c :: t) r.st) r) : Bd M (meas ((c :: t).drop (stepR c t r).2) (stepR c t r).1.st) (stepR c t r).1 := by
  have hl := step_less c t r
  by_cases h15 : r.st = 15
  · have e : stepR c t r = rawR (c :: t) c r := by
      unfold stepR outR
      rw [h15]
      rfl
    rw [e] at hl ⊢
    clear e
    unfold rawR at hl ⊢
    split
    · rename_i hh
      rw [if_pos hh] at hl
      unfold Bd at h ⊢
      have hx := text_facts (r.kd == 1) r
      refine ⟨?_, ?_, ?_, ?_, ?_, ?_, ?_⟩
      · have := hx.1; simp only at hl ⊢; omega
      · have := hx.2.1; simp only [this] at hl ⊢; simp; omega
      · simp only [List.length_map, List.length_take, List.length_drop]
        unfold meas at hl h ⊢
        simp only [List.length_drop, List.length_cons] at hl h ⊢
        have e3 : rank 3 = 0 := rfl
        simp only [e3] at hl ⊢
        omega
      · simp only at hl ⊢; simp; omega
      · have := hx.2.2.1; simp only [this] at hl ⊢; omega
      · have := hx.2.2.1; simp only [this] at hl ⊢; omega
      · have := hx.2.2.2.1; simp only [this] at hl ⊢; omega
    · rename_i hh
      rw [if_neg hh] at hl
      refine gr_bd ?_ hl h
      unfold Gr addT
      simp
  · refine gr_bd ?_ hl h
    unfold stepR again
    split
    · exact gr_tag c r
    · split
      · exact gr_val c r
      · rename_i h1 h2
        exact gr_out c t r h15 (by simpa using h1) (by simpa using h2) hs
theorem bd0 (l : List UInt8) : Bd (meas l 0) (meas l 0) rd0 := by
  unfold Bd
  simp
end Go.Proofs.Ytidfcajhmldieaa.Tok
