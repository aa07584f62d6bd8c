/-
  Part 9: Mem, UtfLeaves, NumPure, NumSize, RdLeaf.
-/
import Derived.Test.YtganmmkdcaphfaaGreatDoorJsBaseP1
import Derived.Test.YtganmmkdcaphfaaGreatDoorProg
import Derived.Lib.BufferRead
import Derived.Laws.IdiomStrings
import Derived.Lib.Hide
import Derived.Deep.RegionHeld
import Derived.Test.YtganmmkdcaphfaaGreatDoorJsBaseP8
import Derived.Lib.Small
import Derived.Test.YtganmmkdcaphfaaGreatDoorJsBaseP2
import Derived.Test.YtganmmkdcaphfaaGreatDoorJsBaseP3
/-
  Memory that the call itself made: a slice of octets and what it is as a text; worlds in which all older memory is unturned.
-/
namespace Go.Proofs.YtganmmkdcaphfaaGreatDoor.Mem
open Go.RowKit Go.Proofs.YtganmmkdcaphfaaGreatDoor.Oct

theorem info_u8 : (Tryz.prog.info? 5).map (fun i => (i.zero, i.size, i.bytes)) = some (some (.int .u8 0), 1, 1) := by kernel_rfl

/-- An octet's value. -/
abbrev bv (c : UInt8) : Value := .int .u8 (c.toNat : Int)

/-- 'string(b)' of a slice of the call's own that holds the octets l, nil or not. -/
theorem conv_own {w : World} {base n : Nat} {v : Value} {l : List UInt8} (h : w.ownsRow base 5 1 v n (l.map bv)) :
    (convert 44 9 v).run Tryz.prog w = .ok (.string (S l)) w := by
  have hn : l.length = n := by simpa using h.1
  rcases h.2 with ⟨rfl, hz⟩ | ⟨g, cap, cur, rfl, hg, hh, hnc, hcm, hcs, htk⟩
  · have hl : l = [] := List.eq_nil_of_length_eq_zero (by omega)
    subst hl
    exact Lib.run_convert_nil_bytes w _ _ 5 0 Tryz.underlying44 Tryz.underlying5 Tryz.underlying9
  · subst hn
    exact run_convert_bytes_back w _ _ 5 ⟨g, 0, none⟩ cap l Tryz.underlying44 Tryz.underlying5 Tryz.underlying9
      (fun j hj => by
        have h1 := h.cellAt j (by omega)
        rw [Addr.add_lit, Nat.zero_add, h1]
        simp [hj])

theorem own_base {w : World} {base n : Nat} {e : TypeId} {v : Value} {xs : List Value} (h : w.ownsRow base e 1 v n xs) : ∀ k, v.ownBlock = some k → base ≤ k := by
  intro k hk
  rcases h.2 with ⟨rfl, _⟩ | ⟨g, cap, cur, rfl, hg, _⟩
  · simp [Value.ownBlock] at hk
  · simp [Value.ownBlock] at hk; omega

/-- What lay in w lies as it lay. -/
abbrev Kept (w w' : World) : Prop := Below w.heap.size w w'
theorem kept_trans {a b c : World} (h : Kept a b) (k : Kept b c) : Kept a c := Below.trans h (k.mono h.size)
theorem kept_cell {w w' : World} (h : Kept w w') {p : Addr} {v : Value} (hc : w.cell? p = some v) : w'.cell? p = some v := by
  rw [h.cell (World.block_lt_of_cell? w p hc)]; exact hc

/-- A row of the call's own lies as it lay in a world in which nothing older has turned. -/
theorem own_kept {w w' : World} {base n size : Nat} {e : TypeId} {v : Value} {xs : List Value} (h : w.ownsRow base e size v n xs) (hb : Kept w w') : w'.ownsRow base e size v n xs := by
  refine h.kept (row := none) ⟨hb.os, hb.tape, hb.output, hb.size, fun k hk _ => hb.block k hk⟩ ?_
  rcases h.2 with ⟨rfl, _⟩ | ⟨g, cap, cur, rfl, _⟩
  · exact .inl rfl
  · exact .inr (by simp [Value.ownBlock])

theorem str_beq (a b : ByteArray) : (a.toList == b.toList) = decide (a = b) := by
  rw [Bool.eq_iff_iff]
  simp only [beq_iff_eq, decide_eq_true_eq]
  constructor
  · intro h; rw [ByteArray.toList_eq, ByteArray.toList_eq] at h; rw [← S_list a, ← S_list b, h]
  · intro h; rw [h]

theorem info_int : (Tryz.prog.info? 3).map (fun i => (i.zero, i.size, i.bytes)) = some (some (.int .i64 0), 1, 8) := by kernel_rfl
abbrev iv (c : Int) : Value := .int .i64 c
end Go.Proofs.YtganmmkdcaphfaaGreatDoor.Mem

/-
  Contracts of utf.character, Encode, Decode, and of the law's own num.
-/
namespace Go.Proofs.YtganmmkdcaphfaaGreatDoor.Utf
open Go.RowKit Go.Proofs.YtganmmkdcaphfaaGreatDoor.Oct Go.Proofs.YtganmmkdcaphfaaGreatDoor.Mem
open Go.Lib (encodeRune)

/-- Go's own two tables of characters' first octets, as they are laid. -/
def Tabs (w : World) : Prop := Lib.Utf8Tabs 0 1 w
theorem Tabs.kept {w w' : World} (h : Tabs w) (hb : Kept w w') : Tabs w' :=
  ⟨fun c hc => kept_cell hb (h.1 c hc), fun i hi => ⟨kept_cell hb (h.2 i hi).1, kept_cell hb (h.2 i hi).2⟩⟩

theorem valid_eq (c : Int) : Lib.validRune c = charB c := by unfold Lib.validRune charB isChar; rfl

theorem character_c (n : Int) (w : World) :
    Calls Tryz.prog 115 #[.int .i64 n] w fun e w' => e = .returned (.bool (charB n)) ∧ w = w' := by
  by_cases h0 : 0 ≤ n
  · by_cases h1 : n ≤ 1114111
    · have hv := fun w => Tryz.utf8_ValidRune n w
      simp only [valid_eq] at hv
      generalize charB n = b at hv
      go_enter Tryz.func115, Tryz.ntmps115
      go_wp2_with (go_at_call 126; refine (hv _).mono ?_; rintro e w' ⟨rfl, rfl⟩)
      go_ret
      exact ⟨rfl, rfl⟩
    · have hb : charB n = false := decide_eq_false (by unfold isChar; omega)
      rw [hb]
      have hd : decide (n ≤ 1114111) = false := by simpa using h1
      clear h1
      go_enter Tryz.func115, Tryz.ntmps115
      go_wp2_with fail
      go_ret
      exact ⟨rfl, rfl⟩
  · have hb : charB n = false := decide_eq_false (by unfold isChar; omega)
    rw [hb]
    have hd : decide (0 ≤ n) = false := by simpa using h0
    clear h0
    go_enter Tryz.func115, Tryz.ntmps115
    go_wp2_with fail
    go_ret
    exact ⟨rfl, rfl⟩

theorem runeCells_eq (c : Int) : Lib.runeCells c = (encodeRune c).map bv := (Lib.byteCells_encodeRune c).symm

theorem encode_no (c : Int) (w : World) (h : charB c = false) :
    Calls Tryz.prog 102 #[.int .i64 c] w fun e w' => e = .returned (.tuple #[.string ⟨#[]⟩, .int .i64 4]) ∧ Kept w w' := by
  have hc := fun w => character_c c w
  simp only [h] at hc
  clear h
  go_enter Tryz.func102, Tryz.ntmps102
  go_wp2_with (go_at_call 115; refine (hc _).mono ?_; rintro e w' ⟨rfl, rfl⟩)
  go_ret2
  exact ⟨rfl, Below.refl _ _⟩

set_option maxHeartbeats 1000000 in
theorem encode_yes (c : Int) (w : World) (h : charB c = true) :
    Calls Tryz.prog 102 #[.int .i64 c] w fun e w' => e = .returned (.tuple #[.string (S (encodeRune c)), .int .i64 0]) ∧ Kept w w' := by
  have hch : isChar c := of_decide_eq_true h
  have h0 : 0 ≤ c := by unfold isChar at hch; omega
  have h1 : c ≤ 1114111 := by unfold isChar at hch; omega
  clear hch
  have hc := fun w => character_c c w
  simp only [h] at hc
  clear h
  have ha := Tryz.utf8_AppendRune_plain w.heap.size (.slice none 0 0) 0 [] c (by omega) (by omega) w (World.ownsRow_nil _ _ _ _) (by omega) (Nat.le_refl _)
  go_enter Tryz.func102, Tryz.ntmps102
  go_wp2_with (go_at_call 115; refine (hc _).mono ?_; rintro e w' ⟨rfl, rfl⟩)
  refine ha.mono ?_
  rintro e w1 ⟨v, rfl, hown, o, hg⟩
  rw [List.nil_append, runeCells_eq] at hown
  have hcv := conv_own hown
  have hb : Kept w w1 := ((Below.refl _ w).alloc (Nat.le_refl _) o).grown hg (by simp) (fun k hk => by simp [Value.ownBlock] at hk)
  have HB := Lib.hid hb
  clear hb hg hown
  go_wp2
  go_ret2
  exact ⟨rfl, HB.out⟩

theorem decode_c (s : ByteArray) (w : World) (hT : Tabs w) :
    Calls Tryz.prog 143 #[.string s] w fun e w' => e = .returned (.tuple #[.int .i64 (dec s.data.toList).1, .int .i64 ((dec s.data.toList).2 : Nat)]) ∧ Kept w w' := by
  have hd := Tryz.utf8_DecodeRuneInString s w hT
  have E := go_dec s
  have hr := dec_range s.data.toList
  have hr2 : (dec s.data.toList).2 ≤ 4 := by
    by_cases hl : s.data.toList = []
    · rw [hl, dec_nil]; simp
    · exact (dec_width _ hl).2.1
  generalize dec s.data.toList = d at E hr hr2
  generalize Lib.decodeGo s = g at hd E
  obtain ⟨r, k⟩ := g
  simp only at hd E
  by_cases hr0 : r = 65533
  · subst hr0
    by_cases hk : k ≤ 1
    · rw [if_pos ⟨rfl, hk⟩] at E
      subst E
      have hk' : (k : Int) ≤ 1 := by omega
      go_enter Tryz.func143, Tryz.ntmps143
      go_wp2_with (go_at_call 106; refine hd.mono ?_; rintro e w' ⟨rfl, hb⟩)
      go_ret2
      exact ⟨rfl, hb⟩
    · rw [if_neg (by omega)] at E
      subst E
      have hk' : decide ((k : Int) ≤ 1) = false := by simp; omega
      have hk2 : decide (k ≤ 1) = false := by simp; omega
      go_enter Tryz.func143, Tryz.ntmps143
      go_wp2_with (go_at_call 106; refine hd.mono ?_; rintro e w' ⟨rfl, hb⟩)
      go_ret2
      exact ⟨rfl, hb⟩
  · rw [if_neg (by omega)] at E
    subst E
    have hb' : ((r : Int) == 65533) = false := by simp; omega
    have h0 : (0 : Int) ≤ (r : Int) := by omega
    have h1 : (r : Int) ≤ 1114111 := hr.2
    clear hr hr2
    go_enter Tryz.func143, Tryz.ntmps143
    go_wp2_with (go_at_call 106; refine hd.mono ?_; rintro e w' ⟨rfl, hb⟩)
    go_ret2
    exact ⟨rfl, hb⟩
end Go.Proofs.YtganmmkdcaphfaaGreatDoor.Utf

/-
  Plain facts on decimal digits, with no program: the digits of a number, a text as a number, there and back.
-/
namespace Go.Proofs.YtganmmkdcaphfaaGreatDoor.Num
open Go.Proofs.YtganmmkdcaphfaaGreatDoor.Oct

/-- The digits of u, the lowest first; none of 0. -/
def rest (u : Nat) : List Nat := if u = 0 then [] else (u % 10) :: rest (u / 10)
termination_by u
decreasing_by omega

/-- The digits of u, the lowest first; one of 0. -/
def lowL (u : Nat) : List Nat := (u % 10) :: rest (u / 10)
/-- A digit's octet. -/
def dig (d : Nat) : UInt8 := UInt8.ofNat (48 + d)
/-- The digits of u as a text. -/
def decL (u : Nat) : List UInt8 := (lowL u).reverse.map dig
/-- A number as a text. -/
def printL (n : Int) : List UInt8 := if n < 0 then 45 :: decL n.natAbs else decL n.natAbs

theorem rest_zero : rest 0 = [] := by rw [rest]; rfl
theorem rest_pos {u : Nat} (h : 0 < u) : rest u = (u % 10) :: rest (u / 10) := by rw [rest, if_neg (by omega)]
theorem rest_low {u : Nat} (h : 0 < u) : rest u = lowL u := rest_pos h
theorem rest_lt (u : Nat) : ∀ d ∈ rest u, d < 10 := by
  induction u using Nat.strongRecOn with
  | ind u ih =>
    intro d hd
    by_cases h : u = 0
    · rw [h, rest_zero] at hd; cases hd
    · rw [rest_pos (by omega)] at hd
      rcases List.mem_cons.1 hd with rfl | hd
      · omega
      · exact ih (u / 10) (by omega) d hd
theorem lowL_lt (u : Nat) : ∀ d ∈ lowL u, d < 10 := by
  intro d hd
  rcases List.mem_cons.1 hd with rfl | hd
  · omega
  · exact rest_lt _ d hd
theorem rest_len (k : Nat) : ∀ u, u < 10 ^ k → (rest u).length ≤ k := by
  induction k with
  | zero => intro u h; have : u = 0 := by simpa using h
            rw [this, rest_zero]; simp
  | succ k ih =>
    intro u h
    by_cases hz : u = 0
    · rw [hz, rest_zero]; simp
    · rw [rest_pos (by omega), List.length_cons]
      have := ih (u / 10) (by rw [Nat.pow_succ] at h; omega)
      omega
theorem lowL_len {u : Nat} (h : u < 10000000000000000000) : (lowL u).length ≤ 19 := by
  have := rest_len 18 (u / 10) (by omega)
  unfold lowL; rw [List.length_cons]; omega
theorem lowL_ne (u : Nat) : lowL u ≠ [] := by unfold lowL; simp

theorem decL_len (u : Nat) : (decL u).length = (lowL u).length := by simp [decL]
theorem decL_ne (u : Nat) : decL u ≠ [] := by
  intro h; have := decL_len u; rw [h] at this; exact lowL_ne u (List.eq_nil_of_length_eq_zero this.symm)
theorem decL_lt {u : Nat} (h : u < 10) : decL u = [dig u] := by
  have e : u / 10 = 0 := by omega
  have m : u % 10 = u := by omega
  simp [decL, lowL, e, m, rest_zero]
theorem decL_ge {u : Nat} (h : 10 ≤ u) : decL u = decL (u / 10) ++ [dig (u % 10)] := by
  unfold decL
  rw [show lowL u = (u % 10) :: lowL (u / 10) by unfold lowL; rw [rest_pos (u := u / 10) (by omega)]]
  simp
theorem decL_snoc {v d : Nat} (hv : 0 < v) (hd : d < 10) : decL (v * 10 + d) = decL v ++ [dig d] := by
  rw [decL_ge (by omega), show (v * 10 + d) / 10 = v by omega, show (v * 10 + d) % 10 = d by omega]

/-- What an octet counts as a digit. -/
def cnt (c : UInt8) : Nat := c.toNat - 48
def isDig (c : UInt8) : Bool := decide (48 ≤ c.toNat ∧ c.toNat ≤ 57)
def valD (l : List UInt8) : Nat := l.foldl (fun n c => n * 10 + cnt c) 0

theorem dig_toNat {d : Nat} (h : d < 10) : (dig d).toNat = 48 + d := by
  unfold dig; rw [UInt8.toNat_ofNat']; omega
theorem cnt_dig {d : Nat} (h : d < 10) : cnt (dig d) = d := by unfold cnt; rw [dig_toNat h]; omega
theorem isDig_dig {d : Nat} (h : d < 10) : isDig (dig d) = true := by unfold isDig; rw [dig_toNat h]; exact decide_eq_true (by omega)
theorem dig_cnt {c : UInt8} (h : isDig c = true) : dig (cnt c) = c := by
  have h' := of_decide_eq_true h
  apply UInt8.toNat_inj.1
  rw [dig_toNat (by unfold cnt; omega)]
  unfold cnt; omega
theorem cnt_lt {c : UInt8} (h : isDig c = true) : cnt c < 10 := by have h' := of_decide_eq_true h; unfold cnt; omega

theorem valD_snoc (l : List UInt8) (c : UInt8) : valD (l ++ [c]) = valD l * 10 + cnt c := by simp [valD]
theorem valD_lt (l : List UInt8) (h : ∀ c ∈ l, isDig c = true) : valD l < 10 ^ l.length := by
  have gen : ∀ (l : List UInt8) (a e : Nat), (∀ c ∈ l, isDig c = true) → a < 10 ^ e → l.foldl (fun n c => n * 10 + cnt c) a < 10 ^ (e + l.length) := by
    intro l
    induction l with
    | nil => intro a e _ h; simpa using h
    | cons c l ih =>
      intro a e hc h
      have h1 := cnt_lt (hc c (List.mem_cons_self ..))
      have := ih (a * 10 + cnt c) (e + 1) (fun d hd => hc d (List.mem_cons_of_mem _ hd)) (by rw [Nat.pow_succ]; omega)
      rw [List.foldl_cons, List.length_cons, show e + (l.length + 1) = e + 1 + l.length by omega]
      exact this
  have := gen l 0 0 h (by simp)
  simpa [valD] using this
theorem valD_take {l : List UInt8} (k : Nat) (h : ∀ c ∈ l, isDig c = true) (hk : k ≤ 18) : valD (l.take k) < 1000000000000000000 := by
  have h1 := valD_lt (l.take k) (fun c hc => h c (List.mem_of_mem_take hc))
  have h2 : 10 ^ (l.take k).length ≤ 10 ^ 18 := Nat.pow_le_pow_right (by omega) (by rw [List.length_take]; omega)
  omega
theorem valD_all {l : List UInt8} (h : ∀ c ∈ l, isDig c = true) (hl : l.length ≤ 19) : valD l < 10000000000000000000 := by
  have h1 := valD_lt l h
  have h2 : 10 ^ l.length ≤ 10 ^ 19 := Nat.pow_le_pow_right (by omega) hl
  omega

theorem decL_dig (u : Nat) : ∀ c ∈ decL u, isDig c = true := by
  intro c hc
  obtain ⟨d, hd, rfl⟩ := List.mem_map.1 hc
  exact isDig_dig (lowL_lt u d (List.mem_reverse.1 hd))
theorem valD_decL (u : Nat) : valD (decL u) = u := by
  induction u using Nat.strongRecOn with
  | ind u ih =>
    by_cases h : u < 10
    · rw [decL_lt h]; simp [valD, cnt_dig h]
    · rw [decL_ge (by omega), valD_snoc, ih _ (by omega), cnt_dig (by omega)]; omega
theorem decL_head (u : Nat) (h : 0 < u) : (decL u).head? ≠ some 48 := by
  induction u using Nat.strongRecOn with
  | ind u ih =>
    by_cases h1 : u < 10
    · rw [decL_lt h1, List.head?_cons]
      intro e
      have e1 := congrArg UInt8.toNat (Option.some.inj e)
      rw [dig_toNat h1] at e1
      have : (48 : UInt8).toNat = 48 := rfl
      omega
    · rw [decL_ge (by omega), List.head?_append]
      have := ih (u / 10) (by omega) (by omega)
      cases hh : (decL (u / 10)).head? with
      | none => exact absurd (List.head?_eq_none_iff.1 hh) (decL_ne _)
      | some c => rw [hh] at this; simpa using this

/-- A text of digits without a 0 ahead is that of its number. -/
theorem decL_valD (n : Nat) : ∀ t : List UInt8, t.length = n → t ≠ [] → (∀ c ∈ t, isDig c = true) → (t.head? = some 48 → t.length = 1) → decL (valD t) = t ∧ (t.head? ≠ some 48 → 0 < valD t) := by
  induction n with
  | zero => intro t hl hne; exact absurd (List.eq_nil_of_length_eq_zero hl) hne
  | succ n ih =>
    intro t hl hne hd hh
    obtain ⟨l, c, rfl⟩ : ∃ l c, t = l ++ [c] := ⟨_, _, (List.dropLast_concat_getLast hne).symm⟩
    have hc := hd c (by simp)
    by_cases hln : l = []
    · subst hln
      have e : valD ([] ++ [c]) = cnt c := by simp [valD]
      rw [e, decL_lt (cnt_lt hc), dig_cnt hc]
      refine ⟨rfl, fun h => ?_⟩
      by_cases h0 : cnt c = 0
      · exfalso; apply h
        rw [← dig_cnt hc, h0]; rfl
      · omega
    · have hll : l.length = n := by simp at hl; exact hl
      have hhd : (l ++ [c]).head? = l.head? := by
        cases l with
        | nil => exact absurd rfl hln
        | cons a l => rfl
      have hn0 : l.head? ≠ some 48 := by
        intro e
        have := hh (by rw [hhd]; exact e)
        rw [List.length_append, List.length_singleton] at this
        exact hln (List.eq_nil_of_length_eq_zero (by omega))
      obtain ⟨h1, h2⟩ := ih l hll hln (fun d hdl => hd d (by simp [hdl])) (fun e => absurd e hn0)
      have hv := h2 hn0
      rw [valD_snoc, decL_snoc hv (cnt_lt hc), h1, dig_cnt hc]
      exact ⟨rfl, fun _ => by omega⟩

/-- Digits alone. -/
def allDig (l : List UInt8) : Bool := l.all isDig
theorem allDig_of {l : List UInt8} (h : ∀ c ∈ l, isDig c = true) : allDig l = true := List.all_eq_true.2 h
theorem allDig_mem {l : List UInt8} (h : allDig l = true) : ∀ c ∈ l, isDig c = true := List.all_eq_true.1 h
theorem allDig_no {l : List UInt8} {c : UInt8} (hc : c ∈ l) (h : isDig c = false) : allDig l = false := List.all_eq_false.2 ⟨c, hc, by rw [h]; simp⟩

/-- The number of that size, below 0 or not, and the error's. -/
def signedL (u : Nat) (below : Bool) : Int × Nat :=
  if below then (if u ≤ 9223372036854775808 then (-(u : Int), 0) else (0, 4)) else (if u ≤ 9223372036854775807 then ((u : Int), 0) else (0, 4))
/-- What comes of the digits t, - ahead or not. -/
def parseT (below : Bool) (t : List UInt8) : Int × Nat :=
  if t = [] then (0, 8) else if allDig t = false then (0, 33) else if t.head? = some 48 ∧ (below = true ∨ 1 < t.length) then (0, 33) else if 19 < t.length then (0, 4) else signedL (valD t) below
def parseL (l : List UInt8) : Int × Nat := if l.head? = some 45 then parseT true l.tail else parseT false l

theorem head_dig {t : List UInt8} (hd : ∀ c ∈ t, isDig c = true) : t.head? ≠ some 45 := by
  intro h
  cases t with
  | nil => cases h
  | cons a t =>
    have ha := hd a (by simp)
    rw [Option.some.inj h] at ha
    exact absurd ha (by decide)

theorem parse_print (n : Int) (h0 : -9223372036854775808 ≤ n) (h1 : n ≤ 9223372036854775807) : parseL (printL n) = (n, 0) := by
  have hall : ∀ u, allDig (decL u) = true := fun u => allDig_of (decL_dig u)
  have hlen : ∀ u, u < 10000000000000000000 → ¬ 19 < (decL u).length := fun u h => by rw [decL_len]; have := lowL_len h; omega
  unfold parseL printL
  by_cases hn : n < 0
  · rw [if_pos hn, if_pos (by rfl), List.tail_cons]
    unfold parseT
    rw [if_neg (decL_ne _), if_neg (by rw [hall]; simp), if_neg (fun h => decL_head _ (by omega) h.1), if_neg (hlen _ (by omega)), valD_decL]
    unfold signedL
    rw [if_pos rfl, if_pos (by omega)]
    congr 1; omega
  · rw [if_neg hn, if_neg (head_dig (decL_dig _))]
    unfold parseT
    rw [if_neg (decL_ne _), if_neg (by rw [hall]; simp)]
    rw [if_neg (by
      intro ⟨h48, h⟩
      by_cases hz : n.natAbs = 0
      · rw [hz, decL_lt (by omega)] at h; simp at h
      · exact decL_head _ (by omega) h48), if_neg (hlen _ (by omega)), valD_decL]
    unfold signedL
    rw [if_neg (by simp), if_pos (by omega)]
    congr 1; omega

theorem print_parse (l : List UInt8) (k : Int) (h : parseL l = (k, 0)) : printL k = l := by
  have gen : ∀ (below : Bool) (t : List UInt8), parseT below t = (k, 0) → printL k = (if below then 45 :: t else t) := by
    intro below t h
    unfold parseT at h
    by_cases c1 : t = []
    · rw [if_pos c1] at h; simp at h
    rw [if_neg c1] at h
    by_cases c2 : allDig t = false
    · rw [if_pos c2] at h; simp at h
    rw [if_neg c2] at h
    by_cases c3 : t.head? = some 48 ∧ (below = true ∨ 1 < t.length)
    · rw [if_pos c3] at h; simp at h
    rw [if_neg c3] at h
    by_cases c4 : 19 < t.length
    · rw [if_pos c4] at h; simp at h
    rw [if_neg c4] at h
    have hd : ∀ c ∈ t, isDig c = true := allDig_mem (by simpa using c2)
    have hlen1 : 0 < t.length := List.length_pos_iff.2 c1
    have hone : t.head? = some 48 → t.length = 1 := fun e => by
      by_cases hq : 1 < t.length
      · exact absurd ⟨e, .inr hq⟩ c3
      · omega
    obtain ⟨hb, hp⟩ := decL_valD t.length t rfl c1 hd hone
    unfold signedL at h
    cases below with
    | true =>
      have hv := hp (fun e => c3 ⟨e, .inl rfl⟩)
      rw [if_pos rfl] at h
      by_cases c5 : valD t ≤ 9223372036854775808
      · rw [if_pos c5] at h
        have hk : k = -(valD t : Int) := (Prod.mk.inj h).1.symm
        unfold printL
        rw [if_pos (by omega), show k.natAbs = valD t by omega, hb]
        rfl
      · rw [if_neg c5] at h; simp at h
    | false =>
      rw [if_neg (by simp)] at h
      by_cases c5 : valD t ≤ 9223372036854775807
      · rw [if_pos c5] at h
        have hk : k = (valD t : Int) := (Prod.mk.inj h).1.symm
        unfold printL
        rw [if_neg (by omega), show k.natAbs = valD t by omega, hb]
        rfl
      · rw [if_neg c5] at h; simp at h
  unfold parseL at h
  by_cases c : l.head? = some 45
  · rw [if_pos c] at h
    have := gen true l.tail h
    rw [this, if_pos rfl]
    cases l with
    | nil => cases c
    | cons a l => rw [Option.some.inj c]; rfl
  · rw [if_neg c] at h
    exact gen false l h
end Go.Proofs.YtganmmkdcaphfaaGreatDoor.Num

/-
  Contracts of two leaves of package number that later layers call too: whether a number lies between two others, how great it is without its sign; they change nothing.
-/
namespace Go.Proofs.YtganmmkdcaphfaaGreatDoor.Num
open Go.RowKit Go.Proofs.YtganmmkdcaphfaaGreatDoor.Oct

def betweenB (n a b : Int) : Bool := decide (a ≤ n ∧ n ≤ b)


theorem within_c (n a b : Int) (w : World) :
    Calls Tryz.prog 101 #[.int .i64 n, .int .i64 a, .int .i64 b] w fun e w' => e = .returned (.bool (betweenB n a b)) ∧ w = w' := by
  go_enter Tryz.func101, Tryz.ntmps101
  go_wp2
  all_goals go_ret
  all_goals (refine ⟨ret_bool ?_, rfl⟩; unfold betweenB; rw [Bool.eq_iff_iff]; simp; try omega)

theorem sizeOf_c (n : Int) (w : World) (h0 : -9223372036854775808 ≤ n) (h1 : n ≤ 9223372036854775807) :
    Calls Tryz.prog 136 #[.int .i64 n] w fun e w' => e = .returned (.int .u64 (n.natAbs : Int)) ∧ w = w' := by
  by_cases hn : n < 0
  all_goals
    go_enter Tryz.func136, Tryz.ntmps136
    go_wp2
    go_ret
    refine ⟨ret_int ?_, rfl⟩
    (try simp only [IntKind.wrap_u64])
    omega

end Go.Proofs.YtganmmkdcaphfaaGreatDoor.Num

/-
  Contracts of the reader's take, unit, char, and of ending.
-/
namespace Go.Proofs.YtganmmkdcaphfaaGreatDoor.Rd
open Go.RowKit Go.Proofs.YtganmmkdcaphfaaGreatDoor.Oct

theorem ending_c (k : Int) (w : World) : Calls Tryz.prog 72 #[.int .i64 k] w fun e w' => e = .returned (.string (S (if k = 6 then [125] else [93]))) ∧ w' = w := by
  by_cases h : k = 6
  · subst h
    go_enter Tryz.func72, Tryz.ntmps72
    go_wp2
    go_ret
    exact ⟨rfl, rfl⟩
  · have hk : (k == 6) = false := by simpa using h
    rw [if_neg h]
    clear h
    go_enter Tryz.func72, Tryz.ntmps72
    go_wp2
    go_ret
    exact ⟨rfl, rfl⟩

/-- What take reads. -/
def takeP (n : Nat) (l : List UInt8) : Option (List UInt8 × List UInt8) := if n ≤ l.length then some (l.take n, l.drop n) else none
/-- An answer that is a text. -/
abbrev asS (o : Option (List UInt8 × List UInt8)) : Option (Value × List UInt8) := o.map fun (a, t) => (.string (S a), t)
/-- An answer that is a number. -/
abbrev asN (o : Option (Nat × List UInt8)) : Option (Value × List UInt8) := o.map fun (a, t) => (.int .i64 (a : Int), t)

theorem cut_front (s : ByteArray) (n : Nat) : s.extract 0 n = S (s.data.toList.take n) := by
  rw [Lib.extract_eq]; simp [S]
theorem cut_back (s : ByteArray) (n : Nat) : s.extract n s.size = S (s.data.toList.drop n) := by
  rw [Lib.extract_eq, List.take_of_length_le (by rw [List.length_drop, size_list]; omega)]

theorem take_c (R : Nat) (n : Nat) (s : ByteArray) (ov dv : Value) (w : World) (h : Rd R s ov dv w) :
    Calls Tryz.prog 99 #[.pointer (some ⟨R, 0, none⟩), .int .i64 (n : Int)] w (Reads R ov dv w (asS (takeP n s.data.toList))) := by
  have c0 := h.cell0
  have z0 := h.frozen 0
  have H := Lib.hid h
  clear h
  unfold takeP
  by_cases hn : n ≤ s.size
  · rw [if_pos (by rw [size_list]; exact hn)]
    have hn' : (n : Int) ≤ (s.size : Int) := by omega
    have hn0 : (0 : Int) ≤ (n : Int) := by omega
    go_enter Tryz.func99, Tryz.ntmps99
    go_wp2_with (go_at_call 57; refine (demand_yes _ _).mono ?_; rintro e w2 ⟨rfl, rfl⟩)
    go_ret
    refine ⟨?_, ?_, Save.setR _ _⟩
    · rw [← cut_front]; rfl
    · rw [← cut_back]; exact H.out.set _
  · rw [if_neg (by rw [size_list]; exact hn)]
    go_enter Tryz.func99, Tryz.ntmps99
    go_wp2_with (go_at_call 57; refine (demand_no _ _).mono ?_; rintro e w2 ⟨rfl, rfl⟩)
    exact ⟨rfl, rfl, Save.refl _ _⟩

/-- What unit reads. -/
def unitP (l : List UInt8) : Option (Nat × List UInt8) :=
  if Lib.hasPrefix l [92, 117] then
    match takeP 4 (l.drop 2) with
    | some (a, t) => if (unhexL a).2 = 0 then some ((unhexL a).1, t) else none
    | none => none
  else none

theorem unit_c (R : Nat) (s : ByteArray) (ov dv : Value) (w : World) (h : Rd R s ov dv w) :
    Calls Tryz.prog 100 #[.pointer (some ⟨R, 0, none⟩)] w (Reads R ov dv w (asN (unitP s.data.toList))) := by
  have hm := must_c R s (S [92, 117]) ov dv w h
  rw [list_S] at hm
  clear h
  unfold mustP at hm
  unfold unitP
  cases hp : Lib.hasPrefix s.data.toList [92, 117] with
  | false =>
    rw [hp] at hm
    simp only [Bool.false_eq_true, if_false] at hm ⊢
    go_enter Tryz.func100, Tryz.ntmps100
    go_wp2_with (go_at_call 71; refine hm.mono ?_; rintro e w1 ⟨rfl, h2⟩)
    exact ⟨rfl, rfl, h2⟩
  | true =>
    rw [hp] at hm
    simp only [if_true] at hm ⊢
    have ht := fun w1 (h1 : Rd R (S (s.data.toList.drop 2)) ov dv w1) => take_c R 4 _ ov dv w1 h1
    simp only at ht
    have hd : ([92, 117] : List UInt8).length = 2 := rfl
    rw [hd] at hm
    generalize s.data.toList.drop 2 = l1 at hm ht ⊢
    cases hk : takeP 4 l1 with
    | none =>
      rw [hk] at ht
      go_enter Tryz.func100, Tryz.ntmps100
      go_wp2_with (first
        | (go_at_call 71; refine hm.mono ?_; rintro e w1 ⟨rfl, h1, h2⟩; have HX := Lib.hid (And.intro h1 h2); clear h1 h2)
        | (go_at_call 99; refine (ht _ HX.out.1).mono ?_; rintro e w2 ⟨rfl, h3⟩))
      exact ⟨rfl, rfl, HX.out.2.trans h3⟩
    | some q =>
      obtain ⟨a, t⟩ := q
      rw [hk] at ht
      have hu := fun w => unhex_c (S a) w
      simp only at hu
      obtain ⟨q, hq⟩ : ∃ q, unhexL a = q := ⟨_, rfl⟩
      rw [hq] at hu
      simp only [hq]
      clear hq
      obtain ⟨v, er⟩ := q
      by_cases he : er = 0
      · subst he
        go_enter Tryz.func100, Tryz.ntmps100
        go_wp2_with (first
          | (go_at_call 71; refine hm.mono ?_; rintro e w1 ⟨rfl, h1, h2⟩; have HX := Lib.hid (And.intro h1 h2); clear h1 h2)
          | (go_at_call 99; refine (ht _ HX.out.1).mono ?_; rintro e w2 ⟨rfl, h3, h4⟩; have HY := Lib.hid (And.intro h3 h4); clear h3 h4)
          | (go_at_call 114; refine (hu _).mono ?_; rintro e w3 ⟨rfl, h5⟩)
          | (go_at_call 57; refine (demand_yes _ _).mono ?_; rintro e w4 ⟨rfl, rfl⟩))
        go_ret
        exact ⟨rfl, HY.out.1.keep h5, (HX.out.2.trans HY.out.2).trans (Save.of h5)⟩
      · have he' : ((er : Int) == 0) = false := by simp; omega
        simp only [he]
        go_enter Tryz.func100, Tryz.ntmps100
        go_wp2_with (first
          | (go_at_call 71; refine hm.mono ?_; rintro e w1 ⟨rfl, h1, h2⟩; have HX := Lib.hid (And.intro h1 h2); clear h1 h2)
          | (go_at_call 99; refine (ht _ HX.out.1).mono ?_; rintro e w2 ⟨rfl, h3, h4⟩; have HY := Lib.hid (And.intro h3 h4); clear h3 h4)
          | (go_at_call 114; refine (hu _).mono ?_; rintro e w3 ⟨rfl, h5⟩)
          | (go_at_call 57; refine (demand_no _ _).mono ?_; rintro e w4 ⟨rfl, rfl⟩))
        exact ⟨rfl, rfl, (HX.out.2.trans HY.out.2).trans (Save.of h5)⟩
end Go.Proofs.YtganmmkdcaphfaaGreatDoor.Rd
