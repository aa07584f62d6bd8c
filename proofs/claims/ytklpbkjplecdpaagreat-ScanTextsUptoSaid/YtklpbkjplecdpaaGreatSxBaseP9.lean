/-
  Part 9: CrfPure2, Mem, UtfLeaves, CrfLeaf, OctHex, OctUnhex.
-/
import Derived.Test.YtklpbkjplecdpaaGreatSxBaseP1
import Derived.Lib.Strings
import Derived.Test.YtklpbkjplecdpaaGreatProg
import Derived.Lib.BufferRead
import Derived.Laws.IdiomStrings
import Derived.Lib.Hide
import Derived.Deep.RegionHeld
import Derived.Lib.Small
import Derived.Test.YtklpbkjplecdpaaGreatSxBaseP5
import Derived.Test.YtklpbkjplecdpaaGreatSxBaseP8
import Derived.Deep.QuietTactic
import Derived.BigQuiet
/-
  Plain facts on character references, with no program: the page's way of reading one, and a beginning of one, is the same.
-/
namespace Go.Proofs.YtklpbkjplecdpaaGreat.Crf
open Oct Num Utf
open Go.Lib (encodeRune)

def runN (base : Int) (l : List UInt8) : Nat := (l.takeWhile (digB base)).length
theorem runN_le (base : Int) (l : List UInt8) : runN base l ≤ l.length := (List.takeWhile_prefix _).length_le
theorem runN_take (base : Int) (l : List UInt8) : l.take (runN base l) = l.takeWhile (digB base) := by
  have h : l.takeWhile (digB base) <+: l := List.takeWhile_prefix _
  exact (List.prefix_iff_eq_take.1 h).symm
theorem runN_all (base : Int) (l : List UInt8) : (l.take (runN base l)).all (digB base) = true := by
  rw [runN_take]
  exact List.all_eq_true.2 fun c hc => mem_tw _ _ c hc
theorem runN_at (base : Int) (l t : List UInt8) (h : l.all (digB base) = true) : runN base (l ++ 59 :: t) = l.length := by
  unfold runN
  rw [List.takeWhile_append_of_pos (List.all_eq_true.1 h)]
  have : digB base 59 = false := by
    cases hd : digB base 59 with
    | false => rfl
    | true => exact absurd rfl (no59 59 base hd)
  rw [List.takeWhile_cons_of_neg (by rw [this]; simp)]
  simp
theorem runN_full (base : Int) (l : List UInt8) : runN base l = l.length ↔ l.all (digB base) = true := by
  constructor
  · intro h
    have := runN_all base l
    rw [h, List.take_length] at this
    exact this
  · intro h
    unfold runN
    have : l.takeWhile (digB base) = l := by
      have := List.takeWhile_append_of_pos (l₂ := []) (List.all_eq_true.1 h)
      simpa using this
    rw [this]

def pNum (u : List UInt8) : List UInt8 × Nat :=
  if 1 ≤ runN (baseOf u) (digsOf u) ∧ runN (baseOf u) (digsOf u) ≤ 7 ∧ (digsOf u)[runN (baseOf u) (digsOf u)]? = some 59
  then (standL (valB (baseOf u) ((digsOf u).take (runN (baseOf u) (digsOf u)))), 2 + (if isHex u then 1 else 0) + runN (baseOf u) (digsOf u) + 1) else ([], 0)
def pOne (l : List UInt8) : List UInt8 × Nat :=
  if Lib.hasPrefix l [38, 97, 109, 112, 59] then ([38], 5) else if Lib.hasPrefix l [38, 108, 116, 59] then ([60], 4) else if Lib.hasPrefix l [38, 103, 116, 59] then ([62], 4)
  else if Lib.hasPrefix l [38, 113, 117, 111, 116, 59] then ([34], 6) else if Lib.hasPrefix l [38, 97, 112, 111, 115, 59] then ([39], 6)
  else if Lib.hasPrefix l [38, 35] then pNum (l.drop 2) else ([], 0)

theorem pre_iff (l p : List UInt8) : Lib.hasPrefix l p = true ↔ p <+: l := by
  unfold Lib.hasPrefix
  exact List.isPrefixOf_iff_prefix
theorem pre_cut {l p : List UInt8} (h : Lib.hasPrefix l p = true) : ∃ t, l = p ++ t := by
  obtain ⟨t, ht⟩ := (pre_iff l p).1 h
  exact ⟨t, ht.symm⟩

theorem hex_front (u t : List UInt8) : isHex (u ++ 59 :: t) = isHex u := by
  cases u with
  | nil => rfl
  | cons c u => rfl
theorem digs_front (u t : List UInt8) : digsOf (u ++ 59 :: t) = digsOf u ++ 59 :: t := by
  unfold digsOf
  rw [hex_front]
  cases u with
  | nil => rfl
  | cons c u => cases isHex (c :: u) <;> simp
theorem base_front (u t : List UInt8) : baseOf (u ++ 59 :: t) = baseOf u := by unfold baseOf; rw [hex_front]
theorem digs_len (u : List UInt8) : u.length = (digsOf u).length + if isHex u then 1 else 0 := by
  rcases digs_cases u with ⟨h, c, _, e⟩ | ⟨h, e⟩
  · rw [h]
    have := congrArg List.length e
    simpa using this
  · rw [h, e]; simp

theorem pNum_yes (u t : List UInt8) (h1 : (digsOf u).length ≤ 7) (h2 : (digsOf u).all (digB (baseOf u)) = true) (h0 : digsOf u ≠ []) : pNum (u ++ 59 :: t) = (standL (valB (baseOf u) (digsOf u)), u.length + 3) := by
  have hr := runN_at (baseOf u) (digsOf u) t h2
  have hp := List.length_pos_iff.2 h0
  unfold pNum
  rw [digs_front, base_front, hex_front, hr, if_pos ⟨hp, h1, by simp⟩, List.take_left, digs_len u]
  congr 1
  omega
theorem digs_hex (c : UInt8) (l : List UInt8) (h : isHex (c :: l) = true) : digsOf (c :: l) = l := by
  unfold digsOf
  rw [h]
  rfl
theorem pNum_ref (u : List UInt8) (h : (pNum u).2 ≠ 0) : ∃ i t, 35 :: u = i ++ 59 :: t ∧ refR i ≠ [] := by
  unfold pNum at h
  split at h
  · rename_i hc
    obtain ⟨c1, c2, c3⟩ := hc
    generalize hn : runN (baseOf u) (digsOf u) = n at c1 c2 c3
    have hall := runN_all (baseOf u) (digsOf u)
    rw [hn] at hall
    obtain ⟨hlt, hat⟩ := List.getElem?_eq_some_iff.1 c3
    have hs : digsOf u = (digsOf u).take n ++ 59 :: (digsOf u).drop (n + 1) := by
      conv => lhs; rw [← List.take_append_drop n (digsOf u), List.drop_eq_getElem_cons hlt, hat]
    have hne : (digsOf u).take n ≠ [] := by
      intro e
      have := congrArg List.length e
      rw [List.length_take, List.length_nil] at this
      omega
    rcases digs_cases u with ⟨hh, c, hc, e⟩ | ⟨hh, e⟩
    · have hx1 : isHex (c :: (digsOf u).take n) = true := by rcases hc with rfl | rfl <;> rfl
      have e1 : digsOf (c :: (digsOf u).take n) = (digsOf u).take n := digs_hex c _ hx1
      have e2 : baseOf (c :: (digsOf u).take n) = baseOf u := by unfold baseOf; rw [hx1, hh]
      refine ⟨35 :: c :: (digsOf u).take n, (digsOf u).drop (n + 1), ?_, ?_⟩
      · rw [List.cons_append, List.cons_append, ← hs, ← e]
      · rw [ref_num _ (by rw [e1, List.length_take]; omega) (by rw [e1, e2]; exact hall) (by rw [e1]; exact hne)]
        exact stand_ne _
    · rw [e] at hs hall hne hlt
      have hx1 : isHex (u.take n) = false := by
        rw [← hh]
        cases u with
        | nil => simp
        | cons c u =>
          cases n with
          | zero => omega
          | succ n => rfl
      have e1 : digsOf (u.take n) = u.take n := by unfold digsOf; rw [hx1]; simp
      have e2 : baseOf (u.take n) = baseOf u := by unfold baseOf; rw [hx1, hh]
      refine ⟨35 :: u.take n, u.drop (n + 1), by rw [List.cons_append, ← hs], ?_⟩
      rw [ref_num _ (by rw [e1, List.length_take]; omega) (by rw [e1, e2]; exact hall) (by rw [e1]; exact hne)]
      exact stand_ne _
  · exact absurd rfl h
theorem pNum_zero (u : List UInt8) (h : (pNum u).2 = 0) : pNum u = ([], 0) := by
  unfold pNum at h ⊢
  split
  · rename_i hc
    rw [if_pos hc] at h
    simp at h
  · rfl

theorem one_pos (i t : List UInt8) (h : refR i ≠ []) : (oneL (38 :: (i ++ 59 :: t))).2 ≠ 0 := by rw [one_of i t h]; simp

theorem pOne_eq (l : List UInt8) : pOne l = oneL l := by
  by_cases hz : (oneL l).2 = 0
  · rw [one_zero hz]
    have no : ∀ i t, refR i ≠ [] → l ≠ 38 :: (i ++ 59 :: t) := fun i t hr e => one_pos i t hr (e ▸ hz)
    unfold pOne
    split
    · rename_i hp; obtain ⟨t, e⟩ := pre_cut hp; exact absurd e (no amp t (by decide))
    · split
      · rename_i hp; obtain ⟨t, e⟩ := pre_cut hp; exact absurd e (no lt' t (by decide))
      · split
        · rename_i hp; obtain ⟨t, e⟩ := pre_cut hp; exact absurd e (no gt' t (by decide))
        · split
          · rename_i hp; obtain ⟨t, e⟩ := pre_cut hp; exact absurd e (no quot t (by decide))
          · split
            · rename_i hp; obtain ⟨t, e⟩ := pre_cut hp; exact absurd e (no apos t (by decide))
            · split
              · rename_i hp
                obtain ⟨t, e⟩ := pre_cut hp
                have ed : l.drop 2 = t := by rw [e]; rfl
                rw [ed]
                by_cases hn : (pNum t).2 = 0
                · exact pNum_zero t hn
                · obtain ⟨i, v, e2, hr⟩ := pNum_ref t hn
                  exfalso
                  refine no i v hr ?_
                  rw [e, ← e2]
                  rfl
              · rfl
  · obtain ⟨i, t, rfl, hr, he⟩ := one_some hz
    rw [he]
    by_cases hn : nameR i = []
    · have hr' := hr
      unfold refR at hr'
      rw [hn] at hr'
      cases hk : numR i with
      | none => rw [hk] at hr'; exact absurd rfl hr'
      | some q =>
        obtain ⟨n, d⟩ := q
        obtain ⟨u, rfl, h1, h2, -, h4⟩ := num_some hk
        rw [hk] at hr'
        have h0 : digsOf u ≠ [] := by
          intro e
          rw [e] at h4
          rw [h4] at hr'
          simp at hr'
        have hy := pNum_yes u t h1 h2 h0
        rw [ref_num u h1 h2 h0]
        unfold pOne
        simp only [Lib.hasPrefix, List.cons_append, List.isPrefixOf, List.drop_succ_cons, List.drop_zero]
        rw [hy]
        simp
    · rcases name_cases hn with rfl | rfl | rfl | rfl | rfl
      · simp [pOne, Lib.hasPrefix, List.isPrefixOf, refR, nameR]
      · simp [pOne, Lib.hasPrefix, List.isPrefixOf, refR, nameR]
      · simp [pOne, Lib.hasPrefix, List.isPrefixOf, refR, nameR]
      · simp [pOne, Lib.hasPrefix, List.isPrefixOf, refR, nameR]
      · simp [pOne, Lib.hasPrefix, List.isPrefixOf, refR, nameR]

end Go.Proofs.YtklpbkjplecdpaaGreat.Crf

/-
  Memory that the call itself made: a slice of octets and what it is as a text; worlds in which all older memory is unturned.
-/
namespace Go.Proofs.YtklpbkjplecdpaaGreat.Mem
open Go.RowKit Oct

theorem info_u8 : (Tryz.prog.info? 5).map (fun i => (i.zero, i.size, i.bytes)) = some (some (.int .u8 0), 1, 1) := by kernel_rfl

abbrev bv (c : UInt8) : Value := .int .u8 (c.toNat : Int)

theorem conv_own {w : World} {base n : Nat} {v : Value} {l : List UInt8} (h : w.ownsRow base 5 1 v n (l.map bv)) :
    (convert 49 9 v).run Tryz.prog w = .ok (.string (S l)) w := by
  have hn : l.length = n := by simpa using h.1
  rcases h.2 with ⟨rfl, hz⟩ | ⟨g, cap, cur, rfl, hg, hh, hnc, hcm, hcs, htk⟩
  · have hl : l = [] := List.eq_nil_of_length_eq_zero (by omega)
    subst hl
    exact Lib.run_convert_nil_bytes w _ _ 5 0 Tryz.underlying49 Tryz.underlying5 Tryz.underlying9
  · subst hn
    exact run_convert_bytes_back w _ _ 5 ⟨g, 0, none⟩ cap l Tryz.underlying49 Tryz.underlying5 Tryz.underlying9
      (fun j hj => by
        have h1 := h.cellAt j (by omega)
        rw [Addr.add_lit, Nat.zero_add, h1]
        simp [hj])

theorem own_base {w : World} {base n : Nat} {e : TypeId} {v : Value} {xs : List Value} (h : w.ownsRow base e 1 v n xs) : ∀ k, v.ownBlock = some k → base ≤ k := by
  intro k hk
  rcases h.2 with ⟨rfl, _⟩ | ⟨g, cap, cur, rfl, hg, _⟩
  · simp [Value.ownBlock] at hk
  · simp [Value.ownBlock] at hk; omega

abbrev Kept (w w' : World) : Prop := Below w.heap.size w w'
theorem kept_trans {a b c : World} (h : Kept a b) (k : Kept b c) : Kept a c := Below.trans h (k.mono h.size)
theorem kept_cell {w w' : World} (h : Kept w w') {p : Addr} {v : Value} (hc : w.cell? p = some v) : w'.cell? p = some v := by
  rw [h.cell (World.block_lt_of_cell? w p hc)]; exact hc

theorem own_kept {w w' : World} {base n size : Nat} {e : TypeId} {v : Value} {xs : List Value} (h : w.ownsRow base e size v n xs) (hb : Kept w w') : w'.ownsRow base e size v n xs := by
  refine h.kept (row := none) ⟨hb.os, hb.tape, hb.output, hb.size, fun k hk _ => hb.block k hk⟩ ?_
  rcases h.2 with ⟨rfl, _⟩ | ⟨g, cap, cur, rfl, _⟩
  · exact .inl rfl
  · exact .inr (by simp [Value.ownBlock])

theorem str_beq (a b : ByteArray) : (a.toList == b.toList) = decide (a = b) := by
  rw [Bool.eq_iff_iff]
  simp only [beq_iff_eq, decide_eq_true_eq]
  constructor
  · intro h; rw [ByteArray.toList_eq, ByteArray.toList_eq] at h; rw [← S_list a, ← S_list b, h]
  · intro h; rw [h]

theorem info_int : (Tryz.prog.info? 3).map (fun i => (i.zero, i.size, i.bytes)) = some (some (.int .i64 0), 1, 8) := by kernel_rfl
abbrev iv (c : Int) : Value := .int .i64 c
end Go.Proofs.YtklpbkjplecdpaaGreat.Mem

/-
  Contracts of utf.character, Encode, Decode, and of the law's own num.
-/
namespace Go.Proofs.YtklpbkjplecdpaaGreat.Utf
open Go.RowKit Oct Mem
open Go.Lib (encodeRune)

theorem valid_eq (c : Int) : Lib.validRune c = charB c := by unfold Lib.validRune charB isChar; rfl

theorem character_c (n : Int) (w : World) :
    Calls Tryz.prog 180 #[.int .i64 n] w fun e w' => e = .returned (.bool (charB n)) ∧ w = w' := by
  by_cases h0 : 0 ≤ n
  · by_cases h1 : n ≤ 1114111
    · have hv := fun w => Tryz.utf8_ValidRune n w
      simp only [valid_eq] at hv
      generalize charB n = b at hv
      go_enter Tryz.func180, Tryz.ntmps180
      go_wp2_with (go_at_call 184; refine (hv _).mono ?_; rintro e w' ⟨rfl, rfl⟩)
      go_ret
      exact ⟨rfl, rfl⟩
    · have hb : charB n = false := decide_eq_false (by unfold isChar; omega)
      rw [hb]
      have hd : decide (n ≤ 1114111) = false := by simpa using h1
      clear h1
      go_enter Tryz.func180, Tryz.ntmps180
      go_wp2_with fail
      go_ret
      exact ⟨rfl, rfl⟩
  · have hb : charB n = false := decide_eq_false (by unfold isChar; omega)
    rw [hb]
    have hd : decide (0 ≤ n) = false := by simpa using h0
    clear h0
    go_enter Tryz.func180, Tryz.ntmps180
    go_wp2_with fail
    go_ret
    exact ⟨rfl, rfl⟩

theorem runeCells_eq (c : Int) : Lib.runeCells c = (encodeRune c).map bv := (Lib.byteCells_encodeRune c).symm

theorem encode_no (c : Int) (w : World) (h : charB c = false) :
    Calls Tryz.prog 158 #[.int .i64 c] w fun e w' => e = .returned (.tuple #[.string ⟨#[]⟩, .int .i64 4]) ∧ Kept w w' := by
  have hc := fun w => character_c c w
  simp only [h] at hc
  clear h
  go_enter Tryz.func158, Tryz.ntmps158
  go_wp2_with (go_at_call 180; refine (hc _).mono ?_; rintro e w' ⟨rfl, rfl⟩)
  go_ret2
  exact ⟨rfl, Below.refl _ _⟩

set_option maxHeartbeats 1000000 in
theorem encode_yes (c : Int) (w : World) (h : charB c = true) :
    Calls Tryz.prog 158 #[.int .i64 c] w fun e w' => e = .returned (.tuple #[.string (S (encodeRune c)), .int .i64 0]) ∧ Kept w w' := by
  have hch : isChar c := of_decide_eq_true h
  have h0 : 0 ≤ c := by unfold isChar at hch; omega
  have h1 : c ≤ 1114111 := by unfold isChar at hch; omega
  clear hch
  have hc := fun w => character_c c w
  simp only [h] at hc
  clear h
  have ha := Tryz.utf8_AppendRune_plain w.heap.size (.slice none 0 0) 0 [] c (by omega) (by omega) w (World.ownsRow_nil _ _ _ _) (by omega) (Nat.le_refl _)
  go_enter Tryz.func158, Tryz.ntmps158
  go_wp2_with (go_at_call 180; refine (hc _).mono ?_; rintro e w' ⟨rfl, rfl⟩)
  refine ha.mono ?_
  rintro e w1 ⟨v, rfl, hown, o, hg⟩
  rw [List.nil_append, runeCells_eq] at hown
  have hcv := conv_own hown
  have hb : Kept w w1 := ((Below.refl _ w).alloc (Nat.le_refl _) o).grown hg (by simp) (fun k hk => by simp [Value.ownBlock] at hk)
  have HB := Lib.hid hb
  clear hb hg hown
  go_wp2
  go_ret2
  exact ⟨rfl, HB.out⟩

end Go.Proofs.YtklpbkjplecdpaaGreat.Utf

/-
  Contracts of strings.Cut at one octet, of escaped, character and names of package refs.
-/
namespace Go.Proofs.YtklpbkjplecdpaaGreat.Crf
open Go.RowKit Oct Num Utf
open Go.Lib (encodeRune)

theorem cutTo (s : ByteArray) (n : Nat) : s.extract 0 n = S (s.data.toList.take n) := by
  rw [Lib.extract_eq]; simp [S]
theorem drewB {B : Nat} {a w : World} (h : Below B a w) (q : Nat) : Below B a (w.drewN q) := ⟨h.os, h.tape, h.output, h.size, h.block⟩
theorem cutFrom (s : ByteArray) (n : Nat) : s.extract n s.size = S (s.data.toList.drop n) := by
  rw [Lib.extract_eq, List.take_of_length_le (by rw [List.length_drop, size_list]; omega)]
theorem cutOne (l : List UInt8) (k : Nat) (h : k < l.length) : (S l).extract k (k + 1) = S [l[k]] := by
  rw [Lib.extract_eq]
  have e : (S l).data.toList = l := list_S l
  rw [e, show k + 1 - k = 1 by omega, List.drop_eq_getElem_cons h]
  rfl

theorem index_no (l : List UInt8) (c : UInt8) (h : c ∉ l) : Lib.indexByte l c = -1 := by
  induction l with
  | nil => rfl
  | cons a l ih =>
    have h1 : (a == c) = false := by
      rw [beq_eq_false_iff_ne]
      exact fun e => h (by rw [e]; simp)
    have h2 := ih (fun hm => h (List.mem_cons_of_mem _ hm))
    rw [Lib.indexByte, h1, h2]
    rfl
theorem index_at (l : List UInt8) (h : 59 ∈ l) : Lib.indexByte l 59 = ((innerOf l).length : Int) := by
  induction l with
  | nil => cases h
  | cons a l ih =>
    by_cases ha : a = 59
    · subst ha; rfl
    · have h1 : (a == 59) = false := by rw [beq_eq_false_iff_ne]; exact ha
      have h2 := ih (by rcases List.mem_cons.1 h with h | h; exact absurd h.symm ha; exact h)
      have h3 : innerOf (a :: l) = a :: innerOf l := by
        unfold innerOf
        rw [List.takeWhile_cons_of_pos (by simp [h1])]
      rw [Lib.indexByte, h1, h2, h3]
      have : (((innerOf l).length : Int) == -1) = false := by simp
      rw [this]
      simp
theorem inner_len (l : List UInt8) (h : 59 ∈ l) : (innerOf l).length + 1 ≤ l.length := by
  obtain ⟨t, ht⟩ := inner_split l h
  have := congrArg List.length ht
  rw [List.length_append, List.length_cons] at this
  omega
theorem inner_take (l : List UInt8) : l.take (innerOf l).length = innerOf l := by
  have h : innerOf l <+: l := List.takeWhile_prefix _
  exact (List.prefix_iff_eq_take.1 h).symm

theorem cut0_no (l : List UInt8) (h : 59 ∉ l) (w : World) :
    Calls Tryz.prog 144 #[.string (S l), .string (S [59])] w fun e w' => e = .returned (.tuple #[.string (S l), .string ⟨#[]⟩, .bool false]) ∧ w = w' := by
  have hc := Tryz.stringslite_Index_one (S l) 59 w
  rw [list_S, index_no l 59 h] at hc
  generalize S l = L at hc
  go_enter Tryz.func144, Tryz.ntmps144
  go_wp2_with (go_at_call 157; refine hc.mono ?_; rintro e w' ⟨rfl, rfl⟩)
  go_ret3
  exact ⟨rfl, rfl⟩
theorem cut0_yes (l : List UInt8) (h : 59 ∈ l) (hl : l.length ≤ 4611686018427387904) (w : World) :
    Calls Tryz.prog 144 #[.string (S l), .string (S [59])] w fun e w' => e = .returned (.tuple #[.string (S (innerOf l)), .string (S (l.drop ((innerOf l).length + 1))), .bool true]) ∧ Below w.heap.size w w' := by
  have hc := Tryz.stringslite_Index_one (S l) 59 w
  rw [list_S, index_at l h] at hc
  have hk := inner_len l h
  have e1 : (S l).extract 0 (innerOf l).length = S (innerOf l) := by rw [cutTo, list_S, inner_take]
  have e2 : (S l).extract ((innerOf l).length + 1) (S l).size = S (l.drop ((innerOf l).length + 1)) := by rw [cutFrom, list_S]
  generalize (innerOf l).length = k at hc hk e1 e2
  have hz : ((S l).size : Int) = (l.length : Int) := by rw [size_S]
  have hzn : (S l).size = l.length := size_S l
  rw [← e1, ← e2]
  have HE := Lib.hid (And.intro e1 e2)
  have h1 : (0 : Int) ≤ (k : Int) := by omega
  have h2 : (k : Int) ≤ ((S l).size : Int) := by omega
  have h3 : (k : Int) + 1 ≤ ((S l).size : Int) := by omega
  have h4 : IntKind.i64.wrap ((k : Int) + 1) = (k : Int) + 1 := by rw [IntKind.wrap_i64]; omega
  have h5 : (0 : Int) ≤ (k : Int) + 1 := by omega
  have h6 : ((k : Int) + 1).toNat = k + 1 := by omega
  clear e1 e2 hz hzn
  generalize S l = L at hc h2 h3 HE
  have H4 := Lib.hid h4
  clear h4
  go_enter Tryz.func144, Tryz.ntmps144
  go_wp2_with (go_at_call 157; refine hc.mono ?_; rintro e w' ⟨rfl, rfl⟩)
  have h4 := H4.out
  go_quiet (fail)
  rename_i nq _
  go_wp2
  go_ret3
  exact ⟨rfl, drewB (Below.refl _ _) nq⟩
theorem cut_no (l : List UInt8) (h : 59 ∉ l) (w : World) :
    Calls Tryz.prog 136 #[.string (S l), .string (S [59])] w fun e w' => e = .returned (.tuple #[.string (S l), .string ⟨#[]⟩, .bool false]) ∧ Below w.heap.size w w' := by
  have hc := cut0_no l h w
  generalize S l = L at hc
  go_enter Tryz.func136, Tryz.ntmps136
  go_wp2_with (go_at_call 144; refine hc.mono ?_; rintro e w' ⟨rfl, rfl⟩)
  go_ret3
  exact ⟨rfl, Below.refl _ _⟩
theorem cut_yes (l : List UInt8) (h : 59 ∈ l) (hl : l.length ≤ 4611686018427387904) (w : World) :
    Calls Tryz.prog 136 #[.string (S l), .string (S [59])] w fun e w' => e = .returned (.tuple #[.string (S (innerOf l)), .string (S (l.drop ((innerOf l).length + 1))), .bool true]) ∧ Below w.heap.size w w' := by
  have hc := cut0_yes l h hl w
  generalize S l = L at hc
  generalize S (innerOf l) = L1 at hc
  generalize S (l.drop ((innerOf l).length + 1)) = L2 at hc
  go_enter Tryz.func136, Tryz.ntmps136
  go_wp2_with (go_at_call 144; refine hc.mono ?_; rintro e w' ⟨rfl, hb⟩)
  go_ret3
  exact ⟨rfl, hb⟩

theorem eqB (a b : List UInt8) : ((S a).toList == (S b).toList) = decide (a = b) := by
  rw [ByteArray.toList_eq, ByteArray.toList_eq, list_S, list_S]
  by_cases h : a = b
  · rw [h]; simp
  · rw [decide_eq_false h, beq_eq_false_iff_ne]; exact h
theorem eqL (a b : List UInt8) : ((S a).toList == b) = decide (a = b) := by
  rw [ByteArray.toList_eq, list_S]
  by_cases h : a = b
  · rw [h]; simp
  · rw [decide_eq_false h, beq_eq_false_iff_ne]; exact h

theorem character_c (n : Nat) (w : World) :
    Calls Tryz.prog 145 #[.int .i64 (n : Int)] w fun e w' => e = .returned (.string (S (standL n))) ∧ Below w.heap.size w w' := by
  unfold standL
  by_cases hc : isChar (n : Int)
  · have he := encode_yes (n : Int) w (decide_eq_true hc)
    by_cases h0 : n = 0
    · subst h0
      rw [if_neg (by simp)]
      generalize S (encodeRune ((0 : Nat) : Int)) = T at he
      have he' : Calls Tryz.prog 158 #[.int .i64 0] w fun e w' => e = .returned (.tuple #[.string T, .int .i64 0]) ∧ Below w.heap.size w w' := he
      clear he hc
      show Calls Tryz.prog 145 #[.int .i64 0] w _
      go_enter Tryz.func145, Tryz.ntmps145
      go_wp2_with (go_at_call 158; refine he'.mono ?_; rintro e w1 ⟨rfl, h1⟩)
      go_ret
      exact ⟨rfl, h1⟩
    · rw [if_pos ⟨hc, h0⟩]
      have hb : ((n : Int) == 0) = false := by simp; exact h0
      generalize S (encodeRune (n : Int)) = T at he
      clear hc h0
      generalize (n : Int) = m at he hb
      go_enter Tryz.func145, Tryz.ntmps145
      go_wp2_with (go_at_call 158; refine he.mono ?_; rintro e w1 ⟨rfl, h1⟩)
      go_ret
      exact ⟨rfl, h1⟩
  · have he := encode_no (n : Int) w (decide_eq_false hc)
    rw [if_neg (fun h => hc h.1)]
    clear hc
    generalize (n : Int) = m at he
    go_enter Tryz.func145, Tryz.ntmps145
    go_wp2_with (go_at_call 158; refine he.mono ?_; rintro e w1 ⟨rfl, h1⟩)
    go_ret
    exact ⟨rfl, h1⟩

abbrev namesV : Value := .agg #[.string ⟨#[97, 109, 112]⟩, .string ⟨#[38]⟩, .string ⟨#[108, 116]⟩, .string ⟨#[60]⟩, .string ⟨#[103, 116]⟩, .string ⟨#[62]⟩, .string ⟨#[113, 117, 111, 116]⟩, .string ⟨#[34]⟩, .string ⟨#[97, 112, 111, 115]⟩, .string ⟨#[39]⟩]
theorem names_c (w : World) : Calls Tryz.prog 134 #[] w fun e w' => e = .returned namesV ∧ Below w.heap.size w w' := by
  go_enter Tryz.func134, Tryz.ntmps134
  go_wp2
  refine bodyPost_ret (v := namesV) (by simp [results, Tryz.results134, go_sem]) rfl ?_
  exact ⟨rfl, (Below.refl _ w).alloc (Nat.le_refl _) _⟩
end Go.Proofs.YtklpbkjplecdpaaGreat.Crf

/-
  Contract of octets.Hex: the lowest digits of base 16, in two's complement.
-/
namespace Go.Proofs.YtklpbkjplecdpaaGreat.Oct
open Go.RowKit

end Go.Proofs.YtklpbkjplecdpaaGreat.Oct

/-
  Contract of octets.Unhex: the number whose digits of base 16 a text is.
-/
namespace Go.Proofs.YtklpbkjplecdpaaGreat.Oct
open Go.RowKit

def hexC (c : UInt8) : Int := hexI (c.toNat : Int)
def valL (l : List UInt8) : Nat := l.foldl (fun n c => n * 16 + (hexC c).toNat) 0
def unhexL (l : List UInt8) : Nat × Nat :=
  if l = [] then (0, 8) else if 8 < l.length then (0, 5) else if l.all (fun c => decide (0 ≤ hexC c)) then (valL l, 0) else (0, 33)

theorem hexC_le (c : UInt8) : hexC c ≤ 15 := (hexI_range _).2
theorem valL_snoc (l : List UInt8) (c : UInt8) : valL (l ++ [c]) = valL l * 16 + (hexC c).toNat := by simp [valL]
theorem valL_lt (l : List UInt8) : valL l < 16 ^ l.length := by
  have gen : ∀ (l : List UInt8) (a e : Nat), a < 16 ^ e → l.foldl (fun n c => n * 16 + (hexC c).toNat) a < 16 ^ (e + l.length) := by
    intro l
    induction l with
    | nil => intro a e h; simpa using h
    | cons c l ih =>
      intro a e h
      have hc := hexC_le c
      have := ih (a * 16 + (hexC c).toNat) (e + 1) (by rw [Nat.pow_succ]; omega)
      rw [List.foldl_cons, List.length_cons, show e + (l.length + 1) = e + 1 + l.length by omega]
      exact this
  have := gen l 0 0 (by simp)
  simpa [valL] using this
theorem valL_le (l : List UInt8) (k : Nat) (h : k ≤ 7) : valL (l.take k) < 268435456 := by
  have h1 := valL_lt (l.take k)
  have h2 : (l.take k).length ≤ 7 := by rw [List.length_take]; omega
  have h3 : 16 ^ (l.take k).length ≤ 16 ^ 7 := Nat.pow_le_pow_right (by omega) h2
  omega
theorem take_at (s : ByteArray) (k : Nat) (h : k < s.size) : s.data.toList.take (k + 1) = s.data.toList.take k ++ [s[k]] := by
  rw [List.take_succ_eq_append_getElem (by rw [size_list]; exact h)]; rfl

theorem unhex_none (s : ByteArray) : (firstOf (fun k => decide (hexC (at' s k) < 0)) 0 s.size == s.size) = s.data.toList.all (fun c => decide (0 ≤ hexC c)) := by
  rw [firstOf_all, ← all_at]
  congr 1
  funext k
  rw [Bool.eq_iff_iff]; simp

theorem or_digit (x : Int) (y : Int) (h0 : 0 ≤ x) (h1 : x ≤ 268435456) (h2 : 0 ≤ y) (h3 : y ≤ 15) : bits .or .i64 (x * 16) y = x * 16 + y := by
  exact bits_join .i64 62 (by decide) (fun n h0 h1 => by rw [IntKind.wrap_i64]; omega) 4 (x * 16) y (by omega) (by omega) (by omega) h2 (by omega) (by omega)

theorem enter_unhex : ∀ args w, (callFunc 155 args).run Tryz.prog w = .ok (.enter 155 args) w := enters_of Tryz.func155 (by kernel_rfl) rfl

theorem unhex1_c (s : ByteArray) (k b : Nat) (w : World) (hk : k < s.size) (hc : w.cell? ⟨b, 0, none⟩ = some (.string s)) :
    Calls Tryz.prog 155 #[.int .i64 (k : Int), .pointer (some ⟨b, 0, none⟩)] w fun e w' => e = .returned (.bool (decide (hexC (at' s k) < 0))) ∧ w = w' := by
  have hb : (s[k].toNat : Int) ≤ 255 := by have := s[k].toNat_lt; omega
  have E : Hid ((at' s k) = s[k]) := (at_eq s k hk).symm
  go_enter Tryz.func155, Tryz.ntmps155
  go_wp2_with (go_at_call 156; refine (digitValue_c _ _ (by omega) (by omega)).mono ?_; rintro e w' ⟨rfl, rfl⟩)
  go_ret
  exact ⟨ret_bool (by rw [E.out]; rfl), rfl⟩

theorem unhex_c (s : ByteArray) (w : World) :
    Calls Tryz.prog 143 #[.string s] w fun e w' => e = .returned (.tuple #[.int .i64 ((unhexL s.data.toList).1 : Int), .int .i64 ((unhexL s.data.toList).2 : Int)]) ∧ Below w.heap.size w w' := by
  by_cases h0 : s.size = 0
  · have hs : s = ⟨#[]⟩ := by
      apply ByteArray.ext
      exact Array.eq_empty_of_size_eq_zero h0
    subst hs
    go_enter Tryz.func143, Tryz.ntmps143
    go_wp2
    go_ret2
    exact ⟨rfl, (Below.refl _ w).alloc (Nat.le_refl _) _⟩
  · have hne : s.data.toList ≠ [] := by intro h; apply h0; rw [← size_list, h]; rfl
    have he : s.data.toList.isEmpty = false := by rw [List.isEmpty_eq_false_iff]; exact hne
    have he' : s.toList.isEmpty = false := by rw [ByteArray.toList_eq]; exact he
    by_cases h8 : 8 < s.size
    · have F : Hid (unhexL s.data.toList = (0, 5)) := by
        show _ = _
        unfold unhexL
        rw [if_neg hne, if_pos (by rw [size_list]; exact h8)]
      clear hne
      go_enter Tryz.func143, Tryz.ntmps143
      go_wp2
      go_ret2
      exact ⟨by rw [F.out]; rfl, (Below.refl _ w).alloc (Nat.le_refl _) _⟩
    · have hlen : s.size ≤ 8 := by omega
      have hn := none_c s.size 155 #[.pointer (some ⟨w.heap.size, 0, none⟩)] (fun k => decide (hexC (at' s k) < 0)) (w.alloc (.cells #[.string s] 9)) (by omega) enter_unhex
        (fun k W hk hb => (unhex1_c s k w.heap.size W hk (by rw [hb.cell (by simp)]; simp)).mono fun _ _ ⟨he, hw⟩ => ⟨he, hw ▸ hb⟩)
      rw [unhex_none] at hn
      cases hall : s.data.toList.all (fun c => decide (0 ≤ hexC c)) with
      | false =>
        have F : Hid (unhexL s.data.toList = (0, 33)) := by
          show _ = _
          unfold unhexL
          rw [if_neg hne, if_neg (by rw [size_list]; exact h8), hall]
          rfl
        rw [hall] at hn
        clear hall hne h8 h0
        go_enter Tryz.func143, Tryz.ntmps143
        go_wp2_with (go_at_call 106; refine hn.mono ?_; rintro e w' ⟨rfl, hb⟩)
        go_ret2
        exact ⟨by rw [F.out]; rfl, ((Below.refl _ w).alloc (Nat.le_refl _) _).trans (hb.mono (by simp))⟩
      | true =>
        have F : Hid (unhexL s.data.toList = (valL s.data.toList, 0)) := by
          show _ = _
          unfold unhexL
          rw [if_neg hne, if_neg (by rw [size_list]; exact h8), hall]
          rfl
        rw [hall] at hn
        have HA := Lib.hid hall
        clear hall hne h8 h0
        go_enter Tryz.func143, Tryz.ntmps143
        go_wp2_with (go_at_call 106; refine hn.mono ?_; rintro e w1 ⟨rfl, hb⟩; have hc1 : w1.cell? ⟨w.heap.size, 0, none⟩ = some (.string s) := by (rw [hb.cell (by simp)]; simp))
        have hbw : Hid (Below w.heap.size w w1) := ((Below.refl _ w).alloc (Nat.le_refl _) _).trans (hb.mono (by simp))
        clear hn hb
        go_loop [4, 5, 21] (fun n _ i => ∃ k : Nat, k ≤ s.size ∧ i = .int .i64 k ∧ n = .int .i64 (valL (s.data.toList.take k) : Nat)) (fun _ _ i => s.size - (intOf i).toNat)
        case atStart => exact ⟨0, Nat.zero_le _, rfl, rfl⟩
        case round =>
          obtain ⟨k, hk, rfl, rfl⟩ := hrel
          by_cases hlt : k < s.size
          · have hv := valL_le s.data.toList k (by omega)
            have hb1 : (s[k].toNat : Int) ≤ 255 := by have := s[k].toNat_lt; omega
            have HV : Hid (valL (s.data.toList.take (k + 1)) = valL (s.data.toList.take k) * 16 + (hexC s[k]).toNat) := by show _ = _; rw [take_at s k hlt, valL_snoc]
            have hd := (hexI_range (s[k].toNat : Int)).2
            have hd0 : 0 ≤ hexI (s[k].toNat : Int) := by
              have := List.all_eq_true.1 HA.out s[k] (by rw [ByteArray.getElem_eq_getElem_data]; simp)
              exact of_decide_eq_true this
            have ho := or_digit (valL (s.data.toList.take k) : Nat) (hexI (s[k].toNat : Int)) (by omega) (by omega) hd0 hd
            generalize valL (s.data.toList.take k) = v at hv HV ho
            go_wp2_with (go_at_call 156; refine (digitValue_c _ _ (by omega) (by omega)).mono ?_; rintro e w' ⟨rfl, rfl⟩)
            go_round
            case rel =>
              refine ⟨k + 1, by omega, by go_num, ?_⟩
              rw [HV.out]
              congr 1
              unfold hexC
              omega
            case measure => simp [intOf]; omega
          · go_wp2
            go_ret2
            have hke : s.data.toList.take k = s.data.toList := List.take_of_length_le (by rw [size_list]; omega)
            exact ⟨by rw [F.out, hke]; rfl, hbw.out⟩

end Go.Proofs.YtklpbkjplecdpaaGreat.Oct
