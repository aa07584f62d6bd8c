/-
  Contract of Quote of package lex.
-/
import Derived.Test.YtbchjmldjdhjiaaLxwBuild
import Derived.Test.YtbchjmldjdhjiaaLxwLeaf
namespace Go.Proofs.Ytbchjmldjdhjiaa.Lxw
open Go.RowKit Go.Proofs.Ytbchjmldjdhjiaa.Oct Go.Proofs.Ytbchjmldjdhjiaa.Lex Go.Proofs.Ytbchjmldjdhjiaa.Build

/-- Which of the four an octet is, and what its name is. -/
theorem name_tab : ∀ c : UInt8, (Lib.indexByte [10, 9, 92, 34] c = -1 ∧ escQ c = [c]) ∨ ∃ k d, Lib.indexByte [10, 9, 92, 34] c = ((k : Nat) : Int) ∧ k < 4 ∧ (∀ h : k < (⟨#[110, 116, 92, 34]⟩ : ByteArray).size, (⟨#[110, 116, 92, 34]⟩ : ByteArray)[k]'h = d) ∧ escQ c = [92, d] := by
  intro c
  by_cases h1 : c = 10
  · subst h1; exact .inr ⟨0, 110, by decide, by decide, fun _ => rfl, rfl⟩
  · by_cases h2 : c = 9
    · subst h2; exact .inr ⟨1, 116, by decide, by decide, fun _ => rfl, rfl⟩
    · by_cases h3 : c = 92
      · subst h3; exact .inr ⟨2, 92, by decide, by decide, fun _ => rfl, rfl⟩
      · by_cases h4 : c = 34
        · subst h4; exact .inr ⟨3, 34, by decide, by decide, fun _ => rfl, rfl⟩
        · refine .inl ⟨?_, by unfold escQ; rw [if_neg h1, if_neg h2, if_neg h3, if_neg h4]⟩
          have e1 : ((10 : UInt8) == c) = false := by rw [beq_eq_false_iff_ne]; exact fun e => h1 e.symm
          have e2 : ((9 : UInt8) == c) = false := by rw [beq_eq_false_iff_ne]; exact fun e => h2 e.symm
          have e3 : ((92 : UInt8) == c) = false := by rw [beq_eq_false_iff_ne]; exact fun e => h3 e.symm
          have e4 : ((34 : UInt8) == c) = false := by rw [beq_eq_false_iff_ne]; exact fun e => h4 e.symm
          simp [Lib.indexByte, e1, e2, e3, e4]
theorem inQ_take {l : List UInt8} {k : Nat} (h : k < l.length) : inQ (l.take (k + 1)) = inQ (l.take k) ++ escQ l[k] := by
  unfold inQ
  rw [List.take_succ_eq_append_getElem h, List.flatMap_append]
  simp
theorem inQ_len (l : List UInt8) : (inQ l).length ≤ 2 * l.length := by
  induction l with
  | nil => simp [inQ]
  | cons c t ih =>
    rw [inQ_cons, List.length_append, List.length_cons]
    have : (escQ c).length ≤ 2 := by unfold escQ; repeat' split
                                     all_goals simp
    omega
set_option maxHeartbeats 2000000 in
set_option maxRecDepth 100000 in
theorem quote_c (l : List UInt8) (hl : l.length ≤ 1048576) (w : World) :
    Calls Try.prog 8 #[.string (S l)] w fun e w' => e = .returned (.string (S (quoteQ l))) ∧ Below w.heap.size w w' := by
  have hsz : ((S l).size : Int) = (l.length : Int) := by rw [size_S]
  have hsn : (S l).size = l.length := size_S l
  have HAt := Lib.hid (fun k (h : k < l.length) => at_S l k h)
  have hby := byte_c w.heap.size [] 34 (w.alloc (.cells #[.pointer none, .slice none 0 0] 42)) (has_fresh w) (by decide)
  replace hby : Calls Try.prog 14 #[.pointer (some ⟨w.heap.size, 0, none⟩), .int .u8 34] (w.alloc (.cells #[.pointer none, .slice none 0 0] 42)) fun e w' => e = .returned .nilIface ∧ Has w.heap.size [34] w' ∧ Below w.heap.size (w.alloc (.cells #[.pointer none, .slice none 0 0] 42)) w' := hby
  go_enter Try.func8, Try.ntmps8
  go_wp2_with fail
  refine hby.mono ?_
  clear hby
  rintro e w1 ⟨rfl, h1, hb1⟩
  have H1 := Lib.hid (And.intro h1 (((Below.refl _ w).alloc (Nat.le_refl _) _).trans hb1))
  clear h1 hb1
  go_wp2_with fail
  go_loopw [10] (fun i wr => ∃ k : Nat, k ≤ l.length ∧ i = .int .i64 k ∧ Hid (Has w.heap.size (34 :: inQ (l.take k)) wr) ∧ Hid (Below w.heap.size w wr)) (fun i _ => l.length - (intOf i).toNat)
  case atStart => exact ⟨0, Nat.zero_le _, rfl, H1.out.1, H1.out.2⟩
  case round =>
    clear H1
    obtain ⟨k, hk, rfl, hH, hB⟩ := hrel
    have i0 : (0 : Int) ≤ (k : Int) := by omega
    have i1 : (k : Int) ≤ 1048576 := by omega
    have hq := inQ_len (l.take k)
    rw [List.length_take] at hq
    by_cases hlt : k < l.length
    · have hx := HAt.out k hlt
      have i2 : (k : Int) < (l.length : Int) := by omega
      have hd : decide ((k : Int) < (l.length : Int)) = true := decide_eq_true i2
      have hcb : ((l[k]).toNat : Int) ≤ 255 := by have := (l[k]).toNat_lt; omega
      have ht := inQ_take hlt
      have hix := fun w => Try.strings_IndexByte (S [10, 9, 92, 34]) ((l[k]).toNat : Int) w
      rw [list_S, show ((l[k]).toNat : Int).toNat.toUInt8 = l[k] by simp] at hix
      have hnt := name_tab l[k]
      generalize l[k] = c at *
      rcases hnt with ⟨hn, he⟩ | ⟨j, d, hn, hj, hjt, he⟩
      · rw [hn] at hix
        replace hix : ∀ w, Calls Try.prog 15 #[.string ⟨#[10, 9, 92, 34]⟩, .int .u8 (c.toNat : Int)] w fun e w' => e = .returned (.int .i64 (-1)) ∧ w' = w := hix
        rw [he] at ht
        have HN := Lib.hid ht
        have hby := byte_c w.heap.size (34 :: inQ (l.take k)) c wr hH.out (by rw [List.length_cons]; omega)
        clear hn he ht hq
        go_wp2_with (go_at_call 15; refine (hix _).mono ?_; rintro e w2 ⟨rfl, rfl⟩)
        refine hby.mono ?_
        clear hby
        rintro e w3 ⟨rfl, h3, hb3⟩
        have H3 : Hid (Has w.heap.size (34 :: inQ (l.take (k + 1))) w3 ∧ Below w.heap.size w w3) := ⟨by rw [HN.out]; exact h3, hB.out.trans hb3⟩
        clear h3 hb3
        go_wp2_with fail
        go_roundw
        case rel => exact ⟨k + 1, by omega, by go_num, H3.out.1, H3.out.2⟩
        case measure => simp [intOf]; omega
      · rw [hn] at hix
        replace hix : ∀ w, Calls Try.prog 15 #[.string ⟨#[10, 9, 92, 34]⟩, .int .u8 (c.toNat : Int)] w fun e w' => e = .returned (.int .i64 (j : Int)) ∧ w' = w := hix
        rw [he] at ht
        have HN := Lib.hid ht
        have hby := byte_c w.heap.size (34 :: inQ (l.take k)) 92 wr hH.out (by rw [List.length_cons]; omega)
        replace hby : Calls Try.prog 14 #[.pointer (some ⟨w.heap.size, 0, none⟩), .int .u8 92] wr fun e w' => e = .returned .nilIface ∧ Has w.heap.size ((34 :: inQ (l.take k)) ++ [92]) w' ∧ Below w.heap.size wr w' := hby
        have hby2 := fun w2 (h : Has w.heap.size ((34 :: inQ (l.take k)) ++ [92]) w2) => byte_c w.heap.size ((34 :: inQ (l.take k)) ++ [92]) d w2 h (by simp only [List.length_append, List.length_cons, List.length_nil]; omega)
        have j0 : (0 : Int) ≤ (j : Int) := by omega
        have j1 : (j : Int) < 4 := by omega
        have hdb : (d.toNat : Int) ≤ 255 := by have := d.toNat_lt; omega
        clear hn he ht hq
        go_wp2_with (go_at_call 15; refine (hix _).mono ?_; rintro e w2 ⟨rfl, rfl⟩)
        refine hby.mono ?_
        clear hby
        rintro e w3 ⟨rfl, h3, hb3⟩
        have hby3 := hby2 w3 h3
        have H3 := Lib.hid hb3
        clear h3 hb3 hby2
        go_wp2_with fail
        refine hby3.mono ?_
        clear hby3
        rintro e w4 ⟨rfl, h4, hb4⟩
        have H4 : Hid (Has w.heap.size (34 :: inQ (l.take (k + 1))) w4 ∧ Below w.heap.size w w4) := ⟨by rw [HN.out]; simpa using h4, (hB.out.trans H3.out).trans hb4⟩
        clear h4 hb4 H3
        go_wp2_with fail
        go_roundw
        case rel => exact ⟨k + 1, by omega, by go_num, H4.out.1, H4.out.2⟩
        case measure => simp [intOf]; omega
    · have hke : k = l.length := by omega
      have hd : decide ((k : Int) < (l.length : Int)) = false := decide_eq_false (by omega)
      have n2 : ¬ (k : Int) < (l.length : Int) := by omega
      rw [hke, List.take_length] at hH
      have hq2 := inQ_len l
      have hby := byte_c w.heap.size (34 :: inQ l) 34 wr hH.out (by rw [List.length_cons]; omega)
      replace hby : Calls Try.prog 14 #[.pointer (some ⟨w.heap.size, 0, none⟩), .int .u8 34] wr fun e w' => e = .returned .nilIface ∧ Has w.heap.size (quoteQ l) w' ∧ Below w.heap.size wr w' := hby
      have hst := fun w2 (h : Has w.heap.size (quoteQ l) w2) => Try.Builder_String_any w.heap.size w.heap.size (quoteQ l) w2 h (Nat.le_of_lt (has_lt h))
      clear hke hq hq2
      go_wp2_with fail
      refine hby.mono ?_
      clear hby
      rintro e w3 ⟨rfl, h3, hb3⟩
      have hs3 := hst w3 h3
      have H3 := Lib.hid (hB.out.trans hb3)
      clear h3 hb3 hst
      go_wp2_with (go_at_call 16; refine hs3.mono ?_; rintro e w4 ⟨rfl, hb4⟩)
      go_ret
      exact ⟨rfl, H3.out.trans hb4⟩
end Go.Proofs.Ytbchjmldjdhjiaa.Lxw
