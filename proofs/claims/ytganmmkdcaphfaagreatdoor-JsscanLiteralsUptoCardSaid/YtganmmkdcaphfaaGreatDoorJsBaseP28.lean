/-
  Part 28: LitQuote, PgPrint, LitLiteral, LitList.
-/
import Derived.Test.YtganmmkdcaphfaaGreatDoorJsBaseP14
import Derived.Test.YtganmmkdcaphfaaGreatDoorJsBaseP6
import Derived.Test.YtganmmkdcaphfaaGreatDoorJsBaseP26
import Derived.Test.YtganmmkdcaphfaaGreatDoorJsBaseP27
import Derived.Test.YtganmmkdcaphfaaGreatDoorJsBaseP9
import Derived.Test.YtganmmkdcaphfaaGreatDoorProg
import Derived.Lib.Hide
/-
  Contracts of the page's Bare, Inside and Quote: a text as a literal.
-/
namespace Go.Proofs.YtganmmkdcaphfaaGreatDoor.Lit
open Go.RowKit Go.Proofs.YtganmmkdcaphfaaGreatDoor.Oct Go.Proofs.YtganmmkdcaphfaaGreatDoor.Num Go.Proofs.YtganmmkdcaphfaaGreatDoor.Utf Go.Proofs.YtganmmkdcaphfaaGreatDoor.Val Go.Proofs.YtganmmkdcaphfaaGreatDoor.Mem

set_option maxHeartbeats 2000000 in
theorem bare_c (c : Int) (w : World) (h0 : 0 ≤ c) (h1 : c ≤ 1114111) : Calls Tryz.prog 23 #[.int .i64 c] w fun e w' => e = .returned (.bool (bareB c)) ∧ w = w' := by
  by_cases h128 : c < 128
  · have hu : IntKind.u8.wrap c = c := by rw [IntKind.wrap_u8]; omega
    have hl := rletter_c c w h0 (by omega)
    have hd := rdigit_c c w h0 (by omega)
    cases el : letterI c with
    | true =>
      rw [el] at hl
      have F : Hid (bareB c = true) := by show _ = _; simp [letterI] at el; simp [bareB]; omega
      clear el
      go_enter Tryz.func23, Tryz.ntmps23
      go_wp2_with (go_at_call 41; refine hl.mono ?_; rintro e w' ⟨rfl, rfl⟩)
      go_ret
      exact ⟨by rw [F.out]; rfl, rfl⟩
    | false =>
      rw [el] at hl
      cases ed : digitI c with
      | true =>
        rw [ed] at hd
        have F : Hid (bareB c = true) := by show _ = _; simp [digitI] at ed; simp [bareB]; omega
        clear el ed
        go_enter Tryz.func23, Tryz.ntmps23
        go_wp2_with (first | (go_at_call 41; refine hl.mono ?_; rintro e w' ⟨rfl, rfl⟩) | (go_at_call 42; refine hd.mono ?_; rintro e w' ⟨rfl, rfl⟩))
        go_ret
        exact ⟨by rw [F.out]; rfl, rfl⟩
      | false =>
        rw [ed] at hd
        have F : Hid (bareB c = ((c == 32) || (c == 95) || (c == 46) || (c == 44))) := by
          show _ = _
          simp [digitI] at ed; simp [letterI] at el
          rw [Bool.eq_iff_iff]; simp [bareB]; omega
        clear el ed
        obtain ⟨b1, e1⟩ : ∃ b, (c == 32) = b := ⟨_, rfl⟩
        obtain ⟨b2, e2⟩ : ∃ b, (c == 95) = b := ⟨_, rfl⟩
        obtain ⟨b3, e3⟩ : ∃ b, (c == 46) = b := ⟨_, rfl⟩
        obtain ⟨b4, e4⟩ : ∃ b, (c == 44) = b := ⟨_, rfl⟩
        rw [e1, e2, e3, e4] at F
        cases b1 <;> cases b2 <;> cases b3 <;> cases b4
        all_goals
          go_enter Tryz.func23, Tryz.ntmps23
          go_wp2_with (first | (go_at_call 41; refine hl.mono ?_; rintro e w' ⟨rfl, rfl⟩) | (go_at_call 42; refine hd.mono ?_; rintro e w' ⟨rfl, rfl⟩))
          go_ret
          exact ⟨by rw [F.out]; rfl, rfl⟩
  · have F : Hid (bareB c = false) := by show _ = _; simp [bareB]; omega
    have hd : decide (c < 128) = false := by simp; omega
    go_enter Tryz.func23, Tryz.ntmps23
    go_wp2
    go_ret
    exact ⟨by rw [F.out]; rfl, rfl⟩

/-- Four digits. -/
def hex4 (n : Int) : ByteArray := S (hexL (u64 n) 4)
theorem hex4_size (n : Int) : (hex4 n).size = 4 := by rw [hex4, size_S, hexL_length]
theorem hex4_c (n : Int) (w : World) : Calls Tryz.prog 24 #[.int .i64 n, .int .i64 4] w fun e w' => e = .returned (.string (hex4 n)) ∧ w = w' := rhex_c n 4 w
theorem esc_hex (n : Int) (m : Nat) (h : n = (m : Int)) (hm : m < 18446744073709551616) (o : List UInt8) : S o ++ (⟨#[92, 117]⟩ : ByteArray) ++ hex4 n = S (o ++ escL m) := by
  subst h
  have e : u64 (m : Int) = m := by unfold u64; omega
  rw [show (⟨#[92, 117]⟩ : ByteArray) = S [92, 117] from rfl, S_append, hex4, e, S_append, escL, List.append_assoc]

set_option maxHeartbeats 4000000 in
set_option maxRecDepth 100000 in
theorem inside_c (s : ByteArray) (w : World) (hs : s.size ≤ 17592186044416) (hb : (insideL (chars s.data.toList)).length ≤ 17592186044416) :
    Calls Tryz.prog 12 #[.string s] w fun e w' => e = .returned (.string (S (insideL (chars s.data.toList)))) ∧ Kept w w' := by
  have hcall := rchars_c s hs w
  have hch := Lib.hid (chars_char s.data.toList)
  obtain ⟨cs, hcs⟩ : ∃ cs, chars s.data.toList = cs := ⟨_, rfl⟩
  rw [hcs] at hcall hch hb ⊢
  have HT := Lib.hid (fun k => insideL_take cs k)
  have hn := insideL_len cs
  have hx4 := hex4_size
  clear hcs
  go_enter Tryz.func12, Tryz.ntmps12
  go_wp2_with fail
  refine hcall.mono ?_
  rintro e w1 ⟨v, rfl, hown, hk1⟩
  clear hcall
  obtain ⟨lp, lc, rfl⟩ : ∃ lp lc, v = .slice lp cs.length lc := by
    rcases hown.2 with ⟨rfl, h⟩ | ⟨g, cap, cur, rfl, _⟩
    · exact ⟨none, 0, by rw [h]⟩
    · exact ⟨_, _, rfl⟩
  obtain ⟨n, hnn⟩ : ∃ n, cs.length = n := ⟨_, rfl⟩
  have hbn : n ≤ 17592186044416 := by omega
  have HB := Lib.hid hb
  have HO := Lib.hid (And.intro hown hk1)
  clear hown hk1 hb hn
  rw [hnn]
  go_wp2_with fail
  go_loopw [3, 5, 6, 7] (fun o i _ _ wr => ∃ k : Nat, k ≤ n ∧ o = .string (S (insideL (cs.take k))) ∧ i = .int .i64 k ∧ Hid (Kept w1 wr)) (fun _ i _ _ _ => n - (intOf i).toNat)
  case atStart => exact ⟨0, Nat.zero_le _, rfl, rfl, Below.refl _ _⟩
  case round =>
    obtain ⟨k, hk, rfl, rfl, hkr⟩ := hrel
    by_cases hlt : k < n
    · have hkl : k < cs.length := by omega
      have hown := Go.Proofs.YtganmmkdcaphfaaGreatDoor.Mem.own_kept HO.out.1 hkr.out
      rw [hnn] at hown
      obtain ⟨g, rfl⟩ : ∃ g, lp = some ⟨g, 0, none⟩ := by
        rcases hown.2 with ⟨_, h⟩ | ⟨g, cap, cur, hv, _⟩
        · omega
        · simp at hv; exact ⟨g, hv.1⟩
      have hcell : wr.cell? ⟨g, k, none⟩ = some (.int .i64 cs[k]) := by
        rw [hown.cellAt k (by omega)]
        simp [hkl]
      have hcc := hch.out cs[k] (List.getElem_mem _)
      have hnext : Hid (∀ x, S (insideL (cs.take k)) ++ x = S (insideL (cs.take k) ++ charL cs[k]) → S (insideL (cs.take k)) ++ x = S (insideL (cs.take (k + 1)))) := fun x hx => by
        rw [hx, List.take_succ_eq_append_getElem hkl, insideL_snoc]
      have hol : (S (insideL (cs.take k))).size ≤ 17592186044416 := by rw [size_S]; exact Nat.le_trans (HT.out k) HB.out
      have hN : Hid (∀ m, m = S (insideL (cs.take k) ++ charL cs[k]) → m = S (insideL (cs.take (k + 1)))) := fun m hm => by
        rw [hm, List.take_succ_eq_append_getElem hkl, insideL_snoc]
      have hnm := hcell
      obtain ⟨c, hcE⟩ : ∃ c, cs[k] = c := ⟨_, rfl⟩
      rw [hcE] at hcell hcc hN
      have hc0 : 0 ≤ c := by have := hcc.1; unfold isChar at this; omega
      have hc1 : c ≤ 1114111 := by have := hcc.1; unfold isChar at this; omega
      have hbare := bare_c c wr hc0 hc1
      have h1 : (0 : Int) ≤ (k : Int) := by omega
      have h2 : (k : Int) < (n : Int) := by omega
      clear hcc hnm hnext hcE hown hkl
      cases hq : bareB c with
      | true =>
        rw [hq] at hbare
        have hu : IntKind.u8.wrap c = c := by rw [IntKind.wrap_u8]; simp [bareB] at hq; omega
        have hc9 : 0 ≤ c ∧ c < 256 := by simp [bareB] at hq; omega
        have hcv : (convert 44 9 (.slice (some ⟨wr.heap.size, 0, none⟩) 1 1)).run Tryz.prog (wr.alloc (.cells #[.int .u8 c] 5)) = .ok (.string (S [c.toNat.toUInt8])) (wr.alloc (.cells #[.int .u8 c] 5)) := conv_new wr [c] (fun x hx => by simp at hx; subst hx; exact hc9)
        have F : Hid (S (insideL (cs.take k)) ++ S [c.toNat.toUInt8] = S (insideL (cs.take (k + 1)))) := hN.out _ (by rw [S_append]; unfold charL; rw [if_pos hq])
        have hxl : (S [c.toNat.toUInt8]).size = 1 := by rw [size_S]; rfl
        generalize S [c.toNat.toUInt8] = x at hcv F hxl
        generalize S (insideL (cs.take k)) = o at hol F
        clear hq hN hc9
        go_wp2_with (go_at_call 23; refine hbare.mono ?_; rintro e w' ⟨rfl, rfl⟩)
        go_roundw
        case rel => exact ⟨k + 1, by omega, by rw [F.out], by go_num, hkr.out.alloc (by have := hkr.out.size; omega) _⟩
        case measure => simp [intOf]; omega
      | false =>
        rw [hq] at hbare
        by_cases hbig : 65536 ≤ c
        · have F : Hid (∀ n1 n2 : Int, n1 = ((55296 + (c - 65536).toNat / 1024 : Nat) : Int) → n2 = ((56320 + (c - 65536).toNat % 1024 : Nat) : Int) → S (insideL (cs.take k)) ++ (⟨#[92, 117]⟩ : ByteArray) ++ hex4 n1 ++ (⟨#[92, 117]⟩ : ByteArray) ++ hex4 n2 = S (insideL (cs.take (k + 1)))) := fun n1 n2 e1 e2 => hN.out _ (by
            rw [esc_hex n1 _ e1 (by omega), esc_hex n2 _ e2 (by omega)]
            unfold charL
            rw [if_neg (by simp [hq]), if_pos hbig, List.append_assoc])
          generalize S (insideL (cs.take k)) = o at hol F
          have s1 : (⟨#[92, 117]⟩ : ByteArray).size = 2 := rfl
          clear hq hN
          go_wp2_with (first | (go_at_call 23; refine hbare.mono ?_; rintro e w' ⟨rfl, rfl⟩) | (go_at_call 24; refine (hex4_c _ _).mono ?_; rintro e w' ⟨rfl, rfl⟩))
          go_roundw
          case rel => exact ⟨k + 1, by omega, congrArg Value.string (F.out _ _ (by omega) (by omega)), by go_num, hkr⟩
          case measure => simp [intOf]; omega
        · have F : Hid (S (insideL (cs.take k)) ++ (⟨#[92, 117]⟩ : ByteArray) ++ hex4 c = S (insideL (cs.take (k + 1)))) := hN.out _ (by
            rw [esc_hex c c.toNat (by omega) (by omega)]
            unfold charL
            rw [if_neg (by simp [hq]), if_neg hbig])
          generalize S (insideL (cs.take k)) = o at hol F
          have s1 : (⟨#[92, 117]⟩ : ByteArray).size = 2 := rfl
          clear hq hN
          go_wp2_with (first | (go_at_call 23; refine hbare.mono ?_; rintro e w' ⟨rfl, rfl⟩) | (go_at_call 24; refine (hex4_c _ _).mono ?_; rintro e w' ⟨rfl, rfl⟩))
          go_roundw
          case rel => exact ⟨k + 1, by omega, by rw [← F.out], by go_num, hkr⟩
          case measure => simp [intOf]; omega
    · have hkn : k = n := by omega
      have F : Hid (cs.take k = cs) := List.take_of_length_le (by omega)
      go_wp2
      go_ret
      exact ⟨by rw [F.out]; rfl, kept_trans HO.out.2 hkr.out⟩
end Go.Proofs.YtganmmkdcaphfaaGreatDoor.Lit

/-
  Contract of the page's Print of a number: its digits; it changes nothing.
-/
namespace Go.Proofs.YtganmmkdcaphfaaGreatDoor.Num
open Go.RowKit Go.Proofs.YtganmmkdcaphfaaGreatDoor.Oct

theorem digit_cut (d : Nat) (h : d < 10) : (⟨#[48, 49, 50, 51, 52, 53, 54, 55, 56, 57]⟩ : ByteArray).extract d (d + 1) = S [dig d] := by
  have : ∀ d : Fin 10, (⟨#[48, 49, 50, 51, 52, 53, 54, 55, 56, 57]⟩ : ByteArray).extract d.val (d.val + 1) = S [dig d.val] := by decide +kernel
  exact this ⟨d, h⟩

theorem digit_slice (d : Nat) (h : d < 10) (w : World) :
    (Instr.slice 9 (.string ⟨#[48, 49, 50, 51, 52, 53, 54, 55, 56, 57]⟩) (some (.int .i64 (d : Int))) (some (.int .i64 ((d : Int) + 1))) none).run Tryz.prog w = .ok (.string (S [dig d])) w := by
  have h16 : (⟨#[48, 49, 50, 51, 52, 53, 54, 55, 56, 57]⟩ : ByteArray).size = 10 := rfl
  rw [← digit_cut d h]
  generalize (⟨#[48, 49, 50, 51, 52, 53, 54, 55, 56, 57]⟩ : ByteArray) = s at h16
  have e1 : ((d : Int) + 1).toNat = d + 1 := by omega
  rw [run_slice_string w _ s .i64 .i64 (d : Int) ((d : Int) + 1) Tryz.underlying9 (by omega) (by omega) (by omega), e1, Int.toNat_natCast]

theorem ret_str {a b : ByteArray} (h : a = b) : Ending.returned (.string a) = .returned (.string b) := by rw [h]
theorem S_minus (l : List UInt8) : (⟨#[45]⟩ : ByteArray) ++ S l = S (45 :: l) := S_append [45] l

set_option maxHeartbeats 1000000 in
theorem rprint_c (n : Int) (w : World) (h0 : -9223372036854775808 ≤ n) (h1 : n ≤ 9223372036854775807) :
    Calls Tryz.prog 15 #[.int .i64 n] w fun e w' => e = .returned (.string (S (printL n))) ∧ w = w' := by
  have HL : Hid ((decL n.natAbs).length ≤ 19) := by show _ ≤ _; rw [decL_len]; exact lowL_len (by omega)
  by_cases hn : n < 0
  all_goals
    go_enter Tryz.func15, Tryz.ntmps15
    go_wp2
    go_loop [3, 4, 5] (fun u o _ => ∃ (v : Nat) (l : List UInt8), u = .int .u64 (v : Int) ∧ o = .string (S l) ∧ v < 10000000000000000000 ∧ Hid (decL v ++ l = decL n.natAbs)) (fun u _ _ => (intOf u).toNat)
    case atStart =>
      refine ⟨n.natAbs, [], ?_, rfl, by omega, List.append_nil _⟩
      congr 1
      try simp only [IntKind.wrap_u64]
      omega
    case round =>
      obtain ⟨v, l, rfl, rfl, hv, hl⟩ := hrel
      have hll : l.length ≤ 19 := by have := congrArg List.length hl.out; rw [List.length_append] at this; have := HL.out; omega
      have hol : (S l).size ≤ 19 := by rw [size_S]; exact hll
      by_cases hlt : 10 ≤ v
      · have hnext : Hid (S [dig (v % 10)] ++ S l = S (dig (v % 10) :: l)) := S_append _ _
        have hE : Hid (decL (v / 10) ++ (dig (v % 10) :: l) = decL n.natAbs) := by
          show _ = _
          rw [← hl.out, decL_ge hlt, List.append_assoc]
          rfl
        obtain ⟨d, hd⟩ : ∃ d, v % 10 = d := ⟨_, rfl⟩
        have hdI : (v : Int) % 10 = (d : Int) := by omega
        have hd10 : d < 10 := by omega
        rw [hd] at hnext hE
        have hcut := digit_slice d hd10
        have hxl : (S [dig d]).size ≤ 1 := by rw [size_S]; simp
        generalize S [dig d] = x at hnext hcut hxl
        generalize S l = o at hnext hol
        clear hd hl
        go_wp2
        go_round
        case rel => exact ⟨v / 10, dig d :: l, by go_num, by rw [hnext.out], by omega, hE⟩
        case measure => simp [intOf]; omega
      · have hnext : Hid (S [dig v] ++ S l = S (decL n.natAbs)) := by show _ = _; rw [S_append, ← hl.out, decL_lt (by omega)]
        have hcut := digit_slice v (by omega)
        have hxl : (S [dig v]).size ≤ 1 := by rw [size_S]; simp
        have hout : (S (decL n.natAbs)).size ≤ 19 := by rw [size_S]; exact HL.out
        have F : Hid (printL n = if n < 0 then 45 :: decL n.natAbs else decL n.natAbs) := rfl
        generalize S [dig v] = x at hnext hcut hxl
        generalize S l = o at hnext hol
        clear hl
        go_wp2
        go_ret
        exact ⟨ret_str (by rw [hnext.out, F.out]; first | rw [S_minus, if_pos hn] | rw [if_neg (by omega)]), rfl⟩
end Go.Proofs.YtganmmkdcaphfaaGreatDoor.Num

/-
  Contracts of the page's Quote, Print at null and truths, and Literal: a value as a script's literal.
-/
namespace Go.Proofs.YtganmmkdcaphfaaGreatDoor.Lit
open Go.RowKit Go.Proofs.YtganmmkdcaphfaaGreatDoor.Oct Go.Proofs.YtganmmkdcaphfaaGreatDoor.Num Go.Proofs.YtganmmkdcaphfaaGreatDoor.Utf Go.Proofs.YtganmmkdcaphfaaGreatDoor.Val Go.Proofs.YtganmmkdcaphfaaGreatDoor.Mem

theorem quote_c (s : ByteArray) (w : World) (hb : (quoteL s).length ≤ 4398046511104) : Calls Tryz.prog 16 #[.string s] w fun e w' => e = .returned (.string (S (quoteL s))) ∧ Kept w w' := by
  have hw := quoteL_wide s
  have hl : (insideL (chars s.data.toList)).length ≤ 4398046511104 := by simp [quoteL] at hb; omega
  have hc := inside_c s w (by omega) (by omega)
  have F : Hid ((⟨#[34]⟩ : ByteArray) ++ S (insideL (chars s.data.toList)) ++ ⟨#[34]⟩ = S (quoteL s)) := by
    show _ = _
    rw [show (⟨#[34]⟩ : ByteArray) = S [34] from rfl, S_append, S_append]; rfl
  have hz : (S (insideL (chars s.data.toList))).size ≤ 4398046511104 := by rw [size_S]; exact hl
  generalize S (insideL (chars s.data.toList)) = x at hc F hz
  have s1 : (⟨#[34]⟩ : ByteArray).size = 1 := rfl
  clear hl hb hw
  go_enter Tryz.func16, Tryz.ntmps16
  go_wp2_with (go_at_call 12; refine hc.mono ?_; rintro e w1 ⟨rfl, h1⟩)
  go_ret
  exact ⟨by rw [← F.out]; rfl, h1⟩

theorem kindPrint_c (k : Int) (t : List UInt8) (hk : (k = 0 ∧ t = [110, 117, 108, 108]) ∨ (k = 1 ∧ t = [102, 97, 108, 115, 101]) ∨ (k = 2 ∧ t = [116, 114, 117, 101])) (w : World) :
    Calls Tryz.prog 14 #[.agg #[.int .i64 k, .int .i64 0, .string ⟨#[]⟩, .slice none 0 0, .slice none 0 0]] w fun e w' => e = .returned (.string (S t)) ∧ Below w.heap.size w w' := by
  rcases hk with ⟨rfl, rfl⟩ | ⟨rfl, rfl⟩ | ⟨rfl, rfl⟩
  all_goals
    go_enter Tryz.func14, Tryz.ntmps14
    go_wp2
    go_ret
    exact ⟨rfl, (Below.refl _ w).alloc (Nat.le_refl _) _⟩

theorem parts5 {C : Cond} {w : World} {u0 u1 u2 u3 u4 : Value} {x : V} (h : Holds C w (.agg #[u0, u1, u2, u3, u4]) x) : ∃ k n s p a b q c d, u0 = .int .i64 k ∧ u1 = .int .i64 n ∧ u2 = .string s ∧ u3 = .slice p a b ∧ u4 = .slice q c d := by
  cases h with
  | mk k n s p cap K l ks b off c hr hp hc hK hl =>
    obtain ⟨q, qc, qb, qo, rfl, _⟩ := hK
    exact ⟨k, n, s, p, _, _, q, _, _, rfl, rfl, rfl, rfl, rfl⟩

theorem join_item (r : Bool) (ks : List ByteArray) (l : List V) {j : Nat} (h : j < l.length) : (litL l[j]).length ≤ (joinK r ks (litAll l) (litAll l).length).length ∧ (keyAt r ks j).length ≤ (joinK r ks (litAll l) (litAll l).length).length ∧ (joinK r ks (litAll l) j).length ≤ (joinK r ks (litAll l) (litAll l).length).length := by
  have h1 := joinK_le r ks (litAll l) (show j + 1 ≤ (litAll l).length by rw [litAll_len]; omega)
  simp only [joinK, List.length_append, litAll_at l j h] at h1
  omega
theorem join_step (r : Bool) (ks : List ByteArray) (l : List V) {j : Nat} (h : j < l.length) : joinK r ks (litAll l) (j + 1) = joinK r ks (litAll l) j ++ ((if j = 0 then [] else [44]) ++ (keyAt r ks j ++ litL l[j])) := by
  simp only [joinK, litAll_at l j h]
theorem key_none {ks : List ByteArray} {j : Nat} (h : ks.length ≤ j) : keyAt true ks j = [] := by simp [keyAt, List.getElem?_eq_none h]
theorem key_some {ks : List ByteArray} {j : Nat} (h : j < ks.length) : keyAt true ks j = quoteL ks[j] ++ [58] := by simp [keyAt, h]
end Go.Proofs.YtganmmkdcaphfaaGreatDoor.Lit

/-
  Contract of the page's Literal at a list.
-/
namespace Go.Proofs.YtganmmkdcaphfaaGreatDoor.Lit
open Go.RowKit Go.Proofs.YtganmmkdcaphfaaGreatDoor.Oct Go.Proofs.YtganmmkdcaphfaaGreatDoor.Num Go.Proofs.YtganmmkdcaphfaaGreatDoor.Utf Go.Proofs.YtganmmkdcaphfaaGreatDoor.Val Go.Proofs.YtganmmkdcaphfaaGreatDoor.Mem

set_option maxHeartbeats 8000000 in
set_option maxRecDepth 100000 in
theorem rlit_5 (n : Int) (s : ByteArray) (p : Option Addr) (cap : Nat) (q : Option Addr) (qc : Nat) (l : List V) (ks : List ByteArray) (bl off qb qo : Nat) (k1 n1 : Nat → Int) (s1 : Nat → ByteArray) (p1 q1 : Nat → Option Addr) (a1 b1 c1 d1 : Nat → Nat) (W : World)
    (hlen : (joinK false ks (litAll l) (litAll l).length).length ≤ 4398046511104) (hl80 : l.length * 80 ≤ 140737488351232) (hk16 : ks.length * 16 ≤ 140737488351232)
    (hp : 0 < l.length → p = some ⟨bl, off, none⟩ ∧ bl < W.heap.size) (hq : 0 < ks.length → q = some ⟨qb, qo, none⟩ ∧ qb < W.heap.size)
    (hc : ∀ i, i < l.length → W.cell? ⟨bl, off + i * 5, none⟩ = some (.int .i64 (k1 i)) ∧ W.cell? ⟨bl, off + i * 5 + 1, none⟩ = some (.int .i64 (n1 i)) ∧ W.cell? ⟨bl, off + i * 5 + 2, none⟩ = some (.string (s1 i)) ∧ W.cell? ⟨bl, off + i * 5 + 3, none⟩ = some (.slice (p1 i) (a1 i) (b1 i)) ∧ W.cell? ⟨bl, off + i * 5 + 4, none⟩ = some (.slice (q1 i) (c1 i) (d1 i)))
    (hcq : ∀ i (h : i < ks.length), W.cell? ⟨qb, qo + i, none⟩ = some (.string ks[i]))
    (ih : ∀ i (h : i < l.length) (X : World), Below W.heap.size W X → (litL l[i]).length ≤ 4398046511104 → Calls Tryz.prog 9 #[.agg #[.int .i64 (k1 i), .int .i64 (n1 i), .string (s1 i), .slice (p1 i) (a1 i) (b1 i), .slice (q1 i) (c1 i) (d1 i)]] X fun e X' => e = .returned (.string (S (litL l[i]))) ∧ Kept X X') :
    Calls Tryz.prog 9 #[.agg #[.int .i64 5, .int .i64 n, .string s, .slice p l.length cap, .slice q ks.length qc]] W fun e W' => e = .returned (.string (S (brackL 91 93 (joinK false ks (litAll l) (litAll l).length)))) ∧ Kept W W' := by
  have B0 : Below W.heap.size W (W.alloc (.cells #[.int .i64 5, .int .i64 n, .string s, .slice p l.length cap, .slice q ks.length qc] 25)) := (Below.refl _ W).alloc (Nat.le_refl _) _
  obtain ⟨W1, hW1⟩ : ∃ W1, W1 = W.alloc (.cells #[.int .i64 5, .int .i64 n, .string s, .slice p l.length cap, .slice q ks.length qc] 25) := ⟨_, rfl⟩
  have HBX : Hid (∀ X, Kept W1 X → X.cell? ⟨W.heap.size, 0, none⟩ = some (.int .i64 5) ∧ X.cell? ⟨W.heap.size, 1, none⟩ = some (.int .i64 n) ∧ X.cell? ⟨W.heap.size, 2, none⟩ = some (.string s) ∧ X.cell? ⟨W.heap.size, 3, none⟩ = some (.slice p l.length cap) ∧ X.cell? ⟨W.heap.size, 4, none⟩ = some (.slice q ks.length qc)) := fun X hX => by
    have e : X.heap[W.heap.size]? = some (.cells #[.int .i64 5, .int .i64 n, .string s, .slice p l.length cap, .slice q ks.length qc] 25 (0, 0)) := (hX.block _ (by rw [hW1]; simp)).trans (by rw [hW1]; exact heap_alloc_new W _)
    exact ⟨cell_of_row X _ 0 _ _ _ e, cell_of_row X _ 1 _ _ _ e, cell_of_row X _ 2 _ _ _ e, cell_of_row X _ 3 _ _ _ e, cell_of_row X _ 4 _ _ _ e⟩
  have hWX : ∀ X, Kept W1 X → Below W.heap.size W X := fun X hX => (hW1 ▸ B0).trans (hX.mono (by rw [hW1]; simp))
  have HE : Hid (∀ X, Kept W1 X → ∀ j (h : j < l.length), (litL l[j]).length ≤ 4398046511104 →
      (X.cell? ⟨bl, off + j * 5, none⟩ = some (.int .i64 (k1 j)) ∧ X.cell? ⟨bl, off + j * 5 + 1, none⟩ = some (.int .i64 (n1 j)) ∧ X.cell? ⟨bl, off + j * 5 + 2, none⟩ = some (.string (s1 j)) ∧ X.cell? ⟨bl, off + j * 5 + 3, none⟩ = some (.slice (p1 j) (a1 j) (b1 j)) ∧ X.cell? ⟨bl, off + j * 5 + 4, none⟩ = some (.slice (q1 j) (c1 j) (d1 j))) ∧
      Calls Tryz.prog 9 #[.agg #[.int .i64 (k1 j), .int .i64 (n1 j), .string (s1 j), .slice (p1 j) (a1 j) (b1 j), .slice (q1 j) (c1 j) (d1 j)]] X fun e X' => e = .returned (.string (S (litL l[j]))) ∧ Kept X X') := fun X hX j h hz => by
    have e : ∀ o, X.cell? ⟨bl, o, none⟩ = W.cell? ⟨bl, o, none⟩ := fun o => (hWX X hX).cell (p := ⟨bl, o, none⟩) (hp (by omega)).2
    rw [e, e, e, e, e]
    exact ⟨hc j h, ih j h X (hWX X hX) hz⟩
  have HK : Hid (∀ X, Kept W1 X → ∀ j (h : j < ks.length), (quoteL ks[j]).length ≤ 4398046511104 → X.cell? ⟨qb, qo + j, none⟩ = some (.string ks[j]) ∧ Calls Tryz.prog 16 #[.string ks[j]] X fun e w' => e = .returned (.string (S (quoteL ks[j]))) ∧ Kept X w') := fun X hX j h hz =>
    ⟨((hWX X hX).cell (p := ⟨qb, qo + j, none⟩) (hq (by omega)).2).trans (hcq j h), quote_c ks[j] X hz⟩
  have HP := Lib.hid hp
  have HQ := Lib.hid hq
  have HW := Lib.hid hWX
  clear hp hq hc hcq ih hWX
  go_enter Tryz.func9, Tryz.ntmps9
  go_wp2_with fail
  rw [← hW1]
  clear hW1 B0
  go_loopw [3, 4] (fun o i wr => ∃ j : Nat, j ≤ l.length ∧ o = .string (S (joinK false ks (litAll l) j)) ∧ i = .int .i64 j ∧ Hid (Kept W1 wr)) (fun _ i _ => l.length - (intOf i).toNat)
  case atStart => exact ⟨0, Nat.zero_le _, rfl, rfl, Below.refl _ _⟩
  case round =>
    obtain ⟨j, hj, rfl, rfl, hb⟩ := hrel
    by_cases hlt : j < l.length
    · by_cases hj0 : j = 0
      · have F : Hid (S (joinK false ks (litAll l) j) ++ S (litL l[j]) = S (joinK false ks (litAll l) (j + 1))) := by
          show _ = _
          rw [join_step _ ks l hlt, if_pos hj0]
          simp only [S_append]
          simp [keyAt]
        have hi3 := join_item false ks l hlt
        have ho : (S (joinK false ks (litAll l) j)).size ≤ 4398046511104 := by rw [size_S]; omega
        have hi : (S (litL l[j])).size ≤ 4398046511104 := by rw [size_S]; omega
        obtain ⟨⟨e0, e1, e2, e3, e4⟩, hcall⟩ := HE.out wr hb.out j hlt (by omega)
        obtain ⟨rfl, -⟩ := HP.out (by omega)
        obtain ⟨x0, -, -, x3, x4⟩ := HBX.out wr hb.out
        have h1 : (0 : Int) ≤ (j : Int) := by omega
        have h2 : (j : Int) < (l.length : Int) := by omega
        have hj1 : j = 0 := by omega
        generalize S (litL l[j]) = x at F hi hcall
        generalize S (joinK false ks (litAll l) j) = o at F ho
        have s1 : (⟨#[44]⟩ : ByteArray).size = 1 := rfl
        have s2 : (⟨#[58]⟩ : ByteArray).size = 1 := rfl
        clear hi3
        subst hj1
        rw [Nat.zero_mul, Nat.add_zero] at e0 e1 e2 e3 e4
        go_wp2_with (go_at_call 9; refine hcall.mono ?_; rintro e Z ⟨rfl, hZ⟩)
        go_roundw
        case rel => exact ⟨0 + 1, by omega, congrArg Value.string F.out, by go_num, kept_trans hb.out hZ⟩
        case measure => simp [intOf]; omega
      · have F : Hid (S (joinK false ks (litAll l) j) ++ (⟨#[44]⟩ : ByteArray) ++ S (litL l[j]) = S (joinK false ks (litAll l) (j + 1))) := by
          show _ = _
          rw [join_step _ ks l hlt, if_neg hj0]
          simp only [show (⟨#[44]⟩ : ByteArray) = S [44] from rfl, S_append]
          simp [keyAt]
        have hi3 := join_item false ks l hlt
        have ho : (S (joinK false ks (litAll l) j)).size ≤ 4398046511104 := by rw [size_S]; omega
        have hi : (S (litL l[j])).size ≤ 4398046511104 := by rw [size_S]; omega
        obtain ⟨⟨e0, e1, e2, e3, e4⟩, hcall⟩ := HE.out wr hb.out j hlt (by omega)
        obtain ⟨rfl, -⟩ := HP.out (by omega)
        obtain ⟨x0, -, -, x3, x4⟩ := HBX.out wr hb.out
        have h1 : (0 : Int) ≤ (j : Int) := by omega
        have h2 : (j : Int) < (l.length : Int) := by omega
        have hj1 : (0 : Int) < (j : Int) := by omega
        generalize S (litL l[j]) = x at F hi hcall
        generalize S (joinK false ks (litAll l) j) = o at F ho
        have s1 : (⟨#[44]⟩ : ByteArray).size = 1 := rfl
        have s2 : (⟨#[58]⟩ : ByteArray).size = 1 := rfl
        clear hi3
        go_wp2_with (go_at_call 9; refine hcall.mono ?_; rintro e Z ⟨rfl, hZ⟩)
        go_roundw
        case rel => exact ⟨j + 1, by omega, congrArg Value.string F.out, by go_num, kept_trans hb.out hZ⟩
        case measure => simp [intOf]; omega
    · have hjl : j = l.length := by omega
      subst hjl
      obtain ⟨x0, -, -, x3, x4⟩ := HBX.out wr hb.out
      have F : Hid ((⟨#[91]⟩ : ByteArray) ++ S (joinK false ks (litAll l) l.length) ++ (⟨#[93]⟩ : ByteArray) = S (brackL 91 93 (joinK false ks (litAll l) (litAll l).length))) := by
        show _ = _
        rw [litAll_len, show (⟨#[91]⟩ : ByteArray) = S [91] from rfl, show (⟨#[93]⟩ : ByteArray) = S [93] from rfl, S_append, S_append]; rfl
      have ho : (S (joinK false ks (litAll l) l.length)).size ≤ 4398046511104 := by rw [size_S]; rw [litAll_len] at hlen; exact hlen
      generalize S (joinK false ks (litAll l) l.length) = o at F ho
      have s1 : (⟨#[91]⟩ : ByteArray).size = 1 := rfl
      have s2 : (⟨#[93]⟩ : ByteArray).size = 1 := rfl
      go_wp2
      go_ret
      exact ⟨by rw [← F.out]; rfl, HW.out wr hb.out⟩
end Go.Proofs.YtganmmkdcaphfaaGreatDoor.Lit
