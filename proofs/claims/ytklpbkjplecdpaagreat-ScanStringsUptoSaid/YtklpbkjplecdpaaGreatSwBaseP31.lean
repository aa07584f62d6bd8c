/-
  Part 31: PgPrint, LitLiteral, CrfPage, CrfRun.
-/
import Derived.Test.YtklpbkjplecdpaaGreatSwBaseP1
import Derived.Test.YtklpbkjplecdpaaGreatProg
import Derived.Lib.Hide
import Derived.Test.YtklpbkjplecdpaaGreatSwBaseP30
import Derived.Test.YtklpbkjplecdpaaGreatSwBaseP15
import Derived.Test.YtklpbkjplecdpaaGreatSwBaseP9
import Derived.LoopTactic
/-
  Contract of the page's Print of a number: its digits; it changes nothing.
-/
namespace Go.Proofs.YtklpbkjplecdpaaGreat.Num
open Go.RowKit Go.Proofs.YtklpbkjplecdpaaGreat.Oct

theorem digit_cut (d : Nat) (h : d < 10) : (⟨#[48, 49, 50, 51, 52, 53, 54, 55, 56, 57]⟩ : ByteArray).extract d (d + 1) = S [dig d] := by
  have : ∀ d : Fin 10, (⟨#[48, 49, 50, 51, 52, 53, 54, 55, 56, 57]⟩ : ByteArray).extract d.val (d.val + 1) = S [dig d.val] := by decide +kernel
  exact this ⟨d, h⟩

theorem digit_slice (d : Nat) (h : d < 10) (w : World) :
    (Instr.slice 9 (.string ⟨#[48, 49, 50, 51, 52, 53, 54, 55, 56, 57]⟩) (some (.int .i64 (d : Int))) (some (.int .i64 ((d : Int) + 1))) none).run Tryz.prog w = .ok (.string (S [dig d])) w := by
  have h16 : (⟨#[48, 49, 50, 51, 52, 53, 54, 55, 56, 57]⟩ : ByteArray).size = 10 := rfl
  rw [← digit_cut d h]
  generalize (⟨#[48, 49, 50, 51, 52, 53, 54, 55, 56, 57]⟩ : ByteArray) = s at h16
  have e1 : ((d : Int) + 1).toNat = d + 1 := by omega
  rw [run_slice_string w _ s .i64 .i64 (d : Int) ((d : Int) + 1) Tryz.underlying9 (by omega) (by omega) (by omega), e1, Int.toNat_natCast]

theorem ret_str {a b : ByteArray} (h : a = b) : Ending.returned (.string a) = .returned (.string b) := by rw [h]
theorem S_minus (l : List UInt8) : (⟨#[45]⟩ : ByteArray) ++ S l = S (45 :: l) := S_append [45] l

end Go.Proofs.YtklpbkjplecdpaaGreat.Num

/-
  Contracts of the page's Quote, Print at null and truths, and Literal: a value as a script's literal.
-/
namespace Go.Proofs.YtklpbkjplecdpaaGreat.Lit
open Go.RowKit Go.Proofs.YtklpbkjplecdpaaGreat.Oct Go.Proofs.YtklpbkjplecdpaaGreat.Num Go.Proofs.YtklpbkjplecdpaaGreat.Utf Go.Proofs.YtklpbkjplecdpaaGreat.Val Go.Proofs.YtklpbkjplecdpaaGreat.Mem

theorem quote_c (s : ByteArray) (w : World) (hb : (quoteL s).length ≤ 4398046511104) : Calls Tryz.prog 19 #[.string s] w fun e w' => e = .returned (.string (S (quoteL s))) ∧ Kept w w' := by
  have hw := quoteL_wide s
  have hl : (insideL (chars s.data.toList)).length ≤ 4398046511104 := by simp [quoteL] at hb; omega
  have hc := inside_c s w (by omega) (by omega)
  have F : Hid ((⟨#[34]⟩ : ByteArray) ++ S (insideL (chars s.data.toList)) ++ ⟨#[34]⟩ = S (quoteL s)) := by
    show _ = _
    rw [show (⟨#[34]⟩ : ByteArray) = S [34] from rfl, S_append, S_append]; rfl
  have hz : (S (insideL (chars s.data.toList))).size ≤ 4398046511104 := by rw [size_S]; exact hl
  generalize S (insideL (chars s.data.toList)) = x at hc F hz
  have s1 : (⟨#[34]⟩ : ByteArray).size = 1 := rfl
  clear hl hb hw
  go_enter Tryz.func19, Tryz.ntmps19
  go_wp2_with (go_at_call 18; refine hc.mono ?_; rintro e w1 ⟨rfl, h1⟩)
  go_ret
  exact ⟨by rw [← F.out]; rfl, h1⟩

theorem parts5 {C : Cond} {w : World} {u0 u1 u2 u3 u4 : Value} {x : V} (h : Holds C w (.agg #[u0, u1, u2, u3, u4]) x) : ∃ k n s p a b q c d, u0 = .int .i64 k ∧ u1 = .int .i64 n ∧ u2 = .string s ∧ u3 = .slice p a b ∧ u4 = .slice q c d := by
  cases h with
  | mk k n s p cap K l ks b off c hr hp hc hK hl =>
    obtain ⟨q, qc, qb, qo, rfl, _⟩ := hK
    exact ⟨k, n, s, p, _, _, q, _, _, rfl, rfl, rfl, rfl, rfl⟩

theorem join_item (r : Bool) (ks : List ByteArray) (l : List V) {j : Nat} (h : j < l.length) : (litL l[j]).length ≤ (joinK r ks (litAll l) (litAll l).length).length ∧ (keyAt r ks j).length ≤ (joinK r ks (litAll l) (litAll l).length).length ∧ (joinK r ks (litAll l) j).length ≤ (joinK r ks (litAll l) (litAll l).length).length := by
  have h1 := joinK_le r ks (litAll l) (show j + 1 ≤ (litAll l).length by rw [litAll_len]; omega)
  simp only [joinK, List.length_append, litAll_at l j h] at h1
  omega
theorem join_step (r : Bool) (ks : List ByteArray) (l : List V) {j : Nat} (h : j < l.length) : joinK r ks (litAll l) (j + 1) = joinK r ks (litAll l) j ++ ((if j = 0 then [] else [44]) ++ (keyAt r ks j ++ litL l[j])) := by
  simp only [joinK, litAll_at l j h]
theorem key_none {ks : List ByteArray} {j : Nat} (h : ks.length ≤ j) : keyAt true ks j = [] := by simp [keyAt, List.getElem?_eq_none h]
theorem key_some {ks : List ByteArray} {j : Nat} (h : j < ks.length) : keyAt true ks j = quoteL ks[j] ++ [58] := by simp [keyAt, h]
end Go.Proofs.YtklpbkjplecdpaaGreat.Lit

/-
  Contracts of the page's leaves that references are read by: Begins, Has, digit, Unhex at one octet, run, number.
-/
namespace Go.Proofs.YtklpbkjplecdpaaGreat.Crf
open Go.RowKit Go.Proofs.YtklpbkjplecdpaaGreat.Oct Go.Proofs.YtklpbkjplecdpaaGreat.Num Go.Proofs.YtklpbkjplecdpaaGreat.Utf
open Go.Lib (encodeRune)

theorem prefix_take (l p : List UInt8) : Lib.hasPrefix l p = decide (l.take p.length = p) := by
  rw [Bool.eq_iff_iff, pre_iff, decide_eq_true_eq]
  constructor
  · intro hp
    exact (List.prefix_iff_eq_take.1 hp).symm
  · intro e
    rw [← e]
    exact List.take_prefix _ _

/-- Contract of the page's Begins. -/
theorem rbegins_c (p l : List UInt8) (w : World) :
    Calls Tryz.prog 58 #[.string (S p), .string (S l)] w fun e w' => e = .returned (.bool (Lib.hasPrefix l p)) ∧ w = w' := by
  have z1 : ((S p).size : Int) = (p.length : Int) := by rw [size_S]
  have z2 : ((S l).size : Int) = (l.length : Int) := by rw [size_S]
  by_cases h : p.length ≤ l.length
  · have hcut : (S l).extract 0 p.length = S (l.take p.length) := by rw [cutTo, list_S]
    have HE : Hid (Lib.hasPrefix l p = ((S (l.take p.length)).toList == (S p).toList)) := by
      show _ = _
      rw [prefix_take l p, eqB]
    generalize S (l.take p.length) = T at hcut HE
    generalize S p = P at z1 HE
    generalize S l = L at z2 hcut
    have h1 : (p.length : Int) ≤ (l.length : Int) := by omega
    have h2 : (0 : Int) ≤ (p.length : Int) := by omega
    go_enter Tryz.func58, Tryz.ntmps58
    go_wp2
    go_ret
    exact ⟨by rw [HE.out]; rfl, rfl⟩
  · have HE : Hid (Lib.hasPrefix l p = false) := by
      show _ = _
      cases hb : Lib.hasPrefix l p with
      | false => rfl
      | true => exact absurd ((pre_iff l p).1 hb).length_le h
    generalize S p = P at z1
    generalize S l = L at z2
    have h1 : decide ((p.length : Int) ≤ (l.length : Int)) = false := decide_eq_false (by omega)
    have h2 : decide (p.length ≤ l.length) = false := decide_eq_false h
    go_enter Tryz.func58, Tryz.ntmps58
    go_wp2
    go_ret
    exact ⟨by rw [HE.out]; rfl, rfl⟩

/-- Is an octet among these? -/
def hasB (l : List UInt8) (c : UInt8) : Bool := l.contains c
/-- Contract of the page's Has. -/
theorem rhas_c (s : ByteArray) (c : UInt8) (hs : s.size ≤ 4611686018427387904) (w : World) :
    Calls Tryz.prog 128 #[.string s, .int .u8 (c.toNat : Int)] w fun e w' => e = .returned (.bool (hasB s.data.toList c)) ∧ w = w' := by
  have HL := Lib.hid (fun k (h : k < s.size) => (by
    rw [List.getElem?_eq_getElem (by rw [size_list]; exact h)]
    rfl : s.data.toList[k]? = some s[k]))
  go_enter Tryz.func128, Tryz.ntmps128
  go_wp2_with fail
  go_loop [5] (fun i => ∃ k : Nat, k ≤ s.size ∧ i = .int .i64 k ∧ Hid (∀ j (x : UInt8), j < k → s.data.toList[j]? = some x → x ≠ c)) (fun i => s.size - (intOf i).toNat)
  case atStart => exact ⟨0, Nat.zero_le _, rfl, fun j _ h => absurd h (by omega)⟩
  case round =>
    obtain ⟨k, hk, rfl, hno⟩ := hrel
    by_cases hlt : k < s.size
    · have hx := HL.out k hlt
      by_cases he : s[k] = c
      · have HR : Hid (hasB s.data.toList c = true) := by
          show s.data.toList.contains c = true
          rw [List.contains_iff_mem, ← he]
          exact List.mem_of_getElem? hx
        have hb : ((s[k].toNat : Int) == (c.toNat : Int)) = true := by rw [he]; simp
        clear hx he
        go_wp2_with fail
        go_ret
        exact ⟨by rw [HR.out]; rfl, rfl⟩
      · have hb : ((s[k].toNat : Int) == (c.toNat : Int)) = false := by
          rw [beq_eq_false_iff_ne]
          intro e
          exact he (UInt8.toNat_inj.1 (by omega))
        have HN : Hid (∀ j (x : UInt8), j < k + 1 → s.data.toList[j]? = some x → x ≠ c) := fun j x hj hxj => by
          rcases Nat.lt_or_ge j k with h | h
          · exact hno.out j x h hxj
          · obtain rfl : j = k := by omega
            rw [hx] at hxj
            injection hxj with e
            rw [← e]
            exact he
        clear hx he
        go_wp2_with fail
        go_round
        case rel => exact ⟨k + 1, by omega, by go_num, HN⟩
        case measure => simp [intOf]; omega
    · have HR : Hid (hasB s.data.toList c = false) := by
        show s.data.toList.contains c = false
        rw [Bool.eq_false_iff]
        intro hc
        rw [List.contains_iff_mem] at hc
        obtain ⟨j, hj⟩ := List.mem_iff_getElem?.1 hc
        have hjl := (List.getElem?_eq_some_iff.1 hj).1
        rw [size_list] at hjl
        exact hno.out j c (by omega) hj rfl
      go_wp2_with fail
      go_ret
      exact ⟨by rw [HR.out]; rfl, rfl⟩

/-- Contract of the page's digit. -/
theorem rdig_c (n : Int) (w : World) (h0 : 0 ≤ n) (h1 : n ≤ 255) :
    Calls Tryz.prog 141 #[.int .u8 n] w fun e w' => e = .returned (.int .i64 (hexI n)) ∧ w = w' := by
  have hd := rdigit_c n w h0 h1
  by_cases c1 : 48 ≤ n ∧ n ≤ 57
  · have e : Hid (hexI n = n - 48) := by show _ = _; unfold hexI; rw [if_pos c1]
    rw [show digitI n = true from decide_eq_true c1] at hd
    obtain ⟨c2, c3⟩ := c1
    go_enter Tryz.func141, Tryz.ntmps141
    go_wp2_with (go_at_call 67; refine hd.mono ?_; rintro e' w' ⟨rfl, rfl⟩)
    go_ret
    exact ⟨by rw [e.out]; rfl, rfl⟩
  · rw [show digitI n = false from decide_eq_false c1] at hd
    by_cases c2 : 97 ≤ n ∧ n ≤ 102
    · have e : Hid (hexI n = n - 97 + 10) := by show _ = _; unfold hexI; rw [if_neg c1, if_pos c2]; omega
      obtain ⟨c3, c4⟩ := c2
      clear c1
      go_enter Tryz.func141, Tryz.ntmps141
      go_wp2_with (go_at_call 67; refine hd.mono ?_; rintro e' w' ⟨rfl, rfl⟩)
      go_ret
      exact ⟨by rw [e.out]; rfl, rfl⟩
    · by_cases c3 : 65 ≤ n ∧ n ≤ 70
      · have e : Hid (hexI n = n - 65 + 10) := by show _ = _; unfold hexI; rw [if_neg c1, if_neg c2, if_pos c3]; omega
        obtain ⟨c4, c5⟩ := c3
        have d1 : decide (97 ≤ n) = false := decide_eq_false (by omega)
        clear c1 c2
        go_enter Tryz.func141, Tryz.ntmps141
        go_wp2_with (go_at_call 67; refine hd.mono ?_; rintro e' w' ⟨rfl, rfl⟩)
        go_ret
        exact ⟨by rw [e.out]; rfl, rfl⟩
      · have HE : Hid (hexI n = -1) := by show _ = _; unfold hexI; rw [if_neg c1, if_neg c2, if_neg c3]
        rcases (by omega : n < 65 ∨ (70 < n ∧ n < 97) ∨ 102 < n) with c | ⟨c, c'⟩ | c
        · have d1 : decide (97 ≤ n) = false := decide_eq_false (by omega)
          have d2 : decide (65 ≤ n) = false := decide_eq_false (by omega)
          clear c1 c2 c3
          go_enter Tryz.func141, Tryz.ntmps141
          go_wp2_with (go_at_call 67; refine hd.mono ?_; rintro e w' ⟨rfl, rfl⟩)
          go_ret
          exact ⟨by rw [HE.out]; rfl, rfl⟩
        · have d1 : decide (97 ≤ n) = false := decide_eq_false (by omega)
          have d2 : (65 : Int) ≤ n := by omega
          have d3 : decide (n ≤ 70) = false := decide_eq_false (by omega)
          clear c1 c2 c3
          go_enter Tryz.func141, Tryz.ntmps141
          go_wp2_with (go_at_call 67; refine hd.mono ?_; rintro e w' ⟨rfl, rfl⟩)
          go_ret
          exact ⟨by rw [HE.out]; rfl, rfl⟩
        · have d1 : (97 : Int) ≤ n := by omega
          have d2 : (65 : Int) ≤ n := by omega
          have d3 : decide (n ≤ 70) = false := decide_eq_false (by omega)
          have d4 : decide (n ≤ 102) = false := decide_eq_false (by omega)
          clear c1 c2 c3
          go_enter Tryz.func141, Tryz.ntmps141
          go_wp2_with (go_at_call 67; refine hd.mono ?_; rintro e w' ⟨rfl, rfl⟩)
          go_ret
          exact ⟨by rw [HE.out]; rfl, rfl⟩

/-- Contract of the page's Unhex at one digit. -/
theorem rone_c (c : UInt8) (hc : 0 ≤ hx c) (w : World) :
    Calls Tryz.prog 129 #[.string (S [c])] w fun e w' => e = .returned (.tuple #[.int .i64 (hx c), .int .i64 0]) ∧ w = w' := by
  have hd := fun w => rdig_c (c.toNat : Int) w (by omega) (by have := c.toNat_lt; omega)
  have e : hexI (c.toNat : Int) = hx c := rfl
  rw [e] at hd
  have hr := hx_le c
  have h0 : (S [c]).toList.isEmpty = false := by rw [ByteArray.toList_eq, list_S]; rfl
  have h1 : (S [c]).size = 1 := rfl
  have h2 : (S [c])[0]'(by show (0 : Nat) < 1; omega) = c := rfl
  have hcn : (c.toNat : Int) ≤ 255 := by have := c.toNat_lt; omega
  generalize hx c = d at hd hc hr
  go_enter Tryz.func129, Tryz.ntmps129
  go_wp2_with fail
  go_loop [4, 5] (fun n i => (n = .int .i64 0 ∧ i = .int .i64 0) ∨ (n = .int .i64 d ∧ i = .int .i64 1)) (fun _ i => 1 - (intOf i).toNat)
  case atStart => exact .inl ⟨rfl, rfl⟩
  case round =>
    rcases hrel with ⟨rfl, rfl⟩ | ⟨rfl, rfl⟩
    · go_wp2_with (go_at_call 141; refine (hd _).mono ?_; rintro e w' ⟨rfl, rfl⟩)
      go_round
      case rel => exact .inr ⟨by simp, by go_num⟩
      case measure => simp [intOf]
    · go_wp2_with fail
      go_ret2
      exact ⟨rfl, rfl⟩
end Go.Proofs.YtklpbkjplecdpaaGreat.Crf

/-
  Contracts of the page's run and number: how many digits stand from a place on, and what they count.
-/
namespace Go.Proofs.YtklpbkjplecdpaaGreat.Crf
open Go.RowKit Go.Proofs.YtklpbkjplecdpaaGreat.Oct Go.Proofs.YtklpbkjplecdpaaGreat.Num Go.Proofs.YtklpbkjplecdpaaGreat.Utf
open Go.Lib (encodeRune)

abbrev abcL : List UInt8 := [97, 98, 99, 100, 101, 102, 65, 66, 67, 68, 69, 70]
theorem dig10 (c : UInt8) : digB 10 c = digitI (c.toNat : Int) := by
  have h : ∀ c : Fin 256, digB 10 (UInt8.ofNat c.val) = digitI ((UInt8.ofNat c.val).toNat : Int) := by decide +kernel
  have h2 := h ⟨c.toNat, c.toNat_lt⟩
  simpa using h2
theorem dig16 (c : UInt8) : digB 16 c = (digitI (c.toNat : Int) || hasB abcL c) := by
  have h : ∀ c : Fin 256, digB 16 (UInt8.ofNat c.val) = (digitI ((UInt8.ofNat c.val).toNat : Int) || hasB abcL (UInt8.ofNat c.val)) := by decide +kernel
  have h2 := h ⟨c.toNat, c.toNat_lt⟩
  simpa using h2
theorem runN_is {base : Int} {l : List UInt8} {k : Nat} (h : (l.take k).all (digB base) = true) (hk : k = l.length ∨ ∃ c, l[k]? = some c ∧ digB base c = false) : runN base l = k := by
  rcases hk with rfl | ⟨c, hc, hd⟩
  · rw [List.take_length] at h
    exact (runN_full base l).2 h
  · obtain ⟨hlt, hce⟩ := List.getElem?_eq_some_iff.1 hc
    have e : l = l.take k ++ c :: l.drop (k + 1) := by
      conv => lhs; rw [← List.take_append_drop k l, List.drop_eq_getElem_cons hlt, hce]
    unfold runN
    rw [e, List.takeWhile_append_of_pos (List.all_eq_true.1 h), List.takeWhile_cons_of_neg (by rw [hd]; simp)]
    simp
    omega
theorem all_next {base : Int} {l : List UInt8} {k : Nat} {c : UInt8} (h : (l.take k).all (digB base) = true) (hc : l[k]? = some c) (hd : digB base c = true) : (l.take (k + 1)).all (digB base) = true := by
  obtain ⟨hlt, hce⟩ := List.getElem?_eq_some_iff.1 hc
  rw [List.take_succ_eq_append_getElem hlt, List.all_append, h, hce]
  simp [hd]

set_option maxHeartbeats 4000000 in
set_option maxRecDepth 100000 in
theorem rrun_c (s : ByteArray) (at_ : Nat) (hex : Bool) (hat : at_ ≤ s.size) (hs : s.size ≤ 2305843009213693952) (w : World) :
    Calls Tryz.prog 113 #[.string s, .int .i64 (at_ : Int), .bool hex] w fun e w' => e = .returned (.int .i64 (runN (if hex then 16 else 10) (s.data.toList.drop at_) : Nat)) ∧ w = w' := by
  obtain ⟨d, hd⟩ : ∃ d, d = s.data.toList.drop at_ := ⟨_, rfl⟩
  have hdl : d.length = s.size - at_ := by rw [hd, List.length_drop, size_list]
  have HX := Lib.hid (fun k (h : at_ + k < s.size) => (by
    rw [hd, List.getElem?_drop, List.getElem?_eq_getElem (by rw [size_list]; exact h)]
    rfl : d[k]? = some s[at_ + k]))
  have HDg := Lib.hid (fun (c : UInt8) w => rdigit_c (c.toNat : Int) w (by omega) (by have := c.toNat_lt; omega))
  have HHas := Lib.hid (fun (c : UInt8) w => (by exact rhas_c (S abcL) c (by decide) w : Calls Tryz.prog 128 #[.string ⟨#[97, 98, 99, 100, 101, 102, 65, 66, 67, 68, 69, 70]⟩, .int .u8 (c.toNat : Int)] w fun e w' => e = .returned (.bool (hasB abcL c)) ∧ w = w'))
  rw [← hd]
  clear hd
  have hai : (0 : Int) ≤ (at_ : Int) := by omega
  obtain ⟨base, hb⟩ : ∃ base : Int, base = (if hex then 16 else 10) := ⟨_, rfl⟩
  rw [← hb]
  have HB := Lib.hid hb
  have HL := Lib.hid hdl
  clear hb hdl
  go_enter Tryz.func113, Tryz.ntmps113
  go_wp2_with fail
  go_loop [7] (fun n => ∃ k : Nat, at_ + k ≤ s.size ∧ n = .int .i64 k ∧ Hid ((d.take k).all (digB base) = true)) (fun n => s.size - at_ - (intOf n).toNat)
  case atStart => exact ⟨0, by omega, rfl, by show _ = _; simp⟩
  case round =>
    obtain ⟨k, hk, rfl, hall⟩ := hrel
    have i0 : (0 : Int) ≤ (k : Int) := by omega
    have i1 : ((at_ : Int) + (k : Int)).toNat = at_ + k := by omega
    by_cases hlt : at_ + k < s.size
    · have i2 : (at_ : Int) + (k : Int) < (s.size : Int) := by omega
      have hx := HX.out k hlt
      have hdg := HDg.out (s[at_ + k]) w
      have hha := HHas.out (s[at_ + k]) w
      have hcn : (s[at_ + k].toNat : Int) ≤ 255 := by have := s[at_ + k].toNat_lt; omega
      cases hq : digitI (s[at_ + k].toNat : Int) with
      | true =>
        have HN : Hid ((d.take (k + 1)).all (digB base) = true) := all_next hall.out hx (by
          rw [HB.out]
          cases hex with
          | true => rw [if_pos rfl, dig16, hq]; rfl
          | false => rw [if_neg (by simp), dig10, hq])
        rw [hq] at hdg
        clear hq hx hha
        go_wp2_with (first | (go_at_call 67; refine hdg.mono ?_; rintro e w' ⟨rfl, rfl⟩))
        go_round
        case rel => exact ⟨k + 1, by omega, by go_num, HN⟩
        case measure => simp [intOf]; omega
      | false =>
        rw [hq] at hdg
        cases hex with
        | false =>
          have HR : Hid (runN base d = k) := runN_is hall.out (.inr ⟨_, hx, by rw [HB.out, if_neg (by simp), dig10, hq]⟩)
          clear hq hx hha
          go_wp2_with (first | (go_at_call 67; refine hdg.mono ?_; rintro e w' ⟨rfl, rfl⟩))
          go_ret
          exact ⟨by rw [HR.out]; rfl, rfl⟩
        | true =>
          cases hq2 : hasB abcL (s[at_ + k]) with
          | true =>
            have HN : Hid ((d.take (k + 1)).all (digB base) = true) := all_next hall.out hx (by rw [HB.out, if_pos rfl, dig16, hq, hq2]; rfl)
            rw [hq2] at hha
            clear hq hq2 hx
            go_wp2_with (first
              | (go_at_call 67; refine hdg.mono ?_; rintro e w' ⟨rfl, rfl⟩)
              | (go_at_call 128; refine hha.mono ?_; rintro e w' ⟨rfl, rfl⟩))
            go_round
            case rel => exact ⟨k + 1, by omega, by go_num, HN⟩
            case measure => simp [intOf]; omega
          | false =>
            have HR : Hid (runN base d = k) := runN_is hall.out (.inr ⟨_, hx, by rw [HB.out, if_pos rfl, dig16, hq, hq2]; rfl⟩)
            rw [hq2] at hha
            clear hq hq2 hx
            go_wp2_with (first
              | (go_at_call 67; refine hdg.mono ?_; rintro e w' ⟨rfl, rfl⟩)
              | (go_at_call 128; refine hha.mono ?_; rintro e w' ⟨rfl, rfl⟩))
            go_ret
            exact ⟨by rw [HR.out]; rfl, rfl⟩
    · have i2 : decide ((at_ : Int) + (k : Int) < (s.size : Int)) = false := decide_eq_false (by omega)
      have HR : Hid (runN base d = k) := runN_is hall.out (.inl (by have := HL.out; omega))
      go_wp2_with fail
      go_ret
      exact ⟨by rw [HR.out]; rfl, rfl⟩

set_option maxHeartbeats 4000000 in
set_option maxRecDepth 100000 in
/-- Contract of the page's number, of at most seven digits. -/
theorem rnumber_c (l : List UInt8) (b : Nat) (hb : b = 10 ∨ b = 16) (hl : l.length ≤ 7) (hd : l.all (digB b) = true) (w : World) :
    Calls Tryz.prog 114 #[.string (S l), .int .i64 (b : Int)] w fun e w' => e = .returned (.int .i64 (valB b l : Nat)) ∧ w = w' := by
  have hz : ((S l).size : Int) = (l.length : Int) := by rw [size_S]
  have H1 := Lib.hid (fun k (h : k < l.length) => cutOne l k h)
  have HD := Lib.hid (fun k (h : k < l.length) => (of_decide_eq_true (List.all_eq_true.1 hd l[k] (List.getElem_mem h)) : 0 ≤ hx l[k] ∧ hx l[k] < (b : Int)))
  have HU := Lib.hid (fun (c : UInt8) (hc : 0 ≤ hx c) w => rone_c c hc w)
  have HV := Lib.hid (fun k (h : k < l.length) => (by rw [List.take_succ_eq_append_getElem h, valB_snoc] : valB b (l.take (k + 1)) = valB b (l.take k) * b + (hx l[k]).toNat))
  have hli : (l.length : Int) ≤ 7 := by omega
  generalize S l = L at hz H1
  clear hd
  rcases hb with rfl | rfl
  · show Calls Tryz.prog 114 #[.string L, .int .i64 10] w _
    go_enter Tryz.func114, Tryz.ntmps114
    go_wp2_with fail
    go_loop [5, 6] (fun n i => ∃ k : Nat, k ≤ l.length ∧ i = .int .i64 k ∧ n = .int .i64 (valB 10 (l.take k) : Nat)) (fun _ i => l.length - (intOf i).toNat)
    case atStart => exact ⟨0, Nat.zero_le _, rfl, rfl⟩
    case round =>
      obtain ⟨k, hk, rfl, rfl⟩ := hrel
      by_cases hlt : k < l.length
      · obtain ⟨d0, d1⟩ := HD.out k hlt
        have h1 := H1.out k hlt
        have hu := HU.out l[k] d0 w
        have hv := valB_small 10 (by omega) l k hl
        have HE : Hid ((valB 10 (l.take (k + 1)) : Int) = (valB 10 (l.take k) : Int) * 10 + hx l[k]) := by
          show _ = _
          rw [HV.out k hlt]
          push_cast
          rw [Int.toNat_of_nonneg d0]
        generalize hx l[k] = d at d0 d1 hu HE
        generalize l[k] = c at h1 hu
        generalize S [c] = C at h1 hu
        generalize valB 10 (l.take k) = v at hv HE
        have i0 : (0 : Int) ≤ (k : Int) := by omega
        have i1 : (k : Int) < (l.length : Int) := by omega
        have i2 : (k : Int) + 1 ≤ (l.length : Int) := by omega
        have i3 : (k : Int) ≤ (k : Int) + 1 := by omega
        have i4 : ((k : Int) + 1).toNat = k + 1 := by omega
        go_wp2_with (first | (go_at_call 129; refine hu.mono ?_; rintro e w' ⟨rfl, rfl⟩))
        go_round
        case rel => exact ⟨k + 1, by omega, by go_num, by rw [HE.out]⟩
        case measure => simp [intOf]; omega
      · have hkl : k = l.length := by omega
        subst hkl
        have HE : Hid (valB 10 (l.take l.length) = valB 10 l) := by show _ = _; rw [List.take_length]
        rw [HE.out]
        go_wp2_with fail
        go_ret
        exact ⟨rfl, rfl⟩
  · show Calls Tryz.prog 114 #[.string L, .int .i64 16] w _
    go_enter Tryz.func114, Tryz.ntmps114
    go_wp2_with fail
    go_loop [5, 6] (fun n i => ∃ k : Nat, k ≤ l.length ∧ i = .int .i64 k ∧ n = .int .i64 (valB 16 (l.take k) : Nat)) (fun _ i => l.length - (intOf i).toNat)
    case atStart => exact ⟨0, Nat.zero_le _, rfl, rfl⟩
    case round =>
      obtain ⟨k, hk, rfl, rfl⟩ := hrel
      by_cases hlt : k < l.length
      · obtain ⟨d0, d1⟩ := HD.out k hlt
        have h1 := H1.out k hlt
        have hu := HU.out l[k] d0 w
        have hv := valB_small 16 (by omega) l k hl
        have HE : Hid ((valB 16 (l.take (k + 1)) : Int) = (valB 16 (l.take k) : Int) * 16 + hx l[k]) := by
          show _ = _
          rw [HV.out k hlt]
          push_cast
          rw [Int.toNat_of_nonneg d0]
        generalize hx l[k] = d at d0 d1 hu HE
        generalize l[k] = c at h1 hu
        generalize S [c] = C at h1 hu
        generalize valB 16 (l.take k) = v at hv HE
        have i0 : (0 : Int) ≤ (k : Int) := by omega
        have i1 : (k : Int) < (l.length : Int) := by omega
        have i2 : (k : Int) + 1 ≤ (l.length : Int) := by omega
        have i3 : (k : Int) ≤ (k : Int) + 1 := by omega
        have i4 : ((k : Int) + 1).toNat = k + 1 := by omega
        go_wp2_with (first | (go_at_call 129; refine hu.mono ?_; rintro e w' ⟨rfl, rfl⟩))
        go_round
        case rel => exact ⟨k + 1, by omega, by go_num, by rw [HE.out]⟩
        case measure => simp [intOf]; omega
      · have hkl : k = l.length := by omega
        subst hkl
        have HE : Hid (valB 16 (l.take l.length) = valB 16 l) := by show _ = _; rw [List.take_length]
        rw [HE.out]
        go_wp2_with fail
        go_ret
        exact ⟨rfl, rfl⟩
end Go.Proofs.YtklpbkjplecdpaaGreat.Crf
