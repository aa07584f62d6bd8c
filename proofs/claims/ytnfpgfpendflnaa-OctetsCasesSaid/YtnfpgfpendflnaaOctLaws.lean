/-
  The laws of layer 1 out of the contracts: OctetsHex, OctetsCases, OctetsTells.
-/
import Derived.Test.YtnfpgfpendflnaaRefHex
namespace Go.Proofs.Ytnfpgfpendflnaa.Oct
open Go.RowKit

theorem string_eq_self (s : ByteArray) : (s.toList == s.toList) = true := by simp
theorem string_ne_self (s : ByteArray) : (s.toList != s.toList) = false := by simp
theorem below_step {a b c : World} (h1 : Below a.heap.size a b) (h2 : Below b.heap.size b c) : Below a.heap.size a c := h1.trans (h2.mono h1.size)

theorem unhexL_lt (l : List UInt8) : (unhexL l).1 ≤ 4294967295 ∧ (unhexL l).2 ≤ 33 := by
  unfold unhexL
  split
  · exact ⟨by simp, by simp⟩
  · split
    · exact ⟨by simp, by simp⟩
    · split
      · have h1 := valL_lt l
        have h2 : 16 ^ l.length ≤ 16 ^ 8 := Nat.pow_le_pow_right (by omega) (by omega)
        exact ⟨by show valL l ≤ _; omega, by simp⟩
      · exact ⟨by simp, by simp⟩

set_option maxHeartbeats 1000000 in
theorem law_hex (n size : Int) (s : ByteArray) (w : World) :
    Calls Try.prog 4 #[.int .i64 n, .int .i64 size, .string s] w fun e w' => e = .returned (.bool true) ∧ Below w.heap.size w w' := by
  have h1 := fun w => unhex_c s w
  have h2 := fun w => runhex_c s w
  have h3 := fun w => hex_c n size w
  have h4 := fun w => rhex_c n size w
  have hb := unhexL_lt s.data.toList
  generalize (unhexL s.data.toList).1 = a at h1 h2 hb
  generalize (unhexL s.data.toList).2 = b at h1 h2 hb
  generalize S (hexL (u64 n) (clamp size)) = t at h3 h4
  have ht := string_eq_self t
  obtain ⟨hb1, hb2⟩ := hb
  go_enter Try.func4, Try.ntmps4
  go_wp2_with fail
  refine (h1 w).mono ?_
  rintro e w1 ⟨rfl, hb1⟩
  go_wp2_with fail
  refine (h2 w1).mono ?_
  rintro e w2 ⟨rfl, rfl⟩
  go_wp2_with fail
  refine (h3 w1).mono ?_
  rintro e w3 ⟨rfl, hb3⟩
  go_wp2_with fail
  refine (h4 w3).mono ?_
  rintro e w4 ⟨rfl, rfl⟩
  go_wp2_with fail
  refine (num_c _ _).mono ?_
  rintro e w5 ⟨rfl, rfl⟩
  go_wp2_with fail
  refine (alive_c _).mono ?_
  rintro e w6 ⟨rfl, hb6⟩
  go_wp2_with fail
  go_ret
  exact ⟨rfl, below_step (below_step hb1 hb3) hb6⟩

theorem low_up_all : ∀ k : Fin 256, low (up (UInt8.ofNat k.val)) = low (UInt8.ofNat k.val) := by decide +kernel
theorem low_up (c : UInt8) : low (up c) = low c := by
  have := low_up_all ⟨c.toNat, c.toNat_lt⟩
  simpa using this
theorem lower_upper (l : List UInt8) : (l.map up).map low = l.map low := by
  rw [List.map_map]
  exact List.map_congr_left fun c _ => low_up c
theorem starts_self (l : List UInt8) : startsB l (l.map up) = true := by
  unfold startsB
  rw [List.length_map, decide_eq_true (Nat.le_refl _), Bool.true_and, lower_upper, beq_iff_eq, List.take_of_length_le (by simp)]

theorem dropWhile_idem (q : UInt8 → Bool) (l : List UInt8) : (l.dropWhile q).dropWhile q = l.dropWhile q := by
  induction l with
  | nil => rfl
  | cons c l ih =>
    cases h : q c with
    | true => simp only [List.dropWhile_cons, h, if_true]; exact ih
    | false => simp [h]
/-- The end of a text without blanks ahead, trimmed behind, has none ahead. -/
theorem trim_behind_ahead (q : UInt8 → Bool) (l : List UInt8) (h : l.dropWhile q = l) : ((l.reverse.dropWhile q).reverse).dropWhile q = (l.reverse.dropWhile q).reverse := by
  have hs : ∀ m : List UInt8, m <:+ m := fun m => List.suffix_refl m
  have hp : (l.reverse.dropWhile q).reverse <+: l := by
    have := List.reverse_prefix.2 (List.dropWhile_suffix q (l := l.reverse))
    rwa [List.reverse_reverse] at this
  generalize (l.reverse.dropWhile q).reverse = m at hp
  cases m with
  | nil => rfl
  | cons c m =>
    obtain ⟨r, hr⟩ := hp
    subst hr
    cases hq : q c with
    | true =>
      exfalso
      rw [List.cons_append, List.dropWhile_cons, hq, if_pos rfl] at h
      have := congrArg List.length h
      have h2 := (List.dropWhile_suffix q (l := m ++ r)).length_le
      rw [List.length_cons] at this
      omega
    | false => simp [hq]
theorem trim_trim (l : List UInt8) : trimL (trimL l) = trimL l := by
  unfold trimL
  rw [trim_behind_ahead bl (l.dropWhile bl) (dropWhile_idem bl l), List.reverse_reverse, dropWhile_idem]

theorem dropWhile_snoc (q : UInt8 → Bool) (l : List UInt8) (c : UInt8) (hc : q c = true) : (l ++ [c]).dropWhile q = if l.dropWhile q = [] then [] else l.dropWhile q ++ [c] := by
  induction l with
  | nil => simp [hc]
  | cons d l ih =>
    cases h : q d with
    | true => simp only [List.cons_append, List.dropWhile_cons, h, if_true]; exact ih
    | false => simp [h]
theorem trim_around (l : List UInt8) (a b : UInt8) (ha : bl a = true) (hb : bl b = true) : trimL (a :: (l ++ [b])) = trimL l := by
  unfold trimL
  rw [List.dropWhile_cons, ha, if_pos rfl, dropWhile_snoc bl l b hb]
  split
  · rename_i h; rw [h]
  · rw [List.reverse_append, List.reverse_singleton, List.singleton_append, List.dropWhile_cons, hb, if_pos rfl]

theorem trimL_length (l : List UInt8) : (trimL l).length ≤ l.length := by
  unfold trimL
  rw [List.length_reverse]
  have h1 := (List.dropWhile_suffix bl (l := (l.dropWhile bl).reverse)).length_le
  have h2 := (List.dropWhile_suffix bl (l := l)).length_le
  rw [List.length_reverse] at h1
  omega

theorem around_list (s : ByteArray) : (⟨#[32]⟩ ++ s ++ ⟨#[10]⟩ : ByteArray).data.toList = 32 :: (s.data.toList ++ [10]) := by simp

set_option maxHeartbeats 1000000 in
theorem law_cases (s : ByteArray) (w : World) (hs : s.size ≤ 140737488351232) :
    Calls Try.prog 6 #[.string s] w fun e w' => e = .returned (.bool true) ∧ Below w.heap.size w w' := by
  have hs' := size_list s
  have h1 := fun w => trim_c s w (by omega)
  have h2 := fun w => upper_c s w (by omega)
  have h3 := fun w => lower_c (S (s.data.toList.map up)) w (by rw [size_S, List.length_map]; omega)
  have h4 := fun w => lower_c s w (by omega)
  have h5 := fun w => starts_c s (S (s.data.toList.map up)) w (by rw [size_S, List.length_map]; omega)
  have h6 := fun w => trim_c (S (trimL s.data.toList)) w (by rw [size_S]; have := trimL_length s.data.toList; omega)
  have h7 := fun w => trim_c (⟨#[32]⟩ ++ s ++ ⟨#[10]⟩) w (by rw [← size_list, around_list]; simp; omega)
  simp only [lower_upper] at h3
  simp only [starts_self] at h5
  simp only [trim_trim] at h6
  simp only [around_list, trim_around s.data.toList 32 10 (by decide +kernel) (by decide +kernel)] at h7
  generalize S (s.data.toList.map up) = u at h2 h3 h5
  generalize S (s.data.toList.map low) = l at h3 h4
  generalize S (trimL s.data.toList) = t at h1 h6 h7
  clear hs'
  have el := string_eq_self l
  have et := string_eq_self t
  go_enter Try.func6, Try.ntmps6
  go_wp2_with fail
  refine (alive_c _).mono ?_
  rintro e w1 ⟨rfl, hb1⟩
  go_wp2_with fail
  refine (h1 w1).mono ?_
  rintro e w2 ⟨rfl, hb2⟩
  go_wp2_with fail
  refine (h2 w2).mono ?_
  rintro e w3 ⟨rfl, hb3⟩
  go_wp2_with fail
  refine (h3 w3).mono ?_
  rintro e w4 ⟨rfl, hb4⟩
  go_wp2_with fail
  refine (h4 w4).mono ?_
  rintro e w5 ⟨rfl, hb5⟩
  go_wp2_with fail
  refine (h2 w5).mono ?_
  rintro e w6 ⟨rfl, hb6⟩
  go_wp2_with fail
  refine (h5 w6).mono ?_
  rintro e w7 ⟨rfl, hb7⟩
  go_wp2_with fail
  refine (h6 w7).mono ?_
  rintro e w8 ⟨rfl, hb8⟩
  go_wp2_with fail
  refine (h7 w8).mono ?_
  rintro e w9 ⟨rfl, hb9⟩
  go_wp2_with fail
  go_ret
  exact ⟨rfl, below_step (below_step (below_step (below_step (below_step (below_step (below_step (below_step hb1 hb2) hb3) hb4) hb5) hb6) hb7) hb8) hb9⟩

theorem bool_ne_self (b : Bool) : (b != b) = false := by simp
theorem bool_eq_self (b : Bool) : (b == b) = true := by simp

set_option maxHeartbeats 1000000 in
theorem law_tells (c : Int) (s p : ByteArray) (w : World) (h0 : 0 ≤ c) (h1 : c ≤ 255) (hs : s.size ≤ 140737488351232) (hp : p.size ≤ 140737488351232) :
    Calls Try.prog 3 #[.int .u8 c, .string s, .string p] w fun e w' => e = .returned (.bool true) ∧ Below w.heap.size w w' := by
  have a1 := fun w => blank_c c w
  have a2 := fun w => rblank_c c w h0 h1
  have a3 := fun w => letter_c c w h0 h1
  have a4 := fun w => rletter_c c w h0 h1
  have a5 := fun w => lower_c s w (by omega)
  have a6 := fun w => rlower_c s w hs
  have a7 := fun w => upper_c s w (by omega)
  have a8 := fun w => rupper_c s w hs
  have a9 := fun w => name_c s w
  have a10 := fun w => rname_c s w (by omega)
  have a11 := fun w => starts_c s p w (by omega)
  have a12 := fun w => rstarts_c s p w hs hp
  have a13 := fun w => trim_c s w (by omega)
  have a14 := fun w => rtrim_c s w (by omega)
  generalize blankI c = v1 at a1 a2
  generalize letterI c = v2 at a3 a4
  generalize S (s.data.toList.map low) = l at a5 a6
  generalize S (s.data.toList.map up) = u at a7 a8
  generalize nameB s.data.toList = v3 at a9 a10
  generalize startsB s.data.toList p.data.toList = v4 at a11 a12
  generalize S (trimL s.data.toList) = t at a13 a14
  have el := string_ne_self l
  have eu := string_ne_self u
  have et := string_eq_self t
  go_enter Try.func3, Try.ntmps3
  go_wp2_with fail
  refine (a1 w).mono ?_
  rintro e w' ⟨rfl, rfl⟩
  go_wp2_with fail
  refine (a2 w).mono ?_
  rintro e w' ⟨rfl, rfl⟩
  go_wp2_with fail
  refine (a3 w).mono ?_
  rintro e w' ⟨rfl, rfl⟩
  go_wp2_with fail
  refine (a4 w).mono ?_
  rintro e w' ⟨rfl, rfl⟩
  go_wp2_with fail
  refine (a5 w).mono ?_
  rintro e w5 ⟨rfl, hb5⟩
  go_wp2_with fail
  refine (a6 w5).mono ?_
  rintro e w6 ⟨rfl, hb6⟩
  go_wp2_with fail
  refine (a7 w6).mono ?_
  rintro e w7 ⟨rfl, hb7⟩
  go_wp2_with fail
  refine (a8 w7).mono ?_
  rintro e w8 ⟨rfl, hb8⟩
  go_wp2_with fail
  refine (a9 w8).mono ?_
  rintro e w9 ⟨rfl, hb9⟩
  go_wp2_with fail
  refine (a10 w9).mono ?_
  rintro e w10 ⟨rfl, rfl⟩
  go_wp2_with fail
  refine (a11 w9).mono ?_
  rintro e w11 ⟨rfl, hb11⟩
  go_wp2_with fail
  refine (a12 w11).mono ?_
  rintro e w12 ⟨rfl, hb12⟩
  go_wp2_with fail
  refine (a13 w12).mono ?_
  rintro e w13 ⟨rfl, hb13⟩
  go_wp2_with fail
  refine (a14 w13).mono ?_
  rintro e w14 ⟨rfl, rfl⟩
  go_wp2_with fail
  refine (alive_c _).mono ?_
  rintro e w15 ⟨rfl, hb15⟩
  go_wp2_with fail
  go_ret
  exact ⟨rfl, below_step (below_step (below_step (below_step (below_step (below_step (below_step (below_step hb5 hb6) hb7) hb8) hb9) hb11) hb12) hb13) hb15⟩

end Go.Proofs.Ytnfpgfpendflnaa.Oct
