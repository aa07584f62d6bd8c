/-
  The literal of every value is read again, whatever its kinds: plain facts on the reader as a machine.
-/
import Derived.Test.YtganmmkdcaphfaaGreatDoorJsBase
namespace Go.Proofs.YtganmmkdcaphfaaGreatDoor.Rd
open Go.Proofs.YtganmmkdcaphfaaGreatDoor.Oct Go.Proofs.YtganmmkdcaphfaaGreatDoor.Num Go.Proofs.YtganmmkdcaphfaaGreatDoor.Utf Go.Proofs.YtganmmkdcaphfaaGreatDoor.Val Go.Proofs.YtganmmkdcaphfaaGreatDoor.Lit Go.Proofs.YtganmmkdcaphfaaGreatDoor.Tl
open Go.Lib (encodeRune)

/-- What is wanted of a value: numbers of 64 bits, lists and records at most 16 deep. -/
inductive Fit : Nat → Val.V → Prop where
  | mk (d : Nat) (k n : Int) (s : ByteArray) (l : List Val.V) (ks : List ByteArray) (hn : -9223372036854775808 ≤ n ∧ n ≤ 9223372036854775807) (hd : k = 5 ∨ k = 6 → d < 16)
      (hall : ∀ i (h : i < l.length), Fit (d + 1) l[i]) : Fit d (.mk k n s l ks)

/-! ### Beginnings -/
theorem hp_yes (p t : List UInt8) : Lib.hasPrefix (p ++ t) p = true := by
  unfold Lib.hasPrefix
  exact List.isPrefixOf_iff_prefix.2 (List.prefix_append p t)
theorem hp_no (c d : UInt8) (s p : List UInt8) (h : c ≠ d) : Lib.hasPrefix (c :: s) (d :: p) = false := by
  have e : (d == c) = false := by rw [beq_eq_false_iff_ne]; exact fun e => h e.symm
  show ((d == c) && _) = false
  rw [e]
  rfl
/-- Behind a value: a comma, what ends a list or a record, or nothing. -/
def Ends (t : List UInt8) : Prop := ∀ c r, t = c :: r → c = 44 ∨ c = 93 ∨ c = 125
theorem ends_no {t : List UInt8} (h : Ends t) (d : UInt8) (p : List UInt8) (h1 : d ≠ 44) (h2 : d ≠ 93) (h3 : d ≠ 125) : Lib.hasPrefix t (d :: p) = false := by
  cases t with
  | nil => rfl
  | cons c r =>
    refine hp_no c d r p ?_
    rcases h c r rfl with rfl | rfl | rfl
    · exact fun e => h1 e.symm
    · exact fun e => h2 e.symm
    · exact fun e => h3 e.symm

/-! ### Characters -/
theorem hexC_digs : ∀ d : Fin 16, hexC (hexDig d.val) = (d.val : Int) := by decide +kernel
theorem hexC_dig' (d : Nat) (h : d < 16) : hexC (hexDig d) = (d : Int) := hexC_digs ⟨d, h⟩
theorem hexL_snoc' (u n : Nat) : hexL u (n + 1) = hexL (u / 16) n ++ [hexDig (u % 16)] := by
  unfold hexL
  rw [List.range_succ, List.map_append]
  congr 1
  · apply List.map_congr_left
    intro k hk
    have hk' : k < n := by simpa using hk
    have e : 4 * (n + 1 - 1 - k) = 4 + 4 * (n - 1 - k) := by omega
    rw [e, Nat.pow_add, ← Nat.div_div_eq_div_mul]
  · simp
theorem hexL_val (n u : Nat) : valL (hexL u n) = u % 16 ^ n ∧ (hexL u n).all (fun c => decide (0 ≤ hexC c)) = true := by
  induction n generalizing u with
  | zero => simp [hexL, valL, Nat.mod_one]
  | succ n ih =>
    have hd := hexC_dig' (u % 16) (Nat.mod_lt _ (by omega))
    rw [hexL_snoc']
    refine ⟨?_, ?_⟩
    · rw [valL_snoc, (ih (u / 16)).1, hd, Int.toNat_natCast, Nat.pow_succ', Nat.mod_mul]
      omega
    · rw [List.all_append, (ih (u / 16)).2]
      simp [hd]
      omega
theorem unhex_back (n : Nat) (h : n < 65536) : unhexL (hexL n 4) = (n, 0) := by
  obtain ⟨h1, h2⟩ := hexL_val 4 n
  have hl := hexL_length n 4
  unfold unhexL
  rw [if_neg (by intro e; rw [e] at hl; simp at hl), if_neg (by omega), h2, h1, Nat.mod_eq_of_lt h]
  rfl
theorem unit_back (n : Nat) (h : n < 65536) (u : List UInt8) : unitP (escL n ++ u) = some (n, u) := by
  have hl := hexL_length n 4
  have e : escL n ++ u = [92, 117] ++ (hexL n 4 ++ u) := by unfold escL; rw [List.append_assoc]
  unfold unitP
  rw [e, hp_yes, if_pos rfl]
  have e2 : ([92, 117] ++ (hexL n 4 ++ u)).drop 2 = hexL n 4 ++ u := rfl
  rw [e2]
  have e3 : takeP 4 (hexL n 4 ++ u) = some (hexL n 4, u) := by
    unfold takeP
    rw [if_pos (by rw [List.length_append]; omega), List.take_left' hl, List.drop_left' hl]
  rw [e3]
  simp only [unhex_back n h]
  rfl

theorem enc_one (c : Int) (h0 : 0 ≤ c) (h : c < 128) : encodeRune c = [c.toNat.toUInt8] := by
  obtain ⟨n, rfl⟩ := Int.eq_ofNat_of_zero_le h0
  rw [enc_eq n (by unfold isChar; omega)]
  unfold encN
  rw [if_pos (by omega)]
  rfl
theorem bare_oct (c : Int) (h : bareB c = true) : 0 ≤ c ∧ c < 128 ∧ c.toNat.toUInt8 ≠ 92 ∧ c.toNat.toUInt8 ≠ 34 := by
  have h1 : ∀ k : Fin 128, bareB (k.val : Int) = true → k.val.toUInt8 ≠ 92 ∧ k.val.toUInt8 ≠ 34 := by decide +kernel
  have h2 : 0 ≤ c ∧ c < 128 := by simp [bareB] at h; omega
  have h3 := h1 ⟨c.toNat, by omega⟩ (by show bareB ((c.toNat : Nat) : Int) = true; rw [Int.toNat_of_nonneg h2.1]; exact h)
  exact ⟨h2.1, h2.2, h3⟩
theorem esc_front (n : Nat) (u : List UInt8) : Lib.hasPrefix (escL n ++ u) [92, 117] = true := by
  unfold escL
  rw [List.append_assoc]
  exact hp_yes _ _
theorem char_back (c : Int) (hc : isChar c) (u : List UInt8) : charP (charL c ++ u) = some (encodeRune c, u) := by
  unfold charL
  by_cases hb : bareB c = true
  · rw [if_pos hb]
    obtain ⟨h0, h1, h2, h3⟩ := bare_oct c hb
    unfold charP
    rw [List.singleton_append, hp_no _ _ _ _ h2, if_neg (by simp), enc_one c h0 h1]
    unfold takeP
    rw [if_pos (by simp)]
    rfl
  · rw [if_neg hb]
    have hcb : charB c = true := decide_eq_true hc
    unfold isChar at hc
    by_cases hg : 65536 ≤ c
    · rw [if_pos hg, List.append_assoc]
      have e1 := unit_back (55296 + (c - 65536).toNat / 1024) (by omega) (escL (56320 + (c - 65536).toNat % 1024) ++ u)
      have e2 := unit_back (56320 + (c - 65536).toNat % 1024) (by omega) u
      unfold charP
      rw [esc_front, if_pos rfl, e1]
      simp only
      rw [if_pos (by omega), e2]
      simp only
      have e3 : 65536 + (((55296 + (c - 65536).toNat / 1024 : Nat) : Int) - 55296) * 1024 + ((56320 + (c - 65536).toNat % 1024 : Nat) : Int) - 56320 = c := by omega
      rw [e3]
      unfold encP
      rw [if_pos hcb]
    · rw [if_neg hg]
      have e1 := unit_back c.toNat (by omega) u
      unfold charP
      rw [esc_front, if_pos rfl, e1]
      simp only
      rw [if_neg (by omega)]
      have e3 : ((c.toNat : Nat) : Int) = c := by omega
      rw [e3]
      unfold encP
      rw [if_pos hcb]

/-! ### Texts -/
theorem char_front (c : Int) (u : List UInt8) : Lib.hasPrefix (charL c ++ u) [34] = false := by
  unfold charL
  by_cases hb : bareB c = true
  · rw [if_pos hb]
    exact hp_no _ _ _ _ (bare_oct c hb).2.2.2
  · rw [if_neg hb]
    split
    · exact hp_no _ _ _ _ (by decide)
    · exact hp_no _ _ _ _ (by decide)
theorem inside_back (u : List UInt8) : ∀ (cs : List Int) (_ : ∀ c ∈ cs, isChar c) (f : Nat) (acc : List UInt8), cs.length < f → insideF f (insideL cs ++ 34 :: u) acc = some (acc ++ encs cs, u)
  | [], _, 0, _, h => absurd h (by simp)
  | [], _, f + 1, acc, _ => by
    have e : insideL [] ++ 34 :: u = [34] ++ u := rfl
    rw [e]
    unfold insideF
    rw [hp_yes, if_pos rfl]
    simp [encs]
  | c :: cs, _, 0, _, h => absurd h (by simp)
  | c :: cs, hc, f + 1, acc, h => by
    have e : insideL (c :: cs) ++ 34 :: u = charL c ++ (insideL cs ++ 34 :: u) := by simp [insideL]
    rw [e]
    unfold insideF
    rw [char_front, if_neg (by simp), char_back c (hc c (by simp))]
    simp only
    rw [inside_back u cs (fun d hd => hc d (by simp [hd])) f (acc ++ encodeRune c) (by simp at h; omega)]
    simp [encs]
theorem text_back (s : ByteArray) (t : List UInt8) : textP (quoteL s ++ t) = some (encs (chars s.data.toList), t) := by
  have hq : quoteL s ++ t = [34] ++ (insideL (chars s.data.toList) ++ 34 :: t) := by simp [quoteL]
  have hin : innerP (quoteL s ++ t) = some (encs (chars s.data.toList), t) := by
    unfold innerP
    rw [hq, hp_yes, if_pos rfl]
    have e : ([34] ++ (insideL (chars s.data.toList) ++ 34 :: t)).drop 1 = insideL (chars s.data.toList) ++ 34 :: t := rfl
    rw [e, inside_back t _ (fun c hc => (chars_char _ c hc).1) _ _ (by
      have := insideL_len (chars s.data.toList)
      simp only [List.length_append, List.length_cons, List.length_nil]
      omega)]
    rfl
  unfold textP
  rw [hin]
  simp only
  have e : quoteL (S (encs (chars s.data.toList))) = quoteL s := by
    have h := chars_rep s.data.toList
    unfold rep at h
    unfold quoteL
    rw [list_S, h]
  rw [e, if_pos (by rw [List.length_append, Nat.add_sub_cancel, List.take_left' rfl])]

/-! ### Numbers -/
theorem num_octs : ∀ k : Fin 256, isDig (UInt8.ofNat k.val) = true → numCs.contains (UInt8.ofNat k.val) = true := by decide +kernel
theorem num_oct (c : UInt8) (h : isDig c = true) : numCs.contains c = true := by
  have := num_octs ⟨c.toNat, c.toNat_lt⟩
  simp only [UInt8.ofNat_toNat] at this
  exact this h
theorem print_octs (n : Int) : ∀ c ∈ printL n, numCs.contains c = true := by
  unfold printL
  intro c hc
  split at hc
  · rcases List.mem_cons.1 hc with rfl | hc
    · decide
    · exact num_oct c (decL_dig _ c hc)
  · exact num_oct c (decL_dig _ c hc)
theorem litI_octs (n : Int) : ∀ c ∈ litI n, numCs.contains c = true := by
  unfold litI
  intro c hc
  split at hc
  · rcases List.mem_cons.1 hc with rfl | hc
    · decide
    · exact print_octs n c hc
  · exact print_octs n c hc
theorem ends_trim {t : List UInt8} (h : Ends t) : t.dropWhile (numCs.contains ·) = t := by
  cases t with
  | nil => rfl
  | cons c r =>
    have hc : numCs.contains c = false := by rcases h c r rfl with rfl | rfl | rfl <;> decide
    rw [List.dropWhile_cons, hc]
    rfl
theorem print_head (n : Int) (h : ¬ n < 0) : ∃ c r, printL n = c :: r ∧ isDig c = true := by
  unfold printL
  rw [if_neg h]
  obtain ⟨c, r, e⟩ := List.exists_cons_of_ne_nil (decL_ne n.natAbs)
  exact ⟨c, r, e, decL_dig n.natAbs c (by rw [e]; simp)⟩
theorem dig_ne {c d : UInt8} (h : isDig c = true) (hd : isDig d = false) : c ≠ d := by
  rintro rfl
  rw [h] at hd
  cases hd
theorem number_back (n : Int) (hn : -9223372036854775808 ≤ n ∧ n ≤ 9223372036854775807) (t : List UInt8) (ht : Ends t) : numberP (litI n ++ t) = some (n, t) := by
  have e1 : toldL (litI n ++ t) = litI n := by
    unfold toldL Lib.trimLeftS
    rw [List.dropWhile_append_of_pos (litI_octs n), ends_trim ht, List.length_append, Nat.add_sub_cancel, List.take_left' rfl]
  have e2 : Lib.trimPrefix (litI n) [32] = printL n := by
    unfold Lib.trimPrefix litI
    by_cases h : n < 0
    · rw [if_pos h, show (32 :: printL n) = [32] ++ printL n from rfl, hp_yes, if_pos rfl]
      rfl
    · rw [if_neg h]
      obtain ⟨c, r, e, hc⟩ := print_head n h
      rw [e, hp_no c 32 r [] (dig_ne hc (by decide)), if_neg (by simp)]
  unfold numberP
  rw [e1, e2, parse_print n hn.1 hn.2]
  simp only
  rw [if_pos trivial, hp_yes, if_pos rfl, List.drop_left' rfl]

/-! ### The machine's ways -/
theorem go_val {s s' : List UInt8} {fs fs' : List Fr} {e e' : Nat} {x : Val.V} (h : partP s fs e = .val x s' fs' e') {o : Out} (k : Leads (.close x s' fs' e') o) : Leads (.loop s fs e) o :=
  .next (by simp only [step, h]) k
theorem go_more {s s' : List UInt8} {fs fs' : List Fr} {e e' : Nat} (h : partP s fs e = .more s' fs' e') {o : Out} (k : Leads (.loop s' fs' e') o) : Leads (.loop s fs e) o :=
  .next (by simp only [step, h]) k
theorem go_comma {y : Val.V} {s : List UInt8} {fs : List Fr} {f : Fr} {e : Nat} {o : Out} (k : Leads (.loop s (fs ++ [f.add y]) e) o) : Leads (.close y (44 :: s) (fs ++ [f]) e) o :=
  .next (by rw [close_last, show (44 :: s) = [44] ++ s from rfl, hp_yes, if_pos rfl]; rfl) k
theorem go_shut {y : Val.V} {s : List UInt8} {fs : List Fr} {f : Fr} {e : Nat} {o : Out} (b : UInt8) (hb : endL f.kind = [b]) (h44 : b ≠ 44) (k : Leads (.close (f.add y).val s fs e) o) : Leads (.close y (b :: s) (fs ++ [f]) e) o :=
  .next (by rw [close_last, hp_no b 44 s [] h44, if_neg (by simp), hb, show (b :: s) = [b] ++ s from rfl, hp_yes, if_pos rfl]; rfl) k

/-- A text that is read as one value, ahead of what may stand behind a value, with so many lists begun. -/
def Goes (d : Nat) (u : List UInt8) : Prop := ∀ (t : List UInt8) (fs : List Fr) (e : Nat), Ends t → fs.length = d → e ≤ 16 → ∃ y e', e' ≤ 16 ∧ ∀ o, Leads (.close y t fs e') o → Leads (.loop (u ++ t) fs e) o

theorem part_null (t : List UInt8) (fs : List Fr) (e : Nat) : partP ([110, 117, 108, 108] ++ t) fs e = .val (leafV 0 0 ⟨#[]⟩) t fs e := by
  unfold partP
  rw [hp_yes, if_pos rfl]
  rfl
theorem part_false (t : List UInt8) (fs : List Fr) (e : Nat) : partP ([102, 97, 108, 115, 101] ++ t) fs e = .val (leafV 1 0 ⟨#[]⟩) t fs e := by
  unfold partP
  rw [show Lib.hasPrefix ([102, 97, 108, 115, 101] ++ t) [110, 117, 108, 108] = false from hp_no _ _ _ _ (by decide), if_neg (by simp), hp_yes, if_pos rfl]
  rfl
theorem part_true (t : List UInt8) (fs : List Fr) (e : Nat) : partP ([116, 114, 117, 101] ++ t) fs e = .val (leafV 2 0 ⟨#[]⟩) t fs e := by
  unfold partP
  rw [show Lib.hasPrefix ([116, 114, 117, 101] ++ t) [110, 117, 108, 108] = false from hp_no _ _ _ _ (by decide), if_neg (by simp),
    show Lib.hasPrefix ([116, 114, 117, 101] ++ t) [102, 97, 108, 115, 101] = false from hp_no _ _ _ _ (by decide), if_neg (by simp), hp_yes, if_pos rfl]
  rfl
theorem part_list (t : List UInt8) (fs : List Fr) (e : Nat) : partP (91 :: t) fs e = beginP 5 t fs e := by
  unfold partP
  rw [hp_no _ _ _ _ (by decide), if_neg (by simp), hp_no _ _ _ _ (by decide), if_neg (by simp), hp_no _ _ _ _ (by decide), if_neg (by simp), show (91 :: t) = [91] ++ t from rfl, hp_yes, if_pos rfl]
  rfl
theorem part_record (t : List UInt8) (fs : List Fr) (e : Nat) : partP (123 :: t) fs e = beginP 6 t fs e := by
  unfold partP
  rw [hp_no _ _ _ _ (by decide), if_neg (by simp), hp_no _ _ _ _ (by decide), if_neg (by simp), hp_no _ _ _ _ (by decide), if_neg (by simp), hp_no _ _ _ _ (by decide), if_neg (by simp), show (123 :: t) = [123] ++ t from rfl, hp_yes, if_pos rfl]
  rfl
theorem part_quote (t : List UInt8) (fs : List Fr) (e : Nat) : partP (34 :: t) fs e = textOrKeyP (34 :: t) fs e := by
  unfold partP
  rw [hp_no _ _ _ _ (by decide), if_neg (by simp), hp_no _ _ _ _ (by decide), if_neg (by simp), hp_no _ _ _ _ (by decide), if_neg (by simp), hp_no _ _ _ _ (by decide), if_neg (by simp), hp_no _ _ _ _ (by decide), if_neg (by simp),
    show (34 :: t) = [34] ++ t from rfl, hp_yes, if_pos rfl]
theorem litI_head (n : Int) : ∃ c r, litI n = c :: r ∧ (c = 32 ∨ isDig c = true) := by
  unfold litI
  by_cases h : n < 0
  · rw [if_pos h]
    exact ⟨32, _, rfl, .inl rfl⟩
  · rw [if_neg h]
    obtain ⟨c, r, e, hc⟩ := print_head n h
    exact ⟨c, r, e, .inr hc⟩
theorem part_int (n : Int) (hn : -9223372036854775808 ≤ n ∧ n ≤ 9223372036854775807) (t : List UInt8) (ht : Ends t) (fs : List Fr) (e : Nat) : partP (litI n ++ t) fs e = .val (leafV 3 n ⟨#[]⟩) t fs e := by
  have hb := number_back n hn t ht
  obtain ⟨c, r, ec, hc⟩ := litI_head n
  have ne : ∀ d : UInt8, d ≠ 32 → isDig d = false → c ≠ d := by
    intro d h1 h2
    rcases hc with rfl | hc
    · exact fun e => h1 e.symm
    · exact dig_ne hc h2
  rw [ec] at hb ⊢
  unfold partP
  rw [hb]
  rw [List.cons_append, hp_no _ _ _ _ (ne 110 (by decide) (by decide)), if_neg (by simp), hp_no _ _ _ _ (ne 102 (by decide) (by decide)), if_neg (by simp), hp_no _ _ _ _ (ne 116 (by decide) (by decide)), if_neg (by simp),
    hp_no _ _ _ _ (ne 91 (by decide) (by decide)), if_neg (by simp), hp_no _ _ _ _ (ne 123 (by decide) (by decide)), if_neg (by simp), hp_no _ _ _ _ (ne 34 (by decide) (by decide)), if_neg (by simp)]
theorem part_str (s : ByteArray) (t : List UInt8) (ht : Ends t) (fs : List Fr) (e : Nat) : partP (quoteL s ++ t) fs e = .val (leafV 4 0 (S (encs (chars s.data.toList)))) t fs e := by
  have hb := text_back s t
  have hq : quoteL s ++ t = 34 :: (insideL (chars s.data.toList) ++ 34 :: t) := by simp [quoteL]
  have h1 : partP (quoteL s ++ t) fs e = textOrKeyP (quoteL s ++ t) fs e := by rw [hq, part_quote]
  rw [h1]
  unfold textOrKeyP
  rw [hb]
  simp only
  rw [ends_no ht 58 [] (by decide) (by decide) (by decide), if_neg (by simp)]
theorem part_key (s : ByteArray) (t : List UInt8) (fs : List Fr) (f : Fr) (hk : f.kind = 6) (hx : f.ks.length = f.xs.length) (e : Nat) :
    partP (quoteL s ++ 58 :: t) (fs ++ [f]) e = .more t (fs ++ [{ f with ks := f.ks ++ [S (encs (chars s.data.toList))] }]) e := by
  have hb := text_back s (58 :: t)
  have hq : quoteL s ++ 58 :: t = 34 :: (insideL (chars s.data.toList) ++ 34 :: 58 :: t) := by simp [quoteL]
  have h1 : partP (quoteL s ++ 58 :: t) (fs ++ [f]) e = textOrKeyP (quoteL s ++ 58 :: t) (fs ++ [f]) e := by rw [hq, part_quote]
  rw [h1]
  unfold textOrKeyP
  rw [hb]
  simp only
  rw [show (58 :: t) = [58] ++ t from rfl, hp_yes, if_pos rfl]
  unfold keyP
  rw [List.getLast?_concat, List.dropLast_concat]
  simp only
  rw [if_pos ⟨hk, hx⟩]
  rfl

/-! ### Lists and records -/
/-- What stands of m more values, from a place on. -/
def tailK (r : Bool) (ks : List ByteArray) (ts : List (List UInt8)) : Nat → Nat → List UInt8
  | _, 0 => []
  | i, m + 1 => (if i = 0 then [] else [44]) ++ (keyAt r ks i ++ ts.getD i []) ++ tailK r ks ts (i + 1) m
theorem join_tail (r : Bool) (ks : List ByteArray) (ts : List (List UInt8)) : ∀ m i, joinK r ks ts (i + m) = joinK r ks ts i ++ tailK r ks ts i m
  | 0, i => by simp [tailK]
  | m + 1, i => by
    rw [show i + (m + 1) = (i + 1) + m by omega, join_tail r ks ts m (i + 1)]
    show (joinK r ks ts i ++ ((if i = 0 then [] else [44]) ++ (keyAt r ks i ++ ts.getD i []))) ++ _ = _ ++ ((if i = 0 then [] else [44]) ++ (keyAt r ks i ++ ts.getD i []) ++ tailK r ks ts (i + 1) m)
    simp only [List.append_assoc]
theorem tail_ends (r : Bool) (ks : List ByteArray) (ts : List (List UInt8)) (i m : Nat) (hi : 0 < i) (b : UInt8) (hb : b = 93 ∨ b = 125) (t : List UInt8) : Ends (tailK r ks ts i m ++ b :: t) := by
  intro c u h
  cases m with
  | zero =>
    have h : b :: t = c :: u := h
    injection h with h1 h2
    rw [← h1]
    exact .inr hb
  | succ m =>
    unfold tailK at h
    rw [if_neg (by omega)] at h
    simp only [List.cons_append, List.nil_append, List.append_assoc] at h
    injection h with h1 h2
    exact .inl h1.symm

theorem item_goes (r : Bool) (ks : List ByteArray) (u : List UInt8) (d : Nat) (hu : Goes (d + 1) u) (i : Nat) (f : Fr) (hf : r = true → f.kind = 6) (hx : f.xs.length = i) (hk : r = true → f.ks.length = min i ks.length)
    (t : List UInt8) (ht : Ends t) (fs : List Fr) (hl : fs.length = d) (e : Nat) (he : e ≤ 16) :
    ∃ y e' f', e' ≤ 16 ∧ f'.kind = f.kind ∧ f'.xs.length = i ∧ (r = true → f'.ks.length = min (i + 1) ks.length) ∧ ∀ o, Leads (.close y t (fs ++ [f']) e') o → Leads (.loop (keyAt r ks i ++ u ++ t) (fs ++ [f]) e) o := by
  cases r with
  | false =>
    obtain ⟨y, e', h1, h2⟩ := hu t (fs ++ [f]) e ht (by rw [List.length_append, hl]; rfl) he
    exact ⟨y, e', f, h1, rfl, hx, fun h => absurd h (by simp), h2⟩
  | true =>
    by_cases hi : i < ks.length
    · have ek : keyAt true ks i = quoteL ks[i] ++ [58] := by
        unfold keyAt
        rw [if_pos rfl, List.getElem?_eq_getElem hi]
      obtain ⟨y, e', h1, h2⟩ := hu t (fs ++ [{ f with ks := f.ks ++ [S (encs (chars ks[i].data.toList))] }]) e ht (by rw [List.length_append, hl]; rfl) he
      refine ⟨y, e', { f with ks := f.ks ++ [S (encs (chars ks[i].data.toList))] }, h1, rfl, hx, fun _ => ?_, fun o ho => ?_⟩
      · show (f.ks ++ [_]).length = _
        rw [List.length_append, hk rfl]
        simp
        omega
      · rw [ek, List.append_assoc, List.append_assoc, List.singleton_append]
        exact go_more (part_key ks[i] (u ++ t) fs f (hf rfl) (by rw [hk rfl, hx]; omega) e) (h2 o ho)
    · have ek : keyAt true ks i = [] := key_none_at true ks i (by omega)
      obtain ⟨y, e', h1, h2⟩ := hu t (fs ++ [f]) e ht (by rw [List.length_append, hl]; rfl) he
      refine ⟨y, e', f, h1, rfl, hx, fun _ => ?_, fun o ho => ?_⟩
      · rw [hk rfl]
        omega
      · rw [ek]
        exact h2 o ho

theorem tail_goes (r : Bool) (ks : List ByteArray) (ts : List (List UInt8)) (d : Nat) (k : Int) (hr : r = true → k = 6) (b : UInt8) (hb : b = 93 ∨ b = 125) (he : endL k = [b]) (hts : ∀ i, i < ts.length → Goes (d + 1) (ts.getD i [])) :
    ∀ m i, 0 < i → i + m = ts.length → ∀ (y : Val.V) (f : Fr) (fs : List Fr) (e : Nat) (t : List UInt8), f.kind = k → f.xs.length + 1 = i → (r = true → f.ks.length = min i ks.length) → fs.length = d → e ≤ 16 →
      ∃ z e', e' ≤ 16 ∧ ∀ o, Leads (.close z t fs e') o → Leads (.close y (tailK r ks ts i m ++ b :: t) (fs ++ [f]) e) o := by
  intro m
  induction m with
  | zero =>
    intro i hi him y f fs e t hk hx hks hl h16
    refine ⟨(f.add y).val, e, h16, fun o ho => ?_⟩
    exact go_shut b (by rw [hk]; exact he) (by rcases hb with rfl | rfl <;> decide) ho
  | succ m ih =>
    intro i hi him y f fs e t hk hx hks hl h16
    obtain ⟨y2, e2, f2, h1, h2, h3, h4, h5⟩ := item_goes r ks (ts.getD i []) d (hts i (by omega)) i (f.add y) (fun h => hk.trans (hr h)) (by show (f.xs ++ [y]).length = i; rw [List.length_append]; exact hx) hks
      (tailK r ks ts (i + 1) m ++ b :: t) (tail_ends r ks ts (i + 1) m (by omega) b hb t) fs hl e h16
    obtain ⟨z, e3, h6, h7⟩ := ih (i + 1) (by omega) (by omega) y2 f2 fs e2 t (h2.trans hk) (by omega) h4 hl h1
    refine ⟨z, e3, h6, fun o ho => ?_⟩
    have e4 : tailK r ks ts i (m + 1) ++ b :: t = 44 :: (keyAt r ks i ++ ts.getD i [] ++ (tailK r ks ts (i + 1) m ++ b :: t)) := by
      show ((if i = 0 then [] else [44]) ++ (keyAt r ks i ++ ts.getD i []) ++ tailK r ks ts (i + 1) m) ++ b :: t = _
      rw [if_neg (by omega)]
      simp only [List.cons_append, List.nil_append, List.append_assoc]
    rw [e4]
    exact go_comma (h5 o (h7 o ho))

theorem brack_goes (r : Bool) (k : Int) (hr : r = true → k = 6) (a b : UInt8) (hab : (k = 5 ∧ a = 91 ∧ b = 93) ∨ (k = 6 ∧ a = 123 ∧ b = 125)) (ks : List ByteArray) (ts : List (List UInt8)) (d : Nat) (hd : d < 16)
    (hts : ∀ i, i < ts.length → Goes (d + 1) (ts.getD i [])) (hne : ∀ i, i < ts.length → ∃ c u, ts.getD i [] = c :: u ∧ c ≠ 93 ∧ c ≠ 125) : Goes d (brackL a b (joinK r ks ts ts.length)) := by
  intro t fs e ht hl h16
  have he : endL k = [b] := by rcases hab with ⟨rfl, _, rfl⟩ | ⟨rfl, _, rfl⟩ <;> rfl
  have hb : b = 93 ∨ b = 125 := by rcases hab with ⟨_, _, h⟩ | ⟨_, _, h⟩; exact .inl h; exact .inr h
  have hp : ∀ u, partP (a :: u) fs e = beginP k u fs e := by
    intro u
    rcases hab with ⟨rfl, rfl, _⟩ | ⟨rfl, rfl, _⟩
    · exact part_list u fs e
    · exact part_record u fs e
  have hb0 : brackL a b (joinK r ks ts ts.length) ++ t = a :: (joinK r ks ts ts.length ++ b :: t) := by simp [brackL]
  rw [hb0]
  have hm : max e (fs.length + 1) ≤ 16 := by omega
  by_cases h0 : ts.length = 0
  · rw [h0]
    refine ⟨(fresh0 k).val, _, hm, fun o ho => ?_⟩
    refine go_val ?_ ho
    rw [hp]
    unfold beginP
    rw [he, show joinK r ks ts 0 ++ b :: t = [b] ++ t from rfl, hp_yes, if_pos rfl]
    rfl
  · obtain ⟨m, hm2⟩ : ∃ m, ts.length = m + 1 := ⟨ts.length - 1, by omega⟩
    have ej : joinK r ks ts ts.length = keyAt r ks 0 ++ ts.getD 0 [] ++ tailK r ks ts 1 m := by
      have h := join_tail r ks ts (m + 1) 0
      rw [Nat.zero_add] at h
      rw [hm2, h]
      rfl
    have hno : Lib.hasPrefix (keyAt r ks 0 ++ ts.getD 0 [] ++ tailK r ks ts 1 m ++ b :: t) [b] = false := by
      obtain ⟨c, u, ec, hc1, hc2⟩ := hne 0 (by omega)
      have hcb : c ≠ b := by rcases hb with rfl | rfl; exact hc1; exact hc2
      cases hka : keyAt r ks 0 with
      | nil =>
        rw [ec]
        exact hp_no _ _ _ _ hcb
      | cons q v =>
        have hq : q = 34 := by
          unfold keyAt at hka
          split at hka
          · split at hka
            · unfold quoteL at hka
              simp only [List.append_assoc, List.cons_append, List.nil_append] at hka
              injection hka with h1 h2
              exact h1.symm
            · cases hka
          · cases hka
        subst hq
        exact hp_no _ _ _ _ (by rcases hb with rfl | rfl <;> decide)
    obtain ⟨y2, e2, f2, h1, h2, h3, h4, h5⟩ := item_goes r ks (ts.getD 0 []) d (hts 0 (by omega)) 0 (fresh0 k) hr rfl (fun _ => by simp) (tailK r ks ts 1 m ++ b :: t) (tail_ends r ks ts 1 m (by omega) b hb t) fs hl _ hm
    obtain ⟨z, e3, h6, h7⟩ := tail_goes r ks ts d k hr b hb he hts m 1 (by omega) (by omega) y2 f2 fs e2 t h2 (by omega) h4 hl h1
    refine ⟨z, e3, h6, fun o ho => ?_⟩
    refine go_more ?_ (h5 o (h7 o ho))
    rw [hp, ej]
    unfold beginP
    rw [he, hno, if_neg (by simp)]
    simp only [List.append_assoc]

/-! ### Values -/
theorem lit_head (x : Val.V) : ∃ c u, litL x = c :: u ∧ c ≠ 93 ∧ c ≠ 125 := by
  obtain ⟨k, n, s, l, ks⟩ := x
  rw [litL]
  split
  · exact ⟨_, _, rfl, by decide, by decide⟩
  · split
    · exact ⟨_, _, rfl, by decide, by decide⟩
    · split
      · exact ⟨_, _, rfl, by decide, by decide⟩
      · split
        · obtain ⟨c, u, e, hc⟩ := litI_head n
          refine ⟨c, u, e, ?_, ?_⟩
          · rcases hc with rfl | hc
            · decide
            · exact dig_ne hc (by decide)
          · rcases hc with rfl | hc
            · decide
            · exact dig_ne hc (by decide)
        · split
          · exact ⟨91, _, rfl, by decide, by decide⟩
          · split
            · exact ⟨123, _, rfl, by decide, by decide⟩
            · exact ⟨34, _, rfl, by decide, by decide⟩

theorem lit_goes {d : Nat} {x : Val.V} (h : Fit d x) : Goes d (litL x) := by
  induction h with
  | mk d k n s l ks hn hd hall ih =>
    have hts : ∀ i, i < (litAll l).length → Goes (d + 1) ((litAll l).getD i []) := fun i hi => by
      have hi' : i < l.length := by rw [litAll_len] at hi; exact hi
      rw [litAll_at l i hi']
      exact ih i hi'
    have hne : ∀ i, i < (litAll l).length → ∃ c u, (litAll l).getD i [] = c :: u ∧ c ≠ 93 ∧ c ≠ 125 := fun i hi => by
      have hi' : i < l.length := by rw [litAll_len] at hi; exact hi
      rw [litAll_at l i hi']
      exact lit_head _
    rw [litL]
    split
    · exact fun t fs e ht hl h16 => ⟨_, e, h16, fun o ho => go_val (part_null t fs e) ho⟩
    · split
      · exact fun t fs e ht hl h16 => ⟨_, e, h16, fun o ho => go_val (part_false t fs e) ho⟩
      · split
        · exact fun t fs e ht hl h16 => ⟨_, e, h16, fun o ho => go_val (part_true t fs e) ho⟩
        · split
          · exact fun t fs e ht hl h16 => ⟨_, e, h16, fun o ho => go_val (part_int n hn t ht fs e) ho⟩
          · split
            · rename_i h5
              exact brack_goes false 5 (fun h => absurd h (by simp)) 91 93 (.inl ⟨rfl, rfl, rfl⟩) ks _ d (hd (.inl h5)) hts hne
            · split
              · rename_i h6
                exact brack_goes true 6 (fun _ => rfl) 123 125 (.inr ⟨rfl, rfl, rfl⟩) ks _ d (hd (.inr h6)) hts hne
              · exact fun t fs e ht hl h16 => ⟨_, e, h16, fun o ho => go_val (part_str s t ht fs e) ho⟩

/-- The whole literal is read, and no deeper than may be. -/
theorem read_goes {x : Val.V} (h : Fit 0 x) : ∃ y d, Leads (.loop (litL x) [] 0) (.done y [] d) ∧ d ≤ 16 := by
  obtain ⟨y, d, h1, h2⟩ := lit_goes h [] [] 0 (fun c r h => absurd h (by simp)) rfl (by omega)
  refine ⟨y, d, ?_, h1⟩
  have h3 := h2 _ (.stop (close_nil y [] d))
  rw [List.append_nil] at h3
  exact h3

/-! ### A literal with blanks around -/
/-- What is read of a text: without blanks at its ends, but with the one ahead of a number below 0. -/
def scanT (l : List UInt8) : List UInt8 := if Lib.hasPrefix (trimL l) [45] then 32 :: trimL l else trimL l
theorem drop_behind (q : UInt8 → Bool) (l : List UInt8) (c : UInt8) (hc : q c = true) : (l ++ [c]).dropWhile q = if l.dropWhile q = [] then [] else l.dropWhile q ++ [c] := by
  induction l with
  | nil => simp [hc]
  | cons d l ih =>
    cases h : q d with
    | true => simp only [List.cons_append, List.dropWhile_cons, h, if_true]; exact ih
    | false => simp [h]
theorem trim_blanks (l : List UInt8) : trimL (32 :: (l ++ [32])) = trimL l := by
  unfold trimL
  rw [List.dropWhile_cons, if_pos (by decide), drop_behind bl l 32 (by decide)]
  split
  · rename_i h; rw [h]
  · rw [List.reverse_append, List.reverse_singleton, List.singleton_append, List.dropWhile_cons, if_pos (by decide)]
theorem trim_none (c : UInt8) (u r : List UInt8) (b : UInt8) (hc : bl c = false) (hb : bl b = false) (e : c :: u = r ++ [b]) : trimL (c :: u) = c :: u := by
  unfold trimL
  rw [List.dropWhile_cons, hc, if_neg (by simp), e, List.reverse_append, List.reverse_singleton, List.singleton_append, List.dropWhile_cons, hb, if_neg (by simp)]
  simp
theorem dig_bl : ∀ k : Fin 256, isDig (UInt8.ofNat k.val) = true → bl (UInt8.ofNat k.val) = false := by decide +kernel
theorem dig_blank (c : UInt8) (h : isDig c = true) : bl c = false := by
  have := dig_bl ⟨c.toNat, c.toNat_lt⟩
  simp only [UInt8.ofNat_toNat] at this
  exact this h
theorem dec_last (u : Nat) : ∃ r b, decL u = r ++ [b] ∧ isDig b = true := by
  refine ⟨(decL u).dropLast, (decL u).getLast (decL_ne u), (List.dropLast_concat_getLast (decL_ne u)).symm, ?_⟩
  exact decL_dig u _ (List.getLast_mem (decL_ne u))
theorem lit_ends (x : Val.V) : (∃ n, litL x = 32 :: 45 :: decL n) ∨ ∃ c u r b, litL x = c :: u ∧ c :: u = r ++ [b] ∧ bl c = false ∧ bl b = false ∧ c ≠ 45 := by
  obtain ⟨k, n, s, l, ks⟩ := x
  rw [litL]
  split
  · exact .inr ⟨_, _, [110, 117, 108], 108, rfl, rfl, by decide, by decide, by decide⟩
  · split
    · exact .inr ⟨_, _, [102, 97, 108, 115], 101, rfl, rfl, by decide, by decide, by decide⟩
    · split
      · exact .inr ⟨_, _, [116, 114, 117], 101, rfl, rfl, by decide, by decide, by decide⟩
      · split
        · by_cases h : n < 0
          · left
            refine ⟨n.natAbs, ?_⟩
            unfold printL
            rw [if_pos h, if_pos h]
          · right
            rw [if_neg h]
            obtain ⟨c, u, e, hc⟩ := print_head n h
            obtain ⟨r, b, e2, hb⟩ := dec_last n.natAbs
            have e3 : printL n = decL n.natAbs := by unfold printL; rw [if_neg h]
            exact ⟨c, u, r, b, e, by rw [← e, e3, e2], dig_blank c hc, dig_blank b hb, dig_ne hc (by decide)⟩
        · split
          · exact .inr ⟨91, _, [91] ++ joinK false ks (litAll l) (litAll l).length, 93, rfl, by simp, by decide, by decide, by decide⟩
          · split
            · exact .inr ⟨123, _, [123] ++ joinK true ks (litAll l) (litAll l).length, 125, rfl, by simp, by decide, by decide, by decide⟩
            · exact .inr ⟨34, _, [34] ++ insideL (chars s.data.toList), 34, rfl, by simp, by decide, by decide, by decide⟩
theorem scan_lit (x : Val.V) : scanT (32 :: (litL x ++ [32])) = litL x := by
  unfold scanT
  rw [trim_blanks]
  rcases lit_ends x with ⟨n, e⟩ | ⟨c, u, r, b, e, e2, h1, h2, h3⟩
  · obtain ⟨r, b, e2, hb⟩ := dec_last n
    have e3 : trimL (litL x) = 45 :: decL n := by
      rw [e]
      have e4 : trimL (32 :: 45 :: decL n) = trimL (45 :: decL n) := by
        unfold trimL
        rw [List.dropWhile_cons, if_pos (by decide)]
      rw [e4]
      exact trim_none 45 (decL n) (45 :: r) b (by decide) (dig_blank b hb) (by rw [e2]; rfl)
    rw [e3, show (45 :: decL n) = [45] ++ decL n from rfl, hp_yes, if_pos rfl, e]
    rfl
  · have e3 : trimL (litL x) = c :: u := by
      rw [e]
      exact trim_none c u r b h1 h2 e2
    rw [e3, hp_no c 45 u [] h3, if_neg (by simp), e]
end Go.Proofs.YtganmmkdcaphfaaGreatDoor.Rd
