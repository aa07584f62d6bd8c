/-
  Part 6: LitUniq, LitUniq2, ValOpen, ValBulk, LitBulk, RdText, TlInt, TlLit, NumLeaves, NumParse.
-/
import Derived.Test.YtgfbednfiejlfaaGreatDoorLitCutsCardP5
import Derived.Test.YtgfbednfiejlfaaGreatDoorLitCutsCardP1
import GoSem.ClaimJoined
import Derived.ChangeArms
import Derived.DataReads
import Derived.SizedLaws
import Derived.Test.YtgfbednfiejlfaaGreatDoorRows
import Derived.Test.YtgfbednfiejlfaaGreatDoorLitCutsCardP3
import Derived.Test.YtgfbednfiejlfaaGreatDoorProg
import Derived.Lib.Hide
/-
  Plain facts on literals, with no program: where a literal ends is told by itself, or by the comma or bracket behind it; so no text that ends within a string, a list or a record is a literal.
-/
namespace Go.Proofs.YtgfbednfiejlfaaGreatDoor.Lit
open Go.Proofs.YtgfbednfiejlfaaGreatDoor.Oct Go.Proofs.YtgfbednfiejlfaaGreatDoor.Num Go.Proofs.YtgfbednfiejlfaaGreatDoor.Utf Go.Proofs.YtgfbednfiejlfaaGreatDoor.Val

/-- Two runs of octets that keep a condition, each followed by one that does not, or by nothing. -/
theorem span_uniq (P : UInt8 → Bool) : ∀ (a b t1 t2 : List UInt8), a ++ t1 = b ++ t2 → (∀ c ∈ a, P c = true) → (∀ c ∈ b, P c = true) → (∀ c r, t1 = c :: r → P c = false) → (∀ c r, t2 = c :: r → P c = false) → a = b ∧ t1 = t2
  | [], [], _, _, h, _, _, _, _ => ⟨rfl, h⟩
  | [], y :: b, t1, t2, h, _, hb, h1, _ => by
    have := h1 y (b ++ t2) h
    rw [hb y (by simp)] at this
    cases this
  | x :: a, [], t1, t2, h, ha, _, _, h2 => by
    have := h2 x (a ++ t1) h.symm
    rw [ha x (by simp)] at this
    cases this
  | x :: a, y :: b, t1, t2, h, ha, hb, h1, h2 => by
    simp only [List.cons_append, List.cons.injEq] at h
    obtain ⟨rfl, h⟩ := h
    obtain ⟨rfl, rfl⟩ := span_uniq P a b t1 t2 h (fun c hc => ha c (by simp [hc])) (fun c hc => hb c (by simp [hc])) h1 h2
    exact ⟨rfl, rfl⟩

/-- An octet of a number's literal. -/
def numC (c : UInt8) : Bool := c == 32 || c == 45 || (48 ≤ c && c ≤ 57)
/-- An octet that is no quote. -/
def noQ (c : UInt8) : Bool := !(c == 34)

theorem dig_num (d : Nat) (h : d < 10) : numC (dig d) = true := by
  have : ∀ d : Fin 10, numC (dig d.val) = true := by decide
  exact this ⟨d, h⟩
theorem decL_num (u : Nat) : ∀ c ∈ decL u, numC c = true := by
  intro c hc
  simp only [decL, List.mem_map, List.mem_reverse] at hc
  obtain ⟨d, hd, rfl⟩ := hc
  exact dig_num d (lowL_lt u d hd)
theorem printL_num (n : Int) : (∀ c ∈ printL n, numC c = true) ∧ printL n ≠ [] := by
  unfold printL
  split
  · refine ⟨fun c hc => ?_, by simp⟩
    rcases List.mem_cons.1 hc with rfl | hc
    · rfl
    · exact decL_num _ c hc
  · exact ⟨decL_num _, decL_ne _⟩
theorem hexDig_q (d : Nat) (h : d < 16) : noQ (hexDig d) = true := by
  have : ∀ d : Fin 16, noQ (hexDig d.val) = true := by decide +kernel
  exact this ⟨d, h⟩
theorem escL_q (n : Nat) : ∀ c ∈ escL n, noQ c = true := by
  intro c hc
  simp only [escL, List.mem_append, List.mem_cons, List.not_mem_nil, or_false, hexL, List.mem_map, List.mem_range] at hc
  rcases hc with (rfl | rfl) | ⟨k, hk, rfl⟩
  · rfl
  · rfl
  · exact hexDig_q _ (Nat.mod_lt _ (by omega))
theorem charL_q (c : Int) : ∀ o ∈ charL c, noQ o = true := by
  intro o ho
  unfold charL at ho
  split at ho
  · rename_i hb
    simp only [List.mem_cons, List.not_mem_nil, or_false] at ho
    subst ho
    simp only [bareB, decide_eq_true_eq] at hb
    have hn : c.toNat < 256 := by omega
    have hne : c.toNat ≠ 34 := by omega
    simp only [noQ, Bool.not_eq_true', beq_eq_false_iff_ne]
    intro e
    have := congrArg UInt8.toNat e
    rw [u8 _ hn] at this
    exact hne this
  · split at ho
    · rcases List.mem_append.1 ho with h | h
      · exact escL_q _ o h
      · exact escL_q _ o h
    · exact escL_q _ o ho
theorem insideL_q (cs : List Int) : ∀ o ∈ insideL cs, noQ o = true := by
  intro o ho
  simp only [insideL, List.mem_flatMap] at ho
  obtain ⟨c, _, h⟩ := ho
  exact charL_q c o h

theorem quote_uniq (a b : ByteArray) (t1 t2 : List UInt8) (h : quoteL a ++ t1 = quoteL b ++ t2) : quoteL a = quoteL b ∧ t1 = t2 := by
  simp only [quoteL, List.append_assoc, List.cons_append, List.nil_append, List.cons.injEq, true_and] at h
  obtain ⟨h1, h2⟩ := span_uniq noQ _ _ _ _ h (insideL_q _) (insideL_q _) (fun c r e => by cases e; rfl) (fun c r e => by cases e; rfl)
  refine ⟨by simp only [quoteL, h1], by simpa using h2⟩

/-- The key at the head, with its sign. -/
def keyHd (r : Bool) (ks : List ByteArray) : List UInt8 := if r then (match ks with | key :: _ => quoteL key ++ [58] | [] => []) else []
/-- What stands between the brackets, from the front. -/
def itemsL (r : Bool) : Bool → List ByteArray → List (List UInt8) → List UInt8
  | _, _, [] => []
  | first, ks, t :: ts => (if first then [] else [44]) ++ (keyHd r ks ++ (t ++ itemsL r false ks.tail ts))

theorem key_hd (r : Bool) (ks : List ByteArray) (k : Nat) : keyHd r (ks.drop k) = keyAt r ks k := by
  unfold keyHd keyAt
  cases r with
  | false => rfl
  | true =>
    by_cases h : k < ks.length
    · rw [List.drop_eq_getElem_cons h]
      simp [h]
    · rw [List.drop_eq_nil_of_le (by omega)]
      simp [List.getElem?_eq_none (show ks.length ≤ k by omega)]
theorem join_items (r : Bool) (ks : List ByteArray) (ts : List (List UInt8)) : ∀ m k, k + m = ts.length → joinK r ks ts k ++ itemsL r (decide (k = 0)) (ks.drop k) (ts.drop k) = joinK r ks ts ts.length
  | 0, k, h => by
    have : k = ts.length := by omega
    subst this
    rw [List.drop_length]
    simp [itemsL]
  | m + 1, k, h => by
    have hk : k < ts.length := by omega
    rw [← join_items r ks ts m (k + 1) (by omega), List.drop_eq_getElem_cons hk, itemsL, joinK, key_hd, List.tail_drop]
    simp [hk]
theorem join_front (r : Bool) (ks : List ByteArray) (ts : List (List UInt8)) : joinK r ks ts ts.length = itemsL r true ks ts := by
  have := join_items r ks ts ts.length 0 (by omega)
  simpa [joinK] using this.symm
end Go.Proofs.YtgfbednfiejlfaaGreatDoor.Lit

/-
  Plain facts on literals, with no program: a literal's end; no proper beginning of a string's, a list's or a record's literal is a literal.
-/
namespace Go.Proofs.YtgfbednfiejlfaaGreatDoor.Lit
open Go.Proofs.YtgfbednfiejlfaaGreatDoor.Oct Go.Proofs.YtgfbednfiejlfaaGreatDoor.Num Go.Proofs.YtgfbednfiejlfaaGreatDoor.Utf Go.Proofs.YtgfbednfiejlfaaGreatDoor.Val

/-- What may stand behind a value within a list or a record. -/
def delim (t : List UInt8) : Prop := ∀ c r, t = c :: r → c = 44 ∨ c = 93 ∨ c = 125
/-- Which literal begins so. -/
def cls (c : UInt8) : Nat := if c = 110 then 0 else if c = 102 then 1 else if c = 116 then 2 else if c = 34 then 4 else if c = 91 then 5 else if c = 123 then 6 else if numC c then 3 else 7

theorem num_cls (c : UInt8) (h : numC c = true) : cls c = 3 := by
  have key : ∀ n : Fin 256, numC (UInt8.ofNat n.val) = true → cls (UInt8.ofNat n.val) = 3 := by decide +kernel
  have hc := key ⟨c.toNat, c.toNat_lt⟩
  simpa using hc (by simpa using h)
theorem cls_num (c : UInt8) (h : cls c = 3) : numC c = true := by
  have key : ∀ n : Fin 256, cls (UInt8.ofNat n.val) = 3 → numC (UInt8.ofNat n.val) = true := by decide +kernel
  have hc := key ⟨c.toNat, c.toNat_lt⟩
  simpa using hc (by simpa using h)

/-- A literal, by its first octet. -/
structure Begins (a : List UInt8) (c : UInt8) (r : List UInt8) : Prop where
  eq : a = c :: r
  known : cls c < 7
  null : cls c = 0 → a = [110, 117, 108, 108]
  no : cls c = 1 → a = [102, 97, 108, 115, 101]
  yes : cls c = 2 → a = [116, 114, 117, 101]
  num : cls c = 3 → ∀ o ∈ a, numC o = true
  text : cls c = 4 → ∃ s, a = quoteL s
  list : cls c = 5 → ∃ (l : List V) (ks : List ByteArray), a = 91 :: (itemsL false true ks (l.map litL) ++ [93]) ∧ ∀ y ∈ l, (litL y).length < a.length
  record : cls c = 6 → ∃ (l : List V) (ks : List ByteArray), a = 123 :: (itemsL true true ks (l.map litL) ++ [125]) ∧ ∀ y ∈ l, (litL y).length < a.length

theorem item_len (r : Bool) (l : List V) : ∀ (first : Bool) (ks : List ByteArray), ∀ y ∈ l, (litL y).length ≤ (itemsL r first ks (l.map litL)).length := by
  induction l with
  | nil => intro _ _ y hy; cases hy
  | cons x l ih =>
    intro first ks y hy
    rw [List.map_cons, itemsL]
    simp only [List.length_append]
    rcases List.mem_cons.1 hy with rfl | hy
    · omega
    · have := ih false ks.tail y hy
      omega

theorem begins_text (s : ByteArray) : ∃ r, Begins (quoteL s) 34 r :=
  ⟨_, ⟨rfl, by decide, fun h => absurd h (by decide), fun h => absurd h (by decide), fun h => absurd h (by decide), fun h => absurd h (by decide), fun _ => ⟨s, rfl⟩, fun h => absurd h (by decide), fun h => absurd h (by decide)⟩⟩

theorem lit_begins (x : V) : ∃ c r, Begins (litL x) c r := by
  obtain ⟨k, n, s, l, ks⟩ := x
  by_cases h0 : k = 0
  · subst h0
    have e : litL (.mk 0 n s l ks) = [110, 117, 108, 108] := by simp [litL]
    rw [e]
    exact ⟨_, _, rfl, by decide, fun _ => rfl, fun h => absurd h (by decide), fun h => absurd h (by decide), fun h => absurd h (by decide), fun h => absurd h (by decide), fun h => absurd h (by decide), fun h => absurd h (by decide)⟩
  by_cases h1 : k = 1
  · subst h1
    have e : litL (.mk 1 n s l ks) = [102, 97, 108, 115, 101] := by simp [litL]
    rw [e]
    exact ⟨_, _, rfl, by decide, fun h => absurd h (by decide), fun _ => rfl, fun h => absurd h (by decide), fun h => absurd h (by decide), fun h => absurd h (by decide), fun h => absurd h (by decide), fun h => absurd h (by decide)⟩
  by_cases h2 : k = 2
  · subst h2
    have e : litL (.mk 2 n s l ks) = [116, 114, 117, 101] := by simp [litL]
    rw [e]
    exact ⟨_, _, rfl, by decide, fun h => absurd h (by decide), fun h => absurd h (by decide), fun _ => rfl, fun h => absurd h (by decide), fun h => absurd h (by decide), fun h => absurd h (by decide), fun h => absurd h (by decide)⟩
  by_cases h3 : k = 3
  · subst h3
    obtain ⟨ha, hne⟩ : (∀ o ∈ litL (.mk 3 n s l ks), numC o = true) ∧ litL (.mk 3 n s l ks) ≠ [] := by
      have e : litL (.mk 3 n s l ks) = if n < 0 then 32 :: printL n else printL n := by simp [litL]
      rw [e]
      split
      · refine ⟨fun o ho => ?_, by simp⟩
        rcases List.mem_cons.1 ho with rfl | ho
        · rfl
        · exact (printL_num n).1 o ho
      · exact printL_num n
    cases hl : litL (.mk 3 n s l ks) with
    | nil => exact absurd hl hne
    | cons c r =>
      rw [hl] at ha
      have hc := num_cls c (ha c (by simp))
      exact ⟨c, r, rfl, by omega, fun h => by omega, fun h => by omega, fun h => by omega, fun _ => ha, fun h => by omega, fun h => by omega, fun h => by omega⟩
  by_cases h5 : k = 5
  · subst h5
    have e : litL (.mk 5 n s l ks) = 91 :: (itemsL false true ks (l.map litL) ++ [93]) := by
      have : litL (.mk 5 n s l ks) = brackL 91 93 (joinK false ks (litAll l) (litAll l).length) := by simp [litL]
      rw [this, join_front, litAll_eq]; rfl
    rw [e]
    refine ⟨_, _, rfl, by decide, fun h => absurd h (by decide), fun h => absurd h (by decide), fun h => absurd h (by decide), fun h => absurd h (by decide), fun h => absurd h (by decide), fun _ => ⟨l, ks, rfl, fun y hy => ?_⟩, fun h => absurd h (by decide)⟩
    have := item_len false l true ks y hy
    simp only [List.length_cons, List.length_append]
    omega
  by_cases h6 : k = 6
  · subst h6
    have e : litL (.mk 6 n s l ks) = 123 :: (itemsL true true ks (l.map litL) ++ [125]) := by
      have : litL (.mk 6 n s l ks) = brackL 123 125 (joinK true ks (litAll l) (litAll l).length) := by simp [litL]
      rw [this, join_front, litAll_eq]; rfl
    rw [e]
    refine ⟨_, _, rfl, by decide, fun h => absurd h (by decide), fun h => absurd h (by decide), fun h => absurd h (by decide), fun h => absurd h (by decide), fun h => absurd h (by decide), fun h => absurd h (by decide), fun _ => ⟨l, ks, rfl, fun y hy => ?_⟩⟩
    have := item_len true l true ks y hy
    simp only [List.length_cons, List.length_append]
    omega
  · have e : litL (.mk k n s l ks) = quoteL s := by simp [litL, h0, h1, h2, h3, h5, h6]
    rw [e]
    exact ⟨_, begins_text s⟩

theorem delim_not {c : UInt8} (h : c = 44 ∨ c = 93 ∨ c = 125) : numC c = false ∧ cls c = 7 := by
  rcases h with rfl | rfl | rfl <;> decide

theorem rest_delim (r : Bool) (ks : List ByteArray) (ts : List (List UInt8)) (cl : UInt8) (hcl : cl = 93 ∨ cl = 125) (t : List UInt8) : delim (itemsL r false ks ts ++ cl :: t) := by
  intro c q e
  cases ts with
  | nil => simp only [itemsL, List.nil_append, List.cons.injEq] at e; rcases hcl with h | h <;> (rw [← e.1, h]; simp)
  | cons a ts => simp only [itemsL, Bool.false_eq_true, ↓reduceIte, List.cons_append, List.nil_append, List.cons.injEq] at e; exact .inl e.1.symm

theorem not_close (r : Bool) (ks : List ByteArray) (y : V) (rest t : List UInt8) (cl : UInt8) (hcl : cl = 93 ∨ cl = 125) (h : cl :: t = keyHd r ks ++ (litL y ++ rest)) : False := by
  have h7 : cls cl = 7 := (delim_not (.inr hcl)).2
  have main : ∀ (a : List UInt8) (c : UInt8) (q z : List UInt8), Begins a c q → cl :: t = a ++ z → False := fun a c q z hb he => by
    rw [hb.eq] at he
    simp only [List.cons_append, List.cons.injEq] at he
    have := hb.known
    rw [← he.1] at this
    omega
  obtain ⟨c, q, hb⟩ := lit_begins y
  cases r with
  | false => exact main _ _ _ rest hb (by simpa [keyHd] using h)
  | true =>
    cases ks with
    | nil => exact main _ _ _ rest hb (by simpa [keyHd] using h)
    | cons key ks =>
      obtain ⟨q2, hb2⟩ := begins_text key
      exact main _ _ _ _ hb2 (by simpa [keyHd, List.append_assoc] using h)

theorem key_value (key : ByteArray) (y : V) (rest1 rest2 : List UInt8) (h : quoteL key ++ 58 :: rest1 = litL y ++ rest2) (hd : delim rest2) : False := by
  obtain ⟨c, q, hb⟩ := lit_begins y
  obtain ⟨q2, hb2⟩ := begins_text key
  have hc : (34 : UInt8) = c := by
    have := h
    rw [hb.eq, hb2.eq] at this
    simp only [List.cons_append, List.cons.injEq] at this
    exact this.1
  obtain ⟨s, hs⟩ := hb.text (by rw [← hc]; decide)
  rw [hs] at h
  have := (quote_uniq key s _ _ h).2
  rcases hd 58 rest1 this.symm with h | h | h <;> cases h

theorem items_uniq (r : Bool) (cl : UInt8) (hcl : cl = 93 ∨ cl = 125) : ∀ (l1 : List V), (∀ x ∈ l1, ∀ y t1 t2, litL x ++ t1 = litL y ++ t2 → delim t1 → delim t2 → litL x = litL y ∧ t1 = t2) →
    ∀ (l2 : List V) (first : Bool) (ks1 ks2 : List ByteArray) (t1 t2 : List UInt8), itemsL r first ks1 (l1.map litL) ++ cl :: t1 = itemsL r first ks2 (l2.map litL) ++ cl :: t2 →
      itemsL r first ks1 (l1.map litL) = itemsL r first ks2 (l2.map litL) ∧ t1 = t2
  | [], _, [], _, _, _, _, _, h => ⟨rfl, by simpa [itemsL] using h⟩
  | [], _, y :: l2, first, ks1, ks2, t1, t2, h => by
    exfalso
    simp only [List.map_nil, List.map_cons, itemsL, List.nil_append, List.append_assoc] at h
    cases first with
    | false =>
      simp only [Bool.false_eq_true, ↓reduceIte, List.cons_append, List.nil_append, List.cons.injEq] at h
      rcases hcl with h9 | h9 <;> (rw [h9] at h; exact absurd h.1 (by decide))
    | true => exact not_close r ks2 y _ t1 cl hcl (by simpa using h)
  | x :: l1, _, [], first, ks1, ks2, t1, t2, h => by
    exfalso
    simp only [List.map_nil, List.map_cons, itemsL, List.nil_append, List.append_assoc] at h
    cases first with
    | false =>
      simp only [Bool.false_eq_true, ↓reduceIte, List.cons_append, List.nil_append, List.cons.injEq] at h
      rcases hcl with h9 | h9 <;> (rw [h9] at h; exact absurd h.1.symm (by decide))
    | true => exact not_close r ks1 x _ t2 cl hcl (by simpa using h.symm)
  | x :: l1, hu, y :: l2, first, ks1, ks2, t1, t2, h => by
    simp only [List.map_cons, itemsL, List.append_assoc] at h
    have h := List.append_cancel_left h
    have tail : ∀ (z1 z2 : List ByteArray), litL x ++ (itemsL r false z1 (l1.map litL) ++ cl :: t1) = litL y ++ (itemsL r false z2 (l2.map litL) ++ cl :: t2) →
        litL x = litL y ∧ itemsL r false z1 (l1.map litL) = itemsL r false z2 (l2.map litL) ∧ t1 = t2 := fun z1 z2 he => by
      obtain ⟨e1, e2⟩ := hu x (by simp) y _ _ he (rest_delim r z1 _ cl hcl t1) (rest_delim r z2 _ cl hcl t2)
      obtain ⟨e3, e4⟩ := items_uniq r cl hcl l1 (fun x hx => hu x (by simp [hx])) l2 false z1 z2 t1 t2 e2
      exact ⟨e1, e3, e4⟩
    cases r with
    | false =>
      obtain ⟨e1, e2, e3⟩ := tail _ _ (by simpa [keyHd] using h)
      simp only [List.map_cons, itemsL, keyHd]
      exact ⟨by rw [e1, e2]; rfl, e3⟩
    | true =>
      cases ks1 with
      | nil =>
        cases ks2 with
        | nil =>
          obtain ⟨e1, e2, e3⟩ := tail [] [] (by simpa [keyHd] using h)
          simp only [List.map_cons, itemsL, keyHd, List.tail_nil]
          exact ⟨by rw [e1, e2], e3⟩
        | cons k2 ks2 =>
          exfalso
          simp only [keyHd, ↓reduceIte, List.nil_append, List.append_assoc, List.cons_append] at h
          exact key_value k2 x _ _ h.symm (rest_delim true _ _ cl hcl t1)
      | cons k1 ks1 =>
        cases ks2 with
        | nil =>
          exfalso
          simp only [keyHd, ↓reduceIte, List.nil_append, List.append_assoc, List.cons_append] at h
          exact key_value k1 y _ _ h (rest_delim true _ _ cl hcl t2)
        | cons k2 ks2 =>
          simp only [keyHd, ↓reduceIte, List.append_assoc, List.cons_append, List.nil_append] at h
          obtain ⟨e0, h⟩ := quote_uniq k1 k2 _ _ h
          simp only [List.cons.injEq, true_and] at h
          obtain ⟨e1, e2, e3⟩ := tail _ _ h
          simp only [List.map_cons, itemsL, keyHd, ↓reduceIte]
          exact ⟨by rw [e0, e1, e2], e3⟩

/-- A string's, a list's or a record's literal. -/
def closedL (a : List UInt8) : Prop := ∃ c r, a = c :: r ∧ (c = 34 ∨ c = 91 ∨ c = 123)

theorem lit_uniq : ∀ (n : Nat) (x : V), (litL x).length ≤ n → ∀ (y : V) (t1 t2 : List UInt8), litL x ++ t1 = litL y ++ t2 → (delim t1 ∧ delim t2) ∨ closedL (litL x) → litL x = litL y ∧ t1 = t2
  | 0, x, hn, _, _, _, _, _ => by
    obtain ⟨c, q, hb⟩ := lit_begins x
    rw [hb.eq] at hn
    simp at hn
  | n + 1, x, hn, y, t1, t2, h, hd => by
    obtain ⟨c, q, hx⟩ := lit_begins x
    obtain ⟨c2, q2, hy⟩ := lit_begins y
    have hcc : c = c2 := by
      have := h
      rw [hx.eq, hy.eq] at this
      simp only [List.cons_append, List.cons.injEq] at this
      exact this.1
    subst hcc
    have hk := hx.known
    rcases (show cls c = 0 ∨ cls c = 1 ∨ cls c = 2 ∨ cls c = 3 ∨ cls c = 4 ∨ cls c = 5 ∨ cls c = 6 by omega) with e | e | e | e | e | e | e
    · have e1 := (hx.null e).trans (hy.null e).symm
      rw [e1] at h
      exact ⟨e1, List.append_cancel_left h⟩
    · have e1 := (hx.no e).trans (hy.no e).symm
      rw [e1] at h
      exact ⟨e1, List.append_cancel_left h⟩
    · have e1 := (hx.yes e).trans (hy.yes e).symm
      rw [e1] at h
      exact ⟨e1, List.append_cancel_left h⟩
    · rcases hd with ⟨d1, d2⟩ | ⟨c3, r3, e3, h3⟩
      · exact span_uniq numC _ _ _ _ h (hx.num e) (hy.num e) (fun c r he => (delim_not (d1 c r he)).1) (fun c r he => (delim_not (d2 c r he)).1)
      · exfalso
        rw [hx.eq] at e3
        simp only [List.cons.injEq] at e3
        rw [e3.1] at e
        rcases h3 with rfl | rfl | rfl <;> exact absurd e (by decide)
    · obtain ⟨s1, e1⟩ := hx.text e
      obtain ⟨s2, e2⟩ := hy.text e
      rw [e1, e2] at h ⊢
      exact quote_uniq s1 s2 t1 t2 h
    · obtain ⟨l1, ks1, e1, g1⟩ := hx.list e
      obtain ⟨l2, ks2, e2, g2⟩ := hy.list e
      rw [e1, e2] at h
      simp only [List.cons_append, List.append_assoc, List.nil_append, List.cons.injEq, true_and] at h
      obtain ⟨f1, f2⟩ := items_uniq false 93 (.inl rfl) l1 (fun x' hx' y' u1 u2 hh d1 d2 => lit_uniq n x' (by have := g1 x' hx'; omega) y' u1 u2 hh (.inl ⟨d1, d2⟩)) l2 true ks1 ks2 t1 t2 h
      exact ⟨by rw [e1, e2, f1], f2⟩
    · obtain ⟨l1, ks1, e1, g1⟩ := hx.record e
      obtain ⟨l2, ks2, e2, g2⟩ := hy.record e
      rw [e1, e2] at h
      simp only [List.cons_append, List.append_assoc, List.nil_append, List.cons.injEq, true_and] at h
      obtain ⟨f1, f2⟩ := items_uniq true 125 (.inr rfl) l1 (fun x' hx' y' u1 u2 hh d1 d2 => lit_uniq n x' (by have := g1 x' hx'; omega) y' u1 u2 hh (.inl ⟨d1, d2⟩)) l2 true ks1 ks2 t1 t2 h
      exact ⟨by rw [e1, e2, f1], f2⟩

/-- No proper beginning of such a literal is a literal. -/
theorem lit_cut (x y : V) (t : List UInt8) (h : litL x ++ t = litL y) (hy : closedL (litL y)) : t = [] := by
  have hx : closedL (litL x) := by
    obtain ⟨c, q, hb⟩ := lit_begins x
    obtain ⟨c2, r2, e2, h2⟩ := hy
    refine ⟨c, q, hb.eq, ?_⟩
    rw [hb.eq, e2] at h
    simp only [List.cons_append, List.cons.injEq] at h
    rw [h.1]; exact h2
  exact (lit_uniq _ x (Nat.le_refl _) y t [] (by rw [List.append_nil]; exact h) (.inr hx)).2
end Go.Proofs.YtgfbednfiejlfaaGreatDoor.Lit

/-
  A value that came in, as the row reads it, opened as a tree.
-/
namespace Go.Proofs.YtgfbednfiejlfaaGreatDoor.Val
open Go.RowKit Go.Proofs.YtgfbednfiejlfaaGreatDoor.Oct

variable {H : Type} {enc : TypeId × Value → H} {w : World} {base : Nat} {spare : Nat → Bool} {held : Bool}

theorem cells_one3 : Tryz.prog.cellsOf 3 = 1 := by kernel_rfl
theorem cells_one9 : Tryz.prog.cellsOf 9 = 1 := by kernel_rfl
theorem cells_oneL : Tryz.prog.cellsOf 23 = 1 := by kernel_rfl
theorem cells_oneK : Tryz.prog.cellsOf 24 = 1 := by kernel_rfl
theorem cells_five : Tryz.prog.cellsOf 26 = 5 := by kernel_rfl
theorem bytes_text : Tryz.prog.bytesOf 9 = 16 := by kernel_rfl
theorem bytes_value : Tryz.prog.bytesOf 26 = 80 := by kernel_rfl

/-- An address that is read bears no spot. -/
theorem no_spot {a : Addr} {v : Value} (h : w.cell? a = some v) : a = ⟨a.block, a.off, none⟩ := by
  obtain ⟨b, o, sp⟩ := a
  cases sp with
  | none => rfl
  | some x =>
    simp only [World.cell?] at h
    split at h <;> simp at h
theorem add_zero' (a : Addr) : a.add 0 = a := by simp [Addr.add]

theorem list_of {α : Type} {P : Nat → α → Prop} (n : Nat) (h : ∀ i, i < n → ∃ x, P i x) : ∃ l : List α, l.length = n ∧ ∀ i (hi : i < l.length), P i l[i] := by
  induction n with
  | zero => exact ⟨[], rfl, fun i hi => absurd hi (by simp)⟩
  | succ n ih =>
    obtain ⟨l, hl, hp⟩ := ih (fun i hi => h i (by omega))
    obtain ⟨x, hx⟩ := h n (by omega)
    refine ⟨l ++ [x], by simp [hl], fun i hi => ?_⟩
    rcases Nat.lt_or_ge i l.length with h1 | h1
    · rw [List.getElem_append_left h1]; exact hp i h1
    · have : i = l.length := by simp at hi; omega
      subst this
      simp [hl]
      exact hx

theorem weights_mem_all {P : Program} {e : TypeId} {ds : List (DataW H)} {d : DataW H} (hd : d ∈ ds) : ∀ n ∈ d.weights P e, n ∈ DataW.weightsAll P e ds := by
  induction ds with
  | nil => cases hd
  | cons d0 ds ih =>
    intro n hn
    simp only [DataW.weightsAll, List.mem_append]
    rcases List.mem_cons.1 hd with rfl | hd
    · exact .inl hn
    · exact .inr (ih hd n hn)

/-- A list of texts that came in. -/
theorem open_texts {fuel : Nat} {cs : List Value} {y : DataW H × List MemPlace} (h : DataW.trod enc Tryz.prog w base spare held fuel 24 cs = some y) (hs : ∀ n ∈ y.1.weights Tryz.prog 24, n ≤ reachBytes) :
    ∃ K ks, cs = [K] ∧ Texts (Old w.heap.size) w K ks := by
  rcases DataW.trod_slice Tryz.underlying24 h with ⟨rfl, _⟩ | ⟨a, len, cap, elems, rest, n, _, rfl, rfl, hb, hl, hm, hlen, hel, _⟩
  · exact ⟨_, [], rfl, none, 0, 0, 0, rfl, by simp, fun h => absurd h (by simp), fun i h => absurd h (by simp)⟩
  · have key : ∀ i, i < len → ∃ s : ByteArray, w.cell? (a.add i) = some (.string s) ∧ s.size ≤ 140737488351232 := fun i hi => by
      have h1 := hel i hi
      rw [List.getElem?_eq_getElem (by omega), Option.bind_eq_some_iff] at h1
      obtain ⟨cs', h2, h3⟩ := h1
      obtain ⟨s, rfl, hys⟩ := DataW.trod_string Tryz.underlying9 h3
      have hsz : s.size ≤ 140737488351232 := by
        have h9 := hs s.data.toList.length (by
          simp only [DataW.weights, Tryz.underlying24, List.mem_cons, List.mem_append]
          exact .inr (.inl (weights_mem_all (List.mem_map.2 ⟨elems[i], List.getElem_mem _, rfl⟩) _ (by rw [hys.1]; simp [DataW.weights]))))
        rw [size_list] at h9
        exact h9
      rw [cells_one9, Nat.mul_one] at h2
      obtain ⟨_, _, hat⟩ := World.cells?_some h2
      have h4 := hat 0 (by omega)
      rw [add_zero'] at h4
      exact ⟨s, h4, hsz⟩
    obtain ⟨ks, hk, hp⟩ := list_of len key
    have hbound : len * 16 ≤ 140737488351232 := by
      have := hs ((elems.length + rest.length) * Tryz.prog.bytesOf 9) (by simp [DataW.weights, Tryz.underlying24])
      rw [bytes_text, hlen] at this
      have e : reachBytes = 140737488351232 := rfl
      have h2 : len * 16 ≤ (len + rest.length) * 16 := Nat.mul_le_mul_right _ (by omega)
      omega
    refine ⟨_, ks, rfl, some a, cap, a.block, a.off, by rw [hk], ⟨by rw [hk]; exact hbound, fun s h => by obtain ⟨i, hi, rfl⟩ := List.getElem_of_mem h; exact (hp i hi).2⟩, fun h0 => ?_, fun i hi => ?_⟩
    · have h1 := (hp 0 h0).1
      rw [add_zero'] at h1
      exact ⟨congrArg some (no_spot h1), World.block_lt_of_cell? w a h1⟩
    · have h0 := (hp 0 (by omega)).1
      rw [add_zero'] at h0
      have h1 := (hp i hi).1
      rw [no_spot h0, Addr.add_lit] at h1
      exact h1

set_option maxRecDepth 100000 in
/-- A value that came in. -/
theorem open_val (fuel : Nat) : ∀ (cs : List Value) (y : DataW H × List MemPlace), DataW.trod enc Tryz.prog w base spare held fuel 26 cs = some y → (∀ n ∈ y.1.weights Tryz.prog 26, n ≤ reachBytes) →
    ∃ u0 u1 u2 u3 u4 x, cs = [u0, u1, u2, u3, u4] ∧ Holds (Old w.heap.size) w (.agg #[u0, u1, u2, u3, u4]) x := by
  induction fuel using Nat.strongRecOn with
  | ind fuel ih =>
    intro cs y h hs
    obtain ⟨xs, n, hfu, rfl, hlen, hxl, hf⟩ := DataW.trod_struct Tryz.underlying26 h
    rw [cells_five] at hlen
    obtain ⟨u0, u1, u2, u3, u4, rfl⟩ : ∃ u0 u1 u2 u3 u4, cs = [u0, u1, u2, u3, u4] := by
      match cs, hlen with
      | [u0, u1, u2, u3, u4], _ => exact ⟨u0, u1, u2, u3, u4, rfl⟩
    obtain ⟨y0, y1, y2, y3, y4, rfl⟩ : ∃ y0 y1 y2 y3 y4, xs = [y0, y1, y2, y3, y4] := by
      match xs, (show xs.length = 5 from hxl) with
      | [y0, y1, y2, y3, y4], _ => exact ⟨y0, y1, y2, y3, y4, rfl⟩
    have f0 : DataW.trod enc Tryz.prog w base spare held n 3 [u0] = some y0 := by simpa [cells_one3] using hf 0 _ rfl
    have f1 : DataW.trod enc Tryz.prog w base spare held n 3 [u1] = some y1 := by simpa [cells_one3] using hf 1 _ rfl
    have f2 : DataW.trod enc Tryz.prog w base spare held n 9 [u2] = some y2 := by simpa [cells_one9] using hf 2 _ rfl
    have f3 : DataW.trod enc Tryz.prog w base spare held n 23 [u3] = some y3 := by simpa [cells_oneL] using hf 3 _ rfl
    have f4 : DataW.trod enc Tryz.prog w base spare held n 24 [u4] = some y4 := by simpa [cells_oneK] using hf 4 _ rfl
    obtain ⟨k, hk, _, wk⟩ := DataW.trod_int Tryz.underlying3 f0
    obtain ⟨m, hm, _, wm⟩ := DataW.trod_int Tryz.underlying3 f1
    obtain ⟨s, hst, hys, _⟩ := DataW.trod_string Tryz.underlying9 f2
    simp only [List.cons.injEq, and_true] at hk hm hst
    subst hk; subst hm; subst hst
    have wt : ∀ (j : Nat) (t : TypeId) (d : DataW H), ([3, 3, 9, 23, 24] : List TypeId)[j]? = some t → ([y0.1, y1.1, y2.1, y3.1, y4.1] : List (DataW H))[j]? = some d → ∀ n ∈ d.weights Tryz.prog t, n ≤ reachBytes := fun j t d ht hd n hn =>
      hs n (by
        simp only [List.map_cons, List.map_nil, DataW.weights, Tryz.underlying26]
        exact DataW.weights_mem_each ht hd n hn)
    obtain ⟨K, ks, hK, hT⟩ := open_texts f4 (wt 4 _ _ rfl rfl)
    simp only [List.cons.injEq, and_true] at hK
    subst hK
    have hsb : s.size ≤ 140737488351232 := by
      have := wt 2 _ _ rfl rfl s.data.toList.length (by rw [hys]; simp [DataW.weights])
      rw [size_list] at this
      exact this
    have hkr : -9223372036854775808 ≤ k ∧ k ≤ 9223372036854775807 := by simpa [Lit.wf, IntKind.min, IntKind.max, IntKind.signed, IntKind.bits] using wk
    have hmr : -9223372036854775808 ≤ m ∧ m ≤ 9223372036854775807 := by simpa [Lit.wf, IntKind.min, IntKind.max, IntKind.signed, IntKind.bits] using wm
    rcases DataW.trod_slice Tryz.underlying23 f3 with ⟨h0, _⟩ | ⟨a, len, cap, elems, rest, n', hn', hcs, hy3, hb, hl, hmx, hlen', hel, _⟩
    · simp only [List.cons.injEq, and_true] at h0
      subst h0
      exact ⟨_, _, _, _, _, .mk k m s [] ks, rfl, .mk k m s none 0 u4 [] ks 0 0 (fun _ _ => undef) ⟨hkr.1, hkr.2, hmr.1, hmr.2, hsb, by simp⟩ (fun h => absurd h (by simp)) (fun i j h => absurd h (by simp)) hT (fun i h => absurd h (by simp))⟩
    · simp only [List.cons.injEq, and_true] at hcs
      subst hcs
      have w3 := wt 3 _ _ rfl rfl
      rw [hy3] at w3
      simp only [DataW.weights, Tryz.underlying23] at w3
      have key : ∀ i, i < len → ∃ x : V, (∀ j, j < 5 → ∃ u, w.cell? ((a.add (i * 5)).add j) = some u) ∧ Holds (Old w.heap.size) w (.agg #[((w.cell? ((a.add (i * 5)).add 0)).getD undef), ((w.cell? ((a.add (i * 5)).add 1)).getD undef), ((w.cell? ((a.add (i * 5)).add 2)).getD undef), ((w.cell? ((a.add (i * 5)).add 3)).getD undef), ((w.cell? ((a.add (i * 5)).add 4)).getD undef)]) x := fun i hi => by
        have h1 := hel i hi
        rw [List.getElem?_eq_getElem (by omega), Option.bind_eq_some_iff] at h1
        obtain ⟨cs', h2, h3⟩ := h1
        obtain ⟨c0, c1, c2, c3, c4, x, rfl, hx⟩ := ih n' (by omega) cs' _ h3 (fun n hn => w3 n (by
          simp only [List.mem_cons, List.mem_append]
          exact .inr (.inl (weights_mem_all (List.mem_map.2 ⟨elems[i], List.getElem_mem _, rfl⟩) n hn))))
        rw [cells_five] at h2
        obtain ⟨_, _, hat⟩ := World.cells?_some h2
        refine ⟨x, fun j hj => ?_, ?_⟩
        · rw [hat j hj]
          match j, hj with
          | 0, _ => exact ⟨_, rfl⟩
          | 1, _ => exact ⟨_, rfl⟩
          | 2, _ => exact ⟨_, rfl⟩
          | 3, _ => exact ⟨_, rfl⟩
          | 4, _ => exact ⟨_, rfl⟩
        · rw [hat 0 (by omega), hat 1 (by omega), hat 2 (by omega), hat 3 (by omega), hat 4 (by omega)]
          exact hx
      obtain ⟨l, hll, hp⟩ := list_of len key
      have hbound : l.length * 80 ≤ 140737488351232 := by
        have := w3 ((elems.length + rest.length) * Tryz.prog.bytesOf 26) (by simp)
        rw [bytes_value, hlen'] at this
        have e : reachBytes = 140737488351232 := rfl
        have h2 : len * 80 ≤ (len + rest.length) * 80 := Nat.mul_le_mul_right _ (by omega)
        omega
      have hlit : ∀ i j, 0 < l.length → (a.add (i * 5)).add j = ⟨a.block, a.off + (i * 5 + j), none⟩ := fun i j h0 => by
        obtain ⟨u, hu⟩ := (hp 0 h0).1 0 (by omega)
        rw [Nat.zero_mul, add_zero', add_zero'] at hu
        rw [no_spot hu, Addr.add_lit, Addr.add_lit, Nat.add_assoc]
      refine ⟨_, _, _, _, _, .mk k m s l ks, rfl, ?_⟩
      rw [← hll]
      refine .mk k m s (some a) cap u4 l ks a.block a.off (fun i j => (w.cell? ((a.add (i * 5)).add j)).getD undef) ⟨hkr.1, hkr.2, hmr.1, hmr.2, hsb, hbound⟩ (fun h0 => ?_) (fun i j hi hj => ?_) hT (fun i hi => (hp i hi).2)
      · obtain ⟨u, hu⟩ := (hp 0 h0).1 0 (by omega)
        rw [Nat.zero_mul, add_zero', add_zero'] at hu
        exact ⟨congrArg some (no_spot hu), World.block_lt_of_cell? w a hu⟩
      · obtain ⟨u, hu⟩ := (hp i hi).1 j hj
        show w.cell? _ = some ((w.cell? ((a.add (i * 5)).add j)).getD undef)
        rw [hu, ← hlit i j (by omega), hu]
        rfl
end Go.Proofs.YtgfbednfiejlfaaGreatDoor.Val

/-
  A value that came in, as the row reads it, opened as a tree whose bulk is no greater than the reading's.
-/
namespace Go.Proofs.YtgfbednfiejlfaaGreatDoor.Val
open Go.RowKit Go.Proofs.YtgfbednfiejlfaaGreatDoor.Oct

variable {H : Type} {enc : TypeId × Value → H} {w : World} {base : Nat} {spare : Nat → Bool} {held : Bool}

/-- How much texts hold. -/
def keysB : List ByteArray → Nat
  | [] => 0
  | k :: ks => k.size + 1 + keysB ks
mutual
/-- How much a value holds. -/
def bulkV : V → Nat
  | .mk _ _ s l ks => s.size + keysB ks + bulkL l + 6
def bulkL : List V → Nat
  | [] => 0
  | x :: l => bulkV x + bulkL l
end

theorem keys_le : ∀ (ks : List ByteArray) (ds : List (DataW H)), ks.length = ds.length → (∀ i (h : i < ks.length) d, ds[i]? = some d → ks[i].size + 1 ≤ Rows.uptoBulk d) → keysB ks ≤ Rows.uptoBulkAll ds
  | [], [], _, _ => Nat.le_refl _
  | k :: ks, d :: ds, hl, h => by
    have h0 := h 0 (by simp) d rfl
    have h1 := keys_le ks ds (by simpa using hl) (fun i hi d hd => h (i + 1) (by simpa using hi) d (by simpa using hd))
    simp only [keysB, Rows.uptoBulkAll]
    simp at h0
    omega
theorem vals_le : ∀ (l : List V) (ds : List (DataW H)), l.length = ds.length → (∀ i (h : i < l.length) d, ds[i]? = some d → bulkV l[i] ≤ Rows.uptoBulk d) → bulkL l ≤ Rows.uptoBulkAll ds
  | [], [], _, _ => Nat.le_refl _
  | x :: l, d :: ds, hl, h => by
    have h0 := h 0 (by simp) d rfl
    have h1 := vals_le l ds (by simpa using hl) (fun i hi d hd => h (i + 1) (by simpa using hi) d (by simpa using hd))
    simp only [bulkL, Rows.uptoBulkAll]
    simp at h0
    omega

/-- A list of texts that came in. -/
theorem open_texts_b {fuel : Nat} {cs : List Value} {y : DataW H × List MemPlace} (h : DataW.trod enc Tryz.prog w base spare held fuel 24 cs = some y) (hs : ∀ n ∈ y.1.weights Tryz.prog 24, n ≤ reachBytes) :
    ∃ K ks, cs = [K] ∧ Texts (Old w.heap.size) w K ks ∧ keysB ks + 1 ≤ Rows.uptoBulk y.1 := by
  rcases DataW.trod_slice Tryz.underlying24 h with ⟨rfl, hy⟩ | ⟨a, len, cap, elems, rest, n, _, rfl, rfl, hb, hl, hm, hlen, hel, _⟩
  · exact ⟨_, [], rfl, ⟨none, 0, 0, 0, rfl, by simp, fun h => absurd h (by simp), fun i h => absurd h (by simp)⟩, by rw [hy]; simp [keysB, Rows.uptoBulk]⟩
  · have key : ∀ i, i < len → ∃ s : ByteArray, w.cell? (a.add i) = some (.string s) ∧ s.size ≤ 140737488351232 ∧ ∀ d, (elems.map (·.1))[i]? = some d → s.size + 1 ≤ Rows.uptoBulk d := fun i hi => by
      have h1 := hel i hi
      rw [List.getElem?_eq_getElem (by omega), Option.bind_eq_some_iff] at h1
      obtain ⟨cs', h2, h3⟩ := h1
      obtain ⟨s, rfl, hys⟩ := DataW.trod_string Tryz.underlying9 h3
      have hsz : s.size ≤ 140737488351232 := by
        have h9 := hs s.data.toList.length (by
          simp only [DataW.weights, Tryz.underlying24, List.mem_cons, List.mem_append]
          exact .inr (.inl (weights_mem_all (List.mem_map.2 ⟨elems[i], List.getElem_mem _, rfl⟩) _ (by rw [hys.1]; simp [DataW.weights]))))
        rw [size_list] at h9
        exact h9
      rw [cells_one9, Nat.mul_one] at h2
      obtain ⟨_, _, hat⟩ := World.cells?_some h2
      have h4 := hat 0 (by omega)
      rw [add_zero'] at h4
      refine ⟨s, h4, hsz, fun d hd => ?_⟩
      rw [List.getElem?_map, List.getElem?_eq_getElem (by omega), Option.map_some, Option.some.injEq] at hd
      rw [← hd, hys.1]
      show s.size + 1 ≤ s.data.toList.length + 1
      rw [size_list]
      exact Nat.le_refl _
    obtain ⟨ks, hk, hp⟩ := list_of len key
    have hbound : len * 16 ≤ 140737488351232 := by
      have := hs ((elems.length + rest.length) * Tryz.prog.bytesOf 9) (by simp [DataW.weights, Tryz.underlying24])
      rw [bytes_text, hlen] at this
      have e : reachBytes = 140737488351232 := rfl
      have h2 : len * 16 ≤ (len + rest.length) * 16 := Nat.mul_le_mul_right _ (by omega)
      omega
    refine ⟨_, ks, rfl, ⟨some a, cap, a.block, a.off, by rw [hk], ⟨by rw [hk]; exact hbound, fun s h => by obtain ⟨i, hi, rfl⟩ := List.getElem_of_mem h; exact (hp i hi).2.1⟩, fun h0 => ?_, fun i hi => ?_⟩, ?_⟩
    · have h1 := (hp 0 h0).1
      rw [add_zero'] at h1
      exact ⟨congrArg some (no_spot h1), World.block_lt_of_cell? w a h1⟩
    · have h0 := (hp 0 (by omega)).1
      rw [add_zero'] at h0
      have h1 := (hp i hi).1
      rw [no_spot h0, Addr.add_lit] at h1
      exact h1
    · have := keys_le ks (elems.map (·.1)) (by simp [hk, hlen]) (fun i hi d hd => (hp i hi).2.2 d hd)
      simp only [Rows.uptoBulk]
      omega

set_option maxRecDepth 100000 in
/-- A value that came in. -/
theorem open_bulk (fuel : Nat) : ∀ (cs : List Value) (y : DataW H × List MemPlace), DataW.trod enc Tryz.prog w base spare held fuel 26 cs = some y → (∀ n ∈ y.1.weights Tryz.prog 26, n ≤ reachBytes) →
    ∃ u0 u1 u2 u3 u4 x, cs = [u0, u1, u2, u3, u4] ∧ Holds (Old w.heap.size) w (.agg #[u0, u1, u2, u3, u4]) x ∧ bulkV x ≤ Rows.uptoBulk y.1 := by
  induction fuel using Nat.strongRecOn with
  | ind fuel ih =>
    intro cs y h hs
    obtain ⟨xs, n, hfu, rfl, hlen, hxl, hf⟩ := DataW.trod_struct Tryz.underlying26 h
    rw [cells_five] at hlen
    obtain ⟨u0, u1, u2, u3, u4, rfl⟩ : ∃ u0 u1 u2 u3 u4, cs = [u0, u1, u2, u3, u4] := by
      match cs, hlen with
      | [u0, u1, u2, u3, u4], _ => exact ⟨u0, u1, u2, u3, u4, rfl⟩
    obtain ⟨y0, y1, y2, y3, y4, rfl⟩ : ∃ y0 y1 y2 y3 y4, xs = [y0, y1, y2, y3, y4] := by
      match xs, (show xs.length = 5 from hxl) with
      | [y0, y1, y2, y3, y4], _ => exact ⟨y0, y1, y2, y3, y4, rfl⟩
    have f0 : DataW.trod enc Tryz.prog w base spare held n 3 [u0] = some y0 := by simpa [cells_one3] using hf 0 _ rfl
    have f1 : DataW.trod enc Tryz.prog w base spare held n 3 [u1] = some y1 := by simpa [cells_one3] using hf 1 _ rfl
    have f2 : DataW.trod enc Tryz.prog w base spare held n 9 [u2] = some y2 := by simpa [cells_one9] using hf 2 _ rfl
    have f3 : DataW.trod enc Tryz.prog w base spare held n 23 [u3] = some y3 := by simpa [cells_oneL] using hf 3 _ rfl
    have f4 : DataW.trod enc Tryz.prog w base spare held n 24 [u4] = some y4 := by simpa [cells_oneK] using hf 4 _ rfl
    obtain ⟨k, hk, hy0, wk⟩ := DataW.trod_int Tryz.underlying3 f0
    obtain ⟨m, hm, hy1, wm⟩ := DataW.trod_int Tryz.underlying3 f1
    obtain ⟨s, hst, hys, _⟩ := DataW.trod_string Tryz.underlying9 f2
    simp only [List.cons.injEq, and_true] at hk hm hst
    subst hk; subst hm; subst hst
    have wt : ∀ (j : Nat) (t : TypeId) (d : DataW H), ([3, 3, 9, 23, 24] : List TypeId)[j]? = some t → ([y0.1, y1.1, y2.1, y3.1, y4.1] : List (DataW H))[j]? = some d → ∀ n ∈ d.weights Tryz.prog t, n ≤ reachBytes := fun j t d ht hd n hn =>
      hs n (by
        simp only [List.map_cons, List.map_nil, DataW.weights, Tryz.underlying26]
        exact DataW.weights_mem_each ht hd n hn)
    obtain ⟨K, ks, hK, hT, hKb⟩ := open_texts_b f4 (wt 4 _ _ rfl rfl)
    simp only [List.cons.injEq, and_true] at hK
    subst hK
    have hsb : s.size ≤ 140737488351232 := by
      have := wt 2 _ _ rfl rfl s.data.toList.length (by rw [hys]; simp [DataW.weights])
      rw [size_list] at this
      exact this
    have hkr : -9223372036854775808 ≤ k ∧ k ≤ 9223372036854775807 := by simpa [Lit.wf, IntKind.min, IntKind.max, IntKind.signed, IntKind.bits] using wk
    have hmr : -9223372036854775808 ≤ m ∧ m ≤ 9223372036854775807 := by simpa [Lit.wf, IntKind.min, IntKind.max, IntKind.signed, IntKind.bits] using wm
    have hsum : Rows.uptoBulk (DataW.agg (H := H) [y0.1, y1.1, y2.1, y3.1, y4.1]) = s.size + Rows.uptoBulk y3.1 + Rows.uptoBulk y4.1 + 4 := by
      simp only [Rows.uptoBulk, Rows.uptoBulkAll, hy0, hy1, hys]
      rw [size_list]
      omega
    rcases DataW.trod_slice Tryz.underlying23 f3 with ⟨h0, hy3⟩ | ⟨a, len, cap, elems, rest, n', hn', hcs, hy3, hb, hl, hmx, hlen', hel, _⟩
    · simp only [List.cons.injEq, and_true] at h0
      subst h0
      exact ⟨_, _, _, _, _, .mk k m s [] ks, rfl, .mk k m s none 0 u4 [] ks 0 0 (fun _ _ => undef) ⟨hkr.1, hkr.2, hmr.1, hmr.2, hsb, by simp⟩ (fun h => absurd h (by simp)) (fun i j h => absurd h (by simp)) hT (fun i h => absurd h (by simp)), by
        show _ ≤ Rows.uptoBulk (DataW.agg [y0.1, y1.1, y2.1, y3.1, y4.1])
        rw [hsum, hy3]
        simp only [bulkV, bulkL, Rows.uptoBulk]
        omega⟩
    · simp only [List.cons.injEq, and_true] at hcs
      subst hcs
      have w3 := wt 3 _ _ rfl rfl
      rw [hy3] at w3
      simp only [DataW.weights, Tryz.underlying23] at w3
      have key : ∀ i, i < len → ∃ x : V, (∀ d, (elems.map (·.1))[i]? = some d → bulkV x ≤ Rows.uptoBulk d) ∧ (∀ j, j < 5 → ∃ u, w.cell? ((a.add (i * 5)).add j) = some u) ∧ Holds (Old w.heap.size) w (.agg #[((w.cell? ((a.add (i * 5)).add 0)).getD undef), ((w.cell? ((a.add (i * 5)).add 1)).getD undef), ((w.cell? ((a.add (i * 5)).add 2)).getD undef), ((w.cell? ((a.add (i * 5)).add 3)).getD undef), ((w.cell? ((a.add (i * 5)).add 4)).getD undef)]) x := fun i hi => by
        have h1 := hel i hi
        rw [List.getElem?_eq_getElem (by omega), Option.bind_eq_some_iff] at h1
        obtain ⟨cs', h2, h3⟩ := h1
        obtain ⟨c0, c1, c2, c3, c4, x, rfl, hx, hxb⟩ := ih n' (by omega) cs' _ h3 (fun n hn => w3 n (by
          simp only [List.mem_cons, List.mem_append]
          exact .inr (.inl (weights_mem_all (List.mem_map.2 ⟨elems[i], List.getElem_mem _, rfl⟩) n hn))))
        rw [cells_five] at h2
        obtain ⟨_, _, hat⟩ := World.cells?_some h2
        refine ⟨x, fun d hd => ?_, fun j hj => ?_, ?_⟩
        · rw [List.getElem?_map, List.getElem?_eq_getElem (by omega), Option.map_some, Option.some.injEq] at hd
          rw [← hd]
          exact hxb
        · rw [hat j hj]
          match j, hj with
          | 0, _ => exact ⟨_, rfl⟩
          | 1, _ => exact ⟨_, rfl⟩
          | 2, _ => exact ⟨_, rfl⟩
          | 3, _ => exact ⟨_, rfl⟩
          | 4, _ => exact ⟨_, rfl⟩
        · rw [hat 0 (by omega), hat 1 (by omega), hat 2 (by omega), hat 3 (by omega), hat 4 (by omega)]
          exact hx
      obtain ⟨l, hll, hp⟩ := list_of len key
      have hbound : l.length * 80 ≤ 140737488351232 := by
        have := w3 ((elems.length + rest.length) * Tryz.prog.bytesOf 26) (by simp)
        rw [bytes_value, hlen'] at this
        have e : reachBytes = 140737488351232 := rfl
        have h2 : len * 80 ≤ (len + rest.length) * 80 := Nat.mul_le_mul_right _ (by omega)
        omega
      have hlit : ∀ i j, 0 < l.length → (a.add (i * 5)).add j = ⟨a.block, a.off + (i * 5 + j), none⟩ := fun i j h0 => by
        obtain ⟨u, hu⟩ := (hp 0 h0).2.1 0 (by omega)
        rw [Nat.zero_mul, add_zero', add_zero'] at hu
        rw [no_spot hu, Addr.add_lit, Addr.add_lit, Nat.add_assoc]
      refine ⟨_, _, _, _, _, .mk k m s l ks, rfl, ?_, by
        have hL := vals_le l (elems.map (·.1)) (by simp [hll, hlen']) (fun i hi d hd => (hp i hi).1 d hd)
        show _ ≤ Rows.uptoBulk (DataW.agg [y0.1, y1.1, y2.1, y3.1, y4.1])
        rw [hsum, hy3]
        simp only [bulkV, Rows.uptoBulk]
        omega⟩
      rw [← hll]
      refine .mk k m s (some a) cap u4 l ks a.block a.off (fun i j => (w.cell? ((a.add (i * 5)).add j)).getD undef) ⟨hkr.1, hkr.2, hmr.1, hmr.2, hsb, hbound⟩ (fun h0 => ?_) (fun i j hi hj => ?_) hT (fun i hi => (hp i hi).2.2)
      · obtain ⟨u, hu⟩ := (hp 0 h0).2.1 0 (by omega)
        rw [Nat.zero_mul, add_zero', add_zero'] at hu
        exact ⟨congrArg some (no_spot hu), World.block_lt_of_cell? w a hu⟩
      · obtain ⟨u, hu⟩ := (hp i hi).2.1 j hj
        show w.cell? _ = some ((w.cell? ((a.add (i * 5)).add j)).getD undef)
        rw [hu, ← hlit i j (by omega), hu]
        rfl
end Go.Proofs.YtgfbednfiejlfaaGreatDoor.Val

/-
  Plain facts: how long a value's literal is at most.
-/
namespace Go.Proofs.YtgfbednfiejlfaaGreatDoor.Lit
open Go.Proofs.YtgfbednfiejlfaaGreatDoor.Oct Go.Proofs.YtgfbednfiejlfaaGreatDoor.Num Go.Proofs.YtgfbednfiejlfaaGreatDoor.Utf Go.Proofs.YtgfbednfiejlfaaGreatDoor.Val

theorem charL_le (c : Int) : (charL c).length ≤ 12 := by
  unfold charL
  split
  · simp
  · split
    · simp [escL_len]
    · simp [escL_len]
theorem insideL_le (cs : List Int) : (insideL cs).length ≤ 12 * cs.length := by
  induction cs with
  | nil => simp [insideL]
  | cons c cs ih =>
    have e : insideL (c :: cs) = charL c ++ insideL cs := rfl
    rw [e, List.length_append, List.length_cons]
    have := charL_le c
    omega
theorem quoteL_le (s : ByteArray) : (quoteL s).length ≤ 12 * s.size + 2 := by
  have h1 := insideL_le (chars s.data.toList)
  have h2 := chars_len s.data.toList
  rw [size_list] at h2
  simp [quoteL]
  omega
theorem printL_le (n : Int) (h0 : -9223372036854775808 ≤ n) (h1 : n ≤ 9223372036854775807) : (printL n).length ≤ 20 := by
  have := lowL_len (u := n.natAbs) (by omega)
  rw [← decL_len] at this
  unfold printL
  split
  · simp; omega
  · omega
theorem itemsL_le (r : Bool) : ∀ (ts : List (List UInt8)) (first : Bool) (ks : List ByteArray) (B : Nat), (∀ (l : List V), ts = l.map litL → (∀ x ∈ l, (litL x).length + 1 ≤ 12 * bulkV x) → ts.length = l.length → B = bulkL l → (itemsL r first ks ts).length ≤ 12 * B + 12 * keysB ks)
  | [], _, _, _, l, _, _, _, _ => by simp [itemsL]
  | t :: ts, first, ks, B, l, e, h, hlen, hB => by
    cases l with
    | nil => simp at hlen
    | cons x l =>
      simp only [List.map_cons, List.cons.injEq] at e
      have ih := itemsL_le r ts false ks.tail (bulkL l) l e.2 (fun y hy => h y (by simp [hy])) (by simpa using hlen) rfl
      have hx := h x (by simp)
      have hk : (keyHd r ks).length + 12 * keysB ks.tail ≤ 12 * keysB ks := by
        unfold keyHd
        cases r with
        | false => cases ks <;> simp [keysB]; omega
        | true =>
          cases ks with
          | nil => simp [keysB]
          | cons k ks =>
            have := quoteL_le k
            simp [keysB]
            omega
      rw [hB, itemsL, e.1]
      simp only [List.length_append, bulkL]
      have hc : (if first then ([] : List UInt8) else [44]).length ≤ 1 := by split <;> simp
      omega

/-- Its numbers are numbers of 64 bits. -/
inductive Nums : V → Prop where
  | mk (k n : Int) (s : ByteArray) (l : List V) (ks : List ByteArray) (hn : -9223372036854775808 ≤ n ∧ n ≤ 9223372036854775807) (hl : ∀ x ∈ l, Nums x) : Nums (.mk k n s l ks)
theorem holds_nums {C : Cond} {w : World} {v : Value} {x : V} (h : Holds C w v x) : Nums x := by
  induction h with
  | mk k n s p cap K l ks b off c hr hp hc hK hl ih =>
    refine .mk k n s l ks ⟨hr.2.2.1, hr.2.2.2.1⟩ (fun x hx => ?_)
    obtain ⟨i, hi, rfl⟩ := List.getElem_of_mem hx
    exact ih i hi

theorem lit_bulk {x : V} (h : Nums x) : (litL x).length + 1 ≤ 12 * bulkV x := by
  induction h with
  | mk k n s l ks hn hl ih =>
    have hi : ∀ r, (joinK r ks (litAll l) (litAll l).length).length ≤ 12 * bulkL l + 12 * keysB ks := fun r => by
      rw [join_front, litAll_eq]
      exact itemsL_le r _ true ks _ l rfl ih (by simp) rfl
    have h5 := hi false
    have h6 := hi true
    have hq := quoteL_le s
    have hp := printL_le n hn.1 hn.2
    simp only [bulkV]
    unfold litL
    split
    · simp; omega
    split
    · simp; omega
    split
    · simp; omega
    split
    · split
      · simp; omega
      · omega
    split
    · rw [brackL_len]; omega
    split
    · rw [brackL_len]; omega
    · omega
end Go.Proofs.YtgfbednfiejlfaaGreatDoor.Lit

/-
  Contract of the reader's text.
-/
namespace Go.Proofs.YtgfbednfiejlfaaGreatDoor.Rd
open Go.RowKit Go.Proofs.YtgfbednfiejlfaaGreatDoor.Oct Go.Proofs.YtgfbednfiejlfaaGreatDoor.Utf Go.Proofs.YtgfbednfiejlfaaGreatDoor.Build Go.Proofs.YtgfbednfiejlfaaGreatDoor.Val Go.Proofs.YtgfbednfiejlfaaGreatDoor.Lit Go.Proofs.YtgfbednfiejlfaaGreatDoor.Tl

theorem inside_len (f : Nat) : ∀ (l acc a t : List UInt8), insideF f l acc = some (a, t) → a.length + t.length ≤ acc.length + l.length ∧ t.length < l.length := by
  induction f with
  | zero => intro l acc a t h; cases h
  | succ f ih =>
    intro l acc a t h
    rw [insideF] at h
    split at h
    · rename_i hp
      have := hasPrefix_le hp
      simp only [List.length_cons, List.length_nil] at this
      injection h with h
      injection h with h1 h2
      rw [← h1, ← h2, List.length_drop]
      omega
    · cases hk : charP l with
      | none => rw [hk] at h; cases h
      | some q =>
        obtain ⟨b, u⟩ := q
        have h1 := char_len hk
        rw [hk] at h
        have h2 := ih u (acc ++ b) a t h
        rw [List.length_append] at h2
        omega
theorem inner_len {l a t : List UInt8} (h : innerP l = some (a, t)) : a.length + t.length ≤ l.length ∧ t.length < l.length := by
  unfold innerP at h
  split at h
  · have := inside_len _ _ _ _ _ h
    rw [List.length_drop] at this
    simp only [List.length_nil] at this
    omega
  · cases h

/-- What text reads. -/
def textP (l : List UInt8) : Option (List UInt8 × List UInt8) :=
  match innerP l with
  | none => none
  | some (a, t) => if quoteL (S a) = l.take (l.length - t.length) then some (a, t) else none

theorem enter_text1 : ∀ args w, (callFunc 95 args).run Tryz.prog w = .ok (.enter 95 args) w := enters_of Tryz.func95 (by kernel_rfl) rfl

set_option maxHeartbeats 4000000 in
set_option maxRecDepth 100000 in
theorem text_c (R : Nat) (l : List UInt8) (ov dv : Value) (w : World) (hl : l.length ≤ 1099511627776) (h : Rd R (S l) ov dv w) (hTT0 : ∀ W, Save R w W → Tabs W) :
    Calls Tryz.prog 80 #[.pointer (some ⟨R, 0, none⟩)] w (Reads R ov dv w (asS (textP l))) := by
  have hmf : ∀ (fn : Fn) (first cap : Array Value) (w : World), (Instr.makeFunc fn first cap).run Tryz.prog w = .ok (.func fn first cap) w := fun _ _ _ _ => rfl
  obtain ⟨w1, hw1⟩ : ∃ w1, w1 = w.alloc (.cells #[.pointer (some ⟨R, 0, none⟩)] 71) := ⟨_, rfl⟩
  have hb1 : Below w.heap.size w w1 := by rw [hw1]; exact (Below.refl _ w).alloc (Nat.le_refl _) _
  have hR1 := h.keep hb1
  have hRlt := h.lt
  have hbox : w1.heap[w.heap.size]? = some (.cells #[.pointer (some ⟨R, 0, none⟩)] 71 (0, 0)) := by rw [hw1]; exact heap_alloc_new w _
  have hcell : w1.cell? ⟨w.heap.size, 0, none⟩ = some (.pointer (some ⟨R, 0, none⟩)) := cell_of_row w1 w.heap.size 0 _ _ _ hbox
  have h1 := text1_c R w.heap.size l ov dv w1 (by omega) hR1 hcell (by omega)
  have hm := made_c 95 #[.pointer (some ⟨w.heap.size, 0, none⟩)] w1 _ _ enter_text1 h1 (fun W w' h1 h2 => h1.below hR1.lt h2)
  have c0 := hR1.cell0
  have HB := Lib.hid (And.intro hb1 (And.intro hcell hRlt))
  have hTW : Hid (∀ W, Save R w1 W → Tabs W) := fun W hs => hTT0 W ((Save.of hb1).trans hs)
  clear h1 hb1 hR1 h
  unfold textP
  cases hk : innerP l with
  | none =>
    rw [hk] at hm
    rw [hw1] at hm c0 hcell
    clear hw1 hbox
    go_enter Tryz.func80, Tryz.ntmps80
    go_wp2_with (first | (go_at_call 23; refine hm.mono ?_; rintro e2 W2 ⟨rfl, h2⟩))
    exact ⟨rfl, rfl, (Save.of ((Below.refl _ w).alloc (Nat.le_refl _) _)).trans h2.1⟩
  | some q =>
    obtain ⟨a, t⟩ := q
    have hlen := inner_len hk
    rw [hk] at hm
    have hql : (quoteL (S a)).length ≤ 70368744177664 := by have := quoteL_le (S a); rw [size_S] at this; omega
    have HQ := Lib.hid (fun W (hs : Save R w1 W) => quote_c (S a) (by rw [size_S]; omega) hql W (hTW.out W hs))
    have HK : Hid (∀ W2, After R ov dv w1 (some (a, t)) W2 → ∀ W, Below W2.heap.size W2 W → W.cell? ⟨w.heap.size, 0, none⟩ = some (.pointer (some ⟨R, 0, none⟩)) ∧ W.cell? ⟨R, 0, none⟩ = some (.string (S t)) ∧ Save R w1 W) := fun W2 h2 W hb => by
      have hs := h2.1.trans (Save.of hb)
      have hr := (h2.2 a t rfl).keep hb
      refine ⟨?_, hr.cell0, hs⟩
      rw [← HB.out.2.1]
      have hlt : w.heap.size < w1.heap.size := (Array.getElem?_eq_some_iff.1 hbox).1
      simp [World.cell?, hs.block w.heap.size hlt (by have := HB.out.2.2; omega)]
    rw [hw1] at HK HQ
    rw [hw1] at hm c0 hcell
    clear hw1 hbox
    obtain ⟨n, hn⟩ : ∃ n, n = l.length - t.length := ⟨_, rfl⟩
    have hn1 : (n : Int) ≤ ((S l).size : Int) := by rw [size_S]; omega
    have hn0 : (0 : Int) ≤ (n : Int) := by omega
    have hnw : IntKind.i64.wrap (n : Int) = n := by rw [IntKind.wrap_i64]; omega
    have hsub : ((S l).size : Int) - ((S t).size : Int) = (n : Int) := by rw [size_S, size_S]; omega
    have hcut : (S l).extract 0 n = S (l.take n) := cut_front _ _
    simp only
    rw [← hn]
    by_cases hE : quoteL (S a) = l.take n
    · rw [if_pos hE]
      have hbe : ((S (quoteL (S a))).toList == ((S l).extract 0 n).toList) = true := by rw [hcut, hE]; simp
      generalize S (quoteL (S a)) = Q0 at HQ hbe
      clear hcut hE hn hlen hql
      generalize S l = L0 at hm c0 hn1 hsub hbe
      generalize S t = T0 at HK hsub
      go_enter Tryz.func80, Tryz.ntmps80
      go_wp2_with (first | (go_at_call 23; refine hm.mono ?_; rintro e2 W2 ⟨rfl, h2⟩; have H2 := Lib.hid h2; clear h2))
      obtain ⟨a0, a1, a2⟩ := HK.out W2 H2.out W2.drew (Below.refl _ _).drew
      have HA := Lib.hid a2
      clear a2
      go_region_held3 (fun w' => w'.cell? ⟨w.heap.size, 0, none⟩ = some (.pointer (some ⟨R, 0, none⟩)) ∧ w'.cell? ⟨R, 0, none⟩ = some (.string T0))
        (first | with_reducible exact ⟨a0, a1⟩ | with_reducible exact ⟨b0, b1⟩)
        (first
          | (go_at_call 15; refine (HQ.out _ HA.out).mono ?_; rintro e3 W3 ⟨rfl, h3⟩; obtain ⟨b0, b1, b2⟩ := HK.out W2 H2.out W3 ((Below.refl _ W2).drew.trans h3); have H3 := Lib.hid h3; clear h3 b2)
          | (go_at_call 30; refine (demand_yes _ _).mono ?_; rintro e4 W4 ⟨rfl, rfl⟩))
      go_wp2_with fail
      go_ret
      exact ⟨rfl, (H2.out.2 a t rfl).keep ((Below.refl _ W2).drew.trans H3.out), (Save.of ((Below.refl _ w).alloc (Nat.le_refl _) _)).trans (H2.out.1.trans (Save.of ((Below.refl _ W2).drew.trans H3.out)))⟩
    · rw [if_neg hE]
      have hbe : ((S (quoteL (S a))).toList == ((S l).extract 0 n).toList) = false := by rw [hcut]; simpa using hE
      generalize S (quoteL (S a)) = Q0 at HQ hbe
      clear hcut hE hn hlen hql
      generalize S l = L0 at hm c0 hn1 hsub hbe
      generalize S t = T0 at HK hsub
      go_enter Tryz.func80, Tryz.ntmps80
      go_wp2_with (first | (go_at_call 23; refine hm.mono ?_; rintro e2 W2 ⟨rfl, h2⟩; have H2 := Lib.hid h2; clear h2))
      obtain ⟨a0, a1, a2⟩ := HK.out W2 H2.out W2.drew (Below.refl _ _).drew
      have HA := Lib.hid a2
      clear a2
      refine wp_region_held_drew (S := fun w' => w'.cell? ⟨w.heap.size, 0, none⟩ = some (.pointer (some ⟨R, 0, none⟩)) ∧ w'.cell? ⟨R, 0, none⟩ = some (.string T0)) (by kernel_rfl) ⟨a0, a1⟩ (fun hHeld => ?_)
      refine wpAnyH_take (i := 0) (v := ?_) rfl (by kernel_rfl) (by kernel_rfl) (by kernel_rfl) (fun _ _ _ h => h) (Or.inl ⟨by rfl, ?_⟩) (by assumption) ?_
      rotate_left
      · intro w hSw
        try dsimp only at hSw
        go_simp
        try with_reducible rfl
      (try simp only [Act.put]); (try simp only [List.setIfInBounds_toArray]); (try simp only [List.set_cons_succ]); (try simp only [List.set_cons_zero])
      refine wpAnyH_take (i := 2) (v := ?_) rfl (by kernel_rfl) (by kernel_rfl) (by kernel_rfl) (fun _ _ _ h => h) (Or.inl ⟨by rfl, ?_⟩) (by assumption) ?_
      rotate_left
      · intro w hSw
        try dsimp only at hSw
        go_simp
        try with_reducible rfl
      (try simp only [Act.put]); (try simp only [List.setIfInBounds_toArray]); (try simp only [List.set_cons_succ]); (try simp only [List.set_cons_zero])
      refine wpAnyH_take (i := 3) (v := ?_) rfl (by kernel_rfl) (by kernel_rfl) (by kernel_rfl) (fun _ _ _ h => h) (Or.inl ⟨by rfl, ?_⟩) (by assumption) ?_
      rotate_left
      · intro w hSw
        try dsimp only at hSw
        go_simp
        try with_reducible rfl
      (try simp only [Act.put]); (try simp only [List.setIfInBounds_toArray]); (try simp only [List.set_cons_succ]); (try simp only [List.set_cons_zero])
      refine wpAnyH_take (i := 4) (v := ?_) rfl (by kernel_rfl) (by kernel_rfl) (by kernel_rfl) (fun _ _ _ h => h) (Or.inl ⟨by rfl, ?_⟩) (by assumption) ?_
      rotate_left
      · intro w hSw
        try dsimp only at hSw
        go_simp
        try with_reducible rfl
      (try simp only [Act.put]); (try simp only [List.setIfInBounds_toArray]); (try simp only [List.set_cons_succ]); (try simp only [List.set_cons_zero])
      refine wpAnyH_take (i := 5) (v := ?_) rfl (by kernel_rfl) (by kernel_rfl) (by kernel_rfl) (fun _ _ _ h => h) (Or.inl ⟨by rfl, ?_⟩) (by assumption) ?_
      rotate_left
      · intro w hSw
        try dsimp only at hSw
        go_simp
        try with_reducible rfl
      (try simp only [Act.put]); (try simp only [List.setIfInBounds_toArray]); (try simp only [List.set_cons_succ]); (try simp only [List.set_cons_zero])
      refine wpAnyH_take (i := 6) (v := ?_) rfl (by kernel_rfl) (by kernel_rfl) (by kernel_rfl) (fun _ _ _ h => h) (Or.inl ⟨by rfl, ?_⟩) (by assumption) ?_
      rotate_left
      · intro w hSw
        try dsimp only at hSw
        go_simp
        try with_reducible rfl
      (try simp only [Act.put]); (try simp only [List.setIfInBounds_toArray]); (try simp only [List.set_cons_succ]); (try simp only [List.set_cons_zero])
      refine wpAnyH_take (i := 7) (v := ?_) rfl (by kernel_rfl) (by kernel_rfl) (by kernel_rfl) (fun _ _ _ h => h) (Or.inl ⟨by rfl, ?_⟩) (by assumption) ?_
      rotate_left
      · intro w hSw
        try dsimp only at hSw
        go_simp
        try with_reducible rfl
      (try simp only [Act.put]); (try simp only [List.setIfInBounds_toArray]); (try simp only [List.set_cons_succ]); (try simp only [List.set_cons_zero])
      refine wpAnyH_take (i := 8) (v := ?_) rfl (by kernel_rfl) (by kernel_rfl) (by kernel_rfl) (fun _ _ _ h => h) (Or.inl ⟨by rfl, ?_⟩) (by assumption) ?_
      rotate_left
      · intro w hSw
        try dsimp only at hSw
        go_simp
        try with_reducible rfl
      (try simp only [Act.put]); (try simp only [List.setIfInBounds_toArray]); (try simp only [List.set_cons_succ]); (try simp only [List.set_cons_zero])
      refine wpAnyH_take (i := 9) (v := ?_) rfl (by kernel_rfl) (by kernel_rfl) (by kernel_rfl) (fun _ _ _ h => h) (Or.inl ⟨by rfl, ?_⟩) (by assumption) ?_
      rotate_left
      · intro w hSw
        try dsimp only at hSw
        go_simp
        try with_reducible rfl
      (try simp only [Act.put]); (try simp only [List.setIfInBounds_toArray]); (try simp only [List.set_cons_succ]); (try simp only [List.set_cons_zero])
      refine wpAnyH_take (i := 10) (v := ?_) rfl (by kernel_rfl) (by kernel_rfl) (by kernel_rfl) (fun _ _ _ h => h) (Or.inl ⟨by rfl, ?_⟩) (by assumption) ?_
      rotate_left
      · intro w hSw
        try dsimp only at hSw
        go_simp
        try with_reducible rfl
      (try simp only [Act.put]); (try simp only [List.setIfInBounds_toArray]); (try simp only [List.set_cons_succ]); (try simp only [List.set_cons_zero])
      refine wpAnyH_take (i := 11) (v := ?_) rfl (by kernel_rfl) (by kernel_rfl) (by kernel_rfl) (fun _ _ _ h => h) (Or.inl ⟨by rfl, ?_⟩) (by assumption) ?_
      rotate_left
      · intro w hSw
        try dsimp only at hSw
        go_simp
        try with_reducible rfl
      (try simp only [Act.put]); (try simp only [List.setIfInBounds_toArray]); (try simp only [List.set_cons_succ]); (try simp only [List.set_cons_zero])
      refine wpAnyH_ready (rs := [1]) (by kernel_rfl) (by simp) ?_
      refine AllReadyH.cons rfl (fun K hK => ?_) AllReadyH.nil
      go_simp
      refine (HQ.out _ HA.out).mono ?_
      rintro e3 W3 ⟨rfl, h3⟩
      obtain ⟨b0, b1, b2⟩ := HK.out W2 H2.out W3 ((Below.refl _ W2).drew.trans h3)
      refine hK.out _ _ ⟨b0, b1⟩ (fun hHeld2 => ?_)
      clear hK K hHeld
      (try simp only [Act.put]); (try simp only [List.setIfInBounds_toArray]); (try simp only [List.set_cons_succ]); (try simp only [List.set_cons_zero])
      refine wpAnyH_take (i := 12) (v := ?_) rfl (by kernel_rfl) (by kernel_rfl) (by kernel_rfl) (fun _ _ _ h => h) (Or.inl ⟨by rfl, ?_⟩) (by assumption) ?_
      rotate_left
      · intro w hSw
        try dsimp only at hSw
        go_simp
        try with_reducible rfl
      (try simp only [Act.put]); (try simp only [List.setIfInBounds_toArray]); (try simp only [List.set_cons_succ]); (try simp only [List.set_cons_zero])
      refine wpAnyH_ready (rs := [13]) (by kernel_rfl) (by simp) ?_
      refine AllReadyH.cons rfl (fun K hK => ?_) AllReadyH.nil
      go_simp
      refine (demand_no _ _).mono ?_
      rintro e4 W4 ⟨rfl, rfl⟩
      exact ⟨rfl, rfl, (Save.of ((Below.refl _ w).alloc (Nat.le_refl _) _)).trans (H2.out.1.trans (Save.of ((Below.refl _ W2).drew.trans h3)))⟩
end Go.Proofs.YtgfbednfiejlfaaGreatDoor.Rd

/-
  Contracts of literal's tellInt, of tell at a number, and of Literal at a number.
-/
namespace Go.Proofs.YtgfbednfiejlfaaGreatDoor.Tl
open Go.RowKit Go.Proofs.YtgfbednfiejlfaaGreatDoor.Oct Go.Proofs.YtgfbednfiejlfaaGreatDoor.Num Go.Proofs.YtgfbednfiejlfaaGreatDoor.Build Go.Proofs.YtgfbednfiejlfaaGreatDoor.Val Go.Proofs.YtgfbednfiejlfaaGreatDoor.Lit

/-- The world in which tell begins: the box of what it is handed, the box of where it is put. -/
abbrev tellStart (W : World) (u0 u1 u2 u3 u4 : Value) (b : Nat) : World :=
  (W.alloc (.cells #[u0, u1, u2, u3, u4] 26)).alloc (.cells #[putG b] 46)

theorem tell_blocks {W X : World} {u0 u1 u2 u3 u4 : Value} {b : Nat} (h : Below (tellStart W u0 u1 u2 u3 u4 b).heap.size (tellStart W u0 u1 u2 u3 u4 b) X) :
    X.heap[W.heap.size]? = some (.cells #[u0, u1, u2, u3, u4] 26 (0, 0)) ∧
    X.heap[W.heap.size + 1]? = some (.cells #[putG b] 46 (0, 0)) ∧ Below W.heap.size W X ∧ W.heap.size + 2 ≤ X.heap.size := by
  have z : (tellStart W u0 u1 u2 u3 u4 b).heap.size = W.heap.size + 2 := by simp
  refine ⟨?_, ?_, ?_, by have := h.size; omega⟩
  · rw [h.block _ (by omega), Go.heap_alloc_old _ _ (by simp), heap_alloc_new]
  · rw [h.block _ (by omega)]
    have := heap_alloc_new (W.alloc (.cells #[u0, u1, u2, u3, u4] 26)) (.cells #[putG b] 46)
    rw [World.size_alloc] at this
    exact this
  · exact (((Below.refl _ W).alloc (Nat.le_refl _) _).alloc (by simp) _).trans (h.mono (by omega))

/-- The two boxes stay. -/
theorem tell_kept {W X Y : World} {u0 u1 u2 u3 u4 : Value} {b : Nat} (hb : b < W.heap.size) (hX : X.heap[W.heap.size]? = some (.cells #[u0, u1, u2, u3, u4] 26 (0, 0)) ∧ X.heap[W.heap.size + 1]? = some (.cells #[putG b] 46 (0, 0))) (h : Others b X Y) :
    Y.heap[W.heap.size]? = some (.cells #[u0, u1, u2, u3, u4] 26 (0, 0)) ∧ Y.heap[W.heap.size + 1]? = some (.cells #[putG b] 46 (0, 0)) :=
  ⟨h _ _ hX.1 (by simp; omega) (fun c fz e => by cases e), h _ _ hX.2 (by simp; omega) (fun c fz e => by cases e)⟩

theorem two' {X : World} {B : Nat} {u0 u1 u2 u3 u4 : Value} {b : Nat} (h : X.heap[B]? = some (.cells #[u0, u1, u2, u3, u4] 26 (0, 0)) ∧ X.heap[B + 1]? = some (.cells #[putG b] 46 (0, 0))) :
    X.cell? ⟨B, 0, none⟩ = some u0 ∧ X.cell? ⟨B, 1, none⟩ = some u1 ∧ X.cell? ⟨B, 2, none⟩ = some u2 ∧ X.cell? ⟨B, 3, none⟩ = some u3 ∧ X.cell? ⟨B, 4, none⟩ = some u4 ∧ X.cell? ⟨B + 1, 0, none⟩ = some (putG b) :=
  ⟨cell_of_row X B 0 _ _ _ h.1, cell_of_row X B 1 _ _ _ h.1, cell_of_row X B 2 _ _ _ h.1, cell_of_row X B 3 _ _ _ h.1, cell_of_row X B 4 _ _ _ h.1, cell_of_row X (B + 1) 0 _ _ _ h.2⟩

/-- One put behind the start. -/
theorem put_from {B b : Nat} {l : List UInt8} {W X Y : World} {e : Ending} {u0 u1 u2 u3 u4 : Value} (hBW : B ≤ W.heap.size) (hX : Below (tellStart W u0 u1 u2 u3 u4 b).heap.size (tellStart W u0 u1 u2 u3 u4 b) X) (h : Put B b l X e Y) : Put B b l W e Y := by
  have b0 := (tell_blocks hX).2.2.1
  exact ⟨h.1, h.2.1, (b0.mono hBW).trans h.2.2.1, ((Lib.OthersKept.refl _ _ W).below b0).trans h.2.2.2⟩


/-- A number as a literal. -/
def litI (n : Int) : List UInt8 := if n < 0 then 32 :: printL n else printL n

set_option maxHeartbeats 2000000 in
set_option maxRecDepth 100000 in
theorem tellInt_c (B b : Nat) (l : List UInt8) (n : Int) (h0 : -9223372036854775808 ≤ n) (h1 : n ≤ 9223372036854775807) (w : World) (h : Has B b l w) (hlen : l.length + (litI n).length ≤ 140737488355328) (hBw : B ≤ w.heap.size) :
    Calls Tryz.prog 36 #[.int .i64 n, putG b] w (Put B b (l ++ litI n) w) := by
  have e9 := enter_put
  have HB := Lib.hid hBw
  have HP := Lib.hid (fun w => print_c n w h0 h1)
  by_cases hn : n < 0
  · have e0 : litI n = 32 :: printL n := by unfold litI; rw [if_pos hn]
    rw [e0] at hlen ⊢
    simp only [List.length_cons] at hlen
    have hc := put_c B b l [32] w h (by simp; omega) hBw
    have HC := Lib.hid (fun w1 (h1 : Has B b (l ++ [32]) w1) (hB : B ≤ w1.heap.size) => put_c B b (l ++ [32]) (printL n) w1 h1 (by simp only [List.length_append, List.length_cons, List.length_nil]; omega) hB)
    have e3 : Hid (l ++ 32 :: printL n = (l ++ [32]) ++ printL n) := by show _ = _; simp
    clear h hBw e0 hlen
    go_enter Tryz.func36, Tryz.ntmps36
    go_wp2_with (first
      | (go_at_call 52; refine (HP.out _).mono ?_; rintro e w2 ⟨rfl, h2⟩; have H2 := Lib.hid h2; clear h2; have hc2 := HC.out w2 (has_below H1.out.1 H2.out) (Nat.le_trans HB.out (Nat.le_trans H1.out.2.1.size H2.out.size)))
      | (go_at_fn 33; refine hc2.mono ?_; rintro e w3 h3; obtain rfl := h3.1)
      | (go_at_fn 33; refine hc.mono ?_; rintro e w1 ⟨rfl, h1⟩; have H1 := Lib.hid h1; clear h1))
    go_end0
    rw [e3.out]
    exact ⟨rfl, h3.2.1, (H1.out.2.1.trans (H2.out.mono (Nat.le_trans HB.out H1.out.2.1.size))).trans h3.2.2.1, (H1.out.2.2.below H2.out).trans h3.2.2.2⟩
  · have e0 : litI n = printL n := by unfold litI; rw [if_neg hn]
    rw [e0] at hlen ⊢
    have HC := Lib.hid (fun w1 (h1 : Has B b l w1) (hB : B ≤ w1.heap.size) => put_c B b l (printL n) w1 h1 hlen hB)
    have H0 := Lib.hid h
    clear h hBw e0 hlen
    go_enter Tryz.func36, Tryz.ntmps36
    go_wp2_with (first
      | (go_at_call 52; refine (HP.out _).mono ?_; rintro e w2 ⟨rfl, h2⟩; have H2 := Lib.hid h2; clear h2; have hc2 := HC.out w2 (has_below H0.out H2.out) (Nat.le_trans HB.out H2.out.size))
      | (go_at_fn 33; refine hc2.mono ?_; rintro e w3 h3; obtain rfl := h3.1))
    go_end0
    exact ⟨rfl, h3.2.1, (H2.out.mono HB.out).trans h3.2.2.1, ((Lib.OthersKept.refl _ _ _).below H2.out).trans h3.2.2.2⟩

set_option maxHeartbeats 2000000 in
set_option maxRecDepth 100000 in
theorem tell_int (B b : Nat) (l : List UInt8) (n : Int) (u2 u3 u4 : Value) (hone : u2.oneCell' = true ∧ u3.oneCell' = true ∧ u4.oneCell' = true) (W : World) (h : Has B b l W) (hlen : l.length + (litI n).length ≤ 140737488355328) (hBW : B ≤ W.heap.size) (h0 : -9223372036854775808 ≤ n) (h1 : n ≤ 9223372036854775807) :
    Calls Tryz.prog 25 #[.agg #[.int .i64 3, .int .i64 n, u2, u3, u4], putG b] W (Put B b (l ++ litI n) W) := by
  have hX : Below (tellStart W (.int .i64 3) (.int .i64 n) u2 u3 u4 b).heap.size (tellStart W (.int .i64 3) (.int .i64 n) u2 u3 u4 b) (tellStart W (.int .i64 3) (.int .i64 n) u2 u3 u4 b) := Below.refl _ _
  have hc := tellInt_c B b l n h0 h1 _ (has_below h (tell_blocks hX).2.2.1) hlen (by have := (tell_blocks hX).2.2.2; omega)
  have HF := Lib.hid (fun e Y => put_from (e := e) (Y := Y) (l := l ++ litI n) hBW hX)
  obtain ⟨o1, o2, o3⟩ := hone
  clear h hX
  go_enter Tryz.func25, Tryz.ntmps25
  go_wp2_with (go_at_call 36; refine hc.mono ?_; rintro e Y hP; obtain rfl := hP.1)
  go_end0
  exact HF.out _ _ hP
end Go.Proofs.YtgfbednfiejlfaaGreatDoor.Tl

/-
  Contract of literal.Literal, out of tell's; at a number.
-/
namespace Go.Proofs.YtgfbednfiejlfaaGreatDoor.Tl
open Go.RowKit Go.Proofs.YtgfbednfiejlfaaGreatDoor.Oct Go.Proofs.YtgfbednfiejlfaaGreatDoor.Num Go.Proofs.YtgfbednfiejlfaaGreatDoor.Build Go.Proofs.YtgfbednfiejlfaaGreatDoor.Val Go.Proofs.YtgfbednfiejlfaaGreatDoor.Lit

theorem enter_literal1 : ∀ args w, (callFunc 24 args).run Tryz.prog w = .ok (.enter 24 args) w := enters_of Tryz.func24 (by kernel_rfl) rfl

theorem five_cells {X : World} {q : Nat} {u0 u1 u2 u3 u4 : Value} (h : X.heap[q]? = some (.cells #[u0, u1, u2, u3, u4] 26 (0, 0))) :
    X.cell? ⟨q, 0, none⟩ = some u0 ∧ X.cell? ⟨q, 1, none⟩ = some u1 ∧ X.cell? ⟨q, 2, none⟩ = some u2 ∧ X.cell? ⟨q, 3, none⟩ = some u3 ∧ X.cell? ⟨q, 4, none⟩ = some u4 :=
  ⟨cell_of_row X q 0 _ _ _ h, cell_of_row X q 1 _ _ _ h, cell_of_row X q 2 _ _ _ h, cell_of_row X q 3 _ _ _ h, cell_of_row X q 4 _ _ _ h⟩

theorem literal1_c (q : Nat) (u0 u1 u2 u3 u4 : Value) (t : List UInt8) (w : World) (hq : w.heap[q]? = some (.cells #[u0, u1, u2, u3, u4] 26 (0, 0)))
    (ht : Calls Tryz.prog 25 #[.agg #[u0, u1, u2, u3, u4], putG w.heap.size] (fresh w) (Put w.heap.size w.heap.size t (fresh w))) :
    Calls Tryz.prog 24 #[putG w.heap.size, .pointer (some ⟨q, 0, none⟩)] (fresh w) (Tells w.heap.size (some t) (fun W => Below w.heap.size w W)) := by
  have hb0 : Below w.heap.size w (fresh w) := (Below.refl _ w).alloc (Nat.le_refl _) _
  have hlt := (Array.getElem?_eq_some_iff.1 hq).1
  obtain ⟨c0, c1, c2, c3, c4⟩ := five_cells (X := fresh w) ((hb0.block q hlt).trans hq)
  have HB0 := Lib.hid hb0
  clear hb0 hq
  go_enter Tryz.func24, Tryz.ntmps24
  go_wp2_with (go_at_call 25; refine ht.mono ?_; rintro e W1 h1; obtain rfl := h1.1)
  go_end0
  exact ⟨rfl, h1.2.1, HB0.out.trans h1.2.2.1⟩

theorem literal_of (u0 u1 u2 u3 u4 : Value) (hone : ∀ u ∈ [u0, u1, u2, u3, u4], u.oneCell' = true) (t : List UInt8) (w : World)
    (ht : ∀ w1, w1.heap[w.heap.size]? = some (.cells #[u0, u1, u2, u3, u4] 26 (0, 0)) → w1.heap.size = w.heap.size + 1 → Below w.heap.size w w1 →
      Calls Tryz.prog 25 #[.agg #[u0, u1, u2, u3, u4], putG w1.heap.size] (fresh w1) (Put w1.heap.size w1.heap.size t (fresh w1))) :
    Calls Tryz.prog 12 #[.agg #[u0, u1, u2, u3, u4]] w fun e w' => e = .returned (.string (S t)) ∧ Below w.heap.size w w' := by
  have hmf : ∀ (fn : Fn) (first cap : Array Value) (w : World), (Instr.makeFunc fn first cap).run Tryz.prog w = .ok (.func fn first cap) w := fun _ _ _ _ => rfl
  obtain ⟨w1, hw1⟩ : ∃ w1, w1 = w.alloc (.cells #[u0, u1, u2, u3, u4] 26) := ⟨_, rfl⟩
  have hb1 : Below w.heap.size w w1 := by rw [hw1]; exact (Below.refl _ w).alloc (Nat.le_refl _) _
  have hcell : w1.heap[w.heap.size]? = some (.cells #[u0, u1, u2, u3, u4] 26 (0, 0)) := by rw [hw1]; exact heap_alloc_new w _
  have h1 := literal1_c w.heap.size u0 u1 u2 u3 u4 t w1 hcell (ht w1 hcell (by rw [hw1]; simp) hb1)
  have hm := made_c 24 #[.pointer (some ⟨w.heap.size, 0, none⟩)] w1 _ _ enter_literal1 h1 (fun W w' h1 h2 => h1.trans h2)
  rw [hw1] at hm
  have HB1 := Lib.hid hb1
  rw [hw1] at HB1
  obtain ⟨o0, o1, o2, o3, o4⟩ : u0.oneCell' = true ∧ u1.oneCell' = true ∧ u2.oneCell' = true ∧ u3.oneCell' = true ∧ u4.oneCell' = true := by
    refine ⟨hone _ (by simp), hone _ (by simp), hone _ (by simp), hone _ (by simp), hone _ (by simp)⟩
  clear h1 hcell hb1 hw1 ht hone
  go_enter Tryz.func12, Tryz.ntmps12
  go_wp2_with (go_at_call 23; refine hm.mono ?_; rintro e W2 ⟨rfl, h2⟩)
  go_ret
  exact ⟨rfl, HB1.out.trans (h2.mono HB1.out.size)⟩

theorem literal_int (n : Int) (h0 : -9223372036854775808 ≤ n) (h1 : n ≤ 9223372036854775807) (w : World) :
    Calls Tryz.prog 12 #[.agg #[.int .i64 3, .int .i64 n, .string ⟨#[]⟩, .slice none 0 0, .slice none 0 0]] w fun e w' => e = .returned (.string (S (litI n))) ∧ Below w.heap.size w w' := by
  refine literal_of _ _ _ _ _ (by intro u hu; simp at hu; rcases hu with rfl | rfl | rfl | rfl | rfl <;> rfl) _ w (fun w1 hc hz hb => ?_)
  have hl : (litI n).length ≤ 140737488355328 := by
    have := printL_le n h0 h1
    unfold litI
    split
    · rw [List.length_cons]; omega
    · omega
  have := tell_int w1.heap.size w1.heap.size [] n (.string ⟨#[]⟩) (.slice none 0 0) (.slice none 0 0) ⟨rfl, rfl, rfl⟩ (fresh w1) (fresh_has w1) (by simpa using hl) (by simp) h0 h1
  rw [List.nil_append] at this
  exact this
end Go.Proofs.YtgfbednfiejlfaaGreatDoor.Tl

/-
  Contracts of the leaves of package number: each is called at any numbers of its kinds and changes nothing.
-/
namespace Go.Proofs.YtgfbednfiejlfaaGreatDoor.Num
open Go.RowKit Go.Proofs.YtgfbednfiejlfaaGreatDoor.Oct

/-- A sum and the error's number. -/
def addL (a b : Int) : Int × Nat := if -9223372036854775808 ≤ a + b ∧ a + b ≤ 9223372036854775807 then (a + b, 0) else (0, 4)
def cmpL (a b : Int) : Int := if a < b then -1 else if b < a then 1 else 0
theorem compareInt_eq (a b : Int) : Lib.compareInt a b = cmpL a b := by
  unfold Lib.compareInt cmpL
  repeat' split
  all_goals omega

theorem add_wrap (a b : Int) (a0 : -9223372036854775808 ≤ a) (a1 : a ≤ 9223372036854775807) (b0 : -9223372036854775808 ≤ b) (b1 : b ≤ 9223372036854775807) :
    (-9223372036854775808 ≤ a + b ∧ a + b ≤ 9223372036854775807 → IntKind.i64.wrap (a + b) = a + b ∧ (decide (a + b < a) != decide (b < 0)) = false) ∧
    (¬ (-9223372036854775808 ≤ a + b ∧ a + b ≤ 9223372036854775807) → (decide (wrap64 (a + b) < a) == decide (b < 0)) = false) := by
  rw [IntKind.wrap_i64]
  unfold wrap64
  refine ⟨fun h => ⟨by omega, ?_⟩, fun h => ?_⟩
  · rw [show decide (a + b < a) = decide (b < 0) by rw [decide_eq_decide]; omega]; simp
  · by_cases hb : b < 0
    · rw [decide_eq_true hb, decide_eq_false (by omega)]; rfl
    · rw [decide_eq_false hb, decide_eq_true (by omega)]; rfl

theorem ret2 {k k' : IntKind} {a b c d : Int} (h : a = b) (h' : c = d) : Ending.returned (.tuple #[.int k a, .int k' c]) = .returned (.tuple #[.int k b, .int k' d]) := by rw [h, h']

theorem signed_c (u : Nat) (below : Bool) (w : World) (hu : u < 18446744073709551616) :
    Calls Tryz.prog 103 #[.int .u64 (u : Int), .bool below] w fun e w' => e = .returned (.tuple #[.int .i64 (signedL u below).1, .int .i64 ((signedL u below).2 : Int)]) ∧ w = w' := by
  cases below with
  | true =>
    by_cases h : u ≤ 9223372036854775808
    · have F : Hid (signedL u true = (-(u : Int), 0)) := by show _ = _; unfold signedL; rw [if_pos rfl, if_pos h]
      go_enter Tryz.func103, Tryz.ntmps103
      go_wp2
      go_ret2
      refine ⟨?_, rfl⟩
      rw [F.out]
      exact ret2 (by unfold wrap64; rw [IntKind.wrap_u64]; show _ = -(u : Int); omega) rfl
    · have F : Hid (signedL u true = (0, 4)) := by show _ = _; unfold signedL; rw [if_pos rfl, if_neg h]
      go_enter Tryz.func103, Tryz.ntmps103
      go_wp2
      go_ret2
      exact ⟨by rw [F.out]; rfl, rfl⟩
  | false =>
    by_cases h : u ≤ 9223372036854775807
    · have F : Hid (signedL u false = ((u : Int), 0)) := by show _ = _; unfold signedL; rw [if_neg (by simp), if_pos h]
      go_enter Tryz.func103, Tryz.ntmps103
      go_wp2
      go_ret2
      refine ⟨?_, rfl⟩
      rw [F.out]
      rfl
    · have F : Hid (signedL u false = (0, 4)) := by show _ = _; unfold signedL; rw [if_neg (by simp), if_neg h]
      go_enter Tryz.func103, Tryz.ntmps103
      go_wp2
      go_ret2
      exact ⟨by rw [F.out]; rfl, rfl⟩
end Go.Proofs.YtgfbednfiejlfaaGreatDoor.Num

/-
  Contract of number.Parse: the number that a text prints, or the error's number; it changes nothing.
-/
namespace Go.Proofs.YtgfbednfiejlfaaGreatDoor.Num
open Go.RowKit Go.Proofs.YtgfbednfiejlfaaGreatDoor.Oct

theorem take_at (s : ByteArray) (k : Nat) (h : k < s.size) : s.data.toList.take (k + 1) = s.data.toList.take k ++ [s[k]] := by
  rw [List.take_succ_eq_append_getElem (by rw [size_list]; exact h)]; rfl
theorem mem_at (s : ByteArray) (k : Nat) (h : k < s.size) : s[k] ∈ s.data.toList := by
  rw [ByteArray.getElem_eq_getElem_data]; simp

set_option maxHeartbeats 1000000 in
theorem read_c (s : ByteArray) (w : World) (hd : ∀ c ∈ s.data.toList, isDig c = true) (hs : s.size ≤ 19) :
    Calls Tryz.prog 104 #[.string s] w fun e w' => e = .returned (.int .u64 (valD s.data.toList : Int)) ∧ w = w' := by
  have HD := Lib.hid hd
  clear hd
  go_enter Tryz.func104, Tryz.ntmps104
  go_wp2
  go_loop [3, 4, 7] (fun n _ i => ∃ k : Nat, k ≤ s.size ∧ i = .int .i64 k ∧ n = .int .u64 (valD (s.data.toList.take k) : Nat)) (fun _ _ i => s.size - (intOf i).toNat)
  case atStart => exact ⟨0, Nat.zero_le _, rfl, rfl⟩
  case round =>
    obtain ⟨k, hk, rfl, rfl⟩ := hrel
    by_cases hlt : k < s.size
    · have hv := valD_take k HD.out (show k ≤ 18 by omega)
      have hdk := of_decide_eq_true (HD.out _ (mem_at s k hlt))
      have HV : Hid (valD (s.data.toList.take (k + 1)) = valD (s.data.toList.take k) * 10 + cnt s[k]) := by show _ = _; rw [take_at s k hlt, valD_snoc]
      obtain ⟨hc0, hc1⟩ := hdk
      generalize valD (s.data.toList.take k) = v at hv HV
      go_wp2
      go_round
      case rel =>
        refine ⟨k + 1, by omega, by go_num, ?_⟩
        rw [HV.out]
        congr 1
        unfold cnt
        omega
      case measure => simp [intOf]; omega
    · go_wp2
      go_ret
      have hke : s.data.toList.take k = s.data.toList := List.take_of_length_le (by rw [size_list]; omega)
      exact ⟨ret_int (by rw [hke]), rfl⟩

theorem enter_odd : ∀ args w, (callFunc 102 args).run Tryz.prog w = .ok (.enter 102 args) w := enters_of Tryz.func102 (by kernel_rfl) rfl

theorem odd_c (c : UInt8) (w : World) :
    Calls Tryz.prog 102 #[.int .u8 (c.toNat : Int)] w fun e w' => e = .returned (.bool (!isDig c)) ∧ w = w' := by
  have h := c.toNat_lt
  go_enter Tryz.func102, Tryz.ntmps102
  go_wp2
  all_goals go_ret
  all_goals (refine ⟨ret_bool ?_, rfl⟩; unfold isDig; rw [Bool.eq_iff_iff]; simp; try omega)

set_option maxHeartbeats 1000000 in
theorem anyOctet_c (s : ByteArray) (w : World) (hs : s.size ≤ 9223372036854775807) :
    Calls Tryz.prog 101 #[.string s, .func (.func 102) #[] #[]] w fun e w' => e = .returned (.bool (!allDig s.data.toList)) ∧ w = w' := by
  have eg := enter_odd
  go_enter Tryz.func101, Tryz.ntmps101
  go_wp2
  go_loop [5, 8] (fun _ i => ∃ k : Nat, k ≤ s.size ∧ i = .int .i64 k ∧ Hid (∀ c ∈ s.data.toList.take k, isDig c = true)) (fun _ i => s.size - (intOf i).toNat)
  case atStart => exact ⟨0, Nat.zero_le _, rfl, fun c hc => by simp at hc⟩
  case round =>
    obtain ⟨k, hk, rfl, hno⟩ := hrel
    by_cases hlt : k < s.size
    · have hcall := odd_c s[k] w
      cases hq : isDig s[k] with
      | false =>
        rw [hq] at hcall
        have F : Hid (allDig s.data.toList = false) := allDig_no (mem_at s k hlt) hq
        go_wp2_with (go_at_fn 102; refine hcall.mono ?_; rintro e w' ⟨rfl, rfl⟩)
        go_ret
        exact ⟨by rw [F.out]; rfl, rfl⟩
      | true =>
        rw [hq] at hcall
        have F : Hid (∀ c ∈ s.data.toList.take (k + 1), isDig c = true) := by
          intro c hc
          rw [take_at s k hlt] at hc
          rcases List.mem_append.1 hc with hc | hc
          · exact hno.out c hc
          · rw [List.mem_singleton.1 hc]; exact hq
        clear hq
        go_wp2_with (go_at_fn 102; refine hcall.mono ?_; rintro e w' ⟨rfl, rfl⟩)
        go_round
        case rel => exact ⟨k + 1, by omega, by go_num, F⟩
        case measure => simp [intOf]; omega
    · have hke : s.data.toList.take k = s.data.toList := List.take_of_length_le (by rw [size_list]; omega)
      have F : Hid (allDig s.data.toList = true) := allDig_of (by rw [← hke]; exact hno.out)
      clear hke
      go_wp2
      go_ret
      exact ⟨by rw [F.out]; rfl, rfl⟩

theorem hasMinus (l : List UInt8) : Lib.hasPrefix l [45] = decide (l.head? = some 45) := by
  cases l with
  | nil => rfl
  | cons a l => rw [Bool.eq_iff_iff]; simp [Lib.hasPrefix]; try exact eq_comm
theorem cutMinus (l : List UInt8) : Lib.trimPrefix l [45] = if l.head? = some 45 then l.tail else l := by
  unfold Lib.trimPrefix
  rw [hasMinus]
  by_cases h : l.head? = some 45
  · simp [h]
  · simp [h]

/-- What comes of a text whose sign is cut off. -/
theorem parseL_eq (l : List UInt8) : parseL l = parseT (Lib.hasPrefix l [45]) (Lib.trimPrefix l [45]) := by
  unfold parseL
  rw [hasMinus, cutMinus]
  by_cases h : l.head? = some 45
  · rw [if_pos h, if_pos h, decide_eq_true h]
  · rw [if_neg h, if_neg h, decide_eq_false h]

/-- The one text of 0. -/
theorem zero_text (l : List UInt8) (h : (Lib.trimPrefix l [45]).head? = some 48) : (l = [48]) ↔ ¬ (Lib.hasPrefix l [45] = true ∨ 1 < (Lib.trimPrefix l [45]).length) := by
  rw [hasMinus, cutMinus] at *
  by_cases c : l.head? = some 45
  · rw [if_pos c] at h ⊢
    rw [decide_eq_true c]
    refine ⟨fun e => ?_, fun e => absurd (.inl rfl) e⟩
    rw [e] at c; exact absurd c (by decide)
  · rw [if_neg c] at h ⊢
    rw [decide_eq_false c]
    cases l with
    | nil => cases h
    | cons a l =>
      rw [Option.some.inj h]
      cases l with
      | nil => simp
      | cons b l => simp

set_option maxHeartbeats 1000000 in
theorem parse_core (s T : ByteArray) (B : Bool) (w : World) (hT : T.size ≤ 9223372036854775807)
    (hcut : Calls Tryz.prog 63 #[.string s, .string ⟨#[45]⟩] w fun e w' => e = .returned (.tuple #[.string T, .bool B]) ∧ w' = w)
    (hz : T.data.toList.head? = some 48 → ((s.toList = [48]) ↔ ¬ (B = true ∨ 1 < T.data.toList.length))) :
    Calls Tryz.prog 83 #[.string s] w fun e w' => e = .returned (.tuple #[.int .i64 (parseT B T.data.toList).1, .int .i64 ((parseT B T.data.toList).2 : Int)]) ∧ w = w' := by
  by_cases h0 : T.size = 0
  · have hs : T = ⟨#[]⟩ := by
      apply ByteArray.ext
      exact Array.eq_empty_of_size_eq_zero h0
    subst hs
    clear hz h0
    go_enter Tryz.func83, Tryz.ntmps83
    go_wp2_with (go_at_call 63; refine hcut.mono ?_; rintro e w' ⟨rfl, rfl⟩)
    go_ret2
    exact ⟨rfl, rfl⟩
  · have hne : T.data.toList ≠ [] := by intro h; apply h0; rw [← size_list, h]; rfl
    have he : T.data.toList.isEmpty = false := by rw [List.isEmpty_eq_false_iff]; exact hne
    have he' : T.toList.isEmpty = false := by rw [ByteArray.toList_eq]; exact he
    have hpos : 0 < T.size := by omega
    have hany := fun w => anyOctet_c T w hT
    by_cases hd : allDig T.data.toList = false
    · have F : Hid (parseT B T.data.toList = (0, 33)) := by
        show _ = _
        unfold parseT
        rw [if_neg hne, if_pos hd]
      rw [hd] at hany
      clear hne h0 hz hd
      go_enter Tryz.func83, Tryz.ntmps83
      go_wp2_with fail
      refine hcut.mono ?_
      rintro e w' ⟨rfl, rfl⟩
      go_wp2_with fail
      refine (hany _).mono ?_
      rintro e w' ⟨rfl, rfl⟩
      go_wp2_with fail
      go_ret2
      exact ⟨by rw [F.out]; rfl, rfl⟩
    · have hd' : allDig T.data.toList = true := by simpa using hd
      rw [hd'] at hany
      have hmem := allDig_mem hd'
      have hhead : T.data.toList.head? = some T[0] := by
        rw [List.head?_eq_getElem?, List.getElem?_eq_getElem (by rw [size_list]; exact hpos)]; rfl
      have hsz : T.data.toList.length = T.size := size_list T
      by_cases hbad : T.data.toList.head? = some 48 ∧ (B = true ∨ 1 < T.data.toList.length)
      · have F : Hid (parseT B T.data.toList = (0, 33)) := by
          show _ = _
          unfold parseT
          rw [if_neg hne, if_neg hd, if_pos hbad]
        have hzz : (s.toList == [48]) = false := by
          rw [beq_eq_false_iff_ne]
          exact fun e => (hz hbad.1).1 e hbad.2
        have h48 : T[0] = 48 := Option.some.inj (hhead.symm.trans hbad.1)
        have h48' : ((T[0].toNat : Int) == 48) = true := by rw [h48]; rfl
        clear hne h0 hz hd hd' hmem hhead hsz hbad h48
        go_enter Tryz.func83, Tryz.ntmps83
        go_wp2_with fail
        refine hcut.mono ?_
        rintro e w' ⟨rfl, rfl⟩
        go_wp2_with fail
        refine (hany _).mono ?_
        rintro e w' ⟨rfl, rfl⟩
        go_wp2_with fail
        go_ret2
        exact ⟨by rw [F.out]; rfl, rfl⟩
      · have hq : ((s.toList == [48]) = true ∧ ((T[0].toNat : Int) == 48) = true) ∨ ((T[0].toNat : Int) == 48) = false := by
          by_cases h48 : T[0] = 48
          · refine .inl ⟨?_, by rw [h48]; rfl⟩
            rw [beq_iff_eq]
            exact (hz (by rw [hhead, h48])).2 (fun h => hbad ⟨by rw [hhead, h48], h⟩)
          · refine .inr ?_
            rw [beq_eq_false_iff_ne]
            intro e
            apply h48
            apply UInt8.toNat_inj.1
            have : (48 : UInt8).toNat = 48 := rfl
            omega
        by_cases h19 : 19 < T.size
        · have F : Hid (parseT B T.data.toList = (0, 4)) := by
            show _ = _
            unfold parseT
            rw [if_neg hne, if_neg hd, if_neg hbad, if_pos (by rw [hsz]; exact h19)]
          clear hne h0 hz hd hd' hmem hhead hsz hbad
          rcases hq with ⟨hzz, h48'⟩ | h48'
          all_goals
            go_enter Tryz.func83, Tryz.ntmps83
            go_wp2_with fail
            refine hcut.mono ?_
            rintro e w' ⟨rfl, rfl⟩
            go_wp2_with fail
            refine (hany _).mono ?_
            rintro e w' ⟨rfl, rfl⟩
            go_wp2_with fail
            go_ret2
            exact ⟨by rw [F.out]; rfl, rfl⟩
        · have F : Hid (parseT B T.data.toList = signedL (valD T.data.toList) B) := by
            show _ = _
            unfold parseT
            rw [if_neg hne, if_neg hd, if_neg hbad, if_neg (by rw [hsz]; exact h19)]
          have hrd := fun w => read_c T w hmem (by omega)
          have hv := valD_all hmem (by omega)
          have hsg := fun w => signed_c (valD T.data.toList) B w (by omega)
          generalize valD T.data.toList = v at F hrd hsg
          clear hne h0 hz hd hd' hmem hhead hsz hbad hv
          rcases hq with ⟨hzz, h48'⟩ | h48'
          all_goals
            go_enter Tryz.func83, Tryz.ntmps83
            go_wp2_with fail
            refine hcut.mono ?_
            rintro e w' ⟨rfl, rfl⟩
            go_wp2_with fail
            refine (hany _).mono ?_
            rintro e w' ⟨rfl, rfl⟩
            go_wp2_with fail
            refine (hrd _).mono ?_
            rintro e w' ⟨rfl, rfl⟩
            go_wp2_with fail
            refine (hsg _).mono ?_
            rintro e w' ⟨rfl, rfl⟩
            go_wp2_with fail
            go_ret2
            exact ⟨by rw [F.out]; rfl, rfl⟩

theorem parse_c (s : ByteArray) (w : World) (hs : s.size ≤ 9223372036854775807) :
    Calls Tryz.prog 83 #[.string s] w fun e w' => e = .returned (.tuple #[.int .i64 (parseL s.data.toList).1, .int .i64 ((parseL s.data.toList).2 : Int)]) ∧ w = w' := by
  have h := parse_core s (S (Lib.trimPrefix s.data.toList [45])) (Lib.hasPrefix s.data.toList [45]) w
    (by
      rw [size_S, cutMinus]
      have := size_list s
      split
      · rw [List.length_tail]; omega
      · omega)
    (Tryz.strings_CutPrefix s ⟨#[45]⟩ w)
    (by rw [ByteArray.toList_eq]; exact zero_text s.data.toList)
  rw [parseL_eq]
  exact h

end Go.Proofs.YtgfbednfiejlfaaGreatDoor.Num
