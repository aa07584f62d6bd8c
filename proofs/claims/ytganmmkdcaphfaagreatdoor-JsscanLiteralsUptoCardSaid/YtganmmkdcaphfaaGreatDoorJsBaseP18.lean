/-
  Part 18: LitUniq2, ValOpen.
-/
import Derived.Test.YtganmmkdcaphfaaGreatDoorJsBaseP17
import Derived.Test.YtganmmkdcaphfaaGreatDoorJsBaseP3
import GoSem.ClaimJoined
import Derived.ChangeArms
import Derived.DataReads
import Derived.SizedLaws
/-
  Plain facts on literals, with no program: a literal's end; no proper beginning of a string's, a list's or a record's literal is a literal.
-/
namespace Go.Proofs.YtganmmkdcaphfaaGreatDoor.Lit
open Go.Proofs.YtganmmkdcaphfaaGreatDoor.Oct Go.Proofs.YtganmmkdcaphfaaGreatDoor.Num Go.Proofs.YtganmmkdcaphfaaGreatDoor.Utf Go.Proofs.YtganmmkdcaphfaaGreatDoor.Val

/-- What may stand behind a value within a list or a record. -/
def delim (t : List UInt8) : Prop := ∀ c r, t = c :: r → c = 44 ∨ c = 93 ∨ c = 125
/-- Which literal begins so. -/
def cls (c : UInt8) : Nat := if c = 110 then 0 else if c = 102 then 1 else if c = 116 then 2 else if c = 34 then 4 else if c = 91 then 5 else if c = 123 then 6 else if numC c then 3 else 7

theorem num_cls (c : UInt8) (h : numC c = true) : cls c = 3 := by
  have key : ∀ n : Fin 256, numC (UInt8.ofNat n.val) = true → cls (UInt8.ofNat n.val) = 3 := by decide +kernel
  have hc := key ⟨c.toNat, c.toNat_lt⟩
  simpa using hc (by simpa using h)
theorem cls_num (c : UInt8) (h : cls c = 3) : numC c = true := by
  have key : ∀ n : Fin 256, cls (UInt8.ofNat n.val) = 3 → numC (UInt8.ofNat n.val) = true := by decide +kernel
  have hc := key ⟨c.toNat, c.toNat_lt⟩
  simpa using hc (by simpa using h)

/-- A literal, by its first octet. -/
structure Begins (a : List UInt8) (c : UInt8) (r : List UInt8) : Prop where
  eq : a = c :: r
  known : cls c < 7
  null : cls c = 0 → a = [110, 117, 108, 108]
  no : cls c = 1 → a = [102, 97, 108, 115, 101]
  yes : cls c = 2 → a = [116, 114, 117, 101]
  num : cls c = 3 → ∀ o ∈ a, numC o = true
  text : cls c = 4 → ∃ s, a = quoteL s
  list : cls c = 5 → ∃ (l : List V) (ks : List ByteArray), a = 91 :: (itemsL false true ks (l.map litL) ++ [93]) ∧ ∀ y ∈ l, (litL y).length < a.length
  record : cls c = 6 → ∃ (l : List V) (ks : List ByteArray), a = 123 :: (itemsL true true ks (l.map litL) ++ [125]) ∧ ∀ y ∈ l, (litL y).length < a.length

theorem item_len (r : Bool) (l : List V) : ∀ (first : Bool) (ks : List ByteArray), ∀ y ∈ l, (litL y).length ≤ (itemsL r first ks (l.map litL)).length := by
  induction l with
  | nil => intro _ _ y hy; cases hy
  | cons x l ih =>
    intro first ks y hy
    rw [List.map_cons, itemsL]
    simp only [List.length_append]
    rcases List.mem_cons.1 hy with rfl | hy
    · omega
    · have := ih false ks.tail y hy
      omega

theorem begins_text (s : ByteArray) : ∃ r, Begins (quoteL s) 34 r :=
  ⟨_, ⟨rfl, by decide, fun h => absurd h (by decide), fun h => absurd h (by decide), fun h => absurd h (by decide), fun h => absurd h (by decide), fun _ => ⟨s, rfl⟩, fun h => absurd h (by decide), fun h => absurd h (by decide)⟩⟩

theorem lit_begins (x : V) : ∃ c r, Begins (litL x) c r := by
  obtain ⟨k, n, s, l, ks⟩ := x
  by_cases h0 : k = 0
  · subst h0
    have e : litL (.mk 0 n s l ks) = [110, 117, 108, 108] := by simp [litL]
    rw [e]
    exact ⟨_, _, rfl, by decide, fun _ => rfl, fun h => absurd h (by decide), fun h => absurd h (by decide), fun h => absurd h (by decide), fun h => absurd h (by decide), fun h => absurd h (by decide), fun h => absurd h (by decide)⟩
  by_cases h1 : k = 1
  · subst h1
    have e : litL (.mk 1 n s l ks) = [102, 97, 108, 115, 101] := by simp [litL]
    rw [e]
    exact ⟨_, _, rfl, by decide, fun h => absurd h (by decide), fun _ => rfl, fun h => absurd h (by decide), fun h => absurd h (by decide), fun h => absurd h (by decide), fun h => absurd h (by decide), fun h => absurd h (by decide)⟩
  by_cases h2 : k = 2
  · subst h2
    have e : litL (.mk 2 n s l ks) = [116, 114, 117, 101] := by simp [litL]
    rw [e]
    exact ⟨_, _, rfl, by decide, fun h => absurd h (by decide), fun h => absurd h (by decide), fun _ => rfl, fun h => absurd h (by decide), fun h => absurd h (by decide), fun h => absurd h (by decide), fun h => absurd h (by decide)⟩
  by_cases h3 : k = 3
  · subst h3
    obtain ⟨ha, hne⟩ : (∀ o ∈ litL (.mk 3 n s l ks), numC o = true) ∧ litL (.mk 3 n s l ks) ≠ [] := by
      have e : litL (.mk 3 n s l ks) = if n < 0 then 32 :: printL n else printL n := by simp [litL]
      rw [e]
      split
      · refine ⟨fun o ho => ?_, by simp⟩
        rcases List.mem_cons.1 ho with rfl | ho
        · rfl
        · exact (printL_num n).1 o ho
      · exact printL_num n
    cases hl : litL (.mk 3 n s l ks) with
    | nil => exact absurd hl hne
    | cons c r =>
      rw [hl] at ha
      have hc := num_cls c (ha c (by simp))
      exact ⟨c, r, rfl, by omega, fun h => by omega, fun h => by omega, fun h => by omega, fun _ => ha, fun h => by omega, fun h => by omega, fun h => by omega⟩
  by_cases h5 : k = 5
  · subst h5
    have e : litL (.mk 5 n s l ks) = 91 :: (itemsL false true ks (l.map litL) ++ [93]) := by
      have : litL (.mk 5 n s l ks) = brackL 91 93 (joinK false ks (litAll l) (litAll l).length) := by simp [litL]
      rw [this, join_front, litAll_eq]; rfl
    rw [e]
    refine ⟨_, _, rfl, by decide, fun h => absurd h (by decide), fun h => absurd h (by decide), fun h => absurd h (by decide), fun h => absurd h (by decide), fun h => absurd h (by decide), fun _ => ⟨l, ks, rfl, fun y hy => ?_⟩, fun h => absurd h (by decide)⟩
    have := item_len false l true ks y hy
    simp only [List.length_cons, List.length_append]
    omega
  by_cases h6 : k = 6
  · subst h6
    have e : litL (.mk 6 n s l ks) = 123 :: (itemsL true true ks (l.map litL) ++ [125]) := by
      have : litL (.mk 6 n s l ks) = brackL 123 125 (joinK true ks (litAll l) (litAll l).length) := by simp [litL]
      rw [this, join_front, litAll_eq]; rfl
    rw [e]
    refine ⟨_, _, rfl, by decide, fun h => absurd h (by decide), fun h => absurd h (by decide), fun h => absurd h (by decide), fun h => absurd h (by decide), fun h => absurd h (by decide), fun h => absurd h (by decide), fun _ => ⟨l, ks, rfl, fun y hy => ?_⟩⟩
    have := item_len true l true ks y hy
    simp only [List.length_cons, List.length_append]
    omega
  · have e : litL (.mk k n s l ks) = quoteL s := by simp [litL, h0, h1, h2, h3, h5, h6]
    rw [e]
    exact ⟨_, begins_text s⟩

theorem delim_not {c : UInt8} (h : c = 44 ∨ c = 93 ∨ c = 125) : numC c = false ∧ cls c = 7 := by
  rcases h with rfl | rfl | rfl <;> decide

theorem rest_delim (r : Bool) (ks : List ByteArray) (ts : List (List UInt8)) (cl : UInt8) (hcl : cl = 93 ∨ cl = 125) (t : List UInt8) : delim (itemsL r false ks ts ++ cl :: t) := by
  intro c q e
  cases ts with
  | nil => simp only [itemsL, List.nil_append, List.cons.injEq] at e; rcases hcl with h | h <;> (rw [← e.1, h]; simp)
  | cons a ts => simp only [itemsL, Bool.false_eq_true, ↓reduceIte, List.cons_append, List.nil_append, List.cons.injEq] at e; exact .inl e.1.symm

theorem not_close (r : Bool) (ks : List ByteArray) (y : V) (rest t : List UInt8) (cl : UInt8) (hcl : cl = 93 ∨ cl = 125) (h : cl :: t = keyHd r ks ++ (litL y ++ rest)) : False := by
  have h7 : cls cl = 7 := (delim_not (.inr hcl)).2
  have main : ∀ (a : List UInt8) (c : UInt8) (q z : List UInt8), Begins a c q → cl :: t = a ++ z → False := fun a c q z hb he => by
    rw [hb.eq] at he
    simp only [List.cons_append, List.cons.injEq] at he
    have := hb.known
    rw [← he.1] at this
    omega
  obtain ⟨c, q, hb⟩ := lit_begins y
  cases r with
  | false => exact main _ _ _ rest hb (by simpa [keyHd] using h)
  | true =>
    cases ks with
    | nil => exact main _ _ _ rest hb (by simpa [keyHd] using h)
    | cons key ks =>
      obtain ⟨q2, hb2⟩ := begins_text key
      exact main _ _ _ _ hb2 (by simpa [keyHd, List.append_assoc] using h)

theorem key_value (key : ByteArray) (y : V) (rest1 rest2 : List UInt8) (h : quoteL key ++ 58 :: rest1 = litL y ++ rest2) (hd : delim rest2) : False := by
  obtain ⟨c, q, hb⟩ := lit_begins y
  obtain ⟨q2, hb2⟩ := begins_text key
  have hc : (34 : UInt8) = c := by
    have := h
    rw [hb.eq, hb2.eq] at this
    simp only [List.cons_append, List.cons.injEq] at this
    exact this.1
  obtain ⟨s, hs⟩ := hb.text (by rw [← hc]; decide)
  rw [hs] at h
  have := (quote_uniq key s _ _ h).2
  rcases hd 58 rest1 this.symm with h | h | h <;> cases h

theorem items_uniq (r : Bool) (cl : UInt8) (hcl : cl = 93 ∨ cl = 125) : ∀ (l1 : List V), (∀ x ∈ l1, ∀ y t1 t2, litL x ++ t1 = litL y ++ t2 → delim t1 → delim t2 → litL x = litL y ∧ t1 = t2) →
    ∀ (l2 : List V) (first : Bool) (ks1 ks2 : List ByteArray) (t1 t2 : List UInt8), itemsL r first ks1 (l1.map litL) ++ cl :: t1 = itemsL r first ks2 (l2.map litL) ++ cl :: t2 →
      itemsL r first ks1 (l1.map litL) = itemsL r first ks2 (l2.map litL) ∧ t1 = t2
  | [], _, [], _, _, _, _, _, h => ⟨rfl, by simpa [itemsL] using h⟩
  | [], _, y :: l2, first, ks1, ks2, t1, t2, h => by
    exfalso
    simp only [List.map_nil, List.map_cons, itemsL, List.nil_append, List.append_assoc] at h
    cases first with
    | false =>
      simp only [Bool.false_eq_true, ↓reduceIte, List.cons_append, List.nil_append, List.cons.injEq] at h
      rcases hcl with h9 | h9 <;> (rw [h9] at h; exact absurd h.1 (by decide))
    | true => exact not_close r ks2 y _ t1 cl hcl (by simpa using h)
  | x :: l1, _, [], first, ks1, ks2, t1, t2, h => by
    exfalso
    simp only [List.map_nil, List.map_cons, itemsL, List.nil_append, List.append_assoc] at h
    cases first with
    | false =>
      simp only [Bool.false_eq_true, ↓reduceIte, List.cons_append, List.nil_append, List.cons.injEq] at h
      rcases hcl with h9 | h9 <;> (rw [h9] at h; exact absurd h.1.symm (by decide))
    | true => exact not_close r ks1 x _ t2 cl hcl (by simpa using h.symm)
  | x :: l1, hu, y :: l2, first, ks1, ks2, t1, t2, h => by
    simp only [List.map_cons, itemsL, List.append_assoc] at h
    have h := List.append_cancel_left h
    have tail : ∀ (z1 z2 : List ByteArray), litL x ++ (itemsL r false z1 (l1.map litL) ++ cl :: t1) = litL y ++ (itemsL r false z2 (l2.map litL) ++ cl :: t2) →
        litL x = litL y ∧ itemsL r false z1 (l1.map litL) = itemsL r false z2 (l2.map litL) ∧ t1 = t2 := fun z1 z2 he => by
      obtain ⟨e1, e2⟩ := hu x (by simp) y _ _ he (rest_delim r z1 _ cl hcl t1) (rest_delim r z2 _ cl hcl t2)
      obtain ⟨e3, e4⟩ := items_uniq r cl hcl l1 (fun x hx => hu x (by simp [hx])) l2 false z1 z2 t1 t2 e2
      exact ⟨e1, e3, e4⟩
    cases r with
    | false =>
      obtain ⟨e1, e2, e3⟩ := tail _ _ (by simpa [keyHd] using h)
      simp only [List.map_cons, itemsL, keyHd]
      exact ⟨by rw [e1, e2]; rfl, e3⟩
    | true =>
      cases ks1 with
      | nil =>
        cases ks2 with
        | nil =>
          obtain ⟨e1, e2, e3⟩ := tail [] [] (by simpa [keyHd] using h)
          simp only [List.map_cons, itemsL, keyHd, List.tail_nil]
          exact ⟨by rw [e1, e2], e3⟩
        | cons k2 ks2 =>
          exfalso
          simp only [keyHd, ↓reduceIte, List.nil_append, List.append_assoc, List.cons_append] at h
          exact key_value k2 x _ _ h.symm (rest_delim true _ _ cl hcl t1)
      | cons k1 ks1 =>
        cases ks2 with
        | nil =>
          exfalso
          simp only [keyHd, ↓reduceIte, List.nil_append, List.append_assoc, List.cons_append] at h
          exact key_value k1 y _ _ h (rest_delim true _ _ cl hcl t2)
        | cons k2 ks2 =>
          simp only [keyHd, ↓reduceIte, List.append_assoc, List.cons_append, List.nil_append] at h
          obtain ⟨e0, h⟩ := quote_uniq k1 k2 _ _ h
          simp only [List.cons.injEq, true_and] at h
          obtain ⟨e1, e2, e3⟩ := tail _ _ h
          simp only [List.map_cons, itemsL, keyHd, ↓reduceIte]
          exact ⟨by rw [e0, e1, e2], e3⟩

/-- A string's, a list's or a record's literal. -/
def closedL (a : List UInt8) : Prop := ∃ c r, a = c :: r ∧ (c = 34 ∨ c = 91 ∨ c = 123)

theorem lit_uniq : ∀ (n : Nat) (x : V), (litL x).length ≤ n → ∀ (y : V) (t1 t2 : List UInt8), litL x ++ t1 = litL y ++ t2 → (delim t1 ∧ delim t2) ∨ closedL (litL x) → litL x = litL y ∧ t1 = t2
  | 0, x, hn, _, _, _, _, _ => by
    obtain ⟨c, q, hb⟩ := lit_begins x
    rw [hb.eq] at hn
    simp at hn
  | n + 1, x, hn, y, t1, t2, h, hd => by
    obtain ⟨c, q, hx⟩ := lit_begins x
    obtain ⟨c2, q2, hy⟩ := lit_begins y
    have hcc : c = c2 := by
      have := h
      rw [hx.eq, hy.eq] at this
      simp only [List.cons_append, List.cons.injEq] at this
      exact this.1
    subst hcc
    have hk := hx.known
    rcases (show cls c = 0 ∨ cls c = 1 ∨ cls c = 2 ∨ cls c = 3 ∨ cls c = 4 ∨ cls c = 5 ∨ cls c = 6 by omega) with e | e | e | e | e | e | e
    · have e1 := (hx.null e).trans (hy.null e).symm
      rw [e1] at h
      exact ⟨e1, List.append_cancel_left h⟩
    · have e1 := (hx.no e).trans (hy.no e).symm
      rw [e1] at h
      exact ⟨e1, List.append_cancel_left h⟩
    · have e1 := (hx.yes e).trans (hy.yes e).symm
      rw [e1] at h
      exact ⟨e1, List.append_cancel_left h⟩
    · rcases hd with ⟨d1, d2⟩ | ⟨c3, r3, e3, h3⟩
      · exact span_uniq numC _ _ _ _ h (hx.num e) (hy.num e) (fun c r he => (delim_not (d1 c r he)).1) (fun c r he => (delim_not (d2 c r he)).1)
      · exfalso
        rw [hx.eq] at e3
        simp only [List.cons.injEq] at e3
        rw [e3.1] at e
        rcases h3 with rfl | rfl | rfl <;> exact absurd e (by decide)
    · obtain ⟨s1, e1⟩ := hx.text e
      obtain ⟨s2, e2⟩ := hy.text e
      rw [e1, e2] at h ⊢
      exact quote_uniq s1 s2 t1 t2 h
    · obtain ⟨l1, ks1, e1, g1⟩ := hx.list e
      obtain ⟨l2, ks2, e2, g2⟩ := hy.list e
      rw [e1, e2] at h
      simp only [List.cons_append, List.append_assoc, List.nil_append, List.cons.injEq, true_and] at h
      obtain ⟨f1, f2⟩ := items_uniq false 93 (.inl rfl) l1 (fun x' hx' y' u1 u2 hh d1 d2 => lit_uniq n x' (by have := g1 x' hx'; omega) y' u1 u2 hh (.inl ⟨d1, d2⟩)) l2 true ks1 ks2 t1 t2 h
      exact ⟨by rw [e1, e2, f1], f2⟩
    · obtain ⟨l1, ks1, e1, g1⟩ := hx.record e
      obtain ⟨l2, ks2, e2, g2⟩ := hy.record e
      rw [e1, e2] at h
      simp only [List.cons_append, List.append_assoc, List.nil_append, List.cons.injEq, true_and] at h
      obtain ⟨f1, f2⟩ := items_uniq true 125 (.inr rfl) l1 (fun x' hx' y' u1 u2 hh d1 d2 => lit_uniq n x' (by have := g1 x' hx'; omega) y' u1 u2 hh (.inl ⟨d1, d2⟩)) l2 true ks1 ks2 t1 t2 h
      exact ⟨by rw [e1, e2, f1], f2⟩

/-- No proper beginning of such a literal is a literal. -/
theorem lit_cut (x y : V) (t : List UInt8) (h : litL x ++ t = litL y) (hy : closedL (litL y)) : t = [] := by
  have hx : closedL (litL x) := by
    obtain ⟨c, q, hb⟩ := lit_begins x
    obtain ⟨c2, r2, e2, h2⟩ := hy
    refine ⟨c, q, hb.eq, ?_⟩
    rw [hb.eq, e2] at h
    simp only [List.cons_append, List.cons.injEq] at h
    rw [h.1]; exact h2
  exact (lit_uniq _ x (Nat.le_refl _) y t [] (by rw [List.append_nil]; exact h) (.inr hx)).2
end Go.Proofs.YtganmmkdcaphfaaGreatDoor.Lit

/-
  A value that came in, as the row reads it, opened as a tree.
-/
namespace Go.Proofs.YtganmmkdcaphfaaGreatDoor.Val
open Go.RowKit Go.Proofs.YtganmmkdcaphfaaGreatDoor.Oct

variable {H : Type} {enc : TypeId × Value → H} {w : World} {base : Nat} {spare : Nat → Bool} {held : Bool}

theorem cells_one3 : Tryz.prog.cellsOf 3 = 1 := by kernel_rfl
theorem cells_one9 : Tryz.prog.cellsOf 9 = 1 := by kernel_rfl
theorem cells_oneL : Tryz.prog.cellsOf 22 = 1 := by kernel_rfl
theorem cells_oneK : Tryz.prog.cellsOf 23 = 1 := by kernel_rfl
theorem cells_five : Tryz.prog.cellsOf 25 = 5 := by kernel_rfl
theorem bytes_text : Tryz.prog.bytesOf 9 = 16 := by kernel_rfl
theorem bytes_value : Tryz.prog.bytesOf 25 = 80 := by kernel_rfl

/-- An address that is read bears no spot. -/
theorem no_spot {a : Addr} {v : Value} (h : w.cell? a = some v) : a = ⟨a.block, a.off, none⟩ := by
  obtain ⟨b, o, sp⟩ := a
  cases sp with
  | none => rfl
  | some x =>
    simp only [World.cell?] at h
    split at h <;> simp at h
theorem add_zero' (a : Addr) : a.add 0 = a := by simp [Addr.add]

theorem list_of {α : Type} {P : Nat → α → Prop} (n : Nat) (h : ∀ i, i < n → ∃ x, P i x) : ∃ l : List α, l.length = n ∧ ∀ i (hi : i < l.length), P i l[i] := by
  induction n with
  | zero => exact ⟨[], rfl, fun i hi => absurd hi (by simp)⟩
  | succ n ih =>
    obtain ⟨l, hl, hp⟩ := ih (fun i hi => h i (by omega))
    obtain ⟨x, hx⟩ := h n (by omega)
    refine ⟨l ++ [x], by simp [hl], fun i hi => ?_⟩
    rcases Nat.lt_or_ge i l.length with h1 | h1
    · rw [List.getElem_append_left h1]; exact hp i h1
    · have : i = l.length := by simp at hi; omega
      subst this
      simp [hl]
      exact hx

theorem weights_mem_all {P : Program} {e : TypeId} {ds : List (DataW H)} {d : DataW H} (hd : d ∈ ds) : ∀ n ∈ d.weights P e, n ∈ DataW.weightsAll P e ds := by
  induction ds with
  | nil => cases hd
  | cons d0 ds ih =>
    intro n hn
    simp only [DataW.weightsAll, List.mem_append]
    rcases List.mem_cons.1 hd with rfl | hd
    · exact .inl hn
    · exact .inr (ih hd n hn)

/-- A list of texts that came in. -/
theorem open_texts {fuel : Nat} {cs : List Value} {y : DataW H × List MemPlace} (h : DataW.trod enc Tryz.prog w base spare held fuel 23 cs = some y) (hs : ∀ n ∈ y.1.weights Tryz.prog 23, n ≤ reachBytes) :
    ∃ K ks, cs = [K] ∧ Texts (Old w.heap.size) w K ks := by
  rcases DataW.trod_slice Tryz.underlying23 h with ⟨rfl, _⟩ | ⟨a, len, cap, elems, rest, n, _, rfl, rfl, hb, hl, hm, hlen, hel, _⟩
  · exact ⟨_, [], rfl, none, 0, 0, 0, rfl, by simp, fun h => absurd h (by simp), fun i h => absurd h (by simp)⟩
  · have key : ∀ i, i < len → ∃ s : ByteArray, w.cell? (a.add i) = some (.string s) ∧ s.size ≤ 140737488351232 := fun i hi => by
      have h1 := hel i hi
      rw [List.getElem?_eq_getElem (by omega), Option.bind_eq_some_iff] at h1
      obtain ⟨cs', h2, h3⟩ := h1
      obtain ⟨s, rfl, hys⟩ := DataW.trod_string Tryz.underlying9 h3
      have hsz : s.size ≤ 140737488351232 := by
        have h9 := hs s.data.toList.length (by
          simp only [DataW.weights, Tryz.underlying23, List.mem_cons, List.mem_append]
          exact .inr (.inl (weights_mem_all (List.mem_map.2 ⟨elems[i], List.getElem_mem _, rfl⟩) _ (by rw [hys.1]; simp [DataW.weights]))))
        rw [size_list] at h9
        exact h9
      rw [cells_one9, Nat.mul_one] at h2
      obtain ⟨_, _, hat⟩ := World.cells?_some h2
      have h4 := hat 0 (by omega)
      rw [add_zero'] at h4
      exact ⟨s, h4, hsz⟩
    obtain ⟨ks, hk, hp⟩ := list_of len key
    have hbound : len * 16 ≤ 140737488351232 := by
      have := hs ((elems.length + rest.length) * Tryz.prog.bytesOf 9) (by simp [DataW.weights, Tryz.underlying23])
      rw [bytes_text, hlen] at this
      have e : reachBytes = 140737488351232 := rfl
      have h2 : len * 16 ≤ (len + rest.length) * 16 := Nat.mul_le_mul_right _ (by omega)
      omega
    refine ⟨_, ks, rfl, some a, cap, a.block, a.off, by rw [hk], ⟨by rw [hk]; exact hbound, fun s h => by obtain ⟨i, hi, rfl⟩ := List.getElem_of_mem h; exact (hp i hi).2⟩, fun h0 => ?_, fun i hi => ?_⟩
    · have h1 := (hp 0 h0).1
      rw [add_zero'] at h1
      exact ⟨congrArg some (no_spot h1), World.block_lt_of_cell? w a h1⟩
    · have h0 := (hp 0 (by omega)).1
      rw [add_zero'] at h0
      have h1 := (hp i hi).1
      rw [no_spot h0, Addr.add_lit] at h1
      exact h1

set_option maxRecDepth 100000 in
/-- A value that came in. -/
theorem open_val (fuel : Nat) : ∀ (cs : List Value) (y : DataW H × List MemPlace), DataW.trod enc Tryz.prog w base spare held fuel 25 cs = some y → (∀ n ∈ y.1.weights Tryz.prog 25, n ≤ reachBytes) →
    ∃ u0 u1 u2 u3 u4 x, cs = [u0, u1, u2, u3, u4] ∧ Holds (Old w.heap.size) w (.agg #[u0, u1, u2, u3, u4]) x := by
  induction fuel using Nat.strongRecOn with
  | ind fuel ih =>
    intro cs y h hs
    obtain ⟨xs, n, hfu, rfl, hlen, hxl, hf⟩ := DataW.trod_struct Tryz.underlying25 h
    rw [cells_five] at hlen
    obtain ⟨u0, u1, u2, u3, u4, rfl⟩ : ∃ u0 u1 u2 u3 u4, cs = [u0, u1, u2, u3, u4] := by
      match cs, hlen with
      | [u0, u1, u2, u3, u4], _ => exact ⟨u0, u1, u2, u3, u4, rfl⟩
    obtain ⟨y0, y1, y2, y3, y4, rfl⟩ : ∃ y0 y1 y2 y3 y4, xs = [y0, y1, y2, y3, y4] := by
      match xs, (show xs.length = 5 from hxl) with
      | [y0, y1, y2, y3, y4], _ => exact ⟨y0, y1, y2, y3, y4, rfl⟩
    have f0 : DataW.trod enc Tryz.prog w base spare held n 3 [u0] = some y0 := by simpa [cells_one3] using hf 0 _ rfl
    have f1 : DataW.trod enc Tryz.prog w base spare held n 3 [u1] = some y1 := by simpa [cells_one3] using hf 1 _ rfl
    have f2 : DataW.trod enc Tryz.prog w base spare held n 9 [u2] = some y2 := by simpa [cells_one9] using hf 2 _ rfl
    have f3 : DataW.trod enc Tryz.prog w base spare held n 22 [u3] = some y3 := by simpa [cells_oneL] using hf 3 _ rfl
    have f4 : DataW.trod enc Tryz.prog w base spare held n 23 [u4] = some y4 := by simpa [cells_oneK] using hf 4 _ rfl
    obtain ⟨k, hk, _, wk⟩ := DataW.trod_int Tryz.underlying3 f0
    obtain ⟨m, hm, _, wm⟩ := DataW.trod_int Tryz.underlying3 f1
    obtain ⟨s, hst, hys, _⟩ := DataW.trod_string Tryz.underlying9 f2
    simp only [List.cons.injEq, and_true] at hk hm hst
    subst hk; subst hm; subst hst
    have wt : ∀ (j : Nat) (t : TypeId) (d : DataW H), ([3, 3, 9, 22, 23] : List TypeId)[j]? = some t → ([y0.1, y1.1, y2.1, y3.1, y4.1] : List (DataW H))[j]? = some d → ∀ n ∈ d.weights Tryz.prog t, n ≤ reachBytes := fun j t d ht hd n hn =>
      hs n (by
        simp only [List.map_cons, List.map_nil, DataW.weights, Tryz.underlying25]
        exact DataW.weights_mem_each ht hd n hn)
    obtain ⟨K, ks, hK, hT⟩ := open_texts f4 (wt 4 _ _ rfl rfl)
    simp only [List.cons.injEq, and_true] at hK
    subst hK
    have hsb : s.size ≤ 140737488351232 := by
      have := wt 2 _ _ rfl rfl s.data.toList.length (by rw [hys]; simp [DataW.weights])
      rw [size_list] at this
      exact this
    have hkr : -9223372036854775808 ≤ k ∧ k ≤ 9223372036854775807 := by simpa [Lit.wf, IntKind.min, IntKind.max, IntKind.signed, IntKind.bits] using wk
    have hmr : -9223372036854775808 ≤ m ∧ m ≤ 9223372036854775807 := by simpa [Lit.wf, IntKind.min, IntKind.max, IntKind.signed, IntKind.bits] using wm
    rcases DataW.trod_slice Tryz.underlying22 f3 with ⟨h0, _⟩ | ⟨a, len, cap, elems, rest, n', hn', hcs, hy3, hb, hl, hmx, hlen', hel, _⟩
    · simp only [List.cons.injEq, and_true] at h0
      subst h0
      exact ⟨_, _, _, _, _, .mk k m s [] ks, rfl, .mk k m s none 0 u4 [] ks 0 0 (fun _ _ => undef) ⟨hkr.1, hkr.2, hmr.1, hmr.2, hsb, by simp⟩ (fun h => absurd h (by simp)) (fun i j h => absurd h (by simp)) hT (fun i h => absurd h (by simp))⟩
    · simp only [List.cons.injEq, and_true] at hcs
      subst hcs
      have w3 := wt 3 _ _ rfl rfl
      rw [hy3] at w3
      simp only [DataW.weights, Tryz.underlying22] at w3
      have key : ∀ i, i < len → ∃ x : V, (∀ j, j < 5 → ∃ u, w.cell? ((a.add (i * 5)).add j) = some u) ∧ Holds (Old w.heap.size) w (.agg #[((w.cell? ((a.add (i * 5)).add 0)).getD undef), ((w.cell? ((a.add (i * 5)).add 1)).getD undef), ((w.cell? ((a.add (i * 5)).add 2)).getD undef), ((w.cell? ((a.add (i * 5)).add 3)).getD undef), ((w.cell? ((a.add (i * 5)).add 4)).getD undef)]) x := fun i hi => by
        have h1 := hel i hi
        rw [List.getElem?_eq_getElem (by omega), Option.bind_eq_some_iff] at h1
        obtain ⟨cs', h2, h3⟩ := h1
        obtain ⟨c0, c1, c2, c3, c4, x, rfl, hx⟩ := ih n' (by omega) cs' _ h3 (fun n hn => w3 n (by
          simp only [List.mem_cons, List.mem_append]
          exact .inr (.inl (weights_mem_all (List.mem_map.2 ⟨elems[i], List.getElem_mem _, rfl⟩) n hn))))
        rw [cells_five] at h2
        obtain ⟨_, _, hat⟩ := World.cells?_some h2
        refine ⟨x, fun j hj => ?_, ?_⟩
        · rw [hat j hj]
          match j, hj with
          | 0, _ => exact ⟨_, rfl⟩
          | 1, _ => exact ⟨_, rfl⟩
          | 2, _ => exact ⟨_, rfl⟩
          | 3, _ => exact ⟨_, rfl⟩
          | 4, _ => exact ⟨_, rfl⟩
        · rw [hat 0 (by omega), hat 1 (by omega), hat 2 (by omega), hat 3 (by omega), hat 4 (by omega)]
          exact hx
      obtain ⟨l, hll, hp⟩ := list_of len key
      have hbound : l.length * 80 ≤ 140737488351232 := by
        have := w3 ((elems.length + rest.length) * Tryz.prog.bytesOf 25) (by simp)
        rw [bytes_value, hlen'] at this
        have e : reachBytes = 140737488351232 := rfl
        have h2 : len * 80 ≤ (len + rest.length) * 80 := Nat.mul_le_mul_right _ (by omega)
        omega
      have hlit : ∀ i j, 0 < l.length → (a.add (i * 5)).add j = ⟨a.block, a.off + (i * 5 + j), none⟩ := fun i j h0 => by
        obtain ⟨u, hu⟩ := (hp 0 h0).1 0 (by omega)
        rw [Nat.zero_mul, add_zero', add_zero'] at hu
        rw [no_spot hu, Addr.add_lit, Addr.add_lit, Nat.add_assoc]
      refine ⟨_, _, _, _, _, .mk k m s l ks, rfl, ?_⟩
      rw [← hll]
      refine .mk k m s (some a) cap u4 l ks a.block a.off (fun i j => (w.cell? ((a.add (i * 5)).add j)).getD undef) ⟨hkr.1, hkr.2, hmr.1, hmr.2, hsb, hbound⟩ (fun h0 => ?_) (fun i j hi hj => ?_) hT (fun i hi => (hp i hi).2)
      · obtain ⟨u, hu⟩ := (hp 0 h0).1 0 (by omega)
        rw [Nat.zero_mul, add_zero', add_zero'] at hu
        exact ⟨congrArg some (no_spot hu), World.block_lt_of_cell? w a hu⟩
      · obtain ⟨u, hu⟩ := (hp i hi).1 j hj
        show w.cell? _ = some ((w.cell? ((a.add (i * 5)).add j)).getD undef)
        rw [hu, ← hlit i j (by omega), hu]
        rfl
end Go.Proofs.YtganmmkdcaphfaaGreatDoor.Val
