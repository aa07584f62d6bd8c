/-
  Part 26: RdLit, PgHex, UtfRefPure.
-/
import Derived.Test.YtganmmkdcaphfaaGreatDoorJsBaseP23
import Derived.Test.YtganmmkdcaphfaaGreatDoorJsBaseP18
import Derived.Test.YtganmmkdcaphfaaGreatDoorJsBaseP7
import Derived.Test.YtganmmkdcaphfaaGreatDoorProg
import Derived.Lib.Hide
import Derived.Test.YtganmmkdcaphfaaGreatDoorJsBaseP8
/-
  Plainly: what the reader reads is a value whose literal is the text.
-/
namespace Go.Proofs.YtganmmkdcaphfaaGreatDoor.Rd
open Go.RowKit Go.Proofs.YtganmmkdcaphfaaGreatDoor.Oct Go.Proofs.YtganmmkdcaphfaaGreatDoor.Val Go.Proofs.YtganmmkdcaphfaaGreatDoor.Lit Go.Proofs.YtganmmkdcaphfaaGreatDoor.Tl

theorem prefix_cut {s p : List UInt8} (h : Lib.hasPrefix s p = true) : s = p ++ s.drop p.length := by
  unfold Lib.hasPrefix at h
  obtain ⟨t, rfl⟩ := List.isPrefixOf_iff_prefix.1 h
  simp

theorem take_suf {n : Nat} {l a t : List UInt8} (h : takeP n l = some (a, t)) : t <:+ l := by
  unfold takeP at h
  split at h
  · injection h with h
    injection h with h1 h2
    rw [← h2]
    exact List.drop_suffix _ _
  · cases h
theorem unit_suf {l t : List UInt8} {n : Nat} (h : unitP l = some (n, t)) : t <:+ l := by
  unfold unitP at h
  split at h
  · cases hk : takeP 4 (l.drop 2) with
    | none => rw [hk] at h; cases h
    | some q =>
      obtain ⟨a, u⟩ := q
      rw [hk] at h
      simp only at h
      split at h
      · injection h with h
        injection h with h1 h2
        rw [← h2]
        exact (take_suf hk).trans (List.drop_suffix _ _)
      · cases h
  · cases h
theorem enc_suf {c : Int} {t a u : List UInt8} (h : encP c t = some (a, u)) : u = t := by
  unfold encP at h
  split at h
  · injection h with h
    injection h with h1 h2
    exact h2.symm
  · cases h
theorem char_suf {l a t : List UInt8} (h : charP l = some (a, t)) : t <:+ l := by
  unfold charP at h
  split at h
  · cases hk : unitP l with
    | none => rw [hk] at h; cases h
    | some q =>
      obtain ⟨c, u⟩ := q
      rw [hk] at h
      simp only at h
      split at h
      · cases hk2 : unitP u with
        | none => rw [hk2] at h; cases h
        | some q2 =>
          obtain ⟨d, u2⟩ := q2
          rw [hk2] at h
          simp only at h
          rw [enc_suf h]
          exact (unit_suf hk2).trans (unit_suf hk)
      · rw [enc_suf h]
        exact unit_suf hk
  · exact take_suf h
theorem inside_suf (f : Nat) : ∀ (l acc a t : List UInt8), insideF f l acc = some (a, t) → t <:+ l := by
  induction f with
  | zero => intro l acc a t h; cases h
  | succ f ih =>
    intro l acc a t h
    rw [insideF] at h
    split at h
    · injection h with h
      injection h with h1 h2
      rw [← h2]
      exact List.drop_suffix _ _
    · cases hk : charP l with
      | none => rw [hk] at h; cases h
      | some q =>
        obtain ⟨b, u⟩ := q
        rw [hk] at h
        exact (ih u (acc ++ b) a t h).trans (char_suf hk)
theorem inner_suf {l a t : List UInt8} (h : innerP l = some (a, t)) : t <:+ l := by
  unfold innerP at h
  split at h
  · exact (inside_suf _ _ _ _ _ h).trans (List.drop_suffix _ _)
  · cases h
theorem text_lit {s a t : List UInt8} (h : textP s = some (a, t)) : s = quoteL (S a) ++ t := by
  unfold textP at h
  cases hi : innerP s with
  | none => rw [hi] at h; cases h
  | some q =>
    obtain ⟨a', t'⟩ := q
    rw [hi] at h
    simp only at h
    split at h
    · rename_i hq
      injection h with h
      injection h with h1 h2
      subst h1 h2
      obtain ⟨p, rfl⟩ := inner_suf hi
      rw [hq]
      simp
    · cases h
theorem number_lit {s t : List UInt8} {n : Int} (h : numberP s = some (n, t)) : s = litI n ++ t := by
  unfold numberP at h
  split at h
  · split at h
    · rename_i hp
      injection h with h
      injection h with h1 h2
      have := prefix_cut hp
      rw [h1] at this h2
      rw [← h2]
      exact this
    · cases h
  · cases h

theorem join_keys (r : Bool) (ks e : List ByteArray) (ts : List (List UInt8)) : ∀ n, n ≤ ks.length → joinK r (ks ++ e) ts n = joinK r ks ts n
  | 0, _ => rfl
  | n + 1, h => by
    have hk : keyAt r (ks ++ e) n = keyAt r ks n := by
      unfold keyAt
      rw [List.getElem?_append_left (by omega)]
    rw [joinK, joinK, join_keys r ks e ts n (by omega), hk]
theorem join_vals (r : Bool) (ks : List ByteArray) (ts u : List (List UInt8)) : ∀ n, n ≤ ts.length → joinK r ks (ts ++ u) n = joinK r ks ts n
  | 0, _ => rfl
  | n + 1, h => by
    have hk : (ts ++ u).getD n [] = ts.getD n [] := by
      rw [List.getD_eq_getElem?_getD, List.getD_eq_getElem?_getD, List.getElem?_append_left (by omega)]
    rw [joinK, joinK, join_vals r ks ts u n (by omega), hk]
theorem key_none_at (r : Bool) (ks : List ByteArray) (n : Nat) (h : ks.length ≤ n) : keyAt r ks n = [] := by
  unfold keyAt
  rw [List.getElem?_eq_none h]
  split <;> rfl
theorem key_last (ks : List ByteArray) (key : ByteArray) : keyAt true (ks ++ [key]) ks.length = quoteL key ++ [58] := by
  unfold keyAt
  rw [List.getElem?_concat_length]
  rfl

/-- Which brackets. -/
abbrev Fr.isRec (f : Fr) : Bool := decide (f.kind = 6)
/-- What stands of one that has begun, up to where a value is due. -/
def frT (f : Fr) : List UInt8 := (if f.kind = 6 then [123] else [91]) ++ (joinK f.isRec f.ks (litAll f.xs) f.xs.length ++ ((if f.xs.length = 0 then [] else [44]) ++ keyAt f.isRec f.ks f.xs.length))
def preT (fs : List Fr) : List UInt8 := fs.flatMap frT
structure FrOk (f : Fr) : Prop where
  kind : f.kind = 5 ∨ f.kind = 6
  keys : f.ks.length ≤ f.xs.length + 1
  plain : ∀ x ∈ f.xs, plainV x = true

theorem pre_snoc (fs : List Fr) (f : Fr) : preT (fs ++ [f]) = preT fs ++ frT f := by simp [preT]

theorem fr_items (f : Fr) (x : V) : joinK f.isRec f.ks (litAll (f.xs ++ [x])) (f.xs.length + 1) = joinK f.isRec f.ks (litAll f.xs) f.xs.length ++ ((if f.xs.length = 0 then [] else [44]) ++ (keyAt f.isRec f.ks f.xs.length ++ litL x)) := by
  have e : litAll (f.xs ++ [x]) = litAll f.xs ++ [litL x] := by rw [litAll_eq, litAll_eq]; simp
  have hl : (litAll f.xs).length = f.xs.length := litAll_len _
  rw [e, joinK, join_vals _ _ _ _ _ (by omega)]
  have hg : (litAll f.xs ++ [litL x]).getD f.xs.length [] = litL x := by
    rw [List.getD_eq_getElem?_getD, ← hl, List.getElem?_concat_length]
    rfl
  rw [hg]

theorem fr_add (f : Fr) (h : FrOk f) (x : V) : frT (f.add x) = frT f ++ (litL x ++ [44]) := by
  have h1 := fr_items f x
  have h2 : keyAt f.isRec f.ks (f.xs.length + 1) = [] := key_none_at _ _ _ h.keys
  unfold frT
  simp only [Fr.isRec] at h1 h2 ⊢
  simp only [List.length_append, List.length_cons, List.length_nil, Nat.zero_add]
  rw [h1, h2]
  simp

theorem fr_end (f : Fr) (h : FrOk f) (x : V) : litL (f.add x).val = frT f ++ (litL x ++ endL f.kind) := by
  have h1 := fr_items f x
  have hl : (litAll (f.xs ++ [x])).length = f.xs.length + 1 := by rw [litAll_len]; simp
  have hk := h.kind
  clear h
  obtain ⟨k, xs, ks⟩ := f
  have hk : k = 5 ∨ k = 6 := hk
  have hl : (litAll (xs ++ [x])).length = xs.length + 1 := hl
  rcases hk with rfl | rfl
  · have h1 : joinK false ks (litAll (xs ++ [x])) (xs.length + 1) = joinK false ks (litAll xs) xs.length ++ ((if xs.length = 0 then [] else [44]) ++ (keyAt false ks xs.length ++ litL x)) := h1
    show litL (.mk 5 0 ⟨#[]⟩ (xs ++ [x]) ks) = ([91] ++ (joinK false ks (litAll xs) xs.length ++ ((if xs.length = 0 then [] else [44]) ++ keyAt false ks xs.length))) ++ (litL x ++ [93])
    have e : litL (.mk 5 0 ⟨#[]⟩ (xs ++ [x]) ks) = brackL 91 93 (joinK false ks (litAll (xs ++ [x])) (litAll (xs ++ [x])).length) := by simp [litL]
    rw [e, hl, h1]
    simp [brackL]
  · have h1 : joinK true ks (litAll (xs ++ [x])) (xs.length + 1) = joinK true ks (litAll xs) xs.length ++ ((if xs.length = 0 then [] else [44]) ++ (keyAt true ks xs.length ++ litL x)) := h1
    show litL (.mk 6 0 ⟨#[]⟩ (xs ++ [x]) ks) = ([123] ++ (joinK true ks (litAll xs) xs.length ++ ((if xs.length = 0 then [] else [44]) ++ keyAt true ks xs.length))) ++ (litL x ++ [125])
    have e : litL (.mk 6 0 ⟨#[]⟩ (xs ++ [x]) ks) = brackL 123 125 (joinK true ks (litAll (xs ++ [x])) (litAll (xs ++ [x])).length) := by simp [litL]
    rw [e, hl, h1]
    simp [brackL]

theorem FrOk.add {f : Fr} (h : FrOk f) {x : V} (hx : plainV x = true) : FrOk (f.add x) :=
  ⟨h.kind, by show f.ks.length ≤ (f.xs ++ [x]).length + 1; have := h.keys; simp; omega, fun y hy => by
    rcases List.mem_append.1 hy with hy | hy
    · exact h.plain y hy
    · rw [List.mem_singleton.1 hy]; exact hx⟩
theorem FrOk.val {f : Fr} (h : FrOk f) : plainV f.val = true := by
  show plainV (.mk f.kind 0 ⟨#[]⟩ f.xs f.ks) = true
  rw [plainV, plainAll_eq]
  have : f.xs.all plainV = true := List.all_eq_true.2 h.plain
  rw [this]
  rcases h.kind with e | e <;> rw [e] <;> rfl

/-- What a part leaves keeps the text. -/
def PartOk (s : List UInt8) (fs : List Fr) : PR → Prop
  | .bad => True
  | .val x s' fs' _ => fs' = fs ∧ plainV x = true ∧ s = litL x ++ s'
  | .more s' fs' _ => (∀ f ∈ fs', FrOk f) ∧ preT fs' ++ s' = preT fs ++ s

theorem begin_ok (k : Int) (hk : k = 5 ∨ k = 6) (s s0 : List UInt8) (fs : List Fr) (d : Nat) (h : ∀ f ∈ fs, FrOk f) (h0 : s0 = (if k = 6 then [123] else [91]) ++ s) : PartOk s0 fs (beginP k s fs d) := by
  have hf : FrOk (fresh0 k) := ⟨hk, by simp, fun x hx => by cases hx⟩
  unfold beginP
  split
  · rename_i hp
    have hc := prefix_cut hp
    refine ⟨rfl, hf.val, ?_⟩
    rw [h0, hc]
    rcases hk with rfl | rfl <;> simp [litL, litAll, brackL, joinK, endL]
  · refine ⟨fun f hm => ?_, ?_⟩
    · rcases List.mem_append.1 hm with hm | hm
      · exact h f hm
      · rw [List.mem_singleton.1 hm]; exact hf
    · rw [pre_snoc, h0]
      have : frT (fresh0 k) = if k = 6 then [123] else [91] := by
        unfold frT
        simp [joinK, key_none_at]
      rw [this, List.append_assoc]

theorem key_ok {fs fs' : List Fr} {key : ByteArray} (hk : keyP fs key = some fs') (h : ∀ f ∈ fs, FrOk f) : (∀ f ∈ fs', FrOk f) ∧ preT fs' = preT fs ++ (quoteL key ++ [58]) := by
  rcases List.eq_nil_or_concat fs with rfl | ⟨fs0, f, rfl⟩
  · cases hk
  · rw [List.concat_eq_append] at hk h ⊢
    unfold keyP at hk
    rw [List.getLast?_concat, List.dropLast_concat] at hk
    simp only at hk
    split at hk
    · rename_i hc
      obtain ⟨c1, c2⟩ := hc
      injection hk with hk
      have hf := h f (by simp)
      rw [← hk]
      refine ⟨fun g hm => ?_, ?_⟩
      · rcases List.mem_append.1 hm with hm | hm
        · exact h g (by simp [hm])
        · rw [List.mem_singleton.1 hm]
          exact ⟨hf.kind, by simp; omega, hf.plain⟩
      · rw [pre_snoc, pre_snoc, List.append_assoc]
        congr 1
        unfold frT
        simp only [Fr.isRec, c1, decide_true, if_true]
        rw [join_keys true f.ks [key] (litAll f.xs) f.xs.length (by omega), ← c2, key_last, key_none_at true f.ks f.ks.length (Nat.le_refl _)]
        simp
    · cases hk

theorem leaf_plain (k n : Int) (t : ByteArray) (h : k < 7) : plainV (leafV k n t) = true := by
  rw [plainV, plainAll]
  simp [h]

theorem part_ok (s : List UInt8) (fs : List Fr) (d : Nat) (h : ∀ f ∈ fs, FrOk f) : PartOk s fs (partP s fs d) := by
  unfold partP
  split
  · rename_i hp; exact ⟨rfl, leaf_plain _ _ _ (by decide), by simpa [litL] using prefix_cut hp⟩
  · split
    · rename_i hp; exact ⟨rfl, leaf_plain _ _ _ (by decide), by simpa [litL] using prefix_cut hp⟩
    · split
      · rename_i hp; exact ⟨rfl, leaf_plain _ _ _ (by decide), by simpa [litL] using prefix_cut hp⟩
      · split
        · rename_i hp; exact begin_ok 5 (.inl rfl) _ _ fs d h (by simpa using prefix_cut hp)
        · split
          · rename_i hp; exact begin_ok 6 (.inr rfl) _ _ fs d h (by simpa using prefix_cut hp)
          · split
            · unfold textOrKeyP
              cases ht : textP s with
              | none => trivial
              | some q =>
                obtain ⟨a, t⟩ := q
                have hl := text_lit ht
                simp only
                split
                · rename_i hp
                  have h1 := prefix_cut hp
                  cases hk : keyP fs (S a) with
                  | none => trivial
                  | some fs' =>
                    obtain ⟨g1, g2⟩ := key_ok hk h
                    refine ⟨g1, ?_⟩
                    rw [g2, hl]
                    simp only [List.append_assoc]
                    congr 2
                    simpa using h1.symm
                · exact ⟨rfl, leaf_plain _ _ _ (by decide), by rw [hl]; simp [litL]⟩
            · cases hn : numberP s with
              | none => trivial
              | some q =>
                obtain ⟨n, t⟩ := q
                exact ⟨rfl, leaf_plain _ _ _ (by decide), by rw [number_lit hn]; simp [litL, litI]⟩

/-- What has been read, and what is left. -/
def Cfg.text : Cfg → List UInt8
  | .loop s fs _ => preT fs ++ s
  | .close x s fs _ => preT fs ++ (litL x ++ s)
def Cfg.ok : Cfg → Prop
  | .loop _ fs _ => ∀ f ∈ fs, FrOk f
  | .close x _ fs _ => plainV x = true ∧ ∀ f ∈ fs, FrOk f

theorem step_ok (c c' : Cfg) (h : c.ok) (hs : step c = .inl c') : c'.ok ∧ c'.text = c.text := by
  cases c with
  | loop s fs d =>
    have hp := part_ok s fs d h
    unfold step at hs
    simp only at hs
    cases hk : partP s fs d with
    | bad => rw [hk] at hs; cases hs
    | val x s' fs' d' =>
      rw [hk] at hs hp
      injection hs with hs
      obtain ⟨h1, h2, h3⟩ := hp
      rw [← hs, h1]
      exact ⟨⟨h2, h⟩, by show preT fs ++ (litL x ++ s') = preT fs ++ s; rw [← h3]⟩
    | more s' fs' d' =>
      rw [hk] at hs hp
      injection hs with hs
      rw [← hs]
      exact hp
  | close x s fs d =>
    obtain ⟨hx, hf⟩ := h
    rcases List.eq_nil_or_concat fs with rfl | ⟨fs0, f, rfl⟩
    · rw [close_nil] at hs; cases hs
    · rw [List.concat_eq_append] at hs hf ⊢
      rw [close_last] at hs
      have hff := hf f (by simp)
      split at hs
      · rename_i hp
        have hc := prefix_cut hp
        injection hs with hs
        rw [← hs]
        refine ⟨fun g hm => ?_, ?_⟩
        · rcases List.mem_append.1 hm with hm | hm
          · exact hf g (by simp [hm])
          · rw [List.mem_singleton.1 hm]; exact hff.add hx
        · show preT (fs0 ++ [f.add x]) ++ s.drop 1 = preT (fs0 ++ [f]) ++ (litL x ++ s)
          rw [pre_snoc, pre_snoc, fr_add f hff]
          simp only [List.append_assoc]
          congr 3
          simpa using hc.symm
      · split at hs
        · rename_i hp
          have hc := prefix_cut hp
          rw [endL_len] at hc
          injection hs with hs
          rw [← hs]
          refine ⟨⟨(hff.add hx).val, fun g hm => hf g (by simp [hm])⟩, ?_⟩
          show preT fs0 ++ (litL (f.add x).val ++ s.drop 1) = preT (fs0 ++ [f]) ++ (litL x ++ s)
          rw [pre_snoc, fr_end f hff]
          simp only [List.append_assoc]
          congr 3
          exact hc.symm
        · cases hs

theorem leads_lit {c : Cfg} {o : Out} (h : Leads c o) : c.ok → ∀ x t d, o = .done x t d → plainV x = true ∧ litL x ++ t = c.text := by
  induction h with
  | @stop c o hs =>
    intro hc x t d ho
    subst ho
    cases c with
    | loop s fs d' =>
      unfold step at hs
      simp only at hs
      cases hk : partP s fs d' <;> rw [hk] at hs <;> simp at hs
    | close y s fs d' =>
      rcases List.eq_nil_or_concat fs with rfl | ⟨fs0, f, rfl⟩
      · rw [close_nil] at hs
        injection hs with hs
        injection hs with h1 h2 h3
        subst h1 h2
        exact ⟨hc.1, rfl⟩
      · rw [List.concat_eq_append, close_last] at hs
        split at hs
        · cases hs
        · split at hs <;> simp at hs
  | next hs k ih =>
    intro hc x t d ho
    obtain ⟨h1, h2⟩ := step_ok _ _ hc hs
    rw [← h2]
    exact ih h1 x t d ho

/-- What is read whole is a plain value, and the text is its literal. -/
theorem read_lit {s : List UInt8} {x : V} {d : Nat} (h : Leads (.loop s [] 0) (.done x [] d)) : plainV x = true ∧ litL x = s := by
  obtain ⟨h1, h2⟩ := leads_lit h (fun f hf => by cases hf) x [] d rfl
  exact ⟨h1, by simpa [Cfg.text, preT] using h2⟩
end Go.Proofs.YtganmmkdcaphfaaGreatDoor.Rd

/-
  Contract of the page's Hex: the lowest digits of base 16, in two's complement; it changes nothing.
-/
namespace Go.Proofs.YtganmmkdcaphfaaGreatDoor.Oct
open Go.RowKit

theorem digit_slice (d : Nat) (h : d < 16) (w : World) :
    (Instr.slice 9 (.string ⟨#[48, 49, 50, 51, 52, 53, 54, 55, 56, 57, 97, 98, 99, 100, 101, 102]⟩) (some (.int .i64 (d : Int))) (some (.int .i64 ((d : Int) + 1))) none).run Tryz.prog w = .ok (.string (S [hexDig d])) w := by
  have h16 : (⟨#[48, 49, 50, 51, 52, 53, 54, 55, 56, 57, 97, 98, 99, 100, 101, 102]⟩ : ByteArray).size = 16 := rfl
  rw [← digit_cut d h]
  generalize (⟨#[48, 49, 50, 51, 52, 53, 54, 55, 56, 57, 97, 98, 99, 100, 101, 102]⟩ : ByteArray) = s at h16
  have e1 : ((d : Int) + 1).toNat = d + 1 := by omega
  rw [run_slice_string w _ s .i64 .i64 (d : Int) ((d : Int) + 1) Tryz.underlying9 (by omega) (by omega) (by omega), e1, Int.toNat_natCast]


set_option maxHeartbeats 1000000 in
theorem rhex_walk (n : Int) (size : Int) (w : World) (c : Nat) (hc : c ≤ 16) (h : (size < 0 ∧ c = 0) ∨ (16 < size ∧ c = 16) ∨ (size = (c : Int))) :
    Calls Tryz.prog 24 #[.int .i64 n, .int .i64 size] w fun e w' => e = .returned (.string (S (hexL (u64 n) c))) ∧ w = w' := by
  have hu := u64_wrap n
  have hm := u64_lt n
  have HM : Hid (u64 n < 18446744073709551616) := hm
  clear hm
  rcases (show (size < 0 ∧ c ≤ 0) ∨ (16 < size ∧ 16 ≤ c) ∨ size = (c : Int) from by omega) with ⟨h1, hcc⟩ | ⟨h1, hcc⟩ | rfl
  all_goals
    clear h
    go_enter Tryz.func24, Tryz.ntmps24
    go_wp2
    go_loop [5, 6, 7, 8] (fun u o i _ => ∃ k : Nat, k ≤ c ∧ u = .int .u64 ((u64 n / 16 ^ k : Nat) : Int) ∧ o = .string (S (hexL (u64 n) k)) ∧ i = .int .i64 k) (fun _ _ i _ => 16 - (intOf i).toNat)
    case atStart => exact ⟨0, Nat.zero_le _, by simp, rfl, rfl⟩
    case round =>
      obtain ⟨k, hk, rfl, rfl, rfl⟩ := hrel
      by_cases hlt : k < c
      · try (exfalso; omega)
        all_goals
          have hnext : Hid (S [hexDig (u64 n / 16 ^ k % 16)] ++ S (hexL (u64 n) k) = S (hexL (u64 n) (k + 1))) := by show _ = _; rw [S_append, hexL_cons]; rfl
          have hdiv : Hid (u64 n / 16 ^ (k + 1) = u64 n / 16 ^ k / 16) := by show _ = _; rw [Nat.pow_succ, Nat.div_div_eq_div_mul]
          have hvl : u64 n / 16 ^ k < 18446744073709551616 := Nat.lt_of_le_of_lt (Nat.div_le_self _ _) HM.out
          have hol : (S (hexL (u64 n) k)).size ≤ 16 := by rw [size_S, hexL_length]; omega
          generalize S (hexL (u64 n) k) = o at hnext hol
          generalize u64 n / 16 ^ k = v at hnext hdiv hvl
          obtain ⟨d, hd⟩ : ∃ d, v % 16 = d := ⟨_, rfl⟩
          have hdI : (v : Int) % 16 = (d : Int) := by omega
          have hd16 : d < 16 := by omega
          rw [hd] at hnext
          have hcut := digit_slice d hd16
          have hxl : (S [hexDig d]).size ≤ 1 := by rw [size_S]; simp
          generalize S [hexDig d] = x at hnext hcut hxl
          clear hd
          go_wp2
          go_round
          case rel => exact ⟨k + 1, by omega, by rw [hdiv.out]; go_num, by rw [hnext.out], by go_num⟩
          case measure => simp [intOf]; omega
      · go_wp2
        go_ret
        obtain rfl : k = c := by omega
        exact ⟨rfl, rfl⟩

theorem rhex_c (n size : Int) (w : World) :
    Calls Tryz.prog 24 #[.int .i64 n, .int .i64 size] w fun e w' => e = .returned (.string (S (hexL (u64 n) (clamp size)))) ∧ w = w' :=
  rhex_walk n size w (clamp size) (clamp_le size) (by unfold clamp; omega)
end Go.Proofs.YtganmmkdcaphfaaGreatDoor.Oct

/-
  Plain facts on how the page reads a character: how many octets the first one says, what they count, and that this is what a text begins with.
-/
namespace Go.Proofs.YtganmmkdcaphfaaGreatDoor.Utf
open Go.Lib (encodeRune)

/-- How many octets a first one says; 0: none. -/
def sizeN (b : Nat) : Nat := if b < 128 then 1 else if 194 ≤ b ∧ b < 224 then 2 else if 224 ≤ b ∧ b < 240 then 3 else if 240 ≤ b ∧ b < 245 then 4 else 0
theorem sizeN_le (b : Nat) : sizeN b ≤ 4 := by
  unfold sizeN
  repeat' split
  all_goals omega
/-- What of the first octet counts. -/
def partN (n : Nat) : Nat := if n = 1 then 128 else if n = 2 then 32 else if n = 3 then 16 else 8
/-- What the first k + 1 octets count. -/
def runV (l : List UInt8) (m : Nat) : Nat → Int
  | 0 => ((oct l 0 % m : Nat) : Int)
  | k + 1 => runV l m k * 64 + (oct l (k + 1) : Int) - 128

theorem oct_app (a t : List UInt8) (k : Nat) (h : k < a.length) : oct (a ++ t) k = oct a k := by
  unfold oct
  rw [List.getD_eq_getElem?_getD, List.getD_eq_getElem?_getD, List.getElem?_append_left h]

theorem enc_facts (n : Nat) (h : isChar n) :
    sizeN (oct (encodeRune n) 0) = (encodeRune n).length ∧ runV (encodeRune n) (partN (encodeRune n).length) ((encodeRune n).length - 1) = (n : Int) ∧
    ∀ k, 1 ≤ k → k < (encodeRune n).length → 128 ≤ oct (encodeRune n) k ∧ oct (encodeRune n) k ≤ 191 := by
  rw [enc_eq n h]
  unfold isChar at h
  unfold encN
  by_cases h1 : n < 128
  · rw [if_pos h1]
    refine ⟨?_, ?_, ?_⟩
    · simp only [oct, List.map_cons, List.map_nil, List.getD_cons_zero, List.length_cons, List.length_nil]
      rw [u8 n (by omega)]; unfold sizeN; rw [if_pos h1]
    · show (((n.toUInt8.toNat) % 128 : Nat) : Int) = (n : Int)
      rw [u8 n (by omega)]; omega
    · intro k hk1 hk2; simp at hk2; omega
  · rw [if_neg h1]
    by_cases h2 : n < 2048
    · rw [if_pos h2]
      have e0 := u8 (192 + n / 64) (by omega)
      have e1 := u8 (128 + n % 64) (by omega)
      refine ⟨?_, ?_, ?_⟩
      · simp only [oct, List.map_cons, List.map_nil, List.getD_cons_zero, List.length_cons, List.length_nil, e0]
        unfold sizeN; rw [if_neg (by omega), if_pos (by omega)]
      · simp only [oct, runV, partN, List.map_cons, List.map_nil, List.getD_cons_zero, List.getD_cons_succ, List.length_cons, List.length_nil, e0, e1]
        simp; omega
      · intro k hk1 hk2
        match k, hk1, hk2 with
        | 1, _, _ => simp only [oct, List.map_cons, List.map_nil, List.getD_cons_zero, List.getD_cons_succ, e1]; omega
        | k + 2, _, hk2 => simp at hk2; omega
    · rw [if_neg h2]
      by_cases h3 : n < 65536
      · rw [if_pos h3]
        have e0 := u8 (224 + n / 4096) (by omega)
        have e1 := u8 (128 + n / 64 % 64) (by omega)
        have e2 := u8 (128 + n % 64) (by omega)
        refine ⟨?_, ?_, ?_⟩
        · simp only [oct, List.map_cons, List.map_nil, List.getD_cons_zero, List.length_cons, List.length_nil, e0]
          unfold sizeN; rw [if_neg (by omega), if_neg (by omega), if_pos (by omega)]
        · simp only [oct, runV, partN, List.map_cons, List.map_nil, List.getD_cons_zero, List.getD_cons_succ, List.length_cons, List.length_nil, e0, e1, e2]
          simp; omega
        · intro k hk1 hk2
          match k, hk1, hk2 with
          | 1, _, _ => simp only [oct, List.map_cons, List.map_nil, List.getD_cons_zero, List.getD_cons_succ, e1]; omega
          | 2, _, _ => simp only [oct, List.map_cons, List.map_nil, List.getD_cons_zero, List.getD_cons_succ, e2]; omega
          | k + 3, _, hk2 => simp at hk2; omega
      · rw [if_neg h3]
        have e0 := u8 (240 + n / 262144) (by omega)
        have e1 := u8 (128 + n / 4096 % 64) (by omega)
        have e2 := u8 (128 + n / 64 % 64) (by omega)
        have e3 := u8 (128 + n % 64) (by omega)
        refine ⟨?_, ?_, ?_⟩
        · simp only [oct, List.map_cons, List.map_nil, List.getD_cons_zero, List.length_cons, List.length_nil, e0]
          unfold sizeN; rw [if_neg (by omega), if_neg (by omega), if_neg (by omega), if_pos (by omega)]
        · simp only [oct, runV, partN, List.map_cons, List.map_nil, List.getD_cons_zero, List.getD_cons_succ, List.length_cons, List.length_nil, e0, e1, e2, e3]
          simp; omega
        · intro k hk1 hk2
          match k, hk1, hk2 with
          | 1, _, _ => simp only [oct, List.map_cons, List.map_nil, List.getD_cons_zero, List.getD_cons_succ, e1]; omega
          | 2, _, _ => simp only [oct, List.map_cons, List.map_nil, List.getD_cons_zero, List.getD_cons_succ, e2]; omega
          | 3, _, _ => simp only [oct, List.map_cons, List.map_nil, List.getD_cons_zero, List.getD_cons_succ, e3]; omega
          | k + 4, _, hk2 => simp at hk2; omega

theorem runV_app (a t : List UInt8) (m k : Nat) (h : k < a.length) : runV (a ++ t) m k = runV a m k := by
  induction k with
  | zero => unfold runV; rw [oct_app a t 0 h]
  | succ k ih => unfold runV; rw [ih (by omega), oct_app a t (k + 1) h]

theorem dec_none (l : List UInt8) (hl : l ≠ []) (h : ∀ c t, isChar c → l = encodeRune c ++ t → False) : dec l = (-1, 1) := by
  rcases dec_cases l hl with h' | ⟨c, t, hc, e⟩
  · exact h'
  · exact (h c t hc e).elim

theorem enc_app (c : Int) (h : isChar c) (t : List UInt8) :
    sizeN (oct (encodeRune c ++ t) 0) = (encodeRune c).length ∧ runV (encodeRune c ++ t) (partN (encodeRune c).length) ((encodeRune c).length - 1) = c ∧
    ∀ k, 1 ≤ k → k < (encodeRune c).length → 128 ≤ oct (encodeRune c ++ t) k ∧ oct (encodeRune c ++ t) k ≤ 191 := by
  have hl := enc_len c
  obtain ⟨n, rfl, hn⟩ := isChar_nat h
  obtain ⟨h1, h2, h3⟩ := enc_facts n hn
  refine ⟨by rw [oct_app _ _ _ (by omega)]; exact h1, by rw [runV_app _ _ _ _ (by omega)]; exact h2, fun k hk1 hk2 => by rw [oct_app _ _ _ hk2]; exact h3 k hk1 hk2⟩

theorem dec_short (l : List UInt8) (hl : l ≠ []) (h : sizeN (oct l 0) = 0 ∨ l.length < sizeN (oct l 0)) : dec l = (-1, 1) :=
  dec_none l hl (fun c t hc e => by
    subst e
    have h1 := (enc_app c hc t).1
    have hl := enc_len c
    rw [h1, List.length_append] at h
    omega)
theorem dec_broken (l : List UInt8) (hl : l ≠ []) (k : Nat) (h1 : 1 ≤ k) (h2 : k < sizeN (oct l 0)) (h : oct l k < 128 ∨ 191 < oct l k) : dec l = (-1, 1) :=
  dec_none l hl (fun c t hc e => by
    subst e
    have h3 := enc_app c hc t
    rw [h3.1] at h2
    have := h3.2.2 k h1 h2
    omega)
theorem dec_yes (l : List UInt8) (v : Int) (hc : isChar v) (h : l.take (sizeN (oct l 0)) = encodeRune v) : dec l = (v, sizeN (oct l 0)) := by
  have e : l = encodeRune v ++ l.drop (sizeN (oct l 0)) := by rw [← h, List.take_append_drop]
  have h1 := (enc_app v hc (l.drop (sizeN (oct l 0)))).1
  rw [← e] at h1
  rw [h1, e, dec_enc v hc]
theorem dec_no (l : List UInt8) (hl : l ≠ []) (h : ¬ (isChar (runV l (partN (sizeN (oct l 0))) (sizeN (oct l 0) - 1)) ∧ l.take (sizeN (oct l 0)) = encodeRune (runV l (partN (sizeN (oct l 0))) (sizeN (oct l 0) - 1)))) : dec l = (-1, 1) :=
  dec_none l hl (fun c t hc e => by
    subst e
    have h3 := enc_app c hc t
    rw [h3.1, h3.2.1] at h
    exact h ⟨hc, by simp⟩)

theorem runV_bound (l : List UInt8) (m : Nat) (hm : 0 < m) (hm' : m ≤ 128) (k : Nat) (hk : k ≤ 3) (h : ∀ j, 1 ≤ j → j ≤ k → 128 ≤ oct l j ∧ oct l j ≤ 191) : 0 ≤ runV l m k ∧ runV l m k ≤ 33554431 := by
  have h0 : oct l 0 % m < m := Nat.mod_lt _ hm
  match k, hk with
  | 0, _ => unfold runV; omega
  | 1, _ => have h1 := h 1 (by omega) (by omega); simp only [runV, Nat.zero_add]; omega
  | 2, _ => have h1 := h 1 (by omega) (by omega); have h2 := h 2 (by omega) (by omega); simp only [runV, Nat.zero_add, Nat.reduceAdd]; omega
  | 3, _ => have h1 := h 1 (by omega) (by omega); have h2 := h 2 (by omega) (by omega); have h3 := h 3 (by omega) (by omega); simp only [runV, Nat.zero_add, Nat.reduceAdd]; omega
end Go.Proofs.YtganmmkdcaphfaaGreatDoor.Utf
