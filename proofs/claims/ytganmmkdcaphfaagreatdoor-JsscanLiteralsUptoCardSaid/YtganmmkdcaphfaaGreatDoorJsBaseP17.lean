/-
  Part 17: RdText1, LitUniq.
-/
import Derived.Test.YtganmmkdcaphfaaGreatDoorJsBaseP12
import Derived.Test.YtganmmkdcaphfaaGreatDoorJsBaseP16
import Derived.Test.YtganmmkdcaphfaaGreatDoorJsBaseP14
/-
  Contract of the closure within the reader's text: characters up to the closing quote.
-/
namespace Go.Proofs.YtganmmkdcaphfaaGreatDoor.Rd
open Go.RowKit Go.Proofs.YtganmmkdcaphfaaGreatDoor.Oct Go.Proofs.YtganmmkdcaphfaaGreatDoor.Utf Go.Proofs.YtganmmkdcaphfaaGreatDoor.Build Go.Proofs.YtganmmkdcaphfaaGreatDoor.Val Go.Proofs.YtganmmkdcaphfaaGreatDoor.Lit Go.Proofs.YtganmmkdcaphfaaGreatDoor.Tl
open Go.Lib (encodeRune)

theorem hasPrefix_le {s p : List UInt8} (h : Lib.hasPrefix s p = true) : p.length ≤ s.length := by
  unfold Lib.hasPrefix at h
  exact (List.isPrefixOf_iff_prefix.1 h).length_le
/-- How many octets are not read yet. -/
def restLen (R : Nat) (w : World) : Nat := match w.cell? ⟨R, 0, none⟩ with | some (.string s) => s.size | _ => 0
theorem Rd.len {R : Nat} {l : List UInt8} {ov dv : Value} {w : World} (h : Rd R (S l) ov dv w) : restLen R w = l.length := by
  unfold restLen
  rw [h.cell0]
  exact size_S l

theorem take_len {n : Nat} {l a t : List UInt8} (h : takeP n l = some (a, t)) : a.length = n ∧ t.length + n = l.length := by
  unfold takeP at h
  by_cases h1 : n ≤ l.length
  · rw [if_pos h1] at h
    injection h with h
    injection h with h2 h3
    rw [← h2, ← h3, List.length_take, List.length_drop]
    omega
  · rw [if_neg h1] at h; cases h
theorem unit_len {l t : List UInt8} {n : Nat} (h : unitP l = some (n, t)) : t.length + 6 = l.length := by
  unfold unitP at h
  split at h
  · rename_i hp
    have h2 := hasPrefix_le hp
    cases hk : takeP 4 (l.drop 2) with
    | none => rw [hk] at h; cases h
    | some q =>
      obtain ⟨a, u⟩ := q
      rw [hk] at h
      simp only at h
      split at h
      · injection h with h
        injection h with h3 h4
        have := (take_len hk).2
        rw [List.length_drop] at this
        rw [← h4]
        simp only [List.length_cons, List.length_nil] at h2
        omega
      · cases h
  · cases h
theorem enc_len2 {c : Int} {t a u : List UInt8} (h : encP c t = some (a, u)) : u = t ∧ a.length ≤ 4 := by
  unfold encP at h
  split at h
  · injection h with h
    injection h with h1 h2
    rw [← h1]
    exact ⟨h2.symm, (enc_len c).2⟩
  · cases h
theorem char_len {l a t : List UInt8} (h : charP l = some (a, t)) : a.length + t.length ≤ l.length ∧ t.length < l.length := by
  unfold charP at h
  split at h
  · cases hk : unitP l with
    | none => rw [hk] at h; cases h
    | some q =>
      obtain ⟨c, u⟩ := q
      have h1 := unit_len hk
      rw [hk] at h
      simp only at h
      split at h
      · cases hk2 : unitP u with
        | none => rw [hk2] at h; cases h
        | some q2 =>
          obtain ⟨d, u2⟩ := q2
          have h2 := unit_len hk2
          rw [hk2] at h
          simp only at h
          obtain ⟨rfl, h3⟩ := enc_len2 h
          omega
      · obtain ⟨rfl, h3⟩ := enc_len2 h
        omega
  · have := take_len h
    omega

/-- What stands up to the closing quote, behind acc. -/
def insideF : Nat → List UInt8 → List UInt8 → Option (List UInt8 × List UInt8)
  | 0, _, _ => none
  | f + 1, l, acc =>
    if Lib.hasPrefix l [34] then some (acc, l.drop 1) else
      match charP l with
      | none => none
      | some (a, t) => insideF f t (acc ++ a)

/-- What text's closure reads. -/
def innerP (l : List UInt8) : Option (List UInt8 × List UInt8) := if Lib.hasPrefix l [34] then insideF l.length (l.drop 1) [] else none

/-- What the closure leaves of the reader. -/
def After (R : Nat) (ov dv : Value) (w : World) (o : Option (List UInt8 × List UInt8)) (W : World) : Prop :=
  Save R w W ∧ ∀ a t, o = some (a, t) → Rd R (S t) ov dv W

theorem After.below {R : Nat} {ov dv : Value} {w W W' : World} {o : Option (List UInt8 × List UInt8)} (hR : R < w.heap.size) (h : After R ov dv w o W) (hb : Below w.heap.size W W') : After R ov dv w o W' := by
  refine ⟨⟨hb.os.trans h.1.os, hb.tape.trans h.1.tape, hb.output.trans h.1.output, Nat.le_trans h.1.size hb.size, fun k hk hR => (hb.block k hk).trans (h.1.block k hk hR)⟩, fun a t e => ?_⟩
  unfold Rd
  rw [hb.block R hR]
  exact h.2 a t e

theorem has_save {B b R : Nat} {l : List UInt8} {W W' : World} {s : ByteArray} {ov dv : Value} (h : Has B b l W) (hr : Rd R s ov dv W) (hs : Save R W W') : Has B b l W' :=
  has_frame h fun j c T fz hj hT => hs.block j (Array.getElem?_eq_some_iff.1 hj).1 (fun e => by
    rw [e] at hj
    unfold Rd at hr
    rw [hr] at hj
    injection hj with hj
    injection hj with h1 h2 h3
    rcases hT with rfl | rfl
    · exact absurd h2 (by decide)
    · exact absurd h2 (by decide))

set_option maxHeartbeats 4000000 in
set_option maxRecDepth 100000 in
theorem text1_c (R q : Nat) (l : List UInt8) (ov dv : Value) (w : World) (hl : l.length ≤ 17592186044416) (h : Rd R (S l) ov dv w) (hq : w.cell? ⟨q, 0, none⟩ = some (.pointer (some ⟨R, 0, none⟩))) (hqR : q ≠ R) :
    Calls Tryz.prog 82 #[putG w.heap.size, .pointer (some ⟨q, 0, none⟩)] (fresh w) (Tells w.heap.size ((innerP l).map (·.1)) (After R ov dv w (innerP l))) := by
  have e9 := enter_put
  have hqlt := World.block_lt_of_cell? w _ hq
  have hRlt := h.lt
  have hf : Rd R (S l) ov dv (fresh w) := h.keep ((Below.refl _ w).alloc (Nat.le_refl _) _)
  have hm := must_c R (S l) (S [34]) ov dv (fresh w) hf
  have hqf : (fresh w).cell? ⟨q, 0, none⟩ = some (.pointer (some ⟨R, 0, none⟩)) := by
    rw [((Below.refl _ w).alloc (Nat.le_refl _) _).cell (p := ⟨q, 0, none⟩) hqlt]; exact hq
  have HQ : Hid (∀ W, Save R w W → W.cell? ⟨q, 0, none⟩ = some (.pointer (some ⟨R, 0, none⟩))) := fun W hs => by
    rw [← hq]
    simp [World.cell?, hs.block q hqlt hqR]
  simp only at hm
  have HRL := Lib.hid hRlt
  have HF : Hid (Save R w (fresh w)) := Save.of ((Below.refl _ w).alloc (Nat.le_refl _) _)
  have HH := Lib.hid (fresh_has w)
  have HRF := Lib.hid hf
  unfold mustP at hm
  clear h hf hq hqlt hRlt
  cases hp : Lib.hasPrefix l [34] with
  | false =>
    have e0 : innerP l = none := by unfold innerP; rw [hp]; rfl
    rw [e0]
    rw [hp] at hm
    go_enter Tryz.func82, Tryz.ntmps82
    go_wp2_with (first | (go_at_call 71; refine hm.mono ?_; rintro e1 Y1 ⟨rfl, h1⟩))
    exact ⟨rfl, rfl, HF.out.trans h1, fun a t e => by cases e⟩
  | true =>
    have e0 : innerP l = insideF l.length (l.drop 1) [] := by unfold innerP; rw [hp]; rfl
    rw [e0]
    rw [hp] at hm
    simp only [if_true] at hm
    have hd : ([34] : List UInt8).length = 1 := rfl
    rw [hd] at hm
    have hl1 : (l.drop 1).length < l.length := by
      have := hasPrefix_le hp
      rw [List.length_drop]
      simp only [List.length_cons, List.length_nil] at this
      omega
    generalize l.drop 1 = l1 at hm hl1 ⊢
    generalize l.length = f0 at hl hl1 ⊢
    obtain ⟨o, ho⟩ : ∃ o, insideF f0 l1 [] = o := ⟨_, rfl⟩
    have HO := Lib.hid ho
    rw [ho]
    clear ho hp e0
    go_enter Tryz.func82, Tryz.ntmps82
    go_wp2_with (first | (go_at_call 71; refine hm.mono ?_; rintro e1 Y1 ⟨rfl, h1, h2⟩; have H1 := Lib.hid (And.intro h1 h2); clear h1 h2))
    clear hm
    go_loopw [] (fun wr => ∃ (t acc : List UInt8) (f : Nat), Hid (t.length < f ∧ f ≤ f0 ∧ acc.length + t.length ≤ f0 ∧ insideF f t acc = o) ∧ Hid (Has w.heap.size w.heap.size acc wr) ∧ Hid (Rd R (S t) ov dv wr) ∧ Hid (Save R w wr)) (fun wr => restLen R wr)
    case atStart =>
      exact ⟨l1, [], f0, ⟨hl1, Nat.le_refl _, by simp; omega, HO.out⟩, has_save HH.out HRF.out H1.out.2, H1.out.1, HF.out.trans H1.out.2⟩
    case round =>
      obtain ⟨t, acc, f, hP, hH, hR, hS⟩ := hrel
      clear HO H1 HF HH HRF hqf
      obtain ⟨f, rfl⟩ : ∃ f', f = f' + 1 := ⟨f - 1, by have := hP.out.1; omega⟩
      obtain ⟨p1, p2, p3, p4⟩ := hP.out
      have hcq := HQ.out wr hS.out
      have htk := takes_c R (S t) (S [34]) ov dv wr hR.out
      simp only at htk
      unfold takesP at htk
      rw [insideF] at p4
      cases hp : Lib.hasPrefix t [34] with
      | true =>
        rw [hp] at htk p4
        simp only [if_true] at htk p4
        subst p4
        have hd : ([34] : List UInt8).length = 1 := rfl
        rw [hd] at htk
        clear p1 p2 p3
        go_wp2_with (first | (go_at_call 63; refine htk.mono ?_; rintro e2 Y2 ⟨rfl, h1, h2⟩; have H2 := Lib.hid (And.intro h1 h2); clear h1 h2))
        go_end0
        refine ⟨rfl, has_save hH.out hR.out H2.out.2, hS.out.trans H2.out.2, fun a u e => ?_⟩
        injection e with e
        injection e with e1 e2
        rw [← e2]
        exact H2.out.1
      | false =>
        rw [hp] at htk p4
        simp only [Bool.false_eq_true, if_false] at htk p4
        have HC := Lib.hid (fun W (h : Rd R (S t) ov dv W) => char_c R t ov dv W h)
        cases hk : charP t with
        | none =>
          rw [hk] at HC p4
          simp only at p4
          subst p4
          clear p1 p2 p3
          go_wp2_with (first
            | (go_at_call 63; refine htk.mono ?_; rintro e2 Y2 ⟨rfl, h1, h2⟩; have hcq2 := HQ.out Y2 (hS.out.trans h2); have H2 := Lib.hid (And.intro h1 h2); clear h1 h2)
            | (go_at_call 83; refine (HC.out _ H2.out.1).mono ?_; rintro e3 Y3 ⟨rfl, h3⟩))
          exact ⟨rfl, rfl, (hS.out.trans H2.out.2).trans h3, fun a u e => by cases e⟩
        | some q2 =>
          obtain ⟨a, u⟩ := q2
          obtain ⟨k1, k2⟩ := char_len hk
          rw [hk] at HC p4
          simp only at p4
          have HK := Lib.hid (And.intro k1 k2)
          clear p1 p2 p3 k1 k2
          go_wp2_with (first
            | (go_at_call 63; refine htk.mono ?_; rintro e2 Y2 ⟨rfl, h1, h2⟩; have hcq2 := HQ.out Y2 (hS.out.trans h2); have H2 := Lib.hid (And.intro h1 h2); clear h1 h2)
            | (go_at_call 83; refine (HC.out _ H2.out.1).mono ?_; rintro e3 Y3 ⟨rfl, h3, h4⟩; have H3 := Lib.hid (And.intro h3 h4); clear h3 h4)
            | (go_at_fn 96; refine (put_c w.heap.size w.heap.size acc a Y3 (has_save (has_save hH.out hR.out H2.out.2) H2.out.1 H3.out.2) (by have := hP.out; have := HK.out; omega) (Nat.le_trans hS.out.size (Nat.le_trans H2.out.2.size H3.out.2.size))).mono ?_; rintro e4 Y4 h4; obtain rfl := h4.1; have H4 := Lib.hid h4; clear h4))
          go_roundw
          case rel =>
            have h4 := H4.out.2.2.1
            have hS3 := (hS.out.trans H2.out.2).trans H3.out.2
            have hA := After.below (o := some (a, u)) HRL.out ⟨hS3, fun a' t' e => by injection e with e; injection e with e1 e2; rw [← e2]; exact H3.out.1⟩ h4
            refine ⟨u, acc ++ a, f, ⟨by have := hP.out.1; have := HK.out.2; omega, by have := hP.out.2.1; omega, ?_, p4⟩, H4.out.2.1, hA.2 a u rfl, hA.1⟩
            have := hP.out.2.2.1; have := HK.out.1
            rw [List.length_append]
            omega
          case measure =>
            have h4 := H4.out.2.2.1
            have hr : Rd R (S u) ov dv Y4 := by unfold Rd; rw [h4.block R HRL.out]; exact H3.out.1
            rw [hr.len, hR.out.len]
            exact HK.out.2
end Go.Proofs.YtganmmkdcaphfaaGreatDoor.Rd

/-
  Plain facts on literals, with no program: where a literal ends is told by itself, or by the comma or bracket behind it; so no text that ends within a string, a list or a record is a literal.
-/
namespace Go.Proofs.YtganmmkdcaphfaaGreatDoor.Lit
open Go.Proofs.YtganmmkdcaphfaaGreatDoor.Oct Go.Proofs.YtganmmkdcaphfaaGreatDoor.Num Go.Proofs.YtganmmkdcaphfaaGreatDoor.Utf Go.Proofs.YtganmmkdcaphfaaGreatDoor.Val

/-- Two runs of octets that keep a condition, each followed by one that does not, or by nothing. -/
theorem span_uniq (P : UInt8 → Bool) : ∀ (a b t1 t2 : List UInt8), a ++ t1 = b ++ t2 → (∀ c ∈ a, P c = true) → (∀ c ∈ b, P c = true) → (∀ c r, t1 = c :: r → P c = false) → (∀ c r, t2 = c :: r → P c = false) → a = b ∧ t1 = t2
  | [], [], _, _, h, _, _, _, _ => ⟨rfl, h⟩
  | [], y :: b, t1, t2, h, _, hb, h1, _ => by
    have := h1 y (b ++ t2) h
    rw [hb y (by simp)] at this
    cases this
  | x :: a, [], t1, t2, h, ha, _, _, h2 => by
    have := h2 x (a ++ t1) h.symm
    rw [ha x (by simp)] at this
    cases this
  | x :: a, y :: b, t1, t2, h, ha, hb, h1, h2 => by
    simp only [List.cons_append, List.cons.injEq] at h
    obtain ⟨rfl, h⟩ := h
    obtain ⟨rfl, rfl⟩ := span_uniq P a b t1 t2 h (fun c hc => ha c (by simp [hc])) (fun c hc => hb c (by simp [hc])) h1 h2
    exact ⟨rfl, rfl⟩

/-- An octet of a number's literal. -/
def numC (c : UInt8) : Bool := c == 32 || c == 45 || (48 ≤ c && c ≤ 57)
/-- An octet that is no quote. -/
def noQ (c : UInt8) : Bool := !(c == 34)

theorem dig_num (d : Nat) (h : d < 10) : numC (dig d) = true := by
  have : ∀ d : Fin 10, numC (dig d.val) = true := by decide
  exact this ⟨d, h⟩
theorem decL_num (u : Nat) : ∀ c ∈ decL u, numC c = true := by
  intro c hc
  simp only [decL, List.mem_map, List.mem_reverse] at hc
  obtain ⟨d, hd, rfl⟩ := hc
  exact dig_num d (lowL_lt u d hd)
theorem printL_num (n : Int) : (∀ c ∈ printL n, numC c = true) ∧ printL n ≠ [] := by
  unfold printL
  split
  · refine ⟨fun c hc => ?_, by simp⟩
    rcases List.mem_cons.1 hc with rfl | hc
    · rfl
    · exact decL_num _ c hc
  · exact ⟨decL_num _, decL_ne _⟩
theorem hexDig_q (d : Nat) (h : d < 16) : noQ (hexDig d) = true := by
  have : ∀ d : Fin 16, noQ (hexDig d.val) = true := by decide +kernel
  exact this ⟨d, h⟩
theorem escL_q (n : Nat) : ∀ c ∈ escL n, noQ c = true := by
  intro c hc
  simp only [escL, List.mem_append, List.mem_cons, List.not_mem_nil, or_false, hexL, List.mem_map, List.mem_range] at hc
  rcases hc with (rfl | rfl) | ⟨k, hk, rfl⟩
  · rfl
  · rfl
  · exact hexDig_q _ (Nat.mod_lt _ (by omega))
theorem charL_q (c : Int) : ∀ o ∈ charL c, noQ o = true := by
  intro o ho
  unfold charL at ho
  split at ho
  · rename_i hb
    simp only [List.mem_cons, List.not_mem_nil, or_false] at ho
    subst ho
    simp only [bareB, decide_eq_true_eq] at hb
    have hn : c.toNat < 256 := by omega
    have hne : c.toNat ≠ 34 := by omega
    simp only [noQ, Bool.not_eq_true', beq_eq_false_iff_ne]
    intro e
    have := congrArg UInt8.toNat e
    rw [u8 _ hn] at this
    exact hne this
  · split at ho
    · rcases List.mem_append.1 ho with h | h
      · exact escL_q _ o h
      · exact escL_q _ o h
    · exact escL_q _ o ho
theorem insideL_q (cs : List Int) : ∀ o ∈ insideL cs, noQ o = true := by
  intro o ho
  simp only [insideL, List.mem_flatMap] at ho
  obtain ⟨c, _, h⟩ := ho
  exact charL_q c o h

theorem quote_uniq (a b : ByteArray) (t1 t2 : List UInt8) (h : quoteL a ++ t1 = quoteL b ++ t2) : quoteL a = quoteL b ∧ t1 = t2 := by
  simp only [quoteL, List.append_assoc, List.cons_append, List.nil_append, List.cons.injEq, true_and] at h
  obtain ⟨h1, h2⟩ := span_uniq noQ _ _ _ _ h (insideL_q _) (insideL_q _) (fun c r e => by cases e; rfl) (fun c r e => by cases e; rfl)
  refine ⟨by simp only [quoteL, h1], by simpa using h2⟩

/-- The key at the head, with its sign. -/
def keyHd (r : Bool) (ks : List ByteArray) : List UInt8 := if r then (match ks with | key :: _ => quoteL key ++ [58] | [] => []) else []
/-- What stands between the brackets, from the front. -/
def itemsL (r : Bool) : Bool → List ByteArray → List (List UInt8) → List UInt8
  | _, _, [] => []
  | first, ks, t :: ts => (if first then [] else [44]) ++ (keyHd r ks ++ (t ++ itemsL r false ks.tail ts))

theorem key_hd (r : Bool) (ks : List ByteArray) (k : Nat) : keyHd r (ks.drop k) = keyAt r ks k := by
  unfold keyHd keyAt
  cases r with
  | false => rfl
  | true =>
    by_cases h : k < ks.length
    · rw [List.drop_eq_getElem_cons h]
      simp [h]
    · rw [List.drop_eq_nil_of_le (by omega)]
      simp [List.getElem?_eq_none (show ks.length ≤ k by omega)]
theorem join_items (r : Bool) (ks : List ByteArray) (ts : List (List UInt8)) : ∀ m k, k + m = ts.length → joinK r ks ts k ++ itemsL r (decide (k = 0)) (ks.drop k) (ts.drop k) = joinK r ks ts ts.length
  | 0, k, h => by
    have : k = ts.length := by omega
    subst this
    rw [List.drop_length]
    simp [itemsL]
  | m + 1, k, h => by
    have hk : k < ts.length := by omega
    rw [← join_items r ks ts m (k + 1) (by omega), List.drop_eq_getElem_cons hk, itemsL, joinK, key_hd, List.tail_drop]
    simp [hk]
theorem join_front (r : Bool) (ks : List ByteArray) (ts : List (List UInt8)) : joinK r ks ts ts.length = itemsL r true ks ts := by
  have := join_items r ks ts ts.length 0 (by omega)
  simpa [joinK] using this.symm
end Go.Proofs.YtganmmkdcaphfaaGreatDoor.Lit
