/-
  Part 19: ValBulk, LitBulk, RdText.
-/
import Derived.Test.YtganmmkdcaphfaaGreatDoorJsBaseP18
import Derived.Test.YtganmmkdcaphfaaGreatDoorRows
import Derived.Test.YtganmmkdcaphfaaGreatDoorJsBaseP17
/-
  A value that came in, as the row reads it, opened as a tree whose bulk is no greater than the reading's.
-/
namespace Go.Proofs.YtganmmkdcaphfaaGreatDoor.Val
open Go.RowKit Go.Proofs.YtganmmkdcaphfaaGreatDoor.Oct

variable {H : Type} {enc : TypeId × Value → H} {w : World} {base : Nat} {spare : Nat → Bool} {held : Bool}

/-- How much texts hold. -/
def keysB : List ByteArray → Nat
  | [] => 0
  | k :: ks => k.size + 1 + keysB ks
mutual
/-- How much a value holds. -/
def bulkV : V → Nat
  | .mk _ _ s l ks => s.size + keysB ks + bulkL l + 6
def bulkL : List V → Nat
  | [] => 0
  | x :: l => bulkV x + bulkL l
end

theorem keys_le : ∀ (ks : List ByteArray) (ds : List (DataW H)), ks.length = ds.length → (∀ i (h : i < ks.length) d, ds[i]? = some d → ks[i].size + 1 ≤ Rows.uptoBulk d) → keysB ks ≤ Rows.uptoBulkAll ds
  | [], [], _, _ => Nat.le_refl _
  | k :: ks, d :: ds, hl, h => by
    have h0 := h 0 (by simp) d rfl
    have h1 := keys_le ks ds (by simpa using hl) (fun i hi d hd => h (i + 1) (by simpa using hi) d (by simpa using hd))
    simp only [keysB, Rows.uptoBulkAll]
    simp at h0
    omega
theorem vals_le : ∀ (l : List V) (ds : List (DataW H)), l.length = ds.length → (∀ i (h : i < l.length) d, ds[i]? = some d → bulkV l[i] ≤ Rows.uptoBulk d) → bulkL l ≤ Rows.uptoBulkAll ds
  | [], [], _, _ => Nat.le_refl _
  | x :: l, d :: ds, hl, h => by
    have h0 := h 0 (by simp) d rfl
    have h1 := vals_le l ds (by simpa using hl) (fun i hi d hd => h (i + 1) (by simpa using hi) d (by simpa using hd))
    simp only [bulkL, Rows.uptoBulkAll]
    simp at h0
    omega

/-- A list of texts that came in. -/
theorem open_texts_b {fuel : Nat} {cs : List Value} {y : DataW H × List MemPlace} (h : DataW.trod enc Tryz.prog w base spare held fuel 23 cs = some y) (hs : ∀ n ∈ y.1.weights Tryz.prog 23, n ≤ reachBytes) :
    ∃ K ks, cs = [K] ∧ Texts (Old w.heap.size) w K ks ∧ keysB ks + 1 ≤ Rows.uptoBulk y.1 := by
  rcases DataW.trod_slice Tryz.underlying23 h with ⟨rfl, hy⟩ | ⟨a, len, cap, elems, rest, n, _, rfl, rfl, hb, hl, hm, hlen, hel, _⟩
  · exact ⟨_, [], rfl, ⟨none, 0, 0, 0, rfl, by simp, fun h => absurd h (by simp), fun i h => absurd h (by simp)⟩, by rw [hy]; simp [keysB, Rows.uptoBulk]⟩
  · have key : ∀ i, i < len → ∃ s : ByteArray, w.cell? (a.add i) = some (.string s) ∧ s.size ≤ 140737488351232 ∧ ∀ d, (elems.map (·.1))[i]? = some d → s.size + 1 ≤ Rows.uptoBulk d := fun i hi => by
      have h1 := hel i hi
      rw [List.getElem?_eq_getElem (by omega), Option.bind_eq_some_iff] at h1
      obtain ⟨cs', h2, h3⟩ := h1
      obtain ⟨s, rfl, hys⟩ := DataW.trod_string Tryz.underlying9 h3
      have hsz : s.size ≤ 140737488351232 := by
        have h9 := hs s.data.toList.length (by
          simp only [DataW.weights, Tryz.underlying23, List.mem_cons, List.mem_append]
          exact .inr (.inl (weights_mem_all (List.mem_map.2 ⟨elems[i], List.getElem_mem _, rfl⟩) _ (by rw [hys.1]; simp [DataW.weights]))))
        rw [size_list] at h9
        exact h9
      rw [cells_one9, Nat.mul_one] at h2
      obtain ⟨_, _, hat⟩ := World.cells?_some h2
      have h4 := hat 0 (by omega)
      rw [add_zero'] at h4
      refine ⟨s, h4, hsz, fun d hd => ?_⟩
      rw [List.getElem?_map, List.getElem?_eq_getElem (by omega), Option.map_some, Option.some.injEq] at hd
      rw [← hd, hys.1]
      show s.size + 1 ≤ s.data.toList.length + 1
      rw [size_list]
      exact Nat.le_refl _
    obtain ⟨ks, hk, hp⟩ := list_of len key
    have hbound : len * 16 ≤ 140737488351232 := by
      have := hs ((elems.length + rest.length) * Tryz.prog.bytesOf 9) (by simp [DataW.weights, Tryz.underlying23])
      rw [bytes_text, hlen] at this
      have e : reachBytes = 140737488351232 := rfl
      have h2 : len * 16 ≤ (len + rest.length) * 16 := Nat.mul_le_mul_right _ (by omega)
      omega
    refine ⟨_, ks, rfl, ⟨some a, cap, a.block, a.off, by rw [hk], ⟨by rw [hk]; exact hbound, fun s h => by obtain ⟨i, hi, rfl⟩ := List.getElem_of_mem h; exact (hp i hi).2.1⟩, fun h0 => ?_, fun i hi => ?_⟩, ?_⟩
    · have h1 := (hp 0 h0).1
      rw [add_zero'] at h1
      exact ⟨congrArg some (no_spot h1), World.block_lt_of_cell? w a h1⟩
    · have h0 := (hp 0 (by omega)).1
      rw [add_zero'] at h0
      have h1 := (hp i hi).1
      rw [no_spot h0, Addr.add_lit] at h1
      exact h1
    · have := keys_le ks (elems.map (·.1)) (by simp [hk, hlen]) (fun i hi d hd => (hp i hi).2.2 d hd)
      simp only [Rows.uptoBulk]
      omega

set_option maxRecDepth 100000 in
/-- A value that came in. -/
theorem open_bulk (fuel : Nat) : ∀ (cs : List Value) (y : DataW H × List MemPlace), DataW.trod enc Tryz.prog w base spare held fuel 25 cs = some y → (∀ n ∈ y.1.weights Tryz.prog 25, n ≤ reachBytes) →
    ∃ u0 u1 u2 u3 u4 x, cs = [u0, u1, u2, u3, u4] ∧ Holds (Old w.heap.size) w (.agg #[u0, u1, u2, u3, u4]) x ∧ bulkV x ≤ Rows.uptoBulk y.1 := by
  induction fuel using Nat.strongRecOn with
  | ind fuel ih =>
    intro cs y h hs
    obtain ⟨xs, n, hfu, rfl, hlen, hxl, hf⟩ := DataW.trod_struct Tryz.underlying25 h
    rw [cells_five] at hlen
    obtain ⟨u0, u1, u2, u3, u4, rfl⟩ : ∃ u0 u1 u2 u3 u4, cs = [u0, u1, u2, u3, u4] := by
      match cs, hlen with
      | [u0, u1, u2, u3, u4], _ => exact ⟨u0, u1, u2, u3, u4, rfl⟩
    obtain ⟨y0, y1, y2, y3, y4, rfl⟩ : ∃ y0 y1 y2 y3 y4, xs = [y0, y1, y2, y3, y4] := by
      match xs, (show xs.length = 5 from hxl) with
      | [y0, y1, y2, y3, y4], _ => exact ⟨y0, y1, y2, y3, y4, rfl⟩
    have f0 : DataW.trod enc Tryz.prog w base spare held n 3 [u0] = some y0 := by simpa [cells_one3] using hf 0 _ rfl
    have f1 : DataW.trod enc Tryz.prog w base spare held n 3 [u1] = some y1 := by simpa [cells_one3] using hf 1 _ rfl
    have f2 : DataW.trod enc Tryz.prog w base spare held n 9 [u2] = some y2 := by simpa [cells_one9] using hf 2 _ rfl
    have f3 : DataW.trod enc Tryz.prog w base spare held n 22 [u3] = some y3 := by simpa [cells_oneL] using hf 3 _ rfl
    have f4 : DataW.trod enc Tryz.prog w base spare held n 23 [u4] = some y4 := by simpa [cells_oneK] using hf 4 _ rfl
    obtain ⟨k, hk, hy0, wk⟩ := DataW.trod_int Tryz.underlying3 f0
    obtain ⟨m, hm, hy1, wm⟩ := DataW.trod_int Tryz.underlying3 f1
    obtain ⟨s, hst, hys, _⟩ := DataW.trod_string Tryz.underlying9 f2
    simp only [List.cons.injEq, and_true] at hk hm hst
    subst hk; subst hm; subst hst
    have wt : ∀ (j : Nat) (t : TypeId) (d : DataW H), ([3, 3, 9, 22, 23] : List TypeId)[j]? = some t → ([y0.1, y1.1, y2.1, y3.1, y4.1] : List (DataW H))[j]? = some d → ∀ n ∈ d.weights Tryz.prog t, n ≤ reachBytes := fun j t d ht hd n hn =>
      hs n (by
        simp only [List.map_cons, List.map_nil, DataW.weights, Tryz.underlying25]
        exact DataW.weights_mem_each ht hd n hn)
    obtain ⟨K, ks, hK, hT, hKb⟩ := open_texts_b f4 (wt 4 _ _ rfl rfl)
    simp only [List.cons.injEq, and_true] at hK
    subst hK
    have hsb : s.size ≤ 140737488351232 := by
      have := wt 2 _ _ rfl rfl s.data.toList.length (by rw [hys]; simp [DataW.weights])
      rw [size_list] at this
      exact this
    have hkr : -9223372036854775808 ≤ k ∧ k ≤ 9223372036854775807 := by simpa [Lit.wf, IntKind.min, IntKind.max, IntKind.signed, IntKind.bits] using wk
    have hmr : -9223372036854775808 ≤ m ∧ m ≤ 9223372036854775807 := by simpa [Lit.wf, IntKind.min, IntKind.max, IntKind.signed, IntKind.bits] using wm
    have hsum : Rows.uptoBulk (DataW.agg (H := H) [y0.1, y1.1, y2.1, y3.1, y4.1]) = s.size + Rows.uptoBulk y3.1 + Rows.uptoBulk y4.1 + 4 := by
      simp only [Rows.uptoBulk, Rows.uptoBulkAll, hy0, hy1, hys]
      rw [size_list]
      omega
    rcases DataW.trod_slice Tryz.underlying22 f3 with ⟨h0, hy3⟩ | ⟨a, len, cap, elems, rest, n', hn', hcs, hy3, hb, hl, hmx, hlen', hel, _⟩
    · simp only [List.cons.injEq, and_true] at h0
      subst h0
      exact ⟨_, _, _, _, _, .mk k m s [] ks, rfl, .mk k m s none 0 u4 [] ks 0 0 (fun _ _ => undef) ⟨hkr.1, hkr.2, hmr.1, hmr.2, hsb, by simp⟩ (fun h => absurd h (by simp)) (fun i j h => absurd h (by simp)) hT (fun i h => absurd h (by simp)), by
        show _ ≤ Rows.uptoBulk (DataW.agg [y0.1, y1.1, y2.1, y3.1, y4.1])
        rw [hsum, hy3]
        simp only [bulkV, bulkL, Rows.uptoBulk]
        omega⟩
    · simp only [List.cons.injEq, and_true] at hcs
      subst hcs
      have w3 := wt 3 _ _ rfl rfl
      rw [hy3] at w3
      simp only [DataW.weights, Tryz.underlying22] at w3
      have key : ∀ i, i < len → ∃ x : V, (∀ d, (elems.map (·.1))[i]? = some d → bulkV x ≤ Rows.uptoBulk d) ∧ (∀ j, j < 5 → ∃ u, w.cell? ((a.add (i * 5)).add j) = some u) ∧ Holds (Old w.heap.size) w (.agg #[((w.cell? ((a.add (i * 5)).add 0)).getD undef), ((w.cell? ((a.add (i * 5)).add 1)).getD undef), ((w.cell? ((a.add (i * 5)).add 2)).getD undef), ((w.cell? ((a.add (i * 5)).add 3)).getD undef), ((w.cell? ((a.add (i * 5)).add 4)).getD undef)]) x := fun i hi => by
        have h1 := hel i hi
        rw [List.getElem?_eq_getElem (by omega), Option.bind_eq_some_iff] at h1
        obtain ⟨cs', h2, h3⟩ := h1
        obtain ⟨c0, c1, c2, c3, c4, x, rfl, hx, hxb⟩ := ih n' (by omega) cs' _ h3 (fun n hn => w3 n (by
          simp only [List.mem_cons, List.mem_append]
          exact .inr (.inl (weights_mem_all (List.mem_map.2 ⟨elems[i], List.getElem_mem _, rfl⟩) n hn))))
        rw [cells_five] at h2
        obtain ⟨_, _, hat⟩ := World.cells?_some h2
        refine ⟨x, fun d hd => ?_, fun j hj => ?_, ?_⟩
        · rw [List.getElem?_map, List.getElem?_eq_getElem (by omega), Option.map_some, Option.some.injEq] at hd
          rw [← hd]
          exact hxb
        · rw [hat j hj]
          match j, hj with
          | 0, _ => exact ⟨_, rfl⟩
          | 1, _ => exact ⟨_, rfl⟩
          | 2, _ => exact ⟨_, rfl⟩
          | 3, _ => exact ⟨_, rfl⟩
          | 4, _ => exact ⟨_, rfl⟩
        · rw [hat 0 (by omega), hat 1 (by omega), hat 2 (by omega), hat 3 (by omega), hat 4 (by omega)]
          exact hx
      obtain ⟨l, hll, hp⟩ := list_of len key
      have hbound : l.length * 80 ≤ 140737488351232 := by
        have := w3 ((elems.length + rest.length) * Tryz.prog.bytesOf 25) (by simp)
        rw [bytes_value, hlen'] at this
        have e : reachBytes = 140737488351232 := rfl
        have h2 : len * 80 ≤ (len + rest.length) * 80 := Nat.mul_le_mul_right _ (by omega)
        omega
      have hlit : ∀ i j, 0 < l.length → (a.add (i * 5)).add j = ⟨a.block, a.off + (i * 5 + j), none⟩ := fun i j h0 => by
        obtain ⟨u, hu⟩ := (hp 0 h0).2.1 0 (by omega)
        rw [Nat.zero_mul, add_zero', add_zero'] at hu
        rw [no_spot hu, Addr.add_lit, Addr.add_lit, Nat.add_assoc]
      refine ⟨_, _, _, _, _, .mk k m s l ks, rfl, ?_, by
        have hL := vals_le l (elems.map (·.1)) (by simp [hll, hlen']) (fun i hi d hd => (hp i hi).1 d hd)
        show _ ≤ Rows.uptoBulk (DataW.agg [y0.1, y1.1, y2.1, y3.1, y4.1])
        rw [hsum, hy3]
        simp only [bulkV, Rows.uptoBulk]
        omega⟩
      rw [← hll]
      refine .mk k m s (some a) cap u4 l ks a.block a.off (fun i j => (w.cell? ((a.add (i * 5)).add j)).getD undef) ⟨hkr.1, hkr.2, hmr.1, hmr.2, hsb, hbound⟩ (fun h0 => ?_) (fun i j hi hj => ?_) hT (fun i hi => (hp i hi).2.2)
      · obtain ⟨u, hu⟩ := (hp 0 h0).2.1 0 (by omega)
        rw [Nat.zero_mul, add_zero', add_zero'] at hu
        exact ⟨congrArg some (no_spot hu), World.block_lt_of_cell? w a hu⟩
      · obtain ⟨u, hu⟩ := (hp i hi).2.1 j hj
        show w.cell? _ = some ((w.cell? ((a.add (i * 5)).add j)).getD undef)
        rw [hu, ← hlit i j (by omega), hu]
        rfl
end Go.Proofs.YtganmmkdcaphfaaGreatDoor.Val

/-
  Plain facts: how long a value's literal is at most.
-/
namespace Go.Proofs.YtganmmkdcaphfaaGreatDoor.Lit
open Go.Proofs.YtganmmkdcaphfaaGreatDoor.Oct Go.Proofs.YtganmmkdcaphfaaGreatDoor.Num Go.Proofs.YtganmmkdcaphfaaGreatDoor.Utf Go.Proofs.YtganmmkdcaphfaaGreatDoor.Val

theorem charL_le (c : Int) : (charL c).length ≤ 12 := by
  unfold charL
  split
  · simp
  · split
    · simp [escL_len]
    · simp [escL_len]
theorem insideL_le (cs : List Int) : (insideL cs).length ≤ 12 * cs.length := by
  induction cs with
  | nil => simp [insideL]
  | cons c cs ih =>
    have e : insideL (c :: cs) = charL c ++ insideL cs := rfl
    rw [e, List.length_append, List.length_cons]
    have := charL_le c
    omega
theorem quoteL_le (s : ByteArray) : (quoteL s).length ≤ 12 * s.size + 2 := by
  have h1 := insideL_le (chars s.data.toList)
  have h2 := chars_len s.data.toList
  rw [size_list] at h2
  simp [quoteL]
  omega
theorem printL_le (n : Int) (h0 : -9223372036854775808 ≤ n) (h1 : n ≤ 9223372036854775807) : (printL n).length ≤ 20 := by
  have := lowL_len (u := n.natAbs) (by omega)
  rw [← decL_len] at this
  unfold printL
  split
  · simp; omega
  · omega
theorem itemsL_le (r : Bool) : ∀ (ts : List (List UInt8)) (first : Bool) (ks : List ByteArray) (B : Nat), (∀ (l : List V), ts = l.map litL → (∀ x ∈ l, (litL x).length + 1 ≤ 12 * bulkV x) → ts.length = l.length → B = bulkL l → (itemsL r first ks ts).length ≤ 12 * B + 12 * keysB ks)
  | [], _, _, _, l, _, _, _, _ => by simp [itemsL]
  | t :: ts, first, ks, B, l, e, h, hlen, hB => by
    cases l with
    | nil => simp at hlen
    | cons x l =>
      simp only [List.map_cons, List.cons.injEq] at e
      have ih := itemsL_le r ts false ks.tail (bulkL l) l e.2 (fun y hy => h y (by simp [hy])) (by simpa using hlen) rfl
      have hx := h x (by simp)
      have hk : (keyHd r ks).length + 12 * keysB ks.tail ≤ 12 * keysB ks := by
        unfold keyHd
        cases r with
        | false => cases ks <;> simp [keysB]; omega
        | true =>
          cases ks with
          | nil => simp [keysB]
          | cons k ks =>
            have := quoteL_le k
            simp [keysB]
            omega
      rw [hB, itemsL, e.1]
      simp only [List.length_append, bulkL]
      have hc : (if first then ([] : List UInt8) else [44]).length ≤ 1 := by split <;> simp
      omega

/-- Its numbers are numbers of 64 bits. -/
inductive Nums : V → Prop where
  | mk (k n : Int) (s : ByteArray) (l : List V) (ks : List ByteArray) (hn : -9223372036854775808 ≤ n ∧ n ≤ 9223372036854775807) (hl : ∀ x ∈ l, Nums x) : Nums (.mk k n s l ks)
theorem holds_nums {C : Cond} {w : World} {v : Value} {x : V} (h : Holds C w v x) : Nums x := by
  induction h with
  | mk k n s p cap K l ks b off c hr hp hc hK hl ih =>
    refine .mk k n s l ks ⟨hr.2.2.1, hr.2.2.2.1⟩ (fun x hx => ?_)
    obtain ⟨i, hi, rfl⟩ := List.getElem_of_mem hx
    exact ih i hi

theorem lit_bulk {x : V} (h : Nums x) : (litL x).length + 1 ≤ 12 * bulkV x := by
  induction h with
  | mk k n s l ks hn hl ih =>
    have hi : ∀ r, (joinK r ks (litAll l) (litAll l).length).length ≤ 12 * bulkL l + 12 * keysB ks := fun r => by
      rw [join_front, litAll_eq]
      exact itemsL_le r _ true ks _ l rfl ih (by simp) rfl
    have h5 := hi false
    have h6 := hi true
    have hq := quoteL_le s
    have hp := printL_le n hn.1 hn.2
    simp only [bulkV]
    unfold litL
    split
    · simp; omega
    split
    · simp; omega
    split
    · simp; omega
    split
    · split
      · simp; omega
      · omega
    split
    · rw [brackL_len]; omega
    split
    · rw [brackL_len]; omega
    · omega
end Go.Proofs.YtganmmkdcaphfaaGreatDoor.Lit

/-
  Contract of the reader's text.
-/
namespace Go.Proofs.YtganmmkdcaphfaaGreatDoor.Rd
open Go.RowKit Go.Proofs.YtganmmkdcaphfaaGreatDoor.Oct Go.Proofs.YtganmmkdcaphfaaGreatDoor.Utf Go.Proofs.YtganmmkdcaphfaaGreatDoor.Build Go.Proofs.YtganmmkdcaphfaaGreatDoor.Val Go.Proofs.YtganmmkdcaphfaaGreatDoor.Lit Go.Proofs.YtganmmkdcaphfaaGreatDoor.Tl

theorem inside_len (f : Nat) : ∀ (l acc a t : List UInt8), insideF f l acc = some (a, t) → a.length + t.length ≤ acc.length + l.length ∧ t.length < l.length := by
  induction f with
  | zero => intro l acc a t h; cases h
  | succ f ih =>
    intro l acc a t h
    rw [insideF] at h
    split at h
    · rename_i hp
      have := hasPrefix_le hp
      simp only [List.length_cons, List.length_nil] at this
      injection h with h
      injection h with h1 h2
      rw [← h1, ← h2, List.length_drop]
      omega
    · cases hk : charP l with
      | none => rw [hk] at h; cases h
      | some q =>
        obtain ⟨b, u⟩ := q
        have h1 := char_len hk
        rw [hk] at h
        have h2 := ih u (acc ++ b) a t h
        rw [List.length_append] at h2
        omega
theorem inner_len {l a t : List UInt8} (h : innerP l = some (a, t)) : a.length + t.length ≤ l.length ∧ t.length < l.length := by
  unfold innerP at h
  split at h
  · have := inside_len _ _ _ _ _ h
    rw [List.length_drop] at this
    simp only [List.length_nil] at this
    omega
  · cases h

/-- What text reads. -/
def textP (l : List UInt8) : Option (List UInt8 × List UInt8) :=
  match innerP l with
  | none => none
  | some (a, t) => if quoteL (S a) = l.take (l.length - t.length) then some (a, t) else none

theorem enter_text1 : ∀ args w, (callFunc 82 args).run Tryz.prog w = .ok (.enter 82 args) w := enters_of Tryz.func82 (by kernel_rfl) rfl

set_option maxHeartbeats 4000000 in
set_option maxRecDepth 100000 in
theorem text_c (R : Nat) (l : List UInt8) (ov dv : Value) (w : World) (hl : l.length ≤ 1099511627776) (h : Rd R (S l) ov dv w) (hTT0 : ∀ W, Save R w W → Tabs W) :
    Calls Tryz.prog 73 #[.pointer (some ⟨R, 0, none⟩)] w (Reads R ov dv w (asS (textP l))) := by
  have hmf : ∀ (fn : Fn) (first cap : Array Value) (w : World), (Instr.makeFunc fn first cap).run Tryz.prog w = .ok (.func fn first cap) w := fun _ _ _ _ => rfl
  obtain ⟨w1, hw1⟩ : ∃ w1, w1 = w.alloc (.cells #[.pointer (some ⟨R, 0, none⟩)] 73) := ⟨_, rfl⟩
  have hb1 : Below w.heap.size w w1 := by rw [hw1]; exact (Below.refl _ w).alloc (Nat.le_refl _) _
  have hR1 := h.keep hb1
  have hRlt := h.lt
  have hbox : w1.heap[w.heap.size]? = some (.cells #[.pointer (some ⟨R, 0, none⟩)] 73 (0, 0)) := by rw [hw1]; exact heap_alloc_new w _
  have hcell : w1.cell? ⟨w.heap.size, 0, none⟩ = some (.pointer (some ⟨R, 0, none⟩)) := cell_of_row w1 w.heap.size 0 _ _ _ hbox
  have h1 := text1_c R w.heap.size l ov dv w1 (by omega) hR1 hcell (by omega)
  have hm := made_c 82 #[.pointer (some ⟨w.heap.size, 0, none⟩)] w1 _ _ enter_text1 h1 (fun W w' h1 h2 => h1.below hR1.lt h2)
  have c0 := hR1.cell0
  have HB := Lib.hid (And.intro hb1 (And.intro hcell hRlt))
  have hTW : Hid (∀ W, Save R w1 W → Tabs W) := fun W hs => hTT0 W ((Save.of hb1).trans hs)
  clear h1 hb1 hR1 h
  unfold textP
  cases hk : innerP l with
  | none =>
    rw [hk] at hm
    rw [hw1] at hm c0 hcell
    clear hw1 hbox
    go_enter Tryz.func73, Tryz.ntmps73
    go_wp2_with (first | (go_at_call 81; refine hm.mono ?_; rintro e2 W2 ⟨rfl, h2⟩))
    exact ⟨rfl, rfl, (Save.of ((Below.refl _ w).alloc (Nat.le_refl _) _)).trans h2.1⟩
  | some q =>
    obtain ⟨a, t⟩ := q
    have hlen := inner_len hk
    rw [hk] at hm
    have hql : (quoteL (S a)).length ≤ 70368744177664 := by have := quoteL_le (S a); rw [size_S] at this; omega
    have HQ := Lib.hid (fun W (hs : Save R w1 W) => quote_c (S a) (by rw [size_S]; omega) hql W (hTW.out W hs))
    have HK : Hid (∀ W2, After R ov dv w1 (some (a, t)) W2 → ∀ W, Below W2.heap.size W2 W → W.cell? ⟨w.heap.size, 0, none⟩ = some (.pointer (some ⟨R, 0, none⟩)) ∧ W.cell? ⟨R, 0, none⟩ = some (.string (S t)) ∧ Save R w1 W) := fun W2 h2 W hb => by
      have hs := h2.1.trans (Save.of hb)
      have hr := (h2.2 a t rfl).keep hb
      refine ⟨?_, hr.cell0, hs⟩
      rw [← HB.out.2.1]
      have hlt : w.heap.size < w1.heap.size := (Array.getElem?_eq_some_iff.1 hbox).1
      simp [World.cell?, hs.block w.heap.size hlt (by have := HB.out.2.2; omega)]
    rw [hw1] at HK HQ
    rw [hw1] at hm c0 hcell
    clear hw1 hbox
    obtain ⟨n, hn⟩ : ∃ n, n = l.length - t.length := ⟨_, rfl⟩
    have hn1 : (n : Int) ≤ ((S l).size : Int) := by rw [size_S]; omega
    have hn0 : (0 : Int) ≤ (n : Int) := by omega
    have hnw : IntKind.i64.wrap (n : Int) = n := by rw [IntKind.wrap_i64]; omega
    have hsub : ((S l).size : Int) - ((S t).size : Int) = (n : Int) := by rw [size_S, size_S]; omega
    have hcut : (S l).extract 0 n = S (l.take n) := cut_front _ _
    simp only
    rw [← hn]
    by_cases hE : quoteL (S a) = l.take n
    · rw [if_pos hE]
      have hbe : ((S (quoteL (S a))).toList == ((S l).extract 0 n).toList) = true := by rw [hcut, hE]; simp
      generalize S (quoteL (S a)) = Q0 at HQ hbe
      clear hcut hE hn hlen hql
      generalize S l = L0 at hm c0 hn1 hsub hbe
      generalize S t = T0 at HK hsub
      go_enter Tryz.func73, Tryz.ntmps73
      go_wp2_with (first | (go_at_call 81; refine hm.mono ?_; rintro e2 W2 ⟨rfl, h2⟩; have H2 := Lib.hid h2; clear h2))
      obtain ⟨a0, a1, a2⟩ := HK.out W2 H2.out W2.drew (Below.refl _ _).drew
      have HA := Lib.hid a2
      clear a2
      go_region_held3 (fun w' => w'.cell? ⟨w.heap.size, 0, none⟩ = some (.pointer (some ⟨R, 0, none⟩)) ∧ w'.cell? ⟨R, 0, none⟩ = some (.string T0))
        (first | with_reducible exact ⟨a0, a1⟩ | with_reducible exact ⟨b0, b1⟩)
        (first
          | (go_at_call 84; refine (HQ.out _ HA.out).mono ?_; rintro e3 W3 ⟨rfl, h3⟩; obtain ⟨b0, b1, b2⟩ := HK.out W2 H2.out W3 ((Below.refl _ W2).drew.trans h3); have H3 := Lib.hid h3; clear h3 b2)
          | (go_at_call 57; refine (demand_yes _ _).mono ?_; rintro e4 W4 ⟨rfl, rfl⟩))
      go_wp2_with fail
      go_ret
      exact ⟨rfl, (H2.out.2 a t rfl).keep ((Below.refl _ W2).drew.trans H3.out), (Save.of ((Below.refl _ w).alloc (Nat.le_refl _) _)).trans (H2.out.1.trans (Save.of ((Below.refl _ W2).drew.trans H3.out)))⟩
    · rw [if_neg hE]
      have hbe : ((S (quoteL (S a))).toList == ((S l).extract 0 n).toList) = false := by rw [hcut]; simpa using hE
      generalize S (quoteL (S a)) = Q0 at HQ hbe
      clear hcut hE hn hlen hql
      generalize S l = L0 at hm c0 hn1 hsub hbe
      generalize S t = T0 at HK hsub
      go_enter Tryz.func73, Tryz.ntmps73
      go_wp2_with (first | (go_at_call 81; refine hm.mono ?_; rintro e2 W2 ⟨rfl, h2⟩; have H2 := Lib.hid h2; clear h2))
      obtain ⟨a0, a1, a2⟩ := HK.out W2 H2.out W2.drew (Below.refl _ _).drew
      have HA := Lib.hid a2
      clear a2
      refine wp_region_held_drew (S := fun w' => w'.cell? ⟨w.heap.size, 0, none⟩ = some (.pointer (some ⟨R, 0, none⟩)) ∧ w'.cell? ⟨R, 0, none⟩ = some (.string T0)) (by kernel_rfl) ⟨a0, a1⟩ (fun hHeld => ?_)
      refine wpAnyH_take (i := 0) (v := ?_) rfl (by kernel_rfl) (by kernel_rfl) (by kernel_rfl) (fun _ _ _ h => h) (Or.inl ⟨by rfl, ?_⟩) (by assumption) ?_
      rotate_left
      · intro w hSw
        try dsimp only at hSw
        go_simp
        try with_reducible rfl
      (try simp only [Act.put]); (try simp only [List.setIfInBounds_toArray]); (try simp only [List.set_cons_succ]); (try simp only [List.set_cons_zero])
      refine wpAnyH_take (i := 2) (v := ?_) rfl (by kernel_rfl) (by kernel_rfl) (by kernel_rfl) (fun _ _ _ h => h) (Or.inl ⟨by rfl, ?_⟩) (by assumption) ?_
      rotate_left
      · intro w hSw
        try dsimp only at hSw
        go_simp
        try with_reducible rfl
      (try simp only [Act.put]); (try simp only [List.setIfInBounds_toArray]); (try simp only [List.set_cons_succ]); (try simp only [List.set_cons_zero])
      refine wpAnyH_take (i := 3) (v := ?_) rfl (by kernel_rfl) (by kernel_rfl) (by kernel_rfl) (fun _ _ _ h => h) (Or.inl ⟨by rfl, ?_⟩) (by assumption) ?_
      rotate_left
      · intro w hSw
        try dsimp only at hSw
        go_simp
        try with_reducible rfl
      (try simp only [Act.put]); (try simp only [List.setIfInBounds_toArray]); (try simp only [List.set_cons_succ]); (try simp only [List.set_cons_zero])
      refine wpAnyH_take (i := 4) (v := ?_) rfl (by kernel_rfl) (by kernel_rfl) (by kernel_rfl) (fun _ _ _ h => h) (Or.inl ⟨by rfl, ?_⟩) (by assumption) ?_
      rotate_left
      · intro w hSw
        try dsimp only at hSw
        go_simp
        try with_reducible rfl
      (try simp only [Act.put]); (try simp only [List.setIfInBounds_toArray]); (try simp only [List.set_cons_succ]); (try simp only [List.set_cons_zero])
      refine wpAnyH_take (i := 5) (v := ?_) rfl (by kernel_rfl) (by kernel_rfl) (by kernel_rfl) (fun _ _ _ h => h) (Or.inl ⟨by rfl, ?_⟩) (by assumption) ?_
      rotate_left
      · intro w hSw
        try dsimp only at hSw
        go_simp
        try with_reducible rfl
      (try simp only [Act.put]); (try simp only [List.setIfInBounds_toArray]); (try simp only [List.set_cons_succ]); (try simp only [List.set_cons_zero])
      refine wpAnyH_take (i := 6) (v := ?_) rfl (by kernel_rfl) (by kernel_rfl) (by kernel_rfl) (fun _ _ _ h => h) (Or.inl ⟨by rfl, ?_⟩) (by assumption) ?_
      rotate_left
      · intro w hSw
        try dsimp only at hSw
        go_simp
        try with_reducible rfl
      (try simp only [Act.put]); (try simp only [List.setIfInBounds_toArray]); (try simp only [List.set_cons_succ]); (try simp only [List.set_cons_zero])
      refine wpAnyH_take (i := 7) (v := ?_) rfl (by kernel_rfl) (by kernel_rfl) (by kernel_rfl) (fun _ _ _ h => h) (Or.inl ⟨by rfl, ?_⟩) (by assumption) ?_
      rotate_left
      · intro w hSw
        try dsimp only at hSw
        go_simp
        try with_reducible rfl
      (try simp only [Act.put]); (try simp only [List.setIfInBounds_toArray]); (try simp only [List.set_cons_succ]); (try simp only [List.set_cons_zero])
      refine wpAnyH_take (i := 8) (v := ?_) rfl (by kernel_rfl) (by kernel_rfl) (by kernel_rfl) (fun _ _ _ h => h) (Or.inl ⟨by rfl, ?_⟩) (by assumption) ?_
      rotate_left
      · intro w hSw
        try dsimp only at hSw
        go_simp
        try with_reducible rfl
      (try simp only [Act.put]); (try simp only [List.setIfInBounds_toArray]); (try simp only [List.set_cons_succ]); (try simp only [List.set_cons_zero])
      refine wpAnyH_take (i := 9) (v := ?_) rfl (by kernel_rfl) (by kernel_rfl) (by kernel_rfl) (fun _ _ _ h => h) (Or.inl ⟨by rfl, ?_⟩) (by assumption) ?_
      rotate_left
      · intro w hSw
        try dsimp only at hSw
        go_simp
        try with_reducible rfl
      (try simp only [Act.put]); (try simp only [List.setIfInBounds_toArray]); (try simp only [List.set_cons_succ]); (try simp only [List.set_cons_zero])
      refine wpAnyH_take (i := 10) (v := ?_) rfl (by kernel_rfl) (by kernel_rfl) (by kernel_rfl) (fun _ _ _ h => h) (Or.inl ⟨by rfl, ?_⟩) (by assumption) ?_
      rotate_left
      · intro w hSw
        try dsimp only at hSw
        go_simp
        try with_reducible rfl
      (try simp only [Act.put]); (try simp only [List.setIfInBounds_toArray]); (try simp only [List.set_cons_succ]); (try simp only [List.set_cons_zero])
      refine wpAnyH_take (i := 11) (v := ?_) rfl (by kernel_rfl) (by kernel_rfl) (by kernel_rfl) (fun _ _ _ h => h) (Or.inl ⟨by rfl, ?_⟩) (by assumption) ?_
      rotate_left
      · intro w hSw
        try dsimp only at hSw
        go_simp
        try with_reducible rfl
      (try simp only [Act.put]); (try simp only [List.setIfInBounds_toArray]); (try simp only [List.set_cons_succ]); (try simp only [List.set_cons_zero])
      refine wpAnyH_ready (rs := [1]) (by kernel_rfl) (by simp) ?_
      refine AllReadyH.cons rfl (fun K hK => ?_) AllReadyH.nil
      go_simp
      refine (HQ.out _ HA.out).mono ?_
      rintro e3 W3 ⟨rfl, h3⟩
      obtain ⟨b0, b1, b2⟩ := HK.out W2 H2.out W3 ((Below.refl _ W2).drew.trans h3)
      refine hK.out _ _ ⟨b0, b1⟩ (fun hHeld2 => ?_)
      clear hK K hHeld
      (try simp only [Act.put]); (try simp only [List.setIfInBounds_toArray]); (try simp only [List.set_cons_succ]); (try simp only [List.set_cons_zero])
      refine wpAnyH_take (i := 12) (v := ?_) rfl (by kernel_rfl) (by kernel_rfl) (by kernel_rfl) (fun _ _ _ h => h) (Or.inl ⟨by rfl, ?_⟩) (by assumption) ?_
      rotate_left
      · intro w hSw
        try dsimp only at hSw
        go_simp
        try with_reducible rfl
      (try simp only [Act.put]); (try simp only [List.setIfInBounds_toArray]); (try simp only [List.set_cons_succ]); (try simp only [List.set_cons_zero])
      refine wpAnyH_ready (rs := [13]) (by kernel_rfl) (by simp) ?_
      refine AllReadyH.cons rfl (fun K hK => ?_) AllReadyH.nil
      go_simp
      refine (demand_no _ _).mono ?_
      rintro e4 W4 ⟨rfl, rfl⟩
      exact ⟨rfl, rfl, (Save.of ((Below.refl _ w).alloc (Nat.le_refl _) _)).trans (H2.out.1.trans (Save.of ((Below.refl _ W2).drew.trans h3)))⟩
end Go.Proofs.YtganmmkdcaphfaaGreatDoor.Rd
