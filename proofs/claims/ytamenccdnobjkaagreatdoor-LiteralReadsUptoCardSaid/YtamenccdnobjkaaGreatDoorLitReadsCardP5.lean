/-
  Part 5: ValOpen, ValBulk, LitBulk, RdText, TlInt, TlLit, NumLeaves, NumParse, RdNumber, RdPart0, RdTok.
-/
import Derived.Test.YtamenccdnobjkaaGreatDoorLitReadsCardP1
import GoSem.ClaimJoined
import Derived.ChangeArms
import Derived.DataReads
import Derived.SizedLaws
import Derived.Test.YtamenccdnobjkaaGreatDoorRows
import Derived.Test.YtamenccdnobjkaaGreatDoorLitReadsCardP4
import Derived.Test.YtamenccdnobjkaaGreatDoorLitReadsCardP3
import Derived.Test.YtamenccdnobjkaaGreatDoorProg
import Derived.Lib.Hide
import Derived.Shelf.Strings.SlTrimAscii
/-
  A value that came in, as the row reads it, opened as a tree.
-/
namespace Go.Proofs.YtamenccdnobjkaaGreatDoor.Val
open Go.RowKit Go.Proofs.YtamenccdnobjkaaGreatDoor.Oct

variable {H : Type} {enc : TypeId × Value → H} {w : World} {base : Nat} {spare : Nat → Bool} {held : Bool}

theorem cells_one3 : Tryz.prog.cellsOf 3 = 1 := by kernel_rfl
theorem cells_one9 : Tryz.prog.cellsOf 9 = 1 := by kernel_rfl
theorem cells_oneL : Tryz.prog.cellsOf 23 = 1 := by kernel_rfl
theorem cells_oneK : Tryz.prog.cellsOf 24 = 1 := by kernel_rfl
theorem cells_five : Tryz.prog.cellsOf 26 = 5 := by kernel_rfl
theorem bytes_text : Tryz.prog.bytesOf 9 = 16 := by kernel_rfl
theorem bytes_value : Tryz.prog.bytesOf 26 = 80 := by kernel_rfl

/-- An address that is read bears no spot. -/
theorem no_spot {a : Addr} {v : Value} (h : w.cell? a = some v) : a = ⟨a.block, a.off, none⟩ := by
  obtain ⟨b, o, sp⟩ := a
  cases sp with
  | none => rfl
  | some x =>
    simp only [World.cell?] at h
    split at h <;> simp at h
theorem add_zero' (a : Addr) : a.add 0 = a := by simp [Addr.add]

theorem list_of {α : Type} {P : Nat → α → Prop} (n : Nat) (h : ∀ i, i < n → ∃ x, P i x) : ∃ l : List α, l.length = n ∧ ∀ i (hi : i < l.length), P i l[i] := by
  induction n with
  | zero => exact ⟨[], rfl, fun i hi => absurd hi (by simp)⟩
  | succ n ih =>
    obtain ⟨l, hl, hp⟩ := ih (fun i hi => h i (by omega))
    obtain ⟨x, hx⟩ := h n (by omega)
    refine ⟨l ++ [x], by simp [hl], fun i hi => ?_⟩
    rcases Nat.lt_or_ge i l.length with h1 | h1
    · rw [List.getElem_append_left h1]; exact hp i h1
    · have : i = l.length := by simp at hi; omega
      subst this
      simp [hl]
      exact hx

theorem weights_mem_all {P : Program} {e : TypeId} {ds : List (DataW H)} {d : DataW H} (hd : d ∈ ds) : ∀ n ∈ d.weights P e, n ∈ DataW.weightsAll P e ds := by
  induction ds with
  | nil => cases hd
  | cons d0 ds ih =>
    intro n hn
    simp only [DataW.weightsAll, List.mem_append]
    rcases List.mem_cons.1 hd with rfl | hd
    · exact .inl hn
    · exact .inr (ih hd n hn)

/-- A list of texts that came in. -/
theorem open_texts {fuel : Nat} {cs : List Value} {y : DataW H × List MemPlace} (h : DataW.trod enc Tryz.prog w base spare held fuel 24 cs = some y) (hs : ∀ n ∈ y.1.weights Tryz.prog 24, n ≤ reachBytes) :
    ∃ K ks, cs = [K] ∧ Texts (Old w.heap.size) w K ks := by
  rcases DataW.trod_slice Tryz.underlying24 h with ⟨rfl, _⟩ | ⟨a, len, cap, elems, rest, n, _, rfl, rfl, hb, hl, hm, hlen, hel, _⟩
  · exact ⟨_, [], rfl, none, 0, 0, 0, rfl, by simp, fun h => absurd h (by simp), fun i h => absurd h (by simp)⟩
  · have key : ∀ i, i < len → ∃ s : ByteArray, w.cell? (a.add i) = some (.string s) ∧ s.size ≤ 140737488351232 := fun i hi => by
      have h1 := hel i hi
      rw [List.getElem?_eq_getElem (by omega), Option.bind_eq_some_iff] at h1
      obtain ⟨cs', h2, h3⟩ := h1
      obtain ⟨s, rfl, hys⟩ := DataW.trod_string Tryz.underlying9 h3
      have hsz : s.size ≤ 140737488351232 := by
        have h9 := hs s.data.toList.length (by
          simp only [DataW.weights, Tryz.underlying24, List.mem_cons, List.mem_append]
          exact .inr (.inl (weights_mem_all (List.mem_map.2 ⟨elems[i], List.getElem_mem _, rfl⟩) _ (by rw [hys.1]; simp [DataW.weights]))))
        rw [size_list] at h9
        exact h9
      rw [cells_one9, Nat.mul_one] at h2
      obtain ⟨_, _, hat⟩ := World.cells?_some h2
      have h4 := hat 0 (by omega)
      rw [add_zero'] at h4
      exact ⟨s, h4, hsz⟩
    obtain ⟨ks, hk, hp⟩ := list_of len key
    have hbound : len * 16 ≤ 140737488351232 := by
      have := hs ((elems.length + rest.length) * Tryz.prog.bytesOf 9) (by simp [DataW.weights, Tryz.underlying24])
      rw [bytes_text, hlen] at this
      have e : reachBytes = 140737488351232 := rfl
      have h2 : len * 16 ≤ (len + rest.length) * 16 := Nat.mul_le_mul_right _ (by omega)
      omega
    refine ⟨_, ks, rfl, some a, cap, a.block, a.off, by rw [hk], ⟨by rw [hk]; exact hbound, fun s h => by obtain ⟨i, hi, rfl⟩ := List.getElem_of_mem h; exact (hp i hi).2⟩, fun h0 => ?_, fun i hi => ?_⟩
    · have h1 := (hp 0 h0).1
      rw [add_zero'] at h1
      exact ⟨congrArg some (no_spot h1), World.block_lt_of_cell? w a h1⟩
    · have h0 := (hp 0 (by omega)).1
      rw [add_zero'] at h0
      have h1 := (hp i hi).1
      rw [no_spot h0, Addr.add_lit] at h1
      exact h1

set_option maxRecDepth 100000 in
/-- A value that came in. -/
theorem open_val (fuel : Nat) : ∀ (cs : List Value) (y : DataW H × List MemPlace), DataW.trod enc Tryz.prog w base spare held fuel 26 cs = some y → (∀ n ∈ y.1.weights Tryz.prog 26, n ≤ reachBytes) →
    ∃ u0 u1 u2 u3 u4 x, cs = [u0, u1, u2, u3, u4] ∧ Holds (Old w.heap.size) w (.agg #[u0, u1, u2, u3, u4]) x := by
  induction fuel using Nat.strongRecOn with
  | ind fuel ih =>
    intro cs y h hs
    obtain ⟨xs, n, hfu, rfl, hlen, hxl, hf⟩ := DataW.trod_struct Tryz.underlying26 h
    rw [cells_five] at hlen
    obtain ⟨u0, u1, u2, u3, u4, rfl⟩ : ∃ u0 u1 u2 u3 u4, cs = [u0, u1, u2, u3, u4] := by
      match cs, hlen with
      | [u0, u1, u2, u3, u4], _ => exact ⟨u0, u1, u2, u3, u4, rfl⟩
    obtain ⟨y0, y1, y2, y3, y4, rfl⟩ : ∃ y0 y1 y2 y3 y4, xs = [y0, y1, y2, y3, y4] := by
      match xs, (show xs.length = 5 from hxl) with
      | [y0, y1, y2, y3, y4], _ => exact ⟨y0, y1, y2, y3, y4, rfl⟩
    have f0 : DataW.trod enc Tryz.prog w base spare held n 3 [u0] = some y0 := by simpa [cells_one3] using hf 0 _ rfl
    have f1 : DataW.trod enc Tryz.prog w base spare held n 3 [u1] = some y1 := by simpa [cells_one3] using hf 1 _ rfl
    have f2 : DataW.trod enc Tryz.prog w base spare held n 9 [u2] = some y2 := by simpa [cells_one9] using hf 2 _ rfl
    have f3 : DataW.trod enc Tryz.prog w base spare held n 23 [u3] = some y3 := by simpa [cells_oneL] using hf 3 _ rfl
    have f4 : DataW.trod enc Tryz.prog w base spare held n 24 [u4] = some y4 := by simpa [cells_oneK] using hf 4 _ rfl
    obtain ⟨k, hk, _, wk⟩ := DataW.trod_int Tryz.underlying3 f0
    obtain ⟨m, hm, _, wm⟩ := DataW.trod_int Tryz.underlying3 f1
    obtain ⟨s, hst, hys, _⟩ := DataW.trod_string Tryz.underlying9 f2
    simp only [List.cons.injEq, and_true] at hk hm hst
    subst hk; subst hm; subst hst
    have wt : ∀ (j : Nat) (t : TypeId) (d : DataW H), ([3, 3, 9, 23, 24] : List TypeId)[j]? = some t → ([y0.1, y1.1, y2.1, y3.1, y4.1] : List (DataW H))[j]? = some d → ∀ n ∈ d.weights Tryz.prog t, n ≤ reachBytes := fun j t d ht hd n hn =>
      hs n (by
        simp only [List.map_cons, List.map_nil, DataW.weights, Tryz.underlying26]
        exact DataW.weights_mem_each ht hd n hn)
    obtain ⟨K, ks, hK, hT⟩ := open_texts f4 (wt 4 _ _ rfl rfl)
    simp only [List.cons.injEq, and_true] at hK
    subst hK
    have hsb : s.size ≤ 140737488351232 := by
      have := wt 2 _ _ rfl rfl s.data.toList.length (by rw [hys]; simp [DataW.weights])
      rw [size_list] at this
      exact this
    have hkr : -9223372036854775808 ≤ k ∧ k ≤ 9223372036854775807 := by simpa [Lit.wf, IntKind.min, IntKind.max, IntKind.signed, IntKind.bits] using wk
    have hmr : -9223372036854775808 ≤ m ∧ m ≤ 9223372036854775807 := by simpa [Lit.wf, IntKind.min, IntKind.max, IntKind.signed, IntKind.bits] using wm
    rcases DataW.trod_slice Tryz.underlying23 f3 with ⟨h0, _⟩ | ⟨a, len, cap, elems, rest, n', hn', hcs, hy3, hb, hl, hmx, hlen', hel, _⟩
    · simp only [List.cons.injEq, and_true] at h0
      subst h0
      exact ⟨_, _, _, _, _, .mk k m s [] ks, rfl, .mk k m s none 0 u4 [] ks 0 0 (fun _ _ => undef) ⟨hkr.1, hkr.2, hmr.1, hmr.2, hsb, by simp⟩ (fun h => absurd h (by simp)) (fun i j h => absurd h (by simp)) hT (fun i h => absurd h (by simp))⟩
    · simp only [List.cons.injEq, and_true] at hcs
      subst hcs
      have w3 := wt 3 _ _ rfl rfl
      rw [hy3] at w3
      simp only [DataW.weights, Tryz.underlying23] at w3
      have key : ∀ i, i < len → ∃ x : V, (∀ j, j < 5 → ∃ u, w.cell? ((a.add (i * 5)).add j) = some u) ∧ Holds (Old w.heap.size) w (.agg #[((w.cell? ((a.add (i * 5)).add 0)).getD undef), ((w.cell? ((a.add (i * 5)).add 1)).getD undef), ((w.cell? ((a.add (i * 5)).add 2)).getD undef), ((w.cell? ((a.add (i * 5)).add 3)).getD undef), ((w.cell? ((a.add (i * 5)).add 4)).getD undef)]) x := fun i hi => by
        have h1 := hel i hi
        rw [List.getElem?_eq_getElem (by omega), Option.bind_eq_some_iff] at h1
        obtain ⟨cs', h2, h3⟩ := h1
        obtain ⟨c0, c1, c2, c3, c4, x, rfl, hx⟩ := ih n' (by omega) cs' _ h3 (fun n hn => w3 n (by
          simp only [List.mem_cons, List.mem_append]
          exact .inr (.inl (weights_mem_all (List.mem_map.2 ⟨elems[i], List.getElem_mem _, rfl⟩) n hn))))
        rw [cells_five] at h2
        obtain ⟨_, _, hat⟩ := World.cells?_some h2
        refine ⟨x, fun j hj => ?_, ?_⟩
        · rw [hat j hj]
          match j, hj with
          | 0, _ => exact ⟨_, rfl⟩
          | 1, _ => exact ⟨_, rfl⟩
          | 2, _ => exact ⟨_, rfl⟩
          | 3, _ => exact ⟨_, rfl⟩
          | 4, _ => exact ⟨_, rfl⟩
        · rw [hat 0 (by omega), hat 1 (by omega), hat 2 (by omega), hat 3 (by omega), hat 4 (by omega)]
          exact hx
      obtain ⟨l, hll, hp⟩ := list_of len key
      have hbound : l.length * 80 ≤ 140737488351232 := by
        have := w3 ((elems.length + rest.length) * Tryz.prog.bytesOf 26) (by simp)
        rw [bytes_value, hlen'] at this
        have e : reachBytes = 140737488351232 := rfl
        have h2 : len * 80 ≤ (len + rest.length) * 80 := Nat.mul_le_mul_right _ (by omega)
        omega
      have hlit : ∀ i j, 0 < l.length → (a.add (i * 5)).add j = ⟨a.block, a.off + (i * 5 + j), none⟩ := fun i j h0 => by
        obtain ⟨u, hu⟩ := (hp 0 h0).1 0 (by omega)
        rw [Nat.zero_mul, add_zero', add_zero'] at hu
        rw [no_spot hu, Addr.add_lit, Addr.add_lit, Nat.add_assoc]
      refine ⟨_, _, _, _, _, .mk k m s l ks, rfl, ?_⟩
      rw [← hll]
      refine .mk k m s (some a) cap u4 l ks a.block a.off (fun i j => (w.cell? ((a.add (i * 5)).add j)).getD undef) ⟨hkr.1, hkr.2, hmr.1, hmr.2, hsb, hbound⟩ (fun h0 => ?_) (fun i j hi hj => ?_) hT (fun i hi => (hp i hi).2)
      · obtain ⟨u, hu⟩ := (hp 0 h0).1 0 (by omega)
        rw [Nat.zero_mul, add_zero', add_zero'] at hu
        exact ⟨congrArg some (no_spot hu), World.block_lt_of_cell? w a hu⟩
      · obtain ⟨u, hu⟩ := (hp i hi).1 j hj
        show w.cell? _ = some ((w.cell? ((a.add (i * 5)).add j)).getD undef)
        rw [hu, ← hlit i j (by omega), hu]
        rfl
end Go.Proofs.YtamenccdnobjkaaGreatDoor.Val

/-
  A value that came in, as the row reads it, opened as a tree whose bulk is no greater than the reading's.
-/
namespace Go.Proofs.YtamenccdnobjkaaGreatDoor.Val
open Go.RowKit Go.Proofs.YtamenccdnobjkaaGreatDoor.Oct

variable {H : Type} {enc : TypeId × Value → H} {w : World} {base : Nat} {spare : Nat → Bool} {held : Bool}

/-- How much texts hold. -/
def keysB : List ByteArray → Nat
  | [] => 0
  | k :: ks => k.size + 1 + keysB ks
mutual
/-- How much a value holds. -/
def bulkV : V → Nat
  | .mk _ _ s l ks => s.size + keysB ks + bulkL l + 6
def bulkL : List V → Nat
  | [] => 0
  | x :: l => bulkV x + bulkL l
end

theorem keys_le : ∀ (ks : List ByteArray) (ds : List (DataW H)), ks.length = ds.length → (∀ i (h : i < ks.length) d, ds[i]? = some d → ks[i].size + 1 ≤ Rows.uptoBulk d) → keysB ks ≤ Rows.uptoBulkAll ds
  | [], [], _, _ => Nat.le_refl _
  | k :: ks, d :: ds, hl, h => by
    have h0 := h 0 (by simp) d rfl
    have h1 := keys_le ks ds (by simpa using hl) (fun i hi d hd => h (i + 1) (by simpa using hi) d (by simpa using hd))
    simp only [keysB, Rows.uptoBulkAll]
    simp at h0
    omega
theorem vals_le : ∀ (l : List V) (ds : List (DataW H)), l.length = ds.length → (∀ i (h : i < l.length) d, ds[i]? = some d → bulkV l[i] ≤ Rows.uptoBulk d) → bulkL l ≤ Rows.uptoBulkAll ds
  | [], [], _, _ => Nat.le_refl _
  | x :: l, d :: ds, hl, h => by
    have h0 := h 0 (by simp) d rfl
    have h1 := vals_le l ds (by simpa using hl) (fun i hi d hd => h (i + 1) (by simpa using hi) d (by simpa using hd))
    simp only [bulkL, Rows.uptoBulkAll]
    simp at h0
    omega

/-- A list of texts that came in. -/
theorem open_texts_b {fuel : Nat} {cs : List Value} {y : DataW H × List MemPlace} (h : DataW.trod enc Tryz.prog w base spare held fuel 24 cs = some y) (hs : ∀ n ∈ y.1.weights Tryz.prog 24, n ≤ reachBytes) :
    ∃ K ks, cs = [K] ∧ Texts (Old w.heap.size) w K ks ∧ keysB ks + 1 ≤ Rows.uptoBulk y.1 := by
  rcases DataW.trod_slice Tryz.underlying24 h with ⟨rfl, hy⟩ | ⟨a, len, cap, elems, rest, n, _, rfl, rfl, hb, hl, hm, hlen, hel, _⟩
  · exact ⟨_, [], rfl, ⟨none, 0, 0, 0, rfl, by simp, fun h => absurd h (by simp), fun i h => absurd h (by simp)⟩, by rw [hy]; simp [keysB, Rows.uptoBulk]⟩
  · have key : ∀ i, i < len → ∃ s : ByteArray, w.cell? (a.add i) = some (.string s) ∧ s.size ≤ 140737488351232 ∧ ∀ d, (elems.map (·.1))[i]? = some d → s.size + 1 ≤ Rows.uptoBulk d := fun i hi => by
      have h1 := hel i hi
      rw [List.getElem?_eq_getElem (by omega), Option.bind_eq_some_iff] at h1
      obtain ⟨cs', h2, h3⟩ := h1
      obtain ⟨s, rfl, hys⟩ := DataW.trod_string Tryz.underlying9 h3
      have hsz : s.size ≤ 140737488351232 := by
        have h9 := hs s.data.toList.length (by
          simp only [DataW.weights, Tryz.underlying24, List.mem_cons, List.mem_append]
          exact .inr (.inl (weights_mem_all (List.mem_map.2 ⟨elems[i], List.getElem_mem _, rfl⟩) _ (by rw [hys.1]; simp [DataW.weights]))))
        rw [size_list] at h9
        exact h9
      rw [cells_one9, Nat.mul_one] at h2
      obtain ⟨_, _, hat⟩ := World.cells?_some h2
      have h4 := hat 0 (by omega)
      rw [add_zero'] at h4
      refine ⟨s, h4, hsz, fun d hd => ?_⟩
      rw [List.getElem?_map, List.getElem?_eq_getElem (by omega), Option.map_some, Option.some.injEq] at hd
      rw [← hd, hys.1]
      show s.size + 1 ≤ s.data.toList.length + 1
      rw [size_list]
      exact Nat.le_refl _
    obtain ⟨ks, hk, hp⟩ := list_of len key
    have hbound : len * 16 ≤ 140737488351232 := by
      have := hs ((elems.length + rest.length) * Tryz.prog.bytesOf 9) (by simp [DataW.weights, Tryz.underlying24])
      rw [bytes_text, hlen] at this
      have e : reachBytes = 140737488351232 := rfl
      have h2 : len * 16 ≤ (len + rest.length) * 16 := Nat.mul_le_mul_right _ (by omega)
      omega
    refine ⟨_, ks, rfl, ⟨some a, cap, a.block, a.off, by rw [hk], ⟨by rw [hk]; exact hbound, fun s h => by obtain ⟨i, hi, rfl⟩ := List.getElem_of_mem h; exact (hp i hi).2.1⟩, fun h0 => ?_, fun i hi => ?_⟩, ?_⟩
    · have h1 := (hp 0 h0).1
      rw [add_zero'] at h1
      exact ⟨congrArg some (no_spot h1), World.block_lt_of_cell? w a h1⟩
    · have h0 := (hp 0 (by omega)).1
      rw [add_zero'] at h0
      have h1 := (hp i hi).1
      rw [no_spot h0, Addr.add_lit] at h1
      exact h1
    · have := keys_le ks (elems.map (·.1)) (by simp [hk, hlen]) (fun i hi d hd => (hp i hi).2.2 d hd)
      simp only [Rows.uptoBulk]
      omega

set_option maxRecDepth 100000 in
/-- A value that came in. -/
theorem open_bulk (fuel : Nat) : ∀ (cs : List Value) (y : DataW H × List MemPlace), DataW.trod enc Tryz.prog w base spare held fuel 26 cs = some y → (∀ n ∈ y.1.weights Tryz.prog 26, n ≤ reachBytes) →
    ∃ u0 u1 u2 u3 u4 x, cs = [u0, u1, u2, u3, u4] ∧ Holds (Old w.heap.size) w (.agg #[u0, u1, u2, u3, u4]) x ∧ bulkV x ≤ Rows.uptoBulk y.1 := by
  induction fuel using Nat.strongRecOn with
  | ind fuel ih =>
    intro cs y h hs
    obtain ⟨xs, n, hfu, rfl, hlen, hxl, hf⟩ := DataW.trod_struct Tryz.underlying26 h
    rw [cells_five] at hlen
    obtain ⟨u0, u1, u2, u3, u4, rfl⟩ : ∃ u0 u1 u2 u3 u4, cs = [u0, u1, u2, u3, u4] := by
      match cs, hlen with
      | [u0, u1, u2, u3, u4], _ => exact ⟨u0, u1, u2, u3, u4, rfl⟩
    obtain ⟨y0, y1, y2, y3, y4, rfl⟩ : ∃ y0 y1 y2 y3 y4, xs = [y0, y1, y2, y3, y4] := by
      match xs, (show xs.length = 5 from hxl) with
      | [y0, y1, y2, y3, y4], _ => exact ⟨y0, y1, y2, y3, y4, rfl⟩
    have f0 : DataW.trod enc Tryz.prog w base spare held n 3 [u0] = some y0 := by simpa [cells_one3] using hf 0 _ rfl
    have f1 : DataW.trod enc Tryz.prog w base spare held n 3 [u1] = some y1 := by simpa [cells_one3] using hf 1 _ rfl
    have f2 : DataW.trod enc Tryz.prog w base spare held n 9 [u2] = some y2 := by simpa [cells_one9] using hf 2 _ rfl
    have f3 : DataW.trod enc Tryz.prog w base spare held n 23 [u3] = some y3 := by simpa [cells_oneL] using hf 3 _ rfl
    have f4 : DataW.trod enc Tryz.prog w base spare held n 24 [u4] = some y4 := by simpa [cells_oneK] using hf 4 _ rfl
    obtain ⟨k, hk, hy0, wk⟩ := DataW.trod_int Tryz.underlying3 f0
    obtain ⟨m, hm, hy1, wm⟩ := DataW.trod_int Tryz.underlying3 f1
    obtain ⟨s, hst, hys, _⟩ := DataW.trod_string Tryz.underlying9 f2
    simp only [List.cons.injEq, and_true] at hk hm hst
    subst hk; subst hm; subst hst
    have wt : ∀ (j : Nat) (t : TypeId) (d : DataW H), ([3, 3, 9, 23, 24] : List TypeId)[j]? = some t → ([y0.1, y1.1, y2.1, y3.1, y4.1] : List (DataW H))[j]? = some d → ∀ n ∈ d.weights Tryz.prog t, n ≤ reachBytes := fun j t d ht hd n hn =>
      hs n (by
        simp only [List.map_cons, List.map_nil, DataW.weights, Tryz.underlying26]
        exact DataW.weights_mem_each ht hd n hn)
    obtain ⟨K, ks, hK, hT, hKb⟩ := open_texts_b f4 (wt 4 _ _ rfl rfl)
    simp only [List.cons.injEq, and_true] at hK
    subst hK
    have hsb : s.size ≤ 140737488351232 := by
      have := wt 2 _ _ rfl rfl s.data.toList.length (by rw [hys]; simp [DataW.weights])
      rw [size_list] at this
      exact this
    have hkr : -9223372036854775808 ≤ k ∧ k ≤ 9223372036854775807 := by simpa [Lit.wf, IntKind.min, IntKind.max, IntKind.signed, IntKind.bits] using wk
    have hmr : -9223372036854775808 ≤ m ∧ m ≤ 9223372036854775807 := by simpa [Lit.wf, IntKind.min, IntKind.max, IntKind.signed, IntKind.bits] using wm
    have hsum : Rows.uptoBulk (DataW.agg (H := H) [y0.1, y1.1, y2.1, y3.1, y4.1]) = s.size + Rows.uptoBulk y3.1 + Rows.uptoBulk y4.1 + 4 := by
      simp only [Rows.uptoBulk, Rows.uptoBulkAll, hy0, hy1, hys]
      rw [size_list]
      omega
    rcases DataW.trod_slice Tryz.underlying23 f3 with ⟨h0, hy3⟩ | ⟨a, len, cap, elems, rest, n', hn', hcs, hy3, hb, hl, hmx, hlen', hel, _⟩
    · simp only [List.cons.injEq, and_true] at h0
      subst h0
      exact ⟨_, _, _, _, _, .mk k m s [] ks, rfl, .mk k m s none 0 u4 [] ks 0 0 (fun _ _ => undef) ⟨hkr.1, hkr.2, hmr.1, hmr.2, hsb, by simp⟩ (fun h => absurd h (by simp)) (fun i j h => absurd h (by simp)) hT (fun i h => absurd h (by simp)), by
        show _ ≤ Rows.uptoBulk (DataW.agg [y0.1, y1.1, y2.1, y3.1, y4.1])
        rw [hsum, hy3]
        simp only [bulkV, bulkL, Rows.uptoBulk]
        omega⟩
    · simp only [List.cons.injEq, and_true] at hcs
      subst hcs
      have w3 := wt 3 _ _ rfl rfl
      rw [hy3] at w3
      simp only [DataW.weights, Tryz.underlying23] at w3
      have key : ∀ i, i < len → ∃ x : V, (∀ d, (elems.map (·.1))[i]? = some d → bulkV x ≤ Rows.uptoBulk d) ∧ (∀ j, j < 5 → ∃ u, w.cell? ((a.add (i * 5)).add j) = some u) ∧ Holds (Old w.heap.size) w (.agg #[((w.cell? ((a.add (i * 5)).add 0)).getD undef), ((w.cell? ((a.add (i * 5)).add 1)).getD undef), ((w.cell? ((a.add (i * 5)).add 2)).getD undef), ((w.cell? ((a.add (i * 5)).add 3)).getD undef), ((w.cell? ((a.add (i * 5)).add 4)).getD undef)]) x := fun i hi => by
        have h1 := hel i hi
        rw [List.getElem?_eq_getElem (by omega), Option.bind_eq_some_iff] at h1
        obtain ⟨cs', h2, h3⟩ := h1
        obtain ⟨c0, c1, c2, c3, c4, x, rfl, hx, hxb⟩ := ih n' (by omega) cs' _ h3 (fun n hn => w3 n (by
          simp only [List.mem_cons, List.mem_append]
          exact .inr (.inl (weights_mem_all (List.mem_map.2 ⟨elems[i], List.getElem_mem _, rfl⟩) n hn))))
        rw [cells_five] at h2
        obtain ⟨_, _, hat⟩ := World.cells?_some h2
        refine ⟨x, fun d hd => ?_, fun j hj => ?_, ?_⟩
        · rw [List.getElem?_map, List.getElem?_eq_getElem (by omega), Option.map_some, Option.some.injEq] at hd
          rw [← hd]
          exact hxb
        · rw [hat j hj]
          match j, hj with
          | 0, _ => exact ⟨_, rfl⟩
          | 1, _ => exact ⟨_, rfl⟩
          | 2, _ => exact ⟨_, rfl⟩
          | 3, _ => exact ⟨_, rfl⟩
          | 4, _ => exact ⟨_, rfl⟩
        · rw [hat 0 (by omega), hat 1 (by omega), hat 2 (by omega), hat 3 (by omega), hat 4 (by omega)]
          exact hx
      obtain ⟨l, hll, hp⟩ := list_of len key
      have hbound : l.length * 80 ≤ 140737488351232 := by
        have := w3 ((elems.length + rest.length) * Tryz.prog.bytesOf 26) (by simp)
        rw [bytes_value, hlen'] at this
        have e : reachBytes = 140737488351232 := rfl
        have h2 : len * 80 ≤ (len + rest.length) * 80 := Nat.mul_le_mul_right _ (by omega)
        omega
      have hlit : ∀ i j, 0 < l.length → (a.add (i * 5)).add j = ⟨a.block, a.off + (i * 5 + j), none⟩ := fun i j h0 => by
        obtain ⟨u, hu⟩ := (hp 0 h0).2.1 0 (by omega)
        rw [Nat.zero_mul, add_zero', add_zero'] at hu
        rw [no_spot hu, Addr.add_lit, Addr.add_lit, Nat.add_assoc]
      refine ⟨_, _, _, _, _, .mk k m s l ks, rfl, ?_, by
        have hL := vals_le l (elems.map (·.1)) (by simp [hll, hlen']) (fun i hi d hd => (hp i hi).1 d hd)
        show _ ≤ Rows.uptoBulk (DataW.agg [y0.1, y1.1, y2.1, y3.1, y4.1])
        rw [hsum, hy3]
        simp only [bulkV, Rows.uptoBulk]
        omega⟩
      rw [← hll]
      refine .mk k m s (some a) cap u4 l ks a.block a.off (fun i j => (w.cell? ((a.add (i * 5)).add j)).getD undef) ⟨hkr.1, hkr.2, hmr.1, hmr.2, hsb, hbound⟩ (fun h0 => ?_) (fun i j hi hj => ?_) hT (fun i hi => (hp i hi).2.2)
      · obtain ⟨u, hu⟩ := (hp 0 h0).2.1 0 (by omega)
        rw [Nat.zero_mul, add_zero', add_zero'] at hu
        exact ⟨congrArg some (no_spot hu), World.block_lt_of_cell? w a hu⟩
      · obtain ⟨u, hu⟩ := (hp i hi).2.1 j hj
        show w.cell? _ = some ((w.cell? ((a.add (i * 5)).add j)).getD undef)
        rw [hu, ← hlit i j (by omega), hu]
        rfl
end Go.Proofs.YtamenccdnobjkaaGreatDoor.Val

/-
  Plain facts: how long a value's literal is at most.
-/
namespace Go.Proofs.YtamenccdnobjkaaGreatDoor.Lit
open Go.Proofs.YtamenccdnobjkaaGreatDoor.Oct Go.Proofs.YtamenccdnobjkaaGreatDoor.Num Go.Proofs.YtamenccdnobjkaaGreatDoor.Utf Go.Proofs.YtamenccdnobjkaaGreatDoor.Val

theorem charL_le (c : Int) : (charL c).length ≤ 12 := by
  unfold charL
  split
  · simp
  · split
    · simp [escL_len]
    · simp [escL_len]
theorem insideL_le (cs : List Int) : (insideL cs).length ≤ 12 * cs.length := by
  induction cs with
  | nil => simp [insideL]
  | cons c cs ih =>
    have e : insideL (c :: cs) = charL c ++ insideL cs := rfl
    rw [e, List.length_append, List.length_cons]
    have := charL_le c
    omega
theorem quoteL_le (s : ByteArray) : (quoteL s).length ≤ 12 * s.size + 2 := by
  have h1 := insideL_le (chars s.data.toList)
  have h2 := chars_len s.data.toList
  rw [size_list] at h2
  simp [quoteL]
  omega
theorem printL_le (n : Int) (h0 : -9223372036854775808 ≤ n) (h1 : n ≤ 9223372036854775807) : (printL n).length ≤ 20 := by
  have := lowL_len (u := n.natAbs) (by omega)
  rw [← decL_len] at this
  unfold printL
  split
  · simp; omega
  · omega
theorem itemsL_le (r : Bool) : ∀ (ts : List (List UInt8)) (first : Bool) (ks : List ByteArray) (B : Nat), (∀ (l : List V), ts = l.map litL → (∀ x ∈ l, (litL x).length + 1 ≤ 12 * bulkV x) → ts.length = l.length → B = bulkL l → (itemsL r first ks ts).length ≤ 12 * B + 12 * keysB ks)
  | [], _, _, _, l, _, _, _, _ => by simp [itemsL]
  | t :: ts, first, ks, B, l, e, h, hlen, hB => by
    cases l with
    | nil => simp at hlen
    | cons x l =>
      simp only [List.map_cons, List.cons.injEq] at e
      have ih := itemsL_le r ts false ks.tail (bulkL l) l e.2 (fun y hy => h y (by simp [hy])) (by simpa using hlen) rfl
      have hx := h x (by simp)
      have hk : (keyHd r ks).length + 12 * keysB ks.tail ≤ 12 * keysB ks := by
        unfold keyHd
        cases r with
        | false => cases ks <;> simp [keysB]; omega
        | true =>
          cases ks with
          | nil => simp [keysB]
          | cons k ks =>
            have := quoteL_le k
            simp [keysB]
            omega
      rw [hB, itemsL, e.1]
      simp only [List.length_append, bulkL]
      have hc : (if first then ([] : List UInt8) else [44]).length ≤ 1 := by split <;> simp
      omega

/-- Its numbers are numbers of 64 bits. -/
inductive Nums : V → Prop where
  | mk (k n : Int) (s : ByteArray) (l : List V) (ks : List ByteArray) (hn : -9223372036854775808 ≤ n ∧ n ≤ 9223372036854775807) (hl : ∀ x ∈ l, Nums x) : Nums (.mk k n s l ks)
theorem holds_nums {C : Cond} {w : World} {v : Value} {x : V} (h : Holds C w v x) : Nums x := by
  induction h with
  | mk k n s p cap K l ks b off c hr hp hc hK hl ih =>
    refine .mk k n s l ks ⟨hr.2.2.1, hr.2.2.2.1⟩ (fun x hx => ?_)
    obtain ⟨i, hi, rfl⟩ := List.getElem_of_mem hx
    exact ih i hi

theorem lit_bulk {x : V} (h : Nums x) : (litL x).length + 1 ≤ 12 * bulkV x := by
  induction h with
  | mk k n s l ks hn hl ih =>
    have hi : ∀ r, (joinK r ks (litAll l) (litAll l).length).length ≤ 12 * bulkL l + 12 * keysB ks := fun r => by
      rw [join_front, litAll_eq]
      exact itemsL_le r _ true ks _ l rfl ih (by simp) rfl
    have h5 := hi false
    have h6 := hi true
    have hq := quoteL_le s
    have hp := printL_le n hn.1 hn.2
    simp only [bulkV]
    unfold litL
    split
    · simp; omega
    split
    · simp; omega
    split
    · simp; omega
    split
    · split
      · simp; omega
      · omega
    split
    · rw [brackL_len]; omega
    split
    · rw [brackL_len]; omega
    · omega
end Go.Proofs.YtamenccdnobjkaaGreatDoor.Lit

/-
  Contract of the reader's text.
-/
namespace Go.Proofs.YtamenccdnobjkaaGreatDoor.Rd
open Go.RowKit Go.Proofs.YtamenccdnobjkaaGreatDoor.Oct Go.Proofs.YtamenccdnobjkaaGreatDoor.Utf Go.Proofs.YtamenccdnobjkaaGreatDoor.Build Go.Proofs.YtamenccdnobjkaaGreatDoor.Val Go.Proofs.YtamenccdnobjkaaGreatDoor.Lit Go.Proofs.YtamenccdnobjkaaGreatDoor.Tl

theorem inside_len (f : Nat) : ∀ (l acc a t : List UInt8), insideF f l acc = some (a, t) → a.length + t.length ≤ acc.length + l.length ∧ t.length < l.length := by
  induction f with
  | zero => intro l acc a t h; cases h
  | succ f ih =>
    intro l acc a t h
    rw [insideF] at h
    split at h
    · rename_i hp
      have := hasPrefix_le hp
      simp only [List.length_cons, List.length_nil] at this
      injection h with h
      injection h with h1 h2
      rw [← h1, ← h2, List.length_drop]
      omega
    · cases hk : charP l with
      | none => rw [hk] at h; cases h
      | some q =>
        obtain ⟨b, u⟩ := q
        have h1 := char_len hk
        rw [hk] at h
        have h2 := ih u (acc ++ b) a t h
        rw [List.length_append] at h2
        omega
theorem inner_len {l a t : List UInt8} (h : innerP l = some (a, t)) : a.length + t.length ≤ l.length ∧ t.length < l.length := by
  unfold innerP at h
  split at h
  · have := inside_len _ _ _ _ _ h
    rw [List.length_drop] at this
    simp only [List.length_nil] at this
    omega
  · cases h

/-- What text reads. -/
def textP (l : List UInt8) : Option (List UInt8 × List UInt8) :=
  match innerP l with
  | none => none
  | some (a, t) => if quoteL (S a) = l.take (l.length - t.length) then some (a, t) else none

theorem enter_text1 : ∀ args w, (callFunc 95 args).run Tryz.prog w = .ok (.enter 95 args) w := enters_of Tryz.func95 (by kernel_rfl) rfl

set_option maxHeartbeats 4000000 in
set_option maxRecDepth 100000 in
theorem text_c (R : Nat) (l : List UInt8) (ov dv : Value) (w : World) (hl : l.length ≤ 1099511627776) (h : Rd R (S l) ov dv w) (hTT0 : ∀ W, Save R w W → Tabs W) :
    Calls Tryz.prog 80 #[.pointer (some ⟨R, 0, none⟩)] w (Reads R ov dv w (asS (textP l))) := by
  have hmf : ∀ (fn : Fn) (first cap : Array Value) (w : World), (Instr.makeFunc fn first cap).run Tryz.prog w = .ok (.func fn first cap) w := fun _ _ _ _ => rfl
  obtain ⟨w1, hw1⟩ : ∃ w1, w1 = w.alloc (.cells #[.pointer (some ⟨R, 0, none⟩)] 71) := ⟨_, rfl⟩
  have hb1 : Below w.heap.size w w1 := by rw [hw1]; exact (Below.refl _ w).alloc (Nat.le_refl _) _
  have hR1 := h.keep hb1
  have hRlt := h.lt
  have hbox : w1.heap[w.heap.size]? = some (.cells #[.pointer (some ⟨R, 0, none⟩)] 71 (0, 0)) := by rw [hw1]; exact heap_alloc_new w _
  have hcell : w1.cell? ⟨w.heap.size, 0, none⟩ = some (.pointer (some ⟨R, 0, none⟩)) := cell_of_row w1 w.heap.size 0 _ _ _ hbox
  have h1 := text1_c R w.heap.size l ov dv w1 (by omega) hR1 hcell (by omega)
  have hm := made_c 95 #[.pointer (some ⟨w.heap.size, 0, none⟩)] w1 _ _ enter_text1 h1 (fun W w' h1 h2 => h1.below hR1.lt h2)
  have c0 := hR1.cell0
  have HB := Lib.hid (And.intro hb1 (And.intro hcell hRlt))
  have hTW : Hid (∀ W, Save R w1 W → Tabs W) := fun W hs => hTT0 W ((Save.of hb1).trans hs)
  clear h1 hb1 hR1 h
  unfold textP
  cases hk : innerP l with
  | none =>
    rw [hk] at hm
    rw [hw1] at hm c0 hcell
    clear hw1 hbox
    go_enter Tryz.func80, Tryz.ntmps80
    go_wp2_with (first | (go_at_call 23; refine hm.mono ?_; rintro e2 W2 ⟨rfl, h2⟩))
    exact ⟨rfl, rfl, (Save.of ((Below.refl _ w).alloc (Nat.le_refl _) _)).trans h2.1⟩
  | some q =>
    obtain ⟨a, t⟩ := q
    have hlen := inner_len hk
    rw [hk] at hm
    have hql : (quoteL (S a)).length ≤ 70368744177664 := by have := quoteL_le (S a); rw [size_S] at this; omega
    have HQ := Lib.hid (fun W (hs : Save R w1 W) => quote_c (S a) (by rw [size_S]; omega) hql W (hTW.out W hs))
    have HK : Hid (∀ W2, After R ov dv w1 (some (a, t)) W2 → ∀ W, Below W2.heap.size W2 W → W.cell? ⟨w.heap.size, 0, none⟩ = some (.pointer (some ⟨R, 0, none⟩)) ∧ W.cell? ⟨R, 0, none⟩ = some (.string (S t)) ∧ Save R w1 W) := fun W2 h2 W hb => by
      have hs := h2.1.trans (Save.of hb)
      have hr := (h2.2 a t rfl).keep hb
      refine ⟨?_, hr.cell0, hs⟩
      rw [← HB.out.2.1]
      have hlt : w.heap.size < w1.heap.size := (Array.getElem?_eq_some_iff.1 hbox).1
      simp [World.cell?, hs.block w.heap.size hlt (by have := HB.out.2.2; omega)]
    rw [hw1] at HK HQ
    rw [hw1] at hm c0 hcell
    clear hw1 hbox
    obtain ⟨n, hn⟩ : ∃ n, n = l.length - t.length := ⟨_, rfl⟩
    have hn1 : (n : Int) ≤ ((S l).size : Int) := by rw [size_S]; omega
    have hn0 : (0 : Int) ≤ (n : Int) := by omega
    have hnw : IntKind.i64.wrap (n : Int) = n := by rw [IntKind.wrap_i64]; omega
    have hsub : ((S l).size : Int) - ((S t).size : Int) = (n : Int) := by rw [size_S, size_S]; omega
    have hcut : (S l).extract 0 n = S (l.take n) := cut_front _ _
    simp only
    rw [← hn]
    by_cases hE : quoteL (S a) = l.take n
    · rw [if_pos hE]
      have hbe : ((S (quoteL (S a))).toList == ((S l).extract 0 n).toList) = true := by rw [hcut, hE]; simp
      generalize S (quoteL (S a)) = Q0 at HQ hbe
      clear hcut hE hn hlen hql
      generalize S l = L0 at hm c0 hn1 hsub hbe
      generalize S t = T0 at HK hsub
      go_enter Tryz.func80, Tryz.ntmps80
      go_wp2_with (first | (go_at_call 23; refine hm.mono ?_; rintro e2 W2 ⟨rfl, h2⟩; have H2 := Lib.hid h2; clear h2))
      obtain ⟨a0, a1, a2⟩ := HK.out W2 H2.out W2.drew (Below.refl _ _).drew
      have HA := Lib.hid a2
      clear a2
      go_region_held3 (fun w' => w'.cell? ⟨w.heap.size, 0, none⟩ = some (.pointer (some ⟨R, 0, none⟩)) ∧ w'.cell? ⟨R, 0, none⟩ = some (.string T0))
        (first | with_reducible exact ⟨a0, a1⟩ | with_reducible exact ⟨b0, b1⟩)
        (first
          | (go_at_call 15; refine (HQ.out _ HA.out).mono ?_; rintro e3 W3 ⟨rfl, h3⟩; obtain ⟨b0, b1, b2⟩ := HK.out W2 H2.out W3 ((Below.refl _ W2).drew.trans h3); have H3 := Lib.hid h3; clear h3 b2)
          | (go_at_call 30; refine (demand_yes _ _).mono ?_; rintro e4 W4 ⟨rfl, rfl⟩))
      go_wp2_with fail
      go_ret
      exact ⟨rfl, (H2.out.2 a t rfl).keep ((Below.refl _ W2).drew.trans H3.out), (Save.of ((Below.refl _ w).alloc (Nat.le_refl _) _)).trans (H2.out.1.trans (Save.of ((Below.refl _ W2).drew.trans H3.out)))⟩
    · rw [if_neg hE]
      have hbe : ((S (quoteL (S a))).toList == ((S l).extract 0 n).toList) = false := by rw [hcut]; simpa using hE
      generalize S (quoteL (S a)) = Q0 at HQ hbe
      clear hcut hE hn hlen hql
      generalize S l = L0 at hm c0 hn1 hsub hbe
      generalize S t = T0 at HK hsub
      go_enter Tryz.func80, Tryz.ntmps80
      go_wp2_with (first | (go_at_call 23; refine hm.mono ?_; rintro e2 W2 ⟨rfl, h2⟩; have H2 := Lib.hid h2; clear h2))
      obtain ⟨a0, a1, a2⟩ := HK.out W2 H2.out W2.drew (Below.refl _ _).drew
      have HA := Lib.hid a2
      clear a2
      refine wp_region_held_drew (S := fun w' => w'.cell? ⟨w.heap.size, 0, none⟩ = some (.pointer (some ⟨R, 0, none⟩)) ∧ w'.cell? ⟨R, 0, none⟩ = some (.string T0)) (by kernel_rfl) ⟨a0, a1⟩ (fun hHeld => ?_)
      refine wpAnyH_take (i := 0) (v := ?_) rfl (by kernel_rfl) (by kernel_rfl) (by kernel_rfl) (fun _ _ _ h => h) (Or.inl ⟨by rfl, ?_⟩) (by assumption) ?_
      rotate_left
      · intro w hSw
        try dsimp only at hSw
        go_simp
        try with_reducible rfl
      (try simp only [Act.put]); (try simp only [List.setIfInBounds_toArray]); (try simp only [List.set_cons_succ]); (try simp only [List.set_cons_zero])
      refine wpAnyH_take (i := 2) (v := ?_) rfl (by kernel_rfl) (by kernel_rfl) (by kernel_rfl) (fun _ _ _ h => h) (Or.inl ⟨by rfl, ?_⟩) (by assumption) ?_
      rotate_left
      · intro w hSw
        try dsimp only at hSw
        go_simp
        try with_reducible rfl
      (try simp only [Act.put]); (try simp only [List.setIfInBounds_toArray]); (try simp only [List.set_cons_succ]); (try simp only [List.set_cons_zero])
      refine wpAnyH_take (i := 3) (v := ?_) rfl (by kernel_rfl) (by kernel_rfl) (by kernel_rfl) (fun _ _ _ h => h) (Or.inl ⟨by rfl, ?_⟩) (by assumption) ?_
      rotate_left
      · intro w hSw
        try dsimp only at hSw
        go_simp
        try with_reducible rfl
      (try simp only [Act.put]); (try simp only [List.setIfInBounds_toArray]); (try simp only [List.set_cons_succ]); (try simp only [List.set_cons_zero])
      refine wpAnyH_take (i := 4) (v := ?_) rfl (by kernel_rfl) (by kernel_rfl) (by kernel_rfl) (fun _ _ _ h => h) (Or.inl ⟨by rfl, ?_⟩) (by assumption) ?_
      rotate_left
      · intro w hSw
        try dsimp only at hSw
        go_simp
        try with_reducible rfl
      (try simp only [Act.put]); (try simp only [List.setIfInBounds_toArray]); (try simp only [List.set_cons_succ]); (try simp only [List.set_cons_zero])
      refine wpAnyH_take (i := 5) (v := ?_) rfl (by kernel_rfl) (by kernel_rfl) (by kernel_rfl) (fun _ _ _ h => h) (Or.inl ⟨by rfl, ?_⟩) (by assumption) ?_
      rotate_left
      · intro w hSw
        try dsimp only at hSw
        go_simp
        try with_reducible rfl
      (try simp only [Act.put]); (try simp only [List.setIfInBounds_toArray]); (try simp only [List.set_cons_succ]); (try simp only [List.set_cons_zero])
      refine wpAnyH_take (i := 6) (v := ?_) rfl (by kernel_rfl) (by kernel_rfl) (by kernel_rfl) (fun _ _ _ h => h) (Or.inl ⟨by rfl, ?_⟩) (by assumption) ?_
      rotate_left
      · intro w hSw
        try dsimp only at hSw
        go_simp
        try with_reducible rfl
      (try simp only [Act.put]); (try simp only [List.setIfInBounds_toArray]); (try simp only [List.set_cons_succ]); (try simp only [List.set_cons_zero])
      refine wpAnyH_take (i := 7) (v := ?_) rfl (by kernel_rfl) (by kernel_rfl) (by kernel_rfl) (fun _ _ _ h => h) (Or.inl ⟨by rfl, ?_⟩) (by assumption) ?_
      rotate_left
      · intro w hSw
        try dsimp only at hSw
        go_simp
        try with_reducible rfl
      (try simp only [Act.put]); (try simp only [List.setIfInBounds_toArray]); (try simp only [List.set_cons_succ]); (try simp only [List.set_cons_zero])
      refine wpAnyH_take (i := 8) (v := ?_) rfl (by kernel_rfl) (by kernel_rfl) (by kernel_rfl) (fun _ _ _ h => h) (Or.inl ⟨by rfl, ?_⟩) (by assumption) ?_
      rotate_left
      · intro w hSw
        try dsimp only at hSw
        go_simp
        try with_reducible rfl
      (try simp only [Act.put]); (try simp only [List.setIfInBounds_toArray]); (try simp only [List.set_cons_succ]); (try simp only [List.set_cons_zero])
      refine wpAnyH_take (i := 9) (v := ?_) rfl (by kernel_rfl) (by kernel_rfl) (by kernel_rfl) (fun _ _ _ h => h) (Or.inl ⟨by rfl, ?_⟩) (by assumption) ?_
      rotate_left
      · intro w hSw
        try dsimp only at hSw
        go_simp
        try with_reducible rfl
      (try simp only [Act.put]); (try simp only [List.setIfInBounds_toArray]); (try simp only [List.set_cons_succ]); (try simp only [List.set_cons_zero])
      refine wpAnyH_take (i := 10) (v := ?_) rfl (by kernel_rfl) (by kernel_rfl) (by kernel_rfl) (fun _ _ _ h => h) (Or.inl ⟨by rfl, ?_⟩) (by assumption) ?_
      rotate_left
      · intro w hSw
        try dsimp only at hSw
        go_simp
        try with_reducible rfl
      (try simp only [Act.put]); (try simp only [List.setIfInBounds_toArray]); (try simp only [List.set_cons_succ]); (try simp only [List.set_cons_zero])
      refine wpAnyH_take (i := 11) (v := ?_) rfl (by kernel_rfl) (by kernel_rfl) (by kernel_rfl) (fun _ _ _ h => h) (Or.inl ⟨by rfl, ?_⟩) (by assumption) ?_
      rotate_left
      · intro w hSw
        try dsimp only at hSw
        go_simp
        try with_reducible rfl
      (try simp only [Act.put]); (try simp only [List.setIfInBounds_toArray]); (try simp only [List.set_cons_succ]); (try simp only [List.set_cons_zero])
      refine wpAnyH_ready (rs := [1]) (by kernel_rfl) (by simp) ?_
      refine AllReadyH.cons rfl (fun K hK => ?_) AllReadyH.nil
      go_simp
      refine (HQ.out _ HA.out).mono ?_
      rintro e3 W3 ⟨rfl, h3⟩
      obtain ⟨b0, b1, b2⟩ := HK.out W2 H2.out W3 ((Below.refl _ W2).drew.trans h3)
      refine hK.out _ _ ⟨b0, b1⟩ (fun hHeld2 => ?_)
      clear hK K hHeld
      (try simp only [Act.put]); (try simp only [List.setIfInBounds_toArray]); (try simp only [List.set_cons_succ]); (try simp only [List.set_cons_zero])
      refine wpAnyH_take (i := 12) (v := ?_) rfl (by kernel_rfl) (by kernel_rfl) (by kernel_rfl) (fun _ _ _ h => h) (Or.inl ⟨by rfl, ?_⟩) (by assumption) ?_
      rotate_left
      · intro w hSw
        try dsimp only at hSw
        go_simp
        try with_reducible rfl
      (try simp only [Act.put]); (try simp only [List.setIfInBounds_toArray]); (try simp only [List.set_cons_succ]); (try simp only [List.set_cons_zero])
      refine wpAnyH_ready (rs := [13]) (by kernel_rfl) (by simp) ?_
      refine AllReadyH.cons rfl (fun K hK => ?_) AllReadyH.nil
      go_simp
      refine (demand_no _ _).mono ?_
      rintro e4 W4 ⟨rfl, rfl⟩
      exact ⟨rfl, rfl, (Save.of ((Below.refl _ w).alloc (Nat.le_refl _) _)).trans (H2.out.1.trans (Save.of ((Below.refl _ W2).drew.trans h3)))⟩
end Go.Proofs.YtamenccdnobjkaaGreatDoor.Rd

/-
  Contracts of literal's tellInt, of tell at a number, and of Literal at a number.
-/
namespace Go.Proofs.YtamenccdnobjkaaGreatDoor.Tl
open Go.RowKit Go.Proofs.YtamenccdnobjkaaGreatDoor.Oct Go.Proofs.YtamenccdnobjkaaGreatDoor.Num Go.Proofs.YtamenccdnobjkaaGreatDoor.Build Go.Proofs.YtamenccdnobjkaaGreatDoor.Val Go.Proofs.YtamenccdnobjkaaGreatDoor.Lit

/-- The world in which tell begins: the box of what it is handed, the box of where it is put. -/
abbrev tellStart (W : World) (u0 u1 u2 u3 u4 : Value) (b : Nat) : World :=
  (W.alloc (.cells #[u0, u1, u2, u3, u4] 26)).alloc (.cells #[putG b] 46)

theorem tell_blocks {W X : World} {u0 u1 u2 u3 u4 : Value} {b : Nat} (h : Below (tellStart W u0 u1 u2 u3 u4 b).heap.size (tellStart W u0 u1 u2 u3 u4 b) X) :
    X.heap[W.heap.size]? = some (.cells #[u0, u1, u2, u3, u4] 26 (0, 0)) ∧
    X.heap[W.heap.size + 1]? = some (.cells #[putG b] 46 (0, 0)) ∧ Below W.heap.size W X ∧ W.heap.size + 2 ≤ X.heap.size := by
  have z : (tellStart W u0 u1 u2 u3 u4 b).heap.size = W.heap.size + 2 := by simp
  refine ⟨?_, ?_, ?_, by have := h.size; omega⟩
  · rw [h.block _ (by omega), Go.heap_alloc_old _ _ (by simp), heap_alloc_new]
  · rw [h.block _ (by omega)]
    have := heap_alloc_new (W.alloc (.cells #[u0, u1, u2, u3, u4] 26)) (.cells #[putG b] 46)
    rw [World.size_alloc] at this
    exact this
  · exact (((Below.refl _ W).alloc (Nat.le_refl _) _).alloc (by simp) _).trans (h.mono (by omega))

/-- The two boxes stay. -/
theorem tell_kept {W X Y : World} {u0 u1 u2 u3 u4 : Value} {b : Nat} (hb : b < W.heap.size) (hX : X.heap[W.heap.size]? = some (.cells #[u0, u1, u2, u3, u4] 26 (0, 0)) ∧ X.heap[W.heap.size + 1]? = some (.cells #[putG b] 46 (0, 0))) (h : Others b X Y) :
    Y.heap[W.heap.size]? = some (.cells #[u0, u1, u2, u3, u4] 26 (0, 0)) ∧ Y.heap[W.heap.size + 1]? = some (.cells #[putG b] 46 (0, 0)) :=
  ⟨h _ _ hX.1 (by simp; omega) (fun c fz e => by cases e), h _ _ hX.2 (by simp; omega) (fun c fz e => by cases e)⟩

theorem two' {X : World} {B : Nat} {u0 u1 u2 u3 u4 : Value} {b : Nat} (h : X.heap[B]? = some (.cells #[u0, u1, u2, u3, u4] 26 (0, 0)) ∧ X.heap[B + 1]? = some (.cells #[putG b] 46 (0, 0))) :
    X.cell? ⟨B, 0, none⟩ = some u0 ∧ X.cell? ⟨B, 1, none⟩ = some u1 ∧ X.cell? ⟨B, 2, none⟩ = some u2 ∧ X.cell? ⟨B, 3, none⟩ = some u3 ∧ X.cell? ⟨B, 4, none⟩ = some u4 ∧ X.cell? ⟨B + 1, 0, none⟩ = some (putG b) :=
  ⟨cell_of_row X B 0 _ _ _ h.1, cell_of_row X B 1 _ _ _ h.1, cell_of_row X B 2 _ _ _ h.1, cell_of_row X B 3 _ _ _ h.1, cell_of_row X B 4 _ _ _ h.1, cell_of_row X (B + 1) 0 _ _ _ h.2⟩

/-- One put behind the start. -/
theorem put_from {B b : Nat} {l : List UInt8} {W X Y : World} {e : Ending} {u0 u1 u2 u3 u4 : Value} (hBW : B ≤ W.heap.size) (hX : Below (tellStart W u0 u1 u2 u3 u4 b).heap.size (tellStart W u0 u1 u2 u3 u4 b) X) (h : Put B b l X e Y) : Put B b l W e Y := by
  have b0 := (tell_blocks hX).2.2.1
  exact ⟨h.1, h.2.1, (b0.mono hBW).trans h.2.2.1, ((Lib.OthersKept.refl _ _ W).below b0).trans h.2.2.2⟩


/-- A number as a literal. -/
def litI (n : Int) : List UInt8 := if n < 0 then 32 :: printL n else printL n

set_option maxHeartbeats 2000000 in
set_option maxRecDepth 100000 in
theorem tellInt_c (B b : Nat) (l : List UInt8) (n : Int) (h0 : -9223372036854775808 ≤ n) (h1 : n ≤ 9223372036854775807) (w : World) (h : Has B b l w) (hlen : l.length + (litI n).length ≤ 140737488355328) (hBw : B ≤ w.heap.size) :
    Calls Tryz.prog 36 #[.int .i64 n, putG b] w (Put B b (l ++ litI n) w) := by
  have e9 := enter_put
  have HB := Lib.hid hBw
  have HP := Lib.hid (fun w => print_c n w h0 h1)
  by_cases hn : n < 0
  · have e0 : litI n = 32 :: printL n := by unfold litI; rw [if_pos hn]
    rw [e0] at hlen ⊢
    simp only [List.length_cons] at hlen
    have hc := put_c B b l [32] w h (by simp; omega) hBw
    have HC := Lib.hid (fun w1 (h1 : Has B b (l ++ [32]) w1) (hB : B ≤ w1.heap.size) => put_c B b (l ++ [32]) (printL n) w1 h1 (by simp only [List.length_append, List.length_cons, List.length_nil]; omega) hB)
    have e3 : Hid (l ++ 32 :: printL n = (l ++ [32]) ++ printL n) := by show _ = _; simp
    clear h hBw e0 hlen
    go_enter Tryz.func36, Tryz.ntmps36
    go_wp2_with (first
      | (go_at_call 52; refine (HP.out _).mono ?_; rintro e w2 ⟨rfl, h2⟩; have H2 := Lib.hid h2; clear h2; have hc2 := HC.out w2 (has_below H1.out.1 H2.out) (Nat.le_trans HB.out (Nat.le_trans H1.out.2.1.size H2.out.size)))
      | (go_at_fn 33; refine hc2.mono ?_; rintro e w3 h3; obtain rfl := h3.1)
      | (go_at_fn 33; refine hc.mono ?_; rintro e w1 ⟨rfl, h1⟩; have H1 := Lib.hid h1; clear h1))
    go_end0
    rw [e3.out]
    exact ⟨rfl, h3.2.1, (H1.out.2.1.trans (H2.out.mono (Nat.le_trans HB.out H1.out.2.1.size))).trans h3.2.2.1, (H1.out.2.2.below H2.out).trans h3.2.2.2⟩
  · have e0 : litI n = printL n := by unfold litI; rw [if_neg hn]
    rw [e0] at hlen ⊢
    have HC := Lib.hid (fun w1 (h1 : Has B b l w1) (hB : B ≤ w1.heap.size) => put_c B b l (printL n) w1 h1 hlen hB)
    have H0 := Lib.hid h
    clear h hBw e0 hlen
    go_enter Tryz.func36, Tryz.ntmps36
    go_wp2_with (first
      | (go_at_call 52; refine (HP.out _).mono ?_; rintro e w2 ⟨rfl, h2⟩; have H2 := Lib.hid h2; clear h2; have hc2 := HC.out w2 (has_below H0.out H2.out) (Nat.le_trans HB.out H2.out.size))
      | (go_at_fn 33; refine hc2.mono ?_; rintro e w3 h3; obtain rfl := h3.1))
    go_end0
    exact ⟨rfl, h3.2.1, (H2.out.mono HB.out).trans h3.2.2.1, ((Lib.OthersKept.refl _ _ _).below H2.out).trans h3.2.2.2⟩

set_option maxHeartbeats 2000000 in
set_option maxRecDepth 100000 in
theorem tell_int (B b : Nat) (l : List UInt8) (n : Int) (u2 u3 u4 : Value) (hone : u2.oneCell' = true ∧ u3.oneCell' = true ∧ u4.oneCell' = true) (W : World) (h : Has B b l W) (hlen : l.length + (litI n).length ≤ 140737488355328) (hBW : B ≤ W.heap.size) (h0 : -9223372036854775808 ≤ n) (h1 : n ≤ 9223372036854775807) :
    Calls Tryz.prog 25 #[.agg #[.int .i64 3, .int .i64 n, u2, u3, u4], putG b] W (Put B b (l ++ litI n) W) := by
  have hX : Below (tellStart W (.int .i64 3) (.int .i64 n) u2 u3 u4 b).heap.size (tellStart W (.int .i64 3) (.int .i64 n) u2 u3 u4 b) (tellStart W (.int .i64 3) (.int .i64 n) u2 u3 u4 b) := Below.refl _ _
  have hc := tellInt_c B b l n h0 h1 _ (has_below h (tell_blocks hX).2.2.1) hlen (by have := (tell_blocks hX).2.2.2; omega)
  have HF := Lib.hid (fun e Y => put_from (e := e) (Y := Y) (l := l ++ litI n) hBW hX)
  obtain ⟨o1, o2, o3⟩ := hone
  clear h hX
  go_enter Tryz.func25, Tryz.ntmps25
  go_wp2_with (go_at_call 36; refine hc.mono ?_; rintro e Y hP; obtain rfl := hP.1)
  go_end0
  exact HF.out _ _ hP
end Go.Proofs.YtamenccdnobjkaaGreatDoor.Tl

/-
  Contract of literal.Literal, out of tell's; at a number.
-/
namespace Go.Proofs.YtamenccdnobjkaaGreatDoor.Tl
open Go.RowKit Go.Proofs.YtamenccdnobjkaaGreatDoor.Oct Go.Proofs.YtamenccdnobjkaaGreatDoor.Num Go.Proofs.YtamenccdnobjkaaGreatDoor.Build Go.Proofs.YtamenccdnobjkaaGreatDoor.Val Go.Proofs.YtamenccdnobjkaaGreatDoor.Lit

theorem enter_literal1 : ∀ args w, (callFunc 24 args).run Tryz.prog w = .ok (.enter 24 args) w := enters_of Tryz.func24 (by kernel_rfl) rfl

theorem five_cells {X : World} {q : Nat} {u0 u1 u2 u3 u4 : Value} (h : X.heap[q]? = some (.cells #[u0, u1, u2, u3, u4] 26 (0, 0))) :
    X.cell? ⟨q, 0, none⟩ = some u0 ∧ X.cell? ⟨q, 1, none⟩ = some u1 ∧ X.cell? ⟨q, 2, none⟩ = some u2 ∧ X.cell? ⟨q, 3, none⟩ = some u3 ∧ X.cell? ⟨q, 4, none⟩ = some u4 :=
  ⟨cell_of_row X q 0 _ _ _ h, cell_of_row X q 1 _ _ _ h, cell_of_row X q 2 _ _ _ h, cell_of_row X q 3 _ _ _ h, cell_of_row X q 4 _ _ _ h⟩

theorem literal1_c (q : Nat) (u0 u1 u2 u3 u4 : Value) (t : List UInt8) (w : World) (hq : w.heap[q]? = some (.cells #[u0, u1, u2, u3, u4] 26 (0, 0)))
    (ht : Calls Tryz.prog 25 #[.agg #[u0, u1, u2, u3, u4], putG w.heap.size] (fresh w) (Put w.heap.size w.heap.size t (fresh w))) :
    Calls Tryz.prog 24 #[putG w.heap.size, .pointer (some ⟨q, 0, none⟩)] (fresh w) (Tells w.heap.size (some t) (fun W => Below w.heap.size w W)) := by
  have hb0 : Below w.heap.size w (fresh w) := (Below.refl _ w).alloc (Nat.le_refl _) _
  have hlt := (Array.getElem?_eq_some_iff.1 hq).1
  obtain ⟨c0, c1, c2, c3, c4⟩ := five_cells (X := fresh w) ((hb0.block q hlt).trans hq)
  have HB0 := Lib.hid hb0
  clear hb0 hq
  go_enter Tryz.func24, Tryz.ntmps24
  go_wp2_with (go_at_call 25; refine ht.mono ?_; rintro e W1 h1; obtain rfl := h1.1)
  go_end0
  exact ⟨rfl, h1.2.1, HB0.out.trans h1.2.2.1⟩

theorem literal_of (u0 u1 u2 u3 u4 : Value) (hone : ∀ u ∈ [u0, u1, u2, u3, u4], u.oneCell' = true) (t : List UInt8) (w : World)
    (ht : ∀ w1, w1.heap[w.heap.size]? = some (.cells #[u0, u1, u2, u3, u4] 26 (0, 0)) → w1.heap.size = w.heap.size + 1 → Below w.heap.size w w1 →
      Calls Tryz.prog 25 #[.agg #[u0, u1, u2, u3, u4], putG w1.heap.size] (fresh w1) (Put w1.heap.size w1.heap.size t (fresh w1))) :
    Calls Tryz.prog 12 #[.agg #[u0, u1, u2, u3, u4]] w fun e w' => e = .returned (.string (S t)) ∧ Below w.heap.size w w' := by
  have hmf : ∀ (fn : Fn) (first cap : Array Value) (w : World), (Instr.makeFunc fn first cap).run Tryz.prog w = .ok (.func fn first cap) w := fun _ _ _ _ => rfl
  obtain ⟨w1, hw1⟩ : ∃ w1, w1 = w.alloc (.cells #[u0, u1, u2, u3, u4] 26) := ⟨_, rfl⟩
  have hb1 : Below w.heap.size w w1 := by rw [hw1]; exact (Below.refl _ w).alloc (Nat.le_refl _) _
  have hcell : w1.heap[w.heap.size]? = some (.cells #[u0, u1, u2, u3, u4] 26 (0, 0)) := by rw [hw1]; exact heap_alloc_new w _
  have h1 := literal1_c w.heap.size u0 u1 u2 u3 u4 t w1 hcell (ht w1 hcell (by rw [hw1]; simp) hb1)
  have hm := made_c 24 #[.pointer (some ⟨w.heap.size, 0, none⟩)] w1 _ _ enter_literal1 h1 (fun W w' h1 h2 => h1.trans h2)
  rw [hw1] at hm
  have HB1 := Lib.hid hb1
  rw [hw1] at HB1
  obtain ⟨o0, o1, o2, o3, o4⟩ : u0.oneCell' = true ∧ u1.oneCell' = true ∧ u2.oneCell' = true ∧ u3.oneCell' = true ∧ u4.oneCell' = true := by
    refine ⟨hone _ (by simp), hone _ (by simp), hone _ (by simp), hone _ (by simp), hone _ (by simp)⟩
  clear h1 hcell hb1 hw1 ht hone
  go_enter Tryz.func12, Tryz.ntmps12
  go_wp2_with (go_at_call 23; refine hm.mono ?_; rintro e W2 ⟨rfl, h2⟩)
  go_ret
  exact ⟨rfl, HB1.out.trans (h2.mono HB1.out.size)⟩

theorem literal_int (n : Int) (h0 : -9223372036854775808 ≤ n) (h1 : n ≤ 9223372036854775807) (w : World) :
    Calls Tryz.prog 12 #[.agg #[.int .i64 3, .int .i64 n, .string ⟨#[]⟩, .slice none 0 0, .slice none 0 0]] w fun e w' => e = .returned (.string (S (litI n))) ∧ Below w.heap.size w w' := by
  refine literal_of _ _ _ _ _ (by intro u hu; simp at hu; rcases hu with rfl | rfl | rfl | rfl | rfl <;> rfl) _ w (fun w1 hc hz hb => ?_)
  have hl : (litI n).length ≤ 140737488355328 := by
    have := printL_le n h0 h1
    unfold litI
    split
    · rw [List.length_cons]; omega
    · omega
  have := tell_int w1.heap.size w1.heap.size [] n (.string ⟨#[]⟩) (.slice none 0 0) (.slice none 0 0) ⟨rfl, rfl, rfl⟩ (fresh w1) (fresh_has w1) (by simpa using hl) (by simp) h0 h1
  rw [List.nil_append] at this
  exact this
end Go.Proofs.YtamenccdnobjkaaGreatDoor.Tl

/-
  Contracts of the leaves of package number: each is called at any numbers of its kinds and changes nothing.
-/
namespace Go.Proofs.YtamenccdnobjkaaGreatDoor.Num
open Go.RowKit Go.Proofs.YtamenccdnobjkaaGreatDoor.Oct

/-- A sum and the error's number. -/
def addL (a b : Int) : Int × Nat := if -9223372036854775808 ≤ a + b ∧ a + b ≤ 9223372036854775807 then (a + b, 0) else (0, 4)
def cmpL (a b : Int) : Int := if a < b then -1 else if b < a then 1 else 0
theorem compareInt_eq (a b : Int) : Lib.compareInt a b = cmpL a b := by
  unfold Lib.compareInt cmpL
  repeat' split
  all_goals omega

theorem add_wrap (a b : Int) (a0 : -9223372036854775808 ≤ a) (a1 : a ≤ 9223372036854775807) (b0 : -9223372036854775808 ≤ b) (b1 : b ≤ 9223372036854775807) :
    (-9223372036854775808 ≤ a + b ∧ a + b ≤ 9223372036854775807 → IntKind.i64.wrap (a + b) = a + b ∧ (decide (a + b < a) != decide (b < 0)) = false) ∧
    (¬ (-9223372036854775808 ≤ a + b ∧ a + b ≤ 9223372036854775807) → (decide (wrap64 (a + b) < a) == decide (b < 0)) = false) := by
  rw [IntKind.wrap_i64]
  unfold wrap64
  refine ⟨fun h => ⟨by omega, ?_⟩, fun h => ?_⟩
  · rw [show decide (a + b < a) = decide (b < 0) by rw [decide_eq_decide]; omega]; simp
  · by_cases hb : b < 0
    · rw [decide_eq_true hb, decide_eq_false (by omega)]; rfl
    · rw [decide_eq_false hb, decide_eq_true (by omega)]; rfl

theorem ret2 {k k' : IntKind} {a b c d : Int} (h : a = b) (h' : c = d) : Ending.returned (.tuple #[.int k a, .int k' c]) = .returned (.tuple #[.int k b, .int k' d]) := by rw [h, h']

theorem signed_c (u : Nat) (below : Bool) (w : World) (hu : u < 18446744073709551616) :
    Calls Tryz.prog 103 #[.int .u64 (u : Int), .bool below] w fun e w' => e = .returned (.tuple #[.int .i64 (signedL u below).1, .int .i64 ((signedL u below).2 : Int)]) ∧ w = w' := by
  cases below with
  | true =>
    by_cases h : u ≤ 9223372036854775808
    · have F : Hid (signedL u true = (-(u : Int), 0)) := by show _ = _; unfold signedL; rw [if_pos rfl, if_pos h]
      go_enter Tryz.func103, Tryz.ntmps103
      go_wp2
      go_ret2
      refine ⟨?_, rfl⟩
      rw [F.out]
      exact ret2 (by unfold wrap64; rw [IntKind.wrap_u64]; show _ = -(u : Int); omega) rfl
    · have F : Hid (signedL u true = (0, 4)) := by show _ = _; unfold signedL; rw [if_pos rfl, if_neg h]
      go_enter Tryz.func103, Tryz.ntmps103
      go_wp2
      go_ret2
      exact ⟨by rw [F.out]; rfl, rfl⟩
  | false =>
    by_cases h : u ≤ 9223372036854775807
    · have F : Hid (signedL u false = ((u : Int), 0)) := by show _ = _; unfold signedL; rw [if_neg (by simp), if_pos h]
      go_enter Tryz.func103, Tryz.ntmps103
      go_wp2
      go_ret2
      refine ⟨?_, rfl⟩
      rw [F.out]
      rfl
    · have F : Hid (signedL u false = (0, 4)) := by show _ = _; unfold signedL; rw [if_neg (by simp), if_neg h]
      go_enter Tryz.func103, Tryz.ntmps103
      go_wp2
      go_ret2
      exact ⟨by rw [F.out]; rfl, rfl⟩
end Go.Proofs.YtamenccdnobjkaaGreatDoor.Num

/-
  Contract of number.Parse: the number that a text prints, or the error's number; it changes nothing.
-/
namespace Go.Proofs.YtamenccdnobjkaaGreatDoor.Num
open Go.RowKit Go.Proofs.YtamenccdnobjkaaGreatDoor.Oct

theorem take_at (s : ByteArray) (k : Nat) (h : k < s.size) : s.data.toList.take (k + 1) = s.data.toList.take k ++ [s[k]] := by
  rw [List.take_succ_eq_append_getElem (by rw [size_list]; exact h)]; rfl
theorem mem_at (s : ByteArray) (k : Nat) (h : k < s.size) : s[k] ∈ s.data.toList := by
  rw [ByteArray.getElem_eq_getElem_data]; simp

set_option maxHeartbeats 1000000 in
theorem read_c (s : ByteArray) (w : World) (hd : ∀ c ∈ s.data.toList, isDig c = true) (hs : s.size ≤ 19) :
    Calls Tryz.prog 104 #[.string s] w fun e w' => e = .returned (.int .u64 (valD s.data.toList : Int)) ∧ w = w' := by
  have HD := Lib.hid hd
  clear hd
  go_enter Tryz.func104, Tryz.ntmps104
  go_wp2
  go_loop [3, 4, 7] (fun n _ i => ∃ k : Nat, k ≤ s.size ∧ i = .int .i64 k ∧ n = .int .u64 (valD (s.data.toList.take k) : Nat)) (fun _ _ i => s.size - (intOf i).toNat)
  case atStart => exact ⟨0, Nat.zero_le _, rfl, rfl⟩
  case round =>
    obtain ⟨k, hk, rfl, rfl⟩ := hrel
    by_cases hlt : k < s.size
    · have hv := valD_take k HD.out (show k ≤ 18 by omega)
      have hdk := of_decide_eq_true (HD.out _ (mem_at s k hlt))
      have HV : Hid (valD (s.data.toList.take (k + 1)) = valD (s.data.toList.take k) * 10 + cnt s[k]) := by show _ = _; rw [take_at s k hlt, valD_snoc]
      obtain ⟨hc0, hc1⟩ := hdk
      generalize valD (s.data.toList.take k) = v at hv HV
      go_wp2
      go_round
      case rel =>
        refine ⟨k + 1, by omega, by go_num, ?_⟩
        rw [HV.out]
        congr 1
        unfold cnt
        omega
      case measure => simp [intOf]; omega
    · go_wp2
      go_ret
      have hke : s.data.toList.take k = s.data.toList := List.take_of_length_le (by rw [size_list]; omega)
      exact ⟨ret_int (by rw [hke]), rfl⟩

theorem enter_odd : ∀ args w, (callFunc 102 args).run Tryz.prog w = .ok (.enter 102 args) w := enters_of Tryz.func102 (by kernel_rfl) rfl

theorem odd_c (c : UInt8) (w : World) :
    Calls Tryz.prog 102 #[.int .u8 (c.toNat : Int)] w fun e w' => e = .returned (.bool (!isDig c)) ∧ w = w' := by
  have h := c.toNat_lt
  go_enter Tryz.func102, Tryz.ntmps102
  go_wp2
  all_goals go_ret
  all_goals (refine ⟨ret_bool ?_, rfl⟩; unfold isDig; rw [Bool.eq_iff_iff]; simp; try omega)

set_option maxHeartbeats 1000000 in
theorem anyOctet_c (s : ByteArray) (w : World) (hs : s.size ≤ 9223372036854775807) :
    Calls Tryz.prog 101 #[.string s, .func (.func 102) #[] #[]] w fun e w' => e = .returned (.bool (!allDig s.data.toList)) ∧ w = w' := by
  have eg := enter_odd
  go_enter Tryz.func101, Tryz.ntmps101
  go_wp2
  go_loop [5, 8] (fun _ i => ∃ k : Nat, k ≤ s.size ∧ i = .int .i64 k ∧ Hid (∀ c ∈ s.data.toList.take k, isDig c = true)) (fun _ i => s.size - (intOf i).toNat)
  case atStart => exact ⟨0, Nat.zero_le _, rfl, fun c hc => by simp at hc⟩
  case round =>
    obtain ⟨k, hk, rfl, hno⟩ := hrel
    by_cases hlt : k < s.size
    · have hcall := odd_c s[k] w
      cases hq : isDig s[k] with
      | false =>
        rw [hq] at hcall
        have F : Hid (allDig s.data.toList = false) := allDig_no (mem_at s k hlt) hq
        go_wp2_with (go_at_fn 102; refine hcall.mono ?_; rintro e w' ⟨rfl, rfl⟩)
        go_ret
        exact ⟨by rw [F.out]; rfl, rfl⟩
      | true =>
        rw [hq] at hcall
        have F : Hid (∀ c ∈ s.data.toList.take (k + 1), isDig c = true) := by
          intro c hc
          rw [take_at s k hlt] at hc
          rcases List.mem_append.1 hc with hc | hc
          · exact hno.out c hc
          · rw [List.mem_singleton.1 hc]; exact hq
        clear hq
        go_wp2_with (go_at_fn 102; refine hcall.mono ?_; rintro e w' ⟨rfl, rfl⟩)
        go_round
        case rel => exact ⟨k + 1, by omega, by go_num, F⟩
        case measure => simp [intOf]; omega
    · have hke : s.data.toList.take k = s.data.toList := List.take_of_length_le (by rw [size_list]; omega)
      have F : Hid (allDig s.data.toList = true) := allDig_of (by rw [← hke]; exact hno.out)
      clear hke
      go_wp2
      go_ret
      exact ⟨by rw [F.out]; rfl, rfl⟩

theorem hasMinus (l : List UInt8) : Lib.hasPrefix l [45] = decide (l.head? = some 45) := by
  cases l with
  | nil => rfl
  | cons a l => rw [Bool.eq_iff_iff]; simp [Lib.hasPrefix]; try exact eq_comm
theorem cutMinus (l : List UInt8) : Lib.trimPrefix l [45] = if l.head? = some 45 then l.tail else l := by
  unfold Lib.trimPrefix
  rw [hasMinus]
  by_cases h : l.head? = some 45
  · simp [h]
  · simp [h]

/-- What comes of a text whose sign is cut off. -/
theorem parseL_eq (l : List UInt8) : parseL l = parseT (Lib.hasPrefix l [45]) (Lib.trimPrefix l [45]) := by
  unfold parseL
  rw [hasMinus, cutMinus]
  by_cases h : l.head? = some 45
  · rw [if_pos h, if_pos h, decide_eq_true h]
  · rw [if_neg h, if_neg h, decide_eq_false h]

/-- The one text of 0. -/
theorem zero_text (l : List UInt8) (h : (Lib.trimPrefix l [45]).head? = some 48) : (l = [48]) ↔ ¬ (Lib.hasPrefix l [45] = true ∨ 1 < (Lib.trimPrefix l [45]).length) := by
  rw [hasMinus, cutMinus] at *
  by_cases c : l.head? = some 45
  · rw [if_pos c] at h ⊢
    rw [decide_eq_true c]
    refine ⟨fun e => ?_, fun e => absurd (.inl rfl) e⟩
    rw [e] at c; exact absurd c (by decide)
  · rw [if_neg c] at h ⊢
    rw [decide_eq_false c]
    cases l with
    | nil => cases h
    | cons a l =>
      rw [Option.some.inj h]
      cases l with
      | nil => simp
      | cons b l => simp

set_option maxHeartbeats 1000000 in
theorem parse_core (s T : ByteArray) (B : Bool) (w : World) (hT : T.size ≤ 9223372036854775807)
    (hcut : Calls Tryz.prog 63 #[.string s, .string ⟨#[45]⟩] w fun e w' => e = .returned (.tuple #[.string T, .bool B]) ∧ w' = w)
    (hz : T.data.toList.head? = some 48 → ((s.toList = [48]) ↔ ¬ (B = true ∨ 1 < T.data.toList.length))) :
    Calls Tryz.prog 83 #[.string s] w fun e w' => e = .returned (.tuple #[.int .i64 (parseT B T.data.toList).1, .int .i64 ((parseT B T.data.toList).2 : Int)]) ∧ w = w' := by
  by_cases h0 : T.size = 0
  · have hs : T = ⟨#[]⟩ := by
      apply ByteArray.ext
      exact Array.eq_empty_of_size_eq_zero h0
    subst hs
    clear hz h0
    go_enter Tryz.func83, Tryz.ntmps83
    go_wp2_with (go_at_call 63; refine hcut.mono ?_; rintro e w' ⟨rfl, rfl⟩)
    go_ret2
    exact ⟨rfl, rfl⟩
  · have hne : T.data.toList ≠ [] := by intro h; apply h0; rw [← size_list, h]; rfl
    have he : T.data.toList.isEmpty = false := by rw [List.isEmpty_eq_false_iff]; exact hne
    have he' : T.toList.isEmpty = false := by rw [ByteArray.toList_eq]; exact he
    have hpos : 0 < T.size := by omega
    have hany := fun w => anyOctet_c T w hT
    by_cases hd : allDig T.data.toList = false
    · have F : Hid (parseT B T.data.toList = (0, 33)) := by
        show _ = _
        unfold parseT
        rw [if_neg hne, if_pos hd]
      rw [hd] at hany
      clear hne h0 hz hd
      go_enter Tryz.func83, Tryz.ntmps83
      go_wp2_with fail
      refine hcut.mono ?_
      rintro e w' ⟨rfl, rfl⟩
      go_wp2_with fail
      refine (hany _).mono ?_
      rintro e w' ⟨rfl, rfl⟩
      go_wp2_with fail
      go_ret2
      exact ⟨by rw [F.out]; rfl, rfl⟩
    · have hd' : allDig T.data.toList = true := by simpa using hd
      rw [hd'] at hany
      have hmem := allDig_mem hd'
      have hhead : T.data.toList.head? = some T[0] := by
        rw [List.head?_eq_getElem?, List.getElem?_eq_getElem (by rw [size_list]; exact hpos)]; rfl
      have hsz : T.data.toList.length = T.size := size_list T
      by_cases hbad : T.data.toList.head? = some 48 ∧ (B = true ∨ 1 < T.data.toList.length)
      · have F : Hid (parseT B T.data.toList = (0, 33)) := by
          show _ = _
          unfold parseT
          rw [if_neg hne, if_neg hd, if_pos hbad]
        have hzz : (s.toList == [48]) = false := by
          rw [beq_eq_false_iff_ne]
          exact fun e => (hz hbad.1).1 e hbad.2
        have h48 : T[0] = 48 := Option.some.inj (hhead.symm.trans hbad.1)
        have h48' : ((T[0].toNat : Int) == 48) = true := by rw [h48]; rfl
        clear hne h0 hz hd hd' hmem hhead hsz hbad h48
        go_enter Tryz.func83, Tryz.ntmps83
        go_wp2_with fail
        refine hcut.mono ?_
        rintro e w' ⟨rfl, rfl⟩
        go_wp2_with fail
        refine (hany _).mono ?_
        rintro e w' ⟨rfl, rfl⟩
        go_wp2_with fail
        go_ret2
        exact ⟨by rw [F.out]; rfl, rfl⟩
      · have hq : ((s.toList == [48]) = true ∧ ((T[0].toNat : Int) == 48) = true) ∨ ((T[0].toNat : Int) == 48) = false := by
          by_cases h48 : T[0] = 48
          · refine .inl ⟨?_, by rw [h48]; rfl⟩
            rw [beq_iff_eq]
            exact (hz (by rw [hhead, h48])).2 (fun h => hbad ⟨by rw [hhead, h48], h⟩)
          · refine .inr ?_
            rw [beq_eq_false_iff_ne]
            intro e
            apply h48
            apply UInt8.toNat_inj.1
            have : (48 : UInt8).toNat = 48 := rfl
            omega
        by_cases h19 : 19 < T.size
        · have F : Hid (parseT B T.data.toList = (0, 4)) := by
            show _ = _
            unfold parseT
            rw [if_neg hne, if_neg hd, if_neg hbad, if_pos (by rw [hsz]; exact h19)]
          clear hne h0 hz hd hd' hmem hhead hsz hbad
          rcases hq with ⟨hzz, h48'⟩ | h48'
          all_goals
            go_enter Tryz.func83, Tryz.ntmps83
            go_wp2_with fail
            refine hcut.mono ?_
            rintro e w' ⟨rfl, rfl⟩
            go_wp2_with fail
            refine (hany _).mono ?_
            rintro e w' ⟨rfl, rfl⟩
            go_wp2_with fail
            go_ret2
            exact ⟨by rw [F.out]; rfl, rfl⟩
        · have F : Hid (parseT B T.data.toList = signedL (valD T.data.toList) B) := by
            show _ = _
            unfold parseT
            rw [if_neg hne, if_neg hd, if_neg hbad, if_neg (by rw [hsz]; exact h19)]
          have hrd := fun w => read_c T w hmem (by omega)
          have hv := valD_all hmem (by omega)
          have hsg := fun w => signed_c (valD T.data.toList) B w (by omega)
          generalize valD T.data.toList = v at F hrd hsg
          clear hne h0 hz hd hd' hmem hhead hsz hbad hv
          rcases hq with ⟨hzz, h48'⟩ | h48'
          all_goals
            go_enter Tryz.func83, Tryz.ntmps83
            go_wp2_with fail
            refine hcut.mono ?_
            rintro e w' ⟨rfl, rfl⟩
            go_wp2_with fail
            refine (hany _).mono ?_
            rintro e w' ⟨rfl, rfl⟩
            go_wp2_with fail
            refine (hrd _).mono ?_
            rintro e w' ⟨rfl, rfl⟩
            go_wp2_with fail
            refine (hsg _).mono ?_
            rintro e w' ⟨rfl, rfl⟩
            go_wp2_with fail
            go_ret2
            exact ⟨by rw [F.out]; rfl, rfl⟩

theorem parse_c (s : ByteArray) (w : World) (hs : s.size ≤ 9223372036854775807) :
    Calls Tryz.prog 83 #[.string s] w fun e w' => e = .returned (.tuple #[.int .i64 (parseL s.data.toList).1, .int .i64 ((parseL s.data.toList).2 : Int)]) ∧ w = w' := by
  have h := parse_core s (S (Lib.trimPrefix s.data.toList [45])) (Lib.hasPrefix s.data.toList [45]) w
    (by
      rw [size_S, cutMinus]
      have := size_list s
      split
      · rw [List.length_tail]; omega
      · omega)
    (Tryz.strings_CutPrefix s ⟨#[45]⟩ w)
    (by rw [ByteArray.toList_eq]; exact zero_text s.data.toList)
  rw [parseL_eq]
  exact h

end Go.Proofs.YtamenccdnobjkaaGreatDoor.Num

/-
  Contract of the reader's number.
-/
namespace Go.Proofs.YtamenccdnobjkaaGreatDoor.Rd
open Go.RowKit Go.Proofs.YtamenccdnobjkaaGreatDoor.Oct Go.Proofs.YtamenccdnobjkaaGreatDoor.Num Go.Proofs.YtamenccdnobjkaaGreatDoor.Build Go.Proofs.YtamenccdnobjkaaGreatDoor.Val Go.Proofs.YtamenccdnobjkaaGreatDoor.Lit Go.Proofs.YtamenccdnobjkaaGreatDoor.Tl

/-- The octets of numbers. -/
abbrev numCs : List UInt8 := [32, 45, 48, 49, 50, 51, 52, 53, 54, 55, 56, 57]
/-- What is told of a number. -/
def toldL (l : List UInt8) : List UInt8 := l.take (l.length - (Lib.trimLeftS l numCs).length)

theorem trim_c (l : List UInt8) (w : World) : Calls Tryz.prog 82 #[.string (S l), .string (S numCs)] w fun e w' => e = .returned (.string (S (Lib.trimLeftS l numCs))) ∧ Below w.heap.size w w' :=
  Any.strings_TrimLeft_ascii Tryz.lays161 (fun w => by kernel_rfl) (by kernel_rfl) (S l) (S numCs) w (by decide) (fun j b h => by
    have : b ∈ numCs := List.mem_of_getElem? h
    simp at this
    rcases this with rfl | rfl | rfl | rfl | rfl | rfl | rfl | rfl | rfl | rfl | rfl | rfl <;> decide)

/-- What number reads. -/
def numberP (l : List UInt8) : Option (Int × List UInt8) :=
  if (parseL (Lib.trimPrefix (toldL l) [32])).2 = 0 then
    if Lib.hasPrefix l (litI (parseL (Lib.trimPrefix (toldL l) [32])).1) then some ((parseL (Lib.trimPrefix (toldL l) [32])).1, l.drop (litI (parseL (Lib.trimPrefix (toldL l) [32])).1).length) else none
  else none

theorem trimLeft_le (l cs : List UInt8) : (Lib.trimLeftS l cs).length ≤ l.length := by
  unfold Lib.trimLeftS
  exact (List.dropWhile_suffix _).length_le

abbrev intV (n : Int) : Value := .agg #[.int .i64 3, .int .i64 n, .string ⟨#[]⟩, .slice none 0 0, .slice none 0 0]
abbrev asI (o : Option (Int × List UInt8)) : Option (Value × List UInt8) := o.map fun (a, t) => (intV a, t)

theorem int_c (n : Int) (w : World) : Calls Tryz.prog 85 #[.int .i64 n] w fun e w' => e = .returned (.agg #[.int .i64 3, .int .i64 n, .string ⟨#[]⟩, .slice none 0 0, .slice none 0 0]) ∧ Below w.heap.size w w' := by
  go_enter Tryz.func85, Tryz.ntmps85
  go_wp2
  refine bodyPost_ret (v := .agg #[.int .i64 3, .int .i64 n, .string ⟨#[]⟩, .slice none 0 0, .slice none 0 0]) (by simp [results, Tryz.results85, go_sem]) rfl ?_
  exact ⟨rfl, (Below.refl _ w).alloc (Nat.le_refl _) _⟩

theorem signed_range (u : Nat) (b : Bool) : -9223372036854775808 ≤ (signedL u b).1 ∧ (signedL u b).1 ≤ 9223372036854775807 := by
  unfold signedL
  cases b with
  | true =>
    rw [if_pos rfl]
    by_cases h : u ≤ 9223372036854775808
    · rw [if_pos h]; show _ ≤ -(u : Int) ∧ -(u : Int) ≤ _; omega
    · rw [if_neg h]; exact ⟨by decide, by decide⟩
  | false =>
    rw [if_neg (by simp)]
    by_cases h : u ≤ 9223372036854775807
    · rw [if_pos h]; show _ ≤ (u : Int) ∧ (u : Int) ≤ _; omega
    · rw [if_neg h]; exact ⟨by decide, by decide⟩
theorem zero_range (k : Nat) : -9223372036854775808 ≤ ((0, k) : Int × Nat).1 ∧ ((0, k) : Int × Nat).1 ≤ 9223372036854775807 := ⟨by show (-9223372036854775808 : Int) ≤ 0; decide, by show (0 : Int) ≤ 9223372036854775807; decide⟩
theorem parseT_range (b : Bool) (t : List UInt8) : -9223372036854775808 ≤ (parseT b t).1 ∧ (parseT b t).1 ≤ 9223372036854775807 := by
  unfold parseT
  split
  · exact zero_range _
  · split
    · exact zero_range _
    · split
      · exact zero_range _
      · split
        · exact zero_range _
        · exact signed_range _ _
theorem parseL_range (t : List UInt8) : -9223372036854775808 ≤ (parseL t).1 ∧ (parseL t).1 ≤ 9223372036854775807 := by
  unfold parseL
  split
  · exact parseT_range _ _
  · exact parseT_range _ _

theorem prefix_c (l : List UInt8) (w : World) : Calls Tryz.prog 84 #[.string (S l), .string (S [32])] w fun e w' => e = .returned (.string (S (Lib.trimPrefix l [32]))) ∧ w' = w := Tryz.strings_TrimPrefix (S l) (S [32]) w

abbrev zeroBox (w : World) : World := w.alloc (.cells #[.int .i64 0, .int .i64 0, .string ⟨#[]⟩, .slice none 0 0, .slice none 0 0] 26)

theorem num_chain {R : Nat} {w W6 W7 W8 : World} {L0 : ByteArray} {ov dv : Value} {v : Int} (hR : Rd R L0 ov dv (zeroBox w)) (hlt : R < w.heap.size)
    (h3 : Below (zeroBox w).drew.heap.size (zeroBox w).drew W6) (h7 : Below W6.heap.size W6 W7)
    (h8 : Below (W7.alloc (.cells #[.int .i64 3, .int .i64 v, .string ⟨#[]⟩, .slice none 0 0, .slice none 0 0] 26)).heap.size (W7.alloc (.cells #[.int .i64 3, .int .i64 v, .string ⟨#[]⟩, .slice none 0 0, .slice none 0 0] 26)) W8) :
    Rd R L0 ov dv W8 ∧ Save R w W8 ∧ Bx W8 w.heap.size (.int .i64 0) (.int .i64 0) (.string ⟨#[]⟩) (.slice none 0 0) (.slice none 0 0) ∧
      Bx W8 W7.heap.size (.int .i64 3) (.int .i64 v) (.string ⟨#[]⟩) (.slice none 0 0) (.slice none 0 0) ∧ W7.heap.size ≠ R ∧ w.heap.size ≠ R := by
  have hz : (zeroBox w).heap.size = w.heap.size + 1 := by simp
  have b3 : Below (zeroBox w).heap.size (zeroBox w) W6 := (Below.refl _ _).drew.trans h3
  have b7 : Below (zeroBox w).heap.size (zeroBox w) W7 := b3.trans (h7.mono b3.size)
  have b8 : Below (zeroBox w).heap.size (zeroBox w) W8 := (b7.alloc b7.size _).trans (h8.mono (by have := b7.size; simp at this ⊢; omega))
  have hs7 := b7.size
  refine ⟨hR.keep b8, Save.of (((Below.refl _ w).alloc (Nat.le_refl _) _).trans (b8.mono (by omega))), (Bx.new w _ _ _ _ _).keep b8, (Bx.new W7 _ _ _ _ _).keep h8, by omega, by omega⟩

set_option maxHeartbeats 4000000 in
set_option maxRecDepth 100000 in
theorem number_c (R : Nat) (l : List UInt8) (ov dv : Value) (w : World) (hl : l.length ≤ 1099511627776) (h : Rd R (S l) ov dv w) :
    Calls Tryz.prog 61 #[.pointer (some ⟨R, 0, none⟩)] w (Reads R ov dv w (asI (numberP l))) := by
  obtain ⟨w1, hw1⟩ : ∃ w1, w1 = w.alloc (.cells #[.int .i64 0, .int .i64 0, .string ⟨#[]⟩, .slice none 0 0, .slice none 0 0] 26) := ⟨_, rfl⟩
  have hb1 : Below w.heap.size w w1 := by rw [hw1]; exact (Below.refl _ w).alloc (Nat.le_refl _) _
  have hbx : Bx w1 w.heap.size (.int .i64 0) (.int .i64 0) (.string ⟨#[]⟩) (.slice none 0 0) (.slice none 0 0) := by rw [hw1]; exact Bx.new _ _ _ _ _ _
  have hR1 := h.keep hb1
  have hRlt := h.lt
  have HT := Lib.hid (fun W => trim_c l W)
  obtain ⟨n, hn⟩ : ∃ n, n = l.length - (Lib.trimLeftS l numCs).length := ⟨_, rfl⟩
  have hn2 := trimLeft_le l numCs
  have hn1 : (n : Int) ≤ ((S l).size : Int) := by rw [size_S]; omega
  have hn0 : (0 : Int) ≤ (n : Int) := by omega
  have hnw : IntKind.i64.wrap (n : Int) = n := by rw [IntKind.wrap_i64]; omega
  have hsub : ((S l).size : Int) - ((S (Lib.trimLeftS l numCs)).size : Int) = (n : Int) := by rw [size_S, size_S]; omega
  have hcut : (S l).extract 0 n = S (toldL l) := by rw [cut_front, hn]; rfl
  have HP := Lib.hid (fun W => prefix_c (toldL l) W)
  have hpl : (S (Lib.trimPrefix (toldL l) [32])).size ≤ 9223372036854775807 := by
    rw [size_S]
    have h1 : (toldL l).length ≤ l.length := by unfold toldL; rw [List.length_take]; omega
    have h2 : (Lib.trimPrefix (toldL l) [32]).length ≤ (toldL l).length := by unfold Lib.trimPrefix; split <;> simp
    omega
  have HQ := Lib.hid (fun W => parse_c (S (Lib.trimPrefix (toldL l) [32])) W hpl)
  rw [list_S] at HQ
  have hpr := parseL_range (Lib.trimPrefix (toldL l) [32])
  unfold numberP
  generalize parseL (Lib.trimPrefix (toldL l) [32]) = pr at HQ hpr ⊢
  obtain ⟨v, er⟩ := pr
  simp only at hpr HQ
  have c0 := hR1.cell0
  have HB := Lib.hid (And.intro hb1 (And.intro hbx (And.intro hR1 hRlt)))
  have HL := Lib.hid (fun W => literal_int v hpr.1 hpr.2 W)
  generalize Lib.trimPrefix (toldL l) [32] = T2 at HP HQ hpl
  rw [hw1] at c0 HB
  clear hb1 hbx hR1 h hn2 hn hw1
  generalize S (Lib.trimLeftS l numCs) = T1 at HT hsub
  obtain ⟨T3, hT3⟩ : ∃ T3, S (toldL l) = T3 := ⟨_, rfl⟩
  rw [hT3] at HP hcut
  clear hT3
  have HM := Lib.hid (fun W (h : Rd R (S l) ov dv W) => must_c R (S l) (S (litI v)) ov dv W h)
  simp only at HM
  unfold mustP at HM
  simp only
  have hwl : Hid (w.heap.size < (w.alloc (.cells #[.int .i64 0, .int .i64 0, .string ⟨#[]⟩, .slice none 0 0, .slice none 0 0] 26)).heap.size) := by show _ < _; simp
  generalize S l = L0 at HT HB HM hcut hsub hn1 c0
  by_cases he : er = 0
  · rw [if_pos he]
    subst he
    cases hp : Lib.hasPrefix l (litI v) with
    | false =>
      rw [hp] at HM
      go_enter Tryz.func61, Tryz.ntmps61
      go_wp2_with fail
      have c1 := HB.out.2.2.1.drew.cell0
      go_region_held3 (fun w' => w'.cell? ⟨R, 0, none⟩ = some (.string L0))
        (first | with_reducible exact c1 | with_reducible exact b0)
        (first
          | (go_at_call 82; refine (HT.out _).mono ?_; rintro e3 W3 ⟨rfl, h3⟩; have b0 := (HB.out.2.2.1.keep ((Below.refl _ _).drew.trans h3)).cell0; have H3 := Lib.hid h3; clear h3))
      go_wp2_with (first
        | (go_at_call 84; refine (HP.out _).mono ?_; rintro e4 W4 ⟨rfl, rfl⟩)
        | (go_at_call 83; refine (HQ.out _).mono ?_; rintro e5 W5 ⟨rfl, rfl⟩)
        | (go_at_call 30; refine (demand_yes _ _).mono ?_; rintro e6 W6 ⟨rfl, rfl⟩)
        | (go_at_call 85; refine (int_c _ _).mono ?_; rintro e7 W7 ⟨rfl, h7⟩; have H7 := Lib.hid h7; clear h7)
        | (go_at_call 12; refine (HL.out _).mono ?_; rintro e8 W8 ⟨rfl, h8⟩; have H8 := Lib.hid h8; clear h8)
        | (go_at_call 64; obtain ⟨k1, k2, k3, k4, k5, k6⟩ := num_chain HB.out.2.2.1 hRlt H3.out H7.out H8.out; refine (HM.out _ k1).mono ?_; rintro e9 W9 ⟨rfl, h9⟩; have H9 := Lib.hid h9; clear h9))
      exact ⟨rfl, rfl, k2.trans H9.out⟩
    | true =>
      rw [hp] at HM
      simp only [if_true] at HM
      go_enter Tryz.func61, Tryz.ntmps61
      go_wp2_with fail
      have c1 := HB.out.2.2.1.drew.cell0
      go_region_held3 (fun w' => w'.cell? ⟨R, 0, none⟩ = some (.string L0))
        (first | with_reducible exact c1 | with_reducible exact b0)
        (first
          | (go_at_call 82; refine (HT.out _).mono ?_; rintro e3 W3 ⟨rfl, h3⟩; have b0 := (HB.out.2.2.1.keep ((Below.refl _ _).drew.trans h3)).cell0; have H3 := Lib.hid h3; clear h3))
      go_wp2_with (first
        | (go_at_call 84; refine (HP.out _).mono ?_; rintro e4 W4 ⟨rfl, rfl⟩)
        | (go_at_call 83; refine (HQ.out _).mono ?_; rintro e5 W5 ⟨rfl, rfl⟩)
        | (go_at_call 30; refine (demand_yes _ _).mono ?_; rintro e6 W6 ⟨rfl, rfl⟩)
        | (go_at_call 85; refine (int_c _ _).mono ?_; rintro e7 W7 ⟨rfl, h7⟩; have H7 := Lib.hid h7; clear h7)
        | (go_at_call 12; refine (HL.out _).mono ?_; rintro e8 W8 ⟨rfl, h8⟩; have H8 := Lib.hid h8; clear h8)
        | (go_at_call 64; obtain ⟨k1, k2, k3, k4, k5, k6⟩ := num_chain HB.out.2.2.1 hRlt H3.out H7.out H8.out; refine (HM.out _ k1).mono ?_; rintro e9 W9 ⟨rfl, h9, h10⟩; have m3 := k3.save h10 k6; have m4 := k4.save h10 k5; obtain ⟨x0, x1, x2, x3, x4⟩ := m4.five; obtain ⟨y0, y1, y2, y3, y4⟩ := m3.five; obtain ⟨z0, z1, z2, z3, z4⟩ := m3.froz; have H9 := Lib.hid (And.intro h9 (And.intro h10 (And.intro k2 k6))); clear h9 h10 k1 k2 k3 k4 m3 m4))
      refine bodyPost_ret (v := .agg #[.int .i64 3, .int .i64 v, .string ⟨#[]⟩, .slice none 0 0, .slice none 0 0]) (by simp [results, Tryz.results61, go_sem, y0, y1, y2, y3, y4]) rfl ?_
      exact ⟨rfl, H9.out.1.st5 (Ne.symm H9.out.2.2.2) _ _ _ _ _, (H9.out.2.2.1.trans H9.out.2.1).st5 (Nat.le_refl _) _ _ _ _ _⟩
  · rw [if_neg he]
    have he' : ((er : Int) == 0) = false := by simp; omega
    go_enter Tryz.func61, Tryz.ntmps61
    go_wp2_with fail
    have c1 := HB.out.2.2.1.drew.cell0
    go_region_held3 (fun w' => w'.cell? ⟨R, 0, none⟩ = some (.string L0))
      (first | with_reducible exact c1 | with_reducible exact b0)
      (first
        | (go_at_call 82; refine (HT.out _).mono ?_; rintro e3 W3 ⟨rfl, h3⟩; have b0 := (HB.out.2.2.1.keep ((Below.refl _ _).drew.trans h3)).cell0; have H3 := Lib.hid h3; clear h3))
    go_wp2_with (first
      | (go_at_call 84; refine (HP.out _).mono ?_; rintro e4 W4 ⟨rfl, rfl⟩)
      | (go_at_call 83; refine (HQ.out _).mono ?_; rintro e5 W5 ⟨rfl, rfl⟩)
      | (go_at_call 30; refine (demand_no _ _).mono ?_; rintro e6 W6 ⟨rfl, rfl⟩))
    exact ⟨rfl, rfl, Save.of (HB.out.1.trans ((((Below.refl _ _).drew.trans H3.out)).mono (Nat.le_of_lt hwl.out)))⟩
end Go.Proofs.YtamenccdnobjkaaGreatDoor.Rd

/-
  What the reader reads next, plainly.
-/
namespace Go.Proofs.YtamenccdnobjkaaGreatDoor.Rd
open Go.RowKit Go.Proofs.YtamenccdnobjkaaGreatDoor.Oct Go.Proofs.YtamenccdnobjkaaGreatDoor.Val

/-- A fault; a value that is whole; or something ahead of a value. -/
inductive PR where
  | bad
  | val (x : V) (s : List UInt8) (fs : List Fr) (d : Nat)
  | more (s : List UInt8) (fs : List Fr) (d : Nat)

/-- A value with nothing in it. -/
abbrev leafV (k n : Int) (t : ByteArray) : V := .mk k n t [] []

/-- Those that have begun, with a key for the innermost one. -/
def keyP (fs : List Fr) (key : ByteArray) : Option (List Fr) :=
  match fs.getLast? with
  | none => none
  | some f => if f.kind = 6 ∧ f.ks.length = f.xs.length then some (fs.dropLast ++ [{ f with ks := f.ks ++ [key] }]) else none

def beginP (k : Int) (s : List UInt8) (fs : List Fr) (d : Nat) : PR :=
  if Lib.hasPrefix s (endL k) then .val (fresh0 k).val (s.drop 1) fs (max d (fs.length + 1)) else .more s (fs ++ [fresh0 k]) (max d (fs.length + 1))

def textOrKeyP (s : List UInt8) (fs : List Fr) (d : Nat) : PR :=
  match textP s with
  | none => .bad
  | some (a, t) =>
    if Lib.hasPrefix t [58] then
      match keyP fs (S a) with
      | none => .bad
      | some fs' => .more (t.drop 1) fs' d
    else .val (leafV 4 0 (S a)) t fs d

def partP (s : List UInt8) (fs : List Fr) (d : Nat) : PR :=
  if Lib.hasPrefix s [110, 117, 108, 108] then .val (leafV 0 0 ⟨#[]⟩) (s.drop 4) fs d
  else if Lib.hasPrefix s [102, 97, 108, 115, 101] then .val (leafV 1 0 ⟨#[]⟩) (s.drop 5) fs d
  else if Lib.hasPrefix s [116, 114, 117, 101] then .val (leafV 2 0 ⟨#[]⟩) (s.drop 4) fs d
  else if Lib.hasPrefix s [91] then beginP 5 (s.drop 1) fs d
  else if Lib.hasPrefix s [123] then beginP 6 (s.drop 1) fs d
  else if Lib.hasPrefix s [34] then textOrKeyP s fs d
  else match numberP s with
    | none => .bad
    | some (n, t) => .val (leafV 3 n ⟨#[]⟩) t fs d

/-- What such a call leaves. -/
def PartTo (N : Nat) (tag : Nat → Nat) (w : World) (R : Nat) (r : PR) (en : Ending) (w' : World) : Prop :=
  match r with
  | .bad => en = Fault 33 ∧ ∃ tag', Kp tag tag' w w'
  | .val x s fs d => ∃ e tag' ov' es', en = .returned (.tuple #[agg5 e, .bool true]) ∧ RdAt N tag' w' R s fs d ov' es' ∧ Kp tag tag' w w' ∧ Holds (Dn N tag' w') w' (agg5 e) x
  | .more s fs d => ∃ tag' ov' es', en = .returned (.tuple #[.agg #[.int .i64 0, .int .i64 0, .string ⟨#[]⟩, .slice none 0 0, .slice none 0 0], .bool false]) ∧ RdAt N tag' w' R s fs d ov' es' ∧ Kp tag tag' w w'

theorem leaf_holds {C : Cond} {w : World} (k n : Int) (t : ByteArray) (hk : -9223372036854775808 ≤ k ∧ k ≤ 9223372036854775807) (hn : -9223372036854775808 ≤ n ∧ n ≤ 9223372036854775807) (ht : t.size ≤ 140737488351232) :
    Holds C w (.agg #[.int .i64 k, .int .i64 n, .string t, .slice none 0 0, .slice none 0 0]) (leafV k n t) :=
  .mk k n t none 0 (.slice none 0 0) [] [] 0 0 (fun _ _ => undef) ⟨hk.1, hk.2, hn.1, hn.2, ht, by simp⟩ (fun h => absurd h (by simp)) (fun i j h => absurd h (by simp)) ⟨none, 0, 0, 0, rfl, ⟨by simp, fun s hs => absurd hs (by simp)⟩, fun h => absurd h (by simp), fun i h => absurd h (by simp)⟩ (fun i h => absurd h (by simp))

theorem begin_part {N : Nat} {tag : Nat → Nat} {w w' : World} {R : Nat} {s : List UInt8} {fs : List Fr} {k : Int} {d : Nat} {en : Ending} (h : BeginTo N tag w R s fs k d en w') : PartTo N tag w R (beginP k s fs d) en w' := by
  unfold BeginTo at h
  unfold beginP
  split at h
  · rename_i hp; rw [if_pos hp]; exact h
  · rename_i hp; rw [if_neg hp]; exact h
end Go.Proofs.YtamenccdnobjkaaGreatDoor.Rd

/-
  Contract of the reader's textOrKey.
-/
namespace Go.Proofs.YtamenccdnobjkaaGreatDoor.Rd
open Go.RowKit Go.Proofs.YtamenccdnobjkaaGreatDoor.Oct Go.Proofs.YtamenccdnobjkaaGreatDoor.Val Go.Proofs.YtamenccdnobjkaaGreatDoor.Utf

/-- Go's two tables lie below N. -/
def TabN (N : Nat) (w : World) : Prop := ∀ W, Below N w W → Tabs W
theorem TabN.to {N : Nat} {w W : World} (h : TabN N w) (hb : Below N w W) : TabN N W := fun X hX => h X (hb.trans hX)
theorem RdAt.base {N : Nat} {tag : Nat → Nat} {w : World} {R : Nat} {s : List UInt8} {fs : List Fr} {deep : Nat} {ov : Value} {es : List E5} (h : RdAt N tag w R s fs deep ov es) : N ≤ R := by
  rcases Nat.lt_or_ge R N with h1 | h1
  · have := h.out R (.inl h1); rw [h.rmark] at this; omega
  · exact h1
theorem RdAt.low {N : Nat} {tag : Nat → Nat} {w : World} {R : Nat} {s : List UInt8} {fs : List Fr} {deep : Nat} {ov : Value} {es : List E5} (h : RdAt N tag w R s fs deep ov es) {tag' : Nat → Nat} {W : World} (hk : Kp tag tag' w W) : Below N w W :=
  hk.below h.size (fun b hb => h.out b (.inl hb))

theorem zero_box {N : Nat} {tag : Nat → Nat} {w : World} {R : Nat} {s : List UInt8} {fs : List Fr} {deep : Nat} {ov : Value} {es : List E5} (h : RdAt N tag w R s fs deep ov es) :
    RdAt N tag (zBox w) R s fs deep ov es ∧ Bx (zBox w) w.heap.size (.int .i64 0) (.int .i64 0) (.string ⟨#[]⟩) (.slice none 0 0) (.slice none 0 0) ∧ Kp tag tag w (zBox w) ∧ tag w.heap.size = 1 ∧ w.heap.size ≠ R :=
  ⟨h.alloc _, Bx.new _ _ _ _ _ _, Kp.of ((Below.refl _ w).alloc (Nat.le_refl _) _), h.out _ (.inr (Nat.le_refl _)), by have := h.rd.lt; omega⟩

/-- A value is written into the result's box, and told. -/
theorem part_val {N : Nat} {tag tag' : Nat → Nat} {w W : World} {R : Nat} {s : List UInt8} {fs : List Fr} {d : Nat} {ov : Value} {es : List E5} {x : V} (h : RdAt N tag' W R s fs d ov es) (hk : Kp tag tag' w W) (ht : tag' w.heap.size = 1) {v0 v1 v2 v3 v4 : Value}
    (hh : Holds (Dn N tag' W) W (.agg #[v0, v1, v2, v3, v4]) x) (Z : World) (hZ : Z = st5 W w.heap.size v0 v1 v2 v3 v4) :
    PartTo N tag w R (.val x s fs d) (.returned (.tuple #[.agg #[v0, v1, v2, v3, v4], .bool true])) Z := by
  have a1 := h.st5 ht v0 v1 v2 v3 v4
  have a2 := hk.own (st5_below (Below.refl _ W) (Nat.le_refl _) v0 v1 v2 v3 v4)
  have a3 := holds_dn (tag' := tag') hh (fun b hb h0 => st5_other W v0 v1 v2 v3 v4 (fun e => by rw [e, ht] at h0; cases h0)) (fun _ _ h => h)
  rw [← hZ] at a1 a2 a3
  exact ⟨(v0, v1, v2, v3, v4), tag', _, _, rfl, a1, a2, a3⟩
theorem part_more {N : Nat} {tag tag' : Nat → Nat} {w W : World} {R : Nat} {s : List UInt8} {fs : List Fr} {d : Nat} {ov : Value} {es : List E5} (h : RdAt N tag' W R s fs d ov es) (hk : Kp tag tag' w W) (ht : tag' w.heap.size = 1)
    (Z : World) (hZ : Z = st5 W w.heap.size (.int .i64 0) (.int .i64 0) (.string ⟨#[]⟩) (.slice none 0 0) (.slice none 0 0)) :
    PartTo N tag w R (.more s fs d) (.returned (.tuple #[.agg #[.int .i64 0, .int .i64 0, .string ⟨#[]⟩, .slice none 0 0, .slice none 0 0], .bool false])) Z := by
  have a1 := h.st5 ht (.int .i64 0) (.int .i64 0) (.string ⟨#[]⟩) (.slice none 0 0) (.slice none 0 0)
  have a2 := hk.own (st5_below (Below.refl _ W) (Nat.le_refl _) (.int .i64 0) (.int .i64 0) (.string ⟨#[]⟩) (.slice none 0 0) (.slice none 0 0))
  rw [← hZ] at a1 a2
  exact ⟨tag', _, _, rfl, a1, a2⟩

/-- What putKey leaves, whatever has begun. -/
def KeyOf (N : Nat) (tag : Nat → Nat) (w : World) (R : Nat) (s : List UInt8) (o : Option (List Fr)) (d : Nat) (en : Ending) (w' : World) : Prop :=
  match o with
  | some fs => en = .returned (.tuple #[]) ∧ ∃ tag' ov' es', RdAt N tag' w' R s fs d ov' es' ∧ Kp tag tag' w w'
  | none => en = Fault 33 ∧ Kp tag tag w w'

theorem keyOf_c (N : Nat) (tag : Nat → Nat) (w : World) (R : Nat) (s : List UInt8) (fs : List Fr) (deep : Nat) (ov : Value) (es : List E5) (h : RdAt N tag w R s fs deep ov es) (key : ByteArray) (hkey : key.size ≤ 140737488351232)
    (hk : ∀ f ∈ fs, f.ks.length + 1 ≤ 1099511627776) (hm : fs.length ≤ 1099511627776) :
    Calls Tryz.prog 81 #[.pointer (some ⟨R, 0, none⟩), .string key] w (KeyOf N tag w R s (keyP fs key) deep) := by
  rcases List.eq_nil_or_concat fs with rfl | ⟨fs0, f, rfl⟩
  · exact key_none N tag w R s deep ov es h key
  · rw [List.concat_eq_append] at h hk hm ⊢
    refine (key_c N tag w R s fs0 f deep ov es h key hkey (hk f (by simp)) (by simpa using hm)).mono fun en w' hh => ?_
    unfold KeyTo at hh
    unfold keyP
    rw [List.getLast?_concat, List.dropLast_concat]
    simp only
    by_cases hc : f.kind = 6 ∧ f.ks.length = f.xs.length
    · rw [if_pos hc] at hh ⊢; exact hh
    · rw [if_neg hc] at hh ⊢; exact hh

set_option maxHeartbeats 4000000 in
set_option maxRecDepth 100000 in
theorem textOrKey_c (N : Nat) (tag : Nat → Nat) (w : World) (R : Nat) (s : List UInt8) (fs : List Fr) (d : Nat) (ov : Value) (es : List E5) (h : RdAt N tag w R s fs d ov es) (hl : s.length ≤ 1099511627776)
    (hk : ∀ f ∈ fs, f.ks.length + 1 ≤ 1099511627776) (hm : fs.length ≤ 1099511627776) (hT : TabN N w) :
    Calls Tryz.prog 60 #[.pointer (some ⟨R, 0, none⟩)] w (PartTo N tag w R (textOrKeyP s fs d)) := by
  obtain ⟨z1, z2, z3, z4, z5⟩ := zero_box h
  have htx := text_c R s ov (.int .i64 d) (zBox w) hl z1.rd (fun W hs => hT W (h.low (z3.trans (Kp.save h.rmark hs))))
  unfold textOrKeyP
  have HZ := Lib.hid (And.intro z1 (And.intro z2 (And.intro z3 (And.intro z4 z5))))
  clear z1 z2 z3 h
  cases hk1 : textP s with
  | none =>
    rw [hk1] at htx
    go_enter Tryz.func60, Tryz.ntmps60
    go_wp2_with (go_at_call 80; refine htx.mono ?_; rintro e1 W1 ⟨rfl, h1⟩)
    exact ⟨rfl, rfl, tag, HZ.out.2.2.1.trans (Kp.save HZ.out.1.rmark h1)⟩
  | some q =>
    obtain ⟨a, t⟩ := q
    rw [hk1] at htx
    have hal : (S a).size ≤ 1099511627776 := by
      unfold textP at hk1
      cases hi : innerP s with
      | none => rw [hi] at hk1; cases hk1
      | some q =>
        obtain ⟨a', t'⟩ := q
        rw [hi] at hk1
        simp only at hk1
        have := (inner_len hi).1
        split at hk1
        · injection hk1 with h1
          injection h1 with h2 h3
          rw [size_S, ← h2]
          omega
        · cases hk1
    simp only
    have HTK := Lib.hid (fun W (hr : Rd R (S t) ov (.int .i64 d) W) => takes_c R (S t) (S [58]) ov (.int .i64 d) W hr)
    simp only at HTK
    unfold takesP at HTK
    have hd1 : ([58] : List UInt8).length = 1 := rfl
    rw [hd1] at HTK
    cases hp : Lib.hasPrefix t [58] with
    | false =>
      rw [hp] at HTK
      simp only [Bool.false_eq_true, if_false] at HTK ⊢
      go_enter Tryz.func60, Tryz.ntmps60
      go_wp2_with (first
        | (go_at_call 80; refine htx.mono ?_; rintro e1 W1 ⟨rfl, h1, h2⟩; have H1 := Lib.hid (And.intro h1 h2); clear h1 h2)
        | (go_at_call 45; refine (HTK.out _ H1.out.1).mono ?_; rintro e2 W2 ⟨rfl, h3, h4⟩; have r2 := (HZ.out.1.read H1.out.1 H1.out.2).read h3 h4; have b2 := (HZ.out.2.1.save H1.out.2 z5).save h4 z5; obtain ⟨y0, y1, y2, y3, y4⟩ := b2.five; obtain ⟨t0, t1, t2, t3, t4⟩ := b2.froz; have H2 := Lib.hid (And.intro r2 (HZ.out.2.2.1.trans ((Kp.save HZ.out.1.rmark H1.out.2).trans (Kp.save HZ.out.1.rmark h4)))); clear h3 h4 r2 b2))
      refine bodyPost_ret (v := .tuple #[.agg #[.int .i64 4, .int .i64 0, .string (S a), .slice none 0 0, .slice none 0 0], .bool true]) (by simp [results, Tryz.results60, go_sem, y0, y1, y2, y3, y4]) rfl ?_
      have fin := fun Z hZ => part_val (w := w) H2.out.1 H2.out.2 z4 (leaf_holds 4 0 (S a) (by decide) (by decide) (by omega)) Z hZ
      exact fin _ rfl
    | true =>
      rw [hp] at HTK
      simp only [if_true] at HTK ⊢
      have HKY := Lib.hid (fun W (hr : RdAt N tag W R (t.drop 1) fs d ov es) => keyOf_c N tag W R (t.drop 1) fs d ov es hr (S a) (by omega) hk hm)
      cases hky : keyP fs (S a) with
      | none =>
        rw [hky] at HKY
        go_enter Tryz.func60, Tryz.ntmps60
        go_wp2_with (first
          | (go_at_call 80; refine htx.mono ?_; rintro e1 W1 ⟨rfl, h1, h2⟩; have H1 := Lib.hid (And.intro h1 h2); clear h1 h2)
          | (go_at_call 45; refine (HTK.out _ H1.out.1).mono ?_; rintro e2 W2 ⟨rfl, h3, h4⟩; have H2 := Lib.hid (And.intro h3 h4); clear h3 h4)
          | (go_at_call 81; refine (HKY.out _ ((HZ.out.1.read H1.out.1 H1.out.2).read H2.out.1 H2.out.2)).mono ?_; rintro e3 W3 ⟨rfl, h5⟩))
        exact ⟨rfl, rfl, tag, (HZ.out.2.2.1.trans ((Kp.save HZ.out.1.rmark H1.out.2).trans (Kp.save HZ.out.1.rmark H2.out.2))).trans h5⟩
      | some fs' =>
        rw [hky] at HKY
        go_enter Tryz.func60, Tryz.ntmps60
        go_wp2_with (first
          | (go_at_call 80; refine htx.mono ?_; rintro e1 W1 ⟨rfl, h1, h2⟩; have H1 := Lib.hid (And.intro h1 h2); clear h1 h2)
          | (go_at_call 45; refine (HTK.out _ H1.out.1).mono ?_; rintro e2 W2 ⟨rfl, h3, h4⟩; have H2 := Lib.hid (And.intro h3 h4); clear h3 h4)
          | (go_at_call 81; refine (HKY.out _ ((HZ.out.1.read H1.out.1 H1.out.2).read H2.out.1 H2.out.2)).mono ?_; rintro e3 W3 ⟨rfl, tag', ov', es', h5, h6⟩; obtain ⟨b3, b4⟩ := ((HZ.out.2.1.save H1.out.2 z5).save H2.out.2 z5).kp h6 z4; obtain ⟨y0, y1, y2, y3, y4⟩ := b3.five; obtain ⟨t0, t1, t2, t3, t4⟩ := b3.froz; have H3 := Lib.hid (And.intro h5 (And.intro ((HZ.out.2.2.1.trans ((Kp.save HZ.out.1.rmark H1.out.2).trans (Kp.save HZ.out.1.rmark H2.out.2))).trans h6) b4)); clear h5 h6 b3 b4))
        refine bodyPost_ret (v := .tuple #[.agg #[.int .i64 0, .int .i64 0, .string ⟨#[]⟩, .slice none 0 0, .slice none 0 0], .bool false]) (by simp [results, Tryz.results60, go_sem, y0, y1, y2, y3, y4]) rfl ?_
        have fin := fun Z hZ => part_more (w := w) H3.out.1 H3.out.2.1 H3.out.2.2 Z hZ
        exact fin _ rfl
end Go.Proofs.YtamenccdnobjkaaGreatDoor.Rd
