/-
  A value that came in, as the row reads it, opened as a tree.
-/
import Derived.Test.YtcheiombgnabaaaValTree
import GoSem.ClaimJoined
import Derived.ChangeArms
import Derived.DataReads
import Derived.SizedLaws
namespace Go.Proofs.Ytcheiombgnabaaa.Val
open Go.RowKit Go.Proofs.Ytcheiombgnabaaa.Oct

variable {H : Type} {enc : TypeId × Value → H} {w : World} {base : Nat} {spare : Nat → Bool} {held : Bool}

theorem cells_one3 : Try.prog.cellsOf 3 = 1 := by kernel_rfl
theorem cells_one9 : Try.prog.cellsOf 9 = 1 := by kernel_rfl
theorem cells_oneL : Try.prog.cellsOf 22 = 1 := by kernel_rfl
theorem cells_oneK : Try.prog.cellsOf 23 = 1 := by kernel_rfl
theorem cells_five : Try.prog.cellsOf 25 = 5 := by kernel_rfl
theorem bytes_text : Try.prog.bytesOf 9 = 16 := by kernel_rfl
theorem bytes_value : Try.prog.bytesOf 25 = 80 := by kernel_rfl

/-- An address that is read bears no spot. -/
theorem no_spot {a : Addr} {v : Value} (h : w.cell? a = some v) : a = ⟨a.block, a.off, none⟩ := by
  obtain ⟨b, o, sp⟩ := a
  cases sp with
  | none => rfl
  | some x =>
    simp only [World.cell?] at h
    split at h <;> simp at h
theorem add_zero' (a : Addr) : a.add 0 = a := by simp [Addr.add]

theorem list_of {α : Type} {P : Nat → α → Prop} (n : Nat) (h : ∀ i, i < n → ∃ x, P i x) : ∃ l : List α, l.length = n ∧ ∀ i (hi : i < l.length), P i l[i] := by
  induction n with
  | zero => exact ⟨[], rfl, fun i hi => absurd hi (by simp)⟩
  | succ n ih =>
    obtain ⟨l, hl, hp⟩ := ih (fun i hi => h i (by omega))
    obtain ⟨x, hx⟩ := h n (by omega)
    refine ⟨l ++ [x], by simp [hl], fun i hi => ?_⟩
    rcases Nat.lt_or_ge i l.length with h1 | h1
    · rw [List.getElem_append_left h1]; exact hp i h1
    · have : i = l.length := by simp at hi; omega
      subst this
      simp [hl]
      exact hx

theorem weights_mem_all {P : Program} {e : TypeId} {ds : List (DataW H)} {d : DataW H} (hd : d ∈ ds) : ∀ n ∈ d.weights P e, n ∈ DataW.weightsAll P e ds := by
  induction ds with
  | nil => cases hd
  | cons d0 ds ih =>
    intro n hn
    simp only [DataW.weightsAll, List.mem_append]
    rcases List.mem_cons.1 hd with rfl | hd
    · exact .inl hn
    · exact .inr (ih hd n hn)

/-- A list of texts that came in. -/
theorem open_texts {fuel : Nat} {cs : List Value} {y : DataW H × List MemPlace} (h : DataW.trod enc Try.prog w base spare held fuel 23 cs = some y) (hs : ∀ n ∈ y.1.weights Try.prog 23, n ≤ reachBytes) :
    ∃ K ks, cs = [K] ∧ Texts (Old w.heap.size) w K ks := by
  rcases DataW.trod_slice Try.underlying23 h with ⟨rfl, _⟩ | ⟨a, len, cap, elems, rest, n, _, rfl, rfl, hb, hl, hm, hlen, hel, _⟩
  · exact ⟨_, [], rfl, none, 0, 0, 0, rfl, by simp, fun h => absurd h (by simp), fun i h => absurd h (by simp)⟩
  · have key : ∀ i, i < len → ∃ s : ByteArray, w.cell? (a.add i) = some (.string s) ∧ s.size ≤ 140737488351232 := fun i hi => by
      have h1 := hel i hi
      rw [List.getElem?_eq_getElem (by omega), Option.bind_eq_some_iff] at h1
      obtain ⟨cs', h2, h3⟩ := h1
      obtain ⟨s, rfl, hys⟩ := DataW.trod_string Try.underlying9 h3
      have hsz : s.size ≤ 140737488351232 := by
        have h9 := hs s.data.toList.length (by
          simp only [DataW.weights, Try.underlying23, List.mem_cons, List.mem_append]
          exact .inr (.inl (weights_mem_all (List.mem_map.2 ⟨elems[i], List.getElem_mem _, rfl⟩) _ (by rw [hys.1]; simp [DataW.weights]))))
        rw [size_list] at h9
        exact h9
      rw [cells_one9, Nat.mul_one] at h2
      obtain ⟨_, _, hat⟩ := World.cells?_some h2
      have h4 := hat 0 (by omega)
      rw [add_zero'] at h4
      exact ⟨s, h4, hsz⟩
    obtain ⟨ks, hk, hp⟩ := list_of len key
    have hbound : len * 16 ≤ 140737488351232 := by
      have := hs ((elems.length + rest.length) * Try.prog.bytesOf 9) (by simp [DataW.weights, Try.underlying23])
      rw [bytes_text, hlen] at this
      have e : reachBytes = 140737488351232 := rfl
      have h2 : len * 16 ≤ (len + rest.length) * 16 := Nat.mul_le_mul_right _ (by omega)
      omega
    refine ⟨_, ks, rfl, some a, cap, a.block, a.off, by rw [hk], ⟨by rw [hk]; exact hbound, fun s h => by obtain ⟨i, hi, rfl⟩ := List.getElem_of_mem h; exact (hp i hi).2⟩, fun h0 => ?_, fun i hi => ?_⟩
    · have h1 := (hp 0 h0).1
      rw [add_zero'] at h1
      exact ⟨congrArg some (no_spot h1), World.block_lt_of_cell? w a h1⟩
    · have h0 := (hp 0 (by omega)).1
      rw [add_zero'] at h0
      have h1 := (hp i hi).1
      rw [no_spot h0, Addr.add_lit] at h1
      exact h1

set_option maxRecDepth 100000 in
/-- A value that came in. -/
theorem open_val (fuel : Nat) : ∀ (cs : List Value) (y : DataW H × List MemPlace), DataW.trod enc Try.prog w base spare held fuel 25 cs = some y → (∀ n ∈ y.1.weights Try.prog 25, n ≤ reachBytes) →
    ∃ u0 u1 u2 u3 u4 x, cs = [u0, u1, u2, u3, u4] ∧ Holds (Old w.heap.size) w (.agg #[u0, u1, u2, u3, u4]) x := by
  induction fuel using Nat.strongRecOn with
  | ind fuel ih =>
    intro cs y h hs
    obtain ⟨xs, n, hfu, rfl, hlen, hxl, hf⟩ := DataW.trod_struct Try.underlying25 h
    rw [cells_five] at hlen
    obtain ⟨u0, u1, u2, u3, u4, rfl⟩ : ∃ u0 u1 u2 u3 u4, cs = [u0, u1, u2, u3, u4] := by
      match cs, hlen with
      | [u0, u1, u2, u3, u4], _ => exact ⟨u0, u1, u2, u3, u4, rfl⟩
    obtain ⟨y0, y1, y2, y3, y4, rfl⟩ : ∃ y0 y1 y2 y3 y4, xs = [y0, y1, y2, y3, y4] := by
      match xs, (show xs.length = 5 from hxl) with
      | [y0, y1, y2, y3, y4], _ => exact ⟨y0, y1, y2, y3, y4, rfl⟩
    have f0 : DataW.trod enc Try.prog w base spare held n 3 [u0] = some y0 := by simpa [cells_one3] using hf 0 _ rfl
    have f1 : DataW.trod enc Try.prog w base spare held n 3 [u1] = some y1 := by simpa [cells_one3] using hf 1 _ rfl
    have f2 : DataW.trod enc Try.prog w base spare held n 9 [u2] = some y2 := by simpa [cells_one9] using hf 2 _ rfl
    have f3 : DataW.trod enc Try.prog w base spare held n 22 [u3] = some y3 := by simpa [cells_oneL] using hf 3 _ rfl
    have f4 : DataW.trod enc Try.prog w base spare held n 23 [u4] = some y4 := by simpa [cells_oneK] using hf 4 _ rfl
    obtain ⟨k, hk, _, wk⟩ := DataW.trod_int Try.underlying3 f0
    obtain ⟨m, hm, _, wm⟩ := DataW.trod_int Try.underlying3 f1
    obtain ⟨s, hst, hys, _⟩ := DataW.trod_string Try.underlying9 f2
    simp only [List.cons.injEq, and_true] at hk hm hst
    subst hk; subst hm; subst hst
    have wt : ∀ (j : Nat) (t : TypeId) (d : DataW H), ([3, 3, 9, 22, 23] : List TypeId)[j]? = some t → ([y0.1, y1.1, y2.1, y3.1, y4.1] : List (DataW H))[j]? = some d → ∀ n ∈ d.weights Try.prog t, n ≤ reachBytes := fun j t d ht hd n hn =>
      hs n (by
        simp only [List.map_cons, List.map_nil, DataW.weights, Try.underlying25]
        exact DataW.weights_mem_each ht hd n hn)
    obtain ⟨K, ks, hK, hT⟩ := open_texts f4 (wt 4 _ _ rfl rfl)
    simp only [List.cons.injEq, and_true] at hK
    subst hK
    have hsb : s.size ≤ 140737488351232 := by
      have := wt 2 _ _ rfl rfl s.data.toList.length (by rw [hys]; simp [DataW.weights])
      rw [size_list] at this
      exact this
    have hkr : -9223372036854775808 ≤ k ∧ k ≤ 9223372036854775807 := by simpa [Lit.wf, IntKind.min, IntKind.max, IntKind.signed, IntKind.bits] using wk
    have hmr : -9223372036854775808 ≤ m ∧ m ≤ 9223372036854775807 := by simpa [Lit.wf, IntKind.min, IntKind.max, IntKind.signed, IntKind.bits] using wm
    rcases DataW.trod_slice Try.underlying22 f3 with ⟨h0, _⟩ | ⟨a, len, cap, elems, rest, n', hn', hcs, hy3, hb, hl, hmx, hlen', hel, _⟩
    · simp only [List.cons.injEq, and_true] at h0
      subst h0
      exact ⟨_, _, _, _, _, .mk k m s [] ks, rfl, .mk k m s none 0 u4 [] ks 0 0 (fun _ _ => undef) ⟨hkr.1, hkr.2, hmr.1, hmr.2, hsb, by simp⟩ (fun h => absurd h (by simp)) (fun i j h => absurd h (by simp)) hT (fun i h => absurd h (by simp))⟩
    · simp only [List.cons.injEq, and_true] at hcs
      subst hcs
      have w3 := wt 3 _ _ rfl rfl
      rw [hy3] at w3
      simp only [DataW.weights, Try.underlying22] at w3
      have key : ∀ i, i < len → ∃ x : V, (∀ j, j < 5 → ∃ u, w.cell? ((a.add (i * 5)).add j) = some u) ∧ Holds (Old w.heap.size) w (.agg #[((w.cell? ((a.add (i * 5)).add 0)).getD undef), ((w.cell? ((a.add (i * 5)).add 1)).getD undef), ((w.cell? ((a.add (i * 5)).add 2)).getD undef), ((w.cell? ((a.add (i * 5)).add 3)).getD undef), ((w.cell? ((a.add (i * 5)).add 4)).getD undef)]) x := fun i hi => by
        have h1 := hel i hi
        rw [List.getElem?_eq_getElem (by omega), Option.bind_eq_some_iff] at h1
        obtain ⟨cs', h2, h3⟩ := h1
        obtain ⟨c0, c1, c2, c3, c4, x, rfl, hx⟩ := ih n' (by omega) cs' _ h3 (fun n hn => w3 n (by
          simp only [List.mem_cons, List.mem_append]
          exact .inr (.inl (weights_mem_all (List.mem_map.2 ⟨elems[i], List.getElem_mem _, rfl⟩) n hn))))
        rw [cells_five] at h2
        obtain ⟨_, _, hat⟩ := World.cells?_some h2
        refine ⟨x, fun j hj => ?_, ?_⟩
        · rw [hat j hj]
          match j, hj with
          | 0, _ => exact ⟨_, rfl⟩
          | 1, _ => exact ⟨_, rfl⟩
          | 2, _ => exact ⟨_, rfl⟩
          | 3, _ => exact ⟨_, rfl⟩
          | 4, _ => exact ⟨_, rfl⟩
        · rw [hat 0 (by omega), hat 1 (by omega), hat 2 (by omega), hat 3 (by omega), hat 4 (by omega)]
          exact hx
      obtain ⟨l, hll, hp⟩ := list_of len key
      have hbound : l.length * 80 ≤ 140737488351232 := by
        have := w3 ((elems.length + rest.length) * Try.prog.bytesOf 25) (by simp)
        rw [bytes_value, hlen'] at this
        have e : reachBytes = 140737488351232 := rfl
        have h2 : len * 80 ≤ (len + rest.length) * 80 := Nat.mul_le_mul_right _ (by omega)
        omega
      have hlit : ∀ i j, 0 < l.length → (a.add (i * 5)).add j = ⟨a.block, a.off + (i * 5 + j), none⟩ := fun i j h0 => by
        obtain ⟨u, hu⟩ := (hp 0 h0).1 0 (by omega)
        rw [Nat.zero_mul, add_zero', add_zero'] at hu
        rw [no_spot hu, Addr.add_lit, Addr.add_lit, Nat.add_assoc]
      refine ⟨_, _, _, _, _, .mk k m s l ks, rfl, ?_⟩
      rw [← hll]
      refine .mk k m s (some a) cap u4 l ks a.block a.off (fun i j => (w.cell? ((a.add (i * 5)).add j)).getD undef) ⟨hkr.1, hkr.2, hmr.1, hmr.2, hsb, hbound⟩ (fun h0 => ?_) (fun i j hi hj => ?_) hT (fun i hi => (hp i hi).2)
      · obtain ⟨u, hu⟩ := (hp 0 h0).1 0 (by omega)
        rw [Nat.zero_mul, add_zero', add_zero'] at hu
        exact ⟨congrArg some (no_spot hu), World.block_lt_of_cell? w a hu⟩
      · obtain ⟨u, hu⟩ := (hp i hi).1 j hj
        show w.cell? _ = some ((w.cell? ((a.add (i * 5)).add j)).getD undef)
        rw [hu, ← hlit i j (by omega), hu]
        rfl
end Go.Proofs.Ytcheiombgnabaaa.Val
