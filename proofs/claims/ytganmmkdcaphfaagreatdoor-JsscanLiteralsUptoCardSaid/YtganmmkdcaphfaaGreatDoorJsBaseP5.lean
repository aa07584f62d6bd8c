/-
  Part 5: ValClone, ValClone2.
-/
import Derived.Test.YtganmmkdcaphfaaGreatDoorJsBaseP4
import Derived.Test.YtganmmkdcaphfaaGreatDoorJsBaseP2
import Derived.Deep.RegionHeld3
/-
  Contracts of values.cloned, at texts and at values, and of values.Clone: a value in memory of its own, which reads as the same tree.
-/
namespace Go.Proofs.YtganmmkdcaphfaaGreatDoor.Val
open Go.RowKit Go.Proofs.YtganmmkdcaphfaaGreatDoor.Oct

theorem enter_sclone : ∀ args w, (callFunc 18 args).run Tryz.prog w = .ok (.enter 18 args) w := enters_of Tryz.func18 (by kernel_rfl) rfl
theorem enter_lclone : ∀ args w, (callFunc 31 args).run Tryz.prog w = .ok (.enter 31 args) w := enters_of Tryz.func31 (by kernel_rfl) rfl
/-- A slice held against nil. -/
theorem eql_nil {t e : TypeId} (w : World) (a : Option Addr) (l c : Nat) (h : Tryz.prog.underlying t = some (.slice e)) : (binOp .eql t (.slice a l c) (.slice none 0 0)).run Tryz.prog w = .ok (.bool a.isNone) w := by
  have hd : ∀ d : Nat, (Op.equalIn (d + 1) t (.slice a l c) (.slice none 0 0)).run Tryz.prog w = .ok a.isNone w := fun d => by
    cases a <;> simp [Op.equalIn, run_underlying h]
  simp only [binOp]
  simp [Op.equal, Op.maxDepth, hd 9999]

theorem sclone_c (s : ByteArray) (w : World) (hs : s.size ≤ 140737488351232) :
    Calls Tryz.prog 18 #[.string s] w fun e w' => e = .returned (.string s) ∧ Below w.heap.size w w' := by
  have e35 := enter_lclone
  go_enter Tryz.func18, Tryz.ntmps18
  go_wp2_with (go_at_fn 31; refine (Tryz.stringslite_Clone s _ (by omega)).mono ?_; rintro e w1 ⟨rfl, hb⟩)
  go_ret
  exact ⟨rfl, hb⟩

/-- The cells behind k rounds. -/
def textsAt (ks : List ByteArray) (k : Nat) : List Value := (ks.take k).map Value.string ++ List.replicate (ks.length - k) (Value.string ⟨#[]⟩)
theorem textsAt_zero (ks : List ByteArray) : textsAt ks 0 = List.replicate ks.length (Value.string ⟨#[]⟩) := by simp [textsAt]
theorem textsAt_succ (ks : List ByteArray) (k : Nat) (h : k < ks.length) : (textsAt ks k).set k (Value.string ks[k]) = textsAt ks (k + 1) := by
  unfold textsAt
  have e : ks.length - k = (ks.length - (k + 1)) + 1 := by omega
  rw [e, List.replicate_succ, List.set_append_right _ _ (by simp; omega)]
  have e2 : k - ((ks.take k).map Value.string).length = 0 := by simp; omega
  rw [e2, List.set_cons_zero, List.take_succ_eq_append_getElem h, List.map_append, List.map_singleton, List.append_assoc, List.singleton_append]
theorem textsAt_at (ks : List ByteArray) (k : Nat) (h : k < ks.length) : (textsAt ks k)[k]? = some (Value.string ⟨#[]⟩) := by
  unfold textsAt
  rw [List.getElem?_append_right (by simp; omega), List.getElem?_replicate, if_pos (by simp; omega)]
theorem textsAt_full (ks : List ByteArray) (j : Nat) (h : j < ks.length) : (textsAt ks ks.length)[j]? = some (Value.string ks[j]) := by
  simp [textsAt, h]

end Go.Proofs.YtganmmkdcaphfaaGreatDoor.Val

/-
  Contracts of values.cloned at values and of values.Clone: a value in memory of its own, which reads as the same tree.
-/
namespace Go.Proofs.YtganmmkdcaphfaaGreatDoor.Val
open Go.RowKit Go.Proofs.YtganmmkdcaphfaaGreatDoor.Oct

/-- A slice of values reads as l. -/
def Vals (C : Cond) (w : World) (v : Value) (l : List V) : Prop :=
  ∃ (p : Option Addr) (cap b off : Nat) (c : Nat → Nat → Value), v = .slice p l.length cap ∧ (0 < l.length → p = some ⟨b, off, none⟩ ∧ C false b off l.length) ∧
    (∀ i j, i < l.length → j < 5 → w.cell? ⟨b, off + (i * 5 + j), none⟩ = some (c i j)) ∧ ∀ i (h : i < l.length), Holds C w (.agg #[c i 0, c i 1, c i 2, c i 3, c i 4]) l[i]

theorem Vals.frame {C C' : Cond} {w w' : World} {v : Value} {l : List V} (h : Vals C w v l) (hC : ∀ t b off n, C t b off n → w'.heap[b]? = w.heap[b]?) (hC' : ∀ t b off n, C t b off n → C' t b off n) : Vals C' w' v l := by
  obtain ⟨p, cap, b, off, c, h1, h2, h3, h4⟩ := h
  refine ⟨p, cap, b, off, c, h1, fun h0 => ⟨(h2 h0).1, hC' _ _ _ _ (h2 h0).2⟩, fun i j hi hj => ?_, fun i hi => (h4 i hi).frame hC hC'⟩
  have := hC _ _ _ _ (h2 (by omega)).2
  rw [← h3 i j hi hj]
  simp [World.cell?, this]

theorem Vals.form {C : Cond} {w : World} {v : Value} {l : List V} (h : Vals C w v l) : ∃ p cap, v = .slice p l.length cap := by
  obtain ⟨p, cap, b, off, c, h1, _⟩ := h
  exact ⟨p, cap, h1⟩
theorem Texts.form {C : Cond} {w : World} {v : Value} {ks : List ByteArray} (h : Texts C w v ks) : ∃ p cap, v = .slice p ks.length cap := by
  obtain ⟨p, cap, b, off, h1, _⟩ := h
  exact ⟨p, cap, h1⟩

theorem flat_set (es : List E5) (k : Nat) (e : E5) (h : k < es.length) :
    (((((flat es).set (k * 5) e.1).set (k * 5 + 1) e.2.1).set (k * 5 + 2) e.2.2.1).set (k * 5 + 3) e.2.2.2.1).set (k * 5 + 4) e.2.2.2.2 = flat (es.set k e) := by
  induction es generalizing k with
  | nil => cases h
  | cons x es ih =>
    have ef : ∀ y (t : List E5), flat (y :: t) = cells5 y ++ flat t := fun _ _ => rfl
    rw [ef]
    cases k with
    | zero => rw [List.set_cons_zero, ef]; rfl
    | succ k =>
      rw [List.set_cons_succ, ef, ← ih k (by simpa using h)]
      have e0 : ∀ j, (k + 1) * 5 + j = 5 + (k * 5 + j) := fun j => by omega
      have e1 : (k + 1) * 5 = 5 + k * 5 := by omega
      have s1 : ∀ (t : List Value) (j : Nat) (u : Value), (cells5 x ++ t).set (5 + j) u = cells5 x ++ t.set j u := fun t j u => by
        rw [List.set_append_right _ _ (by simp)]
        congr 2
        simp
      rw [e1, s1, ← e1, e0 1, s1, e0 2, s1, e0 3, s1, e0 4, s1]

abbrev zero5 : E5 := (.int .i64 0, .int .i64 0, .string ⟨#[]⟩, .slice none 0 0, .slice none 0 0)
theorem flat_zero (n : Nat) : (madeCells #[.int .i64 0, .int .i64 0, .string ⟨#[]⟩, .slice none 0 0, .slice none 0 0] (n * 5)).toList = flat (List.replicate n zero5) := by
  apply List.ext_getElem?
  intro j
  by_cases hj : j < n * 5
  · have h1 := flat_at (List.replicate n zero5) (j / 5) (j % 5) (by simp; omega) (by omega)
    rw [show j / 5 * 5 + j % 5 = j by omega] at h1
    rw [h1, List.getElem_replicate]
    simp only [madeCells, Array.toList_map, Array.toList_range, List.getElem?_map, List.getElem?_range hj, Option.map_some]
    have h5 : j % 5 < 5 := by omega
    show some (#[Value.int .i64 0, .int .i64 0, .string ⟨#[]⟩, .slice none 0 0, .slice none 0 0][j % 5]!) = _
    match h : j % 5, h5 with
    | 0, _ => rfl
    | 1, _ => rfl
    | 2, _ => rfl
    | 3, _ => rfl
    | 4, _ => rfl
  · rw [List.getElem?_eq_none (by simp [madeCells]; omega), List.getElem?_eq_none (by rw [flat_len]; simp; omega)]

theorem holds_agg {C : Cond} {w : World} {v : Value} {x : V} (h : Holds C w v x) : ∃ k n s p a b q c d, v = .agg #[.int .i64 k, .int .i64 n, .string s, .slice p a b, .slice q c d] := by
  cases h with
  | mk k n s p cap K l ks b off c hr hp hc hK hl =>
    obtain ⟨q, qc, qb, qo, rfl, _⟩ := hK
    exact ⟨k, n, s, p, _, _, q, _, _, rfl⟩
theorem holds_parts {C : Cond} {w : World} {u0 u1 u2 u3 u4 : Value} {x : V} (h : Holds C w (.agg #[u0, u1, u2, u3, u4]) x) : ∃ k n s p a b q c d, u0 = .int .i64 k ∧ u1 = .int .i64 n ∧ u2 = .string s ∧ u3 = .slice p a b ∧ u4 = .slice q c d := by
  obtain ⟨k, n, s, p, a, b, q, c, d, e⟩ := holds_agg h
  simp only [Value.agg.injEq, Array.mk.injEq, List.cons.injEq, and_true] at e
  exact ⟨k, n, s, p, a, b, q, c, d, e⟩

/-- What holds between two rounds of cloned. -/
def ClonedAt (w : World) (l : List V) (k : Nat) (wr : World) : Prop :=
  ∃ es : List E5, es.length = l.length ∧ wr.ownsRow w.heap.size 25 5 (.slice (some ⟨w.heap.size, 0, none⟩) l.length l.length) l.length (flat es) ∧
    (∀ i (_ : i < k) (h1 : i < es.length) (h2 : i < l.length), Holds (But w.heap.size wr (some w.heap.size)) wr (agg5 es[i]) l[i]) ∧ Below w.heap.size w wr

abbrev put5 (w : World) (g k : Nat) (e : E5) : World :=
  ((((w.setCell ⟨g, k * 5, none⟩ e.1).setCell ⟨g, k * 5 + 1, none⟩ e.2.1).setCell ⟨g, k * 5 + 2, none⟩ e.2.2.1).setCell ⟨g, k * 5 + 3, none⟩ e.2.2.2.1).setCell ⟨g, k * 5 + 4, none⟩ e.2.2.2.2

theorem cloned_next {w wr w' : World} {l : List V} {k : Nat} {o : Obj} {e : E5} (h : ClonedAt w l k wr) (hk : k < l.length) (hb : Below (wr.alloc o).heap.size (wr.alloc o) w') (hA : Holds (Mine (wr.alloc o).heap.size w') w' (agg5 e) l[k]) :
    ClonedAt w l (k + 1) (put5 w' w.heap.size k e) := by
  obtain ⟨es, hes, hown, hold, hbel⟩ := h
  have hg : w.heap.size < wr.heap.size := (hown.lt w.heap.size rfl).2
  have zs : (wr.alloc o).heap.size = wr.heap.size + 1 := by simp
  have h1 := own_kept (hown.alloc o) hb
  have s5 := ((((h1.stored (k * 5) e.1).1.stored (k * 5 + 1) e.2.1).1.stored (k * 5 + 2) e.2.2.1).1.stored (k * 5 + 3) e.2.2.2.1).1.stored (k * 5 + 4) e.2.2.2.2
  have oth : ∀ b, b ≠ w.heap.size → (put5 w' w.heap.size k e).heap[b]? = w'.heap[b]? := fun b hne => by
    rw [heap_setCell_other _ _ _ _ (by simpa using hne), heap_setCell_other _ _ _ _ (by simpa using hne), heap_setCell_other _ _ _ _ (by simpa using hne), heap_setCell_other _ _ _ _ (by simpa using hne), heap_setCell_other _ _ _ _ (by simpa using hne)]
  have old : ∀ b, b < wr.heap.size → w'.heap[b]? = wr.heap[b]? := fun b hlt => by
    rw [hb.block b (by omega), Go.heap_alloc_old _ _ hlt]
  refine ⟨es.set k e, by simp [hes], ?_, fun i hi h1' h2 => ?_, ?_⟩
  · rw [← flat_set es k e (by omega)]
    exact s5.1
  · rcases Nat.lt_or_ge i k with hlt | hge
    · have e1 : (es.set k e)[i]'h1' = es[i]'(by omega) := by rw [List.getElem_set_ne (by omega)]
      rw [e1]
      refine (hold i hlt (by omega) h2).frame (fun t b off n hB => ?_) (fun t b off n hB => ?_)
      · rw [oth b (fun h => hB.2 (by rw [h])), old b hB.1.lt]
      · have hne : b ≠ w.heap.size := fun h => hB.2 (by rw [h])
        obtain ⟨⟨c1, c2, cur, c3⟩, c4⟩ := hB
        exact ⟨⟨c1, c2, cur, by rw [oth b hne, old b (Array.getElem?_eq_some_iff.1 c3).1]; exact c3⟩, c4⟩
    · have e0 : i = k := by omega
      subst e0
      have e1 : (es.set i e)[i]'h1' = e := by simp
      rw [e1]
      refine hA.frame (fun t b off n hB => oth b (by have := hB.1; omega)) (fun t b off n hB => ?_)
      have hne : b ≠ w.heap.size := by have := hB.1; omega
      obtain ⟨c1, c2, cur, c3⟩ := hB
      exact ⟨⟨by omega, c2, cur, by rw [oth b hne]; exact c3⟩, by simpa using hne⟩
  · have hb0 : Below w.heap.size w w' := (hbel.alloc (by omega) o).trans (hb.mono (by omega))
    exact ((((hb0.setCell (p := ⟨w.heap.size, k * 5, none⟩) (by simp) _).setCell (p := ⟨w.heap.size, k * 5 + 1, none⟩) (by simp) _).setCell (p := ⟨w.heap.size, k * 5 + 2, none⟩) (by simp) _).setCell (p := ⟨w.heap.size, k * 5 + 3, none⟩) (by simp) _).setCell (p := ⟨w.heap.size, k * 5 + 4, none⟩) (by simp) _

theorem cloned_end {w wr : World} {l : List V} (h : ClonedAt w l l.length wr) : Vals (Mine w.heap.size wr) wr (.slice (some ⟨w.heap.size, 0, none⟩) l.length l.length) l := by
  obtain ⟨es, hes, hown, hold, hbel⟩ := h
  refine ⟨_, l.length, w.heap.size, 0, fun i j => ((flat es)[i * 5 + j]?).getD undef, rfl, fun _ => ⟨rfl, Nat.le_refl _, rfl, ?_⟩, fun i j hi hj => ?_, fun i hi => ?_⟩
  · rcases hown.2 with ⟨h, _⟩ | ⟨g2, cap2, cur, hv, hb2, hh, _⟩
    · cases h
    · have e1 : g2 = w.heap.size := by simp at hv; omega
      subst e1
      exact ⟨cur, hh⟩
  · have h3 := hown.cellAt (i * 5 + j) (by omega)
    have : i * 5 + j < (flat es).length := by rw [flat_len, hes]; omega
    show wr.cell? ⟨w.heap.size, 0 + (i * 5 + j), none⟩ = some (((flat es)[i * 5 + j]?).getD undef)
    rw [List.getElem?_eq_getElem this] at h3 ⊢
    rw [Nat.zero_add]
    exact h3
  · have h1 := (hold i hi (by omega) hi).frame (C' := Mine w.heap.size wr) (fun _ _ _ _ _ => rfl) (fun _ _ _ _ h => h.1)
    have e : ∀ j, j < 5 → ((flat es)[i * 5 + j]?).getD undef = ((cells5 (es[i]'(by omega)))[j]?).getD undef := fun j hj => by rw [flat_at es i j (by omega) hj]
    show Holds _ _ (.agg #[((flat es)[i * 5 + 0]?).getD undef, ((flat es)[i * 5 + 1]?).getD undef, ((flat es)[i * 5 + 2]?).getD undef, ((flat es)[i * 5 + 3]?).getD undef, ((flat es)[i * 5 + 4]?).getD undef]) _
    rw [e 0 (by omega), e 1 (by omega), e 2 (by omega), e 3 (by omega), e 4 (by omega)]
    exact h1
end Go.Proofs.YtganmmkdcaphfaaGreatDoor.Val
