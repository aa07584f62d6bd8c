/-
  Part 4: ValOwn, RdAt.
-/
import Derived.Test.YtganmmkdcaphfaaGreatDoorJsBaseP3
import Derived.Deep.AppendLies
import Derived.Deep.RegionLaw
import Derived.Deep.RegionWith
/-
  Contract of the page's Own: a value in memory of its own, which reads as the same tree.
-/
namespace Go.Proofs.YtganmmkdcaphfaaGreatDoor.Val
open Go.RowKit Go.Proofs.YtganmmkdcaphfaaGreatDoor.Oct

/-- A block of its own: whole, unfrozen, from its beginning on. -/
def Mine (lo : Nat) (w : World) : Cond := fun t b off _ => lo ≤ b ∧ off = 0 ∧ ∃ cur, w.heap[b]? = some (.cells cur (if t then 9 else 25) (0, 0))

theorem Mine.lt {lo : Nat} {w : World} {t : Bool} {b off n : Nat} (h : Mine lo w t b off n) : b < w.heap.size := by
  obtain ⟨_, _, cur, h⟩ := h
  exact (Array.getElem?_eq_some_iff.1 h).1

/-- An append whose run is known, at a plain region's list of operations. -/
theorem wpList_append_run {P : Program} {w w' : World} {ops : Array Oper} {rest : List Oper} {o : Oper} {a : Act} {Q : Exit → Act → World → Prop} (hgd : o.guard = none) (s x : Operand) (t : TypeId)
    (ho : o.op = .call { callee := .builtin .append, args := #[s, x], argTypes := #[t, t] }) (v u v' : Value) (hs : a.eval s = v) (hx : a.eval x = u)
    (hrun : (Builtin.append_ #[t, t] o.type #[v, u]).run P w = .ok v' w') (h : wpList P ops Q rest (a.put o.dst v') w') : wpList P ops Q (o :: rest) a w := by
  refine wpList_plain hgd fun K hK => ?_
  unfold Oper.wp execOp
  simp only [ho, resolve, invoke, builtin, Sem.run_bind, Sem.run_pure, Result.andThen_ok, List.map_toArray, List.map_cons, List.map_nil, hs, hx, hrun]
  exact hK _ _ h

theorem info_text : (Tryz.prog.info? 9).map (fun i => (i.zero, i.size, i.bytes)) = some (some (.string ⟨#[]⟩), 1, 16) := by kernel_rfl
theorem info_value : (Tryz.prog.info? 25).map (fun i => (i.zero, i.size, i.bytes)) = some (some (.agg #[.int .i64 0, .int .i64 0, .string ⟨#[]⟩, .slice none 0 0, .slice none 0 0]), 5, 80) := by kernel_rfl

/-- 'append(nil, keys...)': the keys in a block of their own. -/
theorem append_keys (w : World) (ty : TypeId) (q : Option Addr) (qc qb qo : Nat) (ks : List ByteArray) (hlen0 : ks.length * 16 ≤ 140737488351232 ∧ ∀ s ∈ ks, s.size ≤ 140737488351232) (hq : 0 < ks.length → q = some ⟨qb, qo, none⟩)
    (hc : ∀ i (h : i < ks.length), w.cell? ⟨qb, qo + i, none⟩ = some (.string ks[i])) :
    ∃ K' w', (Builtin.append_ #[23, 23] ty #[.slice none 0 0, .slice q ks.length qc]).run Tryz.prog w = .ok K' w' ∧ Texts (Mine w.heap.size w') w' K' ks ∧ Below w.heap.size w w' := by
  obtain ⟨i0, hi, hz0, hz1, hz2⟩ := info_parts info_text
  have hlen := hlen0.1
  by_cases h0 : ks.length = 0
  · refine ⟨.slice none 0 0, w, ?_, ⟨none, 0, 0, 0, by rw [h0], hlen0, fun h => absurd h (by omega), fun i h => absurd h (by omega)⟩, Below.refl _ _⟩
    rw [h0]
    cases q with
    | none => simp [Builtin.append_, run_underlying Tryz.underlying23, sizeOf, typeInfo, hi, Builtin.lenOf, Builtin.firstCells]
    | some ad => simp [Builtin.append_, run_underlying Tryz.underlying23, sizeOf, typeInfo, hi, Builtin.lenOf, Builtin.firstCells, loadCells, loadCellsFrom]
  · have hpos : 0 < ks.length := by omega
    rw [hq hpos]
    obtain ⟨g, cap, w', hr, hown, hg, hat, hlt⟩ := run_append_lies (P := Tryz.prog) w 23 ty w.heap.size 9 i0 (.string ⟨#[]⟩) 1 16 Tryz.underlying23 hi hz0 hz1 hz2 rfl (by omega)
      (.slice none 0 0) 0 [] ⟨rfl, .inl ⟨rfl, rfl⟩⟩ ⟨qb, qo, none⟩ ks.length qc (ks.map Value.string) (by simp)
      (fun j u hu => by
        have hj : j < ks.length := by
          have := (List.getElem?_eq_some_iff.1 hu).1
          simpa using this
        have e := hc j hj
        rw [Addr.add_lit]
        rw [e]
        rw [List.getElem?_map, List.getElem?_eq_getElem hj] at hu
        exact hu)
      (fun u hu => by obtain ⟨b, _, rfl⟩ := List.mem_map.1 hu; rfl) hpos (by unfold maxLen; omega) (by omega) (Nat.le_refl _) _ rfl
    refine ⟨_, w', hr, ?_, ?_⟩
    · have hg' : w.heap.size ≤ g := by
        rcases hat with h | h
        · simp [Value.ownBlock] at h
        · omega
      rcases hown.2 with ⟨h, _⟩ | ⟨g2, cap2, cur, hv, hb2, hh, hnc, hcm, hcs, htk⟩
      · cases h
      · have e1 : g2 = g := by simp at hv; omega
        subst e1
        refine ⟨some ⟨g2, 0, none⟩, cap, g2, 0, by rw [Nat.zero_add], hlen0, fun _ => ⟨rfl, hg', rfl, cur, hh⟩, fun i h => ?_⟩
        have := hown.cellAt i (by omega)
        rw [Nat.zero_add, this]
        simp [h]
    · exact (Below.refl _ w).grown hg (Nat.le_refl _) (fun k hk => by cases hk)

/-- The cells of one value, one behind the other. -/
abbrev E5 := Value × Value × Value × Value × Value
abbrev cells5 (e : E5) : List Value := [e.1, e.2.1, e.2.2.1, e.2.2.2.1, e.2.2.2.2]
abbrev agg5 (e : E5) : Value := .agg #[e.1, e.2.1, e.2.2.1, e.2.2.2.1, e.2.2.2.2]
def flat (es : List E5) : List Value := es.flatMap cells5
theorem flat_len (es : List E5) : (flat es).length = es.length * 5 := by
  induction es with
  | nil => rfl
  | cons e es ih => simp [flat] at ih ⊢; omega
theorem flat_snoc (es : List E5) (e : E5) : flat es ++ cells5 e = flat (es ++ [e]) := by simp [flat]
theorem flat_at (es : List E5) (i j : Nat) (hi : i < es.length) (hj : j < 5) : (flat es)[i * 5 + j]? = (cells5 es[i])[j]? := by
  induction es generalizing i with
  | nil => cases hi
  | cons e es ih =>
    have ef : flat (e :: es) = cells5 e ++ flat es := rfl
    rw [ef]
    cases i with
    | zero => rw [List.getElem?_append_left (by simp; omega)]; simp
    | succ i =>
      rw [List.getElem?_append_right (by simp; omega)]
      have := ih i (by simpa using hi)
      rw [show (i + 1) * 5 + j - (cells5 e).length = i * 5 + j by simp; omega, this]
      rfl

theorem own_slice {w : World} {base : Nat} {e : TypeId} {size n : Nat} {v : Value} {xs : List Value} (h : w.ownsRow base e size v n xs) : ∃ lp lc, v = .slice lp n lc := by
  rcases h.2 with ⟨rfl, rfl⟩ | ⟨g, cap, cur, rfl, _⟩
  · exact ⟨none, 0, rfl⟩
  · exact ⟨_, _, rfl⟩
theorem holds_form {C : Cond} {w : World} {v : Value} {x : V} (h : Holds C w v x) : ∃ e : E5, v = agg5 e ∧ ∀ u ∈ cells5 e, u.oneCell' = true := by
  cases h with
  | mk k n s p cap K l ks b off c hr hp hc hK hl =>
    obtain ⟨q, qc, qb, qo, rfl, _⟩ := hK
    refine ⟨(.int .i64 k, .int .i64 n, .string s, .slice p l.length cap, .slice q ks.length qc), rfl, fun u hu => ?_⟩
    simp at hu
    rcases hu with rfl | rfl | rfl | rfl | rfl <;> rfl

/-- What holds of a block that Own has laid, but for the row that it goes on appending to. -/
def But (lo : Nat) (w : World) (row : Option Nat) : Cond := fun t b off n => Mine lo w t b off n ∧ some b ≠ row

/-- What holds between two rounds of Own. -/
def OwnAt (W : World) (k n : Int) (s : ByteArray) (L K K' : Value) (l : List V) (ks : List ByteArray) (j : Nat) (wr : World) : Prop :=
  ∃ (lp : Option Addr) (lc : Nat) (es : List E5), es.length = j ∧
    wr.heap[W.heap.size]? = some (.cells #[.int .i64 k, .int .i64 n, .string s, L, K] 25 (0, 0)) ∧
    wr.heap[W.heap.size + 1]? = some (.cells #[.int .i64 0, .int .i64 0, .string ⟨#[]⟩, .slice none 0 0, .slice none 0 0] 25 (0, 0)) ∧
    wr.heap[W.heap.size + 2]? = some (.cells #[.int .i64 k, .int .i64 n, .string s, .slice lp j lc, K'] 25 (0, 0)) ∧
    wr.ownsRow (W.heap.size + 3) 25 5 (.slice lp j lc) j (flat es) ∧
    (∀ i (h : i < es.length) (h' : i < l.length), Holds (But (W.heap.size + 3) wr (Value.slice lp j lc).ownBlock) wr (agg5 es[i]) l[i]) ∧
    Texts (But (W.heap.size + 3) wr (Value.slice lp j lc).ownBlock) wr K' ks ∧ Below W.heap.size W wr

/-- What Own leaves. -/
def Owned (x : V) (W : World) (e : Ending) (W' : World) : Prop := ∃ v, e = .returned v ∧ Holds (Mine W.heap.size W') W' v x ∧ Below W.heap.size W W'

theorem row_lt {w : World} {base : Nat} {e : TypeId} {size n : Nat} {v : Value} {xs : List Value} (h : w.ownsRow base e size v n xs) {r : Nat} (hr : v.ownBlock = some r) : base ≤ r ∧ r < w.heap.size := by
  rcases h.2 with ⟨rfl, _⟩ | ⟨g, cap, cur, rfl, hb, hg, _⟩
  · simp [Value.ownBlock] at hr
  · simp [Value.ownBlock] at hr
    subst hr
    exact ⟨hb, (Array.getElem?_eq_some_iff.1 hg).1⟩

/-- A row of the call's own lies as it lay in a world in which nothing older has turned. -/
theorem own_kept {w w' : World} {base n size : Nat} {e : TypeId} {v : Value} {xs : List Value} (h : w.ownsRow base e size v n xs) (hb : Below w.heap.size w w') : w'.ownsRow base e size v n xs := by
  refine h.kept (row := none) ⟨hb.os, hb.tape, hb.output, hb.size, fun k hk _ => hb.block k hk⟩ ?_
  rcases h.2 with ⟨rfl, _⟩ | ⟨g, cap, cur, rfl, _⟩
  · exact .inl rfl
  · exact .inr (by simp [Value.ownBlock])

theorem holds_five {C : Cond} {w : World} {v : Value} {x : V} (h : Holds C w v x) : ∃ u0 u1 u2 u3 u4, v = .agg #[u0, u1, u2, u3, u4] ∧ ∀ u ∈ [u0, u1, u2, u3, u4], u.oneCell' = true := by
  obtain ⟨⟨u0, u1, u2, u3, u4⟩, h1, h2⟩ := holds_form h
  exact ⟨u0, u1, u2, u3, u4, h1, h2⟩

/-- The box of what is being made, behind the append. -/
theorem own_far {W wr wA wB : World} {lp : Option Addr} {lc j : Nat} {xs : List Value} {o : Obj} {K' : Value} {k n : Int} {s : ByteArray}
    (d2 : wr.heap[W.heap.size + 2]? = some (.cells #[.int .i64 k, .int .i64 n, .string s, .slice lp j lc, K'] 25 (0, 0)))
    (hown : wr.ownsRow (W.heap.size + 3) 25 5 (.slice lp j lc) j xs) (hbA : Below wr.heap.size wr wA) (hgB : (wA.alloc o).grownBy wB (Value.slice lp j lc).ownBlock) :
    wB.cell? ⟨W.heap.size + 1 + 1, 3, none⟩ = some (.slice lp j lc) ∧ wB.frozen? ⟨W.heap.size + 1 + 1, 3, none⟩ = false := by
  have h2lt : W.heap.size + 2 < wr.heap.size := (Array.getElem?_eq_some_iff.1 d2).1
  have hAs := hbA.size
  have e : wB.heap[W.heap.size + 2]? = _ := ((hgB.block (W.heap.size + 2) (by simp; omega) (fun h => by have := (row_lt hown h.symm).1; omega)).trans (Go.heap_alloc_old _ _ (by omega))).trans ((hbA.block _ h2lt).trans d2)
  exact ⟨(cell_of_row wB (W.heap.size + 2) 3 _ _ _ e).trans rfl, frozen_of_row wB (W.heap.size + 2) 3 _ _ e⟩

theorem own_end {W wr wE : World} {k n : Int} {s : ByteArray} {lp : Option Addr} {lc : Nat} {K' : Value} {l : List V} {ks : List ByteArray} {es : List E5}
    (hr : -9223372036854775808 ≤ k ∧ k ≤ 9223372036854775807 ∧ -9223372036854775808 ≤ n ∧ n ≤ 9223372036854775807 ∧ s.size ≤ 140737488351232 ∧ l.length * 80 ≤ 140737488351232)
    (hes : es.length = l.length) (hown : wr.ownsRow (W.heap.size + 3) 25 5 (.slice lp l.length lc) l.length (flat es))
    (hold : ∀ i (h : i < es.length) (h' : i < l.length), Holds (But (W.heap.size + 3) wr (Value.slice lp l.length lc).ownBlock) wr (agg5 es[i]) l[i])
    (hkeys : Texts (But (W.heap.size + 3) wr (Value.slice lp l.length lc).ownBlock) wr K' ks)
    (hE : ∀ b, W.heap.size + 3 ≤ b → wE.heap[b]? = wr.heap[b]?) (hbE : Below W.heap.size W wE) :
    Owned (.mk k n s l ks) W (.returned (.agg #[.int .i64 k, .int .i64 n, .string s, .slice lp l.length lc, K'])) wE := by
  refine ⟨_, rfl, ?_, hbE⟩
  have fr : ∀ t b off n, But (W.heap.size + 3) wr (Value.slice lp l.length lc).ownBlock t b off n → wE.heap[b]? = wr.heap[b]? := fun t b off n h => hE b h.1.1
  have fr' : ∀ t b off n, But (W.heap.size + 3) wr (Value.slice lp l.length lc).ownBlock t b off n → Mine W.heap.size wE t b off n := fun t b off n h => by
    obtain ⟨⟨h1, h2, cur, h3⟩, _⟩ := h
    exact ⟨by omega, h2, cur, by rw [hE b h1]; exact h3⟩
  obtain ⟨g, hg⟩ : ∃ g, 0 < l.length → lp = some ⟨g, 0, none⟩ ∧ Mine W.heap.size wE false g 0 l.length ∧ W.heap.size + 3 ≤ g := by
    rcases hown.2 with ⟨_, h0⟩ | ⟨g, cap, cur, hv, hb, hh, _⟩
    · exact ⟨0, fun h => absurd h (by omega)⟩
    · refine ⟨g, fun _ => ⟨by simp at hv; exact hv.1, ⟨by omega, rfl, cur, by rw [hE g hb]; exact hh⟩, hb⟩⟩
  have key : ∀ i j, i < l.length → j < 5 → (flat es)[i * 5 + j]? = some (((flat es)[i * 5 + j]?).getD undef) := by
    intro i j hi hj
    have : i * 5 + j < (flat es).length := by rw [flat_len, hes]; omega
    rw [List.getElem?_eq_getElem this]; rfl
  refine .mk k n s lp lc K' l ks g 0 (fun i j => ((flat es)[i * 5 + j]?).getD undef) hr (fun h => ⟨(hg h).1, (hg h).2.1⟩) (fun i j hi hj => ?_) (hkeys.frame fr fr') (fun i hi => ?_)
  · obtain ⟨rfl, h1, h2⟩ := hg (by omega)
    have h3 := hown.cellAt (i * 5 + j) (by omega)
    rw [key i j hi hj] at h3
    rw [Nat.zero_add, ← h3]
    simp [World.cell?, hE g h2]
  · have h1 := (hold i (by omega) hi).frame fr fr'
    have e : ∀ j, j < 5 → ((flat es)[i * 5 + j]?).getD undef = ((cells5 (es[i]'(by omega)))[j]?).getD undef := fun j hj => by rw [flat_at es i j (by omega) hj]
    rw [e 0 (by omega), e 1 (by omega), e 2 (by omega), e 3 (by omega), e 4 (by omega)]
    exact h1

theorem own_next {W wr wA wB : World} {k n : Int} {s : ByteArray} {L K K' : Value} {l : List V} {ks : List ByteArray} {es : List E5} {j : Nat} {lp : Option Addr} {lc : Nat} {e : E5} {g cap : Nat} {o : Obj}
    (hlt : j < l.length) (hes : es.length = j)
    (d0 : wr.heap[W.heap.size]? = some (.cells #[.int .i64 k, .int .i64 n, .string s, L, K] 25 (0, 0)))
    (d1 : wr.heap[W.heap.size + 1]? = some (.cells #[.int .i64 0, .int .i64 0, .string ⟨#[]⟩, .slice none 0 0, .slice none 0 0] 25 (0, 0)))
    (d2 : wr.heap[W.heap.size + 2]? = some (.cells #[.int .i64 k, .int .i64 n, .string s, .slice lp j lc, K'] 25 (0, 0)))
    (hown : wr.ownsRow (W.heap.size + 3) 25 5 (.slice lp j lc) j (flat es))
    (hold : ∀ i (h : i < es.length) (h' : i < l.length), Holds (But (W.heap.size + 3) wr (Value.slice lp j lc).ownBlock) wr (agg5 es[i]) l[i])
    (hkeys : Texts (But (W.heap.size + 3) wr (Value.slice lp j lc).ownBlock) wr K' ks) (hbel : Below W.heap.size W wr)
    (hA : Holds (Mine wr.heap.size wA) wA (agg5 e) l[j]) (hbA : Below wr.heap.size wr wA)
    (hownB : wB.ownsRow (W.heap.size + 3) 25 5 (.slice (some ⟨g, 0, none⟩) (j + 1) cap) (j + 1) (flat es ++ cells5 e))
    (hgB : (wA.alloc o).grownBy wB (Value.slice lp j lc).ownBlock) (hat : (Value.slice lp j lc).ownBlock = some g ∨ g = wA.heap.size + 1) :
    OwnAt W k n s L K K' l ks (j + 1) (wB.setCell ⟨W.heap.size + 2, 3, none⟩ (.slice (some ⟨g, 0, none⟩) (j + 1) cap)) := by
  have h2lt : W.heap.size + 2 < wr.heap.size := (Array.getElem?_eq_some_iff.1 d2).1
  have rowge : ∀ r, (Value.slice lp j lc).ownBlock = some r → W.heap.size + 3 ≤ r ∧ r < wr.heap.size := fun r h => row_lt hown h
  have hAs := hbA.size
  -- what is older than the append lies as it lay
  have hB : ∀ b, b < wA.heap.size → some b ≠ (Value.slice lp j lc).ownBlock → wB.heap[b]? = wA.heap[b]? := fun b hb hne => by
    rw [hgB.block b (by simp; omega) hne, Go.heap_alloc_old _ _ hb]
  have hR : ∀ b, b < wr.heap.size → some b ≠ (Value.slice lp j lc).ownBlock → wB.heap[b]? = wr.heap[b]? := fun b hb hne => by
    rw [hB b (by omega) hne, hbA.block b hb]
  have hS : ∀ b, b ≠ W.heap.size + 2 → (wB.setCell ⟨W.heap.size + 2, 3, none⟩ (.slice (some ⟨g, 0, none⟩) (j + 1) cap)).heap[b]? = wB.heap[b]? := fun b hb => heap_setCell_other _ _ _ _ (by simpa using hb)
  have small : ∀ b, b < W.heap.size + 3 → some b ≠ (Value.slice lp j lc).ownBlock := fun b hb h => by have := (rowge b h.symm).1; omega
  have gne : ∀ b, b < wr.heap.size → some b ≠ (Value.slice lp j lc).ownBlock → some b ≠ some g := fun b hb hne h => by
    rcases hat with h1 | h1
    · exact hne (h.trans h1.symm)
    · have : b = g := by simpa using h
      omega
  have fr : ∀ t b off n, But (W.heap.size + 3) wr (Value.slice lp j lc).ownBlock t b off n → (wB.setCell ⟨W.heap.size + 2, 3, none⟩ (.slice (some ⟨g, 0, none⟩) (j + 1) cap)).heap[b]? = wr.heap[b]? := fun t b off n h => by
    rw [hS b (by have := h.1.1; omega), hR b h.1.lt h.2]
  have fr' : ∀ t b off n, But (W.heap.size + 3) wr (Value.slice lp j lc).ownBlock t b off n → But (W.heap.size + 3) (wB.setCell ⟨W.heap.size + 2, 3, none⟩ (.slice (some ⟨g, 0, none⟩) (j + 1) cap)) (some g) t b off n := fun t b off n h => by
    obtain ⟨⟨h1, h2, cur, h3⟩, h4⟩ := h
    exact ⟨⟨h1, h2, cur, by rw [fr t b off n ⟨⟨h1, h2, cur, h3⟩, h4⟩]; exact h3⟩, gne b (Array.getElem?_eq_some_iff.1 h3).1 h4⟩
  have rowA : ∀ b, wr.heap.size ≤ b → some b ≠ (Value.slice lp j lc).ownBlock := fun b hb h => by have := (rowge b h.symm).2; omega
  have frA : ∀ t b off n, Mine wr.heap.size wA t b off n → (wB.setCell ⟨W.heap.size + 2, 3, none⟩ (.slice (some ⟨g, 0, none⟩) (j + 1) cap)).heap[b]? = wA.heap[b]? := fun t b off n h => by
    rw [hS b (by have := h.1; omega), hB b h.lt (rowA b h.1)]
  have frA' : ∀ t b off n, Mine wr.heap.size wA t b off n → But (W.heap.size + 3) (wB.setCell ⟨W.heap.size + 2, 3, none⟩ (.slice (some ⟨g, 0, none⟩) (j + 1) cap)) (some g) t b off n := fun t b off n h => by
    have hlt' := h.lt
    have e1 := frA t b off n h
    obtain ⟨h1, h2, cur, h3⟩ := h
    refine ⟨⟨by omega, h2, cur, by rw [e1]; exact h3⟩, fun h => ?_⟩
    have hbg : b = g := by simpa using h
    rcases hat with h4 | h4
    · have := (rowge g h4).2; omega
    · omega
  have hgB2 : Below W.heap.size W wB := by
    refine (hbel.trans ((hbA.mono hbel.size))).trans ?_
    have := ((Below.refl W.heap.size wA).alloc (by have := hbel.size; omega) o)
    exact this.grown hgB (by simp; have := hbel.size; omega) (fun k hk => by have := (rowge k hk).1; omega)
  refine ⟨some ⟨g, 0, none⟩, cap, es ++ [e], by simp [hes], ?_, ?_, ?_, ?_, ?_, ?_, ?_⟩
  · rw [hS _ (by omega), hR _ (by omega) (small _ (by omega))]; exact d0
  · rw [hS _ (by omega), hR _ (by omega) (small _ (by omega))]; exact d1
  · have e2 : wB.heap[W.heap.size + 2]? = _ := (hR _ h2lt (small _ (by omega))).trans d2
    rw [heap_setCell_same _ _ _ _ _ _ e2]
    rfl
  · have hne : W.heap.size + 2 ≠ g := by
      rcases hat with h4 | h4
      · have := (rowge g h4).1; omega
      · omega
    rw [← flat_snoc]
    refine ⟨hownB.1, .inr ?_⟩
    rcases hownB.2 with ⟨h, _⟩ | ⟨g2, cap2, cur, hv, hb2, hh, r⟩
    · cases h
    · have : g2 = g := by simp at hv; omega
      exact ⟨g2, cap2, cur, hv, hb2, by rw [hS _ (by omega)]; exact hh, r⟩
  · intro i h h'
    rcases Nat.lt_or_ge i es.length with hi | hi
    · rw [List.getElem_append_left hi]
      exact (hold i hi h').frame fr fr'
    · have : i = es.length := by simp at h; omega
      subst this
      have e9 : (es ++ [e])[es.length]'h = e := by simp
      rw [e9]
      subst hes
      exact hA.frame frA frA'
  · exact hkeys.frame fr fr'
  · exact hgB2.setCell (p := ⟨W.heap.size + 2, 3, none⟩) (by simp) _

end Go.Proofs.YtganmmkdcaphfaaGreatDoor.Val

/-
  A reader's lists and records that have begun, in memory: who owns which block.
-/
namespace Go.Proofs.YtganmmkdcaphfaaGreatDoor.Rd
open Go.RowKit Go.Proofs.YtganmmkdcaphfaaGreatDoor.Oct Go.Proofs.YtganmmkdcaphfaaGreatDoor.Val

/-- A list or a record that has begun: its Kind, its values, its keys. -/
structure Fr where
  kind : Int
  xs : List V
  ks : List ByteArray

/-- Memory of values that are whole: blocks of the call's own with the mark 0. -/
def Dn (N : Nat) (tag : Nat → Nat) (w : World) : Cond := fun t b off n => Mine N w t b off n ∧ tag b = 0

/-- One that has begun, as it lies: its list's block bears the mark 4 + 2i, its keys' 5 + 2i. -/
structure FrAt (N : Nat) (tag : Nat → Nat) (w : World) (i : Nat) (f : Fr) (e : E5) (L K : Value) (ys : List E5) : Prop where
  e : e = (.int .i64 f.kind, .int .i64 0, .string ⟨#[]⟩, L, K)
  kind : f.kind = 5 ∨ f.kind = 6
  rows : w.ownsRow N 25 5 L f.xs.length (flat ys)
  len : ys.length = f.xs.length
  vals : ∀ j (h : j < ys.length) (h' : j < f.xs.length), Holds (Dn N tag w) w (agg5 ys[j]) f.xs[j]
  mark : ∀ b, L.ownBlock = some b → tag b = 4 + 2 * i
  keys : w.ownsRow N 9 1 K f.ks.length (f.ks.map Value.string)
  kmark : ∀ b, K.ownBlock = some b → tag b = 5 + 2 * i
  small : ∀ s ∈ f.ks, s.size ≤ 140737488351232

/-- The reader, whole: its box bears the mark 2, the row of those that have begun 3; what is older, or not there yet, and callers' boxes 1. -/
structure RdAt (N : Nat) (tag : Nat → Nat) (w : World) (R : Nat) (s : List UInt8) (fs : List Fr) (deep : Nat) (ov : Value) (es : List E5) : Prop where
  rd : Rd R (S s) ov (.int .i64 deep) w
  own : w.ownsRow N 25 5 ov fs.length (flat es)
  len : es.length = fs.length
  frs : ∀ i (h : i < es.length) (h' : i < fs.length), ∃ L K ys, FrAt N tag w i fs[i] es[i] L K ys
  rmark : tag R = 2
  omark : ∀ b, ov.ownBlock = some b → tag b = 3
  out : ∀ b, b < N ∨ w.heap.size ≤ b → tag b = 1
  size : N ≤ w.heap.size

theorem own_at {w w' : World} {base n size : Nat} {e : TypeId} {v : Value} {xs : List Value} (h : w.ownsRow base e size v n xs) (hb : ∀ k, v.ownBlock = some k → w'.heap[k]? = w.heap[k]?) : w'.ownsRow base e size v n xs := by
  refine ⟨h.1, ?_⟩
  rcases h.2 with hn | ⟨g, cap, cur, hv, hbg, hg, rest⟩
  · exact .inl hn
  · exact .inr ⟨g, cap, cur, hv, hbg, by rw [hb g (by rw [hv]; rfl)]; exact hg, rest⟩
theorem own_lt {w : World} {base : Nat} {e : TypeId} {size n : Nat} {v : Value} {xs : List Value} (h : w.ownsRow base e size v n xs) {r : Nat} (hr : v.ownBlock = some r) : base ≤ r ∧ r < w.heap.size := by
  rcases h.2 with ⟨rfl, _⟩ | ⟨g, cap, cur, rfl, hb, hg, _⟩
  · simp [Value.ownBlock] at hr
  · simp [Value.ownBlock] at hr
    subst hr
    exact ⟨hb, (Array.getElem?_eq_some_iff.1 hg).1⟩

theorem Dn.lt {N : Nat} {tag : Nat → Nat} {w : World} {t : Bool} {b off n : Nat} (h : Dn N tag w t b off n) : b < w.heap.size := h.1.lt

theorem Dn.to {N : Nat} {tag tag' : Nat → Nat} {w w' : World} (hb : ∀ b, b < w.heap.size → tag b = 0 → w'.heap[b]? = w.heap[b]?) (ht : ∀ b, b < w.heap.size → tag b = 0 → tag' b = 0) :
    ∀ t b off n, Dn N tag w t b off n → Dn N tag' w' t b off n := fun t b off n h => by
  have hl := h.lt
  obtain ⟨⟨h1, h2, cur, h3⟩, h4⟩ := h
  exact ⟨⟨h1, h2, cur, by rw [hb b hl h4]; exact h3⟩, ht b hl h4⟩

/-- Values that are whole stay, where their blocks do. -/
theorem holds_dn {N : Nat} {tag tag' : Nat → Nat} {w w' : World} {v : Value} {x : V} (h : Holds (Dn N tag w) w v x) (hb : ∀ b, b < w.heap.size → tag b = 0 → w'.heap[b]? = w.heap[b]?) (ht : ∀ b, b < w.heap.size → tag b = 0 → tag' b = 0) : Holds (Dn N tag' w') w' v x :=
  h.frame (fun _ b _ _ hd => hb b hd.lt hd.2) (Dn.to hb ht)

theorem FrAt.frame {N : Nat} {tag tag' : Nat → Nat} {w w' : World} {i : Nat} {f : Fr} {e : E5} {L K : Value} {ys : List E5} (h : FrAt N tag w i f e L K ys)
    (hb : ∀ b, b < w.heap.size → (tag b = 0 ∨ tag b = 4 + 2 * i ∨ tag b = 5 + 2 * i) → w'.heap[b]? = w.heap[b]? ∧ tag' b = tag b) : FrAt N tag' w' i f e L K ys where
  e := h.e
  kind := h.kind
  rows := own_at h.rows fun k hk => (hb k (own_lt h.rows hk).2 (.inr (.inl (h.mark k hk)))).1
  len := h.len
  vals := fun j h1 h2 => holds_dn (h.vals j h1 h2) (fun b hl h0 => (hb b hl (.inl h0)).1) (fun b hl h0 => by rw [(hb b hl (.inl h0)).2]; exact h0)
  mark := fun b hk => by rw [(hb b (own_lt h.rows hk).2 (.inr (.inl (h.mark b hk)))).2]; exact h.mark b hk
  keys := own_at h.keys fun k hk => (hb k (own_lt h.keys hk).2 (.inr (.inr (h.kmark k hk)))).1
  kmark := fun b hk => by rw [(hb b (own_lt h.keys hk).2 (.inr (.inr (h.kmark b hk)))).2]; exact h.kmark b hk
  small := h.small

/-- What a reader's call leaves of all that is not its own. -/
structure Kp (tag tag' : Nat → Nat) (w w' : World) : Prop where
  os : w'.os = w.os
  tape : w'.tape = w.tape
  output : w'.output = w.output
  size : w.heap.size ≤ w'.heap.size
  block : ∀ b, b < w.heap.size → tag b ≤ 1 → w'.heap[b]? = w.heap[b]? ∧ tag' b = tag b

theorem Kp.refl (tag : Nat → Nat) (w : World) : Kp tag tag w w := ⟨rfl, rfl, rfl, Nat.le_refl _, fun _ _ _ => ⟨rfl, rfl⟩⟩
theorem Kp.trans {t1 t2 t3 : Nat → Nat} {a b c : World} (h : Kp t1 t2 a b) (k : Kp t2 t3 b c) : Kp t1 t3 a c :=
  ⟨k.os.trans h.os, k.tape.trans h.tape, k.output.trans h.output, Nat.le_trans h.size k.size, fun i hi ht => by
    obtain ⟨h1, h2⟩ := h.block i hi ht
    obtain ⟨k1, k2⟩ := k.block i (Nat.lt_of_lt_of_le hi h.size) (by rw [h2]; exact ht)
    exact ⟨k1.trans h1, k2.trans h2⟩⟩
theorem Kp.of {tag : Nat → Nat} {w w' : World} (h : Below w.heap.size w w') : Kp tag tag w w' := ⟨h.os, h.tape, h.output, h.size, fun b hb _ => ⟨h.block b hb, rfl⟩⟩
theorem Kp.save {tag : Nat → Nat} {R : Nat} {w w' : World} (hR : tag R = 2) (h : Save R w w') : Kp tag tag w w' :=
  ⟨h.os, h.tape, h.output, h.size, fun b hb ht => ⟨h.block b hb (fun e => by rw [e, hR] at ht; omega), rfl⟩⟩
theorem Kp.below {N : Nat} {tag tag' : Nat → Nat} {w w' : World} (h : Kp tag tag' w w') (hN : N ≤ w.heap.size) (ht : ∀ b, b < N → tag b = 1) : Below N w w' :=
  ⟨h.os, h.tape, h.output, h.size, fun k hk => (h.block k (by omega) (by rw [ht k hk]; exact Nat.le_refl _)).1⟩
theorem Bx.kp {tag tag' : Nat → Nat} {W W' : World} {q : Nat} {u0 u1 u2 u3 u4 : Value} (h : Bx W q u0 u1 u2 u3 u4) (hk : Kp tag tag' W W') (hq : tag q = 1) : Bx W' q u0 u1 u2 u3 u4 ∧ tag' q = 1 := by
  obtain ⟨h1, h2⟩ := hk.block q h.lt (by rw [hq]; exact Nat.le_refl _)
  exact ⟨by unfold Bx; rw [h1]; exact h, by rw [h2]; exact hq⟩

/-- The reader stays where nothing but callers' boxes changed. -/
theorem RdAt.frame {N : Nat} {tag : Nat → Nat} {w w' : World} {R : Nat} {s : List UInt8} {fs : List Fr} {deep : Nat} {ov : Value} {es : List E5} (h : RdAt N tag w R s fs deep ov es)
    (hs : w.heap.size ≤ w'.heap.size) (hb : ∀ b, b < w.heap.size → tag b ≠ 1 → w'.heap[b]? = w.heap[b]?) : RdAt N tag w' R s fs deep ov es where
  rd := by unfold Rd; rw [hb R h.rd.lt (by rw [h.rmark]; decide)]; exact h.rd
  own := own_at h.own fun k hk => hb k (own_lt h.own hk).2 (by rw [h.omark k hk]; decide)
  len := h.len
  frs := fun i h1 h2 => by
    obtain ⟨L, K, ys, hf⟩ := h.frs i h1 h2
    exact ⟨L, K, ys, hf.frame fun b hl ht => ⟨hb b hl (by rcases ht with h | h | h <;> omega), rfl⟩⟩
  rmark := h.rmark
  omark := h.omark
  out := fun b hb => h.out b (by omega)
  size := Nat.le_trans h.size hs
theorem RdAt.keep {N : Nat} {tag : Nat → Nat} {w w' : World} {R : Nat} {s : List UInt8} {fs : List Fr} {deep : Nat} {ov : Value} {es : List E5} (h : RdAt N tag w R s fs deep ov es) (hb : Below w.heap.size w w') : RdAt N tag w' R s fs deep ov es :=
  h.frame hb.size fun b hl _ => hb.block b hl
theorem RdAt.alloc {N : Nat} {tag : Nat → Nat} {w : World} {R : Nat} {s : List UInt8} {fs : List Fr} {deep : Nat} {ov : Value} {es : List E5} (h : RdAt N tag w R s fs deep ov es) (o : Obj) : RdAt N tag (w.alloc o) R s fs deep ov es :=
  h.keep ((Below.refl _ _).alloc (Nat.le_refl _) _)
theorem RdAt.st5 {N : Nat} {tag : Nat → Nat} {w : World} {R : Nat} {s : List UInt8} {fs : List Fr} {deep : Nat} {ov : Value} {es : List E5} (h : RdAt N tag w R s fs deep ov es) {q : Nat} (hq : tag q = 1) (v0 v1 v2 v3 v4 : Value) : RdAt N tag (Go.Proofs.YtganmmkdcaphfaaGreatDoor.Rd.st5 w q v0 v1 v2 v3 v4) R s fs deep ov es :=
  h.frame (by rw [st5_size]; exact Nat.le_refl _) fun b _ ht => st5_other w v0 v1 v2 v3 v4 (fun e => ht (by rw [e]; exact hq))
/-- What reads text alone leaves the rest as it is. -/
theorem RdAt.read {N : Nat} {tag : Nat → Nat} {w w' : World} {R : Nat} {s t : List UInt8} {fs : List Fr} {deep : Nat} {ov : Value} {es : List E5} (h : RdAt N tag w R s fs deep ov es) (hr : Rd R (S t) ov (.int .i64 deep) w') (hs : Save R w w') : RdAt N tag w' R t fs deep ov es where
  rd := hr
  own := own_at h.own fun k hk => hs.block k (own_lt h.own hk).2 (fun e => by have := h.omark k hk; rw [e, h.rmark] at this; omega)
  len := h.len
  frs := fun i h1 h2 => by
    obtain ⟨L, K, ys, hf⟩ := h.frs i h1 h2
    exact ⟨L, K, ys, hf.frame fun b hl ht => ⟨hs.block b hl (fun e => by rw [e, h.rmark] at ht; omega), rfl⟩⟩
  rmark := h.rmark
  omark := h.omark
  out := fun b hb => h.out b (by have := hs.size; omega)
  size := Nat.le_trans h.size hs.size
end Go.Proofs.YtganmmkdcaphfaaGreatDoor.Rd
