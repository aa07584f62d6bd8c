/-
  Contract of the page's Own: a value in memory of its own, which reads as the same tree.
-/
import Derived.Test.YtcheiombgnabaaaValSame
import Derived.Deep.AppendLies
import Derived.Deep.RegionLaw
import Derived.Deep.RegionWith
namespace Go.Proofs.Ytcheiombgnabaaa.Val
open Go.RowKit Go.Proofs.Ytcheiombgnabaaa.Oct

/-- A block of its own: whole, unfrozen, from its beginning on. -/
def Mine (lo : Nat) (w : World) : Cond := fun t b off _ => lo ≤ b ∧ off = 0 ∧ ∃ cur, w.heap[b]? = some (.cells cur (if t then 9 else 25) (0, 0))

theorem Mine.lt {lo : Nat} {w : World} {t : Bool} {b off n : Nat} (h : Mine lo w t b off n) : b < w.heap.size := by
  obtain ⟨_, _, cur, h⟩ := h
  exact (Array.getElem?_eq_some_iff.1 h).1

/-- An append whose run is known, at a plain region's list of operations. -/
theorem wpList_append_run {P : Program} {w w' : World} {ops : Array Oper} {rest : List Oper} {o : Oper} {a : Act} {Q : Exit → Act → World → Prop} (hgd : o.guard = none) (s x : Operand) (t : TypeId)
    (ho : o.op = .call { callee := .builtin .append, args := #[s, x], argTypes := #[t, t] }) (v u v' : Value) (hs : a.eval s = v) (hx : a.eval x = u)
    (hrun : (Builtin.append_ #[t, t] o.type #[v, u]).run P w = .ok v' w') (h : wpList P ops Q rest (a.put o.dst v') w') : wpList P ops Q (o :: rest) a w := by
  refine wpList_plain hgd fun K hK => ?_
  unfold Oper.wp execOp
  simp only [ho, resolve, invoke, builtin, Sem.run_bind, Sem.run_pure, Result.andThen_ok, List.map_toArray, List.map_cons, List.map_nil, hs, hx, hrun]
  exact hK _ _ h

theorem info_text : (Try.prog.info? 9).map (fun i => (i.zero, i.size, i.bytes)) = some (some (.string ⟨#[]⟩), 1, 16) := by kernel_rfl
theorem info_value : (Try.prog.info? 25).map (fun i => (i.zero, i.size, i.bytes)) = some (some (.agg #[.int .i64 0, .int .i64 0, .string ⟨#[]⟩, .slice none 0 0, .slice none 0 0]), 5, 80) := by kernel_rfl

/-- 'append(nil, keys...)': the keys in a block of their own. -/
theorem append_keys (w : World) (ty : TypeId) (q : Option Addr) (qc qb qo : Nat) (ks : List ByteArray) (hlen0 : ks.length * 16 ≤ 140737488351232 ∧ ∀ s ∈ ks, s.size ≤ 140737488351232) (hq : 0 < ks.length → q = some ⟨qb, qo, none⟩)
    (hc : ∀ i (h : i < ks.length), w.cell? ⟨qb, qo + i, none⟩ = some (.string ks[i])) :
    ∃ K' w', (Builtin.append_ #[23, 23] ty #[.slice none 0 0, .slice q ks.length qc]).run Try.prog w = .ok K' w' ∧ Texts (Mine w.heap.size w') w' K' ks ∧ Below w.heap.size w w' := by
  obtain ⟨i0, hi, hz0, hz1, hz2⟩ := info_parts info_text
  have hlen := hlen0.1
  by_cases h0 : ks.length = 0
  · refine ⟨.slice none 0 0, w, ?_, ⟨none, 0, 0, 0, by rw [h0], hlen0, fun h => absurd h (by omega), fun i h => absurd h (by omega)⟩, Below.refl _ _⟩
    rw [h0]
    cases q with
    | none => simp [Builtin.append_, run_underlying Try.underlying23, sizeOf, typeInfo, hi, Builtin.lenOf, Builtin.firstCells]
    | some ad => simp [Builtin.append_, run_underlying Try.underlying23, sizeOf, typeInfo, hi, Builtin.lenOf, Builtin.firstCells, loadCells, loadCellsFrom]
  · have hpos : 0 < ks.length := by omega
    rw [hq hpos]
    obtain ⟨g, cap, w', hr, hown, hg, hat, hlt⟩ := run_append_lies (P := Try.prog) w 23 ty w.heap.size 9 i0 (.string ⟨#[]⟩) 1 16 Try.underlying23 hi hz0 hz1 hz2 rfl (by omega)
      (.slice none 0 0) 0 [] ⟨rfl, .inl ⟨rfl, rfl⟩⟩ ⟨qb, qo, none⟩ ks.length qc (ks.map Value.string) (by simp)
      (fun j u hu => by
        have hj : j < ks.length := by
          have := (List.getElem?_eq_some_iff.1 hu).1
          simpa using this
        have e := hc j hj
        rw [Addr.add_lit]
        rw [e]
        rw [List.getElem?_map, List.getElem?_eq_getElem hj] at hu
        exact hu)
      (fun u hu => by obtain ⟨b, _, rfl⟩ := List.mem_map.1 hu; rfl) hpos (by unfold maxLen; omega) (by omega) (Nat.le_refl _) _ rfl
    refine ⟨_, w', hr, ?_, ?_⟩
    · have hg' : w.heap.size ≤ g := by
        rcases hat with h | h
        · simp [Value.ownBlock] at h
        · omega
      rcases hown.2 with ⟨h, _⟩ | ⟨g2, cap2, cur, hv, hb2, hh, hnc, hcm, hcs, htk⟩
      · cases h
      · have e1 : g2 = g := by simp at hv; omega
        subst e1
        refine ⟨some ⟨g2, 0, none⟩, cap, g2, 0, by rw [Nat.zero_add], hlen0, fun _ => ⟨rfl, hg', rfl, cur, hh⟩, fun i h => ?_⟩
        have := hown.cellAt i (by omega)
        rw [Nat.zero_add, this]
        simp [h]
    · exact (Below.refl _ w).grown hg (Nat.le_refl _) (fun k hk => by cases hk)

/-- The cells of one value, one behind the other. -/
abbrev E5 := Value × Value × Value × Value × Value
abbrev cells5 (e : E5) : List Value := [e.1, e.2.1, e.2.2.1, e.2.2.2.1, e.2.2.2.2]
abbrev agg5 (e : E5) : Value := .agg #[e.1, e.2.1, e.2.2.1, e.2.2.2.1, e.2.2.2.2]
def flat (es : List E5) : List Value := es.flatMap cells5
theorem flat_len (es : List E5) : (flat es).length = es.length * 5 := by
  induction es with
  | nil => rfl
  | cons e es ih => simp [flat] at ih ⊢; omega
theorem flat_snoc (es : List E5) (e : E5) : flat es ++ cells5 e = flat (es ++ [e]) := by simp [flat]
theorem flat_at (es : List E5) (i j : Nat) (hi : i < es.length) (hj : j < 5) : (flat es)[i * 5 + j]? = (cells5 es[i])[j]? := by
  induction es generalizing i with
  | nil => cases hi
  | cons e es ih =>
    have ef : flat (e :: es) = cells5 e ++ flat es := rfl
    rw [ef]
    cases i with
    | zero => rw [List.getElem?_append_left (by simp; omega)]; simp
    | succ i =>
      rw [List.getElem?_append_right (by simp; omega)]
      have := ih i (by simpa using hi)
      rw [show (i + 1) * 5 + j - (cells5 e).length = i * 5 + j by simp; omega, this]
      rfl

theorem own_slice {w : World} {base : Nat} {e : TypeId} {size n : Nat} {v : Value} {xs : List Value} (h : w.ownsRow base e size v n xs) : ∃ lp lc, v = .slice lp n lc := by
  rcases h.2 with ⟨rfl, rfl⟩ | ⟨g, cap, cur, rfl, _⟩
  · exact ⟨none, 0, rfl⟩
  · exact ⟨_, _, rfl⟩
theorem holds_form {C : Cond} {w : World} {v : Value} {x : V} (h : Holds C w v x) : ∃ e : E5, v = agg5 e ∧ ∀ u ∈ cells5 e, u.oneCell' = true := by
  cases h with
  | mk k n s p cap K l ks b off c hr hp hc hK hl =>
    obtain ⟨q, qc, qb, qo, rfl, _⟩ := hK
    refine ⟨(.int .i64 k, .int .i64 n, .string s, .slice p l.length cap, .slice q ks.length qc), rfl, fun u hu => ?_⟩
    simp at hu
    rcases hu with rfl | rfl | rfl | rfl | rfl <;> rfl

/-- What holds of a block that Own has laid, but for the row that it goes on appending to. -/
def But (lo : Nat) (w : World) (row : Option Nat) : Cond := fun t b off n => Mine lo w t b off n ∧ some b ≠ row

/-- What holds between two rounds of Own. -/
def OwnAt (W : World) (k n : Int) (s : ByteArray) (L K K' : Value) (l : List V) (ks : List ByteArray) (j : Nat) (wr : World) : Prop :=
  ∃ (lp : Option Addr) (lc : Nat) (es : List E5), es.length = j ∧
    wr.heap[W.heap.size]? = some (.cells #[.int .i64 k, .int .i64 n, .string s, L, K] 25 (0, 0)) ∧
    wr.heap[W.heap.size + 1]? = some (.cells #[.int .i64 0, .int .i64 0, .string ⟨#[]⟩, .slice none 0 0, .slice none 0 0] 25 (0, 0)) ∧
    wr.heap[W.heap.size + 2]? = some (.cells #[.int .i64 k, .int .i64 n, .string s, .slice lp j lc, K'] 25 (0, 0)) ∧
    wr.ownsRow (W.heap.size + 3) 25 5 (.slice lp j lc) j (flat es) ∧
    (∀ i (h : i < es.length) (h' : i < l.length), Holds (But (W.heap.size + 3) wr (Value.slice lp j lc).ownBlock) wr (agg5 es[i]) l[i]) ∧
    Texts (But (W.heap.size + 3) wr (Value.slice lp j lc).ownBlock) wr K' ks ∧ Below W.heap.size W wr

/-- What Own leaves. -/
def Owned (x : V) (W : World) (e : Ending) (W' : World) : Prop := ∃ v, e = .returned v ∧ Holds (Mine W.heap.size W') W' v x ∧ Below W.heap.size W W'

theorem row_lt {w : World} {base : Nat} {e : TypeId} {size n : Nat} {v : Value} {xs : List Value} (h : w.ownsRow base e size v n xs) {r : Nat} (hr : v.ownBlock = some r) : base ≤ r ∧ r < w.heap.size := by
  rcases h.2 with ⟨rfl, _⟩ | ⟨g, cap, cur, rfl, hb, hg, _⟩
  · simp [Value.ownBlock] at hr
  · simp [Value.ownBlock] at hr
    subst hr
    exact ⟨hb, (Array.getElem?_eq_some_iff.1 hg).1⟩

/-- A row of the call's own lies as it lay in a world in which nothing older has turned. -/
theorem own_kept {w w' : World} {base n size : Nat} {e : TypeId} {v : Value} {xs : List Value} (h : w.ownsRow base e size v n xs) (hb : Below w.heap.size w w') : w'.ownsRow base e size v n xs := by
  refine h.kept (row := none) ⟨hb.os, hb.tape, hb.output, hb.size, fun k hk _ => hb.block k hk⟩ ?_
  rcases h.2 with ⟨rfl, _⟩ | ⟨g, cap, cur, rfl, _⟩
  · exact .inl rfl
  · exact .inr (by simp [Value.ownBlock])

theorem holds_five {C : Cond} {w : World} {v : Value} {x : V} (h : Holds C w v x) : ∃ u0 u1 u2 u3 u4, v = .agg #[u0, u1, u2, u3, u4] ∧ ∀ u ∈ [u0, u1, u2, u3, u4], u.oneCell' = true := by
  obtain ⟨⟨u0, u1, u2, u3, u4⟩, h1, h2⟩ := holds_form h
  exact ⟨u0, u1, u2, u3, u4, h1, h2⟩

/-- The box of what is being made, behind the append. -/
theorem own_far {W wr wA wB : World} {lp : Option Addr} {lc j : Nat} {xs : List Value} {o : Obj} {K' : Value} {k n : Int} {s : ByteArray}
    (d2 : wr.heap[W.heap.size + 2]? = some (.cells #[.int .i64 k, .int .i64 n, .string s, .slice lp j lc, K'] 25 (0, 0)))
    (hown : wr.ownsRow (W.heap.size + 3) 25 5 (.slice lp j lc) j xs) (hbA : Below wr.heap.size wr wA) (hgB : (wA.alloc o).grownBy wB (Value.slice lp j lc).ownBlock) :
    wB.cell? ⟨W.heap.size + 1 + 1, 3, none⟩ = some (.slice lp j lc) ∧ wB.frozen? ⟨W.heap.size + 1 + 1, 3, none⟩ = false := by
  have h2lt : W.heap.size + 2 < wr.heap.size := (Array.getElem?_eq_some_iff.1 d2).1
  have hAs := hbA.size
  have e : wB.heap[W.heap.size + 2]? = _ := ((hgB.block (W.heap.size + 2) (by simp; omega) (fun h => by have := (row_lt hown h.symm).1; omega)).trans (Go.heap_alloc_old _ _ (by omega))).trans ((hbA.block _ h2lt).trans d2)
  exact ⟨(cell_of_row wB (W.heap.size + 2) 3 _ _ _ e).trans rfl, frozen_of_row wB (W.heap.size + 2) 3 _ _ e⟩

theorem own_end {W wr wE : World} {k n : Int} {s : ByteArray} {lp : Option Addr} {lc : Nat} {K' : Value} {l : List V} {ks : List ByteArray} {es : List E5}
    (hr : -9223372036854775808 ≤ k ∧ k ≤ 9223372036854775807 ∧ -9223372036854775808 ≤ n ∧ n ≤ 9223372036854775807 ∧ s.size ≤ 140737488351232 ∧ l.length * 80 ≤ 140737488351232)
    (hes : es.length = l.length) (hown : wr.ownsRow (W.heap.size + 3) 25 5 (.slice lp l.length lc) l.length (flat es))
    (hold : ∀ i (h : i < es.length) (h' : i < l.length), Holds (But (W.heap.size + 3) wr (Value.slice lp l.length lc).ownBlock) wr (agg5 es[i]) l[i])
    (hkeys : Texts (But (W.heap.size + 3) wr (Value.slice lp l.length lc).ownBlock) wr K' ks)
    (hE : ∀ b, W.heap.size + 3 ≤ b → wE.heap[b]? = wr.heap[b]?) (hbE : Below W.heap.size W wE) :
    Owned (.mk k n s l ks) W (.returned (.agg #[.int .i64 k, .int .i64 n, .string s, .slice lp l.length lc, K'])) wE := by
  refine ⟨_, rfl, ?_, hbE⟩
  have fr : ∀ t b off n, But (W.heap.size + 3) wr (Value.slice lp l.length lc).ownBlock t b off n → wE.heap[b]? = wr.heap[b]? := fun t b off n h => hE b h.1.1
  have fr' : ∀ t b off n, But (W.heap.size + 3) wr (Value.slice lp l.length lc).ownBlock t b off n → Mine W.heap.size wE t b off n := fun t b off n h => by
    obtain ⟨⟨h1, h2, cur, h3⟩, _⟩ := h
    exact ⟨by omega, h2, cur, by rw [hE b h1]; exact h3⟩
  obtain ⟨g, hg⟩ : ∃ g, 0 < l.length → lp = some ⟨g, 0, none⟩ ∧ Mine W.heap.size wE false g 0 l.length ∧ W.heap.size + 3 ≤ g := by
    rcases hown.2 with ⟨_, h0⟩ | ⟨g, cap, cur, hv, hb, hh, _⟩
    · exact ⟨0, fun h => absurd h (by omega)⟩
    · refine ⟨g, fun _ => ⟨by simp at hv; exact hv.1, ⟨by omega, rfl, cur, by rw [hE g hb]; exact hh⟩, hb⟩⟩
  have key : ∀ i j, i < l.length → j < 5 → (flat es)[i * 5 + j]? = some (((flat es)[i * 5 + j]?).getD undef) := by
    intro i j hi hj
    have : i * 5 + j < (flat es).length := by rw [flat_len, hes]; omega
    rw [List.getElem?_eq_getElem this]; rfl
  refine .mk k n s lp lc K' l ks g 0 (fun i j => ((flat es)[i * 5 + j]?).getD undef) hr (fun h => ⟨(hg h).1, (hg h).2.1⟩) (fun i j hi hj => ?_) (hkeys.frame fr fr') (fun i hi => ?_)
  · obtain ⟨rfl, h1, h2⟩ := hg (by omega)
    have h3 := hown.cellAt (i * 5 + j) (by omega)
    rw [key i j hi hj] at h3
    rw [Nat.zero_add, ← h3]
    simp [World.cell?, hE g h2]
  · have h1 := (hold i (by omega) hi).frame fr fr'
    have e : ∀ j, j < 5 → ((flat es)[i * 5 + j]?).getD undef = ((cells5 (es[i]'(by omega)))[j]?).getD undef := fun j hj => by rw [flat_at es i j (by omega) hj]
    rw [e 0 (by omega), e 1 (by omega), e 2 (by omega), e 3 (by omega), e 4 (by omega)]
    exact h1

theorem own_next {W wr wA wB : World} {k n : Int} {s : ByteArray} {L K K' : Value} {l : List V} {ks : List ByteArray} {es : List E5} {j : Nat} {lp : Option Addr} {lc : Nat} {e : E5} {g cap : Nat} {o : Obj}
    (hlt : j < l.length) (hes : es.length = j)
    (d0 : wr.heap[W.heap.size]? = some (.cells #[.int .i64 k, .int .i64 n, .string s, L, K] 25 (0, 0)))
    (d1 : wr.heap[W.heap.size + 1]? = some (.cells #[.int .i64 0, .int .i64 0, .string ⟨#[]⟩, .slice none 0 0, .slice none 0 0] 25 (0, 0)))
    (d2 : wr.heap[W.heap.size + 2]? = some (.cells #[.int .i64 k, .int .i64 n, .string s, .slice lp j lc, K'] 25 (0, 0)))
    (hown : wr.ownsRow (W.heap.size + 3) 25 5 (.slice lp j lc) j (flat es))
    (hold : ∀ i (h : i < es.length) (h' : i < l.length), Holds (But (W.heap.size + 3) wr (Value.slice lp j lc).ownBlock) wr (agg5 es[i]) l[i])
    (hkeys : Texts (But (W.heap.size + 3) wr (Value.slice lp j lc).ownBlock) wr K' ks) (hbel : Below W.heap.size W wr)
    (hA : Holds (Mine wr.heap.size wA) wA (agg5 e) l[j]) (hbA : Below wr.heap.size wr wA)
    (hownB : wB.ownsRow (W.heap.size + 3) 25 5 (.slice (some ⟨g, 0, none⟩) (j + 1) cap) (j + 1) (flat es ++ cells5 e))
    (hgB : (wA.alloc o).grownBy wB (Value.slice lp j lc).ownBlock) (hat : (Value.slice lp j lc).ownBlock = some g ∨ g = wA.heap.size + 1) :
    OwnAt W k n s L K K' l ks (j + 1) (wB.setCell ⟨W.heap.size + 2, 3, none⟩ (.slice (some ⟨g, 0, none⟩) (j + 1) cap)) := by
  have h2lt : W.heap.size + 2 < wr.heap.size := (Array.getElem?_eq_some_iff.1 d2).1
  have rowge : ∀ r, (Value.slice lp j lc).ownBlock = some r → W.heap.size + 3 ≤ r ∧ r < wr.heap.size := fun r h => row_lt hown h
  have hAs := hbA.size
  -- what is older than the append lies as it lay
  have hB : ∀ b, b < wA.heap.size → some b ≠ (Value.slice lp j lc).ownBlock → wB.heap[b]? = wA.heap[b]? := fun b hb hne => by
    rw [hgB.block b (by simp; omega) hne, Go.heap_alloc_old _ _ hb]
  have hR : ∀ b, b < wr.heap.size → some b ≠ (Value.slice lp j lc).ownBlock → wB.heap[b]? = wr.heap[b]? := fun b hb hne => by
    rw [hB b (by omega) hne, hbA.block b hb]
  have hS : ∀ b, b ≠ W.heap.size + 2 → (wB.setCell ⟨W.heap.size + 2, 3, none⟩ (.slice (some ⟨g, 0, none⟩) (j + 1) cap)).heap[b]? = wB.heap[b]? := fun b hb => heap_setCell_other _ _ _ _ (by simpa using hb)
  have small : ∀ b, b < W.heap.size + 3 → some b ≠ (Value.slice lp j lc).ownBlock := fun b hb h => by have := (rowge b h.symm).1; omega
  have gne : ∀ b, b < wr.heap.size → some b ≠ (Value.slice lp j lc).ownBlock → some b ≠ some g := fun b hb hne h => by
    rcases hat with h1 | h1
    · exact hne (h.trans h1.symm)
    · have : b = g := by simpa using h
      omega
  have fr : ∀ t b off n, But (W.heap.size + 3) wr (Value.slice lp j lc).ownBlock t b off n → (wB.setCell ⟨W.heap.size + 2, 3, none⟩ (.slice (some ⟨g, 0, none⟩) (j + 1) cap)).heap[b]? = wr.heap[b]? := fun t b off n h => by
    rw [hS b (by have := h.1.1; omega), hR b h.1.lt h.2]
  have fr' : ∀ t b off n, But (W.heap.size + 3) wr (Value.slice lp j lc).ownBlock t b off n → But (W.heap.size + 3) (wB.setCell ⟨W.heap.size + 2, 3, none⟩ (.slice (some ⟨g, 0, none⟩) (j + 1) cap)) (some g) t b off n := fun t b off n h => by
    obtain ⟨⟨h1, h2, cur, h3⟩, h4⟩ := h
    exact ⟨⟨h1, h2, cur, by rw [fr t b off n ⟨⟨h1, h2, cur, h3⟩, h4⟩]; exact h3⟩, gne b (Array.getElem?_eq_some_iff.1 h3).1 h4⟩
  have rowA : ∀ b, wr.heap.size ≤ b → some b ≠ (Value.slice lp j lc).ownBlock := fun b hb h => by have := (rowge b h.symm).2; omega
  have frA : ∀ t b off n, Mine wr.heap.size wA t b off n → (wB.setCell ⟨W.heap.size + 2, 3, none⟩ (.slice (some ⟨g, 0, none⟩) (j + 1) cap)).heap[b]? = wA.heap[b]? := fun t b off n h => by
    rw [hS b (by have := h.1; omega), hB b h.lt (rowA b h.1)]
  have frA' : ∀ t b off n, Mine wr.heap.size wA t b off n → But (W.heap.size + 3) (wB.setCell ⟨W.heap.size + 2, 3, none⟩ (.slice (some ⟨g, 0, none⟩) (j + 1) cap)) (some g) t b off n := fun t b off n h => by
    have hlt' := h.lt
    have e1 := frA t b off n h
    obtain ⟨h1, h2, cur, h3⟩ := h
    refine ⟨⟨by omega, h2, cur, by rw [e1]; exact h3⟩, fun h => ?_⟩
    have hbg : b = g := by simpa using h
    rcases hat with h4 | h4
    · have := (rowge g h4).2; omega
    · omega
  have hgB2 : Below W.heap.size W wB := by
    refine (hbel.trans ((hbA.mono hbel.size))).trans ?_
    have := ((Below.refl W.heap.size wA).alloc (by have := hbel.size; omega) o)
    exact this.grown hgB (by simp; have := hbel.size; omega) (fun k hk => by have := (rowge k hk).1; omega)
  refine ⟨some ⟨g, 0, none⟩, cap, es ++ [e], by simp [hes], ?_, ?_, ?_, ?_, ?_, ?_, ?_⟩
  · rw [hS _ (by omega), hR _ (by omega) (small _ (by omega))]; exact d0
  · rw [hS _ (by omega), hR _ (by omega) (small _ (by omega))]; exact d1
  · have e2 : wB.heap[W.heap.size + 2]? = _ := (hR _ h2lt (small _ (by omega))).trans d2
    rw [heap_setCell_same _ _ _ _ _ _ e2]
    rfl
  · have hne : W.heap.size + 2 ≠ g := by
      rcases hat with h4 | h4
      · have := (rowge g h4).1; omega
      · omega
    rw [← flat_snoc]
    refine ⟨hownB.1, .inr ?_⟩
    rcases hownB.2 with ⟨h, _⟩ | ⟨g2, cap2, cur, hv, hb2, hh, r⟩
    · cases h
    · have : g2 = g := by simp at hv; omega
      exact ⟨g2, cap2, cur, hv, hb2, by rw [hS _ (by omega)]; exact hh, r⟩
  · intro i h h'
    rcases Nat.lt_or_ge i es.length with hi | hi
    · rw [List.getElem_append_left hi]
      exact (hold i hi h').frame fr fr'
    · have : i = es.length := by simp at h; omega
      subst this
      have e9 : (es ++ [e])[es.length]'h = e := by simp
      rw [e9]
      subst hes
      exact hA.frame frA frA'
  · exact hkeys.frame fr fr'
  · exact hgB2.setCell (p := ⟨W.heap.size + 2, 3, none⟩) (by simp) _

set_option maxHeartbeats 4000000 in
set_option maxRecDepth 100000 in
theorem own_c (N : Nat) (w : World) {a : Value} {x : V} (ha : Holds (Old N) w a x) : ∀ (W : World), N ≤ W.heap.size → Below N w W →
    Calls Try.prog 6 #[a] W (Owned x W) := by
  induction ha with
  | mk k n s p cap K l ks bl off c hr hp hc hK hl ih =>
    intro W hN hW
    obtain ⟨q, qc, qb, qo, rfl, hq1, hq2, hq3⟩ := hK
    generalize hW3 : (((W.alloc (.cells #[.int .i64 k, .int .i64 n, .string s, .slice p l.length cap, .slice q ks.length qc] 25)).alloc (.cells #[.int .i64 0, .int .i64 0, .string ⟨#[]⟩, .slice none 0 0, .slice none 0 0] 25)).alloc (.cells #[.int .i64 k, .int .i64 n, .string s, .slice none 0 0, .slice none 0 0] 25)) = W3
    have B3 : Below W.heap.size W W3 := by rw [← hW3]; exact (((Below.refl _ W).alloc (Nat.le_refl _) _).alloc (by simp) _).alloc (by simp; omega) _
    have Z3 : W3.heap.size = W.heap.size + 3 := by rw [← hW3]; simp
    have D0 : W3.heap[W.heap.size]? = some (.cells #[.int .i64 k, .int .i64 n, .string s, .slice p l.length cap, .slice q ks.length qc] 25 (0, 0)) := by
      rw [← hW3, Go.heap_alloc_old _ _ (by simp; omega), Go.heap_alloc_old _ _ (by simp), heap_alloc_new]
    have D1 : W3.heap[W.heap.size + 1]? = some (.cells #[.int .i64 0, .int .i64 0, .string ⟨#[]⟩, .slice none 0 0, .slice none 0 0] 25 (0, 0)) := by
      have := heap_alloc_new (W.alloc (.cells #[.int .i64 k, .int .i64 n, .string s, .slice p l.length cap, .slice q ks.length qc] 25)) (.cells #[.int .i64 0, .int .i64 0, .string ⟨#[]⟩, .slice none 0 0, .slice none 0 0] 25)
      rw [World.size_alloc] at this
      rw [← hW3, Go.heap_alloc_old _ _ (by simp), this]
    have D2 : W3.heap[W.heap.size + 2]? = some (.cells #[.int .i64 k, .int .i64 n, .string s, .slice none 0 0, .slice none 0 0] 25 (0, 0)) := by
      have := heap_alloc_new ((W.alloc (.cells #[.int .i64 k, .int .i64 n, .string s, .slice p l.length cap, .slice q ks.length qc] 25)).alloc (.cells #[.int .i64 0, .int .i64 0, .string ⟨#[]⟩, .slice none 0 0, .slice none 0 0] 25)) (.cells #[.int .i64 k, .int .i64 n, .string s, .slice none 0 0, .slice none 0 0] 25)
      rw [World.size_alloc, World.size_alloc] at this
      rw [← hW3]
      exact this
    obtain ⟨K', w1, hrun, hT, hb1⟩ := append_keys W3 23 q qc qb qo ks hq1 (fun h => (hq2 h).1) (fun i h => by
      rw [← hq3 i h]
      exact (B3.cell (p := ⟨qb, qo + i, none⟩) (show qb < _ from Nat.lt_of_lt_of_le (hq2 (by omega)).2 hN)).trans (hW.cell (p := ⟨qb, qo + i, none⟩) (show qb < _ from (hq2 (by omega)).2)))
    obtain ⟨q1, c1, b1, o1, rfl, t1, t2, t3⟩ := hT
    have HD := Lib.hid (And.intro B3 (And.intro Z3 (And.intro D0 (And.intro D1 D2))))
    have HT := Lib.hid (And.intro t1 (And.intro t2 (And.intro t3 hb1)))
    have HG := Lib.hid (And.intro hN hW)
    have HLS := Lib.hid (And.intro hp (And.intro hc hl))
    have HIH := Lib.hid ih
    have HR := Lib.hid hr
    have g4 : w1.cell? ⟨W.heap.size + 1 + 1, 4, none⟩ = some (.slice none 0 0) := by
      rw [hb1.cell (p := ⟨W.heap.size + 1 + 1, 4, none⟩) (show W.heap.size + 1 + 1 < _ by omega)]
      exact (cell_of_row W3 (W.heap.size + 2) 4 _ _ _ D2).trans rfl
    have fz4 : w1.frozen? ⟨W.heap.size + 1 + 1, 4, none⟩ = false := by
      rw [hb1.frozen (p := ⟨W.heap.size + 1 + 1, 4, none⟩) (show W.heap.size + 1 + 1 < _ by omega)]
      exact frozen_of_row W3 (W.heap.size + 2) 4 _ _ D2
    have H0 : Hid (OwnAt W k n s (.slice p l.length cap) (.slice q ks.length qc) (.slice q1 ks.length c1) l ks 0 (w1.setCell ⟨W.heap.size + 1 + 1, 4, none⟩ (.slice q1 ks.length c1))) := by
      have oth : ∀ b, b ≠ W.heap.size + 2 → (w1.setCell ⟨W.heap.size + 1 + 1, 4, none⟩ (.slice q1 ks.length c1)).heap[b]? = w1.heap[b]? := fun b hb => heap_setCell_other _ _ _ _ (by simpa using hb)
      refine ⟨none, 0, [], rfl, ?_, ?_, ?_, ⟨rfl, .inl ⟨rfl, rfl⟩⟩, fun i h => absurd h (by simp), ?_, ?_⟩
      · rw [oth _ (by omega), hb1.block _ (by omega)]; exact D0
      · rw [oth _ (by omega), hb1.block _ (by omega)]; exact D1
      · have e2 : w1.heap[W.heap.size + 2]? = _ := (hb1.block _ (by omega)).trans D2
        have e3 := heap_setCell_same w1 (W.heap.size + 2) 4 _ _ (.slice q1 ks.length c1) e2
        exact e3
      · refine Texts.frame (C := Mine W3.heap.size w1) (w := w1) ⟨q1, c1, b1, o1, rfl, t1, t2, t3⟩ (fun t b off n h => oth b (by have := h.1; omega)) (fun t b off n h => ?_)
        obtain ⟨h1, h2, cur, h3⟩ := h
        exact ⟨⟨by omega, h2, cur, by rw [oth b (by omega)]; exact h3⟩, by simp [Value.ownBlock]⟩
      · exact (B3.trans (hb1.mono (by omega))).setCell (p := ⟨W.heap.size + 1 + 1, 4, none⟩) (by simp; omega) _
    rw [← hW3] at hrun
    clear hW3 B3 Z3 D0 D1 D2 t1 t2 t3 hb1 hN hW hp hc hl ih hr hq2 hq3 hq1
    go_enter Try.func6, Try.ntmps6
    go_wp2_with (at_builtin; refine wpList_append_run rfl (.tmp 13) (.tmp 15) 23 rfl (.slice none 0 0) (.slice q ks.length qc) (.slice q1 ks.length c1) rfl rfl hrun ?_)
    clear hrun g4 fz4
    go_loopw [4] (fun i wr => ∃ j : Nat, j ≤ l.length ∧ i = .int .i64 j ∧ Hid (OwnAt W k n s (.slice p l.length cap) (.slice q ks.length qc) (.slice q1 ks.length c1) l ks j wr)) (fun i _ => l.length - (intOf i).toNat)
    case atStart => exact ⟨0, Nat.zero_le _, rfl, H0⟩
    case round =>
      obtain ⟨j, hj, rfl, hat⟩ := hrel
      clear H0
      obtain ⟨lp, lc, es, hes, d0, d1, d2, hown, hold, hkeys, hbel⟩ := hat.out
      have C3 : wr.cell? ⟨W.heap.size, 3, none⟩ = some (.slice p l.length cap) := (cell_of_row wr (W.heap.size) 3 _ _ _ d0).trans rfl
      by_cases hlt : j < l.length
      · have n0 : 0 < l.length := by omega
        obtain ⟨rfl, hbN⟩ := HLS.out.1 n0
        have hWr : N ≤ wr.heap.size := by have := HG.out.1; have := hbel.size; omega
        have hww : Below N w wr := HG.out.2.trans (hbel.mono HG.out.1)
        have hcs : ∀ i, i < 5 → wr.cell? ⟨bl, off + (j * 5 + i), none⟩ = some (c j i) := fun i hi => by rw [hww.cell (show bl < _ from hbN)]; exact HLS.out.2.1 j i hlt hi
        have e0 : wr.cell? ⟨bl, off + j * 5, none⟩ = some (c j 0) := hcs 0 (by omega)
        have e1 : wr.cell? ⟨bl, off + j * 5 + 1, none⟩ = some (c j 1) := hcs 1 (by omega)
        have e2 : wr.cell? ⟨bl, off + j * 5 + 2, none⟩ = some (c j 2) := hcs 2 (by omega)
        have e3 : wr.cell? ⟨bl, off + j * 5 + 3, none⟩ = some (c j 3) := hcs 3 (by omega)
        have e4 : wr.cell? ⟨bl, off + j * 5 + 4, none⟩ = some (c j 4) := hcs 4 (by omega)
        have hcall : Calls Try.prog 6 #[.agg #[c j 0, c j 1, c j 2, c j 3, c j 4]] wr.drew (Owned l[j] wr) := (HIH.out j hlt wr.drew hWr hww.drew).mono fun _ _ ⟨v, h1, h2, h3⟩ => ⟨v, h1, h2, ((Below.refl wr.heap.size wr).drew).trans h3⟩
        have x3 : wr.cell? ⟨W.heap.size + 1 + 1, 3, none⟩ = some (.slice lp j lc) := (cell_of_row wr (W.heap.size + 2) 3 _ _ _ d2).trans rfl
        have h1 : (0 : Int) ≤ (j : Int) := by omega
        have h2 : (j : Int) < (l.length : Int) := by omega
        clear hcs
        go_wp2_with fail
        obtain ⟨i0, hi, hz0, hz1, hz2⟩ := info_parts info_value
        have hmax : j + 1 ≤ maxLen := by unfold maxLen; have := HR.out.2.2.2.2.2; omega
        have hby : (j + 1) * 80 ≤ 140737488355328 := by have := HR.out.2.2.2.2.2; omega
        have HO := Lib.hid (And.intro hes (And.intro d0 (And.intro d1 (And.intro d2 (And.intro hown (And.intro hold (And.intro hkeys hbel)))))))
        clear d0 d1 d2 hown hold hkeys hbel hes hat hww hWr n0
        have hcell2 : ∀ wA, Below wr.heap.size wr wA → wA.cell? ⟨W.heap.size + 1 + 1, 3, none⟩ = some (.slice lp j lc) ∧ W.heap.size + 3 ≤ wA.heap.size + 1 ∧ W.heap.size + 1 + 1 < wA.heap.size := fun wA h => by
          have h2lt : W.heap.size + 2 < wr.heap.size := (Array.getElem?_eq_some_iff.1 HO.out.2.2.2.1).1
          have := h.size
          refine ⟨?_, by omega, by omega⟩
          rw [h.cell (p := ⟨W.heap.size + 1 + 1, 3, none⟩) (show W.heap.size + 1 + 1 < _ by omega)]
          exact x3
        have HC2 := Lib.hid hcell2
        clear hcell2
        go_region_law (first
          | (go_simp; go_at_call 6; refine hcall.mono ?_; rintro e wA ⟨v', rfl, hA, hbA⟩; obtain ⟨u0, u1, u2, u3, u4, rfl, hone⟩ := holds_five hA; obtain ⟨x3A, hbaseA, hltA⟩ := HC2.out wA hbA; have HA := Lib.hid (And.intro hA (And.intro hbA hone)); clear hA hbA hone)
          | (refine step_append_lies _ rfl (.tmp 26) (.tmp 33) 22 rfl (W.heap.size + 3) 25 i0 _ 5 80 Try.underlying22 hi hz0 hz1 hz2 rfl (by omega) (.slice lp j lc) j (flat es) (by simp [Act.eval]) ((own_kept HO.out.2.2.2.2.1 HA.out.2.1).alloc _) ⟨wA.heap.size, 0, none⟩ 1 1 [u0, u1, u2, u3, u4] (by simp [Act.eval]) rfl (World.news_of_block (heap_alloc_new wA _)) HA.out.2.2 (by omega) hmax hby (by simp; omega) (wA.heap.size + 1) (by simp) ?_; intro g cp wB hownB hgB hatB hltB; obtain ⟨xB, zB⟩ := own_far HO.out.2.2.2.1 HO.out.2.2.2.2.1 HA.out.2.1 hgB; have HB := Lib.hid (And.intro hownB (And.intro hgB hatB)); clear hownB hgB hatB hltB))
        all_goals
          obtain ⟨hownB, hgB, hatB⟩ := HB.out
          obtain ⟨hA, hbA, _⟩ := HA.out
          obtain ⟨hes, d0, d1, d2, hown, hold, hkeys, hbel⟩ := HO.out
          have HN : Hid (OwnAt W k n s (.slice (some ⟨bl, off, none⟩) l.length cap) (.slice q ks.length qc) (.slice q1 ks.length c1) l ks (j + 1) (wB.setCell ⟨W.heap.size + 2, 3, none⟩ (.slice (some ⟨g, 0, none⟩) (j + 1) cp))) :=
            own_next (e := (u0, u1, u2, u3, u4)) hlt hes d0 d1 d2 hown hold hkeys hbel hA hbA hownB hgB hatB
          clear hownB hgB hatB hA hbA hes d0 d1 d2 hown hold hkeys hbel
          go_wp2_with fail
          go_roundw
          case rel => exact ⟨j + 1, by omega, by go_num, HN⟩
          case measure => simp [intOf]; omega
      · have x0 : wr.cell? ⟨W.heap.size + 1 + 1, 0, none⟩ = some (.int .i64 k) := (cell_of_row wr (W.heap.size + 2) 0 _ _ _ d2).trans rfl
        have x1 : wr.cell? ⟨W.heap.size + 1 + 1, 1, none⟩ = some (.int .i64 n) := (cell_of_row wr (W.heap.size + 2) 1 _ _ _ d2).trans rfl
        have x2 : wr.cell? ⟨W.heap.size + 1 + 1, 2, none⟩ = some (.string s) := (cell_of_row wr (W.heap.size + 2) 2 _ _ _ d2).trans rfl
        have x3 : wr.cell? ⟨W.heap.size + 1 + 1, 3, none⟩ = some (.slice lp j lc) := (cell_of_row wr (W.heap.size + 2) 3 _ _ _ d2).trans rfl
        have x4 : wr.cell? ⟨W.heap.size + 1 + 1, 4, none⟩ = some (.slice q1 ks.length c1) := (cell_of_row wr (W.heap.size + 2) 4 _ _ _ d2).trans rfl
        have y0 : wr.cell? ⟨W.heap.size + 1, 0, none⟩ = some (.int .i64 0) := (cell_of_row wr (W.heap.size + 1) 0 _ _ _ d1).trans rfl
        have y1 : wr.cell? ⟨W.heap.size + 1, 1, none⟩ = some (.int .i64 0) := (cell_of_row wr (W.heap.size + 1) 1 _ _ _ d1).trans rfl
        have y2 : wr.cell? ⟨W.heap.size + 1, 2, none⟩ = some (.string ⟨#[]⟩) := (cell_of_row wr (W.heap.size + 1) 2 _ _ _ d1).trans rfl
        have y3 : wr.cell? ⟨W.heap.size + 1, 3, none⟩ = some (.slice none 0 0) := (cell_of_row wr (W.heap.size + 1) 3 _ _ _ d1).trans rfl
        have y4 : wr.cell? ⟨W.heap.size + 1, 4, none⟩ = some (.slice none 0 0) := (cell_of_row wr (W.heap.size + 1) 4 _ _ _ d1).trans rfl
        have z0 := frozen_of_row wr (W.heap.size + 1) 0 _ _ d1
        have z1 := frozen_of_row wr (W.heap.size + 1) 1 _ _ d1
        have z2 := frozen_of_row wr (W.heap.size + 1) 2 _ _ d1
        have z3 := frozen_of_row wr (W.heap.size + 1) 3 _ _ d1
        have z4 := frozen_of_row wr (W.heap.size + 1) 4 _ _ d1
        have hjl : j = l.length := by omega
        subst hjl
        have HE := Lib.hid (And.intro hes (And.intro hown (And.intro hold (And.intro hkeys hbel))))
        clear d0 d1 d2 hown hold hkeys hbel hes
        go_wp2_with fail
        refine bodyPost_ret (v := .agg #[.int .i64 k, .int .i64 n, .string s, .slice lp l.length lc, .slice q1 ks.length c1]) (by simp [results, Try.results6, go_sem, y0, y1, y2, y3, y4]) rfl ?_
        obtain ⟨hes, hown, hold, hkeys, hbel⟩ := HE.out
        refine own_end HR.out hes hown hold hkeys (fun b hb => ?_) ((((((hbel.setCell (p := ⟨W.heap.size + 1, 0, none⟩) (by simp) _).setCell (p := ⟨W.heap.size + 1, 1, none⟩) (by simp) _).setCell (p := ⟨W.heap.size + 1, 2, none⟩) (by simp) _).setCell (p := ⟨W.heap.size + 1, 3, none⟩) (by simp) _).setCell (p := ⟨W.heap.size + 1, 4, none⟩) (by simp) _))
        rw [heap_setCell_other _ _ _ _ (by simp; omega), heap_setCell_other _ _ _ _ (by simp; omega), heap_setCell_other _ _ _ _ (by simp; omega), heap_setCell_other _ _ _ _ (by simp; omega), heap_setCell_other _ _ _ _ (by simp; omega)]
end Go.Proofs.Ytcheiombgnabaaa.Val
