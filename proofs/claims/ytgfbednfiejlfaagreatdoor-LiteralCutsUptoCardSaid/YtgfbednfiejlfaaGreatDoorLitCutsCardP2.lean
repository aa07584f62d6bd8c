/-
  Part 2: ValOwn, RdAt, ValClone, ValClone2, RdPut0, RdEnd0, PgOct, OctLeaves, OctFirst.
-/
import Derived.Test.YtgfbednfiejlfaaGreatDoorLitCutsCardP1
import Derived.Deep.AppendLies
import Derived.Deep.RegionLaw
import Derived.Deep.RegionWith
import Derived.Deep.RegionHeld3
import Derived.BigQuiet
import Derived.Test.YtgfbednfiejlfaaGreatDoorProg
import Derived.Lib.Hide
/-
  Contract of the page's Own: a value in memory of its own, which reads as the same tree.
-/
namespace Go.Proofs.YtgfbednfiejlfaaGreatDoor.Val
open Go.RowKit Go.Proofs.YtgfbednfiejlfaaGreatDoor.Oct

/-- A block of its own: whole, unfrozen, from its beginning on. -/
def Mine (lo : Nat) (w : World) : Cond := fun t b off _ => lo ≤ b ∧ off = 0 ∧ ∃ cur, w.heap[b]? = some (.cells cur (if t then 9 else 26) (0, 0))

theorem Mine.lt {lo : Nat} {w : World} {t : Bool} {b off n : Nat} (h : Mine lo w t b off n) : b < w.heap.size := by
  obtain ⟨_, _, cur, h⟩ := h
  exact (Array.getElem?_eq_some_iff.1 h).1

/-- An append whose run is known, at a plain region's list of operations. -/
theorem wpList_append_run {P : Program} {w w' : World} {ops : Array Oper} {rest : List Oper} {o : Oper} {a : Act} {Q : Exit → Act → World → Prop} (hgd : o.guard = none) (s x : Operand) (t : TypeId)
    (ho : o.op = .call { callee := .builtin .append, args := #[s, x], argTypes := #[t, t] }) (v u v' : Value) (hs : a.eval s = v) (hx : a.eval x = u)
    (hrun : (Builtin.append_ #[t, t] o.type #[v, u]).run P w = .ok v' w') (h : wpList P ops Q rest (a.put o.dst v') w') : wpList P ops Q (o :: rest) a w := by
  refine wpList_plain hgd fun K hK => ?_
  unfold Oper.wp execOp
  simp only [ho, resolve, invoke, builtin, Sem.run_bind, Sem.run_pure, Result.andThen_ok, List.map_toArray, List.map_cons, List.map_nil, hs, hx, hrun]
  exact hK _ _ h

theorem info_text : (Tryz.prog.info? 9).map (fun i => (i.zero, i.size, i.bytes)) = some (some (.string ⟨#[]⟩), 1, 16) := by kernel_rfl
theorem info_value : (Tryz.prog.info? 26).map (fun i => (i.zero, i.size, i.bytes)) = some (some (.agg #[.int .i64 0, .int .i64 0, .string ⟨#[]⟩, .slice none 0 0, .slice none 0 0]), 5, 80) := by kernel_rfl

/-- 'append(nil, keys...)': the keys in a block of their own. -/
theorem append_keys (w : World) (ty : TypeId) (q : Option Addr) (qc qb qo : Nat) (ks : List ByteArray) (hlen0 : ks.length * 16 ≤ 140737488351232 ∧ ∀ s ∈ ks, s.size ≤ 140737488351232) (hq : 0 < ks.length → q = some ⟨qb, qo, none⟩)
    (hc : ∀ i (h : i < ks.length), w.cell? ⟨qb, qo + i, none⟩ = some (.string ks[i])) :
    ∃ K' w', (Builtin.append_ #[24, 24] ty #[.slice none 0 0, .slice q ks.length qc]).run Tryz.prog w = .ok K' w' ∧ Texts (Mine w.heap.size w') w' K' ks ∧ Below w.heap.size w w' := by
  obtain ⟨i0, hi, hz0, hz1, hz2⟩ := info_parts info_text
  have hlen := hlen0.1
  by_cases h0 : ks.length = 0
  · refine ⟨.slice none 0 0, w, ?_, ⟨none, 0, 0, 0, by rw [h0], hlen0, fun h => absurd h (by omega), fun i h => absurd h (by omega)⟩, Below.refl _ _⟩
    rw [h0]
    cases q with
    | none => simp [Builtin.append_, run_underlying Tryz.underlying24, sizeOf, typeInfo, hi, Builtin.lenOf, Builtin.firstCells]
    | some ad => simp [Builtin.append_, run_underlying Tryz.underlying24, sizeOf, typeInfo, hi, Builtin.lenOf, Builtin.firstCells, loadCells, loadCellsFrom]
  · have hpos : 0 < ks.length := by omega
    rw [hq hpos]
    obtain ⟨g, cap, w', hr, hown, hg, hat, hlt⟩ := run_append_lies (P := Tryz.prog) w 24 ty w.heap.size 9 i0 (.string ⟨#[]⟩) 1 16 Tryz.underlying24 hi hz0 hz1 hz2 rfl (by omega)
      (.slice none 0 0) 0 [] ⟨rfl, .inl ⟨rfl, rfl⟩⟩ ⟨qb, qo, none⟩ ks.length qc (ks.map Value.string) (by simp)
      (fun j u hu => by
        have hj : j < ks.length := by
          have := (List.getElem?_eq_some_iff.1 hu).1
          simpa using this
        have e := hc j hj
        rw [Addr.add_lit]
        rw [e]
        rw [List.getElem?_map, List.getElem?_eq_getElem hj] at hu
        exact hu)
      (fun u hu => by obtain ⟨b, _, rfl⟩ := List.mem_map.1 hu; rfl) hpos (by unfold maxLen; omega) (by omega) (Nat.le_refl _) _ rfl
    refine ⟨_, w', hr, ?_, ?_⟩
    · have hg' : w.heap.size ≤ g := by
        rcases hat with h | h
        · simp [Value.ownBlock] at h
        · omega
      rcases hown.2 with ⟨h, _⟩ | ⟨g2, cap2, cur, hv, hb2, hh, hnc, hcm, hcs, htk⟩
      · cases h
      · have e1 : g2 = g := by simp at hv; omega
        subst e1
        refine ⟨some ⟨g2, 0, none⟩, cap, g2, 0, by rw [Nat.zero_add], hlen0, fun _ => ⟨rfl, hg', rfl, cur, hh⟩, fun i h => ?_⟩
        have := hown.cellAt i (by omega)
        rw [Nat.zero_add, this]
        simp [h]
    · exact (Below.refl _ w).grown hg (Nat.le_refl _) (fun k hk => by cases hk)

/-- The cells of one value, one behind the other. -/
abbrev E5 := Value × Value × Value × Value × Value
abbrev cells5 (e : E5) : List Value := [e.1, e.2.1, e.2.2.1, e.2.2.2.1, e.2.2.2.2]
abbrev agg5 (e : E5) : Value := .agg #[e.1, e.2.1, e.2.2.1, e.2.2.2.1, e.2.2.2.2]
def flat (es : List E5) : List Value := es.flatMap cells5
theorem flat_len (es : List E5) : (flat es).length = es.length * 5 := by
  induction es with
  | nil => rfl
  | cons e es ih => simp [flat] at ih ⊢; omega
theorem flat_snoc (es : List E5) (e : E5) : flat es ++ cells5 e = flat (es ++ [e]) := by simp [flat]
theorem flat_at (es : List E5) (i j : Nat) (hi : i < es.length) (hj : j < 5) : (flat es)[i * 5 + j]? = (cells5 es[i])[j]? := by
  induction es generalizing i with
  | nil => cases hi
  | cons e es ih =>
    have ef : flat (e :: es) = cells5 e ++ flat es := rfl
    rw [ef]
    cases i with
    | zero => rw [List.getElem?_append_left (by simp; omega)]; simp
    | succ i =>
      rw [List.getElem?_append_right (by simp; omega)]
      have := ih i (by simpa using hi)
      rw [show (i + 1) * 5 + j - (cells5 e).length = i * 5 + j by simp; omega, this]
      rfl

theorem own_slice {w : World} {base : Nat} {e : TypeId} {size n : Nat} {v : Value} {xs : List Value} (h : w.ownsRow base e size v n xs) : ∃ lp lc, v = .slice lp n lc := by
  rcases h.2 with ⟨rfl, rfl⟩ | ⟨g, cap, cur, rfl, _⟩
  · exact ⟨none, 0, rfl⟩
  · exact ⟨_, _, rfl⟩
theorem holds_form {C : Cond} {w : World} {v : Value} {x : V} (h : Holds C w v x) : ∃ e : E5, v = agg5 e ∧ ∀ u ∈ cells5 e, u.oneCell' = true := by
  cases h with
  | mk k n s p cap K l ks b off c hr hp hc hK hl =>
    obtain ⟨q, qc, qb, qo, rfl, _⟩ := hK
    refine ⟨(.int .i64 k, .int .i64 n, .string s, .slice p l.length cap, .slice q ks.length qc), rfl, fun u hu => ?_⟩
    simp at hu
    rcases hu with rfl | rfl | rfl | rfl | rfl <;> rfl

/-- What holds of a block that Own has laid, but for the row that it goes on appending to. -/
def But (lo : Nat) (w : World) (row : Option Nat) : Cond := fun t b off n => Mine lo w t b off n ∧ some b ≠ row

/-- What holds between two rounds of Own. -/
def OwnAt (W : World) (k n : Int) (s : ByteArray) (L K K' : Value) (l : List V) (ks : List ByteArray) (j : Nat) (wr : World) : Prop :=
  ∃ (lp : Option Addr) (lc : Nat) (es : List E5), es.length = j ∧
    wr.heap[W.heap.size]? = some (.cells #[.int .i64 k, .int .i64 n, .string s, L, K] 26 (0, 0)) ∧
    wr.heap[W.heap.size + 1]? = some (.cells #[.int .i64 0, .int .i64 0, .string ⟨#[]⟩, .slice none 0 0, .slice none 0 0] 26 (0, 0)) ∧
    wr.heap[W.heap.size + 2]? = some (.cells #[.int .i64 k, .int .i64 n, .string s, .slice lp j lc, K'] 26 (0, 0)) ∧
    wr.ownsRow (W.heap.size + 3) 26 5 (.slice lp j lc) j (flat es) ∧
    (∀ i (h : i < es.length) (h' : i < l.length), Holds (But (W.heap.size + 3) wr (Value.slice lp j lc).ownBlock) wr (agg5 es[i]) l[i]) ∧
    Texts (But (W.heap.size + 3) wr (Value.slice lp j lc).ownBlock) wr K' ks ∧ Below W.heap.size W wr

/-- What Own leaves. -/
def Owned (x : V) (W : World) (e : Ending) (W' : World) : Prop := ∃ v, e = .returned v ∧ Holds (Mine W.heap.size W') W' v x ∧ Below W.heap.size W W'

theorem row_lt {w : World} {base : Nat} {e : TypeId} {size n : Nat} {v : Value} {xs : List Value} (h : w.ownsRow base e size v n xs) {r : Nat} (hr : v.ownBlock = some r) : base ≤ r ∧ r < w.heap.size := by
  rcases h.2 with ⟨rfl, _⟩ | ⟨g, cap, cur, rfl, hb, hg, _⟩
  · simp [Value.ownBlock] at hr
  · simp [Value.ownBlock] at hr
    subst hr
    exact ⟨hb, (Array.getElem?_eq_some_iff.1 hg).1⟩

/-- A row of the call's own lies as it lay in a world in which nothing older has turned. -/
theorem own_kept {w w' : World} {base n size : Nat} {e : TypeId} {v : Value} {xs : List Value} (h : w.ownsRow base e size v n xs) (hb : Below w.heap.size w w') : w'.ownsRow base e size v n xs := by
  refine h.kept (row := none) ⟨hb.os, hb.tape, hb.output, hb.size, fun k hk _ => hb.block k hk⟩ ?_
  rcases h.2 with ⟨rfl, _⟩ | ⟨g, cap, cur, rfl, _⟩
  · exact .inl rfl
  · exact .inr (by simp [Value.ownBlock])

theorem holds_five {C : Cond} {w : World} {v : Value} {x : V} (h : Holds C w v x) : ∃ u0 u1 u2 u3 u4, v = .agg #[u0, u1, u2, u3, u4] ∧ ∀ u ∈ [u0, u1, u2, u3, u4], u.oneCell' = true := by
  obtain ⟨⟨u0, u1, u2, u3, u4⟩, h1, h2⟩ := holds_form h
  exact ⟨u0, u1, u2, u3, u4, h1, h2⟩

/-- The box of what is being made, behind the append. -/
theorem own_far {W wr wA wB : World} {lp : Option Addr} {lc j : Nat} {xs : List Value} {o : Obj} {K' : Value} {k n : Int} {s : ByteArray}
    (d2 : wr.heap[W.heap.size + 2]? = some (.cells #[.int .i64 k, .int .i64 n, .string s, .slice lp j lc, K'] 26 (0, 0)))
    (hown : wr.ownsRow (W.heap.size + 3) 26 5 (.slice lp j lc) j xs) (hbA : Below wr.heap.size wr wA) (hgB : (wA.alloc o).grownBy wB (Value.slice lp j lc).ownBlock) :
    wB.cell? ⟨W.heap.size + 1 + 1, 3, none⟩ = some (.slice lp j lc) ∧ wB.frozen? ⟨W.heap.size + 1 + 1, 3, none⟩ = false := by
  have h2lt : W.heap.size + 2 < wr.heap.size := (Array.getElem?_eq_some_iff.1 d2).1
  have hAs := hbA.size
  have e : wB.heap[W.heap.size + 2]? = _ := ((hgB.block (W.heap.size + 2) (by simp; omega) (fun h => by have := (row_lt hown h.symm).1; omega)).trans (Go.heap_alloc_old _ _ (by omega))).trans ((hbA.block _ h2lt).trans d2)
  exact ⟨(cell_of_row wB (W.heap.size + 2) 3 _ _ _ e).trans rfl, frozen_of_row wB (W.heap.size + 2) 3 _ _ e⟩

theorem own_end {W wr wE : World} {k n : Int} {s : ByteArray} {lp : Option Addr} {lc : Nat} {K' : Value} {l : List V} {ks : List ByteArray} {es : List E5}
    (hr : -9223372036854775808 ≤ k ∧ k ≤ 9223372036854775807 ∧ -9223372036854775808 ≤ n ∧ n ≤ 9223372036854775807 ∧ s.size ≤ 140737488351232 ∧ l.length * 80 ≤ 140737488351232)
    (hes : es.length = l.length) (hown : wr.ownsRow (W.heap.size + 3) 26 5 (.slice lp l.length lc) l.length (flat es))
    (hold : ∀ i (h : i < es.length) (h' : i < l.length), Holds (But (W.heap.size + 3) wr (Value.slice lp l.length lc).ownBlock) wr (agg5 es[i]) l[i])
    (hkeys : Texts (But (W.heap.size + 3) wr (Value.slice lp l.length lc).ownBlock) wr K' ks)
    (hE : ∀ b, W.heap.size + 3 ≤ b → wE.heap[b]? = wr.heap[b]?) (hbE : Below W.heap.size W wE) :
    Owned (.mk k n s l ks) W (.returned (.agg #[.int .i64 k, .int .i64 n, .string s, .slice lp l.length lc, K'])) wE := by
  refine ⟨_, rfl, ?_, hbE⟩
  have fr : ∀ t b off n, But (W.heap.size + 3) wr (Value.slice lp l.length lc).ownBlock t b off n → wE.heap[b]? = wr.heap[b]? := fun t b off n h => hE b h.1.1
  have fr' : ∀ t b off n, But (W.heap.size + 3) wr (Value.slice lp l.length lc).ownBlock t b off n → Mine W.heap.size wE t b off n := fun t b off n h => by
    obtain ⟨⟨h1, h2, cur, h3⟩, _⟩ := h
    exact ⟨by omega, h2, cur, by rw [hE b h1]; exact h3⟩
  obtain ⟨g, hg⟩ : ∃ g, 0 < l.length → lp = some ⟨g, 0, none⟩ ∧ Mine W.heap.size wE false g 0 l.length ∧ W.heap.size + 3 ≤ g := by
    rcases hown.2 with ⟨_, h0⟩ | ⟨g, cap, cur, hv, hb, hh, _⟩
    · exact ⟨0, fun h => absurd h (by omega)⟩
    · refine ⟨g, fun _ => ⟨by simp at hv; exact hv.1, ⟨by omega, rfl, cur, by rw [hE g hb]; exact hh⟩, hb⟩⟩
  have key : ∀ i j, i < l.length → j < 5 → (flat es)[i * 5 + j]? = some (((flat es)[i * 5 + j]?).getD undef) := by
    intro i j hi hj
    have : i * 5 + j < (flat es).length := by rw [flat_len, hes]; omega
    rw [List.getElem?_eq_getElem this]; rfl
  refine .mk k n s lp lc K' l ks g 0 (fun i j => ((flat es)[i * 5 + j]?).getD undef) hr (fun h => ⟨(hg h).1, (hg h).2.1⟩) (fun i j hi hj => ?_) (hkeys.frame fr fr') (fun i hi => ?_)
  · obtain ⟨rfl, h1, h2⟩ := hg (by omega)
    have h3 := hown.cellAt (i * 5 + j) (by omega)
    rw [key i j hi hj] at h3
    rw [Nat.zero_add, ← h3]
    simp [World.cell?, hE g h2]
  · have h1 := (hold i (by omega) hi).frame fr fr'
    have e : ∀ j, j < 5 → ((flat es)[i * 5 + j]?).getD undef = ((cells5 (es[i]'(by omega)))[j]?).getD undef := fun j hj => by rw [flat_at es i j (by omega) hj]
    rw [e 0 (by omega), e 1 (by omega), e 2 (by omega), e 3 (by omega), e 4 (by omega)]
    exact h1

theorem own_next {W wr wA wB : World} {k n : Int} {s : ByteArray} {L K K' : Value} {l : List V} {ks : List ByteArray} {es : List E5} {j : Nat} {lp : Option Addr} {lc : Nat} {e : E5} {g cap : Nat} {o : Obj}
    (hlt : j < l.length) (hes : es.length = j)
    (d0 : wr.heap[W.heap.size]? = some (.cells #[.int .i64 k, .int .i64 n, .string s, L, K] 26 (0, 0)))
    (d1 : wr.heap[W.heap.size + 1]? = some (.cells #[.int .i64 0, .int .i64 0, .string ⟨#[]⟩, .slice none 0 0, .slice none 0 0] 26 (0, 0)))
    (d2 : wr.heap[W.heap.size + 2]? = some (.cells #[.int .i64 k, .int .i64 n, .string s, .slice lp j lc, K'] 26 (0, 0)))
    (hown : wr.ownsRow (W.heap.size + 3) 26 5 (.slice lp j lc) j (flat es))
    (hold : ∀ i (h : i < es.length) (h' : i < l.length), Holds (But (W.heap.size + 3) wr (Value.slice lp j lc).ownBlock) wr (agg5 es[i]) l[i])
    (hkeys : Texts (But (W.heap.size + 3) wr (Value.slice lp j lc).ownBlock) wr K' ks) (hbel : Below W.heap.size W wr)
    (hA : Holds (Mine wr.heap.size wA) wA (agg5 e) l[j]) (hbA : Below wr.heap.size wr wA)
    (hownB : wB.ownsRow (W.heap.size + 3) 26 5 (.slice (some ⟨g, 0, none⟩) (j + 1) cap) (j + 1) (flat es ++ cells5 e))
    (hgB : (wA.alloc o).grownBy wB (Value.slice lp j lc).ownBlock) (hat : (Value.slice lp j lc).ownBlock = some g ∨ g = wA.heap.size + 1) :
    OwnAt W k n s L K K' l ks (j + 1) (wB.setCell ⟨W.heap.size + 2, 3, none⟩ (.slice (some ⟨g, 0, none⟩) (j + 1) cap)) := by
  have h2lt : W.heap.size + 2 < wr.heap.size := (Array.getElem?_eq_some_iff.1 d2).1
  have rowge : ∀ r, (Value.slice lp j lc).ownBlock = some r → W.heap.size + 3 ≤ r ∧ r < wr.heap.size := fun r h => row_lt hown h
  have hAs := hbA.size
  -- what is older than the append lies as it lay
  have hB : ∀ b, b < wA.heap.size → some b ≠ (Value.slice lp j lc).ownBlock → wB.heap[b]? = wA.heap[b]? := fun b hb hne => by
    rw [hgB.block b (by simp; omega) hne, Go.heap_alloc_old _ _ hb]
  have hR : ∀ b, b < wr.heap.size → some b ≠ (Value.slice lp j lc).ownBlock → wB.heap[b]? = wr.heap[b]? := fun b hb hne => by
    rw [hB b (by omega) hne, hbA.block b hb]
  have hS : ∀ b, b ≠ W.heap.size + 2 → (wB.setCell ⟨W.heap.size + 2, 3, none⟩ (.slice (some ⟨g, 0, none⟩) (j + 1) cap)).heap[b]? = wB.heap[b]? := fun b hb => heap_setCell_other _ _ _ _ (by simpa using hb)
  have small : ∀ b, b < W.heap.size + 3 → some b ≠ (Value.slice lp j lc).ownBlock := fun b hb h => by have := (rowge b h.symm).1; omega
  have gne : ∀ b, b < wr.heap.size → some b ≠ (Value.slice lp j lc).ownBlock → some b ≠ some g := fun b hb hne h => by
    rcases hat with h1 | h1
    · exact hne (h.trans h1.symm)
    · have : b = g := by simpa using h
      omega
  have fr : ∀ t b off n, But (W.heap.size + 3) wr (Value.slice lp j lc).ownBlock t b off n → (wB.setCell ⟨W.heap.size + 2, 3, none⟩ (.slice (some ⟨g, 0, none⟩) (j + 1) cap)).heap[b]? = wr.heap[b]? := fun t b off n h => by
    rw [hS b (by have := h.1.1; omega), hR b h.1.lt h.2]
  have fr' : ∀ t b off n, But (W.heap.size + 3) wr (Value.slice lp j lc).ownBlock t b off n → But (W.heap.size + 3) (wB.setCell ⟨W.heap.size + 2, 3, none⟩ (.slice (some ⟨g, 0, none⟩) (j + 1) cap)) (some g) t b off n := fun t b off n h => by
    obtain ⟨⟨h1, h2, cur, h3⟩, h4⟩ := h
    exact ⟨⟨h1, h2, cur, by rw [fr t b off n ⟨⟨h1, h2, cur, h3⟩, h4⟩]; exact h3⟩, gne b (Array.getElem?_eq_some_iff.1 h3).1 h4⟩
  have rowA : ∀ b, wr.heap.size ≤ b → some b ≠ (Value.slice lp j lc).ownBlock := fun b hb h => by have := (rowge b h.symm).2; omega
  have frA : ∀ t b off n, Mine wr.heap.size wA t b off n → (wB.setCell ⟨W.heap.size + 2, 3, none⟩ (.slice (some ⟨g, 0, none⟩) (j + 1) cap)).heap[b]? = wA.heap[b]? := fun t b off n h => by
    rw [hS b (by have := h.1; omega), hB b h.lt (rowA b h.1)]
  have frA' : ∀ t b off n, Mine wr.heap.size wA t b off n → But (W.heap.size + 3) (wB.setCell ⟨W.heap.size + 2, 3, none⟩ (.slice (some ⟨g, 0, none⟩) (j + 1) cap)) (some g) t b off n := fun t b off n h => by
    have hlt' := h.lt
    have e1 := frA t b off n h
    obtain ⟨h1, h2, cur, h3⟩ := h
    refine ⟨⟨by omega, h2, cur, by rw [e1]; exact h3⟩, fun h => ?_⟩
    have hbg : b = g := by simpa using h
    rcases hat with h4 | h4
    · have := (rowge g h4).2; omega
    · omega
  have hgB2 : Below W.heap.size W wB := by
    refine (hbel.trans ((hbA.mono hbel.size))).trans ?_
    have := ((Below.refl W.heap.size wA).alloc (by have := hbel.size; omega) o)
    exact this.grown hgB (by simp; have := hbel.size; omega) (fun k hk => by have := (rowge k hk).1; omega)
  refine ⟨some ⟨g, 0, none⟩, cap, es ++ [e], by simp [hes], ?_, ?_, ?_, ?_, ?_, ?_, ?_⟩
  · rw [hS _ (by omega), hR _ (by omega) (small _ (by omega))]; exact d0
  · rw [hS _ (by omega), hR _ (by omega) (small _ (by omega))]; exact d1
  · have e2 : wB.heap[W.heap.size + 2]? = _ := (hR _ h2lt (small _ (by omega))).trans d2
    rw [heap_setCell_same _ _ _ _ _ _ e2]
    rfl
  · have hne : W.heap.size + 2 ≠ g := by
      rcases hat with h4 | h4
      · have := (rowge g h4).1; omega
      · omega
    rw [← flat_snoc]
    refine ⟨hownB.1, .inr ?_⟩
    rcases hownB.2 with ⟨h, _⟩ | ⟨g2, cap2, cur, hv, hb2, hh, r⟩
    · cases h
    · have : g2 = g := by simp at hv; omega
      exact ⟨g2, cap2, cur, hv, hb2, by rw [hS _ (by omega)]; exact hh, r⟩
  · intro i h h'
    rcases Nat.lt_or_ge i es.length with hi | hi
    · rw [List.getElem_append_left hi]
      exact (hold i hi h').frame fr fr'
    · have : i = es.length := by simp at h; omega
      subst this
      have e9 : (es ++ [e])[es.length]'h = e := by simp
      rw [e9]
      subst hes
      exact hA.frame frA frA'
  · exact hkeys.frame fr fr'
  · exact hgB2.setCell (p := ⟨W.heap.size + 2, 3, none⟩) (by simp) _

set_option maxHeartbeats 4000000 in
set_option maxRecDepth 100000 in
theorem own_c (N : Nat) (w : World) {a : Value} {x : V} (ha : Holds (Old N) w a x) : ∀ (W : World), N ≤ W.heap.size → Below N w W →
    Calls Tryz.prog 13 #[a] W (Owned x W) := by
  induction ha with
  | mk k n s p cap K l ks bl off c hr hp hc hK hl ih =>
    intro W hN hW
    obtain ⟨q, qc, qb, qo, rfl, hq1, hq2, hq3⟩ := hK
    generalize hW3 : (((W.alloc (.cells #[.int .i64 k, .int .i64 n, .string s, .slice p l.length cap, .slice q ks.length qc] 26)).alloc (.cells #[.int .i64 0, .int .i64 0, .string ⟨#[]⟩, .slice none 0 0, .slice none 0 0] 26)).alloc (.cells #[.int .i64 k, .int .i64 n, .string s, .slice none 0 0, .slice none 0 0] 26)) = W3
    have B3 : Below W.heap.size W W3 := by rw [← hW3]; exact (((Below.refl _ W).alloc (Nat.le_refl _) _).alloc (by simp) _).alloc (by simp; omega) _
    have Z3 : W3.heap.size = W.heap.size + 3 := by rw [← hW3]; simp
    have D0 : W3.heap[W.heap.size]? = some (.cells #[.int .i64 k, .int .i64 n, .string s, .slice p l.length cap, .slice q ks.length qc] 26 (0, 0)) := by
      rw [← hW3, Go.heap_alloc_old _ _ (by simp; omega), Go.heap_alloc_old _ _ (by simp), heap_alloc_new]
    have D1 : W3.heap[W.heap.size + 1]? = some (.cells #[.int .i64 0, .int .i64 0, .string ⟨#[]⟩, .slice none 0 0, .slice none 0 0] 26 (0, 0)) := by
      have := heap_alloc_new (W.alloc (.cells #[.int .i64 k, .int .i64 n, .string s, .slice p l.length cap, .slice q ks.length qc] 26)) (.cells #[.int .i64 0, .int .i64 0, .string ⟨#[]⟩, .slice none 0 0, .slice none 0 0] 26)
      rw [World.size_alloc] at this
      rw [← hW3, Go.heap_alloc_old _ _ (by simp), this]
    have D2 : W3.heap[W.heap.size + 2]? = some (.cells #[.int .i64 k, .int .i64 n, .string s, .slice none 0 0, .slice none 0 0] 26 (0, 0)) := by
      have := heap_alloc_new ((W.alloc (.cells #[.int .i64 k, .int .i64 n, .string s, .slice p l.length cap, .slice q ks.length qc] 26)).alloc (.cells #[.int .i64 0, .int .i64 0, .string ⟨#[]⟩, .slice none 0 0, .slice none 0 0] 26)) (.cells #[.int .i64 k, .int .i64 n, .string s, .slice none 0 0, .slice none 0 0] 26)
      rw [World.size_alloc, World.size_alloc] at this
      rw [← hW3]
      exact this
    obtain ⟨K', w1, hrun, hT, hb1⟩ := append_keys W3 24 q qc qb qo ks hq1 (fun h => (hq2 h).1) (fun i h => by
      rw [← hq3 i h]
      exact (B3.cell (p := ⟨qb, qo + i, none⟩) (show qb < _ from Nat.lt_of_lt_of_le (hq2 (by omega)).2 hN)).trans (hW.cell (p := ⟨qb, qo + i, none⟩) (show qb < _ from (hq2 (by omega)).2)))
    obtain ⟨q1, c1, b1, o1, rfl, t1, t2, t3⟩ := hT
    have HD := Lib.hid (And.intro B3 (And.intro Z3 (And.intro D0 (And.intro D1 D2))))
    have HT := Lib.hid (And.intro t1 (And.intro t2 (And.intro t3 hb1)))
    have HG := Lib.hid (And.intro hN hW)
    have HLS := Lib.hid (And.intro hp (And.intro hc hl))
    have HIH := Lib.hid ih
    have HR := Lib.hid hr
    have g4 : w1.cell? ⟨W.heap.size + 1 + 1, 4, none⟩ = some (.slice none 0 0) := by
      rw [hb1.cell (p := ⟨W.heap.size + 1 + 1, 4, none⟩) (show W.heap.size + 1 + 1 < _ by omega)]
      exact (cell_of_row W3 (W.heap.size + 2) 4 _ _ _ D2).trans rfl
    have fz4 : w1.frozen? ⟨W.heap.size + 1 + 1, 4, none⟩ = false := by
      rw [hb1.frozen (p := ⟨W.heap.size + 1 + 1, 4, none⟩) (show W.heap.size + 1 + 1 < _ by omega)]
      exact frozen_of_row W3 (W.heap.size + 2) 4 _ _ D2
    have H0 : Hid (OwnAt W k n s (.slice p l.length cap) (.slice q ks.length qc) (.slice q1 ks.length c1) l ks 0 (w1.setCell ⟨W.heap.size + 1 + 1, 4, none⟩ (.slice q1 ks.length c1))) := by
      have oth : ∀ b, b ≠ W.heap.size + 2 → (w1.setCell ⟨W.heap.size + 1 + 1, 4, none⟩ (.slice q1 ks.length c1)).heap[b]? = w1.heap[b]? := fun b hb => heap_setCell_other _ _ _ _ (by simpa using hb)
      refine ⟨none, 0, [], rfl, ?_, ?_, ?_, ⟨rfl, .inl ⟨rfl, rfl⟩⟩, fun i h => absurd h (by simp), ?_, ?_⟩
      · rw [oth _ (by omega), hb1.block _ (by omega)]; exact D0
      · rw [oth _ (by omega), hb1.block _ (by omega)]; exact D1
      · have e2 : w1.heap[W.heap.size + 2]? = _ := (hb1.block _ (by omega)).trans D2
        have e3 := heap_setCell_same w1 (W.heap.size + 2) 4 _ _ (.slice q1 ks.length c1) e2
        exact e3
      · refine Texts.frame (C := Mine W3.heap.size w1) (w := w1) ⟨q1, c1, b1, o1, rfl, t1, t2, t3⟩ (fun t b off n h => oth b (by have := h.1; omega)) (fun t b off n h => ?_)
        obtain ⟨h1, h2, cur, h3⟩ := h
        exact ⟨⟨by omega, h2, cur, by rw [oth b (by omega)]; exact h3⟩, by simp [Value.ownBlock]⟩
      · exact (B3.trans (hb1.mono (by omega))).setCell (p := ⟨W.heap.size + 1 + 1, 4, none⟩) (by simp; omega) _
    rw [← hW3] at hrun
    clear hW3 B3 Z3 D0 D1 D2 t1 t2 t3 hb1 hN hW hp hc hl ih hr hq2 hq3 hq1
    go_enter Tryz.func13, Tryz.ntmps13
    go_wp2_with (at_builtin; refine wpList_append_run rfl (.tmp 13) (.tmp 15) 24 rfl (.slice none 0 0) (.slice q ks.length qc) (.slice q1 ks.length c1) rfl rfl hrun ?_)
    clear hrun g4 fz4
    go_loopw [4] (fun i wr => ∃ j : Nat, j ≤ l.length ∧ i = .int .i64 j ∧ Hid (OwnAt W k n s (.slice p l.length cap) (.slice q ks.length qc) (.slice q1 ks.length c1) l ks j wr)) (fun i _ => l.length - (intOf i).toNat)
    case atStart => exact ⟨0, Nat.zero_le _, rfl, H0⟩
    case round =>
      obtain ⟨j, hj, rfl, hat⟩ := hrel
      clear H0
      obtain ⟨lp, lc, es, hes, d0, d1, d2, hown, hold, hkeys, hbel⟩ := hat.out
      have C3 : wr.cell? ⟨W.heap.size, 3, none⟩ = some (.slice p l.length cap) := (cell_of_row wr (W.heap.size) 3 _ _ _ d0).trans rfl
      by_cases hlt : j < l.length
      · have n0 : 0 < l.length := by omega
        obtain ⟨rfl, hbN⟩ := HLS.out.1 n0
        have hWr : N ≤ wr.heap.size := by have := HG.out.1; have := hbel.size; omega
        have hww : Below N w wr := HG.out.2.trans (hbel.mono HG.out.1)
        have hcs : ∀ i, i < 5 → wr.cell? ⟨bl, off + (j * 5 + i), none⟩ = some (c j i) := fun i hi => by rw [hww.cell (show bl < _ from hbN)]; exact HLS.out.2.1 j i hlt hi
        have e0 : wr.cell? ⟨bl, off + j * 5, none⟩ = some (c j 0) := hcs 0 (by omega)
        have e1 : wr.cell? ⟨bl, off + j * 5 + 1, none⟩ = some (c j 1) := hcs 1 (by omega)
        have e2 : wr.cell? ⟨bl, off + j * 5 + 2, none⟩ = some (c j 2) := hcs 2 (by omega)
        have e3 : wr.cell? ⟨bl, off + j * 5 + 3, none⟩ = some (c j 3) := hcs 3 (by omega)
        have e4 : wr.cell? ⟨bl, off + j * 5 + 4, none⟩ = some (c j 4) := hcs 4 (by omega)
        have hcall : Calls Tryz.prog 13 #[.agg #[c j 0, c j 1, c j 2, c j 3, c j 4]] wr.drew (Owned l[j] wr) := (HIH.out j hlt wr.drew hWr hww.drew).mono fun _ _ ⟨v, h1, h2, h3⟩ => ⟨v, h1, h2, ((Below.refl wr.heap.size wr).drew).trans h3⟩
        have x3 : wr.cell? ⟨W.heap.size + 1 + 1, 3, none⟩ = some (.slice lp j lc) := (cell_of_row wr (W.heap.size + 2) 3 _ _ _ d2).trans rfl
        have h1 : (0 : Int) ≤ (j : Int) := by omega
        have h2 : (j : Int) < (l.length : Int) := by omega
        clear hcs
        go_wp2_with fail
        obtain ⟨i0, hi, hz0, hz1, hz2⟩ := info_parts info_value
        have hmax : j + 1 ≤ maxLen := by unfold maxLen; have := HR.out.2.2.2.2.2; omega
        have hby : (j + 1) * 80 ≤ 140737488355328 := by have := HR.out.2.2.2.2.2; omega
        have HO := Lib.hid (And.intro hes (And.intro d0 (And.intro d1 (And.intro d2 (And.intro hown (And.intro hold (And.intro hkeys hbel)))))))
        clear d0 d1 d2 hown hold hkeys hbel hes hat hww hWr n0
        have hcell2 : ∀ wA, Below wr.heap.size wr wA → wA.cell? ⟨W.heap.size + 1 + 1, 3, none⟩ = some (.slice lp j lc) ∧ W.heap.size + 3 ≤ wA.heap.size + 1 ∧ W.heap.size + 1 + 1 < wA.heap.size := fun wA h => by
          have h2lt : W.heap.size + 2 < wr.heap.size := (Array.getElem?_eq_some_iff.1 HO.out.2.2.2.1).1
          have := h.size
          refine ⟨?_, by omega, by omega⟩
          rw [h.cell (p := ⟨W.heap.size + 1 + 1, 3, none⟩) (show W.heap.size + 1 + 1 < _ by omega)]
          exact x3
        have HC2 := Lib.hid hcell2
        clear hcell2
        go_region_law (first
          | (go_simp; go_at_call 13; refine hcall.mono ?_; rintro e wA ⟨v', rfl, hA, hbA⟩; obtain ⟨u0, u1, u2, u3, u4, rfl, hone⟩ := holds_five hA; obtain ⟨x3A, hbaseA, hltA⟩ := HC2.out wA hbA; have HA := Lib.hid (And.intro hA (And.intro hbA hone)); clear hA hbA hone)
          | (refine step_append_lies _ rfl (.tmp 26) (.tmp 33) 23 rfl (W.heap.size + 3) 26 i0 _ 5 80 Tryz.underlying23 hi hz0 hz1 hz2 rfl (by omega) (.slice lp j lc) j (flat es) (by simp [Act.eval]) ((own_kept HO.out.2.2.2.2.1 HA.out.2.1).alloc _) ⟨wA.heap.size, 0, none⟩ 1 1 [u0, u1, u2, u3, u4] (by simp [Act.eval]) rfl (World.news_of_block (heap_alloc_new wA _)) HA.out.2.2 (by omega) hmax hby (by simp; omega) (wA.heap.size + 1) (by simp) ?_; intro g cp wB hownB hgB hatB hltB; obtain ⟨xB, zB⟩ := own_far HO.out.2.2.2.1 HO.out.2.2.2.2.1 HA.out.2.1 hgB; have HB := Lib.hid (And.intro hownB (And.intro hgB hatB)); clear hownB hgB hatB hltB))
        all_goals
          obtain ⟨hownB, hgB, hatB⟩ := HB.out
          obtain ⟨hA, hbA, _⟩ := HA.out
          obtain ⟨hes, d0, d1, d2, hown, hold, hkeys, hbel⟩ := HO.out
          have HN : Hid (OwnAt W k n s (.slice (some ⟨bl, off, none⟩) l.length cap) (.slice q ks.length qc) (.slice q1 ks.length c1) l ks (j + 1) (wB.setCell ⟨W.heap.size + 2, 3, none⟩ (.slice (some ⟨g, 0, none⟩) (j + 1) cp))) :=
            own_next (e := (u0, u1, u2, u3, u4)) hlt hes d0 d1 d2 hown hold hkeys hbel hA hbA hownB hgB hatB
          clear hownB hgB hatB hA hbA hes d0 d1 d2 hown hold hkeys hbel
          go_wp2_with fail
          go_roundw
          case rel => exact ⟨j + 1, by omega, by go_num, HN⟩
          case measure => simp [intOf]; omega
      · have x0 : wr.cell? ⟨W.heap.size + 1 + 1, 0, none⟩ = some (.int .i64 k) := (cell_of_row wr (W.heap.size + 2) 0 _ _ _ d2).trans rfl
        have x1 : wr.cell? ⟨W.heap.size + 1 + 1, 1, none⟩ = some (.int .i64 n) := (cell_of_row wr (W.heap.size + 2) 1 _ _ _ d2).trans rfl
        have x2 : wr.cell? ⟨W.heap.size + 1 + 1, 2, none⟩ = some (.string s) := (cell_of_row wr (W.heap.size + 2) 2 _ _ _ d2).trans rfl
        have x3 : wr.cell? ⟨W.heap.size + 1 + 1, 3, none⟩ = some (.slice lp j lc) := (cell_of_row wr (W.heap.size + 2) 3 _ _ _ d2).trans rfl
        have x4 : wr.cell? ⟨W.heap.size + 1 + 1, 4, none⟩ = some (.slice q1 ks.length c1) := (cell_of_row wr (W.heap.size + 2) 4 _ _ _ d2).trans rfl
        have y0 : wr.cell? ⟨W.heap.size + 1, 0, none⟩ = some (.int .i64 0) := (cell_of_row wr (W.heap.size + 1) 0 _ _ _ d1).trans rfl
        have y1 : wr.cell? ⟨W.heap.size + 1, 1, none⟩ = some (.int .i64 0) := (cell_of_row wr (W.heap.size + 1) 1 _ _ _ d1).trans rfl
        have y2 : wr.cell? ⟨W.heap.size + 1, 2, none⟩ = some (.string ⟨#[]⟩) := (cell_of_row wr (W.heap.size + 1) 2 _ _ _ d1).trans rfl
        have y3 : wr.cell? ⟨W.heap.size + 1, 3, none⟩ = some (.slice none 0 0) := (cell_of_row wr (W.heap.size + 1) 3 _ _ _ d1).trans rfl
        have y4 : wr.cell? ⟨W.heap.size + 1, 4, none⟩ = some (.slice none 0 0) := (cell_of_row wr (W.heap.size + 1) 4 _ _ _ d1).trans rfl
        have z0 := frozen_of_row wr (W.heap.size + 1) 0 _ _ d1
        have z1 := frozen_of_row wr (W.heap.size + 1) 1 _ _ d1
        have z2 := frozen_of_row wr (W.heap.size + 1) 2 _ _ d1
        have z3 := frozen_of_row wr (W.heap.size + 1) 3 _ _ d1
        have z4 := frozen_of_row wr (W.heap.size + 1) 4 _ _ d1
        have hjl : j = l.length := by omega
        subst hjl
        have HE := Lib.hid (And.intro hes (And.intro hown (And.intro hold (And.intro hkeys hbel))))
        clear d0 d1 d2 hown hold hkeys hbel hes
        go_wp2_with fail
        refine bodyPost_ret (v := .agg #[.int .i64 k, .int .i64 n, .string s, .slice lp l.length lc, .slice q1 ks.length c1]) (by simp [results, Tryz.results13, go_sem, y0, y1, y2, y3, y4]) rfl ?_
        obtain ⟨hes, hown, hold, hkeys, hbel⟩ := HE.out
        refine own_end HR.out hes hown hold hkeys (fun b hb => ?_) ((((((hbel.setCell (p := ⟨W.heap.size + 1, 0, none⟩) (by simp) _).setCell (p := ⟨W.heap.size + 1, 1, none⟩) (by simp) _).setCell (p := ⟨W.heap.size + 1, 2, none⟩) (by simp) _).setCell (p := ⟨W.heap.size + 1, 3, none⟩) (by simp) _).setCell (p := ⟨W.heap.size + 1, 4, none⟩) (by simp) _))
        rw [heap_setCell_other _ _ _ _ (by simp; omega), heap_setCell_other _ _ _ _ (by simp; omega), heap_setCell_other _ _ _ _ (by simp; omega), heap_setCell_other _ _ _ _ (by simp; omega), heap_setCell_other _ _ _ _ (by simp; omega)]
end Go.Proofs.YtgfbednfiejlfaaGreatDoor.Val

/-
  A reader's lists and records that have begun, in memory: who owns which block.
-/
namespace Go.Proofs.YtgfbednfiejlfaaGreatDoor.Rd
open Go.RowKit Go.Proofs.YtgfbednfiejlfaaGreatDoor.Oct Go.Proofs.YtgfbednfiejlfaaGreatDoor.Val

/-- A list or a record that has begun: its Kind, its values, its keys. -/
structure Fr where
  kind : Int
  xs : List V
  ks : List ByteArray

/-- Memory of values that are whole: blocks of the call's own with the mark 0. -/
def Dn (N : Nat) (tag : Nat → Nat) (w : World) : Cond := fun t b off n => Mine N w t b off n ∧ tag b = 0

/-- One that has begun, as it lies: its list's block bears the mark 4 + 2i, its keys' 5 + 2i. -/
structure FrAt (N : Nat) (tag : Nat → Nat) (w : World) (i : Nat) (f : Fr) (e : E5) (L K : Value) (ys : List E5) : Prop where
  e : e = (.int .i64 f.kind, .int .i64 0, .string ⟨#[]⟩, L, K)
  kind : f.kind = 5 ∨ f.kind = 6
  rows : w.ownsRow N 26 5 L f.xs.length (flat ys)
  len : ys.length = f.xs.length
  vals : ∀ j (h : j < ys.length) (h' : j < f.xs.length), Holds (Dn N tag w) w (agg5 ys[j]) f.xs[j]
  mark : ∀ b, L.ownBlock = some b → tag b = 4 + 2 * i
  keys : w.ownsRow N 9 1 K f.ks.length (f.ks.map Value.string)
  kmark : ∀ b, K.ownBlock = some b → tag b = 5 + 2 * i
  small : ∀ s ∈ f.ks, s.size ≤ 140737488351232

/-- The reader, whole: its box bears the mark 2, the row of those that have begun 3; what is older, or not there yet, and callers' boxes 1. -/
structure RdAt (N : Nat) (tag : Nat → Nat) (w : World) (R : Nat) (s : List UInt8) (fs : List Fr) (deep : Nat) (ov : Value) (es : List E5) : Prop where
  rd : Rd R (S s) ov (.int .i64 deep) w
  own : w.ownsRow N 26 5 ov fs.length (flat es)
  len : es.length = fs.length
  frs : ∀ i (h : i < es.length) (h' : i < fs.length), ∃ L K ys, FrAt N tag w i fs[i] es[i] L K ys
  rmark : tag R = 2
  omark : ∀ b, ov.ownBlock = some b → tag b = 3
  out : ∀ b, b < N ∨ w.heap.size ≤ b → tag b = 1
  size : N ≤ w.heap.size

theorem own_at {w w' : World} {base n size : Nat} {e : TypeId} {v : Value} {xs : List Value} (h : w.ownsRow base e size v n xs) (hb : ∀ k, v.ownBlock = some k → w'.heap[k]? = w.heap[k]?) : w'.ownsRow base e size v n xs := by
  refine ⟨h.1, ?_⟩
  rcases h.2 with hn | ⟨g, cap, cur, hv, hbg, hg, rest⟩
  · exact .inl hn
  · exact .inr ⟨g, cap, cur, hv, hbg, by rw [hb g (by rw [hv]; rfl)]; exact hg, rest⟩
theorem own_lt {w : World} {base : Nat} {e : TypeId} {size n : Nat} {v : Value} {xs : List Value} (h : w.ownsRow base e size v n xs) {r : Nat} (hr : v.ownBlock = some r) : base ≤ r ∧ r < w.heap.size := by
  rcases h.2 with ⟨rfl, _⟩ | ⟨g, cap, cur, rfl, hb, hg, _⟩
  · simp [Value.ownBlock] at hr
  · simp [Value.ownBlock] at hr
    subst hr
    exact ⟨hb, (Array.getElem?_eq_some_iff.1 hg).1⟩

theorem Dn.lt {N : Nat} {tag : Nat → Nat} {w : World} {t : Bool} {b off n : Nat} (h : Dn N tag w t b off n) : b < w.heap.size := h.1.lt

theorem Dn.to {N : Nat} {tag tag' : Nat → Nat} {w w' : World} (hb : ∀ b, b < w.heap.size → tag b = 0 → w'.heap[b]? = w.heap[b]?) (ht : ∀ b, b < w.heap.size → tag b = 0 → tag' b = 0) :
    ∀ t b off n, Dn N tag w t b off n → Dn N tag' w' t b off n := fun t b off n h => by
  have hl := h.lt
  obtain ⟨⟨h1, h2, cur, h3⟩, h4⟩ := h
  exact ⟨⟨h1, h2, cur, by rw [hb b hl h4]; exact h3⟩, ht b hl h4⟩

/-- Values that are whole stay, where their blocks do. -/
theorem holds_dn {N : Nat} {tag tag' : Nat → Nat} {w w' : World} {v : Value} {x : V} (h : Holds (Dn N tag w) w v x) (hb : ∀ b, b < w.heap.size → tag b = 0 → w'.heap[b]? = w.heap[b]?) (ht : ∀ b, b < w.heap.size → tag b = 0 → tag' b = 0) : Holds (Dn N tag' w') w' v x :=
  h.frame (fun _ b _ _ hd => hb b hd.lt hd.2) (Dn.to hb ht)

theorem FrAt.frame {N : Nat} {tag tag' : Nat → Nat} {w w' : World} {i : Nat} {f : Fr} {e : E5} {L K : Value} {ys : List E5} (h : FrAt N tag w i f e L K ys)
    (hb : ∀ b, b < w.heap.size → (tag b = 0 ∨ tag b = 4 + 2 * i ∨ tag b = 5 + 2 * i) → w'.heap[b]? = w.heap[b]? ∧ tag' b = tag b) : FrAt N tag' w' i f e L K ys where
  e := h.e
  kind := h.kind
  rows := own_at h.rows fun k hk => (hb k (own_lt h.rows hk).2 (.inr (.inl (h.mark k hk)))).1
  len := h.len
  vals := fun j h1 h2 => holds_dn (h.vals j h1 h2) (fun b hl h0 => (hb b hl (.inl h0)).1) (fun b hl h0 => by rw [(hb b hl (.inl h0)).2]; exact h0)
  mark := fun b hk => by rw [(hb b (own_lt h.rows hk).2 (.inr (.inl (h.mark b hk)))).2]; exact h.mark b hk
  keys := own_at h.keys fun k hk => (hb k (own_lt h.keys hk).2 (.inr (.inr (h.kmark k hk)))).1
  kmark := fun b hk => by rw [(hb b (own_lt h.keys hk).2 (.inr (.inr (h.kmark b hk)))).2]; exact h.kmark b hk
  small := h.small

/-- What a reader's call leaves of all that is not its own. -/
structure Kp (tag tag' : Nat → Nat) (w w' : World) : Prop where
  os : w'.os = w.os
  tape : w'.tape = w.tape
  output : w'.output = w.output
  size : w.heap.size ≤ w'.heap.size
  block : ∀ b, b < w.heap.size → tag b ≤ 1 → w'.heap[b]? = w.heap[b]? ∧ tag' b = tag b

theorem Kp.refl (tag : Nat → Nat) (w : World) : Kp tag tag w w := ⟨rfl, rfl, rfl, Nat.le_refl _, fun _ _ _ => ⟨rfl, rfl⟩⟩
theorem Kp.trans {t1 t2 t3 : Nat → Nat} {a b c : World} (h : Kp t1 t2 a b) (k : Kp t2 t3 b c) : Kp t1 t3 a c :=
  ⟨k.os.trans h.os, k.tape.trans h.tape, k.output.trans h.output, Nat.le_trans h.size k.size, fun i hi ht => by
    obtain ⟨h1, h2⟩ := h.block i hi ht
    obtain ⟨k1, k2⟩ := k.block i (Nat.lt_of_lt_of_le hi h.size) (by rw [h2]; exact ht)
    exact ⟨k1.trans h1, k2.trans h2⟩⟩
theorem Kp.of {tag : Nat → Nat} {w w' : World} (h : Below w.heap.size w w') : Kp tag tag w w' := ⟨h.os, h.tape, h.output, h.size, fun b hb _ => ⟨h.block b hb, rfl⟩⟩
theorem Kp.save {tag : Nat → Nat} {R : Nat} {w w' : World} (hR : tag R = 2) (h : Save R w w') : Kp tag tag w w' :=
  ⟨h.os, h.tape, h.output, h.size, fun b hb ht => ⟨h.block b hb (fun e => by rw [e, hR] at ht; omega), rfl⟩⟩
theorem Kp.below {N : Nat} {tag tag' : Nat → Nat} {w w' : World} (h : Kp tag tag' w w') (hN : N ≤ w.heap.size) (ht : ∀ b, b < N → tag b = 1) : Below N w w' :=
  ⟨h.os, h.tape, h.output, h.size, fun k hk => (h.block k (by omega) (by rw [ht k hk]; exact Nat.le_refl _)).1⟩
theorem Bx.kp {tag tag' : Nat → Nat} {W W' : World} {q : Nat} {u0 u1 u2 u3 u4 : Value} (h : Bx W q u0 u1 u2 u3 u4) (hk : Kp tag tag' W W') (hq : tag q = 1) : Bx W' q u0 u1 u2 u3 u4 ∧ tag' q = 1 := by
  obtain ⟨h1, h2⟩ := hk.block q h.lt (by rw [hq]; exact Nat.le_refl _)
  exact ⟨by unfold Bx; rw [h1]; exact h, by rw [h2]; exact hq⟩

/-- The reader stays where nothing but callers' boxes changed. -/
theorem RdAt.frame {N : Nat} {tag : Nat → Nat} {w w' : World} {R : Nat} {s : List UInt8} {fs : List Fr} {deep : Nat} {ov : Value} {es : List E5} (h : RdAt N tag w R s fs deep ov es)
    (hs : w.heap.size ≤ w'.heap.size) (hb : ∀ b, b < w.heap.size → tag b ≠ 1 → w'.heap[b]? = w.heap[b]?) : RdAt N tag w' R s fs deep ov es where
  rd := by unfold Rd; rw [hb R h.rd.lt (by rw [h.rmark]; decide)]; exact h.rd
  own := own_at h.own fun k hk => hb k (own_lt h.own hk).2 (by rw [h.omark k hk]; decide)
  len := h.len
  frs := fun i h1 h2 => by
    obtain ⟨L, K, ys, hf⟩ := h.frs i h1 h2
    exact ⟨L, K, ys, hf.frame fun b hl ht => ⟨hb b hl (by rcases ht with h | h | h <;> omega), rfl⟩⟩
  rmark := h.rmark
  omark := h.omark
  out := fun b hb => h.out b (by omega)
  size := Nat.le_trans h.size hs
theorem RdAt.keep {N : Nat} {tag : Nat → Nat} {w w' : World} {R : Nat} {s : List UInt8} {fs : List Fr} {deep : Nat} {ov : Value} {es : List E5} (h : RdAt N tag w R s fs deep ov es) (hb : Below w.heap.size w w') : RdAt N tag w' R s fs deep ov es :=
  h.frame hb.size fun b hl _ => hb.block b hl
theorem RdAt.alloc {N : Nat} {tag : Nat → Nat} {w : World} {R : Nat} {s : List UInt8} {fs : List Fr} {deep : Nat} {ov : Value} {es : List E5} (h : RdAt N tag w R s fs deep ov es) (o : Obj) : RdAt N tag (w.alloc o) R s fs deep ov es :=
  h.keep ((Below.refl _ _).alloc (Nat.le_refl _) _)
theorem RdAt.st5 {N : Nat} {tag : Nat → Nat} {w : World} {R : Nat} {s : List UInt8} {fs : List Fr} {deep : Nat} {ov : Value} {es : List E5} (h : RdAt N tag w R s fs deep ov es) {q : Nat} (hq : tag q = 1) (v0 v1 v2 v3 v4 : Value) : RdAt N tag (Go.Proofs.YtgfbednfiejlfaaGreatDoor.Rd.st5 w q v0 v1 v2 v3 v4) R s fs deep ov es :=
  h.frame (by rw [st5_size]; exact Nat.le_refl _) fun b _ ht => st5_other w v0 v1 v2 v3 v4 (fun e => ht (by rw [e]; exact hq))
/-- What reads text alone leaves the rest as it is. -/
theorem RdAt.read {N : Nat} {tag : Nat → Nat} {w w' : World} {R : Nat} {s t : List UInt8} {fs : List Fr} {deep : Nat} {ov : Value} {es : List E5} (h : RdAt N tag w R s fs deep ov es) (hr : Rd R (S t) ov (.int .i64 deep) w') (hs : Save R w w') : RdAt N tag w' R t fs deep ov es where
  rd := hr
  own := own_at h.own fun k hk => hs.block k (own_lt h.own hk).2 (fun e => by have := h.omark k hk; rw [e, h.rmark] at this; omega)
  len := h.len
  frs := fun i h1 h2 => by
    obtain ⟨L, K, ys, hf⟩ := h.frs i h1 h2
    exact ⟨L, K, ys, hf.frame fun b hl ht => ⟨hs.block b hl (fun e => by rw [e, h.rmark] at ht; omega), rfl⟩⟩
  rmark := h.rmark
  omark := h.omark
  out := fun b hb => h.out b (by have := hs.size; omega)
  size := Nat.le_trans h.size hs.size
end Go.Proofs.YtgfbednfiejlfaaGreatDoor.Rd

/-
  Contracts of values.cloned, at texts and at values, and of values.Clone: a value in memory of its own, which reads as the same tree.
-/
namespace Go.Proofs.YtgfbednfiejlfaaGreatDoor.Val
open Go.RowKit Go.Proofs.YtgfbednfiejlfaaGreatDoor.Oct

/-- A slice held against nil. -/
theorem eql_nil {t e : TypeId} (w : World) (a : Option Addr) (l c : Nat) (h : Tryz.prog.underlying t = some (.slice e)) : (binOp .eql t (.slice a l c) (.slice none 0 0)).run Tryz.prog w = .ok (.bool a.isNone) w := by
  have hd : ∀ d : Nat, (Op.equalIn (d + 1) t (.slice a l c) (.slice none 0 0)).run Tryz.prog w = .ok a.isNone w := fun d => by
    cases a <;> simp [Op.equalIn, run_underlying h]
  simp only [binOp]
  simp [Op.equal, Op.maxDepth, hd 9999]

/-- The cells behind k rounds. -/
def textsAt (ks : List ByteArray) (k : Nat) : List Value := (ks.take k).map Value.string ++ List.replicate (ks.length - k) (Value.string ⟨#[]⟩)
theorem textsAt_zero (ks : List ByteArray) : textsAt ks 0 = List.replicate ks.length (Value.string ⟨#[]⟩) := by simp [textsAt]
theorem textsAt_succ (ks : List ByteArray) (k : Nat) (h : k < ks.length) : (textsAt ks k).set k (Value.string ks[k]) = textsAt ks (k + 1) := by
  unfold textsAt
  have e : ks.length - k = (ks.length - (k + 1)) + 1 := by omega
  rw [e, List.replicate_succ, List.set_append_right _ _ (by simp; omega)]
  have e2 : k - ((ks.take k).map Value.string).length = 0 := by simp; omega
  rw [e2, List.set_cons_zero, List.take_succ_eq_append_getElem h, List.map_append, List.map_singleton, List.append_assoc, List.singleton_append]
theorem textsAt_at (ks : List ByteArray) (k : Nat) (h : k < ks.length) : (textsAt ks k)[k]? = some (Value.string ⟨#[]⟩) := by
  unfold textsAt
  rw [List.getElem?_append_right (by simp; omega), List.getElem?_replicate, if_pos (by simp; omega)]
theorem textsAt_full (ks : List ByteArray) (j : Nat) (h : j < ks.length) : (textsAt ks ks.length)[j]? = some (Value.string ks[j]) := by
  simp [textsAt, h]

end Go.Proofs.YtgfbednfiejlfaaGreatDoor.Val

/-
  Contracts of values.cloned at values and of values.Clone: a value in memory of its own, which reads as the same tree.
-/
namespace Go.Proofs.YtgfbednfiejlfaaGreatDoor.Val
open Go.RowKit Go.Proofs.YtgfbednfiejlfaaGreatDoor.Oct

/-- A slice of values reads as l. -/
def Vals (C : Cond) (w : World) (v : Value) (l : List V) : Prop :=
  ∃ (p : Option Addr) (cap b off : Nat) (c : Nat → Nat → Value), v = .slice p l.length cap ∧ (0 < l.length → p = some ⟨b, off, none⟩ ∧ C false b off l.length) ∧
    (∀ i j, i < l.length → j < 5 → w.cell? ⟨b, off + (i * 5 + j), none⟩ = some (c i j)) ∧ ∀ i (h : i < l.length), Holds C w (.agg #[c i 0, c i 1, c i 2, c i 3, c i 4]) l[i]

theorem Vals.frame {C C' : Cond} {w w' : World} {v : Value} {l : List V} (h : Vals C w v l) (hC : ∀ t b off n, C t b off n → w'.heap[b]? = w.heap[b]?) (hC' : ∀ t b off n, C t b off n → C' t b off n) : Vals C' w' v l := by
  obtain ⟨p, cap, b, off, c, h1, h2, h3, h4⟩ := h
  refine ⟨p, cap, b, off, c, h1, fun h0 => ⟨(h2 h0).1, hC' _ _ _ _ (h2 h0).2⟩, fun i j hi hj => ?_, fun i hi => (h4 i hi).frame hC hC'⟩
  have := hC _ _ _ _ (h2 (by omega)).2
  rw [← h3 i j hi hj]
  simp [World.cell?, this]

theorem Vals.form {C : Cond} {w : World} {v : Value} {l : List V} (h : Vals C w v l) : ∃ p cap, v = .slice p l.length cap := by
  obtain ⟨p, cap, b, off, c, h1, _⟩ := h
  exact ⟨p, cap, h1⟩
theorem Texts.form {C : Cond} {w : World} {v : Value} {ks : List ByteArray} (h : Texts C w v ks) : ∃ p cap, v = .slice p ks.length cap := by
  obtain ⟨p, cap, b, off, h1, _⟩ := h
  exact ⟨p, cap, h1⟩

theorem flat_set (es : List E5) (k : Nat) (e : E5) (h : k < es.length) :
    (((((flat es).set (k * 5) e.1).set (k * 5 + 1) e.2.1).set (k * 5 + 2) e.2.2.1).set (k * 5 + 3) e.2.2.2.1).set (k * 5 + 4) e.2.2.2.2 = flat (es.set k e) := by
  induction es generalizing k with
  | nil => cases h
  | cons x es ih =>
    have ef : ∀ y (t : List E5), flat (y :: t) = cells5 y ++ flat t := fun _ _ => rfl
    rw [ef]
    cases k with
    | zero => rw [List.set_cons_zero, ef]; rfl
    | succ k =>
      rw [List.set_cons_succ, ef, ← ih k (by simpa using h)]
      have e0 : ∀ j, (k + 1) * 5 + j = 5 + (k * 5 + j) := fun j => by omega
      have e1 : (k + 1) * 5 = 5 + k * 5 := by omega
      have s1 : ∀ (t : List Value) (j : Nat) (u : Value), (cells5 x ++ t).set (5 + j) u = cells5 x ++ t.set j u := fun t j u => by
        rw [List.set_append_right _ _ (by simp)]
        congr 2
        simp
      rw [e1, s1, ← e1, e0 1, s1, e0 2, s1, e0 3, s1, e0 4, s1]

abbrev zero5 : E5 := (.int .i64 0, .int .i64 0, .string ⟨#[]⟩, .slice none 0 0, .slice none 0 0)
theorem flat_zero (n : Nat) : (madeCells #[.int .i64 0, .int .i64 0, .string ⟨#[]⟩, .slice none 0 0, .slice none 0 0] (n * 5)).toList = flat (List.replicate n zero5) := by
  apply List.ext_getElem?
  intro j
  by_cases hj : j < n * 5
  · have h1 := flat_at (List.replicate n zero5) (j / 5) (j % 5) (by simp; omega) (by omega)
    rw [show j / 5 * 5 + j % 5 = j by omega] at h1
    rw [h1, List.getElem_replicate]
    simp only [madeCells, Array.toList_map, Array.toList_range, List.getElem?_map, List.getElem?_range hj, Option.map_some]
    have h5 : j % 5 < 5 := by omega
    show some (#[Value.int .i64 0, .int .i64 0, .string ⟨#[]⟩, .slice none 0 0, .slice none 0 0][j % 5]!) = _
    match h : j % 5, h5 with
    | 0, _ => rfl
    | 1, _ => rfl
    | 2, _ => rfl
    | 3, _ => rfl
    | 4, _ => rfl
  · rw [List.getElem?_eq_none (by simp [madeCells]; omega), List.getElem?_eq_none (by rw [flat_len]; simp; omega)]

theorem holds_agg {C : Cond} {w : World} {v : Value} {x : V} (h : Holds C w v x) : ∃ k n s p a b q c d, v = .agg #[.int .i64 k, .int .i64 n, .string s, .slice p a b, .slice q c d] := by
  cases h with
  | mk k n s p cap K l ks b off c hr hp hc hK hl =>
    obtain ⟨q, qc, qb, qo, rfl, _⟩ := hK
    exact ⟨k, n, s, p, _, _, q, _, _, rfl⟩
theorem holds_parts {C : Cond} {w : World} {u0 u1 u2 u3 u4 : Value} {x : V} (h : Holds C w (.agg #[u0, u1, u2, u3, u4]) x) : ∃ k n s p a b q c d, u0 = .int .i64 k ∧ u1 = .int .i64 n ∧ u2 = .string s ∧ u3 = .slice p a b ∧ u4 = .slice q c d := by
  obtain ⟨k, n, s, p, a, b, q, c, d, e⟩ := holds_agg h
  simp only [Value.agg.injEq, Array.mk.injEq, List.cons.injEq, and_true] at e
  exact ⟨k, n, s, p, a, b, q, c, d, e⟩

/-- What holds between two rounds of cloned. -/
def ClonedAt (w : World) (l : List V) (k : Nat) (wr : World) : Prop :=
  ∃ es : List E5, es.length = l.length ∧ wr.ownsRow w.heap.size 26 5 (.slice (some ⟨w.heap.size, 0, none⟩) l.length l.length) l.length (flat es) ∧
    (∀ i (_ : i < k) (h1 : i < es.length) (h2 : i < l.length), Holds (But w.heap.size wr (some w.heap.size)) wr (agg5 es[i]) l[i]) ∧ Below w.heap.size w wr

abbrev put5 (w : World) (g k : Nat) (e : E5) : World :=
  ((((w.setCell ⟨g, k * 5, none⟩ e.1).setCell ⟨g, k * 5 + 1, none⟩ e.2.1).setCell ⟨g, k * 5 + 2, none⟩ e.2.2.1).setCell ⟨g, k * 5 + 3, none⟩ e.2.2.2.1).setCell ⟨g, k * 5 + 4, none⟩ e.2.2.2.2

theorem cloned_next {w wr w' : World} {l : List V} {k : Nat} {o : Obj} {e : E5} (h : ClonedAt w l k wr) (hk : k < l.length) (hb : Below (wr.alloc o).heap.size (wr.alloc o) w') (hA : Holds (Mine (wr.alloc o).heap.size w') w' (agg5 e) l[k]) :
    ClonedAt w l (k + 1) (put5 w' w.heap.size k e) := by
  obtain ⟨es, hes, hown, hold, hbel⟩ := h
  have hg : w.heap.size < wr.heap.size := (hown.lt w.heap.size rfl).2
  have zs : (wr.alloc o).heap.size = wr.heap.size + 1 := by simp
  have h1 := own_kept (hown.alloc o) hb
  have s5 := ((((h1.stored (k * 5) e.1).1.stored (k * 5 + 1) e.2.1).1.stored (k * 5 + 2) e.2.2.1).1.stored (k * 5 + 3) e.2.2.2.1).1.stored (k * 5 + 4) e.2.2.2.2
  have oth : ∀ b, b ≠ w.heap.size → (put5 w' w.heap.size k e).heap[b]? = w'.heap[b]? := fun b hne => by
    rw [heap_setCell_other _ _ _ _ (by simpa using hne), heap_setCell_other _ _ _ _ (by simpa using hne), heap_setCell_other _ _ _ _ (by simpa using hne), heap_setCell_other _ _ _ _ (by simpa using hne), heap_setCell_other _ _ _ _ (by simpa using hne)]
  have old : ∀ b, b < wr.heap.size → w'.heap[b]? = wr.heap[b]? := fun b hlt => by
    rw [hb.block b (by omega), Go.heap_alloc_old _ _ hlt]
  refine ⟨es.set k e, by simp [hes], ?_, fun i hi h1' h2 => ?_, ?_⟩
  · rw [← flat_set es k e (by omega)]
    exact s5.1
  · rcases Nat.lt_or_ge i k with hlt | hge
    · have e1 : (es.set k e)[i]'h1' = es[i]'(by omega) := by rw [List.getElem_set_ne (by omega)]
      rw [e1]
      refine (hold i hlt (by omega) h2).frame (fun t b off n hB => ?_) (fun t b off n hB => ?_)
      · rw [oth b (fun h => hB.2 (by rw [h])), old b hB.1.lt]
      · have hne : b ≠ w.heap.size := fun h => hB.2 (by rw [h])
        obtain ⟨⟨c1, c2, cur, c3⟩, c4⟩ := hB
        exact ⟨⟨c1, c2, cur, by rw [oth b hne, old b (Array.getElem?_eq_some_iff.1 c3).1]; exact c3⟩, c4⟩
    · have e0 : i = k := by omega
      subst e0
      have e1 : (es.set i e)[i]'h1' = e := by simp
      rw [e1]
      refine hA.frame (fun t b off n hB => oth b (by have := hB.1; omega)) (fun t b off n hB => ?_)
      have hne : b ≠ w.heap.size := by have := hB.1; omega
      obtain ⟨c1, c2, cur, c3⟩ := hB
      exact ⟨⟨by omega, c2, cur, by rw [oth b hne]; exact c3⟩, by simpa using hne⟩
  · have hb0 : Below w.heap.size w w' := (hbel.alloc (by omega) o).trans (hb.mono (by omega))
    exact ((((hb0.setCell (p := ⟨w.heap.size, k * 5, none⟩) (by simp) _).setCell (p := ⟨w.heap.size, k * 5 + 1, none⟩) (by simp) _).setCell (p := ⟨w.heap.size, k * 5 + 2, none⟩) (by simp) _).setCell (p := ⟨w.heap.size, k * 5 + 3, none⟩) (by simp) _).setCell (p := ⟨w.heap.size, k * 5 + 4, none⟩) (by simp) _

theorem cloned_end {w wr : World} {l : List V} (h : ClonedAt w l l.length wr) : Vals (Mine w.heap.size wr) wr (.slice (some ⟨w.heap.size, 0, none⟩) l.length l.length) l := by
  obtain ⟨es, hes, hown, hold, hbel⟩ := h
  refine ⟨_, l.length, w.heap.size, 0, fun i j => ((flat es)[i * 5 + j]?).getD undef, rfl, fun _ => ⟨rfl, Nat.le_refl _, rfl, ?_⟩, fun i j hi hj => ?_, fun i hi => ?_⟩
  · rcases hown.2 with ⟨h, _⟩ | ⟨g2, cap2, cur, hv, hb2, hh, _⟩
    · cases h
    · have e1 : g2 = w.heap.size := by simp at hv; omega
      subst e1
      exact ⟨cur, hh⟩
  · have h3 := hown.cellAt (i * 5 + j) (by omega)
    have : i * 5 + j < (flat es).length := by rw [flat_len, hes]; omega
    show wr.cell? ⟨w.heap.size, 0 + (i * 5 + j), none⟩ = some (((flat es)[i * 5 + j]?).getD undef)
    rw [List.getElem?_eq_getElem this] at h3 ⊢
    rw [Nat.zero_add]
    exact h3
  · have h1 := (hold i hi (by omega) hi).frame (C' := Mine w.heap.size wr) (fun _ _ _ _ _ => rfl) (fun _ _ _ _ h => h.1)
    have e : ∀ j, j < 5 → ((flat es)[i * 5 + j]?).getD undef = ((cells5 (es[i]'(by omega)))[j]?).getD undef := fun j hj => by rw [flat_at es i j (by omega) hj]
    show Holds _ _ (.agg #[((flat es)[i * 5 + 0]?).getD undef, ((flat es)[i * 5 + 1]?).getD undef, ((flat es)[i * 5 + 2]?).getD undef, ((flat es)[i * 5 + 3]?).getD undef, ((flat es)[i * 5 + 4]?).getD undef]) _
    rw [e 0 (by omega), e 1 (by omega), e 2 (by omega), e 3 (by omega), e 4 (by omega)]
    exact h1
end Go.Proofs.YtgfbednfiejlfaaGreatDoor.Val

/-
  Contracts of the reader's innermost and put.
-/
namespace Go.Proofs.YtgfbednfiejlfaaGreatDoor.Rd
open Go.RowKit Go.Proofs.YtgfbednfiejlfaaGreatDoor.Oct Go.Proofs.YtgfbednfiejlfaaGreatDoor.Val

/-- The row of those that have begun, where there is one. -/
theorem RdAt.row {N : Nat} {tag : Nat → Nat} {w : World} {R : Nat} {s : List UInt8} {fs : List Fr} {deep : Nat} {ov : Value} {es : List E5} (h : RdAt N tag w R s fs deep ov es) (hn : 0 < fs.length) :
    ∃ g cap, ov = .slice (some ⟨g, 0, none⟩) fs.length cap ∧ tag g = 3 := by
  rcases h.own.2 with ⟨_, h0⟩ | ⟨g, cap, cur, hv, _⟩
  · omega
  · exact ⟨g, cap, hv, h.omark g (by rw [hv]; rfl)⟩

set_option maxHeartbeats 1000000 in
theorem innermost_c (R g m cap : Nat) (s : ByteArray) (dv : Value) (w : World) (hm : m + 1 ≤ 4611686018427387904) (h : Rd R s (.slice (some ⟨g, 0, none⟩) (m + 1) cap) dv w) :
    Calls Tryz.prog 62 #[.pointer (some ⟨R, 0, none⟩)] w fun e w' => e = .returned (.pointer (some ⟨g, m * 5, none⟩)) ∧ Below w.heap.size w w' := by
  have c1 := h.cell1
  have e1 : IntKind.i64.wrap ((m : Int) + 1 - 1) = (m : Int) := by rw [IntKind.wrap_i64]; omega
  have h0 : (0 : Int) ≤ (m : Int) := by omega
  have h1 : (m : Int) < (m : Int) + 1 := by omega
  clear h
  go_enter Tryz.func62, Tryz.ntmps62
  go_wp2_with fail
  go_quiet (fail)
  rename_i nq _
  go_wp2
  go_ret
  exact ⟨rfl, below_drewN (Below.refl _ _) _⟩

theorem slot_set {es : List E5} {m i : Nat} (hm : m < es.length) (hi : i < 5) (v : Value) : (flat es).set (m * 5 + i) v = flat (es.set m (match i with | 0 => (v, (es[m]).2) | 1 => (es[m].1, v, es[m].2.2) | 2 => (es[m].1, es[m].2.1, v, es[m].2.2.2) | 3 => (es[m].1, es[m].2.1, es[m].2.2.1, v, es[m].2.2.2.2) | _ => (es[m].1, es[m].2.1, es[m].2.2.1, es[m].2.2.2.1, v))) := by
  induction es generalizing m with
  | nil => cases hm
  | cons x es ih =>
    have ef : ∀ y (t : List E5), flat (y :: t) = cells5 y ++ flat t := fun _ _ => rfl
    cases m with
    | zero =>
      rw [ef, List.set_cons_zero, ef, Nat.zero_mul, Nat.zero_add]
      match i, hi with
      | 0, _ => rfl
      | 1, _ => rfl
      | 2, _ => rfl
      | 3, _ => rfl
      | 4, _ => rfl
    | succ m =>
      have hm' : m < es.length := by simpa using hm
      rw [ef, show (m + 1) * 5 + i = 5 + (m * 5 + i) by omega, List.set_append_right _ _ (by simp), List.set_cons_succ, ef]
      have e1 : 5 + (m * 5 + i) - (cells5 x).length = m * 5 + i := by simp
      rw [e1, ih hm']
      rfl

theorem slot_at {es : List E5} {m i : Nat} (hm : m < es.length) (hi : i < 5) {W : World} {N n : Nat} {ov : Value} {g : Nat} (h : W.ownsRow N 26 5 ov n (flat es)) (hg : ov.ownBlock = some g) (hn : es.length = n) (hov : ∃ cap, ov = .slice (some ⟨g, 0, none⟩) n cap) : W.cell? ⟨g, m * 5 + i, none⟩ = (cells5 es[m])[i]? := by
  obtain ⟨cap, rfl⟩ := hov
  rw [h.cellAt (m * 5 + i) (by omega), flat_at es m i hm hi]

/-- The block that put's append leaves is another than the row of those that have begun. -/
theorem put_ne {N : Nat} {tag : Nat → Nat} {W : World} {R : Nat} {s : List UInt8} {fs : List Fr} {deep : Nat} {ov : Value} {es : List E5} (h : RdAt N tag W R s fs deep ov es)
    {g0 cap0 n0 i : Nat} (hov : ov = .slice (some ⟨g0, 0, none⟩) n0 cap0) {f : Fr} {L K : Value} {ys : List E5} {e : E5} (hf : FrAt N tag W i f e L K ys) {g H : Nat} (hat : L.ownBlock = some g ∨ g = H) (hH : W.heap.size ≤ H) : ¬ g = g0 ∧ ¬ g0 = g := by
  have h2 := h.omark g0 (by rw [hov]; rfl)
  have h3 := (own_lt h.own (r := g0) (by rw [hov]; rfl)).2
  have : g ≠ g0 := by
    rintro rfl
    rcases hat with h1 | h1
    · have := hf.mark _ h1; omega
    · omega
  exact ⟨this, Ne.symm this⟩

/-- Behind put's append: what its two stores want. -/
theorem put_facts {N : Nat} {tag : Nat → Nat} {W wB : World} {R : Nat} {s : List UInt8} {fs : List Fr} {f : Fr} {deep : Nat} {ov : Value} {es : List E5} (h : RdAt N tag W R s (fs ++ [f]) deep ov es)
    {g0 cap0 : Nat} (hov : ov = .slice (some ⟨g0, 0, none⟩) (fs ++ [f]).length cap0) {L K : Value} {ys : List E5} {e : E5} (hf : FrAt N tag W fs.length f e L K ys) (he : ∀ h', es[fs.length]'h' = e) {o : Obj} {g cap : Nat}
    (hown : wB.ownsRow N 26 5 (.slice (some ⟨g, 0, none⟩) (f.xs.length + 1) cap) (f.xs.length + 1) (flat ys ++ cells5 zero5)) (hg : (W.alloc o).grownBy wB L.ownBlock) :
    (wB.cell? ⟨g, f.xs.length * 5, none⟩ = some (.int .i64 0) ∧ wB.cell? ⟨g, f.xs.length * 5 + 1, none⟩ = some (.int .i64 0) ∧ wB.cell? ⟨g, f.xs.length * 5 + 2, none⟩ = some (.string ⟨#[]⟩) ∧ wB.cell? ⟨g, f.xs.length * 5 + 3, none⟩ = some (.slice none 0 0) ∧ wB.cell? ⟨g, f.xs.length * 5 + 4, none⟩ = some (.slice none 0 0)) ∧
    (wB.frozen? ⟨g, f.xs.length * 5, none⟩ = false ∧ wB.frozen? ⟨g, f.xs.length * 5 + 1, none⟩ = false ∧ wB.frozen? ⟨g, f.xs.length * 5 + 2, none⟩ = false ∧ wB.frozen? ⟨g, f.xs.length * 5 + 3, none⟩ = false ∧ wB.frozen? ⟨g, f.xs.length * 5 + 4, none⟩ = false) ∧
    wB.cell? ⟨g0, fs.length * 5 + 3, none⟩ = some L ∧ wB.frozen? ⟨g0, fs.length * 5 + 3, none⟩ = false := by
  have hl : (flat ys).length = f.xs.length * 5 := by rw [flat_len, hf.len]
  have hc : ∀ i, i < 5 → wB.cell? ⟨g, f.xs.length * 5 + i, none⟩ = (cells5 zero5)[i]? := fun i hi => by
    rw [hown.cellAt (f.xs.length * 5 + i) (by omega), List.getElem?_append_right (by omega), hl]
    congr 1
    omega
  have hz : ∀ i, wB.frozen? ⟨g, i, none⟩ = false := fun i => hown.frozenAt i
  have hfl : (fs ++ [f]).length = fs.length + 1 := by simp
  have hg0 : g0 < W.heap.size := (own_lt h.own (r := g0) (by rw [hov]; rfl)).2
  have hblk : wB.heap[g0]? = W.heap[g0]? := by
    rw [hg.block g0 (by simp; omega) (fun e => by have h1 := hf.mark g0 e.symm; have h2 := h.omark g0 (by rw [hov]; rfl); omega), Go.heap_alloc_old _ _ hg0]
  have hown0 : wB.ownsRow N 26 5 ov (fs ++ [f]).length (flat es) := own_at h.own fun k hk => by
    rw [hov] at hk
    have : k = g0 := by injection hk with hk; exact hk.symm
    rw [this]; exact hblk
  refine ⟨⟨hc 0 (by omega), hc 1 (by omega), hc 2 (by omega), hc 3 (by omega), hc 4 (by omega)⟩, ⟨hz _, hz _, hz _, hz _, hz _⟩, ?_, ?_⟩
  · rw [slot_at (es := es) (m := fs.length) (by rw [h.len]; omega) (by omega) hown0 (by rw [hov]; rfl) h.len ⟨cap0, hov⟩, he, hf.e]
    rfl
  · rw [hov] at hown0
    exact hown0.frozenAt _

theorem put_done {N : Nat} {tag : Nat → Nat} {W wB Z : World} {R : Nat} {s : List UInt8} {fs : List Fr} {f : Fr} {deep : Nat} {ov : Value} {es : List E5} (h : RdAt N tag W R s (fs ++ [f]) deep ov es)
    {g0 cap0 : Nat} (hov : ov = .slice (some ⟨g0, 0, none⟩) (fs ++ [f]).length cap0) {L K : Value} {ys : List E5} {e : E5} (hf : FrAt N tag W fs.length f e L K ys) {u : E5} {x : V} (hx : Holds (Dn N tag W) W (agg5 u) x) {o : Obj} {g cap : Nat}
    (hg : (W.alloc o).grownBy wB L.ownBlock) (hat : L.ownBlock = some g ∨ g = W.heap.size + 1) (hlt : g < wB.heap.size)
    (hZ1 : ∀ b, b ≠ g → b ≠ g0 → Z.heap[b]? = wB.heap[b]?) (hZs : Z.heap.size = wB.heap.size ∧ Z.os = wB.os ∧ Z.tape = wB.tape ∧ Z.output = wB.output)
    (hZg : Z.ownsRow N 26 5 (.slice (some ⟨g, 0, none⟩) (f.xs.length + 1) cap) (f.xs.length + 1) (flat (ys ++ [u])))
    (hZ0 : Z.ownsRow N 26 5 ov (fs ++ [f]).length (flat (es.set fs.length (.int .i64 f.kind, .int .i64 0, .string ⟨#[]⟩, .slice (some ⟨g, 0, none⟩) (f.xs.length + 1) cap, K)))) :
    ∃ tag' ov' es', RdAt N tag' Z R s (fs ++ [{ f with xs := f.xs ++ [x] }]) deep ov' es' ∧ Kp tag tag' W Z := by
  have hg3 := h.omark g0 (by rw [hov]; rfl)
  have hsz : W.heap.size + 1 ≤ wB.heap.size := by have := hg.size; simp at this; exact this
  have hgm : W.heap.size ≤ g ∨ tag g = 4 + 2 * fs.length := by
    rcases hat with h1 | h1
    · exact .inr (hf.mark _ h1)
    · exact .inl (by omega)
  have hgN : N ≤ g := by
    rcases hat with h1 | h1
    · exact (own_lt hf.rows h1).1
    · have := h.size; omega
  have hne : ∀ b, b < W.heap.size → tag b ≠ 4 + 2 * fs.length → b ≠ g := fun b hb ht e => by
    subst e
    rcases hgm with h1 | h1
    · omega
    · exact ht h1
  have hW : ∀ b, b < W.heap.size → tag b ≠ 4 + 2 * fs.length → tag b ≠ 3 → Z.heap[b]? = W.heap[b]? := fun b hb h4 h3 => by
    rw [hZ1 b (hne b hb h4) (fun e => h3 (by rw [e]; exact hg3)), hg.block b (by simp; omega) (fun e => h4 (hf.mark b e.symm)), Go.heap_alloc_old _ _ hb]
  have hT : ∀ b, b < W.heap.size → tag b ≠ 4 + 2 * fs.length → (if b = g then 4 + 2 * fs.length else tag b) = tag b := fun b hb h4 => if_neg (hne b hb h4)
  have hlen : es.length = fs.length + 1 := by rw [h.len]; simp
  have hd : ∀ v y, Holds (Dn N tag W) W v y → Holds (Dn N (fun b => if b = g then 4 + 2 * fs.length else tag b) Z) Z v y := fun v y hv =>
    holds_dn hv (fun b hb h0 => hW b hb (by omega) (by omega)) (fun b hb h0 => by rw [hT b hb (by omega)]; exact h0)
  refine ⟨fun b => if b = g then 4 + 2 * fs.length else tag b, ov, es.set fs.length (.int .i64 f.kind, .int .i64 0, .string ⟨#[]⟩, .slice (some ⟨g, 0, none⟩) (f.xs.length + 1) cap, K), ?_, ?_⟩
  · refine ⟨?_, ?_, ?_, ?_, ?_, ?_, ?_, ?_⟩
    · unfold Rd; rw [hW R h.rd.lt (by rw [h.rmark]; omega) (by rw [h.rmark]; omega)]; exact h.rd
    · have e1 : (fs ++ [{ f with xs := f.xs ++ [x] }]).length = (fs ++ [f]).length := by simp
      rw [e1]; exact hZ0
    · simp [hlen]
    · intro i h1 h2
      rcases Nat.lt_or_ge i fs.length with hi | hi
      · have e1 : (es.set fs.length (Value.int .i64 f.kind, Value.int .i64 0, Value.string ⟨#[]⟩, Value.slice (some ⟨g, 0, none⟩) (f.xs.length + 1) cap, K))[i]'h1 = es[i]'(by omega) := by rw [List.getElem_set_ne (by omega)]
        have e2 : (fs ++ [{ f with xs := f.xs ++ [x] }])[i]'h2 = (fs ++ [f])[i]'(by simp; omega) := by rw [List.getElem_append_left hi, List.getElem_append_left hi]
        obtain ⟨L2, K2, ys2, hf2⟩ := h.frs i (by omega) (by simp; omega)
        rw [e1, e2]
        exact ⟨L2, K2, ys2, hf2.frame fun b hb ht => ⟨hW b hb (by omega) (by omega), hT b hb (by omega)⟩⟩
      · have hie : i = fs.length := by simp at h2; omega
        subst hie
        have e1 : (es.set fs.length (Value.int .i64 f.kind, Value.int .i64 0, Value.string ⟨#[]⟩, Value.slice (some ⟨g, 0, none⟩) (f.xs.length + 1) cap, K))[fs.length]'h1 = (Value.int .i64 f.kind, Value.int .i64 0, Value.string ⟨#[]⟩, Value.slice (some ⟨g, 0, none⟩) (f.xs.length + 1) cap, K) := by simp
        have e2 : (fs ++ [{ f with xs := f.xs ++ [x] }])[fs.length]'h2 = { f with xs := f.xs ++ [x] } := by simp
        rw [e1, e2]
        refine ⟨_, K, ys ++ [u], ⟨rfl, hf.kind, ?_, by simp [hf.len], ?_, ?_, ?_, ?_, hf.small⟩⟩
        · have e3 : (f.xs ++ [x]).length = f.xs.length + 1 := by simp
          rw [e3]; exact hZg
        · intro j j1 j2
          rcases Nat.lt_or_ge j ys.length with hj | hj
          · have e3 : (ys ++ [u])[j]'j1 = ys[j] := List.getElem_append_left hj
            have e4 : (f.xs ++ [x])[j]'j2 = f.xs[j]'(by rw [← hf.len]; exact hj) := List.getElem_append_left (by rw [← hf.len]; exact hj)
            rw [e3]
            show Holds _ _ _ ((f.xs ++ [x])[j]'j2)
            rw [e4]
            exact hd _ _ (hf.vals j hj (by rw [← hf.len]; exact hj))
          · have hje : j = ys.length := by simp at j1; omega
            subst hje
            have e3 : (ys ++ [u])[ys.length]'j1 = u := by simp
            have e4 : (f.xs ++ [x])[ys.length]'j2 = x := by simp [hf.len]
            rw [e3]
            show Holds _ _ _ ((f.xs ++ [x])[ys.length]'j2)
            rw [e4]
            exact hd _ _ hx
        · intro b hb
          injection hb with hb
          have hb' : b = g := hb.symm
          rw [hb', if_pos rfl]
        · exact own_at hf.keys fun k hk => hW k (own_lt hf.keys hk).2 (by rw [hf.kmark k hk]; omega) (by rw [hf.kmark k hk]; omega)
        · intro b hb
          rw [hT b (own_lt hf.keys hb).2 (by rw [hf.kmark b hb]; omega)]
          exact hf.kmark b hb
    · rw [hT R h.rd.lt (by rw [h.rmark]; omega)]; exact h.rmark
    · intro b hb
      rw [hT b (own_lt h.own hb).2 (by rw [h.omark b hb]; omega)]
      exact h.omark b hb
    · intro b hb
      have hbg : b ≠ g := by rintro rfl; omega
      show (if b = g then _ else _) = 1
      rw [if_neg hbg]
      exact h.out b (by omega)
    · have := h.size; omega
  · refine ⟨hZs.2.1.trans hg.os, hZs.2.2.1.trans hg.tape, hZs.2.2.2.trans hg.output, by omega, fun b hb ht => ⟨hW b hb (by omega) (by omega), hT b hb (by omega)⟩⟩


/-- Five cells are written, at a place. -/
def at5 (W : World) (g o : Nat) (v0 v1 v2 v3 v4 : Value) : World :=
  ((((W.setCell ⟨g, o, none⟩ v0).setCell ⟨g, o + 1, none⟩ v1).setCell ⟨g, o + 2, none⟩ v2).setCell ⟨g, o + 3, none⟩ v3).setCell ⟨g, o + 4, none⟩ v4
theorem at5_other (W : World) {g o b : Nat} (v0 v1 v2 v3 v4 : Value) (h : b ≠ g) : (at5 W g o v0 v1 v2 v3 v4).heap[b]? = W.heap[b]? := by
  unfold at5
  rw [heap_setCell_other _ _ _ _ (by simpa using h), heap_setCell_other _ _ _ _ (by simpa using h), heap_setCell_other _ _ _ _ (by simpa using h), heap_setCell_other _ _ _ _ (by simpa using h), heap_setCell_other _ _ _ _ (by simpa using h)]
/-- As large, and the streams as they were. -/
def SameF (Z W : World) : Prop := Z.heap.size = W.heap.size ∧ Z.os = W.os ∧ Z.tape = W.tape ∧ Z.output = W.output
theorem SameF.trans {a b c : World} (h : SameF a b) (k : SameF b c) : SameF a c := ⟨h.1.trans k.1, h.2.1.trans k.2.1, h.2.2.1.trans k.2.2.1, h.2.2.2.trans k.2.2.2⟩
theorem set_frame (W : World) (a : Addr) (v : Value) : SameF (W.setCell a v) W := ⟨by simp [World.setCell], rfl, rfl, rfl⟩
theorem at5_frame (W : World) (g o : Nat) (v0 v1 v2 v3 v4 : Value) : SameF (at5 W g o v0 v1 v2 v3 v4) W :=
  (set_frame _ _ _).trans ((set_frame _ _ _).trans ((set_frame _ _ _).trans ((set_frame _ _ _).trans (set_frame _ _ _))))

/-- The last value of a row is written whole. -/
theorem last_row {N n : Nat} {W : World} {g cap : Nat} {ys : List E5} (hn : ys.length = n) (h : W.ownsRow N 26 5 (.slice (some ⟨g, 0, none⟩) (n + 1) cap) (n + 1) (flat ys ++ cells5 zero5)) (u0 u1 u2 u3 u4 : Value) :
    (at5 W g (n * 5) u0 u1 u2 u3 u4).ownsRow N 26 5 (.slice (some ⟨g, 0, none⟩) (n + 1) cap) (n + 1) (flat (ys ++ [(u0, u1, u2, u3, u4)])) := by
  have s5 := ((((h.stored (n * 5) u0).1.stored (n * 5 + 1) u1).1.stored (n * 5 + 2) u2).1.stored (n * 5 + 3) u3).1.stored (n * 5 + 4) u4
  have e1 := flat_set (ys ++ [zero5]) n (u0, u1, u2, u3, u4) (by simp; omega)
  rw [← flat_snoc] at e1
  have e2 : (ys ++ [zero5]).set n (u0, u1, u2, u3, u4) = ys ++ [(u0, u1, u2, u3, u4)] := by
    rw [List.set_append_right _ _ (by omega), hn, Nat.sub_self, List.set_cons_zero]
  rw [e2] at e1
  rw [← e1]
  unfold at5
  exact s5.1

theorem put_shape {N : Nat} {tag : Nat → Nat} {W wB : World} {R : Nat} {s : List UInt8} {fs : List Fr} {f : Fr} {deep : Nat} {ov : Value} {es : List E5} (h : RdAt N tag W R s (fs ++ [f]) deep ov es)
    {g0 cap0 : Nat} (hov : ov = .slice (some ⟨g0, 0, none⟩) (fs ++ [f]).length cap0) {L K : Value} {ys : List E5} {e : E5} (hf : FrAt N tag W fs.length f e L K ys) (he : ∀ h', es[fs.length]'h' = e) {o : Obj} {g cap : Nat}
    (hown : wB.ownsRow N 26 5 (.slice (some ⟨g, 0, none⟩) (f.xs.length + 1) cap) (f.xs.length + 1) (flat ys ++ cells5 zero5)) (hg : (W.alloc o).grownBy wB L.ownBlock) (hne : ¬ g = g0) (u0 u1 u2 u3 u4 : Value) {Z : World}
    (hZ : Z = (at5 wB g (f.xs.length * 5) u0 u1 u2 u3 u4).setCell ⟨g0, fs.length * 5 + 3, none⟩ (.slice (some ⟨g, 0, none⟩) (f.xs.length + 1) cap) ∨ Z = at5 (wB.setCell ⟨g0, fs.length * 5 + 3, none⟩ (.slice (some ⟨g, 0, none⟩) (f.xs.length + 1) cap)) g (f.xs.length * 5) u0 u1 u2 u3 u4) :
    (∀ b, b ≠ g → b ≠ g0 → Z.heap[b]? = wB.heap[b]?) ∧ SameF Z wB ∧
    Z.ownsRow N 26 5 (.slice (some ⟨g, 0, none⟩) (f.xs.length + 1) cap) (f.xs.length + 1) (flat (ys ++ [(u0, u1, u2, u3, u4)])) ∧
    Z.ownsRow N 26 5 ov (fs ++ [f]).length (flat (es.set fs.length (.int .i64 f.kind, .int .i64 0, .string ⟨#[]⟩, .slice (some ⟨g, 0, none⟩) (f.xs.length + 1) cap, K))) := by
  have hg0 : g0 < W.heap.size := (own_lt h.own (r := g0) (by rw [hov]; rfl)).2
  have hblk : wB.heap[g0]? = W.heap[g0]? := by
    rw [hg.block g0 (by simp; omega) (fun e => by have h1 := hf.mark g0 e.symm; have h2 := h.omark g0 (by rw [hov]; rfl); omega), Go.heap_alloc_old _ _ hg0]
  have hown0 : wB.ownsRow N 26 5 ov (fs ++ [f]).length (flat es) := own_at h.own fun k hk => by
    rw [hov] at hk
    have : k = g0 := by injection hk with hk; exact hk.symm
    rw [this]; exact hblk
  have hm : fs.length < es.length := by rw [h.len]; simp
  have e1 := slot_set (es := es) (m := fs.length) (i := 3) hm (by omega) (.slice (some ⟨g, 0, none⟩) (f.xs.length + 1) cap)
  simp only [he hm, hf.e] at e1
  have hlen := hf.len
  subst hov
  have set0 : ∀ {X : World}, X.ownsRow N 26 5 (.slice (some ⟨g0, 0, none⟩) (fs ++ [f]).length cap0) (fs ++ [f]).length (flat es) →
      (X.setCell ⟨g0, fs.length * 5 + 3, none⟩ (.slice (some ⟨g, 0, none⟩) (f.xs.length + 1) cap)).ownsRow N 26 5 (.slice (some ⟨g0, 0, none⟩) (fs ++ [f]).length cap0) (fs ++ [f]).length (flat (es.set fs.length (.int .i64 f.kind, .int .i64 0, .string ⟨#[]⟩, .slice (some ⟨g, 0, none⟩) (f.xs.length + 1) cap, K))) := fun hX => by
    rw [← e1]
    exact (hX.stored _ _).1
  obtain ⟨L2, hL2⟩ : ∃ L2, L2 = Value.slice (some ⟨g, 0, none⟩) (f.xs.length + 1) cap := ⟨_, rfl⟩
  have ob : L2.ownBlock = some g := by rw [hL2]; rfl
  have ob0 : (Value.slice (some ⟨g0, 0, none⟩) (fs ++ [f]).length cap0).ownBlock = some g0 := rfl
  have hr : ∀ {X : World}, X.ownsRow N 26 5 L2 (f.xs.length + 1) (flat ys ++ cells5 zero5) → (at5 X g (f.xs.length * 5) u0 u1 u2 u3 u4).ownsRow N 26 5 L2 (f.xs.length + 1) (flat (ys ++ [(u0, u1, u2, u3, u4)])) := fun hX => by
    rw [hL2] at hX ⊢
    exact last_row hlen hX u0 u1 u2 u3 u4
  rw [← hL2] at hown hZ ⊢
  rw [← hL2] at set0
  generalize Value.slice (some ⟨g0, 0, none⟩) (fs ++ [f]).length cap0 = o2 at *
  generalize flat (es.set fs.length (Value.int .i64 f.kind, Value.int .i64 0, Value.string ⟨#[]⟩, L2, K)) = F2 at set0 ⊢
  generalize f.xs.length * 5 = p1 at hr hZ
  generalize fs.length * 5 + 3 = p2 at set0 hZ
  have so : ∀ (X : World) (v : Value) (k : Nat), k ≠ g0 → (X.setCell ⟨g0, p2, none⟩ v).heap[k]? = X.heap[k]? := fun X v k h => heap_setCell_other X _ k v (by simpa using h)
  rcases hZ with rfl | rfl
  · refine ⟨fun b h1 h2 => (so _ _ _ h2).trans (at5_other _ _ _ _ _ _ h1), (set_frame _ _ _).trans (at5_frame _ _ _ _ _ _ _ _), ?_, ?_⟩
    · exact own_at (hr hown) fun k hk => so _ _ _ (by rw [ob] at hk; injection hk with hk; rw [← hk]; exact hne)
    · exact set0 (own_at hown0 fun k hk => at5_other _ _ _ _ _ _ (by rw [ob0] at hk; injection hk with hk; rw [← hk]; exact Ne.symm hne))
  · refine ⟨fun b h1 h2 => (at5_other _ _ _ _ _ _ h1).trans (so _ _ _ h2), (at5_frame _ _ _ _ _ _ _ _).trans (set_frame _ _ _), ?_, ?_⟩
    · exact hr (own_at hown fun k hk => so _ _ _ (by rw [ob] at hk; injection hk with hk; rw [← hk]; exact hne))
    · exact own_at (set0 hown0) fun k hk => at5_other _ _ _ _ _ _ (by rw [ob0] at hk; injection hk with hk; rw [← hk]; exact Ne.symm hne)

theorem put_fin {N : Nat} {tag : Nat → Nat} {w W wB : World} {R : Nat} {s : List UInt8} {fs : List Fr} {f : Fr} {deep : Nat} {ov : Value} {es : List E5} (hkw : Kp tag tag w W) (h : RdAt N tag W R s (fs ++ [f]) deep ov es)
    {g0 cap0 : Nat} (hov : ov = .slice (some ⟨g0, 0, none⟩) (fs ++ [f]).length cap0) {L K : Value} {ys : List E5} {e : E5} (hf : FrAt N tag W fs.length f e L K ys) (he : ∀ h', es[fs.length]'h' = e) {o : Obj} {g cap : Nat}
    (hown : wB.ownsRow N 26 5 (.slice (some ⟨g, 0, none⟩) (f.xs.length + 1) cap) (f.xs.length + 1) (flat ys ++ cells5 zero5)) (hg : (W.alloc o).grownBy wB L.ownBlock) (hat : L.ownBlock = some g ∨ g = W.heap.size + 1) (hlt : g < wB.heap.size) (hne : ¬ g = g0)
    {u0 u1 u2 u3 u4 : Value} {x : V} (hx : Holds (Dn N tag W) W (.agg #[u0, u1, u2, u3, u4]) x) (Z : World)
    (hZ : Z = (((((wB.setCell ⟨g, f.xs.length * 5, none⟩ u0).setCell ⟨g, f.xs.length * 5 + 1, none⟩ u1).setCell ⟨g, f.xs.length * 5 + 2, none⟩ u2).setCell ⟨g, f.xs.length * 5 + 3, none⟩ u3).setCell ⟨g, f.xs.length * 5 + 4, none⟩ u4).setCell ⟨g0, fs.length * 5 + 3, none⟩ (.slice (some ⟨g, 0, none⟩) (f.xs.length + 1) cap) ∨
      Z = (((((wB.setCell ⟨g0, fs.length * 5 + 3, none⟩ (.slice (some ⟨g, 0, none⟩) (f.xs.length + 1) cap)).setCell ⟨g, f.xs.length * 5, none⟩ u0).setCell ⟨g, f.xs.length * 5 + 1, none⟩ u1).setCell ⟨g, f.xs.length * 5 + 2, none⟩ u2).setCell ⟨g, f.xs.length * 5 + 3, none⟩ u3).setCell ⟨g, f.xs.length * 5 + 4, none⟩ u4) :
    Ending.returned (.tuple #[]) = .returned (.tuple #[]) ∧ ∃ tag' ov' es', RdAt N tag' Z R s (fs ++ [{ f with xs := f.xs ++ [x] }]) deep ov' es' ∧ Kp tag tag' w Z := by
  have hs := put_shape h hov hf he hown hg hne u0 u1 u2 u3 u4 (Z := Z) (by unfold at5; exact hZ)
  obtain ⟨t', o', e', h1, h2⟩ := put_done (u := (u0, u1, u2, u3, u4)) h hov hf hx hg hat hlt hs.1 hs.2.1 hs.2.2.1 hs.2.2.2
  exact ⟨rfl, t', o', e', h1, hkw.trans h2⟩
end Go.Proofs.YtgfbednfiejlfaaGreatDoor.Rd

/-
  The reader's lists and records that have begun: one ends, one begins (what holds in memory).
-/
namespace Go.Proofs.YtgfbednfiejlfaaGreatDoor.Rd
open Go.RowKit Go.Proofs.YtgfbednfiejlfaaGreatDoor.Oct Go.Proofs.YtgfbednfiejlfaaGreatDoor.Val

/-- The value that one is, when it has ended. -/
abbrev Fr.val (f : Fr) : V := .mk f.kind 0 ⟨#[]⟩ f.xs f.ks

theorem flat_take (es : List E5) (m : Nat) (h : m ≤ es.length) : (flat es).take (m * 5) = flat (es.take m) := by
  induction es generalizing m with
  | nil => simp [flat]
  | cons x es ih =>
    have ef : ∀ y (t : List E5), flat (y :: t) = cells5 y ++ flat t := fun _ _ => rfl
    cases m with
    | zero => simp [flat]
    | succ m =>
      rw [ef, List.take_succ_cons, ef, show (m + 1) * 5 = (cells5 x).length + m * 5 by simp; omega, List.take_append, Nat.add_sub_cancel_left]
      rw [List.take_of_length_le (by omega), ih m (by simpa using h)]

theorem cell_own {w : World} {base size n : Nat} {e : TypeId} {v : Value} {xs : List Value} (h : w.ownsRow base e size v n xs) {g cap : Nat} (hv : v = .slice (some ⟨g, 0, none⟩) n cap) (j : Nat) (hj : j < n * size) : w.cell? ⟨g, j, none⟩ = xs[j]? := by
  subst hv
  exact h.cellAt j hj

/-- One that has ended reads as its value, where its two blocks bear the mark 0 from now on. -/
theorem fr_holds {N : Nat} {tag tag' : Nat → Nat} {w w' : World} {i : Nat} {f : Fr} {e : E5} {L K : Value} {ys : List E5} (h : FrAt N tag w i f e L K ys)
    (hb : ∀ b, b < w.heap.size → (tag b = 0 ∨ tag b = 4 + 2 * i ∨ tag b = 5 + 2 * i) → w'.heap[b]? = w.heap[b]? ∧ tag' b = 0)
    (hxs : f.xs.length * 80 ≤ 140737488351232) (hks : f.ks.length * 16 ≤ 140737488351232) : Holds (Dn N tag' w') w' (agg5 e) f.val := by
  have hv : ∀ v y, Holds (Dn N tag w) w v y → Holds (Dn N tag' w') w' v y := fun v y hv => holds_dn hv (fun b hl h0 => (hb b hl (.inl h0)).1) (fun b hl h0 => (hb b hl (.inl h0)).2)
  have hrow := own_at h.rows (w' := w') fun k hk => (hb k (own_lt h.rows hk).2 (.inr (.inl (h.mark k hk)))).1
  have hkey := own_at h.keys (w' := w') fun k hk => (hb k (own_lt h.keys hk).2 (.inr (.inr (h.kmark k hk)))).1
  obtain ⟨lp, lc, hL⟩ := own_slice h.rows
  obtain ⟨kp, kc, hK⟩ := own_slice h.keys
  rw [h.e]
  have hlen := h.len
  have big : -9223372036854775808 ≤ f.kind ∧ f.kind ≤ 9223372036854775807 := by rcases h.kind with h | h <;> rw [h] <;> decide
  obtain ⟨g, hg⟩ : ∃ g, 0 < f.xs.length → lp = some ⟨g, 0, none⟩ ∧ Dn N tag' w' false g 0 f.xs.length := by
    rcases hrow.2 with ⟨_, h0⟩ | ⟨g, cap, cur, hv, hbg, hh, _⟩
    · exact ⟨0, fun h => absurd h (by omega)⟩
    · rw [hL] at hv
      injection hv with h1 h2 h3
      exact ⟨g, fun _ => ⟨h1, ⟨hbg, rfl, cur, hh⟩, (hb g (own_lt h.rows (by rw [hL, h1]; rfl)).2 (.inr (.inl (h.mark g (by rw [hL, h1]; rfl))))).2⟩⟩
  obtain ⟨q, hq⟩ : ∃ q, 0 < f.ks.length → kp = some ⟨q, 0, none⟩ ∧ Dn N tag' w' true q 0 f.ks.length := by
    rcases hkey.2 with ⟨_, h0⟩ | ⟨g, cap, cur, hv, hbg, hh, _⟩
    · exact ⟨0, fun h => absurd h (by omega)⟩
    · rw [hK] at hv
      injection hv with h1 h2 h3
      exact ⟨g, fun _ => ⟨h1, ⟨hbg, rfl, cur, hh⟩, (hb g (own_lt h.keys (by rw [hK, h1]; rfl)).2 (.inr (.inr (h.kmark g (by rw [hK, h1]; rfl))))).2⟩⟩
  have key : ∀ i j, i < f.xs.length → j < 5 → (flat ys)[i * 5 + j]? = some (((flat ys)[i * 5 + j]?).getD undef) := by
    intro i j hi hj
    have : i * 5 + j < (flat ys).length := by rw [flat_len, hlen]; omega
    rw [List.getElem?_eq_getElem this]; rfl
  have hz : (⟨#[]⟩ : ByteArray).size ≤ 140737488351232 := by decide
  show Holds _ _ (.agg #[.int .i64 f.kind, .int .i64 0, .string ⟨#[]⟩, L, K]) _
  rw [hL]
  refine .mk f.kind 0 ⟨#[]⟩ lp lc K f.xs f.ks g 0 (fun i j => ((flat ys)[i * 5 + j]?).getD undef) ⟨big.1, big.2, by decide, by decide, hz, hxs⟩ (fun h0 => hg h0) (fun i j hi hj => ?_) ?_ (fun i hi => ?_)
  · obtain ⟨h1, _⟩ := hg (by omega)
    have h3 := cell_own hrow (g := g) (cap := lc) (by rw [hL, h1]) (i * 5 + j) (by omega)
    rw [key i j hi hj] at h3
    rw [Nat.zero_add]
    exact h3
  · refine ⟨kp, kc, q, 0, hK, ⟨hks, h.small⟩, hq, fun i hi => ?_⟩
    obtain ⟨h1, _⟩ := hq (by omega)
    have h3 := cell_own hkey (g := q) (cap := kc) (by rw [hK, h1]) i (by omega)
    rw [Nat.zero_add, h3]
    simp [hi]
  · have h1 := hv _ _ (h.vals i (by omega) hi)
    have e : ∀ j, j < 5 → ((flat ys)[i * 5 + j]?).getD undef = ((cells5 (ys[i]'(by omega)))[j]?).getD undef := fun j hj => by rw [flat_at ys i j (by omega) hj]
    show Holds _ _ (.agg #[((flat ys)[i * 5 + 0]?).getD undef, ((flat ys)[i * 5 + 1]?).getD undef, ((flat ys)[i * 5 + 2]?).getD undef, ((flat ys)[i * 5 + 3]?).getD undef, ((flat ys)[i * 5 + 4]?).getD undef]) _
    rw [e 0 (by omega), e 1 (by omega), e 2 (by omega), e 3 (by omega), e 4 (by omega)]
    exact h1
end Go.Proofs.YtgfbednfiejlfaaGreatDoor.Rd

/-
  Contracts of the page's answers on what an octet is: a letter, a digit; they change nothing.
-/
namespace Go.Proofs.YtgfbednfiejlfaaGreatDoor.Oct
open Go.RowKit

theorem rletter_c (n : Int) (w : World) (h0 : 0 ≤ n) (h1 : n ≤ 255) :
    Calls Tryz.prog 67 #[.int .u8 n] w fun e w' => e = .returned (.bool (letterI n)) ∧ w = w' := by
  go_enter Tryz.func67, Tryz.ntmps67
  go_wp2
  all_goals go_ret
  all_goals (refine ⟨ret_bool ?_, rfl⟩; rw [Bool.eq_iff_iff]; simp [letterI]; try omega)

theorem rdigit_c (n : Int) (w : World) (h0 : 0 ≤ n) (h1 : n ≤ 255) :
    Calls Tryz.prog 68 #[.int .u8 n] w fun e w' => e = .returned (.bool (digitI n)) ∧ w = w' := by
  go_enter Tryz.func68, Tryz.ntmps68
  go_wp2
  all_goals go_ret
  all_goals (refine ⟨ret_bool ?_, rfl⟩; rw [Bool.eq_iff_iff]; simp [digitI]; try omega)
end Go.Proofs.YtgfbednfiejlfaaGreatDoor.Oct

/-
  Contracts of the leaves of package octets and of the page's answers on octets: each is called at any octet and changes nothing.
-/
namespace Go.Proofs.YtgfbednfiejlfaaGreatDoor.Oct
open Go.RowKit

theorem within_c (n a b : Int) (w : World) :
    Calls Tryz.prog 91 #[.int .u8 n, .int .u8 a, .int .u8 b] w fun e w' => e = .returned (.bool (decide (a ≤ n ∧ n ≤ b))) ∧ w = w' := by
  go_enter Tryz.func91, Tryz.ntmps91
  go_wp2
  all_goals go_ret
  all_goals (refine ⟨ret_bool ?_, rfl⟩; simp; try omega)

theorem letter_c (n : Int) (w : World) (h0 : 0 ≤ n) (h1 : n ≤ 255) :
    Calls Tryz.prog 75 #[.int .u8 n] w fun e w' => e = .returned (.bool (letterI n)) ∧ w = w' := by
  go_enter Tryz.func75, Tryz.ntmps75
  go_wp2
  all_goals go_ret
  all_goals (refine ⟨ret_bool ?_, rfl⟩; rw [Bool.eq_iff_iff]; simp [letterI]; try omega)

theorem small_c (n : Int) (w : World) (h0 : 0 ≤ n) (h1 : n ≤ 255) :
    Calls Tryz.prog 124 #[.int .u8 n] w fun e w' => e = .returned (.int .u8 (lowI n)) ∧ w = w' := by
  go_enter Tryz.func124, Tryz.ntmps124
  go_wp2
  all_goals go_ret
  all_goals (refine ⟨ret_int ?_, rfl⟩; unfold lowI; split <;> omega)

end Go.Proofs.YtgfbednfiejlfaaGreatDoor.Oct

/-
  Contracts of octets.first, none and made, at whatever function value that is handed in, and of digitValue.
-/
namespace Go.Proofs.YtgfbednfiejlfaaGreatDoor.Oct
open Go.RowKit

/-- The first place below n that is wanted, or n. -/
def firstOf (p : Nat → Bool) : Nat → Nat → Nat
  | _, 0 => 0
  | k, n + 1 => if p k then 0 else firstOf p (k + 1) n + 1

theorem firstOf_le (p : Nat → Bool) (k n : Nat) : firstOf p k n ≤ n := by
  induction n generalizing k with
  | zero => simp [firstOf]
  | succ n ih => have := ih (k + 1); unfold firstOf; split <;> omega

theorem firstOf_hit (p : Nat → Bool) (k n j : Nat) (hj : j < n) (hp : p (k + j) = true) (hn : ∀ i, i < j → p (k + i) = false) : firstOf p k n = j := by
  induction n generalizing k j with
  | zero => omega
  | succ n ih =>
    unfold firstOf
    cases j with
    | zero => rw [if_pos (by simpa using hp)]
    | succ j =>
      have h0 : p k = false := by simpa using hn 0 (by omega)
      rw [h0, if_neg (by simp), ih (k + 1) j (by omega) (by rw [← hp]; congr 1; omega) (fun i hi => by rw [← hn (i + 1) (by omega)]; congr 1; omega)]

theorem firstOf_miss (p : Nat → Bool) (k n : Nat) (hn : ∀ i, i < n → p (k + i) = false) : firstOf p k n = n := by
  induction n generalizing k with
  | zero => rfl
  | succ n ih =>
    unfold firstOf
    have h0 : p k = false := by simpa using hn 0 (by omega)
    rw [h0, if_neg (by simp), ih (k + 1) (fun i hi => by rw [← hn (i + 1) (by omega)]; congr 1; omega)]

/-- What is asked of a function value that tells of a place whether it is wanted: in every world in which all that lay in w lies unturned, and it leaves such a world again. -/
def Wants (g : Nat) (lb : Array Value) (p : Nat → Bool) (n : Nat) (w : World) : Prop :=
  ∀ (k : Nat) (W : World), k < n → Below w.heap.size w W → Calls Tryz.prog g (#[.int .i64 (k : Int)] ++ lb) W fun e w' => e = .returned (.bool (p k)) ∧ Below w.heap.size w w'

set_option maxHeartbeats 1000000 in
theorem first_c (n : Nat) (g : Nat) (lb : Array Value) (p : Nat → Bool) (w : World) (hn : n ≤ 9223372036854775807)
    (eg : ∀ args w, (callFunc g args).run Tryz.prog w = .ok (.enter g args) w) (hp : Wants g lb p n w) :
    Calls Tryz.prog 123 #[.int .i64 (n : Int), .func (.func g) #[] lb] w fun e w' => e = .returned (.int .i64 (firstOf p 0 n : Nat)) ∧ Below w.heap.size w w' := by
  go_enter Tryz.func123, Tryz.ntmps123
  go_wp2
  go_loopw [5, 7] (fun _ i wr => ∃ k : Nat, k ≤ n ∧ i = .int .i64 k ∧ Hid (∀ i, i < k → p i = false) ∧ Hid (Below w.heap.size w wr)) (fun _ i _ => n - (intOf i).toNat)
  case atStart => exact ⟨0, Nat.zero_le _, rfl, fun i hi => absurd hi (Nat.not_lt_zero _), Below.refl _ _⟩
  case round =>
    obtain ⟨k, hk, rfl, hno, hbel⟩ := hrel
    by_cases hlt : k < n
    · have hcall := hp k wr hlt hbel.out
      cases hq : p k with
      | true =>
        rw [hq] at hcall
        go_wp2_with (go_at_fn g; refine hcall.mono ?_; rintro e w' ⟨rfl, hb'⟩)
        go_ret
        exact ⟨ret_int (by rw [firstOf_hit p 0 n k hlt (by simpa using hq) (fun i hi => by simpa using hno.out i hi)]), hb'⟩
      | false =>
        rw [hq] at hcall
        go_wp2_with (go_at_fn g; refine hcall.mono ?_; rintro e w' ⟨rfl, hb'⟩)
        go_roundw
        case rel =>
          refine ⟨k + 1, by omega, by go_num, fun i hi => ?_, hb'⟩
          by_cases e : i = k
          · rw [e]; exact hq
          · exact hno.out i (by omega)
        case measure => simp [intOf]; omega
    · go_wp2
      go_ret
      have : k = n := by omega
      subst this
      exact ⟨ret_int (by rw [firstOf_miss p 0 k (fun i hi => by simpa using hno.out i hi)]), hbel.out⟩

end Go.Proofs.YtgfbednfiejlfaaGreatDoor.Oct
