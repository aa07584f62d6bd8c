/-
  Part 2: RdAt, ValClone, ValClone2, RdPut0, RdEnd0, PgOct, OctLeaves, OctFirst, OctMade, OctTexts, OctNames, OctLists, OctTrim, HexPure, OctHex, OctUnhex, UtfPure, Mem, UtfLeaves.
-/
import Derived.Test.YtamenccdnobjkaaGreatDoorLitReadsCardP1
import Derived.Deep.RegionHeld3
import Derived.BigQuiet
import Derived.Test.YtamenccdnobjkaaGreatDoorProg
import Derived.Lib.Hide
import Derived.Deep.RegionWith
import Derived.Laws.IdiomStrings
import Derived.Deep.QuietTactic
import Derived.Lib.DecodeN
import Derived.Lib.RuneBytes
import Derived.Shelf.Unicode.DecodeSlow
import Derived.Lib.BufferRead
import Derived.Deep.RegionHeld
/-
  A reader's lists and records that have begun, in memory: who owns which block.
-/
namespace Go.Proofs.YtamenccdnobjkaaGreatDoor.Rd
open Go.RowKit Go.Proofs.YtamenccdnobjkaaGreatDoor.Oct Go.Proofs.YtamenccdnobjkaaGreatDoor.Val

/-- A list or a record that has begun: its Kind, its values, its keys. -/
structure Fr where
  kind : Int
  xs : List V
  ks : List ByteArray

/-- Memory of values that are whole: blocks of the call's own with the mark 0. -/
def Dn (N : Nat) (tag : Nat → Nat) (w : World) : Cond := fun t b off n => Mine N w t b off n ∧ tag b = 0

/-- One that has begun, as it lies: its list's block bears the mark 4 + 2i, its keys' 5 + 2i. -/
structure FrAt (N : Nat) (tag : Nat → Nat) (w : World) (i : Nat) (f : Fr) (e : E5) (L K : Value) (ys : List E5) : Prop where
  e : e = (.int .i64 f.kind, .int .i64 0, .string ⟨#[]⟩, L, K)
  kind : f.kind = 5 ∨ f.kind = 6
  rows : w.ownsRow N 26 5 L f.xs.length (flat ys)
  len : ys.length = f.xs.length
  vals : ∀ j (h : j < ys.length) (h' : j < f.xs.length), Holds (Dn N tag w) w (agg5 ys[j]) f.xs[j]
  mark : ∀ b, L.ownBlock = some b → tag b = 4 + 2 * i
  keys : w.ownsRow N 9 1 K f.ks.length (f.ks.map Value.string)
  kmark : ∀ b, K.ownBlock = some b → tag b = 5 + 2 * i
  small : ∀ s ∈ f.ks, s.size ≤ 140737488351232

/-- The reader, whole: its box bears the mark 2, the row of those that have begun 3; what is older, or not there yet, and callers' boxes 1. -/
structure RdAt (N : Nat) (tag : Nat → Nat) (w : World) (R : Nat) (s : List UInt8) (fs : List Fr) (deep : Nat) (ov : Value) (es : List E5) : Prop where
  rd : Rd R (S s) ov (.int .i64 deep) w
  own : w.ownsRow N 26 5 ov fs.length (flat es)
  len : es.length = fs.length
  frs : ∀ i (h : i < es.length) (h' : i < fs.length), ∃ L K ys, FrAt N tag w i fs[i] es[i] L K ys
  rmark : tag R = 2
  omark : ∀ b, ov.ownBlock = some b → tag b = 3
  out : ∀ b, b < N ∨ w.heap.size ≤ b → tag b = 1
  size : N ≤ w.heap.size

theorem own_at {w w' : World} {base n size : Nat} {e : TypeId} {v : Value} {xs : List Value} (h : w.ownsRow base e size v n xs) (hb : ∀ k, v.ownBlock = some k → w'.heap[k]? = w.heap[k]?) : w'.ownsRow base e size v n xs := by
  refine ⟨h.1, ?_⟩
  rcases h.2 with hn | ⟨g, cap, cur, hv, hbg, hg, rest⟩
  · exact .inl hn
  · exact .inr ⟨g, cap, cur, hv, hbg, by rw [hb g (by rw [hv]; rfl)]; exact hg, rest⟩
theorem own_lt {w : World} {base : Nat} {e : TypeId} {size n : Nat} {v : Value} {xs : List Value} (h : w.ownsRow base e size v n xs) {r : Nat} (hr : v.ownBlock = some r) : base ≤ r ∧ r < w.heap.size := by
  rcases h.2 with ⟨rfl, _⟩ | ⟨g, cap, cur, rfl, hb, hg, _⟩
  · simp [Value.ownBlock] at hr
  · simp [Value.ownBlock] at hr
    subst hr
    exact ⟨hb, (Array.getElem?_eq_some_iff.1 hg).1⟩

theorem Dn.lt {N : Nat} {tag : Nat → Nat} {w : World} {t : Bool} {b off n : Nat} (h : Dn N tag w t b off n) : b < w.heap.size := h.1.lt

theorem Dn.to {N : Nat} {tag tag' : Nat → Nat} {w w' : World} (hb : ∀ b, b < w.heap.size → tag b = 0 → w'.heap[b]? = w.heap[b]?) (ht : ∀ b, b < w.heap.size → tag b = 0 → tag' b = 0) :
    ∀ t b off n, Dn N tag w t b off n → Dn N tag' w' t b off n := fun t b off n h => by
  have hl := h.lt
  obtain ⟨⟨h1, h2, cur, h3⟩, h4⟩ := h
  exact ⟨⟨h1, h2, cur, by rw [hb b hl h4]; exact h3⟩, ht b hl h4⟩

/-- Values that are whole stay, where their blocks do. -/
theorem holds_dn {N : Nat} {tag tag' : Nat → Nat} {w w' : World} {v : Value} {x : V} (h : Holds (Dn N tag w) w v x) (hb : ∀ b, b < w.heap.size → tag b = 0 → w'.heap[b]? = w.heap[b]?) (ht : ∀ b, b < w.heap.size → tag b = 0 → tag' b = 0) : Holds (Dn N tag' w') w' v x :=
  h.frame (fun _ b _ _ hd => hb b hd.lt hd.2) (Dn.to hb ht)

theorem FrAt.frame {N : Nat} {tag tag' : Nat → Nat} {w w' : World} {i : Nat} {f : Fr} {e : E5} {L K : Value} {ys : List E5} (h : FrAt N tag w i f e L K ys)
    (hb : ∀ b, b < w.heap.size → (tag b = 0 ∨ tag b = 4 + 2 * i ∨ tag b = 5 + 2 * i) → w'.heap[b]? = w.heap[b]? ∧ tag' b = tag b) : FrAt N tag' w' i f e L K ys where
  e := h.e
  kind := h.kind
  rows := own_at h.rows fun k hk => (hb k (own_lt h.rows hk).2 (.inr (.inl (h.mark k hk)))).1
  len := h.len
  vals := fun j h1 h2 => holds_dn (h.vals j h1 h2) (fun b hl h0 => (hb b hl (.inl h0)).1) (fun b hl h0 => by rw [(hb b hl (.inl h0)).2]; exact h0)
  mark := fun b hk => by rw [(hb b (own_lt h.rows hk).2 (.inr (.inl (h.mark b hk)))).2]; exact h.mark b hk
  keys := own_at h.keys fun k hk => (hb k (own_lt h.keys hk).2 (.inr (.inr (h.kmark k hk)))).1
  kmark := fun b hk => by rw [(hb b (own_lt h.keys hk).2 (.inr (.inr (h.kmark b hk)))).2]; exact h.kmark b hk
  small := h.small

/-- What a reader's call leaves of all that is not its own. -/
structure Kp (tag tag' : Nat → Nat) (w w' : World) : Prop where
  os : w'.os = w.os
  tape : w'.tape = w.tape
  output : w'.output = w.output
  size : w.heap.size ≤ w'.heap.size
  block : ∀ b, b < w.heap.size → tag b ≤ 1 → w'.heap[b]? = w.heap[b]? ∧ tag' b = tag b

theorem Kp.refl (tag : Nat → Nat) (w : World) : Kp tag tag w w := ⟨rfl, rfl, rfl, Nat.le_refl _, fun _ _ _ => ⟨rfl, rfl⟩⟩
theorem Kp.trans {t1 t2 t3 : Nat → Nat} {a b c : World} (h : Kp t1 t2 a b) (k : Kp t2 t3 b c) : Kp t1 t3 a c :=
  ⟨k.os.trans h.os, k.tape.trans h.tape, k.output.trans h.output, Nat.le_trans h.size k.size, fun i hi ht => by
    obtain ⟨h1, h2⟩ := h.block i hi ht
    obtain ⟨k1, k2⟩ := k.block i (Nat.lt_of_lt_of_le hi h.size) (by rw [h2]; exact ht)
    exact ⟨k1.trans h1, k2.trans h2⟩⟩
theorem Kp.of {tag : Nat → Nat} {w w' : World} (h : Below w.heap.size w w') : Kp tag tag w w' := ⟨h.os, h.tape, h.output, h.size, fun b hb _ => ⟨h.block b hb, rfl⟩⟩
theorem Kp.save {tag : Nat → Nat} {R : Nat} {w w' : World} (hR : tag R = 2) (h : Save R w w') : Kp tag tag w w' :=
  ⟨h.os, h.tape, h.output, h.size, fun b hb ht => ⟨h.block b hb (fun e => by rw [e, hR] at ht; omega), rfl⟩⟩
theorem Kp.below {N : Nat} {tag tag' : Nat → Nat} {w w' : World} (h : Kp tag tag' w w') (hN : N ≤ w.heap.size) (ht : ∀ b, b < N → tag b = 1) : Below N w w' :=
  ⟨h.os, h.tape, h.output, h.size, fun k hk => (h.block k (by omega) (by rw [ht k hk]; exact Nat.le_refl _)).1⟩
theorem Bx.kp {tag tag' : Nat → Nat} {W W' : World} {q : Nat} {u0 u1 u2 u3 u4 : Value} (h : Bx W q u0 u1 u2 u3 u4) (hk : Kp tag tag' W W') (hq : tag q = 1) : Bx W' q u0 u1 u2 u3 u4 ∧ tag' q = 1 := by
  obtain ⟨h1, h2⟩ := hk.block q h.lt (by rw [hq]; exact Nat.le_refl _)
  exact ⟨by unfold Bx; rw [h1]; exact h, by rw [h2]; exact hq⟩

/-- The reader stays where nothing but callers' boxes changed. -/
theorem RdAt.frame {N : Nat} {tag : Nat → Nat} {w w' : World} {R : Nat} {s : List UInt8} {fs : List Fr} {deep : Nat} {ov : Value} {es : List E5} (h : RdAt N tag w R s fs deep ov es)
    (hs : w.heap.size ≤ w'.heap.size) (hb : ∀ b, b < w.heap.size → tag b ≠ 1 → w'.heap[b]? = w.heap[b]?) : RdAt N tag w' R s fs deep ov es where
  rd := by unfold Rd; rw [hb R h.rd.lt (by rw [h.rmark]; decide)]; exact h.rd
  own := own_at h.own fun k hk => hb k (own_lt h.own hk).2 (by rw [h.omark k hk]; decide)
  len := h.len
  frs := fun i h1 h2 => by
    obtain ⟨L, K, ys, hf⟩ := h.frs i h1 h2
    exact ⟨L, K, ys, hf.frame fun b hl ht => ⟨hb b hl (by rcases ht with h | h | h <;> omega), rfl⟩⟩
  rmark := h.rmark
  omark := h.omark
  out := fun b hb => h.out b (by omega)
  size := Nat.le_trans h.size hs
theorem RdAt.keep {N : Nat} {tag : Nat → Nat} {w w' : World} {R : Nat} {s : List UInt8} {fs : List Fr} {deep : Nat} {ov : Value} {es : List E5} (h : RdAt N tag w R s fs deep ov es) (hb : Below w.heap.size w w') : RdAt N tag w' R s fs deep ov es :=
  h.frame hb.size fun b hl _ => hb.block b hl
theorem RdAt.alloc {N : Nat} {tag : Nat → Nat} {w : World} {R : Nat} {s : List UInt8} {fs : List Fr} {deep : Nat} {ov : Value} {es : List E5} (h : RdAt N tag w R s fs deep ov es) (o : Obj) : RdAt N tag (w.alloc o) R s fs deep ov es :=
  h.keep ((Below.refl _ _).alloc (Nat.le_refl _) _)
theorem RdAt.st5 {N : Nat} {tag : Nat → Nat} {w : World} {R : Nat} {s : List UInt8} {fs : List Fr} {deep : Nat} {ov : Value} {es : List E5} (h : RdAt N tag w R s fs deep ov es) {q : Nat} (hq : tag q = 1) (v0 v1 v2 v3 v4 : Value) : RdAt N tag (Go.Proofs.YtamenccdnobjkaaGreatDoor.Rd.st5 w q v0 v1 v2 v3 v4) R s fs deep ov es :=
  h.frame (by rw [st5_size]; exact Nat.le_refl _) fun b _ ht => st5_other w v0 v1 v2 v3 v4 (fun e => ht (by rw [e]; exact hq))
/-- What reads text alone leaves the rest as it is. -/
theorem RdAt.read {N : Nat} {tag : Nat → Nat} {w w' : World} {R : Nat} {s t : List UInt8} {fs : List Fr} {deep : Nat} {ov : Value} {es : List E5} (h : RdAt N tag w R s fs deep ov es) (hr : Rd R (S t) ov (.int .i64 deep) w') (hs : Save R w w') : RdAt N tag w' R t fs deep ov es where
  rd := hr
  own := own_at h.own fun k hk => hs.block k (own_lt h.own hk).2 (fun e => by have := h.omark k hk; rw [e, h.rmark] at this; omega)
  len := h.len
  frs := fun i h1 h2 => by
    obtain ⟨L, K, ys, hf⟩ := h.frs i h1 h2
    exact ⟨L, K, ys, hf.frame fun b hl ht => ⟨hs.block b hl (fun e => by rw [e, h.rmark] at ht; omega), rfl⟩⟩
  rmark := h.rmark
  omark := h.omark
  out := fun b hb => h.out b (by have := hs.size; omega)
  size := Nat.le_trans h.size hs.size
end Go.Proofs.YtamenccdnobjkaaGreatDoor.Rd

/-
  Contracts of values.cloned, at texts and at values, and of values.Clone: a value in memory of its own, which reads as the same tree.
-/
namespace Go.Proofs.YtamenccdnobjkaaGreatDoor.Val
open Go.RowKit Go.Proofs.YtamenccdnobjkaaGreatDoor.Oct

/-- A slice held against nil. -/
theorem eql_nil {t e : TypeId} (w : World) (a : Option Addr) (l c : Nat) (h : Tryz.prog.underlying t = some (.slice e)) : (binOp .eql t (.slice a l c) (.slice none 0 0)).run Tryz.prog w = .ok (.bool a.isNone) w := by
  have hd : ∀ d : Nat, (Op.equalIn (d + 1) t (.slice a l c) (.slice none 0 0)).run Tryz.prog w = .ok a.isNone w := fun d => by
    cases a <;> simp [Op.equalIn, run_underlying h]
  simp only [binOp]
  simp [Op.equal, Op.maxDepth, hd 9999]

/-- The cells behind k rounds. -/
def textsAt (ks : List ByteArray) (k : Nat) : List Value := (ks.take k).map Value.string ++ List.replicate (ks.length - k) (Value.string ⟨#[]⟩)
theorem textsAt_zero (ks : List ByteArray) : textsAt ks 0 = List.replicate ks.length (Value.string ⟨#[]⟩) := by simp [textsAt]
theorem textsAt_succ (ks : List ByteArray) (k : Nat) (h : k < ks.length) : (textsAt ks k).set k (Value.string ks[k]) = textsAt ks (k + 1) := by
  unfold textsAt
  have e : ks.length - k = (ks.length - (k + 1)) + 1 := by omega
  rw [e, List.replicate_succ, List.set_append_right _ _ (by simp; omega)]
  have e2 : k - ((ks.take k).map Value.string).length = 0 := by simp; omega
  rw [e2, List.set_cons_zero, List.take_succ_eq_append_getElem h, List.map_append, List.map_singleton, List.append_assoc, List.singleton_append]
theorem textsAt_at (ks : List ByteArray) (k : Nat) (h : k < ks.length) : (textsAt ks k)[k]? = some (Value.string ⟨#[]⟩) := by
  unfold textsAt
  rw [List.getElem?_append_right (by simp; omega), List.getElem?_replicate, if_pos (by simp; omega)]
theorem textsAt_full (ks : List ByteArray) (j : Nat) (h : j < ks.length) : (textsAt ks ks.length)[j]? = some (Value.string ks[j]) := by
  simp [textsAt, h]

end Go.Proofs.YtamenccdnobjkaaGreatDoor.Val

/-
  Contracts of values.cloned at values and of values.Clone: a value in memory of its own, which reads as the same tree.
-/
namespace Go.Proofs.YtamenccdnobjkaaGreatDoor.Val
open Go.RowKit Go.Proofs.YtamenccdnobjkaaGreatDoor.Oct

/-- A slice of values reads as l. -/
def Vals (C : Cond) (w : World) (v : Value) (l : List V) : Prop :=
  ∃ (p : Option Addr) (cap b off : Nat) (c : Nat → Nat → Value), v = .slice p l.length cap ∧ (0 < l.length → p = some ⟨b, off, none⟩ ∧ C false b off l.length) ∧
    (∀ i j, i < l.length → j < 5 → w.cell? ⟨b, off + (i * 5 + j), none⟩ = some (c i j)) ∧ ∀ i (h : i < l.length), Holds C w (.agg #[c i 0, c i 1, c i 2, c i 3, c i 4]) l[i]

theorem Vals.frame {C C' : Cond} {w w' : World} {v : Value} {l : List V} (h : Vals C w v l) (hC : ∀ t b off n, C t b off n → w'.heap[b]? = w.heap[b]?) (hC' : ∀ t b off n, C t b off n → C' t b off n) : Vals C' w' v l := by
  obtain ⟨p, cap, b, off, c, h1, h2, h3, h4⟩ := h
  refine ⟨p, cap, b, off, c, h1, fun h0 => ⟨(h2 h0).1, hC' _ _ _ _ (h2 h0).2⟩, fun i j hi hj => ?_, fun i hi => (h4 i hi).frame hC hC'⟩
  have := hC _ _ _ _ (h2 (by omega)).2
  rw [← h3 i j hi hj]
  simp [World.cell?, this]

theorem Vals.form {C : Cond} {w : World} {v : Value} {l : List V} (h : Vals C w v l) : ∃ p cap, v = .slice p l.length cap := by
  obtain ⟨p, cap, b, off, c, h1, _⟩ := h
  exact ⟨p, cap, h1⟩
theorem Texts.form {C : Cond} {w : World} {v : Value} {ks : List ByteArray} (h : Texts C w v ks) : ∃ p cap, v = .slice p ks.length cap := by
  obtain ⟨p, cap, b, off, h1, _⟩ := h
  exact ⟨p, cap, h1⟩

theorem flat_set (es : List E5) (k : Nat) (e : E5) (h : k < es.length) :
    (((((flat es).set (k * 5) e.1).set (k * 5 + 1) e.2.1).set (k * 5 + 2) e.2.2.1).set (k * 5 + 3) e.2.2.2.1).set (k * 5 + 4) e.2.2.2.2 = flat (es.set k e) := by
  induction es generalizing k with
  | nil => cases h
  | cons x es ih =>
    have ef : ∀ y (t : List E5), flat (y :: t) = cells5 y ++ flat t := fun _ _ => rfl
    rw [ef]
    cases k with
    | zero => rw [List.set_cons_zero, ef]; rfl
    | succ k =>
      rw [List.set_cons_succ, ef, ← ih k (by simpa using h)]
      have e0 : ∀ j, (k + 1) * 5 + j = 5 + (k * 5 + j) := fun j => by omega
      have e1 : (k + 1) * 5 = 5 + k * 5 := by omega
      have s1 : ∀ (t : List Value) (j : Nat) (u : Value), (cells5 x ++ t).set (5 + j) u = cells5 x ++ t.set j u := fun t j u => by
        rw [List.set_append_right _ _ (by simp)]
        congr 2
        simp
      rw [e1, s1, ← e1, e0 1, s1, e0 2, s1, e0 3, s1, e0 4, s1]

abbrev zero5 : E5 := (.int .i64 0, .int .i64 0, .string ⟨#[]⟩, .slice none 0 0, .slice none 0 0)
theorem flat_zero (n : Nat) : (madeCells #[.int .i64 0, .int .i64 0, .string ⟨#[]⟩, .slice none 0 0, .slice none 0 0] (n * 5)).toList = flat (List.replicate n zero5) := by
  apply List.ext_getElem?
  intro j
  by_cases hj : j < n * 5
  · have h1 := flat_at (List.replicate n zero5) (j / 5) (j % 5) (by simp; omega) (by omega)
    rw [show j / 5 * 5 + j % 5 = j by omega] at h1
    rw [h1, List.getElem_replicate]
    simp only [madeCells, Array.toList_map, Array.toList_range, List.getElem?_map, List.getElem?_range hj, Option.map_some]
    have h5 : j % 5 < 5 := by omega
    show some (#[Value.int .i64 0, .int .i64 0, .string ⟨#[]⟩, .slice none 0 0, .slice none 0 0][j % 5]!) = _
    match h : j % 5, h5 with
    | 0, _ => rfl
    | 1, _ => rfl
    | 2, _ => rfl
    | 3, _ => rfl
    | 4, _ => rfl
  · rw [List.getElem?_eq_none (by simp [madeCells]; omega), List.getElem?_eq_none (by rw [flat_len]; simp; omega)]

theorem holds_agg {C : Cond} {w : World} {v : Value} {x : V} (h : Holds C w v x) : ∃ k n s p a b q c d, v = .agg #[.int .i64 k, .int .i64 n, .string s, .slice p a b, .slice q c d] := by
  cases h with
  | mk k n s p cap K l ks b off c hr hp hc hK hl =>
    obtain ⟨q, qc, qb, qo, rfl, _⟩ := hK
    exact ⟨k, n, s, p, _, _, q, _, _, rfl⟩
theorem holds_parts {C : Cond} {w : World} {u0 u1 u2 u3 u4 : Value} {x : V} (h : Holds C w (.agg #[u0, u1, u2, u3, u4]) x) : ∃ k n s p a b q c d, u0 = .int .i64 k ∧ u1 = .int .i64 n ∧ u2 = .string s ∧ u3 = .slice p a b ∧ u4 = .slice q c d := by
  obtain ⟨k, n, s, p, a, b, q, c, d, e⟩ := holds_agg h
  simp only [Value.agg.injEq, Array.mk.injEq, List.cons.injEq, and_true] at e
  exact ⟨k, n, s, p, a, b, q, c, d, e⟩

/-- What holds between two rounds of cloned. -/
def ClonedAt (w : World) (l : List V) (k : Nat) (wr : World) : Prop :=
  ∃ es : List E5, es.length = l.length ∧ wr.ownsRow w.heap.size 26 5 (.slice (some ⟨w.heap.size, 0, none⟩) l.length l.length) l.length (flat es) ∧
    (∀ i (_ : i < k) (h1 : i < es.length) (h2 : i < l.length), Holds (But w.heap.size wr (some w.heap.size)) wr (agg5 es[i]) l[i]) ∧ Below w.heap.size w wr

abbrev put5 (w : World) (g k : Nat) (e : E5) : World :=
  ((((w.setCell ⟨g, k * 5, none⟩ e.1).setCell ⟨g, k * 5 + 1, none⟩ e.2.1).setCell ⟨g, k * 5 + 2, none⟩ e.2.2.1).setCell ⟨g, k * 5 + 3, none⟩ e.2.2.2.1).setCell ⟨g, k * 5 + 4, none⟩ e.2.2.2.2

theorem cloned_next {w wr w' : World} {l : List V} {k : Nat} {o : Obj} {e : E5} (h : ClonedAt w l k wr) (hk : k < l.length) (hb : Below (wr.alloc o).heap.size (wr.alloc o) w') (hA : Holds (Mine (wr.alloc o).heap.size w') w' (agg5 e) l[k]) :
    ClonedAt w l (k + 1) (put5 w' w.heap.size k e) := by
  obtain ⟨es, hes, hown, hold, hbel⟩ := h
  have hg : w.heap.size < wr.heap.size := (hown.lt w.heap.size rfl).2
  have zs : (wr.alloc o).heap.size = wr.heap.size + 1 := by simp
  have h1 := own_kept (hown.alloc o) hb
  have s5 := ((((h1.stored (k * 5) e.1).1.stored (k * 5 + 1) e.2.1).1.stored (k * 5 + 2) e.2.2.1).1.stored (k * 5 + 3) e.2.2.2.1).1.stored (k * 5 + 4) e.2.2.2.2
  have oth : ∀ b, b ≠ w.heap.size → (put5 w' w.heap.size k e).heap[b]? = w'.heap[b]? := fun b hne => by
    rw [heap_setCell_other _ _ _ _ (by simpa using hne), heap_setCell_other _ _ _ _ (by simpa using hne), heap_setCell_other _ _ _ _ (by simpa using hne), heap_setCell_other _ _ _ _ (by simpa using hne), heap_setCell_other _ _ _ _ (by simpa using hne)]
  have old : ∀ b, b < wr.heap.size → w'.heap[b]? = wr.heap[b]? := fun b hlt => by
    rw [hb.block b (by omega), Go.heap_alloc_old _ _ hlt]
  refine ⟨es.set k e, by simp [hes], ?_, fun i hi h1' h2 => ?_, ?_⟩
  · rw [← flat_set es k e (by omega)]
    exact s5.1
  · rcases Nat.lt_or_ge i k with hlt | hge
    · have e1 : (es.set k e)[i]'h1' = es[i]'(by omega) := by rw [List.getElem_set_ne (by omega)]
      rw [e1]
      refine (hold i hlt (by omega) h2).frame (fun t b off n hB => ?_) (fun t b off n hB => ?_)
      · rw [oth b (fun h => hB.2 (by rw [h])), old b hB.1.lt]
      · have hne : b ≠ w.heap.size := fun h => hB.2 (by rw [h])
        obtain ⟨⟨c1, c2, cur, c3⟩, c4⟩ := hB
        exact ⟨⟨c1, c2, cur, by rw [oth b hne, old b (Array.getElem?_eq_some_iff.1 c3).1]; exact c3⟩, c4⟩
    · have e0 : i = k := by omega
      subst e0
      have e1 : (es.set i e)[i]'h1' = e := by simp
      rw [e1]
      refine hA.frame (fun t b off n hB => oth b (by have := hB.1; omega)) (fun t b off n hB => ?_)
      have hne : b ≠ w.heap.size := by have := hB.1; omega
      obtain ⟨c1, c2, cur, c3⟩ := hB
      exact ⟨⟨by omega, c2, cur, by rw [oth b hne]; exact c3⟩, by simpa using hne⟩
  · have hb0 : Below w.heap.size w w' := (hbel.alloc (by omega) o).trans (hb.mono (by omega))
    exact ((((hb0.setCell (p := ⟨w.heap.size, k * 5, none⟩) (by simp) _).setCell (p := ⟨w.heap.size, k * 5 + 1, none⟩) (by simp) _).setCell (p := ⟨w.heap.size, k * 5 + 2, none⟩) (by simp) _).setCell (p := ⟨w.heap.size, k * 5 + 3, none⟩) (by simp) _).setCell (p := ⟨w.heap.size, k * 5 + 4, none⟩) (by simp) _

theorem cloned_end {w wr : World} {l : List V} (h : ClonedAt w l l.length wr) : Vals (Mine w.heap.size wr) wr (.slice (some ⟨w.heap.size, 0, none⟩) l.length l.length) l := by
  obtain ⟨es, hes, hown, hold, hbel⟩ := h
  refine ⟨_, l.length, w.heap.size, 0, fun i j => ((flat es)[i * 5 + j]?).getD undef, rfl, fun _ => ⟨rfl, Nat.le_refl _, rfl, ?_⟩, fun i j hi hj => ?_, fun i hi => ?_⟩
  · rcases hown.2 with ⟨h, _⟩ | ⟨g2, cap2, cur, hv, hb2, hh, _⟩
    · cases h
    · have e1 : g2 = w.heap.size := by simp at hv; omega
      subst e1
      exact ⟨cur, hh⟩
  · have h3 := hown.cellAt (i * 5 + j) (by omega)
    have : i * 5 + j < (flat es).length := by rw [flat_len, hes]; omega
    show wr.cell? ⟨w.heap.size, 0 + (i * 5 + j), none⟩ = some (((flat es)[i * 5 + j]?).getD undef)
    rw [List.getElem?_eq_getElem this] at h3 ⊢
    rw [Nat.zero_add]
    exact h3
  · have h1 := (hold i hi (by omega) hi).frame (C' := Mine w.heap.size wr) (fun _ _ _ _ _ => rfl) (fun _ _ _ _ h => h.1)
    have e : ∀ j, j < 5 → ((flat es)[i * 5 + j]?).getD undef = ((cells5 (es[i]'(by omega)))[j]?).getD undef := fun j hj => by rw [flat_at es i j (by omega) hj]
    show Holds _ _ (.agg #[((flat es)[i * 5 + 0]?).getD undef, ((flat es)[i * 5 + 1]?).getD undef, ((flat es)[i * 5 + 2]?).getD undef, ((flat es)[i * 5 + 3]?).getD undef, ((flat es)[i * 5 + 4]?).getD undef]) _
    rw [e 0 (by omega), e 1 (by omega), e 2 (by omega), e 3 (by omega), e 4 (by omega)]
    exact h1
end Go.Proofs.YtamenccdnobjkaaGreatDoor.Val

/-
  Contracts of the reader's innermost and put.
-/
namespace Go.Proofs.YtamenccdnobjkaaGreatDoor.Rd
open Go.RowKit Go.Proofs.YtamenccdnobjkaaGreatDoor.Oct Go.Proofs.YtamenccdnobjkaaGreatDoor.Val

/-- The row of those that have begun, where there is one. -/
theorem RdAt.row {N : Nat} {tag : Nat → Nat} {w : World} {R : Nat} {s : List UInt8} {fs : List Fr} {deep : Nat} {ov : Value} {es : List E5} (h : RdAt N tag w R s fs deep ov es) (hn : 0 < fs.length) :
    ∃ g cap, ov = .slice (some ⟨g, 0, none⟩) fs.length cap ∧ tag g = 3 := by
  rcases h.own.2 with ⟨_, h0⟩ | ⟨g, cap, cur, hv, _⟩
  · omega
  · exact ⟨g, cap, hv, h.omark g (by rw [hv]; rfl)⟩

set_option maxHeartbeats 1000000 in
theorem innermost_c (R g m cap : Nat) (s : ByteArray) (dv : Value) (w : World) (hm : m + 1 ≤ 4611686018427387904) (h : Rd R s (.slice (some ⟨g, 0, none⟩) (m + 1) cap) dv w) :
    Calls Tryz.prog 62 #[.pointer (some ⟨R, 0, none⟩)] w fun e w' => e = .returned (.pointer (some ⟨g, m * 5, none⟩)) ∧ Below w.heap.size w w' := by
  have c1 := h.cell1
  have e1 : IntKind.i64.wrap ((m : Int) + 1 - 1) = (m : Int) := by rw [IntKind.wrap_i64]; omega
  have h0 : (0 : Int) ≤ (m : Int) := by omega
  have h1 : (m : Int) < (m : Int) + 1 := by omega
  clear h
  go_enter Tryz.func62, Tryz.ntmps62
  go_wp2_with fail
  go_quiet (fail)
  rename_i nq _
  go_wp2
  go_ret
  exact ⟨rfl, below_drewN (Below.refl _ _) _⟩

theorem slot_set {es : List E5} {m i : Nat} (hm : m < es.length) (hi : i < 5) (v : Value) : (flat es).set (m * 5 + i) v = flat (es.set m (match i with | 0 => (v, (es[m]).2) | 1 => (es[m].1, v, es[m].2.2) | 2 => (es[m].1, es[m].2.1, v, es[m].2.2.2) | 3 => (es[m].1, es[m].2.1, es[m].2.2.1, v, es[m].2.2.2.2) | _ => (es[m].1, es[m].2.1, es[m].2.2.1, es[m].2.2.2.1, v))) := by
  induction es generalizing m with
  | nil => cases hm
  | cons x es ih =>
    have ef : ∀ y (t : List E5), flat (y :: t) = cells5 y ++ flat t := fun _ _ => rfl
    cases m with
    | zero =>
      rw [ef, List.set_cons_zero, ef, Nat.zero_mul, Nat.zero_add]
      match i, hi with
      | 0, _ => rfl
      | 1, _ => rfl
      | 2, _ => rfl
      | 3, _ => rfl
      | 4, _ => rfl
    | succ m =>
      have hm' : m < es.length := by simpa using hm
      rw [ef, show (m + 1) * 5 + i = 5 + (m * 5 + i) by omega, List.set_append_right _ _ (by simp), List.set_cons_succ, ef]
      have e1 : 5 + (m * 5 + i) - (cells5 x).length = m * 5 + i := by simp
      rw [e1, ih hm']
      rfl

theorem slot_at {es : List E5} {m i : Nat} (hm : m < es.length) (hi : i < 5) {W : World} {N n : Nat} {ov : Value} {g : Nat} (h : W.ownsRow N 26 5 ov n (flat es)) (hg : ov.ownBlock = some g) (hn : es.length = n) (hov : ∃ cap, ov = .slice (some ⟨g, 0, none⟩) n cap) : W.cell? ⟨g, m * 5 + i, none⟩ = (cells5 es[m])[i]? := by
  obtain ⟨cap, rfl⟩ := hov
  rw [h.cellAt (m * 5 + i) (by omega), flat_at es m i hm hi]

/-- The block that put's append leaves is another than the row of those that have begun. -/
theorem put_ne {N : Nat} {tag : Nat → Nat} {W : World} {R : Nat} {s : List UInt8} {fs : List Fr} {deep : Nat} {ov : Value} {es : List E5} (h : RdAt N tag W R s fs deep ov es)
    {g0 cap0 n0 i : Nat} (hov : ov = .slice (some ⟨g0, 0, none⟩) n0 cap0) {f : Fr} {L K : Value} {ys : List E5} {e : E5} (hf : FrAt N tag W i f e L K ys) {g H : Nat} (hat : L.ownBlock = some g ∨ g = H) (hH : W.heap.size ≤ H) : ¬ g = g0 ∧ ¬ g0 = g := by
  have h2 := h.omark g0 (by rw [hov]; rfl)
  have h3 := (own_lt h.own (r := g0) (by rw [hov]; rfl)).2
  have : g ≠ g0 := by
    rintro rfl
    rcases hat with h1 | h1
    · have := hf.mark _ h1; omega
    · omega
  exact ⟨this, Ne.symm this⟩

/-- Behind put's append: what its two stores want. -/
theorem put_facts {N : Nat} {tag : Nat → Nat} {W wB : World} {R : Nat} {s : List UInt8} {fs : List Fr} {f : Fr} {deep : Nat} {ov : Value} {es : List E5} (h : RdAt N tag W R s (fs ++ [f]) deep ov es)
    {g0 cap0 : Nat} (hov : ov = .slice (some ⟨g0, 0, none⟩) (fs ++ [f]).length cap0) {L K : Value} {ys : List E5} {e : E5} (hf : FrAt N tag W fs.length f e L K ys) (he : ∀ h', es[fs.length]'h' = e) {o : Obj} {g cap : Nat}
    (hown : wB.ownsRow N 26 5 (.slice (some ⟨g, 0, none⟩) (f.xs.length + 1) cap) (f.xs.length + 1) (flat ys ++ cells5 zero5)) (hg : (W.alloc o).grownBy wB L.ownBlock) :
    (wB.cell? ⟨g, f.xs.length * 5, none⟩ = some (.int .i64 0) ∧ wB.cell? ⟨g, f.xs.length * 5 + 1, none⟩ = some (.int .i64 0) ∧ wB.cell? ⟨g, f.xs.length * 5 + 2, none⟩ = some (.string ⟨#[]⟩) ∧ wB.cell? ⟨g, f.xs.length * 5 + 3, none⟩ = some (.slice none 0 0) ∧ wB.cell? ⟨g, f.xs.length * 5 + 4, none⟩ = some (.slice none 0 0)) ∧
    (wB.frozen? ⟨g, f.xs.length * 5, none⟩ = false ∧ wB.frozen? ⟨g, f.xs.length * 5 + 1, none⟩ = false ∧ wB.frozen? ⟨g, f.xs.length * 5 + 2, none⟩ = false ∧ wB.frozen? ⟨g, f.xs.length * 5 + 3, none⟩ = false ∧ wB.frozen? ⟨g, f.xs.length * 5 + 4, none⟩ = false) ∧
    wB.cell? ⟨g0, fs.length * 5 + 3, none⟩ = some L ∧ wB.frozen? ⟨g0, fs.length * 5 + 3, none⟩ = false := by
  have hl : (flat ys).length = f.xs.length * 5 := by rw [flat_len, hf.len]
  have hc : ∀ i, i < 5 → wB.cell? ⟨g, f.xs.length * 5 + i, none⟩ = (cells5 zero5)[i]? := fun i hi => by
    rw [hown.cellAt (f.xs.length * 5 + i) (by omega), List.getElem?_append_right (by omega), hl]
    congr 1
    omega
  have hz : ∀ i, wB.frozen? ⟨g, i, none⟩ = false := fun i => hown.frozenAt i
  have hfl : (fs ++ [f]).length = fs.length + 1 := by simp
  have hg0 : g0 < W.heap.size := (own_lt h.own (r := g0) (by rw [hov]; rfl)).2
  have hblk : wB.heap[g0]? = W.heap[g0]? := by
    rw [hg.block g0 (by simp; omega) (fun e => by have h1 := hf.mark g0 e.symm; have h2 := h.omark g0 (by rw [hov]; rfl); omega), Go.heap_alloc_old _ _ hg0]
  have hown0 : wB.ownsRow N 26 5 ov (fs ++ [f]).length (flat es) := own_at h.own fun k hk => by
    rw [hov] at hk
    have : k = g0 := by injection hk with hk; exact hk.symm
    rw [this]; exact hblk
  refine ⟨⟨hc 0 (by omega), hc 1 (by omega), hc 2 (by omega), hc 3 (by omega), hc 4 (by omega)⟩, ⟨hz _, hz _, hz _, hz _, hz _⟩, ?_, ?_⟩
  · rw [slot_at (es := es) (m := fs.length) (by rw [h.len]; omega) (by omega) hown0 (by rw [hov]; rfl) h.len ⟨cap0, hov⟩, he, hf.e]
    rfl
  · rw [hov] at hown0
    exact hown0.frozenAt _

theorem put_done {N : Nat} {tag : Nat → Nat} {W wB Z : World} {R : Nat} {s : List UInt8} {fs : List Fr} {f : Fr} {deep : Nat} {ov : Value} {es : List E5} (h : RdAt N tag W R s (fs ++ [f]) deep ov es)
    {g0 cap0 : Nat} (hov : ov = .slice (some ⟨g0, 0, none⟩) (fs ++ [f]).length cap0) {L K : Value} {ys : List E5} {e : E5} (hf : FrAt N tag W fs.length f e L K ys) {u : E5} {x : V} (hx : Holds (Dn N tag W) W (agg5 u) x) {o : Obj} {g cap : Nat}
    (hg : (W.alloc o).grownBy wB L.ownBlock) (hat : L.ownBlock = some g ∨ g = W.heap.size + 1) (hlt : g < wB.heap.size)
    (hZ1 : ∀ b, b ≠ g → b ≠ g0 → Z.heap[b]? = wB.heap[b]?) (hZs : Z.heap.size = wB.heap.size ∧ Z.os = wB.os ∧ Z.tape = wB.tape ∧ Z.output = wB.output)
    (hZg : Z.ownsRow N 26 5 (.slice (some ⟨g, 0, none⟩) (f.xs.length + 1) cap) (f.xs.length + 1) (flat (ys ++ [u])))
    (hZ0 : Z.ownsRow N 26 5 ov (fs ++ [f]).length (flat (es.set fs.length (.int .i64 f.kind, .int .i64 0, .string ⟨#[]⟩, .slice (some ⟨g, 0, none⟩) (f.xs.length + 1) cap, K)))) :
    ∃ tag' ov' es', RdAt N tag' Z R s (fs ++ [{ f with xs := f.xs ++ [x] }]) deep ov' es' ∧ Kp tag tag' W Z := by
  have hg3 := h.omark g0 (by rw [hov]; rfl)
  have hsz : W.heap.size + 1 ≤ wB.heap.size := by have := hg.size; simp at this; exact this
  have hgm : W.heap.size ≤ g ∨ tag g = 4 + 2 * fs.length := by
    rcases hat with h1 | h1
    · exact .inr (hf.mark _ h1)
    · exact .inl (by omega)
  have hgN : N ≤ g := by
    rcases hat with h1 | h1
    · exact (own_lt hf.rows h1).1
    · have := h.size; omega
  have hne : ∀ b, b < W.heap.size → tag b ≠ 4 + 2 * fs.length → b ≠ g := fun b hb ht e => by
    subst e
    rcases hgm with h1 | h1
    · omega
    · exact ht h1
  have hW : ∀ b, b < W.heap.size → tag b ≠ 4 + 2 * fs.length → tag b ≠ 3 → Z.heap[b]? = W.heap[b]? := fun b hb h4 h3 => by
    rw [hZ1 b (hne b hb h4) (fun e => h3 (by rw [e]; exact hg3)), hg.block b (by simp; omega) (fun e => h4 (hf.mark b e.symm)), Go.heap_alloc_old _ _ hb]
  have hT : ∀ b, b < W.heap.size → tag b ≠ 4 + 2 * fs.length → (if b = g then 4 + 2 * fs.length else tag b) = tag b := fun b hb h4 => if_neg (hne b hb h4)
  have hlen : es.length = fs.length + 1 := by rw [h.len]; simp
  have hd : ∀ v y, Holds (Dn N tag W) W v y → Holds (Dn N (fun b => if b = g then 4 + 2 * fs.length else tag b) Z) Z v y := fun v y hv =>
    holds_dn hv (fun b hb h0 => hW b hb (by omega) (by omega)) (fun b hb h0 => by rw [hT b hb (by omega)]; exact h0)
  refine ⟨fun b => if b = g then 4 + 2 * fs.length else tag b, ov, es.set fs.length (.int .i64 f.kind, .int .i64 0, .string ⟨#[]⟩, .slice (some ⟨g, 0, none⟩) (f.xs.length + 1) cap, K), ?_, ?_⟩
  · refine ⟨?_, ?_, ?_, ?_, ?_, ?_, ?_, ?_⟩
    · unfold Rd; rw [hW R h.rd.lt (by rw [h.rmark]; omega) (by rw [h.rmark]; omega)]; exact h.rd
    · have e1 : (fs ++ [{ f with xs := f.xs ++ [x] }]).length = (fs ++ [f]).length := by simp
      rw [e1]; exact hZ0
    · simp [hlen]
    · intro i h1 h2
      rcases Nat.lt_or_ge i fs.length with hi | hi
      · have e1 : (es.set fs.length (Value.int .i64 f.kind, Value.int .i64 0, Value.string ⟨#[]⟩, Value.slice (some ⟨g, 0, none⟩) (f.xs.length + 1) cap, K))[i]'h1 = es[i]'(by omega) := by rw [List.getElem_set_ne (by omega)]
        have e2 : (fs ++ [{ f with xs := f.xs ++ [x] }])[i]'h2 = (fs ++ [f])[i]'(by simp; omega) := by rw [List.getElem_append_left hi, List.getElem_append_left hi]
        obtain ⟨L2, K2, ys2, hf2⟩ := h.frs i (by omega) (by simp; omega)
        rw [e1, e2]
        exact ⟨L2, K2, ys2, hf2.frame fun b hb ht => ⟨hW b hb (by omega) (by omega), hT b hb (by omega)⟩⟩
      · have hie : i = fs.length := by simp at h2; omega
        subst hie
        have e1 : (es.set fs.length (Value.int .i64 f.kind, Value.int .i64 0, Value.string ⟨#[]⟩, Value.slice (some ⟨g, 0, none⟩) (f.xs.length + 1) cap, K))[fs.length]'h1 = (Value.int .i64 f.kind, Value.int .i64 0, Value.string ⟨#[]⟩, Value.slice (some ⟨g, 0, none⟩) (f.xs.length + 1) cap, K) := by simp
        have e2 : (fs ++ [{ f with xs := f.xs ++ [x] }])[fs.length]'h2 = { f with xs := f.xs ++ [x] } := by simp
        rw [e1, e2]
        refine ⟨_, K, ys ++ [u], ⟨rfl, hf.kind, ?_, by simp [hf.len], ?_, ?_, ?_, ?_, hf.small⟩⟩
        · have e3 : (f.xs ++ [x]).length = f.xs.length + 1 := by simp
          rw [e3]; exact hZg
        · intro j j1 j2
          rcases Nat.lt_or_ge j ys.length with hj | hj
          · have e3 : (ys ++ [u])[j]'j1 = ys[j] := List.getElem_append_left hj
            have e4 : (f.xs ++ [x])[j]'j2 = f.xs[j]'(by rw [← hf.len]; exact hj) := List.getElem_append_left (by rw [← hf.len]; exact hj)
            rw [e3]
            show Holds _ _ _ ((f.xs ++ [x])[j]'j2)
            rw [e4]
            exact hd _ _ (hf.vals j hj (by rw [← hf.len]; exact hj))
          · have hje : j = ys.length := by simp at j1; omega
            subst hje
            have e3 : (ys ++ [u])[ys.length]'j1 = u := by simp
            have e4 : (f.xs ++ [x])[ys.length]'j2 = x := by simp [hf.len]
            rw [e3]
            show Holds _ _ _ ((f.xs ++ [x])[ys.length]'j2)
            rw [e4]
            exact hd _ _ hx
        · intro b hb
          injection hb with hb
          have hb' : b = g := hb.symm
          rw [hb', if_pos rfl]
        · exact own_at hf.keys fun k hk => hW k (own_lt hf.keys hk).2 (by rw [hf.kmark k hk]; omega) (by rw [hf.kmark k hk]; omega)
        · intro b hb
          rw [hT b (own_lt hf.keys hb).2 (by rw [hf.kmark b hb]; omega)]
          exact hf.kmark b hb
    · rw [hT R h.rd.lt (by rw [h.rmark]; omega)]; exact h.rmark
    · intro b hb
      rw [hT b (own_lt h.own hb).2 (by rw [h.omark b hb]; omega)]
      exact h.omark b hb
    · intro b hb
      have hbg : b ≠ g := by rintro rfl; omega
      show (if b = g then _ else _) = 1
      rw [if_neg hbg]
      exact h.out b (by omega)
    · have := h.size; omega
  · refine ⟨hZs.2.1.trans hg.os, hZs.2.2.1.trans hg.tape, hZs.2.2.2.trans hg.output, by omega, fun b hb ht => ⟨hW b hb (by omega) (by omega), hT b hb (by omega)⟩⟩


/-- Five cells are written, at a place. -/
def at5 (W : World) (g o : Nat) (v0 v1 v2 v3 v4 : Value) : World :=
  ((((W.setCell ⟨g, o, none⟩ v0).setCell ⟨g, o + 1, none⟩ v1).setCell ⟨g, o + 2, none⟩ v2).setCell ⟨g, o + 3, none⟩ v3).setCell ⟨g, o + 4, none⟩ v4
theorem at5_other (W : World) {g o b : Nat} (v0 v1 v2 v3 v4 : Value) (h : b ≠ g) : (at5 W g o v0 v1 v2 v3 v4).heap[b]? = W.heap[b]? := by
  unfold at5
  rw [heap_setCell_other _ _ _ _ (by simpa using h), heap_setCell_other _ _ _ _ (by simpa using h), heap_setCell_other _ _ _ _ (by simpa using h), heap_setCell_other _ _ _ _ (by simpa using h), heap_setCell_other _ _ _ _ (by simpa using h)]
/-- As large, and the streams as they were. -/
def SameF (Z W : World) : Prop := Z.heap.size = W.heap.size ∧ Z.os = W.os ∧ Z.tape = W.tape ∧ Z.output = W.output
theorem SameF.trans {a b c : World} (h : SameF a b) (k : SameF b c) : SameF a c := ⟨h.1.trans k.1, h.2.1.trans k.2.1, h.2.2.1.trans k.2.2.1, h.2.2.2.trans k.2.2.2⟩
theorem set_frame (W : World) (a : Addr) (v : Value) : SameF (W.setCell a v) W := ⟨by simp [World.setCell], rfl, rfl, rfl⟩
theorem at5_frame (W : World) (g o : Nat) (v0 v1 v2 v3 v4 : Value) : SameF (at5 W g o v0 v1 v2 v3 v4) W :=
  (set_frame _ _ _).trans ((set_frame _ _ _).trans ((set_frame _ _ _).trans ((set_frame _ _ _).trans (set_frame _ _ _))))

/-- The last value of a row is written whole. -/
theorem last_row {N n : Nat} {W : World} {g cap : Nat} {ys : List E5} (hn : ys.length = n) (h : W.ownsRow N 26 5 (.slice (some ⟨g, 0, none⟩) (n + 1) cap) (n + 1) (flat ys ++ cells5 zero5)) (u0 u1 u2 u3 u4 : Value) :
    (at5 W g (n * 5) u0 u1 u2 u3 u4).ownsRow N 26 5 (.slice (some ⟨g, 0, none⟩) (n + 1) cap) (n + 1) (flat (ys ++ [(u0, u1, u2, u3, u4)])) := by
  have s5 := ((((h.stored (n * 5) u0).1.stored (n * 5 + 1) u1).1.stored (n * 5 + 2) u2).1.stored (n * 5 + 3) u3).1.stored (n * 5 + 4) u4
  have e1 := flat_set (ys ++ [zero5]) n (u0, u1, u2, u3, u4) (by simp; omega)
  rw [← flat_snoc] at e1
  have e2 : (ys ++ [zero5]).set n (u0, u1, u2, u3, u4) = ys ++ [(u0, u1, u2, u3, u4)] := by
    rw [List.set_append_right _ _ (by omega), hn, Nat.sub_self, List.set_cons_zero]
  rw [e2] at e1
  rw [← e1]
  unfold at5
  exact s5.1

theorem put_shape {N : Nat} {tag : Nat → Nat} {W wB : World} {R : Nat} {s : List UInt8} {fs : List Fr} {f : Fr} {deep : Nat} {ov : Value} {es : List E5} (h : RdAt N tag W R s (fs ++ [f]) deep ov es)
    {g0 cap0 : Nat} (hov : ov = .slice (some ⟨g0, 0, none⟩) (fs ++ [f]).length cap0) {L K : Value} {ys : List E5} {e : E5} (hf : FrAt N tag W fs.length f e L K ys) (he : ∀ h', es[fs.length]'h' = e) {o : Obj} {g cap : Nat}
    (hown : wB.ownsRow N 26 5 (.slice (some ⟨g, 0, none⟩) (f.xs.length + 1) cap) (f.xs.length + 1) (flat ys ++ cells5 zero5)) (hg : (W.alloc o).grownBy wB L.ownBlock) (hne : ¬ g = g0) (u0 u1 u2 u3 u4 : Value) {Z : World}
    (hZ : Z = (at5 wB g (f.xs.length * 5) u0 u1 u2 u3 u4).setCell ⟨g0, fs.length * 5 + 3, none⟩ (.slice (some ⟨g, 0, none⟩) (f.xs.length + 1) cap) ∨ Z = at5 (wB.setCell ⟨g0, fs.length * 5 + 3, none⟩ (.slice (some ⟨g, 0, none⟩) (f.xs.length + 1) cap)) g (f.xs.length * 5) u0 u1 u2 u3 u4) :
    (∀ b, b ≠ g → b ≠ g0 → Z.heap[b]? = wB.heap[b]?) ∧ SameF Z wB ∧
    Z.ownsRow N 26 5 (.slice (some ⟨g, 0, none⟩) (f.xs.length + 1) cap) (f.xs.length + 1) (flat (ys ++ [(u0, u1, u2, u3, u4)])) ∧
    Z.ownsRow N 26 5 ov (fs ++ [f]).length (flat (es.set fs.length (.int .i64 f.kind, .int .i64 0, .string ⟨#[]⟩, .slice (some ⟨g, 0, none⟩) (f.xs.length + 1) cap, K))) := by
  have hg0 : g0 < W.heap.size := (own_lt h.own (r := g0) (by rw [hov]; rfl)).2
  have hblk : wB.heap[g0]? = W.heap[g0]? := by
    rw [hg.block g0 (by simp; omega) (fun e => by have h1 := hf.mark g0 e.symm; have h2 := h.omark g0 (by rw [hov]; rfl); omega), Go.heap_alloc_old _ _ hg0]
  have hown0 : wB.ownsRow N 26 5 ov (fs ++ [f]).length (flat es) := own_at h.own fun k hk => by
    rw [hov] at hk
    have : k = g0 := by injection hk with hk; exact hk.symm
    rw [this]; exact hblk
  have hm : fs.length < es.length := by rw [h.len]; simp
  have e1 := slot_set (es := es) (m := fs.length) (i := 3) hm (by omega) (.slice (some ⟨g, 0, none⟩) (f.xs.length + 1) cap)
  simp only [he hm, hf.e] at e1
  have hlen := hf.len
  subst hov
  have set0 : ∀ {X : World}, X.ownsRow N 26 5 (.slice (some ⟨g0, 0, none⟩) (fs ++ [f]).length cap0) (fs ++ [f]).length (flat es) →
      (X.setCell ⟨g0, fs.length * 5 + 3, none⟩ (.slice (some ⟨g, 0, none⟩) (f.xs.length + 1) cap)).ownsRow N 26 5 (.slice (some ⟨g0, 0, none⟩) (fs ++ [f]).length cap0) (fs ++ [f]).length (flat (es.set fs.length (.int .i64 f.kind, .int .i64 0, .string ⟨#[]⟩, .slice (some ⟨g, 0, none⟩) (f.xs.length + 1) cap, K))) := fun hX => by
    rw [← e1]
    exact (hX.stored _ _).1
  obtain ⟨L2, hL2⟩ : ∃ L2, L2 = Value.slice (some ⟨g, 0, none⟩) (f.xs.length + 1) cap := ⟨_, rfl⟩
  have ob : L2.ownBlock = some g := by rw [hL2]; rfl
  have ob0 : (Value.slice (some ⟨g0, 0, none⟩) (fs ++ [f]).length cap0).ownBlock = some g0 := rfl
  have hr : ∀ {X : World}, X.ownsRow N 26 5 L2 (f.xs.length + 1) (flat ys ++ cells5 zero5) → (at5 X g (f.xs.length * 5) u0 u1 u2 u3 u4).ownsRow N 26 5 L2 (f.xs.length + 1) (flat (ys ++ [(u0, u1, u2, u3, u4)])) := fun hX => by
    rw [hL2] at hX ⊢
    exact last_row hlen hX u0 u1 u2 u3 u4
  rw [← hL2] at hown hZ ⊢
  rw [← hL2] at set0
  generalize Value.slice (some ⟨g0, 0, none⟩) (fs ++ [f]).length cap0 = o2 at *
  generalize flat (es.set fs.length (Value.int .i64 f.kind, Value.int .i64 0, Value.string ⟨#[]⟩, L2, K)) = F2 at set0 ⊢
  generalize f.xs.length * 5 = p1 at hr hZ
  generalize fs.length * 5 + 3 = p2 at set0 hZ
  have so : ∀ (X : World) (v : Value) (k : Nat), k ≠ g0 → (X.setCell ⟨g0, p2, none⟩ v).heap[k]? = X.heap[k]? := fun X v k h => heap_setCell_other X _ k v (by simpa using h)
  rcases hZ with rfl | rfl
  · refine ⟨fun b h1 h2 => (so _ _ _ h2).trans (at5_other _ _ _ _ _ _ h1), (set_frame _ _ _).trans (at5_frame _ _ _ _ _ _ _ _), ?_, ?_⟩
    · exact own_at (hr hown) fun k hk => so _ _ _ (by rw [ob] at hk; injection hk with hk; rw [← hk]; exact hne)
    · exact set0 (own_at hown0 fun k hk => at5_other _ _ _ _ _ _ (by rw [ob0] at hk; injection hk with hk; rw [← hk]; exact Ne.symm hne))
  · refine ⟨fun b h1 h2 => (at5_other _ _ _ _ _ _ h1).trans (so _ _ _ h2), (at5_frame _ _ _ _ _ _ _ _).trans (set_frame _ _ _), ?_, ?_⟩
    · exact hr (own_at hown fun k hk => so _ _ _ (by rw [ob] at hk; injection hk with hk; rw [← hk]; exact hne))
    · exact own_at (set0 hown0) fun k hk => at5_other _ _ _ _ _ _ (by rw [ob0] at hk; injection hk with hk; rw [← hk]; exact Ne.symm hne)

theorem put_fin {N : Nat} {tag : Nat → Nat} {w W wB : World} {R : Nat} {s : List UInt8} {fs : List Fr} {f : Fr} {deep : Nat} {ov : Value} {es : List E5} (hkw : Kp tag tag w W) (h : RdAt N tag W R s (fs ++ [f]) deep ov es)
    {g0 cap0 : Nat} (hov : ov = .slice (some ⟨g0, 0, none⟩) (fs ++ [f]).length cap0) {L K : Value} {ys : List E5} {e : E5} (hf : FrAt N tag W fs.length f e L K ys) (he : ∀ h', es[fs.length]'h' = e) {o : Obj} {g cap : Nat}
    (hown : wB.ownsRow N 26 5 (.slice (some ⟨g, 0, none⟩) (f.xs.length + 1) cap) (f.xs.length + 1) (flat ys ++ cells5 zero5)) (hg : (W.alloc o).grownBy wB L.ownBlock) (hat : L.ownBlock = some g ∨ g = W.heap.size + 1) (hlt : g < wB.heap.size) (hne : ¬ g = g0)
    {u0 u1 u2 u3 u4 : Value} {x : V} (hx : Holds (Dn N tag W) W (.agg #[u0, u1, u2, u3, u4]) x) (Z : World)
    (hZ : Z = (((((wB.setCell ⟨g, f.xs.length * 5, none⟩ u0).setCell ⟨g, f.xs.length * 5 + 1, none⟩ u1).setCell ⟨g, f.xs.length * 5 + 2, none⟩ u2).setCell ⟨g, f.xs.length * 5 + 3, none⟩ u3).setCell ⟨g, f.xs.length * 5 + 4, none⟩ u4).setCell ⟨g0, fs.length * 5 + 3, none⟩ (.slice (some ⟨g, 0, none⟩) (f.xs.length + 1) cap) ∨
      Z = (((((wB.setCell ⟨g0, fs.length * 5 + 3, none⟩ (.slice (some ⟨g, 0, none⟩) (f.xs.length + 1) cap)).setCell ⟨g, f.xs.length * 5, none⟩ u0).setCell ⟨g, f.xs.length * 5 + 1, none⟩ u1).setCell ⟨g, f.xs.length * 5 + 2, none⟩ u2).setCell ⟨g, f.xs.length * 5 + 3, none⟩ u3).setCell ⟨g, f.xs.length * 5 + 4, none⟩ u4) :
    Ending.returned (.tuple #[]) = .returned (.tuple #[]) ∧ ∃ tag' ov' es', RdAt N tag' Z R s (fs ++ [{ f with xs := f.xs ++ [x] }]) deep ov' es' ∧ Kp tag tag' w Z := by
  have hs := put_shape h hov hf he hown hg hne u0 u1 u2 u3 u4 (Z := Z) (by unfold at5; exact hZ)
  obtain ⟨t', o', e', h1, h2⟩ := put_done (u := (u0, u1, u2, u3, u4)) h hov hf hx hg hat hlt hs.1 hs.2.1 hs.2.2.1 hs.2.2.2
  exact ⟨rfl, t', o', e', h1, hkw.trans h2⟩
end Go.Proofs.YtamenccdnobjkaaGreatDoor.Rd

/-
  The reader's lists and records that have begun: one ends, one begins (what holds in memory).
-/
namespace Go.Proofs.YtamenccdnobjkaaGreatDoor.Rd
open Go.RowKit Go.Proofs.YtamenccdnobjkaaGreatDoor.Oct Go.Proofs.YtamenccdnobjkaaGreatDoor.Val

/-- The value that one is, when it has ended. -/
abbrev Fr.val (f : Fr) : V := .mk f.kind 0 ⟨#[]⟩ f.xs f.ks

theorem flat_take (es : List E5) (m : Nat) (h : m ≤ es.length) : (flat es).take (m * 5) = flat (es.take m) := by
  induction es generalizing m with
  | nil => simp [flat]
  | cons x es ih =>
    have ef : ∀ y (t : List E5), flat (y :: t) = cells5 y ++ flat t := fun _ _ => rfl
    cases m with
    | zero => simp [flat]
    | succ m =>
      rw [ef, List.take_succ_cons, ef, show (m + 1) * 5 = (cells5 x).length + m * 5 by simp; omega, List.take_append, Nat.add_sub_cancel_left]
      rw [List.take_of_length_le (by omega), ih m (by simpa using h)]

theorem cell_own {w : World} {base size n : Nat} {e : TypeId} {v : Value} {xs : List Value} (h : w.ownsRow base e size v n xs) {g cap : Nat} (hv : v = .slice (some ⟨g, 0, none⟩) n cap) (j : Nat) (hj : j < n * size) : w.cell? ⟨g, j, none⟩ = xs[j]? := by
  subst hv
  exact h.cellAt j hj

/-- One that has ended reads as its value, where its two blocks bear the mark 0 from now on. -/
theorem fr_holds {N : Nat} {tag tag' : Nat → Nat} {w w' : World} {i : Nat} {f : Fr} {e : E5} {L K : Value} {ys : List E5} (h : FrAt N tag w i f e L K ys)
    (hb : ∀ b, b < w.heap.size → (tag b = 0 ∨ tag b = 4 + 2 * i ∨ tag b = 5 + 2 * i) → w'.heap[b]? = w.heap[b]? ∧ tag' b = 0)
    (hxs : f.xs.length * 80 ≤ 140737488351232) (hks : f.ks.length * 16 ≤ 140737488351232) : Holds (Dn N tag' w') w' (agg5 e) f.val := by
  have hv : ∀ v y, Holds (Dn N tag w) w v y → Holds (Dn N tag' w') w' v y := fun v y hv => holds_dn hv (fun b hl h0 => (hb b hl (.inl h0)).1) (fun b hl h0 => (hb b hl (.inl h0)).2)
  have hrow := own_at h.rows (w' := w') fun k hk => (hb k (own_lt h.rows hk).2 (.inr (.inl (h.mark k hk)))).1
  have hkey := own_at h.keys (w' := w') fun k hk => (hb k (own_lt h.keys hk).2 (.inr (.inr (h.kmark k hk)))).1
  obtain ⟨lp, lc, hL⟩ := own_slice h.rows
  obtain ⟨kp, kc, hK⟩ := own_slice h.keys
  rw [h.e]
  have hlen := h.len
  have big : -9223372036854775808 ≤ f.kind ∧ f.kind ≤ 9223372036854775807 := by rcases h.kind with h | h <;> rw [h] <;> decide
  obtain ⟨g, hg⟩ : ∃ g, 0 < f.xs.length → lp = some ⟨g, 0, none⟩ ∧ Dn N tag' w' false g 0 f.xs.length := by
    rcases hrow.2 with ⟨_, h0⟩ | ⟨g, cap, cur, hv, hbg, hh, _⟩
    · exact ⟨0, fun h => absurd h (by omega)⟩
    · rw [hL] at hv
      injection hv with h1 h2 h3
      exact ⟨g, fun _ => ⟨h1, ⟨hbg, rfl, cur, hh⟩, (hb g (own_lt h.rows (by rw [hL, h1]; rfl)).2 (.inr (.inl (h.mark g (by rw [hL, h1]; rfl))))).2⟩⟩
  obtain ⟨q, hq⟩ : ∃ q, 0 < f.ks.length → kp = some ⟨q, 0, none⟩ ∧ Dn N tag' w' true q 0 f.ks.length := by
    rcases hkey.2 with ⟨_, h0⟩ | ⟨g, cap, cur, hv, hbg, hh, _⟩
    · exact ⟨0, fun h => absurd h (by omega)⟩
    · rw [hK] at hv
      injection hv with h1 h2 h3
      exact ⟨g, fun _ => ⟨h1, ⟨hbg, rfl, cur, hh⟩, (hb g (own_lt h.keys (by rw [hK, h1]; rfl)).2 (.inr (.inr (h.kmark g (by rw [hK, h1]; rfl))))).2⟩⟩
  have key : ∀ i j, i < f.xs.length → j < 5 → (flat ys)[i * 5 + j]? = some (((flat ys)[i * 5 + j]?).getD undef) := by
    intro i j hi hj
    have : i * 5 + j < (flat ys).length := by rw [flat_len, hlen]; omega
    rw [List.getElem?_eq_getElem this]; rfl
  have hz : (⟨#[]⟩ : ByteArray).size ≤ 140737488351232 := by decide
  show Holds _ _ (.agg #[.int .i64 f.kind, .int .i64 0, .string ⟨#[]⟩, L, K]) _
  rw [hL]
  refine .mk f.kind 0 ⟨#[]⟩ lp lc K f.xs f.ks g 0 (fun i j => ((flat ys)[i * 5 + j]?).getD undef) ⟨big.1, big.2, by decide, by decide, hz, hxs⟩ (fun h0 => hg h0) (fun i j hi hj => ?_) ?_ (fun i hi => ?_)
  · obtain ⟨h1, _⟩ := hg (by omega)
    have h3 := cell_own hrow (g := g) (cap := lc) (by rw [hL, h1]) (i * 5 + j) (by omega)
    rw [key i j hi hj] at h3
    rw [Nat.zero_add]
    exact h3
  · refine ⟨kp, kc, q, 0, hK, ⟨hks, h.small⟩, hq, fun i hi => ?_⟩
    obtain ⟨h1, _⟩ := hq (by omega)
    have h3 := cell_own hkey (g := q) (cap := kc) (by rw [hK, h1]) i (by omega)
    rw [Nat.zero_add, h3]
    simp [hi]
  · have h1 := hv _ _ (h.vals i (by omega) hi)
    have e : ∀ j, j < 5 → ((flat ys)[i * 5 + j]?).getD undef = ((cells5 (ys[i]'(by omega)))[j]?).getD undef := fun j hj => by rw [flat_at ys i j (by omega) hj]
    show Holds _ _ (.agg #[((flat ys)[i * 5 + 0]?).getD undef, ((flat ys)[i * 5 + 1]?).getD undef, ((flat ys)[i * 5 + 2]?).getD undef, ((flat ys)[i * 5 + 3]?).getD undef, ((flat ys)[i * 5 + 4]?).getD undef]) _
    rw [e 0 (by omega), e 1 (by omega), e 2 (by omega), e 3 (by omega), e 4 (by omega)]
    exact h1
end Go.Proofs.YtamenccdnobjkaaGreatDoor.Rd

/-
  Contracts of the page's answers on what an octet is: a letter, a digit; they change nothing.
-/
namespace Go.Proofs.YtamenccdnobjkaaGreatDoor.Oct
open Go.RowKit

theorem rletter_c (n : Int) (w : World) (h0 : 0 ≤ n) (h1 : n ≤ 255) :
    Calls Tryz.prog 67 #[.int .u8 n] w fun e w' => e = .returned (.bool (letterI n)) ∧ w = w' := by
  go_enter Tryz.func67, Tryz.ntmps67
  go_wp2
  all_goals go_ret
  all_goals (refine ⟨ret_bool ?_, rfl⟩; rw [Bool.eq_iff_iff]; simp [letterI]; try omega)

theorem rdigit_c (n : Int) (w : World) (h0 : 0 ≤ n) (h1 : n ≤ 255) :
    Calls Tryz.prog 68 #[.int .u8 n] w fun e w' => e = .returned (.bool (digitI n)) ∧ w = w' := by
  go_enter Tryz.func68, Tryz.ntmps68
  go_wp2
  all_goals go_ret
  all_goals (refine ⟨ret_bool ?_, rfl⟩; rw [Bool.eq_iff_iff]; simp [digitI]; try omega)
end Go.Proofs.YtamenccdnobjkaaGreatDoor.Oct

/-
  Contracts of the leaves of package octets and of the page's answers on octets: each is called at any octet and changes nothing.
-/
namespace Go.Proofs.YtamenccdnobjkaaGreatDoor.Oct
open Go.RowKit

theorem within_c (n a b : Int) (w : World) :
    Calls Tryz.prog 91 #[.int .u8 n, .int .u8 a, .int .u8 b] w fun e w' => e = .returned (.bool (decide (a ≤ n ∧ n ≤ b))) ∧ w = w' := by
  go_enter Tryz.func91, Tryz.ntmps91
  go_wp2
  all_goals go_ret
  all_goals (refine ⟨ret_bool ?_, rfl⟩; simp; try omega)

theorem letter_c (n : Int) (w : World) (h0 : 0 ≤ n) (h1 : n ≤ 255) :
    Calls Tryz.prog 75 #[.int .u8 n] w fun e w' => e = .returned (.bool (letterI n)) ∧ w = w' := by
  go_enter Tryz.func75, Tryz.ntmps75
  go_wp2
  all_goals go_ret
  all_goals (refine ⟨ret_bool ?_, rfl⟩; rw [Bool.eq_iff_iff]; simp [letterI]; try omega)

theorem small_c (n : Int) (w : World) (h0 : 0 ≤ n) (h1 : n ≤ 255) :
    Calls Tryz.prog 124 #[.int .u8 n] w fun e w' => e = .returned (.int .u8 (lowI n)) ∧ w = w' := by
  go_enter Tryz.func124, Tryz.ntmps124
  go_wp2
  all_goals go_ret
  all_goals (refine ⟨ret_int ?_, rfl⟩; unfold lowI; split <;> omega)

end Go.Proofs.YtamenccdnobjkaaGreatDoor.Oct

/-
  Contracts of octets.first, none and made, at whatever function value that is handed in, and of digitValue.
-/
namespace Go.Proofs.YtamenccdnobjkaaGreatDoor.Oct
open Go.RowKit

/-- The first place below n that is wanted, or n. -/
def firstOf (p : Nat → Bool) : Nat → Nat → Nat
  | _, 0 => 0
  | k, n + 1 => if p k then 0 else firstOf p (k + 1) n + 1

theorem firstOf_le (p : Nat → Bool) (k n : Nat) : firstOf p k n ≤ n := by
  induction n generalizing k with
  | zero => simp [firstOf]
  | succ n ih => have := ih (k + 1); unfold firstOf; split <;> omega

theorem firstOf_hit (p : Nat → Bool) (k n j : Nat) (hj : j < n) (hp : p (k + j) = true) (hn : ∀ i, i < j → p (k + i) = false) : firstOf p k n = j := by
  induction n generalizing k j with
  | zero => omega
  | succ n ih =>
    unfold firstOf
    cases j with
    | zero => rw [if_pos (by simpa using hp)]
    | succ j =>
      have h0 : p k = false := by simpa using hn 0 (by omega)
      rw [h0, if_neg (by simp), ih (k + 1) j (by omega) (by rw [← hp]; congr 1; omega) (fun i hi => by rw [← hn (i + 1) (by omega)]; congr 1; omega)]

theorem firstOf_miss (p : Nat → Bool) (k n : Nat) (hn : ∀ i, i < n → p (k + i) = false) : firstOf p k n = n := by
  induction n generalizing k with
  | zero => rfl
  | succ n ih =>
    unfold firstOf
    have h0 : p k = false := by simpa using hn 0 (by omega)
    rw [h0, if_neg (by simp), ih (k + 1) (fun i hi => by rw [← hn (i + 1) (by omega)]; congr 1; omega)]

/-- What is asked of a function value that tells of a place whether it is wanted: in every world in which all that lay in w lies unturned, and it leaves such a world again. -/
def Wants (g : Nat) (lb : Array Value) (p : Nat → Bool) (n : Nat) (w : World) : Prop :=
  ∀ (k : Nat) (W : World), k < n → Below w.heap.size w W → Calls Tryz.prog g (#[.int .i64 (k : Int)] ++ lb) W fun e w' => e = .returned (.bool (p k)) ∧ Below w.heap.size w w'

set_option maxHeartbeats 1000000 in
theorem first_c (n : Nat) (g : Nat) (lb : Array Value) (p : Nat → Bool) (w : World) (hn : n ≤ 9223372036854775807)
    (eg : ∀ args w, (callFunc g args).run Tryz.prog w = .ok (.enter g args) w) (hp : Wants g lb p n w) :
    Calls Tryz.prog 123 #[.int .i64 (n : Int), .func (.func g) #[] lb] w fun e w' => e = .returned (.int .i64 (firstOf p 0 n : Nat)) ∧ Below w.heap.size w w' := by
  go_enter Tryz.func123, Tryz.ntmps123
  go_wp2
  go_loopw [5, 7] (fun _ i wr => ∃ k : Nat, k ≤ n ∧ i = .int .i64 k ∧ Hid (∀ i, i < k → p i = false) ∧ Hid (Below w.heap.size w wr)) (fun _ i _ => n - (intOf i).toNat)
  case atStart => exact ⟨0, Nat.zero_le _, rfl, fun i hi => absurd hi (Nat.not_lt_zero _), Below.refl _ _⟩
  case round =>
    obtain ⟨k, hk, rfl, hno, hbel⟩ := hrel
    by_cases hlt : k < n
    · have hcall := hp k wr hlt hbel.out
      cases hq : p k with
      | true =>
        rw [hq] at hcall
        go_wp2_with (go_at_fn g; refine hcall.mono ?_; rintro e w' ⟨rfl, hb'⟩)
        go_ret
        exact ⟨ret_int (by rw [firstOf_hit p 0 n k hlt (by simpa using hq) (fun i hi => by simpa using hno.out i hi)]), hb'⟩
      | false =>
        rw [hq] at hcall
        go_wp2_with (go_at_fn g; refine hcall.mono ?_; rintro e w' ⟨rfl, hb'⟩)
        go_roundw
        case rel =>
          refine ⟨k + 1, by omega, by go_num, fun i hi => ?_, hb'⟩
          by_cases e : i = k
          · rw [e]; exact hq
          · exact hno.out i (by omega)
        case measure => simp [intOf]; omega
    · go_wp2
      go_ret
      have : k = n := by omega
      subst this
      exact ⟨ret_int (by rw [firstOf_miss p 0 k (fun i hi => by simpa using hno.out i hi)]), hbel.out⟩

end Go.Proofs.YtamenccdnobjkaaGreatDoor.Oct

/-
  Contract of octets.made, at whatever function value that is handed in: the text of the octets that it tells of the places.
-/
namespace Go.Proofs.YtamenccdnobjkaaGreatDoor.Oct
open Go.RowKit

theorem info_u8 : (Tryz.prog.info? 5).map (fun i => (i.zero, i.size, i.bytes)) = some (some (.int .u8 0), 1, 1) := by kernel_rfl

/-- What is asked of a function value that tells the octet of a place. -/
def Makes (g : Nat) (lb : Array Value) (f : Nat → UInt8) (n : Nat) (w : World) : Prop :=
  ∀ (k : Nat) (W : World), k < n → Below w.heap.size w W → Calls Tryz.prog g (#[.int .i64 (k : Int)] ++ lb) W fun e w' => e = .returned (.int .u8 ((f k).toNat : Int)) ∧ W = w'

/-- The cells behind k rounds. -/
def madeAt (f : Nat → UInt8) (n k : Nat) : List Value := (List.range k).map (fun j => Value.int .u8 ((f j).toNat : Int)) ++ List.replicate (n - k) (Value.int .u8 0)

theorem madeAt_zero (f : Nat → UInt8) (n : Nat) : madeAt f n 0 = List.replicate n (Value.int .u8 0) := by simp [madeAt]
theorem madeAt_succ (f : Nat → UInt8) (n k : Nat) (h : k < n) : (madeAt f n k).set k (Value.int .u8 ((f k).toNat : Int)) = madeAt f n (k + 1) := by
  unfold madeAt
  have e : n - k = (n - (k + 1)) + 1 := by omega
  rw [e, List.replicate_succ, List.set_append_right _ _ (by simp)]
  simp [List.range_succ]
theorem madeAt_at (f : Nat → UInt8) (n k : Nat) (h : k < n) : (madeAt f n k)[k]? = some (Value.int .u8 0) := by
  unfold madeAt
  rw [List.getElem?_append_right (by simp), List.length_map, List.length_range, Nat.sub_self, List.getElem?_replicate, if_pos (by omega)]
theorem madeAt_full (f : Nat → UInt8) (n j : Nat) (h : j < n) : (madeAt f n n)[j]? = some (Value.int .u8 ((f j).toNat : Int)) := by
  simp [madeAt, h]

set_option maxHeartbeats 1000000 in
theorem made_c (n : Nat) (g : Nat) (lb : Array Value) (f : Nat → UInt8) (w : World) (hn : n ≤ 281474976710656)
    (eg : ∀ args w, (callFunc g args).run Tryz.prog w = .ok (.enter g args) w) (hf : Makes g lb f n w) :
    Calls Tryz.prog 93 #[.int .i64 (n : Int), .func (.func g) #[] lb] w fun e w' => e = .returned (.string (S ((List.range n).map f))) ∧ Below w.heap.size w w' := by
  obtain ⟨i0, hi, hz0, hz1, hz2⟩ := info_parts info_u8
  go_enter Tryz.func93, Tryz.ntmps93
  go_wp2_with (at_make; refine wpList_make_full _ rfl _ _ 59 rfl w.heap.size 5 i0 (.int .u8 0) 1 Tryz.underlying59 hi hz0 hz1 .i64 .i64 (n : Int) (n : Int) n rfl rfl rfl rfl (by rw [hz2]; omega) (by unfold maxLen; omega) (Nat.le_refl _) ?_; intro w1 hown hgrow)
  go_loopw [6, 11] (fun _ i wr => ∃ k : Nat, k ≤ n ∧ i = .int .i64 k ∧ Hid (wr.ownsRow w.heap.size 5 1 (.slice (some ⟨w.heap.size, 0, none⟩) n n) n (madeAt f n k)) ∧ Hid (Below w.heap.size w wr)) (fun _ i _ => n - (intOf i).toNat)
  case atStart =>
    refine ⟨0, Nat.zero_le _, rfl, ?_, ?_⟩
    · rw [madeAt_zero, ← toList_madeCells_one]
      have h : w1.ownsRow w.heap.size 5 1 (.slice (some ⟨w.heap.size, 0, none⟩) n n) n (madeCells #[Value.int .u8 0] n).toList := by simpa [Value.cells] using hown
      exact h
    · exact (Below.refl _ w).grown hgrow (Nat.le_refl _) (fun k hk => by cases hk)
  case round =>
    obtain ⟨k, hk, rfl, hrow, hbel⟩ := hrel
    clear hown hgrow
    by_cases hlt : k < n
    · have hcall := hf k wr hlt hbel.out
      have hc : wr.cell? ⟨w.heap.size, k, none⟩ = (madeAt f n k)[k]? := hrow.out.cellAt k (by omega)
      have hfz : wr.frozen? ⟨w.heap.size, k, none⟩ = false := hrow.out.frozenAt k
      have hcv : (madeAt f n k)[k]? = some (.int .u8 0) := madeAt_at f n k hlt
      rw [hcv] at hc
      clear hcv
      go_wp2_with (go_at_fn g; refine hcall.mono ?_; rintro e w' ⟨rfl, rfl⟩)
      go_roundw
      case rel =>
        have st := hrow.out.stored k (Value.int .u8 ((f k).toNat : Int))
        exact ⟨k + 1, by omega, by go_num, by rw [← madeAt_succ f n k hlt]; exact st.1, hbel.out.setCell (by simp) _⟩
      case measure => simp [intOf]; omega
    · have hkn : k = n := by omega
      subst hkn
      have hcv : ((convert 59 9 (.slice (some ⟨w.heap.size, 0, none⟩) k k)).run Tryz.prog wr) = .ok (.string (S ((List.range k).map f))) wr := by
        have h := run_convert_bytes_back (P := Tryz.prog) wr 59 9 5 ⟨w.heap.size, 0, none⟩ k ((List.range k).map f) Tryz.underlying59 Tryz.underlying5 Tryz.underlying9 (fun j hj => by
          have hj' : j < k := by simpa using hj
          have h1 := hrow.out.cellAt j (by omega)
          rw [madeAt_full f k j hj'] at h1
          rw [Addr.add_lit, Nat.zero_add]
          simpa using h1)
        simpa using h
      go_wp2
      go_ret
      exact ⟨rfl, hbel.out⟩

end Go.Proofs.YtamenccdnobjkaaGreatDoor.Oct

/-
  Contracts of octets.none, digitValue, Lower, Upper, Name, Starts, Trim.
-/
namespace Go.Proofs.YtamenccdnobjkaaGreatDoor.Oct
open Go.RowKit

theorem none_c (n : Nat) (g : Nat) (lb : Array Value) (p : Nat → Bool) (w : World) (hn : n ≤ 9223372036854775807)
    (eg : ∀ args w, (callFunc g args).run Tryz.prog w = .ok (.enter g args) w) (hp : Wants g lb p n w) :
    Calls Tryz.prog 117 #[.int .i64 (n : Int), .func (.func g) #[] lb] w fun e w' => e = .returned (.bool (firstOf p 0 n == n)) ∧ Below w.heap.size w w' := by
  have hle := firstOf_le p 0 n
  go_enter Tryz.func117, Tryz.ntmps117
  go_wp2_with (go_at_call 123; refine (first_c n g lb p _ hn eg hp).mono ?_; rintro e w' ⟨rfl, hb'⟩)
  go_ret
  refine ⟨ret_bool ?_, hb'⟩
  rw [Bool.eq_iff_iff]; simp; omega

theorem digit_table : ∀ k : Fin 256, Lib.indexByte [48, 49, 50, 51, 52, 53, 54, 55, 56, 57, 97, 98, 99, 100, 101, 102] (lowI (k.val : Int)).toNat.toUInt8 = hexI (k.val : Int) := by decide +kernel

theorem digitValue_c (n : Int) (w : World) (h0 : 0 ≤ n) (h1 : n ≤ 255) :
    Calls Tryz.prog 119 #[.int .u8 n] w fun e w' => e = .returned (.int .i64 (hexI n)) ∧ w = w' := by
  have T : Lib.indexByte [48, 49, 50, 51, 52, 53, 54, 55, 56, 57, 97, 98, 99, 100, 101, 102] (lowI n).toNat.toUInt8 = hexI n := by
    have := digit_table ⟨n.toNat, by omega⟩
    rwa [show ((⟨n.toNat, by omega⟩ : Fin 256).val : Int) = n from Int.toNat_of_nonneg h0] at this
  have HT := Lib.hid T
  clear T
  go_enter Tryz.func119, Tryz.ntmps119
  go_wp2_with (first
    | (go_at_call 124; refine (small_c n _ h0 h1).mono ?_; rintro e w' ⟨rfl, rfl⟩)
    | (go_at_call 77; refine (Tryz.strings_IndexByte _ _ _).mono ?_; rintro e w' ⟨rfl, rfl⟩))
  go_ret
  exact ⟨ret_int HT.out, rfl⟩

end Go.Proofs.YtamenccdnobjkaaGreatDoor.Oct

/-
  Contracts of octets.Name, Starts, Trim, as plain functions of lists of octets.
-/
namespace Go.Proofs.YtamenccdnobjkaaGreatDoor.Oct
open Go.RowKit

theorem firstOf_all (p : Nat → Bool) (n : Nat) : (firstOf p 0 n == n) = (List.range n).all (fun k => !p k) := by
  rw [Bool.eq_iff_iff, List.all_eq_true]
  simp only [beq_iff_eq, List.mem_range, Bool.not_eq_true']
  constructor
  · intro h k hk
    rcases hq : p k with _ | _
    · rfl
    · exfalso
      -- the first place that is wanted is at most k
      have : ∀ (m k' : Nat), k' < m → ∀ a, p (a + k') = true → firstOf p a m < m := by
        intro m
        induction m with
        | zero => intro k' h'; omega
        | succ m ih =>
          intro k' h' a hp
          unfold firstOf
          split
          · omega
          · cases k' with
            | zero => simp_all
            | succ k' => have := ih k' (by omega) (a + 1) (by rw [← hp]; congr 1; omega); omega
      have := this n k hk 0 (by simpa using hq)
      omega
  · intro h
    exact firstOf_miss p 0 n (fun i hi => by simpa using h i hi)


theorem quiet_same {P : Program} {f : FuncId} {args : Array Value} {w : World} {n : Nat} {v : Value}
    (h : Calls P f args (w.drewN n) fun e w' => e = .returned v ∧ w.drewN n = w') : Calls P f args (w.drewN n) fun e w'' => e = .returned v ∧ ∃ m, w'' = w.drewN m :=
  h.mono fun _ _ ⟨he, hm⟩ => ⟨he, n, hm.symm⟩

end Go.Proofs.YtamenccdnobjkaaGreatDoor.Oct

/-
  Plain facts on lists of octets: trimmed texts; texts that begin with others, whatever their letters are.
-/
namespace Go.Proofs.YtamenccdnobjkaaGreatDoor.Oct
open Go.RowKit

theorem below_drewN {B : Nat} {a w : World} (h : Below B a w) (q : Nat) : Below B a (w.drewN q) := ⟨h.os, h.tape, h.output, h.size, h.block⟩

/-- Does s begin with p, whatever its letters are? -/
def startsB (s p : List UInt8) : Bool := decide (p.length ≤ s.length) && ((s.map low).take p.length == p.map low)

theorem starts_none (s p : ByteArray) (h : p.size ≤ s.size) : (firstOf (fun k => low (at' s k) != low (at' p k)) 0 p.size == p.size) = startsB s.data.toList p.data.toList := by
  unfold startsB
  rw [size_list, size_list, decide_eq_true h, Bool.true_and, firstOf_all, Bool.eq_iff_iff, List.all_eq_true, beq_iff_eq]
  simp only [List.mem_range, bne, Bool.not_not, beq_iff_eq]
  have hs := size_list s
  have hp := size_list p
  constructor
  · intro H
    apply List.ext_getElem
    · simp only [List.length_take, List.length_map]; omega
    · intro i h1 h2
      have hi : i < p.size := by simp only [List.length_map] at h2; omega
      have := H i hi
      rw [← at_eq s i (by omega), ← at_eq p i hi] at this
      simp only [List.getElem_take, List.getElem_map, Array.getElem_toList]
      exact this
  · intro H k hk
    have e := congrArg (fun l => l[k]?) H
    simp only [List.getElem?_take_of_lt hk, List.getElem?_map] at e
    rw [List.getElem?_eq_getElem (by omega), List.getElem?_eq_getElem (by omega)] at e
    simp only [Option.map_some, Option.some.injEq, Array.getElem_toList] at e
    rw [← at_eq s k (by omega), ← at_eq p k hk]
    exact e

def bl (c : UInt8) : Bool := blankI (c.toNat : Int)
/-- Without blanks at both ends. -/
def trimL (l : List UInt8) : List UInt8 := ((l.dropWhile bl).reverse.dropWhile bl).reverse

theorem firstOf_takeWhile (p : Nat → Bool) (q : UInt8 → Bool) (l : List UInt8) (k : Nat) (h : ∀ i (hi : i < l.length), p (k + i) = !q l[i]) : firstOf p k l.length = (l.takeWhile q).length := by
  induction l generalizing k with
  | nil => rfl
  | cons c l ih =>
    have h0 : p k = !q c := h 0 (by simp)
    rw [List.length_cons, firstOf, h0]
    cases hq : q c with
    | true =>
      simp only [Bool.not_true, Bool.false_eq_true, if_false, List.takeWhile_cons, hq, if_true, List.length_cons]
      rw [ih (k + 1) (fun i hi => by have := h (i + 1) (by simp; omega); rw [← Nat.add_assoc, Nat.add_right_comm] at this; simpa using this)]
    | false => simp [hq]

theorem drop_takeWhile (q : UInt8 → Bool) (l : List UInt8) : l.drop (l.takeWhile q).length = l.dropWhile q := by
  induction l with
  | nil => rfl
  | cons c l ih =>
    cases hq : q c with
    | true => simp [hq, ih]
    | false => simp [hq]

theorem trim_ahead (s : ByteArray) : s.data.toList.drop (firstOf (fun k => !blankI ((at' s k).toNat : Int)) 0 s.size) = s.data.toList.dropWhile bl := by
  rw [← drop_takeWhile, ← size_list, firstOf_takeWhile _ bl _ 0 (fun i hi => by
    have hi' : i < s.size := by rw [← size_list]; exact hi
    rw [Nat.zero_add, ← at_eq s i hi', Array.getElem_toList]
    rfl)]

theorem trim_behind (s : ByteArray) : s.data.toList.take (s.size - firstOf (fun k => !blankI ((at' s (s.size - 1 - k)).toNat : Int)) 0 s.size) = (s.data.toList.reverse.dropWhile bl).reverse := by
  have e : firstOf (fun k => !blankI ((at' s (s.size - 1 - k)).toNat : Int)) 0 s.size = (s.data.toList.reverse.takeWhile bl).length := by
    rw [← firstOf_takeWhile (fun k => !blankI ((at' s (s.size - 1 - k)).toNat : Int)) bl s.data.toList.reverse 0 (fun i hi => by
      have hi' : i < s.size := by rw [← size_list]; simpa using hi
      rw [Nat.zero_add, ← at_eq s (s.size - 1 - i) (by omega), List.getElem_reverse, Array.getElem_toList]
      simp only [size_list]
      rfl), List.length_reverse, size_list]
  rw [e, ← drop_takeWhile, List.reverse_drop, List.reverse_reverse, List.length_reverse, size_list]

end Go.Proofs.YtamenccdnobjkaaGreatDoor.Oct

/-
  Contracts of octets.Name, Starts and Trim: as plain functions of lists of octets.
-/
namespace Go.Proofs.YtamenccdnobjkaaGreatDoor.Oct
open Go.RowKit

theorem name_none (s : ByteArray) : (firstOf (fun k => !nameI ((at' s k).toNat : Int)) 0 s.size == s.size) = s.data.toList.all (fun c => nameI (c.toNat : Int)) := by
  rw [firstOf_all, ← all_at]
  simp


end Go.Proofs.YtamenccdnobjkaaGreatDoor.Oct

/-
  Plain facts on digits of base 16, with no program.
-/
namespace Go.Proofs.YtamenccdnobjkaaGreatDoor.Oct
open Go.RowKit

/-- A number of 64 bits, in two's complement. -/
def u64 (n : Int) : Nat := (n % 18446744073709551616).toNat
theorem u64_lt (n : Int) : u64 n < 18446744073709551616 := by unfold u64; omega
theorem u64_wrap (n : Int) : IntKind.u64.wrap n = ((u64 n : Nat) : Int) := by rw [IntKind.wrap_u64]; unfold u64; omega

def hexDig (d : Nat) : UInt8 := at' ⟨#[48, 49, 50, 51, 52, 53, 54, 55, 56, 57, 97, 98, 99, 100, 101, 102]⟩ d
/-- The lowest digits of u. -/
def hexL (u size : Nat) : List UInt8 := (List.range size).map fun k => hexDig (u / 2 ^ (4 * (size - 1 - k)) % 16)
/-- A size as the nearest of 0 to 16. -/
def clamp (size : Int) : Nat := (min (max size 0) 16).toNat
theorem clamp_le (size : Int) : clamp size ≤ 16 := by unfold clamp; omega
theorem clamp_eq (size : Int) : min (max size 0) 16 = ((clamp size : Nat) : Int) := by unfold clamp; omega

theorem hexL_length (u n : Nat) : (hexL u n).length = n := by simp [hexL]
theorem hexL_cons (u k : Nat) : hexL u (k + 1) = hexDig (u / 16 ^ k % 16) :: hexL u k := by
  unfold hexL
  rw [List.range_succ_eq_map, List.map_cons, List.map_map]
  congr 1
  · have e : 2 ^ (4 * (k + 1 - 1 - 0)) = 16 ^ k := by
      rw [show k + 1 - 1 - 0 = k by omega, Nat.pow_mul]
    rw [e]
  · apply List.map_congr_left
    intro j hj
    simp only [Function.comp]
    rw [show k + 1 - 1 - (j + 1) = k - 1 - j by omega]

theorem digit_cut (d : Nat) (h : d < 16) : (⟨#[48, 49, 50, 51, 52, 53, 54, 55, 56, 57, 97, 98, 99, 100, 101, 102]⟩ : ByteArray).extract d (d + 1) = S [hexDig d] := by
  have : ∀ d : Fin 16, (⟨#[48, 49, 50, 51, 52, 53, 54, 55, 56, 57, 97, 98, 99, 100, 101, 102]⟩ : ByteArray).extract d.val (d.val + 1) = S [hexDig d.val] := by decide +kernel
  exact this ⟨d, h⟩
end Go.Proofs.YtamenccdnobjkaaGreatDoor.Oct

/-
  Contract of octets.Hex: the lowest digits of base 16, in two's complement.
-/
namespace Go.Proofs.YtamenccdnobjkaaGreatDoor.Oct
open Go.RowKit

theorem wraps_u64 (n : Int) (h₀ : 0 ≤ n) (h₁ : n < 2 ^ 64) : IntKind.u64.wrap n = n := by rw [IntKind.wrap_u64]; omega
theorem and15 (m e : Nat) (hm : m < 18446744073709551616) : bits .and .u64 ((m : Int) / 2 ^ e) 15 = ((m / 2 ^ e % 16 : Nat) : Int) := by
  have e1 : ((m : Int) / 2 ^ e) = ((m / 2 ^ e : Nat) : Int) := by simp
  have hle : m / 2 ^ e ≤ m := Nat.div_le_self _ _
  rw [e1]
  generalize m / 2 ^ e = x at hle
  have h := bits_mask .u64 64 (by decide) wraps_u64 4 (by decide) (x : Int) (by omega) (by omega)
  have e2 : ((2 : Int) ^ 4 - 1) = 15 := by decide
  rw [e2] at h
  rw [h]
  omega

theorem enter_hex : ∀ args w, (callFunc 94 args).run Tryz.prog w = .ok (.enter 94 args) w := enters_of Tryz.func94 (by kernel_rfl) rfl

theorem hex1_c (n : Int) (size k b b' : Nat) (w : World) (hk : k < size) (hs : size ≤ 16) (hc : w.cell? ⟨b, 0, none⟩ = some (.int .i64 (size : Int))) (hc' : w.cell? ⟨b', 0, none⟩ = some (.int .i64 n)) :
    Calls Tryz.prog 94 #[.int .i64 (k : Int), .pointer (some ⟨b, 0, none⟩), .pointer (some ⟨b', 0, none⟩)] w
      fun e w' => e = .returned (.int .u8 ((hexDig (u64 n / 2 ^ (4 * (size - 1 - k)) % 16)).toNat : Int)) ∧ w = w' := by
  have hu := u64_wrap n
  have ha := and15 (u64 n) (4 * (size - 1 - k)) (u64_lt n)
  have hd : u64 n / 2 ^ (4 * (size - 1 - k)) % 16 < 16 := Nat.mod_lt _ (by omega)
  generalize u64 n / 2 ^ (4 * (size - 1 - k)) % 16 = d at ha hd ⊢
  generalize u64 n = m at hu ha
  go_enter Tryz.func94, Tryz.ntmps94
  go_wp2_with fail
  go_ret
  exact ⟨ret_int (congrArg (fun c : UInt8 => (c.toNat : Int)) (at_eq ⟨#[48, 49, 50, 51, 52, 53, 54, 55, 56, 57, 97, 98, 99, 100, 101, 102]⟩ d hd)), rfl⟩

theorem hex_c (n size : Int) (w : World) :
    Calls Tryz.prog 78 #[.int .i64 n, .int .i64 size] w fun e w' => e = .returned (.string (S (hexL (u64 n) (clamp size)))) ∧ Below w.heap.size w w' := by
  have hcl := clamp_eq size
  have hle := clamp_le size
  have hm := made_c (clamp size) 94 #[.pointer (some ⟨w.heap.size + 1, 0, none⟩), .pointer (some ⟨w.heap.size, 0, none⟩)] (fun k => hexDig (u64 n / 2 ^ (4 * (clamp size - 1 - k)) % 16))
    ((w.alloc (.cells #[.int .i64 n] 3)).alloc (.cells #[.int .i64 (clamp size : Int)] 3)) (by omega) enter_hex
    (fun k W hk hb => hex1_c n (clamp size) k (w.heap.size + 1) w.heap.size W hk hle (by rw [hb.cell (by simp)]; simp) (by rw [hb.cell (by simp; omega)]; simp))
  have hr : Hid (hexL (u64 n) (clamp size) = List.map (fun k => hexDig (u64 n / 2 ^ (4 * (clamp size - 1 - k)) % 16)) (List.range (clamp size))) := rfl
  generalize List.map (fun k => hexDig (u64 n / 2 ^ (4 * (clamp size - 1 - k)) % 16)) (List.range (clamp size)) = r at hm hr
  generalize clamp size = c at hcl hle hm hr
  go_enter Tryz.func78, Tryz.ntmps78
  go_wp2_with fail
  refine hm.mono ?_
  rintro e w' ⟨rfl, hb⟩
  go_wp2_with fail
  go_ret
  exact ⟨by rw [hr.out]; rfl, (((Below.refl _ w).alloc (Nat.le_refl _) _).alloc (by simp) _).trans (hb.mono (by simp; omega))⟩

end Go.Proofs.YtamenccdnobjkaaGreatDoor.Oct

/-
  Contract of octets.Unhex: the number whose digits of base 16 a text is.
-/
namespace Go.Proofs.YtamenccdnobjkaaGreatDoor.Oct
open Go.RowKit

def hexC (c : UInt8) : Int := hexI (c.toNat : Int)
def valL (l : List UInt8) : Nat := l.foldl (fun n c => n * 16 + (hexC c).toNat) 0
/-- The number, and the error's. -/
def unhexL (l : List UInt8) : Nat × Nat :=
  if l = [] then (0, 8) else if 8 < l.length then (0, 5) else if l.all (fun c => decide (0 ≤ hexC c)) then (valL l, 0) else (0, 33)

theorem hexC_le (c : UInt8) : hexC c ≤ 15 := (hexI_range _).2
theorem valL_snoc (l : List UInt8) (c : UInt8) : valL (l ++ [c]) = valL l * 16 + (hexC c).toNat := by simp [valL]
theorem valL_lt (l : List UInt8) : valL l < 16 ^ l.length := by
  have gen : ∀ (l : List UInt8) (a e : Nat), a < 16 ^ e → l.foldl (fun n c => n * 16 + (hexC c).toNat) a < 16 ^ (e + l.length) := by
    intro l
    induction l with
    | nil => intro a e h; simpa using h
    | cons c l ih =>
      intro a e h
      have hc := hexC_le c
      have := ih (a * 16 + (hexC c).toNat) (e + 1) (by rw [Nat.pow_succ]; omega)
      rw [List.foldl_cons, List.length_cons, show e + (l.length + 1) = e + 1 + l.length by omega]
      exact this
  have := gen l 0 0 (by simp)
  simpa [valL] using this
theorem valL_le (l : List UInt8) (k : Nat) (h : k ≤ 7) : valL (l.take k) < 268435456 := by
  have h1 := valL_lt (l.take k)
  have h2 : (l.take k).length ≤ 7 := by rw [List.length_take]; omega
  have h3 : 16 ^ (l.take k).length ≤ 16 ^ 7 := Nat.pow_le_pow_right (by omega) h2
  omega
theorem take_at (s : ByteArray) (k : Nat) (h : k < s.size) : s.data.toList.take (k + 1) = s.data.toList.take k ++ [s[k]] := by
  rw [List.take_succ_eq_append_getElem (by rw [size_list]; exact h)]; rfl

theorem unhex_none (s : ByteArray) : (firstOf (fun k => decide (hexC (at' s k) < 0)) 0 s.size == s.size) = s.data.toList.all (fun c => decide (0 ≤ hexC c)) := by
  rw [firstOf_all, ← all_at]
  congr 1
  funext k
  rw [Bool.eq_iff_iff]; simp

theorem or_digit (x : Int) (y : Int) (h0 : 0 ≤ x) (h1 : x ≤ 268435456) (h2 : 0 ≤ y) (h3 : y ≤ 15) : bits .or .i64 (x * 16) y = x * 16 + y := by
  exact bits_join .i64 62 (by decide) (fun n h0 h1 => by rw [IntKind.wrap_i64]; omega) 4 (x * 16) y (by omega) (by omega) (by omega) h2 (by omega) (by omega)

theorem enter_unhex : ∀ args w, (callFunc 118 args).run Tryz.prog w = .ok (.enter 118 args) w := enters_of Tryz.func118 (by kernel_rfl) rfl

theorem unhex1_c (s : ByteArray) (k b : Nat) (w : World) (hk : k < s.size) (hc : w.cell? ⟨b, 0, none⟩ = some (.string s)) :
    Calls Tryz.prog 118 #[.int .i64 (k : Int), .pointer (some ⟨b, 0, none⟩)] w fun e w' => e = .returned (.bool (decide (hexC (at' s k) < 0))) ∧ w = w' := by
  have hb : (s[k].toNat : Int) ≤ 255 := by have := s[k].toNat_lt; omega
  have E : Hid ((at' s k) = s[k]) := (at_eq s k hk).symm
  go_enter Tryz.func118, Tryz.ntmps118
  go_wp2_with (go_at_call 119; refine (digitValue_c _ _ (by omega) (by omega)).mono ?_; rintro e w' ⟨rfl, rfl⟩)
  go_ret
  exact ⟨ret_bool (by rw [E.out]; rfl), rfl⟩

theorem unhex_c (s : ByteArray) (w : World) :
    Calls Tryz.prog 114 #[.string s] w fun e w' => e = .returned (.tuple #[.int .i64 ((unhexL s.data.toList).1 : Int), .int .i64 ((unhexL s.data.toList).2 : Int)]) ∧ Below w.heap.size w w' := by
  by_cases h0 : s.size = 0
  · have hs : s = ⟨#[]⟩ := by
      apply ByteArray.ext
      exact Array.eq_empty_of_size_eq_zero h0
    subst hs
    go_enter Tryz.func114, Tryz.ntmps114
    go_wp2
    go_ret2
    exact ⟨rfl, (Below.refl _ w).alloc (Nat.le_refl _) _⟩
  · have hne : s.data.toList ≠ [] := by intro h; apply h0; rw [← size_list, h]; rfl
    have he : s.data.toList.isEmpty = false := by rw [List.isEmpty_eq_false_iff]; exact hne
    have he' : s.toList.isEmpty = false := by rw [ByteArray.toList_eq]; exact he
    by_cases h8 : 8 < s.size
    · have F : Hid (unhexL s.data.toList = (0, 5)) := by
        show _ = _
        unfold unhexL
        rw [if_neg hne, if_pos (by rw [size_list]; exact h8)]
      clear hne
      go_enter Tryz.func114, Tryz.ntmps114
      go_wp2
      go_ret2
      exact ⟨by rw [F.out]; rfl, (Below.refl _ w).alloc (Nat.le_refl _) _⟩
    · have hlen : s.size ≤ 8 := by omega
      have hn := none_c s.size 118 #[.pointer (some ⟨w.heap.size, 0, none⟩)] (fun k => decide (hexC (at' s k) < 0)) (w.alloc (.cells #[.string s] 9)) (by omega) enter_unhex
        (fun k W hk hb => (unhex1_c s k w.heap.size W hk (by rw [hb.cell (by simp)]; simp)).mono fun _ _ ⟨he, hw⟩ => ⟨he, hw ▸ hb⟩)
      rw [unhex_none] at hn
      cases hall : s.data.toList.all (fun c => decide (0 ≤ hexC c)) with
      | false =>
        have F : Hid (unhexL s.data.toList = (0, 33)) := by
          show _ = _
          unfold unhexL
          rw [if_neg hne, if_neg (by rw [size_list]; exact h8), hall]
          rfl
        rw [hall] at hn
        clear hall hne h8 h0
        go_enter Tryz.func114, Tryz.ntmps114
        go_wp2_with (go_at_call 117; refine hn.mono ?_; rintro e w' ⟨rfl, hb⟩)
        go_ret2
        exact ⟨by rw [F.out]; rfl, ((Below.refl _ w).alloc (Nat.le_refl _) _).trans (hb.mono (by simp))⟩
      | true =>
        have F : Hid (unhexL s.data.toList = (valL s.data.toList, 0)) := by
          show _ = _
          unfold unhexL
          rw [if_neg hne, if_neg (by rw [size_list]; exact h8), hall]
          rfl
        rw [hall] at hn
        have HA := Lib.hid hall
        clear hall hne h8 h0
        go_enter Tryz.func114, Tryz.ntmps114
        go_wp2_with (go_at_call 117; refine hn.mono ?_; rintro e w1 ⟨rfl, hb⟩; have hc1 : w1.cell? ⟨w.heap.size, 0, none⟩ = some (.string s) := by (rw [hb.cell (by simp)]; simp))
        have hbw : Hid (Below w.heap.size w w1) := ((Below.refl _ w).alloc (Nat.le_refl _) _).trans (hb.mono (by simp))
        clear hn hb
        go_loop [4, 5, 21] (fun n _ i => ∃ k : Nat, k ≤ s.size ∧ i = .int .i64 k ∧ n = .int .i64 (valL (s.data.toList.take k) : Nat)) (fun _ _ i => s.size - (intOf i).toNat)
        case atStart => exact ⟨0, Nat.zero_le _, rfl, rfl⟩
        case round =>
          obtain ⟨k, hk, rfl, rfl⟩ := hrel
          by_cases hlt : k < s.size
          · have hv := valL_le s.data.toList k (by omega)
            have hb1 : (s[k].toNat : Int) ≤ 255 := by have := s[k].toNat_lt; omega
            have HV : Hid (valL (s.data.toList.take (k + 1)) = valL (s.data.toList.take k) * 16 + (hexC s[k]).toNat) := by show _ = _; rw [take_at s k hlt, valL_snoc]
            have hd := (hexI_range (s[k].toNat : Int)).2
            have hd0 : 0 ≤ hexI (s[k].toNat : Int) := by
              have := List.all_eq_true.1 HA.out s[k] (by rw [ByteArray.getElem_eq_getElem_data]; simp)
              exact of_decide_eq_true this
            have ho := or_digit (valL (s.data.toList.take k) : Nat) (hexI (s[k].toNat : Int)) (by omega) (by omega) hd0 hd
            generalize valL (s.data.toList.take k) = v at hv HV ho
            go_wp2_with (go_at_call 119; refine (digitValue_c _ _ (by omega) (by omega)).mono ?_; rintro e w' ⟨rfl, rfl⟩)
            go_round
            case rel =>
              refine ⟨k + 1, by omega, by go_num, ?_⟩
              rw [HV.out]
              congr 1
              unfold hexC
              omega
            case measure => simp [intOf]; omega
          · go_wp2
            go_ret2
            have hke : s.data.toList.take k = s.data.toList := List.take_of_length_le (by rw [size_list]; omega)
            exact ⟨by rw [F.out, hke]; rfl, hbw.out⟩

end Go.Proofs.YtamenccdnobjkaaGreatDoor.Oct

/-
  Plain facts on characters and their octets, with no program: what a text begins with, its parts, its characters, the text repaired, whether it is valid.
-/
namespace Go.Proofs.YtamenccdnobjkaaGreatDoor.Utf
open Go.Lib

/-- A character's number. -/
def isChar (c : Int) : Prop := (0 ≤ c ∧ c < 55296) ∨ (57343 < c ∧ c ≤ 1114111)
instance (c : Int) : Decidable (isChar c) := by unfold isChar; infer_instance

/-- The octet at a place of a list, as a number; 0 behind the end. -/
def oct (l : List UInt8) (k : Nat) : Nat := (l.getD k 0).toNat

/-- The character that a text begins with, and how many octets it has. -/
def dec (l : List UInt8) : Int × Nat :=
  if l = [] then (-1, 0)
  else if (decodeN l.length (oct l 0) (oct l 1) (oct l 2) (oct l 3)).1 = 65533 ∧ (decodeN l.length (oct l 0) (oct l 1) (oct l 2) (oct l 3)).2 ≤ 1 then (-1, 1)
  else (((decodeN l.length (oct l 0) (oct l 1) (oct l 2) (oct l 3)).1 : Int), (decodeN l.length (oct l 0) (oct l 1) (oct l 2) (oct l 3)).2)

/-- A character's octets, as numbers. -/
def encN (n : Nat) : List Nat :=
  if n < 128 then [n] else if n < 2048 then [192 + n / 64, 128 + n % 64] else if n < 65536 then [224 + n / 4096, 128 + n / 64 % 64, 128 + n % 64]
  else [240 + n / 262144, 128 + n / 4096 % 64, 128 + n / 64 % 64, 128 + n % 64]

theorem enc_eq (n : Nat) (h : isChar n) : encodeRune n = (encN n).map Nat.toUInt8 := by
  unfold isChar at h
  unfold encodeRune encN
  by_cases h1 : n < 128
  · rw [if_pos h1, encodeRuneZ_one (by omega) (by omega)]; simp
  · rw [if_neg h1]
    by_cases h2 : n < 2048
    · rw [if_pos h2, encodeRuneZ_two (by omega) (by omega)]
      simp only [List.map_cons, List.map_nil]
      rw [show (192 + (n : Int) / 64).toNat = 192 + n / 64 by omega, show (128 + (n : Int) % 64).toNat = 128 + n % 64 by omega]
    · rw [if_neg h2]
      by_cases h3 : n < 65536
      · rw [if_pos h3, encodeRuneZ_three (by omega)]
        simp only [List.map_cons, List.map_nil]
        rw [show (224 + (n : Int) / 4096).toNat = 224 + n / 4096 by omega, show (128 + (n : Int) / 64 % 64).toNat = 128 + n / 64 % 64 by omega, show (128 + (n : Int) % 64).toNat = 128 + n % 64 by omega]
      · rw [if_neg h3, encodeRuneZ_four (by omega) (by omega)]
        simp only [List.map_cons, List.map_nil]
        rw [show (240 + (n : Int) / 262144).toNat = 240 + n / 262144 by omega, show (128 + (n : Int) / 4096 % 64).toNat = 128 + n / 4096 % 64 by omega, show (128 + (n : Int) / 64 % 64).toNat = 128 + n / 64 % 64 by omega, show (128 + (n : Int) % 64).toNat = 128 + n % 64 by omega]

theorem u8 (n : Nat) (h : n < 256) : n.toUInt8.toNat = n := by simp; omega

theorem decodeN_enc (n : Nat) (h : isChar n) (t : List UInt8) :
    decodeN (encodeRune n ++ t).length (oct (encodeRune n ++ t) 0) (oct (encodeRune n ++ t) 1) (oct (encodeRune n ++ t) 2) (oct (encodeRune n ++ t) 3) = (n, (encodeRune n).length) := by
  rw [enc_eq n h]
  unfold isChar at h
  unfold encN oct
  by_cases h1 : n < 128
  · rw [if_pos h1]
    simp only [List.map_cons, List.map_nil, List.cons_append, List.nil_append, List.length_cons, List.getD_cons_zero, List.length_nil]
    rw [u8 n (by omega)]
    simp [decodeN, h1]
  · rw [if_neg h1]
    by_cases h2 : n < 2048
    · rw [if_pos h2]
      simp only [List.map_cons, List.map_nil, List.cons_append, List.nil_append, List.length_cons, List.getD_cons_zero, List.getD_cons_succ, List.length_nil]
      rw [u8 (192 + n / 64) (by omega), u8 (128 + n % 64) (by omega)]
      unfold decodeN
      rw [if_neg (by omega), if_pos (by omega), if_pos (by omega)]
      exact Prod.ext (by show _ = n; omega) rfl
    · rw [if_neg h2]
      by_cases h3 : n < 65536
      · rw [if_pos h3]
        simp only [List.map_cons, List.map_nil, List.cons_append, List.nil_append, List.length_cons, List.getD_cons_zero, List.getD_cons_succ, List.length_nil]
        rw [u8 (224 + n / 4096) (by omega), u8 (128 + n / 64 % 64) (by omega), u8 (128 + n % 64) (by omega)]
        unfold decodeN
        have e : (224 + n / 4096) % 16 * 4096 + (128 + n / 64 % 64) % 64 * 64 + (128 + n % 64) % 64 = n := by omega
        rw [if_neg (by omega), if_neg (by omega), if_pos (by omega), e, if_pos (by omega)]
      · rw [if_neg h3]
        simp only [List.map_cons, List.map_nil, List.cons_append, List.nil_append, List.length_cons, List.getD_cons_zero, List.getD_cons_succ, List.length_nil]
        rw [u8 (240 + n / 262144) (by omega), u8 (128 + n / 4096 % 64) (by omega), u8 (128 + n / 64 % 64) (by omega), u8 (128 + n % 64) (by omega)]
        unfold decodeN
        have e : (240 + n / 262144) % 8 * 262144 + (128 + n / 4096 % 64) % 64 * 4096 + (128 + n / 64 % 64) % 64 * 64 + (128 + n % 64) % 64 = n := by omega
        rw [if_neg (by omega), if_neg (by omega), if_neg (by omega), if_pos (by omega), e, if_pos (by omega)]

theorem enc_len (c : Int) : 1 ≤ (encodeRune c).length ∧ (encodeRune c).length ≤ 4 := by
  have := encodeRuneZ_length c
  simpa [encodeRune] using this
theorem enc_ne (c : Int) : encodeRune c ≠ [] := by
  intro h; have := enc_len c; rw [h] at this; simp at this

theorem isChar_nat {c : Int} (h : isChar c) : ∃ n : Nat, c = n ∧ isChar (n : Int) := by
  have h0 : 0 ≤ c := by unfold isChar at h; omega
  obtain ⟨n, rfl⟩ := Int.eq_ofNat_of_zero_le h0
  exact ⟨n, rfl, h⟩

/-- A character comes back from its octets, whatever stands behind them. -/
theorem dec_enc (c : Int) (h : isChar c) (t : List UInt8) : dec (encodeRune c ++ t) = (c, (encodeRune c).length) := by
  obtain ⟨n, rfl, hn⟩ := isChar_nat h
  have hl := enc_len n
  unfold dec
  rw [if_neg (by simp [enc_ne]), decodeN_enc n hn t]
  rw [if_neg]
  rintro ⟨h1, h2⟩
  have e : n = 65533 := h1
  subst e
  have : (encodeRune ((65533 : Nat) : Int)).length = 3 := by decide +kernel
  have h2' : (encodeRune ((65533 : Nat) : Int)).length ≤ 1 := h2
  omega

theorem u8_back (x : UInt8) (n : Nat) (h : n = x.toNat) : n.toUInt8 = x := by subst h; simp

set_option maxRecDepth 100000 in
set_option maxHeartbeats 2000000 in
theorem decodeN_cases (n b0 b1 b2 b3 : Nat) (h0 : b0 < 256) (h1 : b1 < 256) (h2 : b2 < 256) (_ : b3 < 256) :
    decodeN n b0 b1 b2 b3 = (65533, 1) ∨
    (∃ c : Nat, isChar c ∧ ((decodeN n b0 b1 b2 b3 = (c, 1) ∧ encN c = [b0]) ∨ (decodeN n b0 b1 b2 b3 = (c, 2) ∧ 1 < n ∧ encN c = [b0, b1]) ∨ (decodeN n b0 b1 b2 b3 = (c, 3) ∧ 2 < n ∧ encN c = [b0, b1, b2]) ∨
      (decodeN n b0 b1 b2 b3 = (c, 4) ∧ 3 < n ∧ encN c = [b0, b1, b2, b3]))) := by
  unfold decodeN isChar
  split
  · right
    refine ⟨b0, by omega, .inl ⟨rfl, ?_⟩⟩
    unfold encN; rw [if_pos (by omega)]
  · split
    · split
      · right
        refine ⟨_, ?_, .inr (.inl ⟨rfl, by omega, ?_⟩)⟩
        · omega
        · unfold encN; rw [if_neg (by omega), if_pos (by omega)]
          congr 1
          · omega
          · congr 1; omega
      · left; rfl
    · split
      · split
        · right
          refine ⟨_, ?_, .inr (.inr (.inl ⟨rfl, by omega, ?_⟩))⟩
          · omega
          · unfold encN; rw [if_neg (by omega), if_neg (by omega), if_pos (by omega)]
            congr 1
            · omega
            · congr 1
              · omega
              · congr 1; omega
        · left; rfl
      · split
        · split
          · right
            refine ⟨_, ?_, .inr (.inr (.inr ⟨rfl, by omega, ?_⟩))⟩
            · omega
            · unfold encN; rw [if_neg (by omega), if_neg (by omega), if_neg (by omega)]
              congr 1
              · omega
              · congr 1
                · omega
                · congr 1
                  · omega
                  · congr 1; omega
          · left; rfl
        · left; rfl

theorem oct_lt (l : List UInt8) (k : Nat) : oct l k < 256 := (l.getD k 0).toNat_lt

theorem u8_oct (l : List UInt8) (k : Nat) : (oct l k).toUInt8 = l.getD k 0 := by unfold oct; simp

/-- What a text begins with: an octet that begins none, or a character's octets. -/
theorem dec_cases (l : List UInt8) (hl : l ≠ []) : dec l = (-1, 1) ∨ ∃ c t, isChar c ∧ l = encodeRune c ++ t := by
  rcases decodeN_cases l.length (oct l 0) (oct l 1) (oct l 2) (oct l 3) (oct_lt _ _) (oct_lt _ _) (oct_lt _ _) (oct_lt _ _) with h | ⟨c, hc, h⟩
  · left
    unfold dec
    rw [if_neg hl, h, if_pos ⟨rfl, Nat.le_refl _⟩]
  · right
    refine ⟨(c : Int), ?_⟩
    rw [enc_eq c hc]
    rcases h with ⟨_, he⟩ | ⟨_, hn, he⟩ | ⟨_, hn, he⟩ | ⟨_, hn, he⟩
    · rw [he]
      match l, hl with
      | x :: t, _ => exact ⟨t, hc, by simp [oct]⟩
    · rw [he]
      match l, hn with
      | x :: y :: t, _ => exact ⟨t, hc, by simp [oct]⟩
    · rw [he]
      match l, hn with
      | x :: y :: z :: t, _ => exact ⟨t, hc, by simp [oct]⟩
    · rw [he]
      match l, hn with
      | x :: y :: z :: u :: t, _ => exact ⟨t, hc, by simp [oct]⟩

theorem dec_nil : dec [] = (-1, 0) := rfl

theorem dec_width (l : List UInt8) (hl : l ≠ []) : 1 ≤ (dec l).2 ∧ (dec l).2 ≤ 4 ∧ (dec l).2 ≤ l.length := by
  have hp : 0 < l.length := List.length_pos_iff.2 hl
  rcases dec_cases l hl with h | ⟨c, t, hc, rfl⟩
  · rw [h]; simp; omega
  · rw [dec_enc c hc t]
    have := enc_len c
    simp
    omega

theorem dec_char (l : List UInt8) (hl : l ≠ []) : (dec l).1 = -1 ∨ isChar (dec l).1 := by
  rcases dec_cases l hl with h | ⟨c, t, hc, rfl⟩
  · rw [h]; exact .inl rfl
  · rw [dec_enc c hc t]; exact .inr hc

theorem dec_range (l : List UInt8) : -1 ≤ (dec l).1 ∧ (dec l).1 ≤ 1114111 := by
  by_cases hl : l = []
  · subst hl; rw [dec_nil]; simp
  · rcases dec_char l hl with h | h
    · omega
    · unfold isChar at h; omega

/-! ### Parts -/
def partsF : Nat → List UInt8 → List Int
  | 0, _ => []
  | n + 1, l => if l = [] then [] else (dec l).1 :: partsF n (l.drop (dec l).2)
/-- What a text is made of: characters, and -1 for each octet that begins none. -/
def parts (l : List UInt8) : List Int := partsF l.length l

theorem partsF_nil (n : Nat) : partsF n [] = [] := by cases n <;> simp [partsF]
theorem partsF_fuel : ∀ (n m : Nat) (l : List UInt8), l.length ≤ n → l.length ≤ m → partsF n l = partsF m l
  | 0, m, l, hn, _ => by
    have : l = [] := List.eq_nil_of_length_eq_zero (by omega)
    subst this; rw [partsF_nil, partsF_nil]
  | n + 1, 0, l, _, hm => by
    have : l = [] := List.eq_nil_of_length_eq_zero (by omega)
    subst this; rw [partsF_nil, partsF_nil]
  | n + 1, m + 1, l, hn, hm => by
    unfold partsF
    by_cases hne : l = []
    · simp [hne]
    · have hw := dec_width l hne
      rw [if_neg hne, if_neg hne, partsF_fuel n m (l.drop (dec l).2) (by rw [List.length_drop]; omega) (by rw [List.length_drop]; omega)]
theorem parts_nil : parts [] = [] := rfl
theorem parts_step (l : List UInt8) (hl : l ≠ []) : parts l = (dec l).1 :: parts (l.drop (dec l).2) := by
  have hp : 0 < l.length := List.length_pos_iff.2 hl
  have hw := dec_width l hl
  obtain ⟨n, hn⟩ : ∃ n, l.length = n + 1 := ⟨l.length - 1, by omega⟩
  unfold parts
  rw [hn]
  show (if l = [] then [] else _) = _
  rw [if_neg hl, partsF_fuel n (l.drop (dec l).2).length _ (by rw [List.length_drop]; omega) (Nat.le_refl _)]

theorem parts_enc1 (c : Int) (hc : isChar c) (t : List UInt8) : parts (encodeRune c ++ t) = c :: parts t := by
  rw [parts_step _ (by simp [enc_ne]), dec_enc c hc t]
  simp

/-- Induction along a text's parts. -/
theorem parts_ind {P : List UInt8 → Prop} (h0 : P []) (hbad : ∀ x t, dec (x :: t) = (-1, 1) → P t → P (x :: t)) (hc : ∀ c t, isChar c → P t → P (encodeRune c ++ t)) : ∀ l, P l := by
  intro l
  generalize hn : l.length = n
  induction n using Nat.strongRecOn generalizing l with
  | _ n ih =>
    by_cases hl : l = []
    · subst hl; exact h0
    · rcases dec_cases l hl with h | ⟨c, t, hch, rfl⟩
      · match l, hl with
        | x :: t, _ => exact hbad x t h (ih t.length (by rw [← hn]; simp) t rfl)
      · exact hc c t hch (ih t.length (by have := enc_len c; rw [← hn]; simp; omega) t rfl)

theorem parts_bad (x : UInt8) (t : List UInt8) (h : dec (x :: t) = (-1, 1)) : parts (x :: t) = -1 :: parts t := by
  rw [parts_step _ (by simp), h]; simp

def fix (c : Int) : Int := if c = -1 ∨ c = 0 then 65533 else c
/-- The characters of the repaired text. -/
def chars (l : List UInt8) : List Int := (parts l).map fix
def encs (cs : List Int) : List UInt8 := cs.flatMap encodeRune
/-- A text, repaired. -/
def rep (l : List UInt8) : List UInt8 := encs (chars l)
def valid (l : List UInt8) : Bool := (parts l).all (fun c => decide (c ≠ -1))

theorem parts_char (l : List UInt8) : ∀ c ∈ parts l, c = -1 ∨ isChar c := by
  induction l using parts_ind with
  | h0 => simp [parts_nil]
  | hbad x t h ih => rw [parts_bad x t h]; simp; exact ih
  | hc c t h ih =>
    rw [parts_enc1 c h t]
    intro d hd
    rcases List.mem_cons.1 hd with rfl | hd
    · exact .inr h
    · exact ih d hd

theorem fix_char {c : Int} (h : c = -1 ∨ isChar c) : isChar (fix c) ∧ fix c ≠ 0 := by
  unfold fix
  split
  · exact ⟨by decide, by omega⟩
  · rcases h with h | h
    · omega
    · exact ⟨h, by omega⟩
theorem fix_id {c : Int} (h : isChar c) (h0 : c ≠ 0) : fix c = c := by
  unfold fix; unfold isChar at h; rw [if_neg (by omega)]

theorem chars_char (l : List UInt8) : ∀ c ∈ chars l, isChar c ∧ c ≠ 0 := by
  intro c hc
  obtain ⟨d, hd, rfl⟩ := List.mem_map.1 hc
  exact fix_char (parts_char l d hd)

theorem parts_encs (cs : List Int) (h : ∀ c ∈ cs, isChar c) : parts (encs cs) = cs := by
  induction cs with
  | nil => rfl
  | cons c r ih =>
    unfold encs
    rw [List.flatMap_cons, parts_enc1 c (h c (by simp))]
    congr 1
    exact ih (fun d hd => h d (by simp [hd]))

theorem parts_rep (l : List UInt8) : parts (rep l) = chars l := parts_encs _ (fun c hc => (chars_char l c hc).1)
theorem chars_rep (l : List UInt8) : chars (rep l) = chars l := by
  show (parts (rep l)).map fix = _
  rw [parts_rep]
  have : (chars l).map fix = (chars l).map id := List.map_congr_left (fun c hc => fix_id (chars_char l c hc).1 (chars_char l c hc).2)
  rw [this, List.map_id]
theorem rep_rep (l : List UInt8) : rep (rep l) = rep l := by unfold rep; rw [show chars (encs (chars l)) = chars l from chars_rep l]
theorem valid_rep (l : List UInt8) : valid (rep l) = true := by
  unfold valid
  rw [parts_rep, List.all_eq_true]
  intro c hc
  have := (chars_char l c hc).1
  unfold isChar at this
  simp; omega

theorem enc_no0 (c : Int) (h : isChar c) (h0 : c ≠ 0) : (0 : UInt8) ∉ encodeRune c := by
  obtain ⟨n, rfl, hn⟩ := isChar_nat h
  rw [enc_eq n hn]
  unfold isChar at hn
  intro hm
  obtain ⟨k, hk, e⟩ := List.mem_map.1 hm
  have hk' : k % 256 = 0 := by have := congrArg UInt8.toNat e; simpa using this
  unfold encN at hk
  split at hk
  · simp at hk; omega
  · split at hk
    · simp at hk; omega
    · split at hk
      · simp at hk; omega
      · simp at hk; omega
theorem rep_no0 (l : List UInt8) : (0 : UInt8) ∉ rep l := by
  unfold rep encs
  intro h
  obtain ⟨c, hc, h⟩ := List.mem_flatMap.1 h
  exact enc_no0 c (chars_char l c hc).1 (chars_char l c hc).2 h

theorem enc_zero : encodeRune 0 = [0] := by decide +kernel

theorem rep_of_valid (l : List UInt8) (hv : valid l = true) (h0 : (0 : UInt8) ∉ l) : rep l = l := by
  induction l using parts_ind with
  | h0 => rfl
  | hbad x t h ih =>
    unfold valid at hv
    rw [parts_bad x t h] at hv
    simp at hv
  | hc c t h ih =>
    have hv' : valid t = true := by
      unfold valid at hv ⊢
      rw [parts_enc1 c h t, List.all_cons] at hv
      exact (Bool.and_eq_true_iff.1 hv).2
    have hc0 : c ≠ 0 := by
      rintro rfl
      rw [enc_zero] at h0
      simp at h0
    have ht : (0 : UInt8) ∉ t := fun hm => h0 (List.mem_append.2 (.inr hm))
    have := ih hv' ht
    unfold rep chars at this ⊢
    rw [parts_enc1 c h t, List.map_cons, fix_id h hc0]
    unfold encs at this ⊢
    rw [List.flatMap_cons, this]

/-- A repaired text is the text itself just if that is valid and has no 0. -/
theorem rep_eq_iff (l : List UInt8) : rep l = l ↔ (valid l = true ∧ (0 : UInt8) ∉ l) :=
  ⟨fun h => ⟨by rw [← h]; exact valid_rep l, by rw [← h]; exact rep_no0 l⟩, fun h => rep_of_valid l h.1 h.2⟩

theorem parts_len (l : List UInt8) : (parts l).length ≤ l.length := by
  induction l using parts_ind with
  | h0 => simp [parts_nil]
  | hbad x t h ih => rw [parts_bad x t h]; simp; exact ih
  | hc c t h ih =>
    have := enc_len c
    rw [parts_enc1 c h t]; simp; omega
theorem chars_len (l : List UInt8) : (chars l).length ≤ l.length := by unfold chars; rw [List.length_map]; exact parts_len l

theorem encs_len (cs : List Int) : (encs cs).length ≤ 4 * cs.length := by
  induction cs with
  | nil => simp [encs]
  | cons c r ih =>
    have := enc_len c
    unfold encs at ih ⊢
    rw [List.flatMap_cons, List.length_append, List.length_cons]; omega
theorem encs_snoc (cs : List Int) (c : Int) : encs (cs ++ [c]) = encs cs ++ encodeRune c := by simp [encs]

/-- A text of characters is valid. -/
theorem valid_enc (c : Int) (h : isChar c) : valid (encodeRune c) = true := by
  unfold valid
  have := parts_enc1 c h []
  rw [List.append_nil] at this
  rw [this]
  unfold isChar at h
  simp [parts_nil]; omega

/-! ### Go's decoder -/
theorem get_oct (s : ByteArray) (k : Nat) : (s.get! k).toNat = oct s.data.toList k := by
  unfold oct
  cases s with
  | mk d =>
    show (d[k]!).toNat = _
    rw [List.getD_eq_getElem?_getD, Array.getElem?_toList]
    by_cases h : k < d.size
    · rw [getElem!_pos d k h, Array.getElem?_eq_getElem h]; rfl
    · rw [getElem!_neg d k h, Array.getElem?_eq_none (by show d.size ≤ k; omega)]; rfl

theorem go_dec (s : ByteArray) : dec s.data.toList = if (decodeGo s).1 = 65533 ∧ (decodeGo s).2 ≤ 1 then (-1, (decodeGo s).2) else (((decodeGo s).1 : Int), (decodeGo s).2) := by
  unfold dec decodeGo
  by_cases h : s.size = 0
  · have hl : s.data.toList = [] := List.eq_nil_of_length_eq_zero (by rw [Oct.size_list]; exact h)
    rw [if_pos hl, if_pos h]; simp
  · have hl : s.data.toList ≠ [] := by intro e; apply h; rw [← Oct.size_list, e]; rfl
    have e : Utf8.decode s 0 = decodeN s.data.toList.length (oct s.data.toList 0) (oct s.data.toList 1) (oct s.data.toList 2) (oct s.data.toList 3) := by
      rw [decode_at, get_oct, get_oct, get_oct, get_oct, Oct.size_list]; rfl
    rw [if_neg hl, if_neg h, e]
    rcases decodeN_cases s.data.toList.length (oct s.data.toList 0) (oct s.data.toList 1) (oct s.data.toList 2) (oct s.data.toList 3) (oct_lt _ _) (oct_lt _ _) (oct_lt _ _) (oct_lt _ _) with h' | ⟨c, hc, h'⟩
    · rw [h']
    · rcases h' with ⟨h', _⟩ | ⟨h', _, _⟩ | ⟨h', _, _⟩ | ⟨h', _, _⟩
      · rw [h']
      all_goals (rw [h']; simp)

/-- Is it a character's number? -/
def charB (c : Int) : Bool := decide (isChar c)

theorem cut_list (s : ByteArray) (a : Nat) : (s.extract a s.size).data.toList = s.data.toList.drop a := by
  rw [Lib.extract_data, List.take_of_length_le (by rw [List.length_drop, Go.Proofs.YtamenccdnobjkaaGreatDoor.Oct.size_list]; exact Nat.le_refl _)]
end Go.Proofs.YtamenccdnobjkaaGreatDoor.Utf

/-
  Memory that the call itself made: a slice of octets and what it is as a text; worlds in which all older memory is unturned.
-/
namespace Go.Proofs.YtamenccdnobjkaaGreatDoor.Mem
open Go.RowKit Go.Proofs.YtamenccdnobjkaaGreatDoor.Oct

theorem info_u8 : (Tryz.prog.info? 5).map (fun i => (i.zero, i.size, i.bytes)) = some (some (.int .u8 0), 1, 1) := by kernel_rfl

/-- An octet's value. -/
abbrev bv (c : UInt8) : Value := .int .u8 (c.toNat : Int)

/-- 'string(b)' of a slice of the call's own that holds the octets l, nil or not. -/
theorem conv_own {w : World} {base n : Nat} {v : Value} {l : List UInt8} (h : w.ownsRow base 5 1 v n (l.map bv)) :
    (convert 59 9 v).run Tryz.prog w = .ok (.string (S l)) w := by
  have hn : l.length = n := by simpa using h.1
  rcases h.2 with ⟨rfl, hz⟩ | ⟨g, cap, cur, rfl, hg, hh, hnc, hcm, hcs, htk⟩
  · have hl : l = [] := List.eq_nil_of_length_eq_zero (by omega)
    subst hl
    exact Lib.run_convert_nil_bytes w _ _ 5 0 Tryz.underlying59 Tryz.underlying5 Tryz.underlying9
  · subst hn
    exact run_convert_bytes_back w _ _ 5 ⟨g, 0, none⟩ cap l Tryz.underlying59 Tryz.underlying5 Tryz.underlying9
      (fun j hj => by
        have h1 := h.cellAt j (by omega)
        rw [Addr.add_lit, Nat.zero_add, h1]
        simp [hj])

theorem own_base {w : World} {base n : Nat} {e : TypeId} {v : Value} {xs : List Value} (h : w.ownsRow base e 1 v n xs) : ∀ k, v.ownBlock = some k → base ≤ k := by
  intro k hk
  rcases h.2 with ⟨rfl, _⟩ | ⟨g, cap, cur, rfl, hg, _⟩
  · simp [Value.ownBlock] at hk
  · simp [Value.ownBlock] at hk; omega

/-- What lay in w lies as it lay. -/
abbrev Kept (w w' : World) : Prop := Below w.heap.size w w'
theorem kept_trans {a b c : World} (h : Kept a b) (k : Kept b c) : Kept a c := Below.trans h (k.mono h.size)
theorem kept_cell {w w' : World} (h : Kept w w') {p : Addr} {v : Value} (hc : w.cell? p = some v) : w'.cell? p = some v := by
  rw [h.cell (World.block_lt_of_cell? w p hc)]; exact hc

/-- A row of the call's own lies as it lay in a world in which nothing older has turned. -/
theorem own_kept {w w' : World} {base n size : Nat} {e : TypeId} {v : Value} {xs : List Value} (h : w.ownsRow base e size v n xs) (hb : Kept w w') : w'.ownsRow base e size v n xs := by
  refine h.kept (row := none) ⟨hb.os, hb.tape, hb.output, hb.size, fun k hk _ => hb.block k hk⟩ ?_
  rcases h.2 with ⟨rfl, _⟩ | ⟨g, cap, cur, rfl, _⟩
  · exact .inl rfl
  · exact .inr (by simp [Value.ownBlock])

theorem str_beq (a b : ByteArray) : (a.toList == b.toList) = decide (a = b) := by
  rw [Bool.eq_iff_iff]
  simp only [beq_iff_eq, decide_eq_true_eq]
  constructor
  · intro h; rw [ByteArray.toList_eq, ByteArray.toList_eq] at h; rw [← S_list a, ← S_list b, h]
  · intro h; rw [h]

theorem info_int : (Tryz.prog.info? 3).map (fun i => (i.zero, i.size, i.bytes)) = some (some (.int .i64 0), 1, 8) := by kernel_rfl
abbrev iv (c : Int) : Value := .int .i64 c
end Go.Proofs.YtamenccdnobjkaaGreatDoor.Mem

/-
  Contracts of utf.character, Encode, Decode, and of the law's own num.
-/
namespace Go.Proofs.YtamenccdnobjkaaGreatDoor.Utf
open Go.RowKit Go.Proofs.YtamenccdnobjkaaGreatDoor.Oct Go.Proofs.YtamenccdnobjkaaGreatDoor.Mem
open Go.Lib (encodeRune)

/-- Go's own two tables of characters' first octets, as they are laid. -/
def Tabs (w : World) : Prop := Lib.Utf8Tabs 1 2 w
theorem Tabs.kept {w w' : World} (h : Tabs w) (hb : Kept w w') : Tabs w' :=
  ⟨fun c hc => kept_cell hb (h.1 c hc), fun i hi => ⟨kept_cell hb (h.2 i hi).1, kept_cell hb (h.2 i hi).2⟩⟩

theorem valid_eq (c : Int) : Lib.validRune c = charB c := by unfold Lib.validRune charB isChar; rfl

theorem character_c (n : Int) (w : World) :
    Calls Tryz.prog 115 #[.int .i64 n] w fun e w' => e = .returned (.bool (charB n)) ∧ w = w' := by
  by_cases h0 : 0 ≤ n
  · by_cases h1 : n ≤ 1114111
    · have hv := fun w => Tryz.utf8_ValidRune n w
      simp only [valid_eq] at hv
      generalize charB n = b at hv
      go_enter Tryz.func115, Tryz.ntmps115
      go_wp2_with (go_at_call 120; refine (hv _).mono ?_; rintro e w' ⟨rfl, rfl⟩)
      go_ret
      exact ⟨rfl, rfl⟩
    · have hb : charB n = false := decide_eq_false (by unfold isChar; omega)
      rw [hb]
      have hd : decide (n ≤ 1114111) = false := by simpa using h1
      clear h1
      go_enter Tryz.func115, Tryz.ntmps115
      go_wp2_with fail
      go_ret
      exact ⟨rfl, rfl⟩
  · have hb : charB n = false := decide_eq_false (by unfold isChar; omega)
    rw [hb]
    have hd : decide (0 ≤ n) = false := by simpa using h0
    clear h0
    go_enter Tryz.func115, Tryz.ntmps115
    go_wp2_with fail
    go_ret
    exact ⟨rfl, rfl⟩

theorem runeCells_eq (c : Int) : Lib.runeCells c = (encodeRune c).map bv := (Lib.byteCells_encodeRune c).symm

theorem encode_no (c : Int) (w : World) (h : charB c = false) :
    Calls Tryz.prog 110 #[.int .i64 c] w fun e w' => e = .returned (.tuple #[.string ⟨#[]⟩, .int .i64 4]) ∧ Kept w w' := by
  have hc := fun w => character_c c w
  simp only [h] at hc
  clear h
  go_enter Tryz.func110, Tryz.ntmps110
  go_wp2_with (go_at_call 115; refine (hc _).mono ?_; rintro e w' ⟨rfl, rfl⟩)
  go_ret2
  exact ⟨rfl, Below.refl _ _⟩

set_option maxHeartbeats 1000000 in
theorem encode_yes (c : Int) (w : World) (h : charB c = true) :
    Calls Tryz.prog 110 #[.int .i64 c] w fun e w' => e = .returned (.tuple #[.string (S (encodeRune c)), .int .i64 0]) ∧ Kept w w' := by
  have hch : isChar c := of_decide_eq_true h
  have h0 : 0 ≤ c := by unfold isChar at hch; omega
  have h1 : c ≤ 1114111 := by unfold isChar at hch; omega
  clear hch
  have hc := fun w => character_c c w
  simp only [h] at hc
  clear h
  have ha := Tryz.utf8_AppendRune_plain w.heap.size (.slice none 0 0) 0 [] c (by omega) (by omega) w (World.ownsRow_nil _ _ _ _) (by omega) (Nat.le_refl _)
  go_enter Tryz.func110, Tryz.ntmps110
  go_wp2_with (go_at_call 115; refine (hc _).mono ?_; rintro e w' ⟨rfl, rfl⟩)
  refine ha.mono ?_
  rintro e w1 ⟨v, rfl, hown, o, hg⟩
  rw [List.nil_append, runeCells_eq] at hown
  have hcv := conv_own hown
  have hb : Kept w w1 := ((Below.refl _ w).alloc (Nat.le_refl _) o).grown hg (by simp) (fun k hk => by simp [Value.ownBlock] at hk)
  have HB := Lib.hid hb
  clear hb hg hown
  go_wp2
  go_ret2
  exact ⟨rfl, HB.out⟩

theorem decode_c (s : ByteArray) (w : World) (hT : Tabs w) :
    Calls Tryz.prog 90 #[.string s] w fun e w' => e = .returned (.tuple #[.int .i64 (dec s.data.toList).1, .int .i64 ((dec s.data.toList).2 : Nat)]) ∧ Kept w w' := by
  have hd := Tryz.utf8_DecodeRuneInString s w hT
  have E := go_dec s
  have hr := dec_range s.data.toList
  have hr2 : (dec s.data.toList).2 ≤ 4 := by
    by_cases hl : s.data.toList = []
    · rw [hl, dec_nil]; simp
    · exact (dec_width _ hl).2.1
  generalize dec s.data.toList = d at E hr hr2
  generalize Lib.decodeGo s = g at hd E
  obtain ⟨r, k⟩ := g
  simp only at hd E
  by_cases hr0 : r = 65533
  · subst hr0
    by_cases hk : k ≤ 1
    · rw [if_pos ⟨rfl, hk⟩] at E
      subst E
      have hk' : (k : Int) ≤ 1 := by omega
      go_enter Tryz.func90, Tryz.ntmps90
      go_wp2_with (go_at_call 106; refine hd.mono ?_; rintro e w' ⟨rfl, hb⟩)
      go_ret2
      exact ⟨rfl, hb⟩
    · rw [if_neg (by omega)] at E
      subst E
      have hk' : decide ((k : Int) ≤ 1) = false := by simp; omega
      have hk2 : decide (k ≤ 1) = false := by simp; omega
      go_enter Tryz.func90, Tryz.ntmps90
      go_wp2_with (go_at_call 106; refine hd.mono ?_; rintro e w' ⟨rfl, hb⟩)
      go_ret2
      exact ⟨rfl, hb⟩
  · rw [if_neg (by omega)] at E
    subst E
    have hb' : ((r : Int) == 65533) = false := by simp; omega
    have h0 : (0 : Int) ≤ (r : Int) := by omega
    have h1 : (r : Int) ≤ 1114111 := hr.2
    clear hr hr2
    go_enter Tryz.func90, Tryz.ntmps90
    go_wp2_with (go_at_call 106; refine hd.mono ?_; rintro e w' ⟨rfl, hb⟩)
    go_ret2
    exact ⟨rfl, hb⟩
end Go.Proofs.YtamenccdnobjkaaGreatDoor.Utf
