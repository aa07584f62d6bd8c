/-
  Values in memory: a value as a tree of plain data, and what a world must hold so that it reads as that tree.
-/
import Derived.Test.YtcheiombgnabaaaOctPure
import Derived.Test.YtcheiombgnabaaaProg
import Derived.Lib.Hide
import Derived.Laws.Rows
namespace Go.Proofs.Ytcheiombgnabaaa.Val
open Go.RowKit Go.Proofs.Ytcheiombgnabaaa.Oct

/-- A value: kind, number, text, values, keys. -/
inductive V where
  | mk (kind num : Int) (text : ByteArray) (list : List V) (keys : List ByteArray)

/-- What is asked of each block that is reached: is it one of texts?, the block, the place in it, how many. -/
abbrev Cond := Bool → Nat → Nat → Nat → Prop

/-- A slice of texts reads as ks. -/
def Texts (C : Cond) (w : World) (K : Value) (ks : List ByteArray) : Prop :=
  ∃ (p : Option Addr) (cap b off : Nat), K = .slice p ks.length cap ∧ (ks.length * 16 ≤ 140737488351232 ∧ ∀ s ∈ ks, s.size ≤ 140737488351232) ∧
    (0 < ks.length → p = some ⟨b, off, none⟩ ∧ C true b off ks.length) ∧ ∀ i (h : i < ks.length), w.cell? ⟨b, off + i, none⟩ = some (.string ks[i])

/-- A value reads as a tree. -/
inductive Holds (C : Cond) (w : World) : Value → V → Prop where
  | mk (k n : Int) (s : ByteArray) (p : Option Addr) (cap : Nat) (K : Value) (l : List V) (ks : List ByteArray) (b off : Nat) (c : Nat → Nat → Value)
      (hr : -9223372036854775808 ≤ k ∧ k ≤ 9223372036854775807 ∧ -9223372036854775808 ≤ n ∧ n ≤ 9223372036854775807 ∧ s.size ≤ 140737488351232 ∧ l.length * 80 ≤ 140737488351232)
      (hp : 0 < l.length → p = some ⟨b, off, none⟩ ∧ C false b off l.length)
      (hc : ∀ i j, i < l.length → j < 5 → w.cell? ⟨b, off + (i * 5 + j), none⟩ = some (c i j))
      (hK : Texts C w K ks)
      (hl : ∀ i (h : i < l.length), Holds C w (.agg #[c i 0, c i 1, c i 2, c i 3, c i 4]) l[i]) :
      Holds C w (.agg #[.int .i64 k, .int .i64 n, .string s, .slice p l.length cap, K]) (.mk k n s l ks)

theorem Texts.frame {C C' : Cond} {w w' : World} {K : Value} {ks : List ByteArray} (h : Texts C w K ks) (hC : ∀ t b off n, C t b off n → w'.heap[b]? = w.heap[b]?) (hC' : ∀ t b off n, C t b off n → C' t b off n) : Texts C' w' K ks := by
  obtain ⟨p, cap, b, off, h1, h2, h3, h4⟩ := h
  refine ⟨p, cap, b, off, h1, h2, fun h0 => ⟨(h3 h0).1, hC' _ _ _ _ (h3 h0).2⟩, fun i hi => ?_⟩
  have := hC _ _ _ _ (h3 (by omega)).2
  rw [← h4 i hi]
  simp [World.cell?, this]

theorem Holds.frame {C C' : Cond} {w w' : World} {v : Value} {x : V} (h : Holds C w v x) (hC : ∀ t b off n, C t b off n → w'.heap[b]? = w.heap[b]?) (hC' : ∀ t b off n, C t b off n → C' t b off n) : Holds C' w' v x := by
  induction h with
  | mk k n s p cap K l ks b off c hr hp hc hK hl ih =>
    refine .mk k n s p cap K l ks b off c hr (fun h0 => ⟨(hp h0).1, hC' _ _ _ _ (hp h0).2⟩) (fun i j hi hj => ?_) (hK.frame hC hC') (fun i hi => ih i hi)
    have := hC _ _ _ _ (hp (by omega)).2
    rw [← hc i j hi hj]
    simp [World.cell?, this]

/-- What lies below n. -/
abbrev Old (n : Nat) : Cond := fun _ b _ _ => b < n

theorem Holds.kept {n : Nat} {w w' : World} {v : Value} {x : V} (h : Holds (Old n) w v x) (hb : Below n w w') : Holds (Old n) w' v x :=
  h.frame (fun _ b _ _ hb' => hb.block b hb') (fun _ _ _ _ h => h)
theorem Holds.older {n m : Nat} {w : World} {v : Value} {x : V} (h : Holds (Old n) w v x) (hnm : n ≤ m) : Holds (Old m) w v x :=
  h.frame (fun _ _ _ _ _ => rfl) (fun _ _ _ _ h => Nat.lt_of_lt_of_le h hnm)
end Go.Proofs.Ytcheiombgnabaaa.Val
