/-
  Octets in memory: a slice of octets that the call itself made; what it is as a text.
-/
import Derived.Test.YtlekaibiofkleaaOctMade
import Derived.Lib.BufferRead
namespace Go.Proofs.Ytlekaibiofkleaa.Oct
open Go.RowKit

/-- An octet's value. -/
abbrev bv (c : UInt8) : Value := .int .u8 (c.toNat : Int)

/-- 'string(b)' of a slice of the call's own that holds the octets l, nil or not. -/
theorem conv_own {w : World} {base n : Nat} {v : Value} {l : List UInt8} (h : w.ownsRow base 5 1 v n (l.map bv)) :
    (convert 37 9 v).run Try.prog w = .ok (.string (S l)) w := by
  have hn : l.length = n := by simpa using h.1
  rcases h.2 with ⟨rfl, hz⟩ | ⟨g, cap, cur, rfl, hg, hh, hnc, hcm, hcs, htk⟩
  · have hl : l = [] := List.eq_nil_of_length_eq_zero (by omega)
    subst hl
    exact Lib.run_convert_nil_bytes w _ _ 5 0 Try.underlying37 Try.underlying5 Try.underlying9
  · subst hn
    exact run_convert_bytes_back w _ _ 5 ⟨g, 0, none⟩ cap l Try.underlying37 Try.underlying5 Try.underlying9
      (fun j hj => by
        have h1 := h.cellAt j (by omega)
        rw [Addr.add_lit, Nat.zero_add, h1]
        simp [hj])

/-- The cells of the first k octets of l. -/
def cellsTo (l : List UInt8) (k : Nat) : List Value := (l.take k).map bv
theorem cellsTo_all (l : List UInt8) (k : Nat) (h : l.length ≤ k) : cellsTo l k = l.map bv := by unfold cellsTo; rw [List.take_of_length_le h]
theorem cellsTo_succ (l : List UInt8) (k : Nat) (c : UInt8) (h : l[k]? = some c) : cellsTo l k ++ [bv c] = cellsTo l (k + 1) := by
  unfold cellsTo
  rw [List.take_add_one, h]
  simp

theorem own_base {w : World} {base n : Nat} {e : TypeId} {v : Value} {xs : List Value} (h : w.ownsRow base e 1 v n xs) : ∀ k, v.ownBlock = some k → base ≤ k := by
  intro k hk
  rcases h.2 with ⟨rfl, _⟩ | ⟨g, cap, cur, rfl, hg, _⟩
  · simp [Value.ownBlock] at hk
  · simp [Value.ownBlock] at hk; omega

/-- The new octet's cell, as an append of one octet asks for it. -/
theorem push_cell {w : World} {x : Int} {c : UInt8} (h : x = (c.toNat : Int)) (j : Nat) (u : Value) (hj : [bv c][j]? = some u) :
    (w.alloc (.cells #[.int .u8 x] 5)).cell? ((⟨w.heap.size, 0, none⟩ : Addr).add j) = some u := by
  subst h
  match j, hj with
  | 0, hj => simp at hj; subst hj; simp [Addr.add]
theorem push_one {c : UInt8} (u : Value) (hu : u ∈ [bv c]) : u.oneCell' = true := by simp at hu; subst hu; rfl

/-- Behind an append of one octet. -/
theorem push_own {w wr w1 : World} {B k : Nat} {v v' : Value} {l : List UInt8} {c : UInt8} {o : Obj} (hrow : wr.ownsRow B 5 1 v k (cellsTo l k)) (hbel : Below B w wr) (hB : B ≤ wr.heap.size)
    (hown : w1.ownsRow B 5 1 v' (k + 1) (cellsTo l k ++ [bv c])) (hgrow : (wr.alloc o).grownBy w1 v.ownBlock) (hl : l[k]? = some c) :
    w1.ownsRow B 5 1 v' (k + 1) (cellsTo l (k + 1)) ∧ Below B w w1 :=
  ⟨cellsTo_succ l k c hl ▸ hown, (hbel.alloc hB _).grown hgrow (by simp; omega) (own_base hrow)⟩
end Go.Proofs.Ytlekaibiofkleaa.Oct
