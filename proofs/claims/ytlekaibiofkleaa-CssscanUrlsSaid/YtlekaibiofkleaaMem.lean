/-
  Memory that the call itself made: a slice of octets and what it is as a text; worlds in which all older memory is unturned.
-/
import Derived.Test.YtlekaibiofkleaaOctPure
import Derived.Test.YtlekaibiofkleaaProg
import Derived.Lib.BufferRead
import Derived.Laws.IdiomStrings
import Derived.Lib.Hide
import Derived.Deep.RegionHeld
namespace Go.Proofs.Ytlekaibiofkleaa.Mem
open Go.RowKit Go.Proofs.Ytlekaibiofkleaa.Oct

theorem info_u8 : (Try.prog.info? 5).map (fun i => (i.zero, i.size, i.bytes)) = some (some (.int .u8 0), 1, 1) := by kernel_rfl

/-- An octet's value. -/
abbrev bv (c : UInt8) : Value := .int .u8 (c.toNat : Int)

/-- 'string(b)' of a slice of the call's own that holds the octets l, nil or not. -/
theorem conv_own {w : World} {base n : Nat} {v : Value} {l : List UInt8} (h : w.ownsRow base 5 1 v n (l.map bv)) :
    (convert 37 9 v).run Try.prog w = .ok (.string (S l)) w := by
  have hn : l.length = n := by simpa using h.1
  rcases h.2 with ⟨rfl, hz⟩ | ⟨g, cap, cur, rfl, hg, hh, hnc, hcm, hcs, htk⟩
  · have hl : l = [] := List.eq_nil_of_length_eq_zero (by omega)
    subst hl
    exact Lib.run_convert_nil_bytes w _ _ 5 0 Try.underlying37 Try.underlying5 Try.underlying9
  · subst hn
    exact run_convert_bytes_back w _ _ 5 ⟨g, 0, none⟩ cap l Try.underlying37 Try.underlying5 Try.underlying9
      (fun j hj => by
        have h1 := h.cellAt j (by omega)
        rw [Addr.add_lit, Nat.zero_add, h1]
        simp [hj])

theorem own_base {w : World} {base n : Nat} {e : TypeId} {v : Value} {xs : List Value} (h : w.ownsRow base e 1 v n xs) : ∀ k, v.ownBlock = some k → base ≤ k := by
  intro k hk
  rcases h.2 with ⟨rfl, _⟩ | ⟨g, cap, cur, rfl, hg, _⟩
  · simp [Value.ownBlock] at hk
  · simp [Value.ownBlock] at hk; omega

/-- What lay in w lies as it lay. -/
abbrev Kept (w w' : World) : Prop := Below w.heap.size w w'
theorem kept_trans {a b c : World} (h : Kept a b) (k : Kept b c) : Kept a c := Below.trans h (k.mono h.size)
theorem kept_cell {w w' : World} (h : Kept w w') {p : Addr} {v : Value} (hc : w.cell? p = some v) : w'.cell? p = some v := by
  rw [h.cell (World.block_lt_of_cell? w p hc)]; exact hc

/-- A row of the call's own lies as it lay in a world in which nothing older has turned. -/
theorem own_kept {w w' : World} {base n size : Nat} {e : TypeId} {v : Value} {xs : List Value} (h : w.ownsRow base e size v n xs) (hb : Kept w w') : w'.ownsRow base e size v n xs := by
  refine h.kept (row := none) ⟨hb.os, hb.tape, hb.output, hb.size, fun k hk _ => hb.block k hk⟩ ?_
  rcases h.2 with ⟨rfl, _⟩ | ⟨g, cap, cur, rfl, _⟩
  · exact .inl rfl
  · exact .inr (by simp [Value.ownBlock])

theorem str_beq (a b : ByteArray) : (a.toList == b.toList) = decide (a = b) := by
  rw [Bool.eq_iff_iff]
  simp only [beq_iff_eq, decide_eq_true_eq]
  constructor
  · intro h; rw [ByteArray.toList_eq, ByteArray.toList_eq] at h; rw [← S_list a, ← S_list b, h]
  · intro h; rw [h]

theorem info_int : (Try.prog.info? 3).map (fun i => (i.zero, i.size, i.bytes)) = some (some (.int .i64 0), 1, 8) := by kernel_rfl
abbrev iv (c : Int) : Value := .int .i64 c
end Go.Proofs.Ytlekaibiofkleaa.Mem
