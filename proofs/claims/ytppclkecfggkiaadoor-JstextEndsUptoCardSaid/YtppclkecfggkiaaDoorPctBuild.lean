/-
  The builder as percent's functions fill it: an octet, a text, what it holds.
-/
import Derived.Test.YtppclkecfggkiaaDoorBuildText
import Derived.Test.YtppclkecfggkiaaDoorOctHex
import Derived.Test.YtppclkecfggkiaaDoorPctPure
import Derived.Lib.BufferKept
namespace Go.Proofs.YtppclkecfggkiaaDoor.Pct
open Go.RowKit Go.Proofs.YtppclkecfggkiaaDoor.Oct Go.Proofs.YtppclkecfggkiaaDoor.Build

theorem enter_byte : ∀ args w, (callFunc 15 args).run Tryd.prog w = .ok (.enter 15 args) w := enters_of Tryd.func15 (by kernel_rfl) rfl
theorem enter_write : ∀ args w, (callFunc 18 args).run Tryd.prog w = .ok (.enter 18 args) w := enters_of Tryd.func18 (by kernel_rfl) rfl
theorem enter_string : ∀ args w, (callFunc 20 args).run Tryd.prog w = .ok (.enter 20 args) w := enters_of Tryd.func20 (by kernel_rfl) rfl

/-- The builder in block b holds these octets. -/
abbrev Has (B b : Nat) (l : List UInt8) (w : World) : Prop := Is B b (Lib.byteCells l) w
theorem has_below {B b : Nat} {l : List UInt8} {W W' : World} (h : Has B b l W) (hb : Below W.heap.size W W') : Has B b l W' := by
  have one : ∀ p, Lib.BuilderAt 33 5 B b p (Lib.byteCells l) W → Lib.BuilderAt 33 5 B b p (Lib.byteCells l) W' := fun p h => by
    have hlt := h.lt
    obtain ⟨h1, v, h2, h3, h4⟩ := h
    refine ⟨h1, v, by rw [hb.block b hlt]; exact h2, ?_, h4⟩
    refine h3.kept (row := none) ⟨hb.os, hb.tape, hb.output, hb.size, fun k hk _ => hb.block k hk⟩ ?_
    rcases h3.2 with ⟨rfl, _⟩ | ⟨g, cap, cur, rfl, _⟩
    · exact .inl rfl
    · exact .inr (by simp [Value.ownBlock])
  rcases h with h | h
  · exact .inl (one _ h)
  · exact .inr (one _ h)
theorem has_lt {B b : Nat} {l : List UInt8} {W : World} (h : Has B b l W) : B ≤ b ∧ b < W.heap.size := by
  rcases h with h | h
  · exact ⟨h.1, h.lt⟩
  · exact ⟨h.1, h.lt⟩
theorem has_fresh (w : World) : Has w.heap.size w.heap.size [] (w.alloc (.cells #[.pointer none, .slice none 0 0] 33)) :=
  .inl ⟨Nat.le_refl _, .slice none 0 0, heap_alloc_new w _, ⟨rfl, .inl ⟨rfl, rfl⟩⟩, by simp [Value.ownBlock]⟩
theorem put_c (B b : Nat) (l t : List UInt8) (w : World) (h : Has B b l w) (hlen : l.length + t.length ≤ 140737488355328) :
    Calls Tryd.prog 18 #[.pointer (some ⟨b, 0, none⟩), .string (S t)] w fun e w' => e = .returned (.tuple #[.int .i64 (S t).size, .nilIface]) ∧ Has B b (l ++ t) w' ∧ Below B w w' := by
  have hb := has_lt h
  have hc := write_c B b (Lib.byteCells l) (S t) w h (by rw [Lib.byteCells_length, size_S]; exact hlen) (by omega)
  rw [Lib.strCells_eq, ← Lib.byteCells_append, list_S] at hc
  exact hc.mono fun e w' ⟨h1, h2, h3, _⟩ => ⟨h1, h2, h3⟩
set_option maxHeartbeats 2000000 in
set_option maxRecDepth 100000 in
theorem bytes_c (B b : Nat) (l : List Value) (c : Int) (w : World) (h : Is B b l w) (hlen : l.length + 1 ≤ 140737488355328) (hBw : B ≤ w.heap.size) :
    Calls Tryd.prog 15 #[.pointer (some ⟨b, 0, none⟩), .int .u8 c] w fun e w' => e = .returned .nilIface ∧ Is B b (l ++ [.int .u8 c]) w' ∧ Below B w w' := by
  obtain ⟨i0, hi, hz0, hz1, hz2⟩ := info_parts info_o
  have e42 : ∀ args w, (callFunc 34 args).run Tryd.prog w = .ok (.enter 34 args) w := enters_of Tryd.func34 (by kernel_rfl) rfl
  go_enter Tryd.func15, Tryd.ntmps15
  go_wp2_with (go_at_fn 34; refine (check_c B b l _ h).mono ?_)
  rintro e w1 ⟨rfl, h1, hb1, _⟩
  obtain ⟨hB, v, hbk, hown, hne⟩ := h1
  have c0 : w1.cell? ⟨b, 0, none⟩ = some (.pointer (some ⟨b, 0, none⟩)) := by rw [Lib.cell_of_heap hbk]; rfl
  have c1 : w1.cell? ⟨b, 1, none⟩ = some v := by rw [Lib.cell_of_heap hbk]; rfl
  go_wp2_with (at_builtin; refine wpList_append_own _ rfl _ _ 31 rfl B 5 i0 (.int .u8 0) 1 1 Tryd.underlying31 hi hz0 hz1 hz2 rfl (by decide) _ _ _ rfl (hown.alloc _) ⟨w1.heap.size, 0, none⟩ 1 1 [.int .u8 c] rfl rfl ?c1 ?c2 ?c3 ?c4 ?c5 ?_)
  case c1 =>
    intro j u hj
    match j, hj with
    | 0, hj => simp at hj; subst hj; simp [Addr.add]
  case c2 => intro u hu; simp at hu; subst hu; rfl
  case c3 => unfold maxLen; omega
  case c4 => omega
  case c5 => have := hb1.size; simp; omega
  intro v' w2 hown' hgrow _
  have hlt : b < w1.heap.size := (Array.getElem?_eq_some_iff.1 hbk).1
  have hb2 : w2.heap[b]? = some (.cells #[.pointer (some ⟨b, 0, none⟩), v] 33 (0, 0)) := by
    rw [hgrow.block b (by simp; omega) (fun e => hne e.symm), Lib.alloc_old w1 _ b hlt]
    exact hbk
  have d0 : w2.cell? ⟨b, 0, none⟩ = some (.pointer (some ⟨b, 0, none⟩)) := by rw [Lib.cell_of_heap hb2]; rfl
  have d1 : w2.cell? ⟨b, 1, none⟩ = some v := by rw [Lib.cell_of_heap hb2]; rfl
  have f1 : w2.frozen? ⟨b, 1, none⟩ = false := Lib.frozen_of_heap hb2 1
  obtain ⟨g, cap, rfl⟩ : ∃ g cap, v' = .slice (some ⟨g, 0, none⟩) (l.length + 1) cap := by
    rcases hown'.2 with ⟨_, h0⟩ | ⟨g, cap, cur, hv, _⟩
    · omega
    · exact ⟨g, cap, hv⟩
  go_wp2
  go_ret
  refine ⟨rfl, ?_, ?_⟩
  · exact .inr (Lib.BuilderAt.put (T := 33) (e := 5) hB hb2 (bs' := l ++ [.int .u8 c]) (by simpa using hown') (by decide))
  · exact ((hb1.alloc (by have := hb1.size; omega) _).grown hgrow (by have := hb1.size; simp; omega) (fun k hk => (hown.lt k hk).1)).setCell (p := ⟨b, 1, none⟩) hB _
theorem byte_c (B b : Nat) (l : List UInt8) (c : UInt8) (w : World) (h : Has B b l w) (hlen : l.length + 1 ≤ 140737488355328) :
    Calls Tryd.prog 15 #[.pointer (some ⟨b, 0, none⟩), .int .u8 (c.toNat : Int)] w fun e w' => e = .returned .nilIface ∧ Has B b (l ++ [c]) w' ∧ Below B w w' := by
  have hb := has_lt h
  have hc := bytes_c B b (Lib.byteCells l) (c.toNat : Int) w h (by rw [Lib.byteCells_length]; exact hlen) (by omega)
  refine hc.mono fun e w' ⟨h1, h2, h3⟩ => ⟨h1, ?_, h3⟩
  unfold Has
  rw [Lib.byteCells_append]
  exact h2
theorem hex2_c (c : UInt8) (w : World) :
    Calls Tryd.prog 19 #[.int .i64 (c.toNat : Int), .int .i64 2] w fun e w' => e = .returned (.string (S (hexL c.toNat 2))) ∧ Below w.heap.size w w' := by
  have h := hex_c (c.toNat : Int) 2 w
  have e1 : u64 (c.toNat : Int) = c.toNat := by have := c.toNat_lt; unfold u64; omega
  have e2 : clamp 2 = 2 := by decide
  rw [e1, e2] at h
  exact h
end Go.Proofs.YtppclkecfggkiaaDoor.Pct
