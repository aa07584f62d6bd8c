/-
  What package jstext puts into a builder: an octet, a text; all other blocks than the builder's and rows of octets stay.
-/
import Derived.Test.YtppclkecfggkiaaDoorPctBuild
import Derived.Test.YtppclkecfggkiaaDoorJstPure
import Derived.Test.YtppclkecfggkiaaDoorUtfRepair
import Derived.Lib.OthersKept
namespace Go.Proofs.YtppclkecfggkiaaDoor.Jst
open Go.RowKit Go.Proofs.YtppclkecfggkiaaDoor.Oct Go.Proofs.YtppclkecfggkiaaDoor.Utf Go.Proofs.YtppclkecfggkiaaDoor.Build
open Go.Proofs.YtppclkecfggkiaaDoor.Pct (Has has_below has_lt has_fresh enter_byte enter_write enter_string)

/-- What a call leaves that puts octets into the builder in block b. -/
def PutJ (B b : Nat) (l : List UInt8) (w : World) (e : Ending) (w' : World) : Prop := e = .returned (.tuple #[]) ∧ Has B b l w' ∧ Below B w w' ∧ Others b w w'
theorem othersBelow {b : Nat} {w w1 w2 : World} (h : Others b w w1) (hb : Below w1.heap.size w1 w2) : Others b w w2 := fun k o hk hkb ho => by
  have h1 := h k o hk hkb ho
  have hlt : k < w1.heap.size := (Array.getElem?_eq_some_iff.1 h1).1
  rw [hb.block k hlt]
  exact h1
theorem puts_c (B b : Nat) (l t : List UInt8) (w : World) (h : Has B b l w) (hlen : l.length + t.length ≤ 140737488355328) :
    Calls Tryd.prog 18 #[.pointer (some ⟨b, 0, none⟩), .string (S t)] w fun e w' => e = .returned (.tuple #[.int .i64 (S t).size, .nilIface]) ∧ Has B b (l ++ t) w' ∧ Below B w w' ∧ Others b w w' := by
  have hb := has_lt h
  have hc := write_c B b (Lib.byteCells l) (S t) w h (by rw [Lib.byteCells_length, size_S]; exact hlen) (by omega)
  rw [Lib.strCells_eq, ← Lib.byteCells_append, list_S] at hc
  exact hc
set_option maxHeartbeats 2000000 in
set_option maxRecDepth 100000 in
theorem puto_c (B b : Nat) (l : List Value) (c : Int) (w : World) (h : Is B b l w) (hlen : l.length + 1 ≤ 140737488355328) (hBw : B ≤ w.heap.size) :
    Calls Tryd.prog 15 #[.pointer (some ⟨b, 0, none⟩), .int .u8 c] w fun e w' => e = .returned .nilIface ∧ Is B b (l ++ [.int .u8 c]) w' ∧ Below B w w' ∧ Others b w w' := by
  obtain ⟨i0, hi, hz0, hz1, hz2⟩ := info_parts info_o
  have e42 : ∀ args w, (callFunc 34 args).run Tryd.prog w = .ok (.enter 34 args) w := enters_of Tryd.func34 (by kernel_rfl) rfl
  go_enter Tryd.func15, Tryd.ntmps15
  go_wp2_with (go_at_fn 34; refine (check_c B b l _ h).mono ?_)
  rintro e w1 ⟨rfl, h1, hb1, hk1⟩
  obtain ⟨hB, v, hbk, hown, hne⟩ := h1
  have c0 : w1.cell? ⟨b, 0, none⟩ = some (.pointer (some ⟨b, 0, none⟩)) := by rw [Lib.cell_of_heap hbk]; rfl
  have c1 : w1.cell? ⟨b, 1, none⟩ = some v := by rw [Lib.cell_of_heap hbk]; rfl
  go_wp2_with (at_builtin; refine wpList_append_own _ rfl _ _ 31 rfl B 5 i0 (.int .u8 0) 1 1 Tryd.underlying31 hi hz0 hz1 hz2 rfl (by decide) _ _ _ rfl (hown.alloc _) ⟨w1.heap.size, 0, none⟩ 1 1 [.int .u8 c] rfl rfl ?c1 ?c2 ?c3 ?c4 ?c5 ?_)
  case c1 =>
    intro j u hj
    match j, hj with
    | 0, hj => simp at hj; subst hj; simp [Addr.add]
  case c2 => intro u hu; simp at hu; subst hu; rfl
  case c3 => unfold maxLen; omega
  case c4 => omega
  case c5 => have := hb1.size; simp; omega
  intro v' w2 hown' hgrow _
  have hlt : b < w1.heap.size := (Array.getElem?_eq_some_iff.1 hbk).1
  have hb2 : w2.heap[b]? = some (.cells #[.pointer (some ⟨b, 0, none⟩), v] 33 (0, 0)) := by
    rw [hgrow.block b (by simp; omega) (fun e => hne e.symm), Lib.alloc_old w1 _ b hlt]
    exact hbk
  have d0 : w2.cell? ⟨b, 0, none⟩ = some (.pointer (some ⟨b, 0, none⟩)) := by rw [Lib.cell_of_heap hb2]; rfl
  have d1 : w2.cell? ⟨b, 1, none⟩ = some v := by rw [Lib.cell_of_heap hb2]; rfl
  have f1 : w2.frozen? ⟨b, 1, none⟩ = false := Lib.frozen_of_heap hb2 1
  have hrow : ∀ g, v.ownBlock = some g → ∃ c' fz, (w1.alloc (.cells #[.int .u8 c] 5)).heap[g]? = some (.cells c' 5 fz) := by
    intro g hg
    rcases hown.2 with ⟨hv, _⟩ | ⟨g', cap', cur, hv, _, hc, _⟩
    · rw [hv] at hg; cases hg
    · rw [hv] at hg; cases hg
      rw [Lib.alloc_old w1 _ g' ((Array.getElem?_eq_some_iff.1 hc).1)]
      exact ⟨_, _, hc⟩
  obtain ⟨g, cap, rfl⟩ : ∃ g cap, v' = .slice (some ⟨g, 0, none⟩) (l.length + 1) cap := by
    rcases hown'.2 with ⟨_, h0⟩ | ⟨g, cap, cur, hv, _⟩
    · omega
    · exact ⟨g, cap, hv⟩
  go_wp2
  go_ret
  refine ⟨rfl, ?_, ?_, ?_⟩
  · exact .inr (Lib.BuilderAt.put (T := 33) (e := 5) hB hb2 (bs' := l ++ [.int .u8 c]) (by simpa using hown') (by decide))
  · exact ((hb1.alloc (by have := hb1.size; omega) _).grown hgrow (by have := hb1.size; simp; omega) (fun k hk => (hown.lt k hk).1)).setCell (p := ⟨b, 1, none⟩) hB _
  · exact ((hk1.alloc _).grown hgrow hrow).setCell ⟨b, 1, none⟩ rfl _
theorem putb_c (B b : Nat) (l : List UInt8) (c : UInt8) (w : World) (h : Has B b l w) (hlen : l.length + 1 ≤ 140737488355328) :
    Calls Tryd.prog 15 #[.pointer (some ⟨b, 0, none⟩), .int .u8 (c.toNat : Int)] w fun e w' => e = .returned .nilIface ∧ Has B b (l ++ [c]) w' ∧ Below B w w' ∧ Others b w w' := by
  have hb := has_lt h
  have hc := puto_c B b (Lib.byteCells l) (c.toNat : Int) w h (by rw [Lib.byteCells_length]; exact hlen) (by omega)
  refine hc.mono fun e w' ⟨h1, h2, h3⟩ => ⟨h1, ?_, h3⟩
  unfold Has
  rw [Lib.byteCells_append]
  exact h2
/-- A row of whole numbers of the call's own stays one where all but a builder and rows of octets stays. -/
theorem ints_others {w w' : World} {base n b : Nat} {v : Value} {xs : List Value} (h : w.ownsRow base 3 1 v n xs) (hk : Others b w w') (hb : b < base) : w'.ownsRow base 3 1 v n xs := by
  refine ⟨h.1, ?_⟩
  rcases h.2 with hn | ⟨g, cap, cur, hv, hbg, hg, rest⟩
  · exact .inl hn
  · exact .inr ⟨g, cap, cur, hv, hbg, hk g _ hg (by simp; omega) (by intro c fz e; simp at e), rest⟩
end Go.Proofs.YtppclkecfggkiaaDoor.Jst
