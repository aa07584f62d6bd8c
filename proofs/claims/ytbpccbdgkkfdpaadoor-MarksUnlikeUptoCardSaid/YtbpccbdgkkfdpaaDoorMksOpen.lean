/-
  A state that came in, as the row reads it, opened: its fields, whose sizes the reading's bulk bounds.
-/
import Derived.Test.YtbpccbdgkkfdpaaDoorMksUnl
import Derived.Test.YtbpccbdgkkfdpaaDoorRows
import GoSem.ClaimJoined
import Derived.ChangeArms
import Derived.DataReads
import Derived.SizedLaws
namespace Go.Proofs.YtbpccbdgkkfdpaaDoor.Mks
open Go.RowKit Go.Proofs.YtbpccbdgkkfdpaaDoor.Oct Go.ChangeShapes Go.WideShapes Go.ChangeAt

variable {H : Type} {enc : TypeId × Value → H} {w : World} {base : Nat} {spare : Nat → Bool} {held : Bool}

theorem cells_oi : Tryd.prog.cellsOf 3 = 1 := by kernel_rfl
theorem cells_os : Tryd.prog.cellsOf 9 = 1 := by kernel_rfl
theorem cells_ou : Tryd.prog.cellsOf 5 = 1 := by kernel_rfl
theorem cells_ost : Tryd.prog.cellsOf 24 = 8 := by kernel_rfl

theorem array8 {α : Type} {cs : Array α} (h : cs.size = 8) : ∃ c0 c1 c2 c3 c4 c5 c6 c7, cs = #[c0, c1, c2, c3, c4, c5, c6, c7] := by
  obtain ⟨l⟩ := cs
  match l, h with
  | [c0, c1, c2, c3, c4, c5, c6, c7], _ => exact ⟨c0, c1, c2, c3, c4, c5, c6, c7, rfl⟩
theorem list8 {α : Type} {cs : List α} (h : cs.length = 8) : ∃ c0 c1 c2 c3 c4 c5 c6 c7, cs = [c0, c1, c2, c3, c4, c5, c6, c7] := by
  match cs, h with
  | [c0, c1, c2, c3, c4, c5, c6, c7], _ => exact ⟨c0, c1, c2, c3, c4, c5, c6, c7, rfl⟩

set_option maxRecDepth 100000 in
theorem open_state {r : Reach} {b0 : Nat} {v : Value} {d : DataW H} {ps : List MemPlace} (hv : Value.okWide Tryd.prog w r b0 24 v) (h : DataW.Trod enc Tryd.prog w base spare held 24 v d ps) :
    ∃ s : St, v = stW s ∧ (-9223372036854775808 ≤ s.k ∧ s.k ≤ 9223372036854775807) ∧ (-9223372036854775808 ≤ s.n ∧ s.n ≤ 9223372036854775807) ∧ s.e.length + s.a.length + s.p.length + s.r.length + s.w.length ≤ Rows.uptoBulk d := by
  obtain ⟨cs, rfl, hsz⟩ := okWide_struct Tryd.underlying24 hv
  obtain ⟨c0, c1, c2, c3, c4, c5, c6, c7, rfl⟩ := array8 (hsz.trans cells_ost)
  obtain ⟨fuel, hf⟩ := h
  obtain ⟨xs, m, _, hxy, hcl, hxl, hfd⟩ := DataW.trod_struct Tryd.underlying24 hf
  obtain ⟨y0, y1, y2, y3, y4, y5, y6, y7, rfl⟩ := list8 hxl
  have f0 : DataW.trod enc Tryd.prog w base spare held m 3 [c0] = some y0 := by simpa [Value.cells, cells_oi] using hfd 0 _ rfl
  have f1 : DataW.trod enc Tryd.prog w base spare held m 9 [c1] = some y1 := by simpa [Value.cells, cells_os] using hfd 1 _ rfl
  have f2 : DataW.trod enc Tryd.prog w base spare held m 9 [c2] = some y2 := by simpa [Value.cells, cells_os] using hfd 2 _ rfl
  have f3 : DataW.trod enc Tryd.prog w base spare held m 5 [c3] = some y3 := by simpa [Value.cells, cells_ou] using hfd 3 _ rfl
  have f4 : DataW.trod enc Tryd.prog w base spare held m 9 [c4] = some y4 := by simpa [Value.cells, cells_os] using hfd 4 _ rfl
  have f5 : DataW.trod enc Tryd.prog w base spare held m 9 [c5] = some y5 := by simpa [Value.cells, cells_os] using hfd 5 _ rfl
  have f6 : DataW.trod enc Tryd.prog w base spare held m 3 [c6] = some y6 := by simpa [Value.cells, cells_oi] using hfd 6 _ rfl
  have f7 : DataW.trod enc Tryd.prog w base spare held m 9 [c7] = some y7 := by simpa [Value.cells, cells_os] using hfd 7 _ rfl
  obtain ⟨k, hk, _, wk⟩ := DataW.trod_int Tryd.underlying3 f0
  obtain ⟨s1, hs1, hy1, _⟩ := DataW.trod_string Tryd.underlying9 f1
  obtain ⟨s2, hs2, hy2, _⟩ := DataW.trod_string Tryd.underlying9 f2
  obtain ⟨u, hu8, _, wu⟩ := DataW.trod_int Tryd.underlying5 f3
  obtain ⟨s4, hs4, hy4, _⟩ := DataW.trod_string Tryd.underlying9 f4
  obtain ⟨s5, hs5, hy5, _⟩ := DataW.trod_string Tryd.underlying9 f5
  obtain ⟨n, hn, _, wn⟩ := DataW.trod_int Tryd.underlying3 f6
  obtain ⟨s7, hs7, hy7, _⟩ := DataW.trod_string Tryd.underlying9 f7
  simp only [List.cons.injEq, and_true] at hk hs1 hs2 hu8 hs4 hs5 hn hs7
  subst hk
  subst hs1
  subst hs2
  subst hu8
  subst hs4
  subst hs5
  subst hn
  subst hs7
  have wk : -9223372036854775808 ≤ k ∧ k ≤ 9223372036854775807 := by simpa [Lit.wf, IntKind.min, IntKind.max, IntKind.signed, IntKind.bits] using wk
  have wn : -9223372036854775808 ≤ n ∧ n ≤ 9223372036854775807 := by simpa [Lit.wf, IntKind.min, IntKind.max, IntKind.signed, IntKind.bits] using wn
  have wu : 0 ≤ u ∧ u ≤ 255 := by simpa [Lit.wf, IntKind.min, IntKind.max, IntKind.signed, IntKind.bits] using wu
  have ed : (((UInt8.ofNat u.toNat).toNat : Nat) : Int) = u := by
    rw [UInt8.toNat_ofNat']
    omega
  refine ⟨⟨k, s1.data.toList, s2.data.toList, UInt8.ofNat u.toNat, s4.data.toList, s5.data.toList, n, s7.data.toList⟩, ?_, wk, wn, ?_⟩
  · show Value.agg _ = Value.agg _
    dsimp only
    rw [ed, S_list, S_list, S_list, S_list, S_list]
  · have hd : d = .agg [y0.1, y1.1, y2.1, y3.1, y4.1, y5.1, y6.1, y7.1] := congrArg Prod.fst hxy
    rw [hd]
    simp only [Rows.uptoBulk, Rows.uptoBulkAll, hy1, hy2, hy4, hy5, hy7]
    omega
end Go.Proofs.YtbpccbdgkkfdpaaDoor.Mks
