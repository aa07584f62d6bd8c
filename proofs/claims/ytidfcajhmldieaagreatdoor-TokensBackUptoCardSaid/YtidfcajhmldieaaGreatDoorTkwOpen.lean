/-
  A list of tokens that came in, as the row reads it, opened as a list in memory whose sizes the reading's bulk bounds.
-/
import Derived.Test.YtidfcajhmldieaaGreatDoorTkwWrote
import Derived.Test.YtidfcajhmldieaaGreatDoorRows
import GoSem.ClaimJoined
import Derived.ChangeArms
import Derived.DataReads
import Derived.SizedLaws
namespace Go.Proofs.YtidfcajhmldieaaGreatDoor.Tkw
open Go.RowKit Go.Proofs.YtidfcajhmldieaaGreatDoor.Oct Go.Proofs.YtidfcajhmldieaaGreatDoor.Utf Go.Proofs.YtidfcajhmldieaaGreatDoor.Tok

variable {H : Type} {enc : TypeId × Value → H} {w : World} {base : Nat} {spare : Nat → Bool} {held : Bool}

theorem cells_oi : Tryz.prog.cellsOf 3 = 1 := by kernel_rfl
theorem cells_os : Tryz.prog.cellsOf 9 = 1 := by kernel_rfl
theorem cells_ol : Tryz.prog.cellsOf 32 = 1 := by kernel_rfl
theorem cells_ob : Tryz.prog.cellsOf 4 = 1 := by kernel_rfl
theorem cells_oa : Tryz.prog.cellsOf 65 = 2 := by kernel_rfl
theorem cells_ot : Tryz.prog.cellsOf 34 = 5 := by kernel_rfl

theorem bulk_mem {d : DataW H} {ds : List (DataW H)} (h : d ∈ ds) : Rows.uptoBulk d ≤ Rows.uptoBulkAll ds := by
  induction ds with
  | nil => cases h
  | cons e r ih =>
    simp only [Rows.uptoBulkAll]
    rcases List.mem_cons.1 h with rfl | h
    · omega
    · have := ih h
      omega
theorem bulk_pos (d : DataW H) : 1 ≤ Rows.uptoBulk d := by
  cases d with
  | lit l => cases l <;> simp [Rows.uptoBulk]
  | nil => simp [Rows.uptoBulk]
  | ptr d => simp [Rows.uptoBulk]
  | slice a b => simp [Rows.uptoBulk]
  | agg a => simp [Rows.uptoBulk]
  | iface a b => simp [Rows.uptoBulk]
  | map a => simp [Rows.uptoBulk]
  | held a => simp [Rows.uptoBulk]
theorem bulk_len (ds : List (DataW H)) : ds.length ≤ Rows.uptoBulkAll ds := by
  induction ds with
  | nil => simp [Rows.uptoBulkAll]
  | cons e r ih =>
    simp only [Rows.uptoBulkAll, List.length_cons]
    have := bulk_pos e
    omega
/-- An address that is read bears no spot. -/
theorem no_spot {a : Addr} {v : Value} (h : w.cell? a = some v) : a = ⟨a.block, a.off, none⟩ := by
  obtain ⟨b, o, sp⟩ := a
  cases sp with
  | none => rfl
  | some x =>
    simp only [World.cell?] at h
    split at h <;> simp at h
theorem add_zero' (a : Addr) : a.add 0 = a := by simp [Addr.add]
theorem first_spot {a : Addr} {m : Nat} {cs : List Value} {u : Value} (h : w.cells? base (a.add (0 * m)) m = some cs) (hm : 0 < m) (hu : cs[0]? = some u) : a = ⟨a.block, a.off, none⟩ := by
  obtain ⟨_, _, hat⟩ := World.cells?_some h
  have h1 := (hat 0 hm).trans hu
  rw [Nat.zero_mul, add_zero', add_zero'] at h1
  exact no_spot h1
theorem at_lit {a : Addr} {i m : Nat} {cs : List Value} {j : Nat} {u : Value} (ha : a = ⟨a.block, a.off, none⟩) (h : w.cells? base (a.add (i * m)) m = some cs) (hj : j < m) (hu : cs[j]? = some u) :
    w.cell? ⟨a.block, a.off + i * m + j, none⟩ = some u := by
  obtain ⟨_, _, hat⟩ := World.cells?_some h
  have h1 := (hat j hj).trans hu
  rw [ha, Addr.add_lit, Addr.add_lit] at h1
  exact h1
theorem list_of {α : Type} {P : Nat → α → Prop} (n : Nat) (h : ∀ i, i < n → ∃ x, P i x) : ∃ l : List α, l.length = n ∧ ∀ i (hi : i < l.length), P i l[i] := by
  induction n with
  | zero => exact ⟨[], rfl, fun i hi => absurd hi (by simp)⟩
  | succ n ih =>
    obtain ⟨l, hl, hp⟩ := ih (fun i hi => h i (by omega))
    obtain ⟨x, hx⟩ := h n (by omega)
    refine ⟨l ++ [x], by simp [hl], fun i hi => ?_⟩
    rcases Nat.lt_or_ge i l.length with h1 | h1
    · rw [List.getElem_append_left h1]; exact hp i h1
    · have : i = l.length := by simp at hi; omega
      subst this
      simp [hl]
      exact hx
set_option maxRecDepth 100000 in
/-- A list of attributes that came in. -/
theorem open_atts {fuel : Nat} {cs : List Value} {y : DataW H × List MemPlace} (h : DataW.trod enc Tryz.prog w base spare held fuel 32 cs = some y) :
    ∃ v al, cs = [v] ∧ AtIn w v al ∧ al.length ≤ Rows.uptoBulk y.1 ∧ ∀ a ∈ al, a.n.length ≤ Rows.uptoBulk y.1 ∧ a.v.length ≤ Rows.uptoBulk y.1 := by
  rcases DataW.trod_slice Tryz.underlying32 h with ⟨rfl, hy⟩ | ⟨a, len, cap, elems, rest, n, _, rfl, hy, hb, hl, hm, hlen, hel, _⟩
  · exact ⟨_, [], rfl, ⟨none, 0, rfl, fun h => absurd h (by simp)⟩, by simp, fun a h => nomatch h⟩
  · have ha : 0 < len → a = ⟨a.block, a.off, none⟩ := fun h0 => by
      have h1 := hel 0 h0
      rw [List.getElem?_eq_getElem (by omega), Option.bind_eq_some_iff] at h1
      obtain ⟨cs', h2, h3⟩ := h1
      obtain ⟨xs, m, _, _, hcl, _, _⟩ := DataW.trod_struct Tryz.underlying65 h3
      rw [cells_oa] at hcl h2
      match cs', hcl, h2 with
      | u :: _, _, h2 => exact first_spot h2 (by decide) rfl
    have key : ∀ i, i < len → ∃ x : At, (∀ d, (elems.map (·.1))[i]? = some d → x.n.length ≤ Rows.uptoBulk d ∧ x.v.length ≤ Rows.uptoBulk d) ∧
        w.cell? ⟨a.block, a.off + i * 2, none⟩ = some (.string (S x.n)) ∧ w.cell? ⟨a.block, a.off + i * 2 + 1, none⟩ = some (.string (S x.v)) := fun i hi => by
      have h1 := hel i hi
      rw [List.getElem?_eq_getElem (by omega), Option.bind_eq_some_iff] at h1
      obtain ⟨cs', h2, h3⟩ := h1
      obtain ⟨xs, m, _, hxy, hcl, hxl, hf⟩ := DataW.trod_struct Tryz.underlying65 h3
      rw [cells_oa] at hcl h2
      obtain ⟨u0, u1, rfl⟩ : ∃ u0 u1, cs' = [u0, u1] := by
        match cs', hcl with
        | [u0, u1], _ => exact ⟨u0, u1, rfl⟩
      obtain ⟨y0, y1, rfl⟩ : ∃ y0 y1, xs = [y0, y1] := by
        match xs, (show xs.length = 2 from hxl) with
        | [y0, y1], _ => exact ⟨y0, y1, rfl⟩
      have f0 : DataW.trod enc Tryz.prog w base spare held m 9 [u0] = some y0 := by simpa [cells_os] using hf 0 _ rfl
      have f1 : DataW.trod enc Tryz.prog w base spare held m 9 [u1] = some y1 := by simpa [cells_os] using hf 1 _ rfl
      obtain ⟨s0, hs0, hy0, _⟩ := DataW.trod_string Tryz.underlying9 f0
      obtain ⟨s1, hs1, hy1, _⟩ := DataW.trod_string Tryz.underlying9 f1
      simp only [List.cons.injEq, and_true] at hs0 hs1
      subst hs0
      subst hs1
      have l0 := at_lit (j := 0) (ha (by omega)) h2 (by decide) rfl
      have l1 := at_lit (j := 1) (ha (by omega)) h2 (by decide) rfl
      refine ⟨⟨s0.data.toList, s1.data.toList⟩, fun d hd => ?_, l0, l1⟩
      rw [List.getElem?_map, List.getElem?_eq_getElem (by omega), Option.map_some, Option.some.injEq] at hd
      rw [← hd, hxy]
      simp only [List.map_cons, List.map_nil, Rows.uptoBulk, Rows.uptoBulkAll, hy0, hy1]
      omega
    obtain ⟨al, hal, hp⟩ := list_of len key
    have hbk : Rows.uptoBulkAll (elems.map (·.1)) ≤ Rows.uptoBulk y.1 := by
      rw [hy]
      simp only [Rows.uptoBulk]
      omega
    refine ⟨_, al, rfl, ⟨some a, cap, by rw [hal], fun h0 => ⟨a.block, a.off, congrArg some (ha (by omega)), fun i hi => ⟨(hp i hi).2.1, (hp i hi).2.2⟩⟩⟩, ?_, fun x hx => ?_⟩
    · have := bulk_len (elems.map (·.1))
      rw [List.length_map] at this
      omega
    · obtain ⟨i, hi, rfl⟩ := List.getElem_of_mem hx
      have hlt : i < (elems.map (·.1)).length := by rw [List.length_map]; omega
      have h1 := (hp i hi).1 _ (List.getElem?_eq_getElem hlt)
      have h2 := bulk_mem (List.getElem_mem hlt)
      omega
set_option maxRecDepth 100000 in
/-- A list of tokens that came in. -/
theorem open_toks {fuel : Nat} {cs : List Value} {y : DataW H × List MemPlace} (h : DataW.trod enc Tryz.prog w base spare held fuel 22 cs = some y) :
    ∃ p cap ts, cs = [.slice p ts.length cap] ∧ ts.length ≤ cap ∧ TkIn w (.slice p ts.length cap) ts ∧ ts.length ≤ Rows.uptoBulk y.1 ∧
      ∀ t ∈ ts, t.n.length ≤ Rows.uptoBulk y.1 ∧ t.x.length ≤ Rows.uptoBulk y.1 ∧ t.a.length ≤ Rows.uptoBulk y.1 ∧ ∀ a ∈ t.a, a.n.length ≤ Rows.uptoBulk y.1 ∧ a.v.length ≤ Rows.uptoBulk y.1 := by
  rcases DataW.trod_slice Tryz.underlying22 h with ⟨rfl, hy⟩ | ⟨a, len, cap, elems, rest, n, _, rfl, hy, hb, hl, hm, hlen, hel, _⟩
  · exact ⟨none, 0, [], rfl, Nat.le_refl _, ⟨none, 0, rfl, fun h => absurd h (by simp)⟩, by simp, fun a h => nomatch h⟩
  · have ha : 0 < len → a = ⟨a.block, a.off, none⟩ := fun h0 => by
      have h1 := hel 0 h0
      rw [List.getElem?_eq_getElem (by omega), Option.bind_eq_some_iff] at h1
      obtain ⟨cs', h2, h3⟩ := h1
      obtain ⟨xs, m, _, _, hcl, _, _⟩ := DataW.trod_struct Tryz.underlying34 h3
      rw [cells_ot] at hcl h2
      match cs', hcl, h2 with
      | u :: _, _, h2 => exact first_spot h2 (by decide) rfl
    have key : ∀ i, i < len → ∃ x : Tk, (∀ d, (elems.map (·.1))[i]? = some d → x.n.length ≤ Rows.uptoBulk d ∧ x.x.length ≤ Rows.uptoBulk d ∧ x.a.length ≤ Rows.uptoBulk d ∧ ∀ a ∈ x.a, a.n.length ≤ Rows.uptoBulk d ∧ a.v.length ≤ Rows.uptoBulk d) ∧
        ∃ va, AtIn w va x.a ∧ w.cell? ⟨a.block, a.off + i * 5, none⟩ = some (.int .i64 x.k) ∧ w.cell? ⟨a.block, a.off + i * 5 + 1, none⟩ = some (.string (S x.n)) ∧ w.cell? ⟨a.block, a.off + i * 5 + 2, none⟩ = some (.string (S x.x)) ∧ w.cell? ⟨a.block, a.off + i * 5 + 3, none⟩ = some va ∧ w.cell? ⟨a.block, a.off + i * 5 + 4, none⟩ = some (.bool x.c) := fun i hi => by
      have h1 := hel i hi
      rw [List.getElem?_eq_getElem (by omega), Option.bind_eq_some_iff] at h1
      obtain ⟨cs', h2, h3⟩ := h1
      obtain ⟨xs, m, _, hxy, hcl, hxl, hf⟩ := DataW.trod_struct Tryz.underlying34 h3
      rw [cells_ot] at hcl h2
      obtain ⟨u0, u1, u2, u3, u4, rfl⟩ : ∃ u0 u1 u2 u3 u4, cs' = [u0, u1, u2, u3, u4] := by
        match cs', hcl with
        | [u0, u1, u2, u3, u4], _ => exact ⟨u0, u1, u2, u3, u4, rfl⟩
      obtain ⟨y0, y1, y2, y3, y4, rfl⟩ : ∃ y0 y1 y2 y3 y4, xs = [y0, y1, y2, y3, y4] := by
        match xs, (show xs.length = 5 from hxl) with
        | [y0, y1, y2, y3, y4], _ => exact ⟨y0, y1, y2, y3, y4, rfl⟩
      have f0 : DataW.trod enc Tryz.prog w base spare held m 3 [u0] = some y0 := by simpa [cells_oi] using hf 0 _ rfl
      have f1 : DataW.trod enc Tryz.prog w base spare held m 9 [u1] = some y1 := by simpa [cells_os] using hf 1 _ rfl
      have f2 : DataW.trod enc Tryz.prog w base spare held m 9 [u2] = some y2 := by simpa [cells_os] using hf 2 _ rfl
      have f3 : DataW.trod enc Tryz.prog w base spare held m 32 [u3] = some y3 := by simpa [cells_ol] using hf 3 _ rfl
      have f4 : DataW.trod enc Tryz.prog w base spare held m 4 [u4] = some y4 := by simpa [cells_ob] using hf 4 _ rfl
      obtain ⟨k, hk, _, _⟩ := DataW.trod_int Tryz.underlying3 f0
      obtain ⟨s1, hs1, hy1, _⟩ := DataW.trod_string Tryz.underlying9 f1
      obtain ⟨s2, hs2, hy2, _⟩ := DataW.trod_string Tryz.underlying9 f2
      obtain ⟨va, al, hv, hA, hA1, hA2⟩ := open_atts f3
      obtain ⟨b, hbb, _⟩ := DataW.trod_bool Tryz.underlying4 f4
      simp only [List.cons.injEq, and_true] at hk hs1 hs2 hv hbb
      subst hk
      subst hs1
      subst hs2
      subst hv
      subst hbb
      have l0 := at_lit (j := 0) (ha (by omega)) h2 (by decide) rfl
      have l1 := at_lit (j := 1) (ha (by omega)) h2 (by decide) rfl
      have l2 := at_lit (j := 2) (ha (by omega)) h2 (by decide) rfl
      have l3 := at_lit (j := 3) (ha (by omega)) h2 (by decide) rfl
      have l4 := at_lit (j := 4) (ha (by omega)) h2 (by decide) rfl
      refine ⟨⟨k, s1.data.toList, s2.data.toList, al, b⟩, fun d hd => ?_, _, hA, l0, l1, l2, l3, l4⟩
      rw [List.getElem?_map, List.getElem?_eq_getElem (by omega), Option.map_some, Option.some.injEq] at hd
      have hbd : s1.data.toList.length ≤ Rows.uptoBulk d ∧ s2.data.toList.length ≤ Rows.uptoBulk d ∧ Rows.uptoBulk y3.1 ≤ Rows.uptoBulk d := by
        rw [← hd, hxy]
        simp only [List.map_cons, List.map_nil, Rows.uptoBulk, Rows.uptoBulkAll, hy1, hy2]
        omega
      refine ⟨hbd.1, hbd.2.1, Nat.le_trans hA1 hbd.2.2, fun a ha => ⟨Nat.le_trans (hA2 a ha).1 hbd.2.2, Nat.le_trans (hA2 a ha).2 hbd.2.2⟩⟩
    obtain ⟨ts, hts, hp⟩ := list_of len key
    have hbk : Rows.uptoBulkAll (elems.map (·.1)) ≤ Rows.uptoBulk y.1 := by
      rw [hy]
      simp only [Rows.uptoBulk]
      omega
    refine ⟨some a, cap, ts, by rw [hts], by omega, ⟨some a, cap, rfl, fun h0 => ⟨a.block, a.off, congrArg some (ha (by omega)), fun i hi => (hp i hi).2⟩⟩, ?_, fun x hx => ?_⟩
    · have := bulk_len (elems.map (·.1))
      rw [List.length_map] at this
      omega
    · obtain ⟨i, hi, rfl⟩ := List.getElem_of_mem hx
      have hlt : i < (elems.map (·.1)).length := by rw [List.length_map]; omega
      have h1 := (hp i hi).1 _ (List.getElem?_eq_getElem hlt)
      have h2 := bulk_mem (List.getElem_mem hlt)
      exact ⟨by omega, by omega, by omega, fun a ha => ⟨Nat.le_trans (h1.2.2.2 a ha).1 (by omega), Nat.le_trans (h1.2.2.2 a ha).2 (by omega)⟩⟩
theorem tkIn_up {W : World} {v : Value} {ts : List Tk} (h : TkIn w v ts) (hb : Below w.heap.size w W) : TkIn W v ts := by
  obtain ⟨p, cap, h1, h2⟩ := h
  refine ⟨p, cap, h1, fun hl => ?_⟩
  obtain ⟨b, o, h3, h4⟩ := h2 hl
  refine ⟨b, o, h3, fun i hi => ?_⟩
  obtain ⟨va, k0, k1, k2, k3, k4, k5⟩ := h4 i hi
  exact ⟨va, atIn_up k0 hb, some_keep k1 hb, some_keep k2 hb, some_keep k3 hb, some_keep k4 hb, some_keep k5 hb⟩
/-- What came in lies as it is asked. -/
theorem lies_of {p : Option Addr} {cap n : Nat} {ts : List Tk} (h1 : ts.length ≤ cap) (h2 : TkIn w (.slice p ts.length cap) ts) (h3 : ts.length ≤ n) (hn : n ≤ 1048576)
    (h4 : ∀ t ∈ ts, t.n.length ≤ n ∧ t.x.length ≤ n ∧ t.a.length ≤ n ∧ ∀ a ∈ t.a, a.n.length ≤ n ∧ a.v.length ≤ n) : Lies ts p cap w :=
  ⟨fun W hW => tkIn_up h2 hW, h1, by omega, fun k hk => by
    obtain ⟨g1, g2, g3, g4⟩ := h4 _ (List.getElem_mem hk)
    exact ⟨by omega, by omega, by omega, fun a ha => by have := g4 a ha; omega⟩⟩
end Go.Proofs.YtidfcajhmldieaaGreatDoor.Tkw
