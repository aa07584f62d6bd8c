/-
  Part 34: PwOpen, RowKit, PwLaid.
-/
import Derived.Test.YtmccbcficbbidaaGreatDoorPwAllP33
import Derived.Test.YtmccbcficbbidaaGreatDoorRows
import GoSem.ClaimJoined
import Derived.ChangeArms
import Derived.DataReads
import Derived.SizedLaws
import Derived.WalkKit
import Derived.ProofKit
import Derived.OpenShut
import Derived.JoinedCond
import Derived.Test.YtmccbcficbbidaaGreatDoorCards
import Derived.Test.YtmccbcficbbidaaGreatDoorTie
import Derived.Test.YtmccbcficbbidaaGreatDoorChecked
import Derived.Lib.LaidU8
import Derived.Deep.DeepHandedRow
/-
  A pipeline that came in, as the row reads it, opened as a list in memory; its sizes, which the reading's bulk bounds.
-/
namespace Go.Proofs.YtmccbcficbbidaaGreatDoor.Pw
open Go.RowKit Go.Proofs.YtmccbcficbbidaaGreatDoor.Oct Go.Proofs.YtmccbcficbbidaaGreatDoor.Lex Go.Proofs.YtmccbcficbbidaaGreatDoor.Lxw Go.Proofs.YtmccbcficbbidaaGreatDoor.Pip

variable {H : Type} {enc : TypeId × Value → H} {w : World} {base : Nat} {spare : Nat → Bool} {held : Bool}

theorem cells_oi : Tryz.prog.cellsOf 3 = 1 := by kernel_rfl
theorem cells_os : Tryz.prog.cellsOf 9 = 1 := by kernel_rfl
theorem cells_ol : Tryz.prog.cellsOf 42 = 1 := by kernel_rfl
theorem cells_or : Tryz.prog.cellsOf 39 = 1 := by kernel_rfl
theorem cells_oa : Tryz.prog.cellsOf 44 = 5 := by kernel_rfl
theorem cells_oc : Tryz.prog.cellsOf 41 = 2 := by kernel_rfl

theorem bulk_mem {d : DataW H} {ds : List (DataW H)} (h : d ∈ ds) : Rows.uptoBulk d ≤ Rows.uptoBulkAll ds := by
  induction ds with
  | nil => cases h
  | cons e r ih =>
    simp only [Rows.uptoBulkAll]
    rcases List.mem_cons.1 h with rfl | h
    · omega
    · have := ih h
      omega
theorem bulk_pos (d : DataW H) : 1 ≤ Rows.uptoBulk d := by
  cases d with
  | lit l => cases l <;> simp [Rows.uptoBulk]
  | nil => simp [Rows.uptoBulk]
  | ptr d => simp [Rows.uptoBulk]
  | slice a b => simp [Rows.uptoBulk]
  | agg a => simp [Rows.uptoBulk]
  | iface a b => simp [Rows.uptoBulk]
  | map a => simp [Rows.uptoBulk]
  | held a => simp [Rows.uptoBulk]
theorem bulk_len (ds : List (DataW H)) : ds.length ≤ Rows.uptoBulkAll ds := by
  induction ds with
  | nil => simp [Rows.uptoBulkAll]
  | cons e r ih =>
    simp only [Rows.uptoBulkAll, List.length_cons]
    have := bulk_pos e
    omega
/-- An address that is read bears no spot. -/
theorem no_spot {a : Addr} {v : Value} (h : w.cell? a = some v) : a = ⟨a.block, a.off, none⟩ := by
  obtain ⟨b, o, sp⟩ := a
  cases sp with
  | none => rfl
  | some x =>
    simp only [World.cell?] at h
    split at h <;> simp at h
theorem add_zero' (a : Addr) : a.add 0 = a := by simp [Addr.add]
theorem first_spot {a : Addr} {m : Nat} {cs : List Value} {u : Value} (h : w.cells? base (a.add (0 * m)) m = some cs) (hm : 0 < m) (hu : cs[0]? = some u) : a = ⟨a.block, a.off, none⟩ := by
  obtain ⟨_, _, hat⟩ := World.cells?_some h
  have h1 := (hat 0 hm).trans hu
  rw [Nat.zero_mul, add_zero', add_zero'] at h1
  exact no_spot h1
theorem at_lit {a : Addr} {i m : Nat} {cs : List Value} {j : Nat} {u : Value} (ha : a = ⟨a.block, a.off, none⟩) (h : w.cells? base (a.add (i * m)) m = some cs) (hj : j < m) (hu : cs[j]? = some u) :
    w.cell? ⟨a.block, a.off + i * m + j, none⟩ = some u := by
  obtain ⟨_, _, hat⟩ := World.cells?_some h
  have h1 := (hat j hj).trans hu
  rw [ha, Addr.add_lit, Addr.add_lit] at h1
  exact h1
theorem list_of {α : Type} {P : Nat → α → Prop} (n : Nat) (h : ∀ i, i < n → ∃ x, P i x) : ∃ l : List α, l.length = n ∧ ∀ i (hi : i < l.length), P i l[i] := by
  induction n with
  | zero => exact ⟨[], rfl, fun i hi => absurd hi (by simp)⟩
  | succ n ih =>
    obtain ⟨l, hl, hp⟩ := ih (fun i hi => h i (by omega))
    obtain ⟨x, hx⟩ := h n (by omega)
    refine ⟨l ++ [x], by simp [hl], fun i hi => ?_⟩
    rcases Nat.lt_or_ge i l.length with h1 | h1
    · rw [List.getElem_append_left h1]; exact hp i h1
    · have : i = l.length := by simp at hi; omega
      subst this
      simp [hl]
      exact hx
theorem sum_le {α : Type} (f : α → Nat) (c : Nat) : ∀ (l : List α) (ds : List (DataW H)), l.length = ds.length → (∀ i (h1 : i < l.length) d, ds[i]? = some d → f l[i] ≤ c * Rows.uptoBulk d) → (l.map f).sum ≤ c * Rows.uptoBulkAll ds := by
  intro l
  induction l with
  | nil => intro ds _ _; simp
  | cons x t ih =>
    intro ds hl h
    cases ds with
    | nil => simp at hl
    | cons d ds =>
      rw [List.map_cons, List.sum_cons]
      simp only [Rows.uptoBulkAll, Nat.mul_add]
      have h1 := h 0 (by simp) d rfl
      have h2 := ih ds (by simpa using hl) fun i hi e he => h (i + 1) (by simpa using hi) e (by simpa using he)
      rw [List.getElem_cons_zero] at h1
      omega
set_option maxRecDepth 100000 in
/-- A path that came in. -/
theorem open_path {fuel : Nat} {cs : List Value} {y : DataW H × List MemPlace} (h : DataW.trod enc Tryz.prog w base spare held fuel 42 cs = some y) :
    ∃ v ns, cs = [v] ∧ PathIn w v ns ∧ ns.length ≤ 9223372036854775807 ∧ (∀ n ∈ ns, n.length ≤ 9223372036854775807) ∧ (pathL ns).length + 1 ≤ Rows.uptoBulk y.1 := by
  rcases DataW.trod_slice Tryz.underlying42 h with ⟨rfl, hy⟩ | ⟨a, len, cap, elems, rest, n, _, rfl, hy, hb, hl, hm, hlen, hel, _⟩
  · exact ⟨_, [], rfl, ⟨none, 0, rfl, fun h => absurd h (by simp)⟩, by simp, (fun n h => nomatch h), by have := bulk_pos y.1; rw [path_sum]; simpa using this⟩
  · rw [cells_os] at hel
    have ha : 0 < len → a = ⟨a.block, a.off, none⟩ := fun h0 => by
      have h1 := hel 0 h0
      rw [List.getElem?_eq_getElem (by omega), Option.bind_eq_some_iff] at h1
      obtain ⟨cs', h2, h3⟩ := h1
      obtain ⟨s, hs, _⟩ := DataW.trod_string Tryz.underlying9 h3
      subst hs
      exact first_spot h2 (by decide) rfl
    have key : ∀ i, i < len → ∃ x : List UInt8, (∀ d, (elems.map (·.1))[i]? = some d → x.length + 1 ≤ 1 * Rows.uptoBulk d) ∧ x.length ≤ 9223372036854775807 ∧
        w.cell? ⟨a.block, a.off + i, none⟩ = some (.string (S x)) := fun i hi => by
      have h1 := hel i hi
      rw [List.getElem?_eq_getElem (by omega), Option.bind_eq_some_iff] at h1
      obtain ⟨cs', h2, h3⟩ := h1
      obtain ⟨s, hs, hy, hz⟩ := DataW.trod_string Tryz.underlying9 h3
      subst hs
      have l0 := at_lit (j := 0) (ha (by omega)) h2 (by decide) rfl
      rw [Nat.mul_one, Nat.add_zero] at l0
      refine ⟨s.data.toList, fun d hd => ?_, by unfold maxLen at hz; simpa using hz, l0⟩
      rw [List.getElem?_map, List.getElem?_eq_getElem (by omega), Option.map_some, Option.some.injEq] at hd
      rw [← hd, hy]
      simp only [Rows.uptoBulk]
      omega
    obtain ⟨ns, hns, hp⟩ := list_of len key
    have hbk : Rows.uptoBulkAll (elems.map (·.1)) + 1 ≤ Rows.uptoBulk y.1 := by
      rw [hy]
      simp only [Rows.uptoBulk]
      omega
    refine ⟨_, ns, rfl, ⟨some a, cap, by rw [hns], fun h0 => ⟨a.block, a.off, congrArg some (ha (by omega)), fun i hi => (hp i hi).2.2⟩⟩, by unfold maxLen at hm; omega, fun x hx => ?_, ?_⟩
    · obtain ⟨i, hi, rfl⟩ := List.getElem_of_mem hx
      exact (hp i hi).2.1
    · have h3 := sum_le (fun n : List UInt8 => n.length + 1) 1 ns (elems.map (·.1)) (by rw [List.length_map]; omega) fun i hi d hd => (hp i hi).1 d hd
      rw [← path_sum] at h3
      omega
set_option maxRecDepth 100000 in
/-- A list of arguments that came in. -/
theorem open_args {fuel : Nat} {cs : List Value} {y : DataW H × List MemPlace} (h : DataW.trod enc Tryz.prog w base spare held fuel 39 cs = some y) :
    ∃ v al, cs = [v] ∧ ArgIn w v al ∧ al.length ≤ 9223372036854775807 ∧ al.length ≤ Rows.uptoBulk y.1 ∧ (∀ a ∈ al, OkA a (Rows.uptoBulk y.1)) ∧ (al.map fun a => szA a + 1).sum + 4 ≤ 4 * Rows.uptoBulk y.1 := by
  rcases DataW.trod_slice Tryz.underlying39 h with ⟨rfl, hy⟩ | ⟨a, len, cap, elems, rest, n, _, rfl, hy, hb, hl, hm, hlen, hel, _⟩
  · exact ⟨_, [], rfl, ⟨none, 0, rfl, fun h => absurd h (by simp)⟩, by simp, by simp, (fun n h => nomatch h), by have := bulk_pos y.1; simp; omega⟩
  · rw [cells_oa] at hel
    have ha : 0 < len → a = ⟨a.block, a.off, none⟩ := fun h0 => by
      have h1 := hel 0 h0
      rw [List.getElem?_eq_getElem (by omega), Option.bind_eq_some_iff] at h1
      obtain ⟨cs', h2, h3⟩ := h1
      obtain ⟨xs, m, _, _, hcl, _, _⟩ := DataW.trod_struct Tryz.underlying44 h3
      rw [cells_oa] at hcl
      match cs', hcl, h2 with
      | u :: _, _, h2 => exact first_spot h2 (by decide) rfl
    have key : ∀ i, i < len → ∃ x : Ar, (∀ d, (elems.map (·.1))[i]? = some d → OkA x (Rows.uptoBulk d) ∧ szA x + 1 ≤ 4 * Rows.uptoBulk d) ∧
        ∃ vp, ArAt w a.block (a.off + i * 5) x vp := fun i hi => by
      have h1 := hel i hi
      rw [List.getElem?_eq_getElem (by omega), Option.bind_eq_some_iff] at h1
      obtain ⟨cs', h2, h3⟩ := h1
      obtain ⟨xs, m, _, hxy, hcl, hxl, hf⟩ := DataW.trod_struct Tryz.underlying44 h3
      rw [cells_oa] at hcl
      obtain ⟨u0, u1, u2, u3, u4, rfl⟩ : ∃ u0 u1 u2 u3 u4, cs' = [u0, u1, u2, u3, u4] := by
        match cs', hcl with
        | [u0, u1, u2, u3, u4], _ => exact ⟨u0, u1, u2, u3, u4, rfl⟩
      obtain ⟨y0, y1, y2, y3, y4, rfl⟩ : ∃ y0 y1 y2 y3 y4, xs = [y0, y1, y2, y3, y4] := by
        match xs, (show xs.length = 5 from hxl) with
        | [y0, y1, y2, y3, y4], _ => exact ⟨y0, y1, y2, y3, y4, rfl⟩
      have f0 : DataW.trod enc Tryz.prog w base spare held m 3 [u0] = some y0 := by simpa [cells_oi] using hf 0 _ rfl
      have f1 : DataW.trod enc Tryz.prog w base spare held m 9 [u1] = some y1 := by simpa [cells_os] using hf 1 _ rfl
      have f2 : DataW.trod enc Tryz.prog w base spare held m 42 [u2] = some y2 := by simpa [cells_ol] using hf 2 _ rfl
      have f3 : DataW.trod enc Tryz.prog w base spare held m 3 [u3] = some y3 := by simpa [cells_oi] using hf 3 _ rfl
      have f4 : DataW.trod enc Tryz.prog w base spare held m 9 [u4] = some y4 := by simpa [cells_os] using hf 4 _ rfl
      obtain ⟨k, hk, hy0, _⟩ := DataW.trod_int Tryz.underlying3 f0
      obtain ⟨s1, hs1, hy1, hz1⟩ := DataW.trod_string Tryz.underlying9 f1
      obtain ⟨vp, ns, hv, hP, hP1, hP2, hP3⟩ := open_path f2
      obtain ⟨ii, hii, hy3, hwf⟩ := DataW.trod_int Tryz.underlying3 f3
      obtain ⟨s4, hs4, hy4, hz4⟩ := DataW.trod_string Tryz.underlying9 f4
      have hlo : -9223372036854775808 ≤ ii ∧ ii ≤ 9223372036854775807 := by
        have h := hwf
        simp only [Lit.wf, Bool.and_eq_true, decide_eq_true_eq] at h
        exact h
      unfold maxLen at hz1 hz4
      simp only [List.cons.injEq, and_true] at hk hs1 hv hii hs4
      subst hk
      subst hs1
      subst hv
      subst hii
      subst hs4
      have l0 := at_lit (j := 0) (ha (by omega)) h2 (by decide) rfl
      have l1 := at_lit (j := 1) (ha (by omega)) h2 (by decide) rfl
      have l2 := at_lit (j := 2) (ha (by omega)) h2 (by decide) rfl
      have l3 := at_lit (j := 3) (ha (by omega)) h2 (by decide) rfl
      have l4 := at_lit (j := 4) (ha (by omega)) h2 (by decide) rfl
      refine ⟨⟨k, s1.data.toList, ns, ii, s4.data.toList⟩, fun d hd => ?_, _, ⟨hP, l0, l1, l2, l3, l4⟩⟩
      rw [List.getElem?_map, List.getElem?_eq_getElem (by omega), Option.map_some, Option.some.injEq] at hd
      have hbd : s1.data.toList.length + s4.data.toList.length + Rows.uptoBulk y2.1 + 5 ≤ Rows.uptoBulk d := by
        rw [← hd, hxy]
        simp only [List.map_cons, List.map_nil, Rows.uptoBulk, Rows.uptoBulkAll, hy0, hy1, hy3, hy4]
        omega
      refine ⟨⟨⟨hP1, by simpa using hz1, by simpa using hz4, hP2⟩, by show (pathL ns).length ≤ _; omega, by show s1.data.toList.length ≤ _; omega, by show s4.data.toList.length ≤ _; omega, hlo.1, hlo.2⟩, ?_⟩
      unfold szA
      simp only
      omega
    obtain ⟨al, hal, hp⟩ := list_of len key
    have hbk : Rows.uptoBulkAll (elems.map (·.1)) + 1 ≤ Rows.uptoBulk y.1 := by
      rw [hy]
      simp only [Rows.uptoBulk]
      omega
    refine ⟨_, al, rfl, ⟨some a, cap, by rw [hal], fun h0 => ⟨a.block, a.off, congrArg some (ha (by omega)), fun i hi => (hp i hi).2⟩⟩, by unfold maxLen at hm; omega, ?_, fun x hx => ?_, ?_⟩
    · have := bulk_len (elems.map (·.1))
      rw [List.length_map] at this
      omega
    · obtain ⟨i, hi, rfl⟩ := List.getElem_of_mem hx
      have hlt : i < (elems.map (·.1)).length := by rw [List.length_map]; omega
      have h1 := ((hp i hi).1 _ (List.getElem?_eq_getElem hlt)).1
      have h2 := bulk_mem (List.getElem_mem hlt)
      exact ⟨h1.sz, by have := h1.path; omega, by have := h1.name; omega, by have := h1.text; omega, h1.low, h1.high⟩
    · have h3 := sum_le (fun a => szA a + 1) 4 al (elems.map (·.1)) (by rw [List.length_map]; omega) fun i hi d hd => ((hp i hi).1 d hd).2
      omega
set_option maxRecDepth 100000 in
/-- A pipeline that came in. -/
theorem open_calls {fuel : Nat} {cs : List Value} {y : DataW H × List MemPlace} (h : DataW.trod enc Tryz.prog w base spare held fuel 22 cs = some y) :
    ∃ v ps, cs = [v] ∧ CallIn w v ps ∧ SzM ps ∧ OkC ps (Rows.uptoBulk y.1) := by
  rcases DataW.trod_slice Tryz.underlying22 h with ⟨rfl, hy⟩ | ⟨a, len, cap, elems, rest, n, _, rfl, hy, hb, hl, hm, hlen, hel, _⟩
  · exact ⟨_, [], rfl, ⟨none, 0, rfl, fun h => absurd h (by simp)⟩, ⟨by simp, fun c h => nomatch h⟩, ⟨by simp, (fun n h => nomatch h), by simp [szP]⟩⟩
  · rw [cells_oc] at hel
    have ha : 0 < len → a = ⟨a.block, a.off, none⟩ := fun h0 => by
      have h1 := hel 0 h0
      rw [List.getElem?_eq_getElem (by omega), Option.bind_eq_some_iff] at h1
      obtain ⟨cs', h2, h3⟩ := h1
      obtain ⟨xs, m, _, _, hcl, _, _⟩ := DataW.trod_struct Tryz.underlying41 h3
      rw [cells_oc] at hcl
      match cs', hcl, h2 with
      | u :: _, _, h2 => exact first_spot h2 (by decide) rfl
    have key : ∀ i, i < len → ∃ x : Ca, (∀ d, (elems.map (·.1))[i]? = some d → x.n.length ≤ Rows.uptoBulk d ∧ x.as.length ≤ Rows.uptoBulk d ∧ (∀ a ∈ x.as, OkA a (Rows.uptoBulk d)) ∧ szCa x ≤ 4 * Rows.uptoBulk d) ∧ x.as.length ≤ 9223372036854775807 ∧
        ∃ va, CaAt w a.block (a.off + i * 2) x va := fun i hi => by
      have h1 := hel i hi
      rw [List.getElem?_eq_getElem (by omega), Option.bind_eq_some_iff] at h1
      obtain ⟨cs', h2, h3⟩ := h1
      obtain ⟨xs, m, _, hxy, hcl, hxl, hf⟩ := DataW.trod_struct Tryz.underlying41 h3
      rw [cells_oc] at hcl
      obtain ⟨u0, u1, rfl⟩ : ∃ u0 u1, cs' = [u0, u1] := by
        match cs', hcl with
        | [u0, u1], _ => exact ⟨u0, u1, rfl⟩
      obtain ⟨y0, y1, rfl⟩ : ∃ y0 y1, xs = [y0, y1] := by
        match xs, (show xs.length = 2 from hxl) with
        | [y0, y1], _ => exact ⟨y0, y1, rfl⟩
      have f0 : DataW.trod enc Tryz.prog w base spare held m 9 [u0] = some y0 := by simpa [cells_os] using hf 0 _ rfl
      have f1 : DataW.trod enc Tryz.prog w base spare held m 39 [u1] = some y1 := by simpa [cells_or] using hf 1 _ rfl
      obtain ⟨s0, hs0, hy0, _⟩ := DataW.trod_string Tryz.underlying9 f0
      obtain ⟨va, al, hv, hA, hA1, hA2, hA3, hA4⟩ := open_args f1
      simp only [List.cons.injEq, and_true] at hs0 hv
      subst hs0
      subst hv
      have l0 := at_lit (j := 0) (ha (by omega)) h2 (by decide) rfl
      have l1 := at_lit (j := 1) (ha (by omega)) h2 (by decide) rfl
      refine ⟨⟨s0.data.toList, al⟩, fun d hd => ?_, hA1, _, ⟨hA, l0, l1⟩⟩
      rw [List.getElem?_map, List.getElem?_eq_getElem (by omega), Option.map_some, Option.some.injEq] at hd
      have hbd : s0.data.toList.length + Rows.uptoBulk y1.1 + 2 ≤ Rows.uptoBulk d := by
        rw [← hd, hxy]
        simp only [List.map_cons, List.map_nil, Rows.uptoBulk, Rows.uptoBulkAll, hy0]
        omega
      refine ⟨by show s0.data.toList.length ≤ _; omega, by show al.length ≤ _; omega, fun a ha => ?_, ?_⟩
      · have h4 := hA3 a ha
        exact ⟨h4.sz, by have := h4.path; omega, by have := h4.name; omega, by have := h4.text; omega, h4.low, h4.high⟩
      · unfold szCa
        simp only
        omega
    obtain ⟨ps, hps, hp⟩ := list_of len key
    have hbk : Rows.uptoBulkAll (elems.map (·.1)) + 1 ≤ Rows.uptoBulk y.1 := by
      rw [hy]
      simp only [Rows.uptoBulk]
      omega
    have heach : ∀ x ∈ ps, x.as.length ≤ 9223372036854775807 ∧ x.n.length ≤ Rows.uptoBulk y.1 ∧ x.as.length ≤ Rows.uptoBulk y.1 ∧ ∀ a ∈ x.as, OkA a (Rows.uptoBulk y.1) := fun x hx => by
      obtain ⟨i, hi, rfl⟩ := List.getElem_of_mem hx
      have hlt : i < (elems.map (·.1)).length := by rw [List.length_map]; omega
      obtain ⟨k1, k2, k3, k4⟩ := (hp i hi).1 _ (List.getElem?_eq_getElem hlt)
      have h2 := bulk_mem (List.getElem_mem hlt)
      exact ⟨(hp i hi).2.1, by omega, by omega, fun a ha => by
        have h4 := k3 a ha
        exact ⟨h4.sz, by have := h4.path; omega, by have := h4.name; omega, by have := h4.text; omega, h4.low, h4.high⟩⟩
    refine ⟨_, ps, rfl, ⟨some a, cap, by rw [hps], fun h0 => ⟨a.block, a.off, congrArg some (ha (by omega)), fun i hi => (hp i hi).2.2⟩⟩, ⟨by unfold maxLen at hm; omega, fun c hc => ⟨(heach c hc).1, fun a ha => ((heach c hc).2.2.2 a ha).sz⟩⟩, ⟨?_, fun c hc => (heach c hc).2, ?_⟩⟩
    · have := bulk_len (elems.map (·.1))
      rw [List.length_map] at this
      omega
    · have h3 := sum_le szCa 4 ps (elems.map (·.1)) (by rw [List.length_map]; omega) fun i hi d hd => ((hp i hi).1 d hd).2.2.2
      unfold szP
      omega
end Go.Proofs.YtmccbcficbbidaaGreatDoor.Pw

/-
  The last step of a law's row where the call leaves a world in which all that lay before lies unturned, the arguments are plain values (numbers, truths, texts), and the answer is the truth.
-/
namespace Go.Proofs.YtmccbcficbbidaaGreatDoor.Kit
open Go.ChangeShapes Go.WideShapes Go.ChangeAt Go.RowKit
variable {H : Type} {enc : TypeId × Value → H} {P : Program}

theorem own : ownKnob Tryz.prog.godebug = none := by kernel_rfl

/-- Arguments without places: what is asked of the world behind the call is that nothing older has turned. -/
theorem post_plain {f : Func} {s : ChangeSpec} {apart fresh handsOn again : Bool} {W W' : World} {args : Array Value} {v : Value} {ds gs : List (DataW H)}
    (hW : DataW.Whole enc P f.params.toList s.vars apart W args.toList ds gs [])
    (hres : ∀ (b : Nat) (sp : Nat → Bool) (hd : Bool), DataW.TrodAll enc P W' b sp hd f.resultTypes.toList (v.resultList f.resultTypes.size) (s.fn H (ds ++ gs)).results [])
    (hargs : ∀ sp : Nat → Bool, DataW.TrodAll enc P W' 0 sp true f.params.toList args.toList (s.fn H (ds ++ gs)).args [])
    (hvars : ∀ sp : Nat → Bool, DataW.TrodVars enc P W' sp s.vars (s.fn H (ds ++ gs)).vars [])
    (hb : Below W.heap.size W W')
    (hok : ∀ (j : Nat) (t : TypeId) (r : Value), f.resultTypes[j]? = some t → (v.resultList f.resultTypes.size)[j]? = some r → Value.okWide P W' .any 0 t r) :
    s.post enc P f apart fresh handsOn again W args v W' :=
  ⟨ds, gs, [], [], [], [], hW, hres _ _ _, hargs _, hvars _, hb.frame _, fun _ =>
    ⟨hok, _, _, [], ⟨[], [], trodAll_append (hargs _) (hres _ _ _), hvars _, rfl, fun _ _ h => by simp at h, fun _ => by simp⟩, fun _ h => by simp at h⟩⟩
end Go.Proofs.YtmccbcficbbidaaGreatDoor.Kit

/-
  A world that holds Go's own two tables of characters' first octets, as the row lists them.
-/
namespace Go.Proofs.YtmccbcficbbidaaGreatDoor.Laid
open Go.ChangeShapes Go.WideShapes Go.ChangeAt Go.RowKit

abbrev list : List (String × DataW Unit) := [("unicode/utf8.acceptRanges", Rows.laid_unicode_utf8_acceptRanges), ("unicode/utf8.first", Rows.laid_unicode_utf8_first)]
noncomputable def laidWorld (os : Os) : World :=
  { World.holding Tryz.prog os ⟨#[], #[], []⟩ with heap := (((World.holding Tryz.prog os ⟨#[], #[], []⟩).heap.modify 1 fun
      | .cells _ t frozen => .cells (Lib.firstTab.map fun z => Value.int .u8 z).toArray t frozen
      | o => o).modify 2 fun
      | .cells _ t frozen => .cells ((List.range 16).flatMap fun i => [Value.int .u8 (Lib.accLo i), Value.int .u8 (Lib.accHi i)]).toArray t frozen
      | o => o) }
set_option maxRecDepth 100000 in
theorem laid_met (os : Os) (args : Array Value) : laidMet Tryz.prog list ((laidWorld os).forCall (fun _ _ => 0) ⟨#[], args, []⟩).memory :=
  laidMet_of_run' 8 (by kernel_rfl) (by kernel_rfl)
end Go.Proofs.YtmccbcficbbidaaGreatDoor.Laid
