/-
  Part 6: BuildText, LxwPure, PgOct, OctLeaves, OctFirst, OctMade, OctTexts, OctNames.
-/
import Derived.Test.YtmccbcficbbidaaGreatDoorPwAllP1
import Derived.Test.YtmccbcficbbidaaGreatDoorProg
import Derived.Test.YtmccbcficbbidaaGreatDoorPwAllP5
import Derived.Lib.OthersKept
import Derived.Lib.Hide
import Derived.Lib.Index
import Derived.Lib.IndexMore
import Derived.Lib.Strings
import Derived.Deep.RegionWith
import Derived.Laws.IdiomStrings
import Derived.Lib.Bytealg
import Derived.Deep.QuietTactic
import Derived.BigQuiet
/-
  Contracts of strings.Builder's copyCheck and WriteString over this translation: a builder in a block of its own takes a text; every block that is neither its own nor a row of octets stays as it was.
-/
namespace Go.Proofs.YtmccbcficbbidaaGreatDoor.Build
open Go.RowKit Go.Proofs.YtmccbcficbbidaaGreatDoor.Oct

theorem size_b : (Tryz.prog.info? 60).map (·.size) = some 2 := by kernel_rfl
theorem lies_b : liesAt Tryz.prog Tryz.prog.depth 60 (2 / Tryz.prog.cellsOf 60) 0 60 1 = true := by kernel_rfl
theorem info_o : (Tryz.prog.info? 5).map (fun i => (i.zero, i.size, i.bytes)) = some (some (.int .u8 0), 1, 1) := by kernel_rfl

set_option maxHeartbeats 2000000 in
set_option maxRecDepth 100000 in
theorem check_used (b : Nat) (w : World) (h0 : w.cell? ⟨b, 0, none⟩ = some (.pointer (some ⟨b, 0, none⟩))) :
    Calls Tryz.prog 47 #[.pointer (some ⟨b, 0, none⟩)] w fun e w' => e = .returned (.tuple #[]) ∧ w' = w := by
  obtain ⟨j, hj, _⟩ := Option.map_eq_some_iff.1 size_b
  have he := Lib.run_neq_ptr_same w ⟨b, 0, none⟩ Tryz.underlying57 hj
  go_enter Tryz.func47, Tryz.ntmps47
  go_wp2
  go_end0
  exact ⟨rfl, rfl⟩

set_option maxHeartbeats 2000000 in
set_option maxRecDepth 100000 in
theorem check_fresh (b : Nat) (w : World) (h0 : w.cell? ⟨b, 0, none⟩ = some (.pointer none)) (hsh : w.shape? b = some (60, 2)) (hfz : w.frozen? ⟨b, 0, none⟩ = false) :
    Calls Tryz.prog 47 #[.pointer (some ⟨b, 0, none⟩)] w fun e w' => e = .returned (.tuple #[]) ∧ w' = w.setCell ⟨b, 0, none⟩ (.pointer (some ⟨b, 0, none⟩)) := by
  obtain ⟨j, hj, hjs⟩ := Option.map_eq_some_iff.1 size_b
  go_enter Tryz.func47, Tryz.ntmps47
  go_wp2
  rw [Lib.run_to_unsafe w ⟨b, 0, none⟩ Tryz.underlying57 Tryz.underlying110 hj (by rw [hjs]; decide) hsh (Nat.zero_lt_succ 1)]
  simp only [Result.andThen]
  rw [Oper.upon_value]
  go_wp2
  rw [run_callFunc_extern Tryz.func69 (by kernel_rfl) (by kernel_rfl) (by kernel_rfl) (e := Extern.AbiNoEscape.same) (by kernel_rfl)]
  rw [Lib.run_noEscape]
  simp only [Result.andThen]
  rw [Oper.upon_value]
  go_wp2
  rw [Lib.run_from_unsafe w ⟨b, 0, none⟩ Tryz.underlying110 Tryz.underlying57 hj hsh lies_b]
  simp only [Result.andThen]
  rw [Oper.upon_value]
  go_wp2
  go_end0
  exact ⟨rfl, rfl⟩

/-- A builder in block b, of the call's own from B on, that holds these octets. -/
abbrev Is (B b : Nat) (l : List Value) (w : World) : Prop := Lib.IsBuilder 60 5 B b l w
/-- Every block but b and but rows of octets. -/
abbrev Others (b : Nat) (w w' : World) : Prop := Lib.OthersKept 5 (some b) w w'

theorem check_c (B b : Nat) (l : List Value) (w : World) (h : Is B b l w) :
    Calls Tryz.prog 47 #[.pointer (some ⟨b, 0, none⟩)] w fun e w' => e = .returned (.tuple #[]) ∧ Lib.BuilderAt 60 5 B b (.pointer (some ⟨b, 0, none⟩)) l w' ∧ Below B w w' ∧ Others b w w' := by
  rcases h with h | h
  · refine (check_fresh b w h.cell0 h.shape h.frozen0).mono ?_
    rintro e w' ⟨rfl, rfl⟩
    exact ⟨rfl, h.used _, (Below.refl B w).setCell (p := ⟨b, 0, none⟩) h.1 _, (Lib.OthersKept.refl _ _ w).setCell ⟨b, 0, none⟩ rfl _⟩
  · refine (check_used b w h.cell0).mono ?_
    rintro e w' ⟨rfl, rfl⟩
    exact ⟨rfl, h, Below.refl B _, Lib.OthersKept.refl _ _ _⟩

set_option maxHeartbeats 2000000 in
set_option maxRecDepth 100000 in
theorem write_c (B b : Nat) (l : List Value) (s : ByteArray) (w : World) (h : Is B b l w) (hlen : l.length + s.size ≤ 140737488355328) (hBw : B ≤ w.heap.size) :
    Calls Tryz.prog 32 #[.pointer (some ⟨b, 0, none⟩), .string s] w fun e w' => e = .returned (.tuple #[.int .i64 s.size, .nilIface]) ∧ Is B b (l ++ Lib.strCells s) w' ∧ Below B w w' ∧ Others b w w' := by
  obtain ⟨i0, hi, hz0, hz1, hz2⟩ := info_parts info_o
  have e42 : ∀ args w, (callFunc 47 args).run Tryz.prog w = .ok (.enter 47 args) w := enters_of Tryz.func47 (by kernel_rfl) rfl
  go_enter Tryz.func32, Tryz.ntmps32
  go_wp2_with (go_at_fn 47; refine (check_c B b l _ h).mono ?_)
  rintro e w1 ⟨rfl, h1, hb1, hk1⟩
  obtain ⟨hB, v, hbk, hown, hne⟩ := h1
  have c0 : w1.cell? ⟨b, 0, none⟩ = some (.pointer (some ⟨b, 0, none⟩)) := by rw [Lib.cell_of_heap hbk]; rfl
  have c1 : w1.cell? ⟨b, 1, none⟩ = some v := by rw [Lib.cell_of_heap hbk]; rfl
  go_wp2_with (at_builtin; refine Lib.wpList_append_own_string _ rfl _ _ 58 9 rfl B 5 i0 Tryz.underlying58 Tryz.underlying9 hi hz0 hz1 hz2 _ _ _ rfl hown s rfl ?c3 ?c4 ?c5 ?_)
  case c3 => unfold maxLen; omega
  case c4 => omega
  case c5 => have := hb1.size; omega
  intro v' w2 hown' hgrow _
  have hlt : b < w1.heap.size := (Array.getElem?_eq_some_iff.1 hbk).1
  have hb2 : w2.heap[b]? = some (.cells #[.pointer (some ⟨b, 0, none⟩), v] 60 (0, 0)) := by
    rw [hgrow.block b hlt (fun e => hne e.symm)]
    exact hbk
  have d0 : w2.cell? ⟨b, 0, none⟩ = some (.pointer (some ⟨b, 0, none⟩)) := by rw [Lib.cell_of_heap hb2]; rfl
  have d1 : w2.cell? ⟨b, 1, none⟩ = some v := by rw [Lib.cell_of_heap hb2]; rfl
  have f1 : w2.frozen? ⟨b, 1, none⟩ = false := Lib.frozen_of_heap hb2 1
  obtain ⟨ao, n', cap, rfl⟩ : ∃ ao n' cap, v' = .slice ao n' cap := by
    rcases hown'.2 with ⟨hv, _⟩ | ⟨g, cap, cur, hv, _⟩
    · exact ⟨_, _, _, hv⟩
    · exact ⟨_, _, _, hv⟩
  have hrow : ∀ g, v.ownBlock = some g → ∃ c fz, w1.heap[g]? = some (.cells c 5 fz) := by
    intro g hg
    rcases hown.2 with ⟨hv, _⟩ | ⟨g', cap', cur, hv, _, hc, _⟩
    · rw [hv] at hg; cases hg
    · rw [hv] at hg; cases hg; exact ⟨_, _, hc⟩
  go_wp2
  go_ret2
  refine ⟨rfl, ?_, ?_, (hk1.grown hgrow hrow).setCell ⟨b, 1, none⟩ rfl _⟩
  · exact .inr (Lib.BuilderAt.put (T := 60) (e := 5) hB hb2 (bs' := l ++ Lib.strCells s) (by simpa [Lib.strCells_length] using hown') (by decide))
  · exact (hb1.grown hgrow (by have := hb1.size; omega) (fun k hk => (hown.lt k hk).1)).setCell (p := ⟨b, 1, none⟩) hB _
end Go.Proofs.YtmccbcficbbidaaGreatDoor.Build

/-
  How the pieces of a template are cut, from one {{ to the next, with no program: the same pieces, step by step.
-/
namespace Go.Proofs.YtmccbcficbbidaaGreatDoor.Lex
open Go.Proofs.YtmccbcficbbidaaGreatDoor.Oct

/-! ### Where texts stand in others -/
theorem index_find (p : List UInt8) : ∀ l : List UInt8, Lib.index l p = findI p l
  | [] => by
    unfold Lib.index findI findL
    cases p.isEmpty <;> rfl
  | c :: t => by
    have ih := index_find p t
    unfold Lib.index
    rw [ih]
    unfold findI
    conv => rhs; unfold findL
    cases h : p.isPrefixOf (c :: t) with
    | true => simp
    | false =>
      cases findL p t with
      | none => simp
      | some n =>
        have e : (((n : Nat) : Int) == -1) = false := by rw [beq_eq_false_iff_ne]; omega
        simp [e]
theorem find_le {p : List UInt8} {l : List UInt8} {n : Nat} (h : findL p l = some n) : n + p.length ≤ l.length := by
  have h1 := (find_some h).length_le
  rw [List.length_drop] at h1
  by_cases hp : p = []
  · subst hp
    have : n ≤ l.length := by
      induction l generalizing n with
      | nil =>
        unfold findL at h
        simp at h
        omega
      | cons c t ih =>
        unfold findL at h
        simp at h
        omega
    simpa using this
  · have : 0 < p.length := List.length_pos_iff.2 hp
    omega
/-- Where the next {{ stands, or the end. -/
def nextN (l : List UInt8) : Nat := (findL [123, 123] l).getD l.length
theorem next_le (l : List UInt8) : nextN l ≤ l.length := by
  unfold nextN
  cases h : findL [123, 123] l with
  | none => exact Nat.le_refl _
  | some n => have := find_le h; show n ≤ _; simp at this; omega
theorem cut_next (l : List UInt8) : (Lib.cut l [123, 123]).1 = l.take (nextN l) := by
  unfold Lib.cut nextN
  rw [index_find]
  unfold findI
  cases h : findL [123, 123] l with
  | none =>
    rw [if_neg (by simp)]
    show l = l.take l.length
    rw [List.take_length]
  | some n =>
    rw [if_pos (by simp)]
    rfl

/-! ### Where an action ends -/
theorem closes_step (q : Bool) (c : UInt8) (t : List UInt8) (h : ¬ (q = true ∧ c = 92)) :
    closesL q (c :: t) = if c = 34 then (closesL (!q) t).map (· + 1) else if q = false ∧ [125, 125].isPrefixOf (c :: t) = true then some 0 else (closesL q t).map (· + 1) := by
  rw [closesL.eq_def]
  split
  · rename_i h1; cases h1
  · rename_i h1; injection h1 with h1 h2; subst h1; exact absurd ⟨rfl, rfl⟩ h
  · rename_i h1; injection h1 with h1 h2; subst h1; exact absurd ⟨rfl, rfl⟩ h
  · rename_i h1
    injection h1 with h1 h2
    subst h1; subst h2
    rfl
theorem closes_esc (t : List UInt8) : closesL true (92 :: t) = (closesL true (t.drop 1)).map (· + 2) := by
  cases t with
  | nil => simp [closesL]
  | cons c t => rw [closes_two]; rfl
theorem closes_le : ∀ (n : Nat) (q : Bool) (l : List UInt8) (m : Nat), l.length ≤ n → closesL q l = some m → m + 2 ≤ l.length := by
  intro n
  induction n with
  | zero =>
    intro q l m hl h
    have : l = [] := List.eq_nil_of_length_eq_zero (by omega)
    subst this
    cases q <;> simp [closesL] at h
  | succ n ih =>
    intro q l m hl h
    cases l with
    | nil => cases q <;> simp [closesL] at h
    | cons c t =>
      rw [List.length_cons] at hl
      by_cases hq : q = true ∧ c = 92
      · obtain ⟨rfl, rfl⟩ := hq
        rw [closes_esc] at h
        obtain ⟨k, hk, rfl⟩ := Option.map_eq_some_iff.1 h
        have := ih true (t.drop 1) k (by rw [List.length_drop]; omega) hk
        rw [List.length_drop] at this
        rw [List.length_cons]
        omega
      · rw [closes_step q c t hq] at h
        rw [List.length_cons]
        split at h
        · obtain ⟨k, hk, rfl⟩ := Option.map_eq_some_iff.1 h
          have := ih _ t k (by omega) hk
          omega
        · split at h
          · rename_i hp
            injection h with h
            subst h
            have := (List.isPrefixOf_iff_prefix.1 hp.2).length_le
            simp at this
            omega
          · obtain ⟨k, hk, rfl⟩ := Option.map_eq_some_iff.1 h
            have := ih _ t k (by omega) hk
            omega
/-- Where }} stands, told from the text's beginning. -/
def closedTo (q : Bool) (l : List UInt8) (k : Nat) : Option Nat := (closesL q (l.drop k)).map (· + k)
theorem closed_end (q : Bool) (l : List UInt8) (k : Nat) (h : l.length ≤ k) : closedTo q l k = none := by
  unfold closedTo
  rw [List.drop_of_length_le h]
  cases q <;> simp [closesL]
theorem map_add (o : Option Nat) (x y z : Nat) (h : x + y = z) : (o.map (· + x)).map (· + y) = o.map (· + z) := by
  subst h
  cases o with
  | none => rfl
  | some v => show some (v + x + y) = some (v + (x + y)); congr 1; omega
theorem closed_esc (l : List UInt8) (k : Nat) (h : k < l.length) (hc : l[k] = 92) : closedTo true l k = closedTo true l (k + 2) := by
  unfold closedTo
  rw [List.drop_eq_getElem_cons h, hc, closes_esc, List.drop_drop, map_add _ 2 k (k + 2) (by omega)]
theorem closed_quote (q : Bool) (l : List UInt8) (k : Nat) (h : k < l.length) (hc : l[k] = 34) : closedTo q l k = closedTo (!q) l (k + 1) := by
  unfold closedTo
  rw [List.drop_eq_getElem_cons h, closes_step q _ _ (by rw [hc]; simp), if_pos hc, map_add _ 1 k (k + 1) (by omega)]
theorem closed_yes (l : List UInt8) (k : Nat) (h : [125, 125].isPrefixOf (l.drop k) = true) : closedTo false l k = some k := by
  have hk : k < l.length := by
    have := (List.isPrefixOf_iff_prefix.1 h).length_le
    rw [List.length_drop] at this
    simp at this
    omega
  unfold closedTo
  rw [List.drop_eq_getElem_cons hk] at h ⊢
  have hc : l[k] ≠ 34 := by
    intro e
    rw [e] at h
    simp [List.isPrefixOf] at h
  rw [closes_step false _ _ (by simp), if_neg hc, if_pos ⟨rfl, h⟩]
  show some (0 + k) = some k
  rw [Nat.zero_add]
theorem closed_next (q : Bool) (l : List UInt8) (k : Nat) (h : k < l.length) (h1 : ¬ (q = true ∧ l[k] = 92)) (h2 : l[k] ≠ 34) (h3 : ¬ (q = false ∧ [125, 125].isPrefixOf (l.drop k) = true)) : closedTo q l k = closedTo q l (k + 1) := by
  unfold closedTo
  rw [List.drop_eq_getElem_cons h] at h3 ⊢
  rw [closes_step q _ _ h1, if_neg h2, if_neg h3, map_add _ 1 k (k + 1) (by omega)]

/-! ### Remarks -/
theorem skip_take (l : List UInt8) (m : Nat) : skipN (l.take m) = min (skipN l) m := by
  induction l generalizing m with
  | nil => simp [skipN]
  | cons c t ih =>
    cases m with
    | zero => simp [skipN]
    | succ m =>
      have h := ih m
      unfold skipN at h ⊢
      rw [List.take_succ_cons]
      cases hb : bl c with
      | true =>
        rw [List.takeWhile_cons_of_pos hb, List.takeWhile_cons_of_pos hb, List.length_cons, List.length_cons, h]
        omega
      | false =>
        rw [List.takeWhile_cons_of_neg (by rw [hb]; simp), List.takeWhile_cons_of_neg (by rw [hb]; simp)]
        simp
theorem body_take (l : List UInt8) (m : Nat) : bodyN (l.take m) = min (bodyN l) m := by
  cases l with
  | nil => simp [bodyN, skipN]
  | cons c t =>
    cases m with
    | zero => simp [bodyN, skipN]
    | succ m =>
      unfold bodyN
      rw [List.take_succ_cons]
      simp only [List.head?_cons, Option.some.injEq, List.drop_succ_cons, List.drop_zero]
      split
      · rw [skip_take]; omega
      · rw [← List.take_succ_cons, skip_take]
theorem body_le (l : List UInt8) : bodyN l ≤ l.length := by
  unfold bodyN
  split
  · rename_i h
    cases l with
    | nil => cases h
    | cons c t => have := skip_le t; simp; omega
  · exact skip_le l
/-- Whether a remark stands here is told of a part that holds its beginning. -/
theorem rem_take (l : List UInt8) (m : Nat) (h : bodyN l + 2 ≤ m) : remB (l.take m) = remB l := by
  unfold remB
  rw [body_take, Nat.min_eq_left (by omega), List.drop_take]
  cases l.drop (bodyN l) with
  | nil => simp
  | cons c t =>
    obtain ⟨k, hk⟩ : ∃ k, m - bodyN l = k + 2 := ⟨m - bodyN l - 2, by omega⟩
    rw [hk]
    cases t <;> simp [List.isPrefixOf]
theorem rem_less (l : List UInt8) (m : Nat) (h : remB (l.take m) = true) : remB l = true := by
  unfold remB at h ⊢
  rw [body_take, List.drop_take] at h
  have h1 := List.isPrefixOf_iff_prefix.1 h
  have h2 := h1.length_le
  rw [List.length_take, List.length_drop] at h2
  simp at h2
  rw [Nat.min_eq_left (by omega)] at h1
  exact List.isPrefixOf_iff_prefix.2 (h1.trans (List.take_prefix _ _))
theorem inner_le (l : List UInt8) (m : Nat) (h : innerN l = some m) : m + 2 ≤ l.length ∧ (remB l = true → bodyN l + 4 ≤ m) := by
  unfold innerN at h
  cases hr : remB l with
  | true =>
    rw [hr, if_pos rfl] at h
    cases hk : findL [42, 47] (l.drop (bodyN l + 2)) with
    | none => rw [hk] at h; cases h
    | some k =>
      rw [hk] at h
      obtain ⟨j, hj, rfl⟩ := Option.map_eq_some_iff.1 h
      have h1 := closes_le _ _ _ _ (Nat.le_refl _) hj
      rw [List.length_drop] at h1
      exact ⟨by omega, fun _ => by omega⟩
  | false =>
    rw [hr, if_neg (by simp)] at h
    exact ⟨closes_le _ _ _ _ (Nat.le_refl _) h, fun h => by cases h⟩
theorem rem_inner (l : List UInt8) (m : Nat) (h : innerN l = some m) : remB (l.take m) = remB l := by
  cases hr : remB l with
  | true => rw [rem_take l m (by have := (inner_le l m h).2 hr; omega), hr]
  | false =>
    cases hb : remB (l.take m) with
    | false => rfl
    | true => have := rem_less l m hb; rw [hr] at this; cases this
/-- A remark's first place. -/
theorem rem_find (l : List UInt8) (h : remB l = true) : findL [47, 42] l = some (bodyN l) := by
  have hs : ∀ t : List UInt8, [47, 42].isPrefixOf (t.drop (skipN t)) = true → findL [47, 42] t = some (skipN t) := by
    intro t
    induction t with
    | nil => intro h; simp at h
    | cons c t ih =>
      intro h
      cases hb : bl c with
      | true =>
        have e : skipN (c :: t) = skipN t + 1 := by unfold skipN; rw [List.takeWhile_cons_of_pos hb]; rfl
        rw [e] at h ⊢
        have h1 := ih (by simpa using h)
        unfold findL
        rw [if_neg (by
          intro hp
          cases t with
          | nil => simp [List.isPrefixOf] at hp
          | cons d t =>
            simp [List.isPrefixOf] at hp
            rw [← hp.1] at hb
            revert hb
            decide), h1]
        rfl
      | false =>
        have e : skipN (c :: t) = 0 := by unfold skipN; rw [List.takeWhile_cons_of_neg (by rw [hb]; simp)]; rfl
        rw [e] at h ⊢
        exact find_yes (by simpa using h)
  unfold remB at h
  unfold bodyN at h ⊢
  split
  · rename_i h45
    rw [if_pos h45] at h
    cases l with
    | nil => cases h45
    | cons c t =>
      simp at h45
      subst h45
      have h1 := hs t (by rw [Nat.add_comm] at h; simpa using h)
      unfold findL
      rw [if_neg (by cases t <;> simp [List.isPrefixOf]), h1]
      show some (skipN t + 1) = some (1 + skipN t)
      rw [Nat.add_comm]
  · rename_i h45
    rw [if_neg h45] at h
    exact hs l h
theorem rem_trim (l : List UInt8) : Lib.hasPrefix ((Lib.trimPrefix l [45]).drop (skipN (Lib.trimPrefix l [45]))) [47, 42] = remB l := by
  unfold Lib.trimPrefix Lib.hasPrefix remB bodyN
  cases l with
  | nil => rfl
  | cons c t =>
    by_cases h : c = 45
    · subst h
      have e : [45].isPrefixOf (45 :: t) = true := by simp [List.isPrefixOf]
      rw [if_pos e]
      simp only [List.length_singleton, List.drop_succ_cons, List.drop_zero, List.head?_cons, if_true]
      rw [show 1 + skipN t = skipN t + 1 by omega, List.drop_succ_cons]
    · have e : [45].isPrefixOf (c :: t) = false := by simp [List.isPrefixOf]; exact fun q => h q.symm
      rw [if_neg (by rw [e]; simp), if_neg (by simpa using h)]

/-! ### Trims -/
theorem lead_shape {t : List UInt8} (h : leadB t = true) : ∃ c r, t = 45 :: c :: r ∧ bl c = true := by
  unfold leadB at h
  split at h
  · exact ⟨_, _, rfl, h⟩
  · cases h
theorem lead_no {x : UInt8} {y : List UInt8} (h : x ≠ 45) : leadB (x :: y) = false := by
  unfold leadB
  split
  · rename_i e
    injection e with e _
    exact absurd e h
  · rfl
theorem tail_drop (t : List UInt8) (h : leadB t = true) : tailB (t.drop 1) = tailB t := by
  obtain ⟨c, r, rfl, hc⟩ := lead_shape h
  · show tailB (c :: r) = tailB (45 :: c :: r)
    unfold tailB
    rw [List.reverse_cons (a := 45)]
    cases hr : (c :: r).reverse with
    | nil => rfl
    | cons x y =>
      cases y with
      | nil =>
        have : r = [] := by
          have := congrArg List.length hr
          simp at this
          exact this
        subst this
        simp at hr
        subst hr
        have hx : c ≠ 45 := by intro e; subst e; revert hc; decide
        show leadB [c] = leadB [c, 45]
        rw [lead_no hx, lead_no hx]
      | cons z w => 
        by_cases hx : x = 45
        · subst hx; rfl
        · show leadB (x :: z :: w) = leadB (x :: z :: (w ++ [45]))
          rw [lead_no hx, lead_no hx]
theorem lead_long {t : List UInt8} (h : leadB t = true) : 2 ≤ t.length := by
  obtain ⟨c, r, rfl, _⟩ := lead_shape h
  simp
theorem tail_long {t : List UInt8} (h : tailB t = true) : 2 ≤ t.length := by
  have := lead_long h
  simpa using this
/-- What is within an action, without its trims. -/
def withinL (t : List UInt8) : List UInt8 := (t.take (t.length - if tailB t then 1 else 0)).drop (if leadB t then 1 else 0)
theorem within_eq (t : List UInt8) : withinL t = (if tailB (if leadB t then t.drop 1 else t) then (if leadB t then t.drop 1 else t).dropLast else (if leadB t then t.drop 1 else t)) := by
  unfold withinL
  cases hl : leadB t with
  | true =>
    simp only [if_true]
    rw [tail_drop t hl]
    cases ht : tailB t with
    | true =>
      simp only [if_true]
      rw [List.dropLast_eq_take, List.length_drop, List.drop_take]
    | false => simp
  | false =>
    simp only [Bool.false_eq_true, if_false]
    cases ht : tailB t with
    | true => simp only [if_true, List.drop_zero]; rw [List.dropLast_eq_take]
    | false => simp
theorem back_take (t : List UInt8) : backL t = t.take (t.length - skipN t.reverse) := by
  unfold backL
  have h := front_drop t.reverse
  unfold frontL at h
  rw [h, List.drop_reverse, List.reverse_reverse]
theorem skip_rev_le (t : List UInt8) : skipN t.reverse ≤ t.length := by have := skip_le t.reverse; simpa using this

/-! ### The pieces, from one action to the next -/
/-- What an action leaves of what was gathered. -/
theorem act_eq (u : Ls) (t : List UInt8) (rem : Bool) (k : Nat) :
    actI u t rem k = if rem then ⟨if leadB t then backL u.t else u.t, u.p, tailB t, u.out⟩
      else ⟨[], u.p, tailB t, textI ⟨if leadB t then backL u.t else u.t, u.p, u.trim, u.out⟩ ++ [⟨2, backL (frontL (withinL t)), k⟩]⟩ := by
  rw [within_eq]
  unfold actI
  cases hl : leadB t with
  | true =>
    simp only [if_true]
    rw [tail_drop t hl]
  | false => simp only [Bool.false_eq_true, if_false]
/-- Alike: the place counts only beside a text. -/
structure Alike (u v : Ls) : Prop where
  t : u.t = v.t
  p : u.t ≠ [] → u.p = v.p
  out : u.out = v.out
theorem Alike.refl (u : Ls) : Alike u u := ⟨rfl, fun _ => rfl, rfl⟩
theorem Alike.text {u v : Ls} (h : Alike u v) : textI u = textI v := by
  unfold textI
  rw [h.t, h.out]
  split
  · rfl
  · rename_i q
    rw [h.p (by rw [h.t]; exact q)]
theorem back_nil : backL [] = [] := rfl
theorem Alike.act {u v : Ls} (h : Alike u v) (t : List UInt8) (rem : Bool) (k : Nat) : Alike (actI u t rem k) (actI v t rem k) ∧ (actI u t rem k).trim = (actI v t rem k).trim := by
  have hb : Alike ⟨if leadB t then backL u.t else u.t, u.p, u.trim, u.out⟩ ⟨if leadB t then backL v.t else v.t, v.p, v.trim, v.out⟩ := by
    refine ⟨by rw [h.t], fun q => h.p ?_, h.out⟩
    intro e
    apply q
    show (if leadB t then backL u.t else u.t) = []
    rw [e]
    split <;> rfl
  rw [act_eq, act_eq]
  cases rem with
  | true => exact ⟨⟨hb.t, hb.p, hb.out⟩, rfl⟩
  | false => exact ⟨⟨rfl, fun q => absurd rfl q, by show textI _ ++ _ = textI _ ++ _; rw [hb.text]⟩, rfl⟩
/-- A text up to the next action, as the code gathers it. -/
def gatherC (u : Ls) (l : List UInt8) (m at_ : Nat) : Ls :=
  ⟨u.t ++ (l.take m).drop (if u.trim then skipN (l.take m) else 0), if u.t = [] then at_ + (if u.trim then skipN (l.take m) else 0) else u.p, false, u.out⟩
theorem gather_alike {u v : Ls} (h : Alike u v) (ht : u.trim = v.trim) (l : List UInt8) (m at_ : Nat) (hm : m ≤ l.length) : Alike (gather u l m at_) (gatherC v l m at_) := by
  have e : (if v.trim then skipN (l.take m) else 0) = (if u.trim then min (skipN l) m else 0) := by rw [ht, skip_take]
  unfold gather gatherC
  rw [e]
  generalize (if u.trim then min (skipN l) m else 0) = a
  split
  · refine ⟨by rw [h.t], fun q => ?_, h.out⟩
    show (if u.t = [] then _ else _) = (if v.t = [] then _ else _)
    rw [h.t]
    split
    · rfl
    · rename_i q2
      exact h.p (by rw [h.t]; exact q2)
  · rename_i hle
    have hnil : (l.take m).drop a = [] := List.drop_of_length_le (by rw [List.length_take]; omega)
    refine ⟨by show u.t = v.t ++ _; rw [hnil, List.append_nil, h.t], fun q => ?_, h.out⟩
    show u.p = (if v.t = [] then _ else _)
    rw [if_neg (by rw [← h.t]; exact q)]
    exact h.p q
/-- The pieces behind a place where {{ begins, or the end. -/
def headF : Nat → Ls → List UInt8 → Nat → Except Nat (List It)
  | 0, _, _, _ => .ok []
  | f + 1, u, l, k => if l.length ≤ k then .ok (textI u) else match innerN (l.drop (k + 2)) with
    | none => .error k
    | some m => headF f (gatherC (actI u ((l.drop (k + 2)).take m) (remB (l.drop (k + 2))) k) (l.drop (k + 2 + m + 2)) (nextN (l.drop (k + 2 + m + 2))) (k + 2 + m + 2)) l (k + 2 + m + 2 + nextN (l.drop (k + 2 + m + 2)))
theorem head_end {f : Nat} {u : Ls} {l : List UInt8} {k : Nat} (h : l.length ≤ k) : headF (f + 1) u l k = .ok (textI u) := by
  unfold headF
  rw [if_pos h]
theorem head_none {f : Nat} {u : Ls} {l : List UInt8} {k : Nat} (h : k < l.length) (hi : innerN (l.drop (k + 2)) = none) : headF (f + 1) u l k = .error k := by
  unfold headF
  rw [if_neg (by omega), hi]
theorem head_some {f : Nat} {u : Ls} {l : List UInt8} {k m : Nat} (h : k < l.length) (hi : innerN (l.drop (k + 2)) = some m) :
    headF (f + 1) u l k = headF f (gatherC (actI u ((l.drop (k + 2)).take m) (remB (l.drop (k + 2))) k) (l.drop (k + 2 + m + 2)) (nextN (l.drop (k + 2 + m + 2))) (k + 2 + m + 2)) l (k + 2 + m + 2 + nextN (l.drop (k + 2 + m + 2))) := by
  conv => lhs; unfold headF
  rw [if_neg (by omega), hi]
theorem items_headF (l : List UInt8) : ∀ (f : Nat) (u v : Ls) (a : Nat), a ≤ l.length → l.length - a < f → Alike u v → u.trim = v.trim →
    itemsF f u (l.drop a) a = headF f (gatherC v (l.drop a) (nextN (l.drop a)) a) l (a + nextN (l.drop a)) := by
  intro f
  induction f with
  | zero => intro u v a _ h; omega
  | succ f ih =>
    intro u v a ha hf hu ht
    have hn := next_le (l.drop a)
    have hg := gather_alike hu ht (l.drop a) (nextN (l.drop a)) a hn
    cases hfd : findL [123, 123] (l.drop a) with
    | none =>
      have e : nextN (l.drop a) = (l.drop a).length := by unfold nextN; rw [hfd]; rfl
      rw [items_last f u _ a hfd]
      rw [e] at hg ⊢
      rw [head_end (by rw [List.length_drop]; omega), hg.text]
    | some n =>
      have e : nextN (l.drop a) = n := by unfold nextN; rw [hfd]; rfl
      have hle := find_le hfd
      rw [List.length_drop] at hle
      simp at hle
      rw [e] at hg ⊢
      have ed : (l.drop a).drop (n + 2) = l.drop (a + n + 2) := by rw [List.drop_drop]; congr 1
      cases hi : innerN (l.drop (a + n + 2)) with
      | none =>
        rw [head_none (by omega) hi]
        unfold itemsF
        rw [hfd]
        simp only [ed, hi]
      | some m =>
        have hm := (inner_le _ _ hi).1
        rw [List.length_drop] at hm
        rw [items_act f u _ a n m hfd (by rw [ed]; exact hi), head_some (by omega) hi, ed]
        have ed2 : (l.drop a).drop (n + 2 + m + 2) = l.drop (a + n + 2 + m + 2) := by rw [List.drop_drop]; congr 1; omega
        rw [ed2]
        obtain ⟨h1, h2⟩ := hg.act ((l.drop (a + n + 2)).take m) (remB (l.drop (a + n + 2))) (a + n)
        exact ih _ _ _ (by omega) (by omega) h1 h2
theorem items_head (l : List UInt8) : itemsL l = headF (l.length + 1) (gatherC ⟨[], 0, false, []⟩ l (nextN l) 0) l (nextN l) := by
  have h := items_headF l (l.length + 1) ⟨[], 0, false, []⟩ ⟨[], 0, false, []⟩ 0 (Nat.zero_le _) (by omega) (Alike.refl _) rfl
  rw [List.drop_zero, Nat.zero_add] at h
  exact h
theorem next_brace (l : List UInt8) (k : Nat) (h : nextN (l.drop k) + k < l.length) : k + nextN (l.drop k) + 2 ≤ l.length := by
  unfold nextN at h ⊢
  cases hf : findL [123, 123] (l.drop k) with
  | none =>
    rw [hf] at h
    simp at h
    omega
  | some n =>
    have := find_le hf
    rw [List.length_drop] at this
    simp at this
    show k + n + 2 ≤ _
    omega
end Go.Proofs.YtmccbcficbbidaaGreatDoor.Lex

/-
  Contracts of the page's answers on what an octet is: a letter, a digit; they change nothing.
-/
namespace Go.Proofs.YtmccbcficbbidaaGreatDoor.Oct
open Go.RowKit

theorem rletter_c (n : Int) (w : World) (h0 : 0 ≤ n) (h1 : n ≤ 255) :
    Calls Tryz.prog 67 #[.int .u8 n] w fun e w' => e = .returned (.bool (letterI n)) ∧ w = w' := by
  go_enter Tryz.func67, Tryz.ntmps67
  go_wp2
  all_goals go_ret
  all_goals (refine ⟨ret_bool ?_, rfl⟩; rw [Bool.eq_iff_iff]; simp [letterI]; try omega)

theorem rdigit_c (n : Int) (w : World) (h0 : 0 ≤ n) (h1 : n ≤ 255) :
    Calls Tryz.prog 68 #[.int .u8 n] w fun e w' => e = .returned (.bool (digitI n)) ∧ w = w' := by
  go_enter Tryz.func68, Tryz.ntmps68
  go_wp2
  all_goals go_ret
  all_goals (refine ⟨ret_bool ?_, rfl⟩; rw [Bool.eq_iff_iff]; simp [digitI]; try omega)
end Go.Proofs.YtmccbcficbbidaaGreatDoor.Oct

/-
  Contracts of the leaves of package octets and of the page's answers on octets: each is called at any octet and changes nothing.
-/
namespace Go.Proofs.YtmccbcficbbidaaGreatDoor.Oct
open Go.RowKit

theorem blank_c (n : Int) (w : World) :
    Calls Tryz.prog 104 #[.int .u8 n] w fun e w' => e = .returned (.bool (blankI n)) ∧ w = w' := by
  go_enter Tryz.func104, Tryz.ntmps104
  go_wp2
  all_goals go_ret
  all_goals (refine ⟨ret_bool ?_, rfl⟩; rw [Bool.eq_iff_iff]; simp [blankI]; try (first | omega | (simp only [beq_iff_eq, beq_eq_false_iff_ne] at *; omega)))

theorem rblank_c (n : Int) (w : World) (h0 : 0 ≤ n) (h1 : n ≤ 255) :
    Calls Tryz.prog 90 #[.int .u8 n] w fun e w' => e = .returned (.bool (blankI n)) ∧ w = w' := by
  go_enter Tryz.func90, Tryz.ntmps90
  go_wp2
  all_goals go_ret
  all_goals (refine ⟨ret_bool ?_, rfl⟩; rw [Bool.eq_iff_iff]; simp [blankI]; try omega)

theorem within_c (n a b : Int) (w : World) :
    Calls Tryz.prog 98 #[.int .u8 n, .int .u8 a, .int .u8 b] w fun e w' => e = .returned (.bool (decide (a ≤ n ∧ n ≤ b))) ∧ w = w' := by
  go_enter Tryz.func98, Tryz.ntmps98
  go_wp2
  all_goals go_ret
  all_goals (refine ⟨ret_bool ?_, rfl⟩; simp; try omega)

theorem letter_c (n : Int) (w : World) (h0 : 0 ≤ n) (h1 : n ≤ 255) :
    Calls Tryz.prog 105 #[.int .u8 n] w fun e w' => e = .returned (.bool (letterI n)) ∧ w = w' := by
  go_enter Tryz.func105, Tryz.ntmps105
  go_wp2
  all_goals go_ret
  all_goals (refine ⟨ret_bool ?_, rfl⟩; rw [Bool.eq_iff_iff]; simp [letterI]; try omega)

theorem inName_c (n : Int) (w : World) (h0 : 0 ≤ n) (h1 : n ≤ 255) :
    Calls Tryz.prog 101 #[.int .u8 n] w fun e w' => e = .returned (.bool (nameI n)) ∧ w = w' := by
  go_enter Tryz.func101, Tryz.ntmps101
  go_wp2
  all_goals go_ret
  all_goals (refine ⟨ret_bool ?_, rfl⟩; rw [Bool.eq_iff_iff]; simp [nameI]; try omega)

end Go.Proofs.YtmccbcficbbidaaGreatDoor.Oct

/-
  Contracts of octets.first, none and made, at whatever function value that is handed in, and of digitValue.
-/
namespace Go.Proofs.YtmccbcficbbidaaGreatDoor.Oct
open Go.RowKit

/-- The first place below n that is wanted, or n. -/
def firstOf (p : Nat → Bool) : Nat → Nat → Nat
  | _, 0 => 0
  | k, n + 1 => if p k then 0 else firstOf p (k + 1) n + 1

theorem firstOf_le (p : Nat → Bool) (k n : Nat) : firstOf p k n ≤ n := by
  induction n generalizing k with
  | zero => simp [firstOf]
  | succ n ih => have := ih (k + 1); unfold firstOf; split <;> omega

theorem firstOf_hit (p : Nat → Bool) (k n j : Nat) (hj : j < n) (hp : p (k + j) = true) (hn : ∀ i, i < j → p (k + i) = false) : firstOf p k n = j := by
  induction n generalizing k j with
  | zero => omega
  | succ n ih =>
    unfold firstOf
    cases j with
    | zero => rw [if_pos (by simpa using hp)]
    | succ j =>
      have h0 : p k = false := by simpa using hn 0 (by omega)
      rw [h0, if_neg (by simp), ih (k + 1) j (by omega) (by rw [← hp]; congr 1; omega) (fun i hi => by rw [← hn (i + 1) (by omega)]; congr 1; omega)]

theorem firstOf_miss (p : Nat → Bool) (k n : Nat) (hn : ∀ i, i < n → p (k + i) = false) : firstOf p k n = n := by
  induction n generalizing k with
  | zero => rfl
  | succ n ih =>
    unfold firstOf
    have h0 : p k = false := by simpa using hn 0 (by omega)
    rw [h0, if_neg (by simp), ih (k + 1) (fun i hi => by rw [← hn (i + 1) (by omega)]; congr 1; omega)]

/-- What is asked of a function value that tells of a place whether it is wanted: in every world in which all that lay in w lies unturned, and it leaves such a world again. -/
def Wants (g : Nat) (lb : Array Value) (p : Nat → Bool) (n : Nat) (w : World) : Prop :=
  ∀ (k : Nat) (W : World), k < n → Below w.heap.size w W → Calls Tryz.prog g (#[.int .i64 (k : Int)] ++ lb) W fun e w' => e = .returned (.bool (p k)) ∧ Below w.heap.size w w'

set_option maxHeartbeats 1000000 in
theorem first_c (n : Nat) (g : Nat) (lb : Array Value) (p : Nat → Bool) (w : World) (hn : n ≤ 9223372036854775807)
    (eg : ∀ args w, (callFunc g args).run Tryz.prog w = .ok (.enter g args) w) (hp : Wants g lb p n w) :
    Calls Tryz.prog 118 #[.int .i64 (n : Int), .func (.func g) #[] lb] w fun e w' => e = .returned (.int .i64 (firstOf p 0 n : Nat)) ∧ Below w.heap.size w w' := by
  go_enter Tryz.func118, Tryz.ntmps118
  go_wp2
  go_loopw [5, 7] (fun _ i wr => ∃ k : Nat, k ≤ n ∧ i = .int .i64 k ∧ Hid (∀ i, i < k → p i = false) ∧ Hid (Below w.heap.size w wr)) (fun _ i _ => n - (intOf i).toNat)
  case atStart => exact ⟨0, Nat.zero_le _, rfl, fun i hi => absurd hi (Nat.not_lt_zero _), Below.refl _ _⟩
  case round =>
    obtain ⟨k, hk, rfl, hno, hbel⟩ := hrel
    by_cases hlt : k < n
    · have hcall := hp k wr hlt hbel.out
      cases hq : p k with
      | true =>
        rw [hq] at hcall
        go_wp2_with (go_at_fn g; refine hcall.mono ?_; rintro e w' ⟨rfl, hb'⟩)
        go_ret
        exact ⟨ret_int (by rw [firstOf_hit p 0 n k hlt (by simpa using hq) (fun i hi => by simpa using hno.out i hi)]), hb'⟩
      | false =>
        rw [hq] at hcall
        go_wp2_with (go_at_fn g; refine hcall.mono ?_; rintro e w' ⟨rfl, hb'⟩)
        go_roundw
        case rel =>
          refine ⟨k + 1, by omega, by go_num, fun i hi => ?_, hb'⟩
          by_cases e : i = k
          · rw [e]; exact hq
          · exact hno.out i (by omega)
        case measure => simp [intOf]; omega
    · go_wp2
      go_ret
      have : k = n := by omega
      subst this
      exact ⟨ret_int (by rw [firstOf_miss p 0 k (fun i hi => by simpa using hno.out i hi)]), hbel.out⟩

end Go.Proofs.YtmccbcficbbidaaGreatDoor.Oct

/-
  Contract of octets.made, at whatever function value that is handed in: the text of the octets that it tells of the places.
-/
namespace Go.Proofs.YtmccbcficbbidaaGreatDoor.Oct
open Go.RowKit

theorem info_u8 : (Tryz.prog.info? 5).map (fun i => (i.zero, i.size, i.bytes)) = some (some (.int .u8 0), 1, 1) := by kernel_rfl

/-- What is asked of a function value that tells the octet of a place. -/
def Makes (g : Nat) (lb : Array Value) (f : Nat → UInt8) (n : Nat) (w : World) : Prop :=
  ∀ (k : Nat) (W : World), k < n → Below w.heap.size w W → Calls Tryz.prog g (#[.int .i64 (k : Int)] ++ lb) W fun e w' => e = .returned (.int .u8 ((f k).toNat : Int)) ∧ W = w'

/-- The cells behind k rounds. -/
def madeAt (f : Nat → UInt8) (n k : Nat) : List Value := (List.range k).map (fun j => Value.int .u8 ((f j).toNat : Int)) ++ List.replicate (n - k) (Value.int .u8 0)

theorem madeAt_zero (f : Nat → UInt8) (n : Nat) : madeAt f n 0 = List.replicate n (Value.int .u8 0) := by simp [madeAt]
theorem madeAt_succ (f : Nat → UInt8) (n k : Nat) (h : k < n) : (madeAt f n k).set k (Value.int .u8 ((f k).toNat : Int)) = madeAt f n (k + 1) := by
  unfold madeAt
  have e : n - k = (n - (k + 1)) + 1 := by omega
  rw [e, List.replicate_succ, List.set_append_right _ _ (by simp)]
  simp [List.range_succ]
theorem madeAt_at (f : Nat → UInt8) (n k : Nat) (h : k < n) : (madeAt f n k)[k]? = some (Value.int .u8 0) := by
  unfold madeAt
  rw [List.getElem?_append_right (by simp), List.length_map, List.length_range, Nat.sub_self, List.getElem?_replicate, if_pos (by omega)]
theorem madeAt_full (f : Nat → UInt8) (n j : Nat) (h : j < n) : (madeAt f n n)[j]? = some (Value.int .u8 ((f j).toNat : Int)) := by
  simp [madeAt, h]

end Go.Proofs.YtmccbcficbbidaaGreatDoor.Oct

/-
  Contracts of octets.none, digitValue, Lower, Upper, Name, Starts, Trim.
-/
namespace Go.Proofs.YtmccbcficbbidaaGreatDoor.Oct
open Go.RowKit

theorem none_c (n : Nat) (g : Nat) (lb : Array Value) (p : Nat → Bool) (w : World) (hn : n ≤ 9223372036854775807)
    (eg : ∀ args w, (callFunc g args).run Tryz.prog w = .ok (.enter g args) w) (hp : Wants g lb p n w) :
    Calls Tryz.prog 99 #[.int .i64 (n : Int), .func (.func g) #[] lb] w fun e w' => e = .returned (.bool (firstOf p 0 n == n)) ∧ Below w.heap.size w w' := by
  have hle := firstOf_le p 0 n
  go_enter Tryz.func99, Tryz.ntmps99
  go_wp2_with (go_at_call 118; refine (first_c n g lb p _ hn eg hp).mono ?_; rintro e w' ⟨rfl, hb'⟩)
  go_ret
  refine ⟨ret_bool ?_, hb'⟩
  rw [Bool.eq_iff_iff]; simp; omega

theorem digit_table : ∀ k : Fin 256, Lib.indexByte [48, 49, 50, 51, 52, 53, 54, 55, 56, 57, 97, 98, 99, 100, 101, 102] (lowI (k.val : Int)).toNat.toUInt8 = hexI (k.val : Int) := by decide +kernel

end Go.Proofs.YtmccbcficbbidaaGreatDoor.Oct

/-
  Contracts of octets.Name, Starts, Trim, as plain functions of lists of octets.
-/
namespace Go.Proofs.YtmccbcficbbidaaGreatDoor.Oct
open Go.RowKit

theorem firstOf_all (p : Nat → Bool) (n : Nat) : (firstOf p 0 n == n) = (List.range n).all (fun k => !p k) := by
  rw [Bool.eq_iff_iff, List.all_eq_true]
  simp only [beq_iff_eq, List.mem_range, Bool.not_eq_true']
  constructor
  · intro h k hk
    rcases hq : p k with _ | _
    · rfl
    · exfalso
      -- the first place that is wanted is at most k
      have : ∀ (m k' : Nat), k' < m → ∀ a, p (a + k') = true → firstOf p a m < m := by
        intro m
        induction m with
        | zero => intro k' h'; omega
        | succ m ih =>
          intro k' h' a hp
          unfold firstOf
          split
          · omega
          · cases k' with
            | zero => simp_all
            | succ k' => have := ih k' (by omega) (a + 1) (by rw [← hp]; congr 1; omega); omega
      have := this n k hk 0 (by simpa using hq)
      omega
  · intro h
    exact firstOf_miss p 0 n (fun i hi => by simpa using h i hi)


theorem enter_name : ∀ args w, (callFunc 100 args).run Tryz.prog w = .ok (.enter 100 args) w := enters_of Tryz.func100 (by kernel_rfl) rfl
theorem name1_c (s : ByteArray) (k b : Nat) (w : World) (hk : k < s.size) (hc : w.cell? ⟨b, 0, none⟩ = some (.string s)) :
    Calls Tryz.prog 100 #[.int .i64 (k : Int), .pointer (some ⟨b, 0, none⟩)] w fun e w' => e = .returned (.bool (!nameI ((at' s k).toNat : Int))) ∧ w = w' := by
  have hb : (s[k].toNat : Int) ≤ 255 := by have := s[k].toNat_lt; omega
  have E : Hid ((at' s k) = s[k]) := (at_eq s k hk).symm
  go_enter Tryz.func100, Tryz.ntmps100
  go_wp2_with (go_at_call 101; refine (inName_c _ _ (by omega) (by omega)).mono ?_; rintro e w' ⟨rfl, rfl⟩)
  go_ret
  exact ⟨ret_bool (by rw [E.out]), rfl⟩

theorem quiet_same {P : Program} {f : FuncId} {args : Array Value} {w : World} {n : Nat} {v : Value}
    (h : Calls P f args (w.drewN n) fun e w' => e = .returned v ∧ w.drewN n = w') : Calls P f args (w.drewN n) fun e w'' => e = .returned v ∧ ∃ m, w'' = w.drewN m :=
  h.mono fun _ _ ⟨he, hm⟩ => ⟨he, n, hm.symm⟩

end Go.Proofs.YtmccbcficbbidaaGreatDoor.Oct
