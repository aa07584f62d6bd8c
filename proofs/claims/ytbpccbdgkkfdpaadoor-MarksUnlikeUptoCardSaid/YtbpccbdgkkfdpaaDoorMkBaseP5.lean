/-
  Part 5: TabCode, BuildText, PgOct, OctLeaves, OctFirst, OctMade, OctTexts.
-/
import Derived.Test.YtbpccbdgkkfdpaaDoorMkBaseP1
import Derived.Test.YtbpccbdgkkfdpaaDoorMkBaseP4
import Derived.OwnWalk
import Derived.ProofKit
import Derived.Test.YtbpccbdgkkfdpaaDoorProg
import Derived.Lib.OthersKept
import Derived.Lib.Hide
import Derived.Deep.RegionWith
import Derived.Laws.IdiomStrings
/-
  Contracts of package tables: specials, Element, Elements, Attribute, Void, and of the closures that they look by.
-/
namespace Go.Proofs.YtbpccbdgkkfdpaaDoor.Tab
open Go.RowKit Go.Proofs.YtbpccbdgkkfdpaaDoor.Oct

/-! ### The row of elements -/
/-- The elements of 1 to 4 as they lie in a block: two cells each, a name and a kind. -/
def Specs (g : Nat) (w : World) : Prop := ∀ j, (h : j < elsL.length) → w.cell? ⟨g, j * 2, none⟩ = some (.string (S elsL[j])) ∧ w.cell? ⟨g, j * 2 + 1, none⟩ = some (.int .i64 (codeN j : Nat))
theorem Specs.kept {g : Nat} {w w' : World} (h : Specs g w) (hb : Below w.heap.size w w') : Specs g w' := fun j hj =>
  ⟨(hb.cell (World.block_lt_of_cell? w _ (h j hj).1)).trans (h j hj).1, (hb.cell (World.block_lt_of_cell? w _ (h j hj).2)).trans (h j hj).2⟩
abbrev specA : Array Value := (((List.range 10).zip elsL).flatMap fun p => [Value.string (S p.2), Value.int .i64 (codeN p.1 : Nat)]).toArray
/-! ### Element -/
def placeI (s : List UInt8) : Int := match placeL s elsL with
  | some k => (k : Nat)
  | none => -1
theorem place_lt {s : List UInt8} : ∀ {l : List (List UInt8)} {k : Nat}, placeL s l = some k → k < l.length
  | [], k, h => by cases h
  | x :: r, k, h => by
    unfold placeL at h
    split at h
    · cases h; simp
    · cases hp : placeL s r with
      | none => rw [hp] at h; cases h
      | some m =>
        rw [hp] at h
        cases h
        have := place_lt hp
        simp only [List.length_cons]
        omega
/-! ### Void -/
/-! ### Attribute -/
theorem is_c (ls : List (List UInt8)) (hl : ls.length ≤ 1000) (s : List UInt8) (g cap b : Nat) (w : World) (ht : Texts g ls w) (hb : w.cell? ⟨b, 0, none⟩ = some (.string (S s))) :
    Calls Tryd.prog 84 #[.slice (some ⟨g, 0, none⟩) ls.length cap, .pointer (some ⟨b, 0, none⟩)] w fun e w' => e = .returned (.bool (inL ls s)) ∧ w = w' := by
  have hc := Tryd.slices_Contains_string g 0 ls.length cap (ls.map S) (S s) w (by simp) (by omega) (fun j hj => by
    have hj2 : j < ls.length := by simpa using hj
    rw [Nat.zero_add, ht j hj2, List.getD_eq_getElem?_getD, List.getElem?_map, List.getElem?_eq_getElem hj2]
    rfl)
  have e : Lib.containsS ((ls.map S).take ls.length) (S s) = inL ls s := by
    rw [List.take_of_length_le (by simp), Bool.eq_iff_iff, Lib.containsS_iff]
    unfold inL
    rw [decide_eq_true_eq, List.mem_map]
    constructor
    · rintro ⟨x, hx, hxs⟩
      have : x = s := by
        have h2 := congrArg (fun t : ByteArray => t.data.toList) hxs
        simpa using h2
      exact this ▸ hx
    · exact fun h => ⟨s, h, rfl⟩
  rw [e] at hc
  generalize inL ls s = ans at hc ⊢
  generalize S s = T at hc hb
  clear ht e hl
  generalize ls.length = n at hc ⊢
  go_enter Tryd.func84, Tryd.ntmps84
  go_wp2_with (go_at_call 85; refine hc.mono ?_; rintro e w' ⟨rfl, rfl⟩)
  go_ret
  exact ⟨rfl, rfl⟩
theorem begins_c (p s : List UInt8) (b : Nat) (w : World) (hb : w.cell? ⟨b, 0, none⟩ = some (.string (S s))) :
    Calls Tryd.prog 86 #[.string (S p), .pointer (some ⟨b, 0, none⟩)] w fun e w' => e = .returned (.bool (preL p s)) ∧ w = w' := by
  have hc := Tryd.strings_HasPrefix (S s) (S p) w
  have e : Lib.hasPrefix (S s).data.toList (S p).data.toList = preL p s := by
    rw [list_S, list_S]
    unfold Lib.hasPrefix preL
    rw [Bool.eq_iff_iff, List.isPrefixOf_iff_prefix, decide_eq_true_eq]
  rw [e] at hc
  generalize preL p s = ans at hc ⊢
  generalize S s = T at hc hb
  generalize S p = P at hc ⊢
  clear e
  go_enter Tryd.func86, Tryd.ntmps86
  go_wp2_with (go_at_call 73; refine hc.mono ?_; rintro e w' ⟨rfl, rfl⟩)
  go_ret
  exact ⟨rfl, rfl⟩
theorem enter_is : ∀ args w, (callFunc 84 args).run Tryd.prog w = .ok (.enter 84 args) w := enters_of Tryd.func84 (by kernel_rfl) rfl
theorem enter_begins : ∀ args w, (callFunc 86 args).run Tryd.prog w = .ok (.enter 86 args) w := enters_of Tryd.func86 (by kernel_rfl) rfl
/-- The closure asked of a list that was laid for it: the world behind is one in which the box still reads the same. -/
theorem asked_c (ls : List (List UInt8)) (hl : ls.length ≤ 1000) (s : List UInt8) (b n : Nat) (w W : World) (hw : Hid (Below w.heap.size w W)) (hb : Hid (W.cell? ⟨b, 0, none⟩ = some (.string (S s)))) (hn : W.heap.size = n) :
    Calls Tryd.prog 84 #[.slice (some ⟨n, 0, none⟩) ls.length ls.length, .pointer (some ⟨b, 0, none⟩)] (W.alloc (.cells (ls.map (fun l => Value.string (S l))).toArray 9))
      fun e w' => e = .returned (.bool (inL ls s)) ∧ Hid (Below w.heap.size w w') ∧ Hid (w'.cell? ⟨b, 0, none⟩ = some (.string (S s))) := by
  subst hn
  have hlt := World.block_lt_of_cell? W _ hb.out
  refine (is_c ls hl s W.heap.size ls.length b _ (laid_texts ls W) (by rw [World.cell?_alloc_past _ _ _ hlt]; exact hb.out)).mono ?_
  rintro e w' ⟨rfl, rfl⟩
  exact ⟨rfl, hw.out.trans ((Below.refl _ W).alloc (Nat.le_refl _) _ |>.mono hw.out.size), by show _ = _; rw [World.cell?_alloc_past _ _ _ hlt]; exact hb.out⟩
abbrev noneL : List (List UInt8) := [] :: nosL
set_option maxHeartbeats 4000000 in
set_option maxRecDepth 100000 in
theorem attribute_c (elem attr : List UInt8) (w : World) :
    Calls Tryd.prog 74 #[.string (S elem), .string (S attr)] w fun e w' => e = .returned (.int .i64 (attrN elem attr : Nat)) ∧ Below w.heap.size w w' := by
  have E : Hid (attrN elem attr = if inL urlsL attr = true ∨ (inL [dataL] attr = true ∧ decide (elem = objectL) = true) then 1 else if preL onL attr = true then 2 else if inL [styleL] attr = true then 3
    else if inL noneL attr = true ∨ preL xmlnsL attr = true then 4 else 0) := by
    show _ = _
    unfold attrN inL noneL nosL
    simp only [decide_eq_true_eq, List.mem_cons, List.not_mem_nil, or_false, or_assoc]
  have e3 : ((S elem).toList == [111, 98, 106, 101, 99, 116]) = decide (elem = objectL) := eqTL elem objectL
  have hc0 : Hid ((w.alloc (.cells #[.string (S attr)] 9)).cell? ⟨w.heap.size, 0, none⟩ = some (.string (S attr))) := by show _ = _; simp
  have hw0 : Hid (Below w.heap.size w (w.alloc (.cells #[.string (S attr)] 9))) := (Below.refl _ w).alloc (Nat.le_refl _) _
  have q1 := asked_c urlsL (by decide) attr w.heap.size (w.heap.size + 1) w _ hw0 hc0 (by simp)
  have q2 := fun W h1 h2 => asked_c [dataL] (by decide) attr w.heap.size W.heap.size w W h1 h2 rfl
  have q5 := fun W h1 h2 => asked_c [styleL] (by decide) attr w.heap.size W.heap.size w W h1 h2 rfl
  have q6 := fun W h1 h2 => asked_c noneL (by decide) attr w.heap.size W.heap.size w W h1 h2 rfl
  have p4 := fun W h => begins_c onL attr w.heap.size W h
  have p7 := fun W h => begins_c xmlnsL attr w.heap.size W h
  have ei := enter_is
  have eb := enter_begins
  generalize inL urlsL attr = b1 at q1 E
  generalize inL [dataL] attr = b2 at q2 E
  generalize decide (elem = objectL) = b3 at e3 E
  generalize preL onL attr = b4 at p4 E
  generalize inL [styleL] attr = b5 at q5 E
  generalize inL noneL attr = b6 at q6 E
  generalize preL xmlnsL attr = b7 at p7 E
  generalize attrN elem attr = ans at E ⊢
  generalize S elem = U at e3 ⊢
  generalize S attr = T at q1 q2 q5 q6 p4 p7 hc0 hw0 ⊢
  have Q2 := Lib.hid q2
  have Q5 := Lib.hid q5
  have Q6 := Lib.hid q6
  have P4 := Lib.hid p4
  have P7 := Lib.hid p7
  clear q2 q5 q6 p4 p7 hc0 hw0
  go_enter Tryd.func74, Tryd.ntmps74
  have q := q1
  clear q1
  cases b1 with
  | true =>
    go_wp2_with (go_at_fn 84; refine q.mono ?_; rintro e w1 ⟨rfl, HB, HC⟩; clear q)
    go_ret
    exact ⟨ret_int (by rw [E.out]; rfl), HB.out⟩
  | false =>
    go_wp2_with (go_at_fn 84; refine q.mono ?_; rintro e w1 ⟨rfl, HB, HC⟩; clear q)
    have q := Q2.out w1 HB HC
    cases b2 with
    | false =>
      go_wp2_with (go_at_fn 84; refine q.mono ?_; rintro e w2 ⟨rfl, HB2, HC2⟩; clear q)
      have q := P4.out w2 HC2.out
      cases b4 with
      | true =>
        go_wp2_with (go_at_fn 86; refine q.mono ?_; rintro e v ⟨rfl, rfl⟩; clear q)
        go_ret
        exact ⟨ret_int (by rw [E.out]; rfl), HB2.out⟩
      | false =>
        go_wp2_with (go_at_fn 86; refine q.mono ?_; rintro e v ⟨rfl, rfl⟩; clear q)
        have q := Q5.out w2 HB2 HC2
        cases b5 with
        | true =>
          go_wp2_with (go_at_fn 84; refine q.mono ?_; rintro e w5 ⟨rfl, HB5, HC5⟩; clear q)
          go_ret
          exact ⟨ret_int (by rw [E.out]; rfl), HB5.out⟩
        | false =>
          go_wp2_with (go_at_fn 84; refine q.mono ?_; rintro e w5 ⟨rfl, HB5, HC5⟩; clear q)
          have q := Q6.out w5 HB5 HC5
          cases b6 with
          | true =>
            go_wp2_with (go_at_fn 84; refine q.mono ?_; rintro e w6 ⟨rfl, HB6, HC6⟩; clear q)
            go_ret
            exact ⟨ret_int (by rw [E.out]; rfl), HB6.out⟩
          | false =>
            go_wp2_with (go_at_fn 84; refine q.mono ?_; rintro e w6 ⟨rfl, HB6, HC6⟩; clear q)
            have q := P7.out w6 HC6.out
            cases b7 with
            | true =>
              go_wp2_with (go_at_fn 86; refine q.mono ?_; rintro e v ⟨rfl, rfl⟩; clear q)
              go_ret
              exact ⟨ret_int (by rw [E.out]; rfl), HB6.out⟩
            | false =>
              go_wp2_with (go_at_fn 86; refine q.mono ?_; rintro e v ⟨rfl, rfl⟩; clear q)
              go_ret
              exact ⟨ret_int (by rw [E.out]; rfl), HB6.out⟩
    | true =>
      cases b3 with
      | true =>
        go_wp2_with (go_at_fn 84; refine q.mono ?_; rintro e w2 ⟨rfl, HB2, HC2⟩; clear q)
        go_ret
        exact ⟨ret_int (by rw [E.out]; rfl), HB2.out⟩
      | false =>
        go_wp2_with (go_at_fn 84; refine q.mono ?_; rintro e w2 ⟨rfl, HB2, HC2⟩; clear q)
        have q := P4.out w2 HC2.out
        cases b4 with
        | true =>
          go_wp2_with (go_at_fn 86; refine q.mono ?_; rintro e v ⟨rfl, rfl⟩; clear q)
          go_ret
          exact ⟨ret_int (by rw [E.out]; rfl), HB2.out⟩
        | false =>
          go_wp2_with (go_at_fn 86; refine q.mono ?_; rintro e v ⟨rfl, rfl⟩; clear q)
          have q := Q5.out w2 HB2 HC2
          cases b5 with
          | true =>
            go_wp2_with (go_at_fn 84; refine q.mono ?_; rintro e w5 ⟨rfl, HB5, HC5⟩; clear q)
            go_ret
            exact ⟨ret_int (by rw [E.out]; rfl), HB5.out⟩
          | false =>
            go_wp2_with (go_at_fn 84; refine q.mono ?_; rintro e w5 ⟨rfl, HB5, HC5⟩; clear q)
            have q := Q6.out w5 HB5 HC5
            cases b6 with
            | true =>
              go_wp2_with (go_at_fn 84; refine q.mono ?_; rintro e w6 ⟨rfl, HB6, HC6⟩; clear q)
              go_ret
              exact ⟨ret_int (by rw [E.out]; rfl), HB6.out⟩
            | false =>
              go_wp2_with (go_at_fn 84; refine q.mono ?_; rintro e w6 ⟨rfl, HB6, HC6⟩; clear q)
              have q := P7.out w6 HC6.out
              cases b7 with
              | true =>
                go_wp2_with (go_at_fn 86; refine q.mono ?_; rintro e v ⟨rfl, rfl⟩; clear q)
                go_ret
                exact ⟨ret_int (by rw [E.out]; rfl), HB6.out⟩
              | false =>
                go_wp2_with (go_at_fn 86; refine q.mono ?_; rintro e v ⟨rfl, rfl⟩; clear q)
                go_ret
                exact ⟨ret_int (by rw [E.out]; rfl), HB6.out⟩
end Go.Proofs.YtbpccbdgkkfdpaaDoor.Tab

/-
  Contracts of strings.Builder's copyCheck and WriteString over this translation: a builder in a block of its own takes a text; every block that is neither its own nor a row of octets stays as it was.
-/
namespace Go.Proofs.YtbpccbdgkkfdpaaDoor.Build
open Go.RowKit Go.Proofs.YtbpccbdgkkfdpaaDoor.Oct

theorem size_b : (Tryd.prog.info? 60).map (·.size) = some 2 := by kernel_rfl
theorem lies_b : liesAt Tryd.prog Tryd.prog.depth 60 (2 / Tryd.prog.cellsOf 60) 0 60 1 = true := by kernel_rfl
theorem info_o : (Tryd.prog.info? 5).map (fun i => (i.zero, i.size, i.bytes)) = some (some (.int .u8 0), 1, 1) := by kernel_rfl

set_option maxHeartbeats 2000000 in
set_option maxRecDepth 100000 in
theorem check_used (b : Nat) (w : World) (h0 : w.cell? ⟨b, 0, none⟩ = some (.pointer (some ⟨b, 0, none⟩))) :
    Calls Tryd.prog 55 #[.pointer (some ⟨b, 0, none⟩)] w fun e w' => e = .returned (.tuple #[]) ∧ w' = w := by
  obtain ⟨j, hj, _⟩ := Option.map_eq_some_iff.1 size_b
  have he := Lib.run_neq_ptr_same w ⟨b, 0, none⟩ Tryd.underlying58 hj
  go_enter Tryd.func55, Tryd.ntmps55
  go_wp2
  go_end0
  exact ⟨rfl, rfl⟩

set_option maxHeartbeats 2000000 in
set_option maxRecDepth 100000 in
theorem check_fresh (b : Nat) (w : World) (h0 : w.cell? ⟨b, 0, none⟩ = some (.pointer none)) (hsh : w.shape? b = some (60, 2)) (hfz : w.frozen? ⟨b, 0, none⟩ = false) :
    Calls Tryd.prog 55 #[.pointer (some ⟨b, 0, none⟩)] w fun e w' => e = .returned (.tuple #[]) ∧ w' = w.setCell ⟨b, 0, none⟩ (.pointer (some ⟨b, 0, none⟩)) := by
  obtain ⟨j, hj, hjs⟩ := Option.map_eq_some_iff.1 size_b
  go_enter Tryd.func55, Tryd.ntmps55
  go_wp2
  rw [Lib.run_to_unsafe w ⟨b, 0, none⟩ Tryd.underlying58 Tryd.underlying100 hj (by rw [hjs]; decide) hsh (Nat.zero_lt_succ 1)]
  simp only [Result.andThen]
  rw [Oper.upon_value]
  go_wp2
  rw [run_callFunc_extern Tryd.func71 (by kernel_rfl) (by kernel_rfl) (by kernel_rfl) (e := Extern.AbiNoEscape.same) (by kernel_rfl)]
  rw [Lib.run_noEscape]
  simp only [Result.andThen]
  rw [Oper.upon_value]
  go_wp2
  rw [Lib.run_from_unsafe w ⟨b, 0, none⟩ Tryd.underlying100 Tryd.underlying58 hj hsh lies_b]
  simp only [Result.andThen]
  rw [Oper.upon_value]
  go_wp2
  go_end0
  exact ⟨rfl, rfl⟩

/-- A builder in block b, of the call's own from B on, that holds these octets. -/
abbrev Is (B b : Nat) (l : List Value) (w : World) : Prop := Lib.IsBuilder 60 5 B b l w
/-- Every block but b and but rows of octets. -/
abbrev Others (b : Nat) (w w' : World) : Prop := Lib.OthersKept 5 (some b) w w'

theorem check_c (B b : Nat) (l : List Value) (w : World) (h : Is B b l w) :
    Calls Tryd.prog 55 #[.pointer (some ⟨b, 0, none⟩)] w fun e w' => e = .returned (.tuple #[]) ∧ Lib.BuilderAt 60 5 B b (.pointer (some ⟨b, 0, none⟩)) l w' ∧ Below B w w' ∧ Others b w w' := by
  rcases h with h | h
  · refine (check_fresh b w h.cell0 h.shape h.frozen0).mono ?_
    rintro e w' ⟨rfl, rfl⟩
    exact ⟨rfl, h.used _, (Below.refl B w).setCell (p := ⟨b, 0, none⟩) h.1 _, (Lib.OthersKept.refl _ _ w).setCell ⟨b, 0, none⟩ rfl _⟩
  · refine (check_used b w h.cell0).mono ?_
    rintro e w' ⟨rfl, rfl⟩
    exact ⟨rfl, h, Below.refl B _, Lib.OthersKept.refl _ _ _⟩

set_option maxHeartbeats 2000000 in
set_option maxRecDepth 100000 in
theorem write_c (B b : Nat) (l : List Value) (s : ByteArray) (w : World) (h : Is B b l w) (hlen : l.length + s.size ≤ 140737488355328) (hBw : B ≤ w.heap.size) :
    Calls Tryd.prog 33 #[.pointer (some ⟨b, 0, none⟩), .string s] w fun e w' => e = .returned (.tuple #[.int .i64 s.size, .nilIface]) ∧ Is B b (l ++ Lib.strCells s) w' ∧ Below B w w' ∧ Others b w w' := by
  obtain ⟨i0, hi, hz0, hz1, hz2⟩ := info_parts info_o
  have e42 : ∀ args w, (callFunc 55 args).run Tryd.prog w = .ok (.enter 55 args) w := enters_of Tryd.func55 (by kernel_rfl) rfl
  go_enter Tryd.func33, Tryd.ntmps33
  go_wp2_with (go_at_fn 55; refine (check_c B b l _ h).mono ?_)
  rintro e w1 ⟨rfl, h1, hb1, hk1⟩
  obtain ⟨hB, v, hbk, hown, hne⟩ := h1
  have c0 : w1.cell? ⟨b, 0, none⟩ = some (.pointer (some ⟨b, 0, none⟩)) := by rw [Lib.cell_of_heap hbk]; rfl
  have c1 : w1.cell? ⟨b, 1, none⟩ = some v := by rw [Lib.cell_of_heap hbk]; rfl
  go_wp2_with (at_builtin; refine Lib.wpList_append_own_string _ rfl _ _ 54 9 rfl B 5 i0 Tryd.underlying54 Tryd.underlying9 hi hz0 hz1 hz2 _ _ _ rfl hown s rfl ?c3 ?c4 ?c5 ?_)
  case c3 => unfold maxLen; omega
  case c4 => omega
  case c5 => have := hb1.size; omega
  intro v' w2 hown' hgrow _
  have hlt : b < w1.heap.size := (Array.getElem?_eq_some_iff.1 hbk).1
  have hb2 : w2.heap[b]? = some (.cells #[.pointer (some ⟨b, 0, none⟩), v] 60 (0, 0)) := by
    rw [hgrow.block b hlt (fun e => hne e.symm)]
    exact hbk
  have d0 : w2.cell? ⟨b, 0, none⟩ = some (.pointer (some ⟨b, 0, none⟩)) := by rw [Lib.cell_of_heap hb2]; rfl
  have d1 : w2.cell? ⟨b, 1, none⟩ = some v := by rw [Lib.cell_of_heap hb2]; rfl
  have f1 : w2.frozen? ⟨b, 1, none⟩ = false := Lib.frozen_of_heap hb2 1
  obtain ⟨ao, n', cap, rfl⟩ : ∃ ao n' cap, v' = .slice ao n' cap := by
    rcases hown'.2 with ⟨hv, _⟩ | ⟨g, cap, cur, hv, _⟩
    · exact ⟨_, _, _, hv⟩
    · exact ⟨_, _, _, hv⟩
  have hrow : ∀ g, v.ownBlock = some g → ∃ c fz, w1.heap[g]? = some (.cells c 5 fz) := by
    intro g hg
    rcases hown.2 with ⟨hv, _⟩ | ⟨g', cap', cur, hv, _, hc, _⟩
    · rw [hv] at hg; cases hg
    · rw [hv] at hg; cases hg; exact ⟨_, _, hc⟩
  go_wp2
  go_ret2
  refine ⟨rfl, ?_, ?_, (hk1.grown hgrow hrow).setCell ⟨b, 1, none⟩ rfl _⟩
  · exact .inr (Lib.BuilderAt.put (T := 60) (e := 5) hB hb2 (bs' := l ++ Lib.strCells s) (by simpa [Lib.strCells_length] using hown') (by decide))
  · exact (hb1.grown hgrow (by have := hb1.size; omega) (fun k hk => (hown.lt k hk).1)).setCell (p := ⟨b, 1, none⟩) hB _
end Go.Proofs.YtbpccbdgkkfdpaaDoor.Build

/-
  Contracts of the page's answers on what an octet is: a letter, a digit; they change nothing.
-/
namespace Go.Proofs.YtbpccbdgkkfdpaaDoor.Oct
open Go.RowKit

end Go.Proofs.YtbpccbdgkkfdpaaDoor.Oct

/-
  Contracts of the leaves of package octets and of the page's answers on octets: each is called at any octet and changes nothing.
-/
namespace Go.Proofs.YtbpccbdgkkfdpaaDoor.Oct
open Go.RowKit

theorem within_c (n a b : Int) (w : World) :
    Calls Tryd.prog 69 #[.int .u8 n, .int .u8 a, .int .u8 b] w fun e w' => e = .returned (.bool (decide (a ≤ n ∧ n ≤ b))) ∧ w = w' := by
  go_enter Tryd.func69, Tryd.ntmps69
  go_wp2
  all_goals go_ret
  all_goals (refine ⟨ret_bool ?_, rfl⟩; simp; try omega)

theorem letter_c (n : Int) (w : World) (h0 : 0 ≤ n) (h1 : n ≤ 255) :
    Calls Tryd.prog 53 #[.int .u8 n] w fun e w' => e = .returned (.bool (letterI n)) ∧ w = w' := by
  go_enter Tryd.func53, Tryd.ntmps53
  go_wp2
  all_goals go_ret
  all_goals (refine ⟨ret_bool ?_, rfl⟩; rw [Bool.eq_iff_iff]; simp [letterI]; try omega)

theorem small_c (n : Int) (w : World) (h0 : 0 ≤ n) (h1 : n ≤ 255) :
    Calls Tryd.prog 97 #[.int .u8 n] w fun e w' => e = .returned (.int .u8 (lowI n)) ∧ w = w' := by
  go_enter Tryd.func97, Tryd.ntmps97
  go_wp2
  all_goals go_ret
  all_goals (refine ⟨ret_int ?_, rfl⟩; unfold lowI; split <;> omega)

end Go.Proofs.YtbpccbdgkkfdpaaDoor.Oct

/-
  Contracts of octets.first, none and made, at whatever function value that is handed in, and of digitValue.
-/
namespace Go.Proofs.YtbpccbdgkkfdpaaDoor.Oct
open Go.RowKit

/-- The first place below n that is wanted, or n. -/
def firstOf (p : Nat → Bool) : Nat → Nat → Nat
  | _, 0 => 0
  | k, n + 1 => if p k then 0 else firstOf p (k + 1) n + 1

theorem firstOf_le (p : Nat → Bool) (k n : Nat) : firstOf p k n ≤ n := by
  induction n generalizing k with
  | zero => simp [firstOf]
  | succ n ih => have := ih (k + 1); unfold firstOf; split <;> omega

theorem firstOf_hit (p : Nat → Bool) (k n j : Nat) (hj : j < n) (hp : p (k + j) = true) (hn : ∀ i, i < j → p (k + i) = false) : firstOf p k n = j := by
  induction n generalizing k j with
  | zero => omega
  | succ n ih =>
    unfold firstOf
    cases j with
    | zero => rw [if_pos (by simpa using hp)]
    | succ j =>
      have h0 : p k = false := by simpa using hn 0 (by omega)
      rw [h0, if_neg (by simp), ih (k + 1) j (by omega) (by rw [← hp]; congr 1; omega) (fun i hi => by rw [← hn (i + 1) (by omega)]; congr 1; omega)]

theorem firstOf_miss (p : Nat → Bool) (k n : Nat) (hn : ∀ i, i < n → p (k + i) = false) : firstOf p k n = n := by
  induction n generalizing k with
  | zero => rfl
  | succ n ih =>
    unfold firstOf
    have h0 : p k = false := by simpa using hn 0 (by omega)
    rw [h0, if_neg (by simp), ih (k + 1) (fun i hi => by rw [← hn (i + 1) (by omega)]; congr 1; omega)]

/-- What is asked of a function value that tells of a place whether it is wanted: in every world in which all that lay in w lies unturned, and it leaves such a world again. -/
def Wants (g : Nat) (lb : Array Value) (p : Nat → Bool) (n : Nat) (w : World) : Prop :=
  ∀ (k : Nat) (W : World), k < n → Below w.heap.size w W → Calls Tryd.prog g (#[.int .i64 (k : Int)] ++ lb) W fun e w' => e = .returned (.bool (p k)) ∧ Below w.heap.size w w'

set_option maxHeartbeats 1000000 in
theorem first_c (n : Nat) (g : Nat) (lb : Array Value) (p : Nat → Bool) (w : World) (hn : n ≤ 9223372036854775807)
    (eg : ∀ args w, (callFunc g args).run Tryd.prog w = .ok (.enter g args) w) (hp : Wants g lb p n w) :
    Calls Tryd.prog 96 #[.int .i64 (n : Int), .func (.func g) #[] lb] w fun e w' => e = .returned (.int .i64 (firstOf p 0 n : Nat)) ∧ Below w.heap.size w w' := by
  go_enter Tryd.func96, Tryd.ntmps96
  go_wp2
  go_loopw [5, 7] (fun _ i wr => ∃ k : Nat, k ≤ n ∧ i = .int .i64 k ∧ Hid (∀ i, i < k → p i = false) ∧ Hid (Below w.heap.size w wr)) (fun _ i _ => n - (intOf i).toNat)
  case atStart => exact ⟨0, Nat.zero_le _, rfl, fun i hi => absurd hi (Nat.not_lt_zero _), Below.refl _ _⟩
  case round =>
    obtain ⟨k, hk, rfl, hno, hbel⟩ := hrel
    by_cases hlt : k < n
    · have hcall := hp k wr hlt hbel.out
      cases hq : p k with
      | true =>
        rw [hq] at hcall
        go_wp2_with (go_at_fn g; refine hcall.mono ?_; rintro e w' ⟨rfl, hb'⟩)
        go_ret
        exact ⟨ret_int (by rw [firstOf_hit p 0 n k hlt (by simpa using hq) (fun i hi => by simpa using hno.out i hi)]), hb'⟩
      | false =>
        rw [hq] at hcall
        go_wp2_with (go_at_fn g; refine hcall.mono ?_; rintro e w' ⟨rfl, hb'⟩)
        go_roundw
        case rel =>
          refine ⟨k + 1, by omega, by go_num, fun i hi => ?_, hb'⟩
          by_cases e : i = k
          · rw [e]; exact hq
          · exact hno.out i (by omega)
        case measure => simp [intOf]; omega
    · go_wp2
      go_ret
      have : k = n := by omega
      subst this
      exact ⟨ret_int (by rw [firstOf_miss p 0 k (fun i hi => by simpa using hno.out i hi)]), hbel.out⟩

end Go.Proofs.YtbpccbdgkkfdpaaDoor.Oct

/-
  Contract of octets.made, at whatever function value that is handed in: the text of the octets that it tells of the places.
-/
namespace Go.Proofs.YtbpccbdgkkfdpaaDoor.Oct
open Go.RowKit

theorem info_u8 : (Tryd.prog.info? 5).map (fun i => (i.zero, i.size, i.bytes)) = some (some (.int .u8 0), 1, 1) := by kernel_rfl

/-- What is asked of a function value that tells the octet of a place. -/
def Makes (g : Nat) (lb : Array Value) (f : Nat → UInt8) (n : Nat) (w : World) : Prop :=
  ∀ (k : Nat) (W : World), k < n → Below w.heap.size w W → Calls Tryd.prog g (#[.int .i64 (k : Int)] ++ lb) W fun e w' => e = .returned (.int .u8 ((f k).toNat : Int)) ∧ W = w'

/-- The cells behind k rounds. -/
def madeAt (f : Nat → UInt8) (n k : Nat) : List Value := (List.range k).map (fun j => Value.int .u8 ((f j).toNat : Int)) ++ List.replicate (n - k) (Value.int .u8 0)

theorem madeAt_zero (f : Nat → UInt8) (n : Nat) : madeAt f n 0 = List.replicate n (Value.int .u8 0) := by simp [madeAt]
theorem madeAt_succ (f : Nat → UInt8) (n k : Nat) (h : k < n) : (madeAt f n k).set k (Value.int .u8 ((f k).toNat : Int)) = madeAt f n (k + 1) := by
  unfold madeAt
  have e : n - k = (n - (k + 1)) + 1 := by omega
  rw [e, List.replicate_succ, List.set_append_right _ _ (by simp)]
  simp [List.range_succ]
theorem madeAt_at (f : Nat → UInt8) (n k : Nat) (h : k < n) : (madeAt f n k)[k]? = some (Value.int .u8 0) := by
  unfold madeAt
  rw [List.getElem?_append_right (by simp), List.length_map, List.length_range, Nat.sub_self, List.getElem?_replicate, if_pos (by omega)]
theorem madeAt_full (f : Nat → UInt8) (n j : Nat) (h : j < n) : (madeAt f n n)[j]? = some (Value.int .u8 ((f j).toNat : Int)) := by
  simp [madeAt, h]

set_option maxHeartbeats 1000000 in
theorem made_c (n : Nat) (g : Nat) (lb : Array Value) (f : Nat → UInt8) (w : World) (hn : n ≤ 281474976710656)
    (eg : ∀ args w, (callFunc g args).run Tryd.prog w = .ok (.enter g args) w) (hf : Makes g lb f n w) :
    Calls Tryd.prog 67 #[.int .i64 (n : Int), .func (.func g) #[] lb] w fun e w' => e = .returned (.string (S ((List.range n).map f))) ∧ Below w.heap.size w w' := by
  obtain ⟨i0, hi, hz0, hz1, hz2⟩ := info_parts info_u8
  go_enter Tryd.func67, Tryd.ntmps67
  go_wp2_with (at_make; refine wpList_make_full _ rfl _ _ 54 rfl w.heap.size 5 i0 (.int .u8 0) 1 Tryd.underlying54 hi hz0 hz1 .i64 .i64 (n : Int) (n : Int) n rfl rfl rfl rfl (by rw [hz2]; omega) (by unfold maxLen; omega) (Nat.le_refl _) ?_; intro w1 hown hgrow)
  go_loopw [6, 11] (fun _ i wr => ∃ k : Nat, k ≤ n ∧ i = .int .i64 k ∧ Hid (wr.ownsRow w.heap.size 5 1 (.slice (some ⟨w.heap.size, 0, none⟩) n n) n (madeAt f n k)) ∧ Hid (Below w.heap.size w wr)) (fun _ i _ => n - (intOf i).toNat)
  case atStart =>
    refine ⟨0, Nat.zero_le _, rfl, ?_, ?_⟩
    · rw [madeAt_zero, ← toList_madeCells_one]
      have h : w1.ownsRow w.heap.size 5 1 (.slice (some ⟨w.heap.size, 0, none⟩) n n) n (madeCells #[Value.int .u8 0] n).toList := by simpa [Value.cells] using hown
      exact h
    · exact (Below.refl _ w).grown hgrow (Nat.le_refl _) (fun k hk => by cases hk)
  case round =>
    obtain ⟨k, hk, rfl, hrow, hbel⟩ := hrel
    clear hown hgrow
    by_cases hlt : k < n
    · have hcall := hf k wr hlt hbel.out
      have hc : wr.cell? ⟨w.heap.size, k, none⟩ = (madeAt f n k)[k]? := hrow.out.cellAt k (by omega)
      have hfz : wr.frozen? ⟨w.heap.size, k, none⟩ = false := hrow.out.frozenAt k
      have hcv : (madeAt f n k)[k]? = some (.int .u8 0) := madeAt_at f n k hlt
      rw [hcv] at hc
      clear hcv
      go_wp2_with (go_at_fn g; refine hcall.mono ?_; rintro e w' ⟨rfl, rfl⟩)
      go_roundw
      case rel =>
        have st := hrow.out.stored k (Value.int .u8 ((f k).toNat : Int))
        exact ⟨k + 1, by omega, by go_num, by rw [← madeAt_succ f n k hlt]; exact st.1, hbel.out.setCell (by simp) _⟩
      case measure => simp [intOf]; omega
    · have hkn : k = n := by omega
      subst hkn
      have hcv : ((convert 54 9 (.slice (some ⟨w.heap.size, 0, none⟩) k k)).run Tryd.prog wr) = .ok (.string (S ((List.range k).map f))) wr := by
        have h := run_convert_bytes_back (P := Tryd.prog) wr 54 9 5 ⟨w.heap.size, 0, none⟩ k ((List.range k).map f) Tryd.underlying54 Tryd.underlying5 Tryd.underlying9 (fun j hj => by
          have hj' : j < k := by simpa using hj
          have h1 := hrow.out.cellAt j (by omega)
          rw [madeAt_full f k j hj'] at h1
          rw [Addr.add_lit, Nat.zero_add]
          simpa using h1)
        simpa using h
      go_wp2
      go_ret
      exact ⟨rfl, hbel.out⟩

end Go.Proofs.YtbpccbdgkkfdpaaDoor.Oct

/-
  Contracts of octets.none, digitValue, Lower, Upper, Name, Starts, Trim.
-/
namespace Go.Proofs.YtbpccbdgkkfdpaaDoor.Oct
open Go.RowKit

theorem none_c (n : Nat) (g : Nat) (lb : Array Value) (p : Nat → Bool) (w : World) (hn : n ≤ 9223372036854775807)
    (eg : ∀ args w, (callFunc g args).run Tryd.prog w = .ok (.enter g args) w) (hp : Wants g lb p n w) :
    Calls Tryd.prog 91 #[.int .i64 (n : Int), .func (.func g) #[] lb] w fun e w' => e = .returned (.bool (firstOf p 0 n == n)) ∧ Below w.heap.size w w' := by
  have hle := firstOf_le p 0 n
  go_enter Tryd.func91, Tryd.ntmps91
  go_wp2_with (go_at_call 96; refine (first_c n g lb p _ hn eg hp).mono ?_; rintro e w' ⟨rfl, hb'⟩)
  go_ret
  refine ⟨ret_bool ?_, hb'⟩
  rw [Bool.eq_iff_iff]; simp; omega

theorem digit_table : ∀ k : Fin 256, Lib.indexByte [48, 49, 50, 51, 52, 53, 54, 55, 56, 57, 97, 98, 99, 100, 101, 102] (lowI (k.val : Int)).toNat.toUInt8 = hexI (k.val : Int) := by decide +kernel

theorem digitValue_c (n : Int) (w : World) (h0 : 0 ≤ n) (h1 : n ≤ 255) :
    Calls Tryd.prog 93 #[.int .u8 n] w fun e w' => e = .returned (.int .i64 (hexI n)) ∧ w = w' := by
  have T : Lib.indexByte [48, 49, 50, 51, 52, 53, 54, 55, 56, 57, 97, 98, 99, 100, 101, 102] (lowI n).toNat.toUInt8 = hexI n := by
    have := digit_table ⟨n.toNat, by omega⟩
    rwa [show ((⟨n.toNat, by omega⟩ : Fin 256).val : Int) = n from Int.toNat_of_nonneg h0] at this
  have HT := Lib.hid T
  clear T
  go_enter Tryd.func93, Tryd.ntmps93
  go_wp2_with (first
    | (go_at_call 97; refine (small_c n _ h0 h1).mono ?_; rintro e w' ⟨rfl, rfl⟩)
    | (go_at_call 54; refine (Tryd.strings_IndexByte _ _ _).mono ?_; rintro e w' ⟨rfl, rfl⟩))
  go_ret
  exact ⟨ret_int HT.out, rfl⟩

end Go.Proofs.YtbpccbdgkkfdpaaDoor.Oct
