/-
  Part 18: TkcScope, BuildText, CrfBuild.
-/
import Derived.Test.YtidfcajhmldieaaGreatDoorBackBaseP17
import Derived.WalkMore
import Derived.Test.YtidfcajhmldieaaGreatDoorBackBaseP1
import Derived.Test.YtidfcajhmldieaaGreatDoorProg
import Derived.Test.YtidfcajhmldieaaGreatDoorBackBaseP9
import Derived.Lib.OthersKept
import Derived.Lib.Hide
import Derived.Test.YtidfcajhmldieaaGreatDoorBackBaseP13
import Derived.Test.YtidfcajhmldieaaGreatDoorBackBaseP14
import Derived.Lib.BufferKept
/-
  A scope in which the run jumps to several labels: what holds at each of them, and a measure that every way from a label to a label lowers.
-/
namespace Go.Proofs.YtidfcajhmldieaaGreatDoor.Tkc
open Go

/-- As Q; by a goto to a label: what holds at it. -/
def jumps (J : Nat → Act → World → Prop) (Q : Exit → Act → World → Prop) : Exit → Act → World → Prop
  | .goto l, a, w => J l a w
  | e, a, w => Q e a w
theorem jumps_mono {J J' : Nat → Act → World → Prop} {Q : Exit → Act → World → Prop} (h : ∀ l a w, J l a w → J' l a w) (e : Exit) (a : Act) (w : World) (hq : jumps J Q e a w) : jumps J' Q e a w := by
  cases e with
  | goto l => exact h l a w hq
  | normal => exact hq
  | exit id => exact hq
  | ret => exact hq
  | panic ch => exact hq
  | outgrown => exact hq
/-- What holds at a label, the measure less than n. -/
def Less (J : Nat → Act → World → Prop) (m : Nat → Act → World → Nat) (n : Nat) : Nat → Act → World → Prop := fun l a w => J l a w ∧ m l a w < n
/-- From each label the rest of the scope goes well. -/
def Goes (P : Program) (c : Code) (J : Nat → Act → World → Prop) (K : Nat → Act → World → Prop) (Q : Exit → Act → World → Prop) : Prop :=
  ∀ l a w X, K l a w → findLabel c l = some (.seq .skip X) → X.wp P (jumps J Q) a w

theorem wp_scope_many {P : Program} {c : Code} {Q : Exit → Act → World → Prop} {a : Act} {w : World} (J : Nat → Act → World → Prop) (m : Nat → Act → World → Nat)
    (first : Goes P c J J Q → c.wp P (jumps J Q) a w)
    (pass : ∀ n l a w, J l a w → m l a w = n → Goes P c (Less J m n) (Less J m n) Q → ∃ X, findLabel c l = some (.seq .skip X) ∧ X.wp P (jumps (Less J m n) Q) a w) :
    (Code.scope c).wp P Q a w := by
  have main : ∀ n l a w, J l a w → m l a w = n → ∃ X, findLabel c l = some (.seq .skip X) ∧ X.wp P (jumps (Less J m n) Q) a w := by
    intro n
    induction n using Nat.strongRecOn with
    | _ n ih =>
      intro l a w hJ hm
      refine pass n l a w hJ hm fun l' a' w' X' hl hX => ?_
      obtain ⟨Y, hY, hw⟩ := ih (m l' a' w') hl.2 l' a' w' hl.1 rfl
      rw [hX] at hY
      injection hY with hY
      injection hY with _ hY
      subst hY
      exact wp_mono hw (jumps_mono fun l a w h => ⟨h.1, Nat.lt_trans h.2 hl.2⟩)
  have hfirst := first fun l a w X hJ hX => by
    obtain ⟨Y, hY, hw⟩ := main _ l a w hJ rfl
    rw [hX] at hY
    injection hY with hY
    injection hY with _ hY
    subst hY
    exact wp_mono hw (jumps_mono fun l a w h => h.1)
  intro b k cs
  have hg : ∀ l rest, findLabel c l = some rest → gotoIn l (.inScope c :: k) = some (.code rest :: .inScope c :: k) := fun l rest hf => by simp [gotoIn, hf]
  have key : ∀ n l a w, m l a w = n → J l a w → ∃ rest, findLabel c l = some rest ∧ ∃ e a' w', Q e a' w' ∧ Arrives P (lone (b.at a (.code rest :: .inScope c :: k)) cs w) b k cs e a' w' := by
    intro n
    induction n using Nat.strongRecOn with
    | _ n ih =>
      intro l a w hn hJ
      obtain ⟨X, hX, hw⟩ := main n l a w hJ hn
      refine ⟨_, hX, ?_⟩
      have hseq : (Code.seq .skip X).wp P (jumps (Less J m n) Q) a w := wp_seq (wp_skip hw)
      obtain ⟨e, a₁, w₁, hq, harr⟩ := hseq b (.inScope c :: k) cs
      cases e with
      | normal => exact ⟨.normal, a₁, w₁, hq, Steps.trans harr (.one step_inScope)⟩
      | exit id => exact ⟨.exit id, a₁, w₁, hq, fun k' hk => harr k' (by simp [exitTo, hk])⟩
      | goto l' =>
        obtain ⟨hJ', hlt⟩ := hq
        obtain ⟨rest', hr, e₂, a₂, w₂, hq₂, harr₂⟩ := ih _ hlt l' a₁ w₁ rfl hJ'
        exact ⟨e₂, a₂, w₂, hq₂, .of_steps (harr _ (hg _ _ hr)) harr₂⟩
      | ret => exact ⟨_, a₁, w₁, hq, harr⟩
      | panic ch => exact ⟨_, a₁, w₁, hq, harr⟩
      | outgrown => exact ⟨_, a₁, w₁, hq, harr⟩
  obtain ⟨e, a₁, w₁, hq, harr⟩ := hfirst b (.inScope c :: k) cs
  cases e with
  | normal => exact ⟨.normal, a₁, w₁, hq, .head step_scope (Steps.trans harr (.one step_inScope))⟩
  | exit id => exact ⟨.exit id, a₁, w₁, hq, fun k' hk => .head step_scope (harr k' (by simp [exitTo, hk]))⟩
  | goto l' =>
    obtain ⟨rest', hr, e₂, a₂, w₂, hq₂, harr₂⟩ := key _ l' a₁ w₁ rfl hq
    exact ⟨e₂, a₂, w₂, hq₂, .of_steps (.head step_scope (harr _ (hg _ _ hr))) harr₂⟩
  | ret => exact ⟨_, a₁, w₁, hq, .of_steps (.one step_scope) harr⟩
  | panic ch => exact ⟨_, a₁, w₁, hq, .of_steps (.one step_scope) harr⟩
  | outgrown => exact ⟨_, a₁, w₁, hq, .of_steps (.one step_scope) harr⟩
end Go.Proofs.YtidfcajhmldieaaGreatDoor.Tkc

/-
  Contracts of strings.Builder's copyCheck and WriteString over this translation: a builder in a block of its own takes a text; every block that is neither its own nor a row of octets stays as it was.
-/
namespace Go.Proofs.YtidfcajhmldieaaGreatDoor.Build
open Go.RowKit Go.Proofs.YtidfcajhmldieaaGreatDoor.Oct

theorem size_b : (Tryz.prog.info? 51).map (·.size) = some 2 := by kernel_rfl
theorem lies_b : liesAt Tryz.prog Tryz.prog.depth 51 (2 / Tryz.prog.cellsOf 51) 0 51 1 = true := by kernel_rfl
theorem info_o : (Tryz.prog.info? 5).map (fun i => (i.zero, i.size, i.bytes)) = some (some (.int .u8 0), 1, 1) := by kernel_rfl

set_option maxHeartbeats 2000000 in
set_option maxRecDepth 100000 in
theorem check_used (b : Nat) (w : World) (h0 : w.cell? ⟨b, 0, none⟩ = some (.pointer (some ⟨b, 0, none⟩))) :
    Calls Tryz.prog 31 #[.pointer (some ⟨b, 0, none⟩)] w fun e w' => e = .returned (.tuple #[]) ∧ w' = w := by
  obtain ⟨j, hj, _⟩ := Option.map_eq_some_iff.1 size_b
  have he := Lib.run_neq_ptr_same w ⟨b, 0, none⟩ Tryz.underlying48 hj
  go_enter Tryz.func31, Tryz.ntmps31
  go_wp2
  go_end0
  exact ⟨rfl, rfl⟩

set_option maxHeartbeats 2000000 in
set_option maxRecDepth 100000 in
theorem check_fresh (b : Nat) (w : World) (h0 : w.cell? ⟨b, 0, none⟩ = some (.pointer none)) (hsh : w.shape? b = some (51, 2)) (hfz : w.frozen? ⟨b, 0, none⟩ = false) :
    Calls Tryz.prog 31 #[.pointer (some ⟨b, 0, none⟩)] w fun e w' => e = .returned (.tuple #[]) ∧ w' = w.setCell ⟨b, 0, none⟩ (.pointer (some ⟨b, 0, none⟩)) := by
  obtain ⟨j, hj, hjs⟩ := Option.map_eq_some_iff.1 size_b
  go_enter Tryz.func31, Tryz.ntmps31
  go_wp2
  rw [Lib.run_to_unsafe w ⟨b, 0, none⟩ Tryz.underlying48 Tryz.underlying75 hj (by rw [hjs]; decide) hsh (Nat.zero_lt_succ 1)]
  simp only [Result.andThen]
  rw [Oper.upon_value]
  go_wp2
  rw [run_callFunc_extern Tryz.func49 (by kernel_rfl) (by kernel_rfl) (by kernel_rfl) (e := Extern.AbiNoEscape.same) (by kernel_rfl)]
  rw [Lib.run_noEscape]
  simp only [Result.andThen]
  rw [Oper.upon_value]
  go_wp2
  rw [Lib.run_from_unsafe w ⟨b, 0, none⟩ Tryz.underlying75 Tryz.underlying48 hj hsh lies_b]
  simp only [Result.andThen]
  rw [Oper.upon_value]
  go_wp2
  go_end0
  exact ⟨rfl, rfl⟩

/-- A builder in block b, of the call's own from B on, that holds these octets. -/
abbrev Is (B b : Nat) (l : List Value) (w : World) : Prop := Lib.IsBuilder 51 5 B b l w
/-- Every block but b and but rows of octets. -/
abbrev Others (b : Nat) (w w' : World) : Prop := Lib.OthersKept 5 (some b) w w'

theorem check_c (B b : Nat) (l : List Value) (w : World) (h : Is B b l w) :
    Calls Tryz.prog 31 #[.pointer (some ⟨b, 0, none⟩)] w fun e w' => e = .returned (.tuple #[]) ∧ Lib.BuilderAt 51 5 B b (.pointer (some ⟨b, 0, none⟩)) l w' ∧ Below B w w' ∧ Others b w w' := by
  rcases h with h | h
  · refine (check_fresh b w h.cell0 h.shape h.frozen0).mono ?_
    rintro e w' ⟨rfl, rfl⟩
    exact ⟨rfl, h.used _, (Below.refl B w).setCell (p := ⟨b, 0, none⟩) h.1 _, (Lib.OthersKept.refl _ _ w).setCell ⟨b, 0, none⟩ rfl _⟩
  · refine (check_used b w h.cell0).mono ?_
    rintro e w' ⟨rfl, rfl⟩
    exact ⟨rfl, h, Below.refl B _, Lib.OthersKept.refl _ _ _⟩

set_option maxHeartbeats 2000000 in
set_option maxRecDepth 100000 in
theorem write_c (B b : Nat) (l : List Value) (s : ByteArray) (w : World) (h : Is B b l w) (hlen : l.length + s.size ≤ 140737488355328) (hBw : B ≤ w.heap.size) :
    Calls Tryz.prog 21 #[.pointer (some ⟨b, 0, none⟩), .string s] w fun e w' => e = .returned (.tuple #[.int .i64 s.size, .nilIface]) ∧ Is B b (l ++ Lib.strCells s) w' ∧ Below B w w' ∧ Others b w w' := by
  obtain ⟨i0, hi, hz0, hz1, hz2⟩ := info_parts info_o
  have e42 : ∀ args w, (callFunc 31 args).run Tryz.prog w = .ok (.enter 31 args) w := enters_of Tryz.func31 (by kernel_rfl) rfl
  go_enter Tryz.func21, Tryz.ntmps21
  go_wp2_with (go_at_fn 31; refine (check_c B b l _ h).mono ?_)
  rintro e w1 ⟨rfl, h1, hb1, hk1⟩
  obtain ⟨hB, v, hbk, hown, hne⟩ := h1
  have c0 : w1.cell? ⟨b, 0, none⟩ = some (.pointer (some ⟨b, 0, none⟩)) := by rw [Lib.cell_of_heap hbk]; rfl
  have c1 : w1.cell? ⟨b, 1, none⟩ = some v := by rw [Lib.cell_of_heap hbk]; rfl
  go_wp2_with (at_builtin; refine Lib.wpList_append_own_string _ rfl _ _ 49 9 rfl B 5 i0 Tryz.underlying49 Tryz.underlying9 hi hz0 hz1 hz2 _ _ _ rfl hown s rfl ?c3 ?c4 ?c5 ?_)
  case c3 => unfold maxLen; omega
  case c4 => omega
  case c5 => have := hb1.size; omega
  intro v' w2 hown' hgrow _
  have hlt : b < w1.heap.size := (Array.getElem?_eq_some_iff.1 hbk).1
  have hb2 : w2.heap[b]? = some (.cells #[.pointer (some ⟨b, 0, none⟩), v] 51 (0, 0)) := by
    rw [hgrow.block b hlt (fun e => hne e.symm)]
    exact hbk
  have d0 : w2.cell? ⟨b, 0, none⟩ = some (.pointer (some ⟨b, 0, none⟩)) := by rw [Lib.cell_of_heap hb2]; rfl
  have d1 : w2.cell? ⟨b, 1, none⟩ = some v := by rw [Lib.cell_of_heap hb2]; rfl
  have f1 : w2.frozen? ⟨b, 1, none⟩ = false := Lib.frozen_of_heap hb2 1
  obtain ⟨ao, n', cap, rfl⟩ : ∃ ao n' cap, v' = .slice ao n' cap := by
    rcases hown'.2 with ⟨hv, _⟩ | ⟨g, cap, cur, hv, _⟩
    · exact ⟨_, _, _, hv⟩
    · exact ⟨_, _, _, hv⟩
  have hrow : ∀ g, v.ownBlock = some g → ∃ c fz, w1.heap[g]? = some (.cells c 5 fz) := by
    intro g hg
    rcases hown.2 with ⟨hv, _⟩ | ⟨g', cap', cur, hv, _, hc, _⟩
    · rw [hv] at hg; cases hg
    · rw [hv] at hg; cases hg; exact ⟨_, _, hc⟩
  go_wp2
  go_ret2
  refine ⟨rfl, ?_, ?_, (hk1.grown hgrow hrow).setCell ⟨b, 1, none⟩ rfl _⟩
  · exact .inr (Lib.BuilderAt.put (T := 51) (e := 5) hB hb2 (bs' := l ++ Lib.strCells s) (by simpa [Lib.strCells_length] using hown') (by decide))
  · exact (hb1.grown hgrow (by have := hb1.size; omega) (fun k hk => (hown.lt k hk).1)).setCell (p := ⟨b, 1, none⟩) hB _
end Go.Proofs.YtidfcajhmldieaaGreatDoor.Build

/-
  Contracts of Escape and Decode of package refs.
-/
namespace Go.Proofs.YtidfcajhmldieaaGreatDoor.Crf
open Go.RowKit Go.Proofs.YtidfcajhmldieaaGreatDoor.Oct Go.Proofs.YtidfcajhmldieaaGreatDoor.Num Go.Proofs.YtidfcajhmldieaaGreatDoor.Utf Go.Proofs.YtidfcajhmldieaaGreatDoor.Build
open Go.Lib (encodeRune)

theorem enter_write : ∀ args w, (callFunc 21 args).run Tryz.prog w = .ok (.enter 21 args) w := enters_of Tryz.func21 (by kernel_rfl) rfl
theorem enter_string : ∀ args w, (callFunc 24 args).run Tryz.prog w = .ok (.enter 24 args) w := enters_of Tryz.func24 (by kernel_rfl) rfl

/-- The builder in block b holds these octets. -/
abbrev Has (B b : Nat) (l : List UInt8) (w : World) : Prop := Is B b (Lib.byteCells l) w
theorem has_below {B b : Nat} {l : List UInt8} {W W' : World} (h : Has B b l W) (hb : Below W.heap.size W W') : Has B b l W' := by
  have one : ∀ p, Lib.BuilderAt 51 5 B b p (Lib.byteCells l) W → Lib.BuilderAt 51 5 B b p (Lib.byteCells l) W' := fun p h => by
    have hlt := h.lt
    obtain ⟨h1, v, h2, h3, h4⟩ := h
    refine ⟨h1, v, by rw [hb.block b hlt]; exact h2, ?_, h4⟩
    refine h3.kept (row := none) ⟨hb.os, hb.tape, hb.output, hb.size, fun k hk _ => hb.block k hk⟩ ?_
    rcases h3.2 with ⟨rfl, _⟩ | ⟨g, cap, cur, rfl, _⟩
    · exact .inl rfl
    · exact .inr (by simp [Value.ownBlock])
  rcases h with h | h
  · exact .inl (one _ h)
  · exact .inr (one _ h)
theorem has_lt {B b : Nat} {l : List UInt8} {W : World} (h : Has B b l W) : B ≤ b ∧ b < W.heap.size := by
  rcases h with h | h
  · exact ⟨h.1, h.lt⟩
  · exact ⟨h.1, h.lt⟩
theorem has_fresh (w : World) : Has w.heap.size w.heap.size [] (w.alloc (.cells #[.pointer none, .slice none 0 0] 51)) :=
  .inl ⟨Nat.le_refl _, .slice none 0 0, heap_alloc_new w _, ⟨rfl, .inl ⟨rfl, rfl⟩⟩, by simp [Value.ownBlock]⟩
theorem put_c (B b : Nat) (l t : List UInt8) (w : World) (h : Has B b l w) (hlen : l.length + t.length ≤ 140737488355328) :
    Calls Tryz.prog 21 #[.pointer (some ⟨b, 0, none⟩), .string (S t)] w fun e w' => e = .returned (.tuple #[.int .i64 (S t).size, .nilIface]) ∧ Has B b (l ++ t) w' ∧ Below B w w' := by
  have hb := has_lt h
  have hc := write_c B b (Lib.byteCells l) (S t) w h (by rw [Lib.byteCells_length, size_S]; exact hlen) (by omega)
  rw [Lib.strCells_eq, ← Lib.byteCells_append, list_S] at hc
  exact hc.mono fun e w' ⟨h1, h2, h3, _⟩ => ⟨h1, h2, h3⟩

set_option maxHeartbeats 4000000 in
set_option maxRecDepth 100000 in
theorem escape_c (s : ByteArray) (hs : s.size ≤ 1099511627776) (w : World) (hT : Tabs w) :
    Calls Tryz.prog 33 #[.string s] w fun e w' => e = .returned (.string (S (escL (rep s.data.toList)))) ∧ Below w.heap.size w w' := by
  have hrep := repair_c s (by omega) w hT
  have hrl : (rep s.data.toList).length ≤ 4 * s.size := by
    have h1 := encs_len (chars s.data.toList)
    have h2 := chars_len s.data.toList
    rw [size_list] at h2
    unfold rep
    omega
  generalize rep s.data.toList = r at hrep hrl
  have hrl2 : r.length ≤ 4398046511104 := by omega
  have hsz : ((S r).size : Int) = (r.length : Int) := by rw [size_S]
  have hone := Lib.hid (fun k (h : k < r.length) => cutOne r k h)
  have e1 := enter_write
  have e2 := enter_string
  generalize S r = R at hrep hsz hone
  clear hs hrl
  go_enter Tryz.func33, Tryz.ntmps33
  go_wp2_with fail
  refine hrep.mono ?_
  rintro e w1 ⟨rfl, hb1⟩
  have H0 : Hid (Has w1.heap.size w1.heap.size (escL (r.take 0)) (w1.alloc (.cells #[.pointer none, .slice none 0 0] 51)) ∧ Below w1.heap.size w1 (w1.alloc (.cells #[.pointer none, .slice none 0 0] 51))) :=
    ⟨has_fresh w1, (Below.refl _ w1).alloc (Nat.le_refl _) _⟩
  have HB1 := Lib.hid hb1
  clear hrep hT hb1
  go_wp2_with fail
  go_loopw [10] (fun i wr => ∃ k : Nat, k ≤ r.length ∧ i = .int .i64 k ∧ Hid (Has w1.heap.size w1.heap.size (escL (r.take k)) wr ∧ Below w1.heap.size w1 wr)) (fun i _ => r.length - (intOf i).toNat)
  case atStart => exact ⟨0, Nat.zero_le _, rfl, H0⟩
  case round =>
    clear H0
    obtain ⟨k, hk, rfl, hr⟩ := hrel
    by_cases hlt : k < r.length
    · have h1 := hone.out k hlt
      have hesc := escaped_c r[k] wr
      have hp := put_c w1.heap.size w1.heap.size (escL (r.take k)) (escO r[k]) wr hr.out.1 (by
        have a1 := esc_len (r.take k)
        have a2 := esc_len [r[k]]
        have a3 : escL [r[k]] = escO r[k] := by simp [escL]
        rw [a3] at a2
        rw [List.length_take] at a1
        simp at a2
        omega)
      have hn : escL (r.take k) ++ escO r[k] = escL (r.take (k + 1)) := by rw [List.take_succ_eq_append_getElem hlt, esc_snoc]
      rw [hn] at hp
      clear hn
      generalize r[k] = c at h1 hesc hp
      have i0 : (0 : Int) ≤ (k : Int) := by omega
      have i1 : (k : Int) < (r.length : Int) := by omega
      have i2 : (k : Int) + 1 ≤ (r.length : Int) := by omega
      have i3 : (k : Int) ≤ (k : Int) + 1 := by omega
      have i4 : ((k : Int) + 1).toNat = k + 1 := by omega
      have HP := Lib.hid hp
      clear hp
      generalize S (escO c) = EC at hesc HP
      go_wp2_with (first
        | (go_at_call 52; refine hesc.mono ?_; rintro e w2 ⟨rfl, rfl⟩)
        | (go_at_fn 21; refine HP.out.mono ?_; rintro e w3 ⟨rfl, h3, h4⟩; have HN := Lib.hid (And.intro h3 (hr.out.2.trans h4)); clear h3 h4))
      go_roundw
      case rel => exact ⟨k + 1, by omega, by go_num, HN⟩
      case measure => simp [intOf]; omega
    · have hkl : k = r.length := by omega
      subst hkl
      have hst := fun W (h : Has w1.heap.size w1.heap.size (escL r) W) => Tryz.Builder_String_any w1.heap.size w1.heap.size (escL r) W h (Nat.le_of_lt (has_lt h).2)
      have HS := Lib.hid hst
      have HR : Hid (Has w1.heap.size w1.heap.size (escL r) wr) := by
        have := hr.out.1
        rw [List.take_length] at this
        exact this
      clear hst
      go_wp2_with (go_at_fn 24; refine (HS.out _ HR.out).mono ?_; rintro e w3 ⟨rfl, h3⟩)
      go_ret
      exact ⟨rfl, HB1.out.trans ((hr.out.2.trans h3).mono HB1.out.size)⟩

set_option maxHeartbeats 4000000 in
set_option maxRecDepth 100000 in
theorem decode_c (l : List UInt8) (hl : l.length ≤ 4398046511104) (w : World) :
    Calls Tryz.prog 28 #[.string (S l)] w fun e w' => e = .returned (.string (S (decL' l))) ∧ Below w.heap.size w w' := by
  have hsz : ((S l).size : Int) = (l.length : Int) := by rw [size_S]
  have hone := Lib.hid (fun k (h : k < l.length) => cutOne l k h)
  have hfrom := Lib.hid (fun k => (cutFrom (S l) k).trans (by rw [list_S] : S ((S l).data.toList.drop k) = S (l.drop k)))
  have e1 := enter_write
  have e2 := enter_string
  generalize S l = L at hsz hone hfrom
  have H0 : Hid (Has w.heap.size w.heap.size [] (w.alloc (.cells #[.pointer none, .slice none 0 0] 51)) ∧ Below w.heap.size w (w.alloc (.cells #[.pointer none, .slice none 0 0] 51))) :=
    ⟨has_fresh w, (Below.refl _ w).alloc (Nat.le_refl _) _⟩
  go_enter Tryz.func28, Tryz.ntmps28
  go_wp2_with fail
  go_loopw [4, 10] (fun m i wr => ∃ k t : Nat, k ≤ t ∧ t ≤ l.length ∧ i = .int .i64 k ∧ m = .int .i64 t ∧ ∃ o, o.length ≤ 4 * t ∧ Hid (o ++ decL' (l.drop t) = decL' l) ∧ Hid (Has w.heap.size w.heap.size o wr ∧ Below w.heap.size w wr)) (fun _ i _ => l.length - (intOf i).toNat)
  case atStart => exact ⟨0, 0, Nat.zero_le _, Nat.zero_le _, rfl, rfl, [], by simp, rfl, H0⟩
  case round =>
    clear H0
    obtain ⟨k, t, hkt, htl, rfl, rfl, o, hol, ho, hr⟩ := hrel
    by_cases hlt : k < l.length
    · by_cases hk2 : k < t
      · have i0 : (k : Int) < (l.length : Int) := by omega
        have i1 : (k : Int) < (t : Int) := by omega
        go_wp2_with fail
        go_roundw
        case rel => exact ⟨k + 1, t, by omega, htl, by go_num, rfl, o, hol, ho, hr⟩
        case measure => simp [intOf]; omega
      · have hkt2 : t = k := by omega
        subst hkt2
        have hrd := read_c (l.drop t) (by rw [List.length_drop]; omega) wr
        have hf := hfrom.out t
        have hslen := one_slen (l.drop t)
        have hlen := one_len (l.drop t)
        rw [List.length_drop] at hlen
        rw [← hf] at hrd
        have i0 : (0 : Int) ≤ (t : Int) := by omega
        have i1 : (t : Int) < (l.length : Int) := by omega
        have i2 : (t : Int) + 1 ≤ (l.length : Int) := by omega
        have i3 : (t : Int) ≤ (t : Int) + 1 := by omega
        have i4 : ((t : Int) + 1).toNat = t + 1 := by omega
        have i5 : (t : Int) ≤ (l.length : Int) := by omega
        by_cases hz : (oneL (l.drop t)).2 = 0
        · have hp := fun W (h : Has w.heap.size w.heap.size o W) => put_c w.heap.size w.heap.size o [l[t]] W h (by simp; omega)
          have h1 := hone.out t hlt
          have HN : Hid ((o ++ [l[t]]) ++ decL' (l.drop (t + 1)) = decL' l) := by
            show _ = _
            rw [← ho.out, List.append_assoc]
            congr 1
            have e : l.drop t = l[t] :: l.drop (t + 1) := List.drop_eq_getElem_cons hlt
            rw [e] at hz ⊢
            rw [dec_plain _ _ hz]
            rfl
          rw [one_zero hz] at hrd
          have HP := Lib.hid hp
          generalize l[t] = c at h1 HP HN
          have hH := Lib.hid (fun w2 (hb2 : Below wr.heap.size wr w2) => And.intro (has_below hr.out.1 hb2) (hr.out.2.trans (hb2.mono hr.out.2.size)))
          clear hf hp hz hslen hlen
          generalize hSC : S [c] = SC at h1 HP
          clear hSC
          go_wp2_with (first
            | (go_at_call 42; refine hrd.mono ?_; rintro e w2 ⟨rfl, hb2⟩; have HB2 := Lib.hid (hH.out w2 hb2); clear hb2)
            | (go_at_fn 21; refine (HP.out _ HB2.out.1).mono ?_; rintro e w3 ⟨rfl, h3, h4⟩; have HN3 := Lib.hid (And.intro h3 (HB2.out.2.trans h4)); clear h3 h4))
          go_roundw
          case rel => exact ⟨t + 1, t + 1, by omega, by omega, by go_num, by go_num, o ++ [c], by rw [List.length_append, List.length_singleton]; omega, HN, HN3⟩
          case measure => simp [intOf]; omega
        · have hp := fun W (h : Has w.heap.size w.heap.size o W) => put_c w.heap.size w.heap.size o (oneL (l.drop t)).1 W h (by omega)
          have HN : Hid ((o ++ (oneL (l.drop t)).1) ++ decL' (l.drop (t + (oneL (l.drop t)).2)) = decL' l) := by
            show _ = _
            rw [← ho.out, List.append_assoc]
            congr 1
            rw [dec_ref _ hz, List.drop_drop]
          have hz1 : 0 < (oneL (l.drop t)).2 := by omega
          have hzb : (((oneL (l.drop t)).2 : Int) == 0) = false := by simp; exact hz
          have HP := Lib.hid hp
          clear hp hz
          generalize (oneL (l.drop t)).1 = st at hrd HP HN hslen
          generalize (oneL (l.drop t)).2 = n at hrd HN hlen hz1 hzb
          have hH := Lib.hid (fun w2 (hb2 : Below wr.heap.size wr w2) => And.intro (has_below hr.out.1 hb2) (hr.out.2.trans (hb2.mono hr.out.2.size)))
          clear hf
          generalize S st = SC at hrd HP
          go_wp2_with (first
            | (go_at_call 42; refine hrd.mono ?_; rintro e w2 ⟨rfl, hb2⟩; have HB2 := Lib.hid (hH.out w2 hb2); clear hb2)
            | (go_at_fn 21; refine (HP.out _ HB2.out.1).mono ?_; rintro e w3 ⟨rfl, h3, h4⟩; have HN3 := Lib.hid (And.intro h3 (HB2.out.2.trans h4)); clear h3 h4))
          go_roundw
          case rel => exact ⟨t + 1, t + n, by omega, by omega, by go_num, by go_num, o ++ st, by rw [List.length_append]; omega, HN, HN3⟩
          case measure => simp [intOf]; omega
    · have hkl : t = l.length := by omega
      have hkl2 : k = l.length := by omega
      subst hkl2
      have HR : Hid (Has w.heap.size w.heap.size (decL' l) wr) := by
        have h1 := ho.out
        rw [hkl, List.drop_length, dec_nil', List.append_nil] at h1
        rw [← h1]
        exact hr.out.1
      have HS := Lib.hid (fun W (h : Has w.heap.size w.heap.size (decL' l) W) => Tryz.Builder_String_any w.heap.size w.heap.size (decL' l) W h (Nat.le_of_lt (has_lt h).2))
      clear hkl
      go_wp2_with (go_at_fn 24; refine (HS.out _ HR.out).mono ?_; rintro e w3 ⟨rfl, h3⟩)
      go_ret
      exact ⟨rfl, hr.out.2.trans h3⟩
end Go.Proofs.YtidfcajhmldieaaGreatDoor.Crf
