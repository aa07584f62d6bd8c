/-
  Part 7: TkcOut, TkcScope, BuildText, CrfBuild, TkcTagW, TkcTagJ, TkcTag0, TkcTag1, TkcTag2, TkcTag3.
-/
import Derived.Test.YtidfcajhmldieaaTokPlainAllP6
import Derived.WalkMore
import Derived.Test.YtidfcajhmldieaaTokPlainAllP1
import Derived.Test.YtidfcajhmldieaaProg
import Derived.Test.YtidfcajhmldieaaTokPlainAllP3
import Derived.Lib.OthersKept
import Derived.Lib.Hide
import Derived.Test.YtidfcajhmldieaaTokPlainAllP4
import Derived.Test.YtidfcajhmldieaaTokPlainAllP5
import Derived.Lib.BufferKept
import Derived.Deep.RegionHeld3
/-
  Contracts of the reader of package tokens outside of tags: what is no markup, remarks.
-/
namespace Go.Proofs.Ytidfcajhmldieaa.Tkc
open Go.RowKit Go.Proofs.Ytidfcajhmldieaa.Oct Go.Proofs.Ytidfcajhmldieaa.Utf Go.Proofs.Ytidfcajhmldieaa.Crf Go.Proofs.Ytidfcajhmldieaa.Tab Go.Proofs.Ytidfcajhmldieaa.Tok

/-- The library's variable that strings.Cut reads holds some number. -/
def MaxAt (w : World) : Prop := ∃ m, w.cell? ⟨0, 0, none⟩ = some (.int .i64 m)
theorem MaxAt.kept {w w' : World} (h : MaxAt w) (hb : Below w.heap.size w w') : MaxAt w' := by
  obtain ⟨m, hm⟩ := h
  exact ⟨m, (hb.cell (World.block_lt_of_cell? _ _ hm)).trans hm⟩
/-- What is read behind a place leaves. -/
inductive Went (R : Nat) (l : List UInt8) (k0 : Nat) (w : World) (e : Ending) (w' : World) : Prop
  | many (he : e = Fault 3) (hn : 4096 < (tokL l).length) (hb : Below R w w')
  | done (he : e = .returned (.tuple #[])) (k : Nat) (v : Value) (ps : List (Tk × Value)) (h : RdT R l k v ps w') (hk : k ≤ l.length) (hk0 : k0 < k) (hn : ps.length ≤ 4096) (hd : DataMid l k k (ps.map Prod.fst)) (hb : Below R w w')
theorem cut_q (x p : List UInt8) (w : World) (hx : x.length ≤ 65536) (hM : MaxAt w) (n : Nat) :
    Calls Try.prog 50 #[.string (S x), .string (S p)] (w.drewN n) fun e w' => e = .returned (.tuple #[.string (S (Lib.cut x p).1), .string (S (Lib.cut x p).2.1), .bool (Lib.cut x p).2.2]) ∧ ∃ m, w' = (w.drewN n).drewN m := by
  obtain ⟨m, hm⟩ := hM.kept (Oct.below_drewN (Below.refl _ w) n)
  have h := Try.strings_Cut (S x) (S p) m (w.drewN n) (by rw [size_S]; omega) hm
  rw [list_S, list_S] at h
  exact h
set_option maxHeartbeats 2000000 in
set_option maxRecDepth 100000 in
theorem bogus_c (R : Nat) (l : List UInt8) (hl : l.length ≤ 65536) (k : Nat) (hk : k + 1 < l.length) (v : Value) (ps : List (Tk × Value)) (w : World) (h : RdT R l k v ps w) (hn : ps.length ≤ 4096) (hM : MaxAt w) (h0 : l[k] = 60)
    (hc : l[k + 1] = 33 ∧ [45, 45].isPrefixOf (l.drop (k + 2)) = false ∨ l[k + 1] = 63 ∨ (l[k + 1] = 47 ∧ ∃ h2 : k + 2 < l.length, letB l[k + 2] = false)) (ho : OpenAt l k (ps.map Prod.fst)) :
    Calls Try.prog 35 #[.pointer (some ⟨R, 0, none⟩)] w (Went R l k w) := by
  have hd := bog_end hk h0 hc ho
  have hq := cut_q (l.drop k) [62] w (by rw [List.length_drop]; omega) hM
  have hle : (Lib.cut (l.drop k) [62]).2.1.length < l.length - k := by
    have e : l.drop k = 60 :: l.drop (k + 1) := by rw [List.drop_eq_getElem_cons (by omega), h0]
    rw [e, cut_skip _ _ (by decide)]
    have := (cut_le (l.drop (k + 1)) [62]).1
    rw [List.length_drop] at this
    omega
  generalize (Lib.cut (l.drop k) [62]).1 = C at hq
  generalize (Lib.cut (l.drop k) [62]).2.2 = B at hq
  generalize (Lib.cut (l.drop k) [62]).2.1 = Z at hq hd hle
  have hsz : ((S l).size : Int) = (l.length : Int) := by rw [size_S]
  have hsZ : ((S Z).size : Int) = (Z.length : Int) := by rw [size_S]
  have hj : (l.length : Int) - (Z.length : Int) = ((l.length - Z.length : Nat) : Int) := by omega
  have c0 : w.cell? ⟨R, 0, none⟩ = some (.string (S l)) := (h.box.cell 0).trans rfl
  have c1 : w.cell? ⟨R, 1, none⟩ = some (.int .i64 (k : Int)) := (h.box.cell 1).trans rfl
  have i0 : (0 : Int) ≤ (k : Int) := by omega
  have i1 : (k : Int) ≤ (l.length : Int) := by omega
  have i2 : (l.length : Int) ≤ 65536 := by omega
  have i3 : (Z.length : Int) ≤ 65536 := by omega
  have i4 : k ≤ l.length := by omega
  have hcut := (cutFrom (S l) k).trans (by rw [list_S] : S ((S l).data.toList.drop k) = S (l.drop k))
  rw [← hcut] at hq
  have hsz2 : (S l).size = l.length := size_S l
  rw [hsz2] at hq
  have HW := Lib.hid h
  have hD := Lib.hid hd
  have HX : Hid (∀ j v W, Bx R l j v W → W.cell? ⟨R, 0, none⟩ = some (.string (S l)) ∧ W.cell? ⟨R, 1, none⟩ = some (.int .i64 (j : Int)) ∧ W.frozen? ⟨R, 1, none⟩ = false) := fun j v W h => ⟨(h.cell 0).trans rfl, (h.cell 1).trans rfl, h.froz 1⟩
  clear h0 hc ho hM hcut hd h
  generalize S l = L at *
  generalize S Z = ZS at *
  generalize S C = CS at *
  go_enter Try.func35, Try.ntmps35
  go_wp2
  go_quiet ((go_at_call 50; exact Calls.quiet_of (hq _)))
  have T := HW.out.grow (Oct.below_drewN (Below.refl _ w) nq)
  have hb1 : Below R w (w.drewN nq) := (Oct.below_drewN (Below.refl _ w) nq).mono HW.out.low
  have HB1 := Lib.hid hb1
  generalize w.drewN nq = W at T HB1 ⊢
  obtain ⟨x0, x1, z1⟩ := HX.out _ _ _ T.box
  have HT := Lib.hid T
  clear T c0 c1 hb1
  go_wp2
  go_end0
  exact .done rfl (l.length - Z.length) v ps (HT.out.keep (Keeps.set _ _) (HT.out.box.at_ _)) (by omega) (by omega) hn hD.out (HB1.out.trans ((Keeps.set W _).below HT.out.low))
set_option maxHeartbeats 2000000 in
set_option maxRecDepth 100000 in
theorem comment_c (R : Nat) (l : List UInt8) (hl : l.length ≤ 65536) (k : Nat) (hk : k + 3 < l.length) (v : Value) (ps : List (Tk × Value)) (w : World) (h : RdT R l k v ps w) (hn : ps.length ≤ 4096) (hM : MaxAt w)
    (hp : [60, 33, 45, 45].isPrefixOf (l.drop k) = true) (ho : OpenAt l k (ps.map Prod.fst)) :
    Calls Try.prog 34 #[.pointer (some ⟨R, 0, none⟩)] w (Went R l k w) := by
  have hd := com_end hp ho
  have hq := cut_q (l.drop (k + 4)) [45, 45, 62] w (by rw [List.length_drop]; omega) hM
  have hle := (cut_le (l.drop (k + 4)) [45, 45, 62]).1
  rw [List.length_drop] at hle
  have hcl := fun W => tclone_c (S (Lib.cut (l.drop (k + 4)) [45, 45, 62]).1) W (by
    rw [size_S]
    unfold Lib.cut
    split
    · show ((l.drop (k + 4)).take _).length ≤ _
      rw [List.length_take, List.length_drop]
      omega
    · show (l.drop (k + 4)).length ≤ _
      rw [List.length_drop]
      omega)
  generalize (Lib.cut (l.drop (k + 4)) [45, 45, 62]).1 = C at hq hd hcl
  generalize (Lib.cut (l.drop (k + 4)) [45, 45, 62]).2.2 = B at hq
  generalize (Lib.cut (l.drop (k + 4)) [45, 45, 62]).2.1 = Z at hq hd hle
  have htl : Hid (∀ W, RdT R l (l.length - Z.length) v ps W → Calls Try.prog 36 #[.pointer (some ⟨R, 0, none⟩), .agg #[.int .i64 4, .string ⟨#[]⟩, .string (S C), .slice none 0 0, .bool false]] W (Told R l (l.length - Z.length) v ps (ps ++ [(⟨4, [], C, [], false⟩, .slice none 0 0)]) W)) := fun W hW =>
    tell_c R l (l.length - Z.length) v ps W hW ⟨4, [], C, [], false⟩ (.slice none 0 0) (World.ownsRow_nil _ _ _ _) (nil_sep _) hn
  have hsz : ((S l).size : Int) = (l.length : Int) := by rw [size_S]
  have hsZ : ((S Z).size : Int) = (Z.length : Int) := by rw [size_S]
  have hj : (l.length : Int) - (Z.length : Int) = ((l.length - Z.length : Nat) : Int) := by omega
  have c0 : w.cell? ⟨R, 0, none⟩ = some (.string (S l)) := (h.box.cell 0).trans rfl
  have c1 : w.cell? ⟨R, 1, none⟩ = some (.int .i64 (k : Int)) := (h.box.cell 1).trans rfl
  have i0 : (0 : Int) ≤ (k : Int) + 4 := by omega
  have i1 : (k : Int) + 4 ≤ (l.length : Int) := by omega
  have i2 : (l.length : Int) ≤ 65536 := by omega
  have i3 : (Z.length : Int) ≤ 65536 := by omega
  have i4 : k + 4 ≤ l.length := by omega
  have i5 : ((k : Int) + 4).toNat = k + 4 := by omega
  have i6 : (0 : Int) ≤ (k : Int) := by omega
  have i7 : IntKind.i64.wrap ((k : Int) + 4) = (k : Int) + 4 := by rw [IntKind.wrap_i64]; omega
  have hcut := (cutFrom (S l) (k + 4)).trans (by rw [list_S] : S ((S l).data.toList.drop (k + 4)) = S (l.drop (k + 4)))
  rw [← hcut] at hq
  have hsz2 : (S l).size = l.length := size_S l
  rw [hsz2] at hq
  have HW := Lib.hid h
  have hD := Lib.hid hd
  have HX : Hid (∀ j v W, Bx R l j v W → W.cell? ⟨R, 0, none⟩ = some (.string (S l)) ∧ W.cell? ⟨R, 1, none⟩ = some (.int .i64 (j : Int)) ∧ W.frozen? ⟨R, 1, none⟩ = false) := fun j v W h => ⟨(h.cell 0).trans rfl, (h.cell 1).trans rfl, h.froz 1⟩
  clear ho hM hcut hd h hp
  generalize S l = L at *
  generalize S Z = ZS at *
  generalize S C = CS at *
  go_enter Try.func34, Try.ntmps34
  go_wp2
  go_quiet ((go_at_call 50; exact Calls.quiet_of (hq _)))
  have T := HW.out.grow (Oct.below_drewN (Below.refl _ w) nq)
  have hb1 : Below R w (w.drewN nq) := (Oct.below_drewN (Below.refl _ w) nq).mono HW.out.low
  have HB1 := Lib.hid hb1
  generalize w.drewN nq = W at T HB1 ⊢
  obtain ⟨x0, x1, z1⟩ := HX.out _ _ _ T.box
  have HT := Lib.hid (And.intro (T.keep (Keeps.set _ _) (T.box.at_ (l.length - Z.length))) (HB1.out.trans ((Keeps.set (R := R) (i := 1) W (.int .i64 ((l.length - Z.length : Nat) : Int))).below T.low)))
  clear T c0 c1 hb1
  go_wp2_with (go_at_call 51; refine (hcl _).mono ?_; rintro e2 w2 ⟨rfl, h2⟩)
  have hlow := HT.out.1.low
  have T2 := HT.out.1.grow h2
  have HB2 := Lib.hid (HT.out.2.trans (h2.mono hlow))
  have HL := Lib.hid (And.intro (own_ge T2.out) T2.low)
  refine (htl.out w2 T2).mono ?_
  intro e3 w3 ht
  cases ht with
  | many he hn3 hb3 =>
    subst he
    refine ⟨rfl, .many rfl ?_ (HB2.out.trans hb3)⟩
    have := mid_len hD.out
    rw [List.length_append] at this hn3
    rw [List.length_map] at this
    exact Nat.lt_of_lt_of_le hn3 this
  | done he hn3 v3 h3 hm3 =>
    subst he
    go_wp2_with fail
    go_end0
    exact .done rfl (l.length - Z.length) v3 _ h3 (by omega) (by omega) hn3 (by rw [List.map_append]; exact hD.out) (HB2.out.trans (hm3.below HL.out.2 HL.out.1))
end Go.Proofs.Ytidfcajhmldieaa.Tkc

/-
  A scope in which the run jumps to several labels: what holds at each of them, and a measure that every way from a label to a label lowers.
-/
namespace Go.Proofs.Ytidfcajhmldieaa.Tkc
open Go

/-- As Q; by a goto to a label: what holds at it. -/
def jumps (J : Nat → Act → World → Prop) (Q : Exit → Act → World → Prop) : Exit → Act → World → Prop
  | .goto l, a, w => J l a w
  | e, a, w => Q e a w
theorem jumps_mono {J J' : Nat → Act → World → Prop} {Q : Exit → Act → World → Prop} (h : ∀ l a w, J l a w → J' l a w) (e : Exit) (a : Act) (w : World) (hq : jumps J Q e a w) : jumps J' Q e a w := by
  cases e with
  | goto l => exact h l a w hq
  | normal => exact hq
  | exit id => exact hq
  | ret => exact hq
  | panic ch => exact hq
  | outgrown => exact hq
/-- What holds at a label, the measure less than n. -/
def Less (J : Nat → Act → World → Prop) (m : Nat → Act → World → Nat) (n : Nat) : Nat → Act → World → Prop := fun l a w => J l a w ∧ m l a w < n
/-- From each label the rest of the scope goes well. -/
def Goes (P : Program) (c : Code) (J : Nat → Act → World → Prop) (K : Nat → Act → World → Prop) (Q : Exit → Act → World → Prop) : Prop :=
  ∀ l a w X, K l a w → findLabel c l = some (.seq .skip X) → X.wp P (jumps J Q) a w

theorem wp_scope_many {P : Program} {c : Code} {Q : Exit → Act → World → Prop} {a : Act} {w : World} (J : Nat → Act → World → Prop) (m : Nat → Act → World → Nat)
    (first : Goes P c J J Q → c.wp P (jumps J Q) a w)
    (pass : ∀ n l a w, J l a w → m l a w = n → Goes P c (Less J m n) (Less J m n) Q → ∃ X, findLabel c l = some (.seq .skip X) ∧ X.wp P (jumps (Less J m n) Q) a w) :
    (Code.scope c).wp P Q a w := by
  have main : ∀ n l a w, J l a w → m l a w = n → ∃ X, findLabel c l = some (.seq .skip X) ∧ X.wp P (jumps (Less J m n) Q) a w := by
    intro n
    induction n using Nat.strongRecOn with
    | _ n ih =>
      intro l a w hJ hm
      refine pass n l a w hJ hm fun l' a' w' X' hl hX => ?_
      obtain ⟨Y, hY, hw⟩ := ih (m l' a' w') hl.2 l' a' w' hl.1 rfl
      rw [hX] at hY
      injection hY with hY
      injection hY with _ hY
      subst hY
      exact wp_mono hw (jumps_mono fun l a w h => ⟨h.1, Nat.lt_trans h.2 hl.2⟩)
  have hfirst := first fun l a w X hJ hX => by
    obtain ⟨Y, hY, hw⟩ := main _ l a w hJ rfl
    rw [hX] at hY
    injection hY with hY
    injection hY with _ hY
    subst hY
    exact wp_mono hw (jumps_mono fun l a w h => h.1)
  intro b k cs
  have hg : ∀ l rest, findLabel c l = some rest → gotoIn l (.inScope c :: k) = some (.code rest :: .inScope c :: k) := fun l rest hf => by simp [gotoIn, hf]
  have key : ∀ n l a w, m l a w = n → J l a w → ∃ rest, findLabel c l = some rest ∧ ∃ e a' w', Q e a' w' ∧ Arrives P (lone (b.at a (.code rest :: .inScope c :: k)) cs w) b k cs e a' w' := by
    intro n
    induction n using Nat.strongRecOn with
    | _ n ih =>
      intro l a w hn hJ
      obtain ⟨X, hX, hw⟩ := main n l a w hJ hn
      refine ⟨_, hX, ?_⟩
      have hseq : (Code.seq .skip X).wp P (jumps (Less J m n) Q) a w := wp_seq (wp_skip hw)
      obtain ⟨e, a₁, w₁, hq, harr⟩ := hseq b (.inScope c :: k) cs
      cases e with
      | normal => exact ⟨.normal, a₁, w₁, hq, Steps.trans harr (.one step_inScope)⟩
      | exit id => exact ⟨.exit id, a₁, w₁, hq, fun k' hk => harr k' (by simp [exitTo, hk])⟩
      | goto l' =>
        obtain ⟨hJ', hlt⟩ := hq
        obtain ⟨rest', hr, e₂, a₂, w₂, hq₂, harr₂⟩ := ih _ hlt l' a₁ w₁ rfl hJ'
        exact ⟨e₂, a₂, w₂, hq₂, .of_steps (harr _ (hg _ _ hr)) harr₂⟩
      | ret => exact ⟨_, a₁, w₁, hq, harr⟩
      | panic ch => exact ⟨_, a₁, w₁, hq, harr⟩
      | outgrown => exact ⟨_, a₁, w₁, hq, harr⟩
  obtain ⟨e, a₁, w₁, hq, harr⟩ := hfirst b (.inScope c :: k) cs
  cases e with
  | normal => exact ⟨.normal, a₁, w₁, hq, .head step_scope (Steps.trans harr (.one step_inScope))⟩
  | exit id => exact ⟨.exit id, a₁, w₁, hq, fun k' hk => .head step_scope (harr k' (by simp [exitTo, hk]))⟩
  | goto l' =>
    obtain ⟨rest', hr, e₂, a₂, w₂, hq₂, harr₂⟩ := key _ l' a₁ w₁ rfl hq
    exact ⟨e₂, a₂, w₂, hq₂, .of_steps (.head step_scope (harr _ (hg _ _ hr))) harr₂⟩
  | ret => exact ⟨_, a₁, w₁, hq, .of_steps (.one step_scope) harr⟩
  | panic ch => exact ⟨_, a₁, w₁, hq, .of_steps (.one step_scope) harr⟩
  | outgrown => exact ⟨_, a₁, w₁, hq, .of_steps (.one step_scope) harr⟩
end Go.Proofs.Ytidfcajhmldieaa.Tkc

/-
  Contracts of strings.Builder's copyCheck and WriteString over this translation: a builder in a block of its own takes a text; every block that is neither its own nor a row of octets stays as it was.
-/
namespace Go.Proofs.Ytidfcajhmldieaa.Build
open Go.RowKit Go.Proofs.Ytidfcajhmldieaa.Oct

theorem size_b : (Try.prog.info? 63).map (·.size) = some 2 := by kernel_rfl
theorem lies_b : liesAt Try.prog Try.prog.depth 63 (2 / Try.prog.cellsOf 63) 0 63 1 = true := by kernel_rfl
theorem info_o : (Try.prog.info? 5).map (fun i => (i.zero, i.size, i.bytes)) = some (some (.int .u8 0), 1, 1) := by kernel_rfl

set_option maxHeartbeats 2000000 in
set_option maxRecDepth 100000 in
theorem check_used (b : Nat) (w : World) (h0 : w.cell? ⟨b, 0, none⟩ = some (.pointer (some ⟨b, 0, none⟩))) :
    Calls Try.prog 54 #[.pointer (some ⟨b, 0, none⟩)] w fun e w' => e = .returned (.tuple #[]) ∧ w' = w := by
  obtain ⟨j, hj, _⟩ := Option.map_eq_some_iff.1 size_b
  have he := Lib.run_neq_ptr_same w ⟨b, 0, none⟩ Try.underlying61 hj
  go_enter Try.func54, Try.ntmps54
  go_wp2
  go_end0
  exact ⟨rfl, rfl⟩

set_option maxHeartbeats 2000000 in
set_option maxRecDepth 100000 in
theorem check_fresh (b : Nat) (w : World) (h0 : w.cell? ⟨b, 0, none⟩ = some (.pointer none)) (hsh : w.shape? b = some (63, 2)) (hfz : w.frozen? ⟨b, 0, none⟩ = false) :
    Calls Try.prog 54 #[.pointer (some ⟨b, 0, none⟩)] w fun e w' => e = .returned (.tuple #[]) ∧ w' = w.setCell ⟨b, 0, none⟩ (.pointer (some ⟨b, 0, none⟩)) := by
  obtain ⟨j, hj, hjs⟩ := Option.map_eq_some_iff.1 size_b
  go_enter Try.func54, Try.ntmps54
  go_wp2
  rw [Lib.run_to_unsafe w ⟨b, 0, none⟩ Try.underlying61 Try.underlying87 hj (by rw [hjs]; decide) hsh (Nat.zero_lt_succ 1)]
  simp only [Result.andThen]
  rw [Oper.upon_value]
  go_wp2
  rw [run_callFunc_extern Try.func74 (by kernel_rfl) (by kernel_rfl) (by kernel_rfl) (e := Extern.AbiNoEscape.same) (by kernel_rfl)]
  rw [Lib.run_noEscape]
  simp only [Result.andThen]
  rw [Oper.upon_value]
  go_wp2
  rw [Lib.run_from_unsafe w ⟨b, 0, none⟩ Try.underlying87 Try.underlying61 hj hsh lies_b]
  simp only [Result.andThen]
  rw [Oper.upon_value]
  go_wp2
  go_end0
  exact ⟨rfl, rfl⟩

/-- A builder in block b, of the call's own from B on, that holds these octets. -/
abbrev Is (B b : Nat) (l : List Value) (w : World) : Prop := Lib.IsBuilder 63 5 B b l w
/-- Every block but b and but rows of octets. -/
abbrev Others (b : Nat) (w w' : World) : Prop := Lib.OthersKept 5 (some b) w w'

theorem check_c (B b : Nat) (l : List Value) (w : World) (h : Is B b l w) :
    Calls Try.prog 54 #[.pointer (some ⟨b, 0, none⟩)] w fun e w' => e = .returned (.tuple #[]) ∧ Lib.BuilderAt 63 5 B b (.pointer (some ⟨b, 0, none⟩)) l w' ∧ Below B w w' ∧ Others b w w' := by
  rcases h with h | h
  · refine (check_fresh b w h.cell0 h.shape h.frozen0).mono ?_
    rintro e w' ⟨rfl, rfl⟩
    exact ⟨rfl, h.used _, (Below.refl B w).setCell (p := ⟨b, 0, none⟩) h.1 _, (Lib.OthersKept.refl _ _ w).setCell ⟨b, 0, none⟩ rfl _⟩
  · refine (check_used b w h.cell0).mono ?_
    rintro e w' ⟨rfl, rfl⟩
    exact ⟨rfl, h, Below.refl B _, Lib.OthersKept.refl _ _ _⟩

set_option maxHeartbeats 2000000 in
set_option maxRecDepth 100000 in
theorem write_c (B b : Nat) (l : List Value) (s : ByteArray) (w : World) (h : Is B b l w) (hlen : l.length + s.size ≤ 140737488355328) (hBw : B ≤ w.heap.size) :
    Calls Try.prog 38 #[.pointer (some ⟨b, 0, none⟩), .string s] w fun e w' => e = .returned (.tuple #[.int .i64 s.size, .nilIface]) ∧ Is B b (l ++ Lib.strCells s) w' ∧ Below B w w' ∧ Others b w w' := by
  obtain ⟨i0, hi, hz0, hz1, hz2⟩ := info_parts info_o
  have e42 : ∀ args w, (callFunc 54 args).run Try.prog w = .ok (.enter 54 args) w := enters_of Try.func54 (by kernel_rfl) rfl
  go_enter Try.func38, Try.ntmps38
  go_wp2_with (go_at_fn 54; refine (check_c B b l _ h).mono ?_)
  rintro e w1 ⟨rfl, h1, hb1, hk1⟩
  obtain ⟨hB, v, hbk, hown, hne⟩ := h1
  have c0 : w1.cell? ⟨b, 0, none⟩ = some (.pointer (some ⟨b, 0, none⟩)) := by rw [Lib.cell_of_heap hbk]; rfl
  have c1 : w1.cell? ⟨b, 1, none⟩ = some v := by rw [Lib.cell_of_heap hbk]; rfl
  go_wp2_with (at_builtin; refine Lib.wpList_append_own_string _ rfl _ _ 39 9 rfl B 5 i0 Try.underlying39 Try.underlying9 hi hz0 hz1 hz2 _ _ _ rfl hown s rfl ?c3 ?c4 ?c5 ?_)
  case c3 => unfold maxLen; omega
  case c4 => omega
  case c5 => have := hb1.size; omega
  intro v' w2 hown' hgrow _
  have hlt : b < w1.heap.size := (Array.getElem?_eq_some_iff.1 hbk).1
  have hb2 : w2.heap[b]? = some (.cells #[.pointer (some ⟨b, 0, none⟩), v] 63 (0, 0)) := by
    rw [hgrow.block b hlt (fun e => hne e.symm)]
    exact hbk
  have d0 : w2.cell? ⟨b, 0, none⟩ = some (.pointer (some ⟨b, 0, none⟩)) := by rw [Lib.cell_of_heap hb2]; rfl
  have d1 : w2.cell? ⟨b, 1, none⟩ = some v := by rw [Lib.cell_of_heap hb2]; rfl
  have f1 : w2.frozen? ⟨b, 1, none⟩ = false := Lib.frozen_of_heap hb2 1
  obtain ⟨ao, n', cap, rfl⟩ : ∃ ao n' cap, v' = .slice ao n' cap := by
    rcases hown'.2 with ⟨hv, _⟩ | ⟨g, cap, cur, hv, _⟩
    · exact ⟨_, _, _, hv⟩
    · exact ⟨_, _, _, hv⟩
  have hrow : ∀ g, v.ownBlock = some g → ∃ c fz, w1.heap[g]? = some (.cells c 5 fz) := by
    intro g hg
    rcases hown.2 with ⟨hv, _⟩ | ⟨g', cap', cur, hv, _, hc, _⟩
    · rw [hv] at hg; cases hg
    · rw [hv] at hg; cases hg; exact ⟨_, _, hc⟩
  go_wp2
  go_ret2
  refine ⟨rfl, ?_, ?_, (hk1.grown hgrow hrow).setCell ⟨b, 1, none⟩ rfl _⟩
  · exact .inr (Lib.BuilderAt.put (T := 63) (e := 5) hB hb2 (bs' := l ++ Lib.strCells s) (by simpa [Lib.strCells_length] using hown') (by decide))
  · exact (hb1.grown hgrow (by have := hb1.size; omega) (fun k hk => (hown.lt k hk).1)).setCell (p := ⟨b, 1, none⟩) hB _
end Go.Proofs.Ytidfcajhmldieaa.Build

/-
  Contracts of Escape and Decode of package refs.
-/
namespace Go.Proofs.Ytidfcajhmldieaa.Crf
open Go.RowKit Go.Proofs.Ytidfcajhmldieaa.Oct Go.Proofs.Ytidfcajhmldieaa.Num Go.Proofs.Ytidfcajhmldieaa.Utf Go.Proofs.Ytidfcajhmldieaa.Build
open Go.Lib (encodeRune)

theorem enter_write : ∀ args w, (callFunc 38 args).run Try.prog w = .ok (.enter 38 args) w := enters_of Try.func38 (by kernel_rfl) rfl
theorem enter_string : ∀ args w, (callFunc 39 args).run Try.prog w = .ok (.enter 39 args) w := enters_of Try.func39 (by kernel_rfl) rfl

/-- The builder in block b holds these octets. -/
abbrev Has (B b : Nat) (l : List UInt8) (w : World) : Prop := Is B b (Lib.byteCells l) w
theorem has_below {B b : Nat} {l : List UInt8} {W W' : World} (h : Has B b l W) (hb : Below W.heap.size W W') : Has B b l W' := by
  have one : ∀ p, Lib.BuilderAt 63 5 B b p (Lib.byteCells l) W → Lib.BuilderAt 63 5 B b p (Lib.byteCells l) W' := fun p h => by
    have hlt := h.lt
    obtain ⟨h1, v, h2, h3, h4⟩ := h
    refine ⟨h1, v, by rw [hb.block b hlt]; exact h2, ?_, h4⟩
    refine h3.kept (row := none) ⟨hb.os, hb.tape, hb.output, hb.size, fun k hk _ => hb.block k hk⟩ ?_
    rcases h3.2 with ⟨rfl, _⟩ | ⟨g, cap, cur, rfl, _⟩
    · exact .inl rfl
    · exact .inr (by simp [Value.ownBlock])
  rcases h with h | h
  · exact .inl (one _ h)
  · exact .inr (one _ h)
theorem has_lt {B b : Nat} {l : List UInt8} {W : World} (h : Has B b l W) : B ≤ b ∧ b < W.heap.size := by
  rcases h with h | h
  · exact ⟨h.1, h.lt⟩
  · exact ⟨h.1, h.lt⟩
theorem has_fresh (w : World) : Has w.heap.size w.heap.size [] (w.alloc (.cells #[.pointer none, .slice none 0 0] 63)) :=
  .inl ⟨Nat.le_refl _, .slice none 0 0, heap_alloc_new w _, ⟨rfl, .inl ⟨rfl, rfl⟩⟩, by simp [Value.ownBlock]⟩
theorem put_c (B b : Nat) (l t : List UInt8) (w : World) (h : Has B b l w) (hlen : l.length + t.length ≤ 140737488355328) :
    Calls Try.prog 38 #[.pointer (some ⟨b, 0, none⟩), .string (S t)] w fun e w' => e = .returned (.tuple #[.int .i64 (S t).size, .nilIface]) ∧ Has B b (l ++ t) w' ∧ Below B w w' := by
  have hb := has_lt h
  have hc := write_c B b (Lib.byteCells l) (S t) w h (by rw [Lib.byteCells_length, size_S]; exact hlen) (by omega)
  rw [Lib.strCells_eq, ← Lib.byteCells_append, list_S] at hc
  exact hc.mono fun e w' ⟨h1, h2, h3, _⟩ => ⟨h1, h2, h3⟩

set_option maxHeartbeats 4000000 in
set_option maxRecDepth 100000 in
theorem decode_c (l : List UInt8) (hl : l.length ≤ 4398046511104) (w : World) :
    Calls Try.prog 24 #[.string (S l)] w fun e w' => e = .returned (.string (S (decL' l))) ∧ Below w.heap.size w w' := by
  have hsz : ((S l).size : Int) = (l.length : Int) := by rw [size_S]
  have hone := Lib.hid (fun k (h : k < l.length) => cutOne l k h)
  have hfrom := Lib.hid (fun k => (cutFrom (S l) k).trans (by rw [list_S] : S ((S l).data.toList.drop k) = S (l.drop k)))
  have e1 := enter_write
  have e2 := enter_string
  generalize S l = L at hsz hone hfrom
  have H0 : Hid (Has w.heap.size w.heap.size [] (w.alloc (.cells #[.pointer none, .slice none 0 0] 63)) ∧ Below w.heap.size w (w.alloc (.cells #[.pointer none, .slice none 0 0] 63))) :=
    ⟨has_fresh w, (Below.refl _ w).alloc (Nat.le_refl _) _⟩
  go_enter Try.func24, Try.ntmps24
  go_wp2_with fail
  go_loopw [4, 10] (fun m i wr => ∃ k t : Nat, k ≤ t ∧ t ≤ l.length ∧ i = .int .i64 k ∧ m = .int .i64 t ∧ ∃ o, o.length ≤ 4 * t ∧ Hid (o ++ decL' (l.drop t) = decL' l) ∧ Hid (Has w.heap.size w.heap.size o wr ∧ Below w.heap.size w wr)) (fun _ i _ => l.length - (intOf i).toNat)
  case atStart => exact ⟨0, 0, Nat.zero_le _, Nat.zero_le _, rfl, rfl, [], by simp, rfl, H0⟩
  case round =>
    clear H0
    obtain ⟨k, t, hkt, htl, rfl, rfl, o, hol, ho, hr⟩ := hrel
    by_cases hlt : k < l.length
    · by_cases hk2 : k < t
      · have i0 : (k : Int) < (l.length : Int) := by omega
        have i1 : (k : Int) < (t : Int) := by omega
        go_wp2_with fail
        go_roundw
        case rel => exact ⟨k + 1, t, by omega, htl, by go_num, rfl, o, hol, ho, hr⟩
        case measure => simp [intOf]; omega
      · have hkt2 : t = k := by omega
        subst hkt2
        have hrd := read_c (l.drop t) (by rw [List.length_drop]; omega) wr
        have hf := hfrom.out t
        have hslen := one_slen (l.drop t)
        have hlen := one_len (l.drop t)
        rw [List.length_drop] at hlen
        rw [← hf] at hrd
        have i0 : (0 : Int) ≤ (t : Int) := by omega
        have i1 : (t : Int) < (l.length : Int) := by omega
        have i2 : (t : Int) + 1 ≤ (l.length : Int) := by omega
        have i3 : (t : Int) ≤ (t : Int) + 1 := by omega
        have i4 : ((t : Int) + 1).toNat = t + 1 := by omega
        have i5 : (t : Int) ≤ (l.length : Int) := by omega
        by_cases hz : (oneL (l.drop t)).2 = 0
        · have hp := fun W (h : Has w.heap.size w.heap.size o W) => put_c w.heap.size w.heap.size o [l[t]] W h (by simp; omega)
          have h1 := hone.out t hlt
          have HN : Hid ((o ++ [l[t]]) ++ decL' (l.drop (t + 1)) = decL' l) := by
            show _ = _
            rw [← ho.out, List.append_assoc]
            congr 1
            have e : l.drop t = l[t] :: l.drop (t + 1) := List.drop_eq_getElem_cons hlt
            rw [e] at hz ⊢
            rw [dec_plain _ _ hz]
            rfl
          rw [one_zero hz] at hrd
          have HP := Lib.hid hp
          generalize l[t] = c at h1 HP HN
          have hH := Lib.hid (fun w2 (hb2 : Below wr.heap.size wr w2) => And.intro (has_below hr.out.1 hb2) (hr.out.2.trans (hb2.mono hr.out.2.size)))
          clear hf hp hz hslen hlen
          generalize hSC : S [c] = SC at h1 HP
          clear hSC
          go_wp2_with (first
            | (go_at_call 37; refine hrd.mono ?_; rintro e w2 ⟨rfl, hb2⟩; have HB2 := Lib.hid (hH.out w2 hb2); clear hb2)
            | (go_at_fn 38; refine (HP.out _ HB2.out.1).mono ?_; rintro e w3 ⟨rfl, h3, h4⟩; have HN3 := Lib.hid (And.intro h3 (HB2.out.2.trans h4)); clear h3 h4))
          go_roundw
          case rel => exact ⟨t + 1, t + 1, by omega, by omega, by go_num, by go_num, o ++ [c], by rw [List.length_append, List.length_singleton]; omega, HN, HN3⟩
          case measure => simp [intOf]; omega
        · have hp := fun W (h : Has w.heap.size w.heap.size o W) => put_c w.heap.size w.heap.size o (oneL (l.drop t)).1 W h (by omega)
          have HN : Hid ((o ++ (oneL (l.drop t)).1) ++ decL' (l.drop (t + (oneL (l.drop t)).2)) = decL' l) := by
            show _ = _
            rw [← ho.out, List.append_assoc]
            congr 1
            rw [dec_ref _ hz, List.drop_drop]
          have hz1 : 0 < (oneL (l.drop t)).2 := by omega
          have hzb : (((oneL (l.drop t)).2 : Int) == 0) = false := by simp; exact hz
          have HP := Lib.hid hp
          clear hp hz
          generalize (oneL (l.drop t)).1 = st at hrd HP HN hslen
          generalize (oneL (l.drop t)).2 = n at hrd HN hlen hz1 hzb
          have hH := Lib.hid (fun w2 (hb2 : Below wr.heap.size wr w2) => And.intro (has_below hr.out.1 hb2) (hr.out.2.trans (hb2.mono hr.out.2.size)))
          clear hf
          generalize S st = SC at hrd HP
          go_wp2_with (first
            | (go_at_call 37; refine hrd.mono ?_; rintro e w2 ⟨rfl, hb2⟩; have HB2 := Lib.hid (hH.out w2 hb2); clear hb2)
            | (go_at_fn 38; refine (HP.out _ HB2.out.1).mono ?_; rintro e w3 ⟨rfl, h3, h4⟩; have HN3 := Lib.hid (And.intro h3 (HB2.out.2.trans h4)); clear h3 h4))
          go_roundw
          case rel => exact ⟨t + 1, t + n, by omega, by omega, by go_num, by go_num, o ++ st, by rw [List.length_append]; omega, HN, HN3⟩
          case measure => simp [intOf]; omega
    · have hkl : t = l.length := by omega
      have hkl2 : k = l.length := by omega
      subst hkl2
      have HR : Hid (Has w.heap.size w.heap.size (decL' l) wr) := by
        have h1 := ho.out
        rw [hkl, List.drop_length, dec_nil', List.append_nil] at h1
        rw [← h1]
        exact hr.out.1
      have HS := Lib.hid (fun W (h : Has w.heap.size w.heap.size (decL' l) W) => Try.Builder_String_any w.heap.size w.heap.size (decL' l) W h (Nat.le_of_lt (has_lt h).2))
      clear hkl
      go_wp2_with (go_at_fn 39; refine (HS.out _ HR.out).mono ?_; rintro e w3 ⟨rfl, h3⟩)
      go_ret
      exact ⟨rfl, hr.out.2.trans h3⟩
end Go.Proofs.Ytidfcajhmldieaa.Crf

/-
  A tag on its way in memory: the boxes that the function tag lays, and its attributes' list; contracts of lower and of the closure that puts a value.
-/
namespace Go.Proofs.Ytidfcajhmldieaa.Tkc
open Go.RowKit Go.Proofs.Ytidfcajhmldieaa.Oct Go.Proofs.Ytidfcajhmldieaa.Utf Go.Proofs.Ytidfcajhmldieaa.Crf Go.Proofs.Ytidfcajhmldieaa.Tab Go.Proofs.Ytidfcajhmldieaa.Tok

abbrev zeroT : Array Value := #[.int .i64 0, .string ⟨#[]⟩, .string ⟨#[]⟩, .slice none 0 0, .bool false]
abbrev tagC (nm : List UInt8) (va : Value) (cl : Bool) : Array Value := #[.int .i64 0, .string (S nm), .string ⟨#[]⟩, va, .bool cl]
/-- The tag on its way: nm its name, al its attributes, va their list, f where what is read began, qs the quote. -/
structure TagW (R : Nat) (l : List UInt8) (vo : Value) (w0 : World) (k : Nat) (nm : List UInt8) (cl : Bool) (va : Value) (al : List At) (f : Nat) (qs : List UInt8) (w : World) : Prop where
  box : Bx R l k vo w
  b1 : w.heap[w0.heap.size]? = some (.cells #[.pointer (some ⟨R, 0, none⟩)] 52 (0, 0))
  b2 : w.heap[w0.heap.size + 1]? = some (.cells zeroT 31 (0, 0))
  b4 : w.heap[w0.heap.size + 2]? = some (.cells (tagC nm va cl) 31 (0, 0))
  b5 : w.heap[w0.heap.size + 3]? = some (.cells #[.int .i64 (f : Int)] 3 (0, 0))
  b6 : w.heap[w0.heap.size + 4]? = some (.cells #[.string (S qs)] 9 (0, 0))
  att : AtR (w0.heap.size + 5) w va al
  keeps : Keeps R w0 w
  low : R < w0.heap.size
section
variable {R : Nat} {l : List UInt8} {vo : Value} {w0 : World} {k : Nat} {nm : List UInt8} {cl : Bool} {va : Value} {al : List At} {f : Nat} {qs : List UInt8} {w : World}
theorem TagW.size (h : TagW R l vo w0 k nm cl va al f qs w) : w0.heap.size + 4 < w.heap.size := (Array.getElem?_eq_some_iff.1 h.b6).1
theorem TagW.keep {w' : World} {j : Nat} (h : TagW R l vo w0 k nm cl va al f qs w) (hk : Keeps R w w') (hb : Bx R l j vo w') : TagW R l vo w0 j nm cl va al f qs w' := by
  have hs := h.size
  have hR := h.low
  exact { box := hb, b1 := (hk.block _ (by omega) (by omega)).trans h.b1, b2 := (hk.block _ (by omega) (by omega)).trans h.b2, b4 := (hk.block _ (by omega) (by omega)).trans h.b4, b5 := (hk.block _ (by omega) (by omega)).trans h.b5, b6 := (hk.block _ (by omega) (by omega)).trans h.b6, att := own_same h.att fun b hb he => hk.block b (own_lt h.att b he) (by omega), keeps := h.keeps.trans hk, low := hR }
theorem TagW.grow {w' : World} (h : TagW R l vo w0 k nm cl va al f qs w) (hb : Below w.heap.size w w') : TagW R l vo w0 k nm cl va al f qs w' := h.keep (Keeps.of hb) (h.box.keep hb)
theorem TagW.c1 (h : TagW R l vo w0 k nm cl va al f qs w) : w.cell? ⟨w0.heap.size, 0, none⟩ = some (.pointer (some ⟨R, 0, none⟩)) := (cell_of_row w _ 0 _ _ _ h.b1).trans rfl
theorem TagW.c2 (h : TagW R l vo w0 k nm cl va al f qs w) (i : Nat) : w.cell? ⟨w0.heap.size + 1, i, none⟩ = zeroT[i]? := cell_of_row w _ i _ _ _ h.b2
theorem TagW.c4 (h : TagW R l vo w0 k nm cl va al f qs w) (i : Nat) : w.cell? ⟨w0.heap.size + 2, i, none⟩ = (tagC nm va cl)[i]? := cell_of_row w _ i _ _ _ h.b4
theorem TagW.cv (h : TagW R l vo w0 k nm cl va al f qs w) : w.cell? ⟨w0.heap.size + 2, 3, none⟩ = some va := (h.c4 3).trans rfl
theorem TagW.cn (h : TagW R l vo w0 k nm cl va al f qs w) : w.cell? ⟨w0.heap.size + 2, 1, none⟩ = some (.string (S nm)) := (h.c4 1).trans rfl
theorem TagW.cc (h : TagW R l vo w0 k nm cl va al f qs w) : w.cell? ⟨w0.heap.size + 2, 4, none⟩ = some (.bool cl) := (h.c4 4).trans rfl
theorem TagW.ck (h : TagW R l vo w0 k nm cl va al f qs w) : w.cell? ⟨w0.heap.size + 2, 0, none⟩ = some (.int .i64 0) := (h.c4 0).trans rfl
theorem TagW.cx (h : TagW R l vo w0 k nm cl va al f qs w) : w.cell? ⟨w0.heap.size + 2, 2, none⟩ = some (.string ⟨#[]⟩) := (h.c4 2).trans rfl
theorem TagW.c5 (h : TagW R l vo w0 k nm cl va al f qs w) : w.cell? ⟨w0.heap.size + 3, 0, none⟩ = some (.int .i64 (f : Int)) := (cell_of_row w _ 0 _ _ _ h.b5).trans rfl
theorem TagW.c6 (h : TagW R l vo w0 k nm cl va al f qs w) : w.cell? ⟨w0.heap.size + 4, 0, none⟩ = some (.string (S qs)) := (cell_of_row w _ 0 _ _ _ h.b6).trans rfl
theorem TagW.z2 (h : TagW R l vo w0 k nm cl va al f qs w) (i : Nat) : w.frozen? ⟨w0.heap.size + 1, i, none⟩ = false := frozen_of_row w _ i _ _ h.b2
theorem TagW.z4 (h : TagW R l vo w0 k nm cl va al f qs w) (i : Nat) : w.frozen? ⟨w0.heap.size + 2, i, none⟩ = false := frozen_of_row w _ i _ _ h.b4
theorem TagW.z5 (h : TagW R l vo w0 k nm cl va al f qs w) : w.frozen? ⟨w0.heap.size + 3, 0, none⟩ = false := frozen_of_row w _ 0 _ _ h.b5
theorem TagW.z6 (h : TagW R l vo w0 k nm cl va al f qs w) : w.frozen? ⟨w0.heap.size + 4, 0, none⟩ = false := frozen_of_row w _ 0 _ _ h.b6
theorem Keeps.high {R : Nat} {a w : World} (h : Keeps R a w) {b i : Nat} (hb : a.heap.size ≤ b) (v : Value) : Keeps R a (w.setCell ⟨b, i, none⟩ v) :=
  ⟨h.os, h.tape, h.output, by simp [World.setCell]; exact h.size, fun k hk hR => (heap_setCell_other _ _ _ _ (by simp; omega)).trans (h.block k hk hR)⟩
theorem set_oth {w : World} {b i c : Nat} {v : Value} {o : Option Obj} (hc : c ≠ b) (h : w.heap[c]? = o) : (w.setCell ⟨b, i, none⟩ v).heap[c]? = o := (heap_setCell_other _ _ _ _ (by simpa using hc)).trans h
/-- A box of the tag's is written, its list is not. -/
theorem TagW.setF (h : TagW R l vo w0 k nm cl va al f qs w) (g : Nat) : TagW R l vo w0 k nm cl va al g qs (w.setCell ⟨w0.heap.size + 3, 0, none⟩ (.int .i64 (g : Int))) where
  box := set_oth (by have := h.low; omega) h.box
  b1 := set_oth (by omega) h.b1
  b2 := set_oth (by omega) h.b2
  b4 := set_oth (by omega) h.b4
  b5 := heap_setCell_same _ _ 0 _ _ _ h.b5
  b6 := set_oth (by omega) h.b6
  att := own_same h.att fun b hb _ => set_oth (by omega) rfl
  keeps := h.keeps.high (by omega) _
  low := h.low
theorem TagW.setQ (h : TagW R l vo w0 k nm cl va al f qs w) (q : List UInt8) : TagW R l vo w0 k nm cl va al f q (w.setCell ⟨w0.heap.size + 4, 0, none⟩ (.string (S q))) where
  box := set_oth (by have := h.low; omega) h.box
  b1 := set_oth (by omega) h.b1
  b2 := set_oth (by omega) h.b2
  b4 := set_oth (by omega) h.b4
  b5 := set_oth (by omega) h.b5
  b6 := heap_setCell_same _ _ 0 _ _ _ h.b6
  att := own_same h.att fun b hb _ => set_oth (by omega) rfl
  keeps := h.keeps.high (by omega) _
  low := h.low
theorem TagW.setN (h : TagW R l vo w0 k nm cl va al f qs w) (n : List UInt8) : TagW R l vo w0 k n cl va al f qs (w.setCell ⟨w0.heap.size + 2, 1, none⟩ (.string (S n))) where
  box := set_oth (by have := h.low; omega) h.box
  b1 := set_oth (by omega) h.b1
  b2 := set_oth (by omega) h.b2
  b4 := heap_setCell_same _ _ 1 _ _ _ h.b4
  b5 := set_oth (by omega) h.b5
  b6 := set_oth (by omega) h.b6
  att := own_same h.att fun b hb _ => set_oth (by omega) rfl
  keeps := h.keeps.high (by omega) _
  low := h.low
theorem TagW.setC (h : TagW R l vo w0 k nm cl va al f qs w) (b : Bool) : TagW R l vo w0 k nm b va al f qs (w.setCell ⟨w0.heap.size + 2, 4, none⟩ (.bool b)) where
  box := set_oth (by have := h.low; omega) h.box
  b1 := set_oth (by omega) h.b1
  b2 := set_oth (by omega) h.b2
  b4 := heap_setCell_same _ _ 4 _ _ _ h.b4
  b5 := set_oth (by omega) h.b5
  b6 := set_oth (by omega) h.b6
  att := own_same h.att fun b hb _ => set_oth (by omega) rfl
  keeps := h.keeps.high (by omega) _
  low := h.low
theorem own_form' {w : World} {base n size : Nat} {e : TypeId} {v : Value} {xs : List Value} (h : w.ownsRow base e size v n xs) : ∃ p c, v = .slice p n c := by
  rcases h.2 with ⟨rfl, h0⟩ | ⟨g, cap, cur, rfl, _⟩
  · exact ⟨none, 0, by rw [h0]⟩
  · exact ⟨_, _, rfl⟩
theorem flat_len (al : List At) : (al.flatMap atCs).length = al.length * 2 := by
  induction al with
  | nil => rfl
  | cons a al ih =>
    rw [List.flatMap_cons, List.length_append, ih]
    show 2 + al.length * 2 = (al.length + 1) * 2
    omega
theorem flat_last (al : List At) (a : At) (v : List UInt8) : ((al ++ [a]).flatMap atCs).set (al.length * 2 + 1) (.string (S v)) = (al ++ [(⟨a.n, v⟩ : At)]).flatMap atCs := by
  have hl : (al.flatMap atCs).length = al.length * 2 := flat_len al
  rw [List.flatMap_append, List.flatMap_append, List.set_append_right _ _ (by omega), hl, Nat.add_sub_cancel_left]
  rfl
/-- The last attribute's value is put. -/
theorem TagW.setV {a : At} {g n cap : Nat} (h : TagW R l vo w0 k nm cl (.slice (some ⟨g, 0, none⟩) n cap) (al ++ [a]) f qs w) (v : List UInt8) : TagW R l vo w0 k nm cl (.slice (some ⟨g, 0, none⟩) n cap) (al ++ [⟨a.n, v⟩]) f qs (w.setCell ⟨g, al.length * 2 + 1, none⟩ (.string (S v))) := by
  have hg : w0.heap.size + 5 ≤ g := own_ge h.att g rfl
  exact {
    box := set_oth (by have := h.low; omega) h.box
    b1 := set_oth (by omega) h.b1
    b2 := set_oth (by omega) h.b2
    b4 := set_oth (by omega) h.b4
    b5 := set_oth (by omega) h.b5
    b6 := set_oth (by omega) h.b6
    att := by
      have hs := h.att
      unfold AtR at hs ⊢
      have e : n = (al ++ [a]).length := by
        obtain ⟨p, c, e⟩ := own_form' hs
        injection e
      subst e
      have hq := (World.ownsRow.stored hs (al.length * 2 + 1) (.string (S v))).1
      rw [flat_last] at hq
      have hn : (al ++ [⟨a.n, v⟩] : List At).length = (al ++ [a]).length := by simp
      rw [hn]
      exact hq
    keeps := h.keeps.high (by omega) _
    low := h.low }
/-- An attribute is put to the tag. -/
theorem TagW.push {w3 : World} {v' : Value} (h : TagW R l vo w0 k nm cl va al f qs w) (a : At) (o : Obj) (hown : w3.ownsRow (w0.heap.size + 5) 34 2 v' (al.length + 1) (al.flatMap atCs ++ atCs a)) (hg : (w.alloc o).grownBy w3 va.ownBlock) :
    TagW R l vo w0 k nm cl v' (al ++ [a]) f qs (w3.setCell ⟨w0.heap.size + 2, 3, none⟩ v') ∧ w3.cell? ⟨w0.heap.size + 2, 3, none⟩ = some va ∧ w3.frozen? ⟨w0.heap.size + 2, 3, none⟩ = false := by
  have hal : Below w.heap.size w (w.alloc o) := (Below.refl _ w).alloc (Nat.le_refl _) _
  have ha := h.grow hal
  have hsz := ha.size
  have hlow := ha.low
  have hge : ∀ k, va.ownBlock = some k → w0.heap.size + 5 ≤ k := fun k hk => own_ge ha.att k hk
  have hsame : ∀ k, k < w0.heap.size + 5 → w3.heap[k]? = (w.alloc o).heap[k]? := fun k hk => hg.block k (by omega) (fun e => by have := hge k e.symm; omega)
  have b4 : w3.heap[w0.heap.size + 2]? = some (.cells (tagC nm va cl) 31 (0, 0)) := (hsame _ (by omega)).trans ha.b4
  refine ⟨?_, (cell_of_row _ _ 3 _ _ _ b4).trans rfl, frozen_of_row _ _ 3 _ _ b4⟩
  exact {
    box := set_oth (by omega) ((hsame _ (by omega)).trans ha.box)
    b1 := set_oth (by omega) ((hsame _ (by omega)).trans ha.b1)
    b2 := set_oth (by omega) ((hsame _ (by omega)).trans ha.b2)
    b4 := heap_setCell_same _ _ 3 _ _ _ b4
    b5 := set_oth (by omega) ((hsame _ (by omega)).trans ha.b5)
    b6 := set_oth (by omega) ((hsame _ (by omega)).trans ha.b6)
    att := by
      show World.ownsRow _ _ _ _ _ _ _
      rw [List.length_append, List.length_singleton, List.flatMap_append]
      refine own_same (w := w3) ?_ fun b hb _ => set_oth (by omega) rfl
      simpa using hown
    keeps := Keeps.high ⟨hg.os.trans ha.keeps.os, hg.tape.trans ha.keeps.tape, hg.output.trans ha.keeps.output, Nat.le_trans ha.keeps.size hg.size, fun k hk hR => (hsame k (by omega)).trans (ha.keeps.block k hk hR)⟩ (by omega) _
    low := hlow }
end
/-! ### The letters small -/
theorem lower_c (x : List UInt8) (hx : x.length ≤ 65536) (w : World) :
    Calls Try.prog 62 #[.string (S x)] w fun e w' => e = .returned (.string (S (x.map low))) ∧ Below w.heap.size w w' := by
  have hs : (S x).size ≤ 281474976710656 := by rw [size_S]; omega
  have hl := fun w => Oct.lower_c (S x) w hs
  rw [list_S] at hl
  have hc := fun w => tclone_c (S (x.map low)) w (by rw [size_S, List.length_map]; omega)
  clear hs
  generalize S (x.map low) = Y at *
  generalize S x = X at *
  go_enter Try.func62, Try.ntmps62
  go_wp2_with (first
    | (go_at_call 76; refine (hl _).mono ?_; rintro e w1 ⟨rfl, h1⟩; have H1 := Lib.hid h1; clear h1)
    | (go_at_call 51; refine (hc _).mono ?_; rintro e w2 ⟨rfl, h2⟩; have H2 := Lib.hid (H1.out.trans (h2.mono H1.out.size)); clear h2))
  go_ret
  exact ⟨rfl, H2.out⟩

theorem grown_of {w w' : World} {q : Nat} (h : w' = w.drewN q) : Below w.heap.size w w' := h ▸ Oct.below_drewN (Below.refl _ w) q
/-! ### A value is put -/
theorem info_at : (Try.prog.info? 34).map (fun i => (i.zero, i.size, i.bytes)) = some (some (.agg #[.string ⟨#[]⟩, .string ⟨#[]⟩]), 2, 32) := by kernel_rfl
set_option maxHeartbeats 4000000 in
set_option maxRecDepth 100000 in
theorem putv_c (R : Nat) (l : List UInt8) (hl : l.length ≤ 65536) (vo : Value) (w0 : World) (k : Nat) (hk : k ≤ l.length) (nm : List UInt8) (cl : Bool) (va : Value) (al : List At) (hal : al.length ≤ 65536) (a : At) (f : Nat) (hf : f ≤ k) (qs : List UInt8) (w : World)
    (h : TagW R l vo w0 k nm cl va (al ++ [a]) f qs w) :
    Calls Try.prog 59 #[.pointer (some ⟨w0.heap.size, 0, none⟩), .pointer (some ⟨w0.heap.size + 3, 0, none⟩), .pointer (some ⟨w0.heap.size + 2, 0, none⟩)] w fun e w' =>
      e = .returned (.tuple #[]) ∧ TagW R l vo w0 k nm cl va (al ++ [⟨a.n, decL' (cut l f k)⟩]) f qs w' := by
  have hatt := h.att
  obtain ⟨p, c, hva⟩ := own_form' hatt
  obtain ⟨g, hg⟩ : ∃ g, va = .slice (some ⟨g, 0, none⟩) (al.length + 1) c := by
    rcases hatt.2 with ⟨_, h0⟩ | ⟨g, cap, cur, e, _⟩
    · simp at h0
    · rw [e] at hva
      injection hva with h1 h2 h3
      subst h3
      exact ⟨g, by rw [e]; simp⟩
  subst hg
  clear hva hatt
  have hlen : (cut l f k).length ≤ 4398046511104 := Nat.le_trans (cut_len_le l f k) (by omega)
  have hS : Hid (∀ W, TagW R l vo w0 k nm cl (.slice (some ⟨g, 0, none⟩) (al.length + 1) c) (al ++ [a]) f qs W → Calls Try.prog 25 #[.pointer (some ⟨R, 0, none⟩), .int .i64 (f : Int)] W fun e w' => e = .returned (.string (S (cut l f k))) ∧ ∃ m, w' = W.drewN m) := fun W hW => since_c R l k f vo W hW.box hf hk
  have hD : Hid (∀ W, Calls Try.prog 24 #[.string (S (cut l f k))] W fun e w' => e = .returned (.string (S (decL' (cut l f k)))) ∧ Below W.heap.size W w') := fun W => decode_c (cut l f k) hlen W
  have HV : Hid (∀ W, TagW R l vo w0 k nm cl (.slice (some ⟨g, 0, none⟩) (al.length + 1) c) (al ++ [a]) f qs W → TagW R l vo w0 k nm cl (.slice (some ⟨g, 0, none⟩) (al.length + 1) c) (al ++ [⟨a.n, decL' (cut l f k)⟩]) f qs (W.setCell ⟨g, al.length * 2 + 1, none⟩ (.string (S (decL' (cut l f k)))))) := fun W hW => hW.setV _
  have HZ : Hid (∀ W, TagW R l vo w0 k nm cl (.slice (some ⟨g, 0, none⟩) (al.length + 1) c) (al ++ [a]) f qs W → W.frozen? ⟨g, al.length * 2 + 1, none⟩ = false ∧ ∃ u, W.cell? ⟨g, al.length * 2 + 1, none⟩ = some u) := fun W hW => by
    have ha := hW.att
    unfold AtR at ha
    rw [List.length_append, List.length_singleton] at ha
    refine ⟨World.ownsRow.frozenAt ha _, (.string (S a.v)), ?_⟩
    rw [World.ownsRow.cellAt ha _ (by omega), List.flatMap_append, List.getElem?_append_right (by rw [flat_len]; omega), flat_len, Nat.add_sub_cancel_left]
    rfl
  generalize S (decL' (cut l f k)) = D at hD HV
  generalize S (cut l f k) = C at hS hD
  have hd0 := h.grow (Below.refl _ w).drew
  have o1 := hd0.c1
  have o4 := hd0.cv
  have o5 := hd0.c5
  have H0 := Lib.hid hd0
  have x1 := h.c1
  have x4 := h.cv
  have x5 := h.c5
  have i0 : (al.length : Int) ≤ 65536 := by omega
  have i1 : (0 : Int) ≤ (al.length : Int) := by omega
  generalize al.length = m at *
  have i2 : (m : Int) < (m : Int) + 1 := by omega
  have i3 : (m : Int) < ((m + 1 : Nat) : Int) := by omega
  have i4 : IntKind.i64.wrap (m : Int) = (m : Int) := by rw [IntKind.wrap_i64]; omega
  clear hd0 h hlen
  go_enter Try.func59, Try.ntmps59
  go_wp2_with fail
  go_region_held3 (fun w' => w'.cell? ⟨w0.heap.size, 0, none⟩ = some (.pointer (some ⟨R, 0, none⟩)) ∧ w'.cell? ⟨w0.heap.size + 2, 3, none⟩ = some (.slice (some ⟨g, 0, none⟩) (m + 1) c) ∧ w'.cell? ⟨w0.heap.size + 3, 0, none⟩ = some (.int .i64 (f : Int)))
    (first | with_reducible exact ⟨o1, o4, o5⟩ | with_reducible exact ⟨a1, a4, a5⟩ | with_reducible exact ⟨b1, b4, b5⟩ | with_reducible exact ⟨d1, d4, d5⟩)
    (first
      | (go_at_call 25; refine (hS.out _ H0.out).mono ?_; rintro e wA ⟨rfl, q, hwA⟩; have hA := H0.out.grow (grown_of hwA); clear hwA; have a1 := hA.c1; have a4 := hA.cv; have a5 := hA.c5; have HA := Lib.hid hA; clear hA)
      | (go_at_call 24; refine (hD.out _).mono ?_; rintro e wB ⟨rfl, hB⟩; have hT := HA.out.grow hB; have b1 := hT.c1; have b4 := hT.cv; have b5 := hT.c5; obtain ⟨fz, u, hu⟩ := HZ.out _ hT; have hU := HV.out _ hT; have d1 := hU.c1; have d4 := hU.cv; have d5 := hU.c5; have HU := Lib.hid hU; clear hT hB hU))
  go_wp2_with fail
  go_end0
  exact ⟨rfl, HU.out⟩
end Go.Proofs.Ytidfcajhmldieaa.Tkc

/-
  The function tag: its frame, what holds at each of its labels, and what it leaves.
-/
namespace Go.Proofs.Ytidfcajhmldieaa.Tkc
open Go.RowKit Go.Proofs.Ytidfcajhmldieaa.Oct Go.Proofs.Ytidfcajhmldieaa.Utf Go.Proofs.Ytidfcajhmldieaa.Crf Go.Proofs.Ytidfcajhmldieaa.Tab Go.Proofs.Ytidfcajhmldieaa.Tok

/-- The function's body within its scope. -/
def bodyOf (c : Option Code) : Code := match c with
  | some (.seq _ (.scope c)) => c
  | _ => .skip
/-- The frame: the boxes in their slots; all other slots hold whatever they hold. -/
structure Fr (R : Nat) (w0 : World) (a : Act) : Prop where
  defers : a.defers = []
  size : a.tmps.size = 112
  s0 : a.tmps[0]? = some (.pointer (some ⟨R, 0, none⟩))
  s1 : a.tmps[1]? = some (.pointer (some ⟨w0.heap.size, 0, none⟩))
  s2 : a.tmps[2]? = some (.pointer (some ⟨w0.heap.size + 1, 0, none⟩))
  s4 : a.tmps[4]? = some (.pointer (some ⟨w0.heap.size + 2, 0, none⟩))
  s5 : a.tmps[5]? = some (.pointer (some ⟨w0.heap.size + 3, 0, none⟩))
  s6 : a.tmps[6]? = some (.pointer (some ⟨w0.heap.size + 4, 0, none⟩))
  s7 : a.tmps[7]? = some (.func (.func 58) #[] #[.pointer (some ⟨w0.heap.size + 4, 0, none⟩)])
  s8 : a.tmps[8]? = some (.func (.func 59) #[] #[.pointer (some ⟨w0.heap.size, 0, none⟩), .pointer (some ⟨w0.heap.size + 3, 0, none⟩), .pointer (some ⟨w0.heap.size + 2, 0, none⟩)])
theorem cons_of {n : Nat} {l : List Value} (h : l.length = n + 1) : ∃ x t, l = x :: t ∧ t.length = n := by
  cases l with
  | nil => cases h
  | cons x t => exact ⟨x, t, rfl, by simpa using h⟩
set_option maxRecDepth 100000 in
set_option maxHeartbeats 4000000 in
theorem Fr.elim {R : Nat} {w0 : World} {P : Act → Prop} {a : Act} (h : Fr R w0 a) (hP : ∀ u3 u9 u10 u11 u12 u13 u14 u15 u16 u17 u18 u19 u20 u21 u22 u23 u24 u25 u26 u27 u28 u29 u30 u31 u32 u33 u34 u35 u36 u37 u38 u39 u40 u41 u42 u43 u44 u45 u46 u47 u48 u49 u50 u51 u52 u53 u54 u55 u56 u57 u58 u59 u60 u61 u62 u63 u64 u65 u66 u67 u68 u69 u70 u71 u72 u73 u74 u75 u76 u77 u78 u79 u80 u81 u82 u83 u84 u85 u86 u87 u88 u89 u90 u91 u92 u93 u94 u95 u96 u97 u98 u99 u100 u101 u102 u103 u104 u105 u106 u107 u108 u109 u110 u111 : Value, P { tmps := (.pointer (some ⟨R, 0, none⟩) :: .pointer (some ⟨w0.heap.size, 0, none⟩) :: .pointer (some ⟨w0.heap.size + 1, 0, none⟩) :: u3 :: .pointer (some ⟨w0.heap.size + 2, 0, none⟩) :: .pointer (some ⟨w0.heap.size + 3, 0, none⟩) :: .pointer (some ⟨w0.heap.size + 4, 0, none⟩) :: .func (.func 58) #[] #[.pointer (some ⟨w0.heap.size + 4, 0, none⟩)] :: .func (.func 59) #[] #[.pointer (some ⟨w0.heap.size, 0, none⟩), .pointer (some ⟨w0.heap.size + 3, 0, none⟩), .pointer (some ⟨w0.heap.size + 2, 0, none⟩)] :: u9 :: u10 :: u11 :: u12 :: u13 :: u14 :: u15 :: u16 :: u17 :: u18 :: u19 :: u20 :: u21 :: u22 :: u23 :: u24 :: u25 :: u26 :: u27 :: u28 :: u29 :: u30 :: u31 :: u32 :: u33 :: u34 :: u35 :: u36 :: u37 :: u38 :: u39 :: u40 :: u41 :: u42 :: u43 :: u44 :: u45 :: u46 :: u47 :: u48 :: u49 :: u50 :: u51 :: u52 :: u53 :: u54 :: u55 :: u56 :: u57 :: u58 :: u59 :: u60 :: u61 :: u62 :: u63 :: u64 :: u65 :: u66 :: u67 :: u68 :: u69 :: u70 :: u71 :: u72 :: u73 :: u74 :: u75 :: u76 :: u77 :: u78 :: u79 :: u80 :: u81 :: u82 :: u83 :: u84 :: u85 :: u86 :: u87 :: u88 :: u89 :: u90 :: u91 :: u92 :: u93 :: u94 :: u95 :: u96 :: u97 :: u98 :: u99 :: u100 :: u101 :: u102 :: u103 :: u104 :: u105 :: u106 :: u107 :: u108 :: u109 :: u110 :: u111 :: ([] : List Value)).toArray, defers := [] }) : P a := by
  obtain ⟨hd, hs, h0, h1, h2, h4, h5, h6, h7, h8⟩ := h
  obtain ⟨⟨l⟩, d⟩ := a
  simp only at hd hs
  subst hd
  have hl : l.length = 112 := hs
  clear hs
  obtain ⟨u0, t1, e0, hl⟩ := cons_of hl
  obtain ⟨u1, t2, e1, hl⟩ := cons_of hl
  obtain ⟨u2, t3, e2, hl⟩ := cons_of hl
  obtain ⟨u3, t4, e3, hl⟩ := cons_of hl
  obtain ⟨u4, t5, e4, hl⟩ := cons_of hl
  obtain ⟨u5, t6, e5, hl⟩ := cons_of hl
  obtain ⟨u6, t7, e6, hl⟩ := cons_of hl
  obtain ⟨u7, t8, e7, hl⟩ := cons_of hl
  obtain ⟨u8, t9, e8, hl⟩ := cons_of hl
  obtain ⟨u9, t10, e9, hl⟩ := cons_of hl
  obtain ⟨u10, t11, e10, hl⟩ := cons_of hl
  obtain ⟨u11, t12, e11, hl⟩ := cons_of hl
  obtain ⟨u12, t13, e12, hl⟩ := cons_of hl
  obtain ⟨u13, t14, e13, hl⟩ := cons_of hl
  obtain ⟨u14, t15, e14, hl⟩ := cons_of hl
  obtain ⟨u15, t16, e15, hl⟩ := cons_of hl
  obtain ⟨u16, t17, e16, hl⟩ := cons_of hl
  obtain ⟨u17, t18, e17, hl⟩ := cons_of hl
  obtain ⟨u18, t19, e18, hl⟩ := cons_of hl
  obtain ⟨u19, t20, e19, hl⟩ := cons_of hl
  obtain ⟨u20, t21, e20, hl⟩ := cons_of hl
  obtain ⟨u21, t22, e21, hl⟩ := cons_of hl
  obtain ⟨u22, t23, e22, hl⟩ := cons_of hl
  obtain ⟨u23, t24, e23, hl⟩ := cons_of hl
  obtain ⟨u24, t25, e24, hl⟩ := cons_of hl
  obtain ⟨u25, t26, e25, hl⟩ := cons_of hl
  obtain ⟨u26, t27, e26, hl⟩ := cons_of hl
  obtain ⟨u27, t28, e27, hl⟩ := cons_of hl
  obtain ⟨u28, t29, e28, hl⟩ := cons_of hl
  obtain ⟨u29, t30, e29, hl⟩ := cons_of hl
  obtain ⟨u30, t31, e30, hl⟩ := cons_of hl
  obtain ⟨u31, t32, e31, hl⟩ := cons_of hl
  obtain ⟨u32, t33, e32, hl⟩ := cons_of hl
  obtain ⟨u33, t34, e33, hl⟩ := cons_of hl
  obtain ⟨u34, t35, e34, hl⟩ := cons_of hl
  obtain ⟨u35, t36, e35, hl⟩ := cons_of hl
  obtain ⟨u36, t37, e36, hl⟩ := cons_of hl
  obtain ⟨u37, t38, e37, hl⟩ := cons_of hl
  obtain ⟨u38, t39, e38, hl⟩ := cons_of hl
  obtain ⟨u39, t40, e39, hl⟩ := cons_of hl
  obtain ⟨u40, t41, e40, hl⟩ := cons_of hl
  obtain ⟨u41, t42, e41, hl⟩ := cons_of hl
  obtain ⟨u42, t43, e42, hl⟩ := cons_of hl
  obtain ⟨u43, t44, e43, hl⟩ := cons_of hl
  obtain ⟨u44, t45, e44, hl⟩ := cons_of hl
  obtain ⟨u45, t46, e45, hl⟩ := cons_of hl
  obtain ⟨u46, t47, e46, hl⟩ := cons_of hl
  obtain ⟨u47, t48, e47, hl⟩ := cons_of hl
  obtain ⟨u48, t49, e48, hl⟩ := cons_of hl
  obtain ⟨u49, t50, e49, hl⟩ := cons_of hl
  obtain ⟨u50, t51, e50, hl⟩ := cons_of hl
  obtain ⟨u51, t52, e51, hl⟩ := cons_of hl
  obtain ⟨u52, t53, e52, hl⟩ := cons_of hl
  obtain ⟨u53, t54, e53, hl⟩ := cons_of hl
  obtain ⟨u54, t55, e54, hl⟩ := cons_of hl
  obtain ⟨u55, t56, e55, hl⟩ := cons_of hl
  obtain ⟨u56, t57, e56, hl⟩ := cons_of hl
  obtain ⟨u57, t58, e57, hl⟩ := cons_of hl
  obtain ⟨u58, t59, e58, hl⟩ := cons_of hl
  obtain ⟨u59, t60, e59, hl⟩ := cons_of hl
  obtain ⟨u60, t61, e60, hl⟩ := cons_of hl
  obtain ⟨u61, t62, e61, hl⟩ := cons_of hl
  obtain ⟨u62, t63, e62, hl⟩ := cons_of hl
  obtain ⟨u63, t64, e63, hl⟩ := cons_of hl
  obtain ⟨u64, t65, e64, hl⟩ := cons_of hl
  obtain ⟨u65, t66, e65, hl⟩ := cons_of hl
  obtain ⟨u66, t67, e66, hl⟩ := cons_of hl
  obtain ⟨u67, t68, e67, hl⟩ := cons_of hl
  obtain ⟨u68, t69, e68, hl⟩ := cons_of hl
  obtain ⟨u69, t70, e69, hl⟩ := cons_of hl
  obtain ⟨u70, t71, e70, hl⟩ := cons_of hl
  obtain ⟨u71, t72, e71, hl⟩ := cons_of hl
  obtain ⟨u72, t73, e72, hl⟩ := cons_of hl
  obtain ⟨u73, t74, e73, hl⟩ := cons_of hl
  obtain ⟨u74, t75, e74, hl⟩ := cons_of hl
  obtain ⟨u75, t76, e75, hl⟩ := cons_of hl
  obtain ⟨u76, t77, e76, hl⟩ := cons_of hl
  obtain ⟨u77, t78, e77, hl⟩ := cons_of hl
  obtain ⟨u78, t79, e78, hl⟩ := cons_of hl
  obtain ⟨u79, t80, e79, hl⟩ := cons_of hl
  obtain ⟨u80, t81, e80, hl⟩ := cons_of hl
  obtain ⟨u81, t82, e81, hl⟩ := cons_of hl
  obtain ⟨u82, t83, e82, hl⟩ := cons_of hl
  obtain ⟨u83, t84, e83, hl⟩ := cons_of hl
  obtain ⟨u84, t85, e84, hl⟩ := cons_of hl
  obtain ⟨u85, t86, e85, hl⟩ := cons_of hl
  obtain ⟨u86, t87, e86, hl⟩ := cons_of hl
  obtain ⟨u87, t88, e87, hl⟩ := cons_of hl
  obtain ⟨u88, t89, e88, hl⟩ := cons_of hl
  obtain ⟨u89, t90, e89, hl⟩ := cons_of hl
  obtain ⟨u90, t91, e90, hl⟩ := cons_of hl
  obtain ⟨u91, t92, e91, hl⟩ := cons_of hl
  obtain ⟨u92, t93, e92, hl⟩ := cons_of hl
  obtain ⟨u93, t94, e93, hl⟩ := cons_of hl
  obtain ⟨u94, t95, e94, hl⟩ := cons_of hl
  obtain ⟨u95, t96, e95, hl⟩ := cons_of hl
  obtain ⟨u96, t97, e96, hl⟩ := cons_of hl
  obtain ⟨u97, t98, e97, hl⟩ := cons_of hl
  obtain ⟨u98, t99, e98, hl⟩ := cons_of hl
  obtain ⟨u99, t100, e99, hl⟩ := cons_of hl
  obtain ⟨u100, t101, e100, hl⟩ := cons_of hl
  obtain ⟨u101, t102, e101, hl⟩ := cons_of hl
  obtain ⟨u102, t103, e102, hl⟩ := cons_of hl
  obtain ⟨u103, t104, e103, hl⟩ := cons_of hl
  obtain ⟨u104, t105, e104, hl⟩ := cons_of hl
  obtain ⟨u105, t106, e105, hl⟩ := cons_of hl
  obtain ⟨u106, t107, e106, hl⟩ := cons_of hl
  obtain ⟨u107, t108, e107, hl⟩ := cons_of hl
  obtain ⟨u108, t109, e108, hl⟩ := cons_of hl
  obtain ⟨u109, t110, e109, hl⟩ := cons_of hl
  obtain ⟨u110, t111, e110, hl⟩ := cons_of hl
  obtain ⟨u111, t112, e111, hl⟩ := cons_of hl
  have e112 : t112 = [] := List.eq_nil_of_length_eq_zero hl
  subst e112 e111 e110 e109 e108 e107 e106 e105 e104 e103 e102 e101 e100 e99 e98 e97 e96 e95 e94 e93 e92 e91 e90 e89 e88 e87 e86 e85 e84 e83 e82 e81 e80 e79 e78 e77 e76 e75 e74 e73 e72 e71 e70 e69 e68 e67 e66 e65 e64 e63 e62 e61 e60 e59 e58 e57 e56 e55 e54 e53 e52 e51 e50 e49 e48 e47 e46 e45 e44 e43 e42 e41 e40 e39 e38 e37 e36 e35 e34 e33 e32 e31 e30 e29 e28 e27 e26 e25 e24 e23 e22 e21 e20 e19 e18 e17 e16 e15 e14 e13 e12 e11 e10 e9 e8 e7 e6 e5 e4 e3 e2 e1 e0
  simp only [List.getElem?_toArray, List.getElem?_cons_zero, List.getElem?_cons_succ, Option.some.injEq] at h0 h1 h2 h4 h5 h6 h7 h8
  subst h0 h1 h2 h4 h5 h6 h7 h8
  exact hP u3 u9 u10 u11 u12 u13 u14 u15 u16 u17 u18 u19 u20 u21 u22 u23 u24 u25 u26 u27 u28 u29 u30 u31 u32 u33 u34 u35 u36 u37 u38 u39 u40 u41 u42 u43 u44 u45 u46 u47 u48 u49 u50 u51 u52 u53 u54 u55 u56 u57 u58 u59 u60 u61 u62 u63 u64 u65 u66 u67 u68 u69 u70 u71 u72 u73 u74 u75 u76 u77 u78 u79 u80 u81 u82 u83 u84 u85 u86 u87 u88 u89 u90 u91 u92 u93 u94 u95 u96 u97 u98 u99 u100 u101 u102 u103 u104 u105 u106 u107 u108 u109 u110 u111

/-- Where the reader stands. -/
def atOf (R : Nat) (w : World) : Nat := match w.cell? ⟨R, 1, none⟩ with
  | some (.int _ q) => q.toNat
  | _ => 0
theorem Bx.atOf {R : Nat} {l : List UInt8} {k : Nat} {vo : Value} {w : World} (h : Bx R l k vo w) : atOf R w = k := by
  unfold Tkc.atOf
  rw [h.cell 1]
  exact Int.toNat_natCast k
def rankL (b : Nat) : Nat := if b = 1 then 0 else if b = 0 ∨ b = 4 ∨ b = 6 ∨ b = 7 then 2 else 1
def moreL (b : Nat) : Nat := if b = 4 ∨ b = 5 ∨ b = 6 ∨ b = 8 ∨ b = 7 then 1 else 0
section
variable (R : Nat) (l : List UInt8) (vo : Value) (w0 : World) (k0 : Nat) (r0 : Rd) (kd : Int)
/-- What holds at each label. -/
def St (b : Nat) (w : World) : Prop := ∃ (k : Nat) (nm : List UInt8) (va : Value) (al : List At) (f : Nat) (qs a : List UInt8) (q : UInt8), k ≤ l.length ∧ f ≤ k ∧ al.length + moreL b + 1 ≤ k ∧ k0 ≤ k ∧
  (if b = 0 then TagW R l vo w0 k [] false va [] k0 qs w ∧ TagAt l k0 r0 kd 3 k ((cut l k0 k).map low) [] yes ∧ k0 ≤ k
   else if b = 1 ∨ b = 3 then TagW R l vo w0 k nm false va al f qs w ∧ TagAt l k0 r0 kd 4 k nm al yes
   else if b = 2 then TagW R l vo w0 k nm false va al f qs w ∧ TagAt l k0 r0 kd 11 k nm al yes
   else if b = 4 then TagW R l vo w0 k nm false va al f qs w ∧ TagAt l k0 r0 kd 5 k nm al (avIs ((cut l f k).map low) [])
   else if b = 5 then TagW R l vo w0 k nm false va (al ++ [⟨a, []⟩]) f qs w ∧ TagAt l k0 r0 kd 6 k nm al (avIs a [])
   else if b = 6 then TagW R l vo w0 k nm false va (al ++ [⟨a, []⟩]) f qs w ∧ TagAt l k0 r0 kd 7 k nm al (avIs a [])
   else if b = 8 then TagW R l vo w0 k nm false va (al ++ [⟨a, []⟩]) f qs w ∧ TagAt l k0 r0 kd 9 k nm al (avIs a (cut l f k))
   else if b = 7 then TagW R l vo w0 k nm false va (al ++ [⟨a, []⟩]) f [q] w ∧ TagAt l k0 r0 kd 8 k nm al (avq a (cut l f k) q)
   else False)
def Jt (b : Nat) (a : Act) (w : World) : Prop := Fr R w0 a ∧ St R l vo w0 k0 r0 kd b w
def mt (b : Nat) (_ : Act) (w : World) : Nat := 3 * (l.length - atOf R w) + rankL b
/-- What the function leaves. -/
inductive Left (w : World) : Bool → Prop
  | ended (k : Nat) (nm : List UInt8) (va : Value) (al : List At) (cl : Bool) (hk : k ≤ l.length) (hk0 : k0 ≤ k) (box : Bx R l k vo w) (res : w.heap[w0.heap.size + 1]? = some (.cells (tagC nm va cl) 31 (0, 0))) (att : AtR (w0.heap.size + 5) w va al) (keeps : Keeps R w0 w) (te : TagEnd l k0 r0 kd k nm al cl) : Left w true
  | none (box : Bx R l l.length vo w) (res : w.heap[w0.heap.size + 1]? = some (.cells zeroT 31 (0, 0))) (keeps : Keeps R w0 w) (te : LL l k0 r0 = r0.out) : Left w false
/-- What is asked of the post at the function's end. -/
def Ends (Q : Exit → Act → World → Prop) : Prop := ∀ (b : Bool) (a : Act) (w : World), a.defers = [] → a.tmps[2]? = some (.pointer (some ⟨w0.heap.size + 1, 0, none⟩)) → a.tmps[3]? = some (.bool b) → Left R l vo w0 k0 r0 kd w b → Q .ret a w
end
theorem pass_true {p : UInt8 → Bool} {l : List UInt8} {k : Nat} (h : passB p l k = true) : ∃ hk : k < l.length, p l[k] = true := by
  unfold passB at h
  by_cases hk : k < l.length
  · rw [List.getElem?_eq_getElem hk] at h
    exact ⟨hk, h⟩
  · rw [List.getElem?_eq_none (by omega)] at h
    cases h
theorem pass_false {p : UInt8 → Bool} {l : List UInt8} {k : Nat} (h : passB p l k = false) (hk : k < l.length) : p l[k] = false := by
  unfold passB at h
  rw [List.getElem?_eq_getElem hk] at h
  exact h
theorem take_one (c : UInt8) (l : List UInt8) (k : Nat) : takeB [c] l k = passB (· == c) l k := by
  unfold takeB passB
  by_cases hk : k < l.length
  · rw [List.getElem?_eq_getElem hk, List.drop_eq_getElem_cons hk]
    show (c == l[k] && List.isPrefixOf [] (l.drop (k + 1))) = (l[k] == c)
    rw [show List.isPrefixOf [] (l.drop (k + 1)) = true by simp [List.isPrefixOf], Bool.and_true]
    by_cases hc : c = l[k]
    · rw [hc]
    · rw [beq_eq_false_iff_ne.2 hc, beq_eq_false_iff_ne.2 (Ne.symm hc)]
  · rw [List.getElem?_eq_none (by omega), List.drop_eq_nil_of_le (by omega)]
    rfl
theorem less_mk {R : Nat} {l : List UInt8} {vo : Value} {w0 : World} {k0 : Nat} {r0 : Rd} {kd : Int} {n b k : Nat} {a : Act} {w : World} (hF : Fr R w0 a) (hS : St R l vo w0 k0 r0 kd b w) (hb : Bx R l k vo w) (hlt : 3 * (l.length - k) + rankL b < n) : Less (Jt R l vo w0 k0 r0 kd) (mt R l) n b a w := by
  refine ⟨⟨hF, hS⟩, ?_⟩
  unfold mt
  rw [hb.atOf]
  exact hlt
section
variable {R : Nat} {l : List UInt8} {k : Nat} {vo : Value} {w : World}
theorem pass_yes (h : Bx R l k vo w) (hl : l.length ≤ 65536) (hk0 : k ≤ l.length) (g : Nat) (lb : Array Value) (p : UInt8 → Bool)
    (eg : ∀ args w, (callFunc g args).run Try.prog w = .ok (.enter g args) w) (hp : Asks g lb p w) (hb : passB p l k = true) :
    Calls Try.prog 60 #[.pointer (some ⟨R, 0, none⟩), .func (.func g) #[] lb] w fun e w' => e = .returned (.bool true) ∧ Bx R l (k + 1) vo w' ∧ Keeps R w w' := by
  have hc := passes_c R l k vo w h hl hk0 g lb p eg hp
  rw [hb] at hc
  exact hc
theorem pass_no (h : Bx R l k vo w) (hl : l.length ≤ 65536) (hk0 : k ≤ l.length) (g : Nat) (lb : Array Value) (p : UInt8 → Bool)
    (eg : ∀ args w, (callFunc g args).run Try.prog w = .ok (.enter g args) w) (hp : Asks g lb p w) (hb : passB p l k = false) :
    Calls Try.prog 60 #[.pointer (some ⟨R, 0, none⟩), .func (.func g) #[] lb] w fun e w' => e = .returned (.bool false) ∧ Bx R l k vo w' ∧ Keeps R w w' := by
  have hc := passes_c R l k vo w h hl hk0 g lb p eg hp
  rw [hb] at hc
  exact hc
theorem take_yes (h : Bx R l k vo w) (hl : l.length ≤ 65536) (hk0 : k ≤ l.length) (c : UInt8) (hb : passB (· == c) l k = true) :
    Calls Try.prog 64 #[.pointer (some ⟨R, 0, none⟩), .string (S [c])] w fun e w' => e = .returned (.bool true) ∧ Bx R l (k + 1) vo w' ∧ Keeps R w w' := by
  have hc := takes_c R l [c] k vo w h hl hk0 (by simp)
  rw [take_one, hb] at hc
  exact hc
theorem take_no (h : Bx R l k vo w) (hl : l.length ≤ 65536) (hk0 : k ≤ l.length) (c : UInt8) (hb : passB (· == c) l k = false) :
    Calls Try.prog 64 #[.pointer (some ⟨R, 0, none⟩), .string (S [c])] w fun e w' => e = .returned (.bool false) ∧ Bx R l k vo w' ∧ Keeps R w w' := by
  have hc := takes_c R l [c] k vo w h hl hk0 (by simp)
  rw [take_one, hb] at hc
  exact hc
theorem enter_put : ∀ args w, (callFunc 59 args).run Try.prog w = .ok (.enter 59 args) w := enters_of Try.func59 (by kernel_rfl) rfl
theorem asks_nm (w : World) : Asks 61 #[] inNm w := fun c n => by simpa using nm_c c (w.drewN n)
theorem asks_at (w : World) : Asks 65 #[] inAt w := fun c n => by simpa using at_c c (w.drewN n)
theorem asks_bare (w : World) : Asks 66 #[] inBare w := fun c n => by simpa using bare_c c (w.drewN n)
theorem asks_blank (w : World) : Asks 63 #[] blB w := fun c n => by
  have hb : ∀ w, Calls Try.prog 63 #[.int .u8 (c.toNat : Int)] w fun e w' => e = .returned (.bool (blB c)) ∧ w = w' := fun w => blank_c (c.toNat : Int) w
  simpa using hb (w.drewN n)
theorem asks_quote (q : UInt8) (b : Nat) (w : World) (hq : w.cell? ⟨b, 0, none⟩ = some (.string (S [q]))) : Asks 58 #[.pointer (some ⟨b, 0, none⟩)] (fun c => !(c == q)) w := fun c n => by
  have hlt := World.block_lt_of_cell? w _ hq
  simpa using quote_c c q b (w.drewN n) (((Oct.below_drewN (Below.refl _ w) n).cell (p := ⟨b, 0, none⟩) hlt).trans hq)
end
section
variable {R : Nat} {l : List UInt8} {vo : Value} {w0 : World} {k0 : Nat} {r0 : Rd} {kd : Int} {k : Nat} {nm : List UInt8} {cl : Bool} {va : Value} {al : List At} {f : Nat} {qs : List UInt8} {w : World}
/-- The tag is told. -/
theorem TagW.ended (h : TagW R l vo w0 k nm cl va al f qs w) (hk : k ≤ l.length) (hk0 : k0 ≤ k) (te : TagEnd l k0 r0 kd k nm al cl) :
    Left R l vo w0 k0 r0 kd (((((w.setCell ⟨w0.heap.size + 1, 0, none⟩ (.int .i64 0)).setCell ⟨w0.heap.size + 1, 1, none⟩ (.string (S nm))).setCell ⟨w0.heap.size + 1, 2, none⟩ (.string ⟨#[]⟩)).setCell ⟨w0.heap.size + 1, 3, none⟩ va).setCell ⟨w0.heap.size + 1, 4, none⟩ (.bool cl)) true := by
  have hlow := h.low
  refine .ended k nm va al cl hk hk0 ?_ ?_ ?_ ?_ te
  · exact set_oth (by omega) (set_oth (by omega) (set_oth (by omega) (set_oth (by omega) (set_oth (by omega) h.box))))
  · exact box_set 4 _ (box_set 3 _ (box_set 2 _ (box_set 1 _ (box_set 0 _ h.b2))))
  · exact own_same h.att fun b hb _ => set_oth (by omega) (set_oth (by omega) (set_oth (by omega) (set_oth (by omega) (set_oth (by omega) rfl))))
  · exact ((((h.keeps.high (by omega) _).high (by omega) _).high (by omega) _).high (by omega) _).high (by omega) _
/-- Nothing is told. -/
theorem TagW.nothing (h : TagW R l vo w0 k nm cl va al f qs w) (hk : k = l.length) (te : LL l k0 r0 = r0.out) :
    Left R l vo w0 k0 r0 kd (((((w.setCell ⟨w0.heap.size + 1, 0, none⟩ (.int .i64 0)).setCell ⟨w0.heap.size + 1, 1, none⟩ (.string ⟨#[]⟩)).setCell ⟨w0.heap.size + 1, 2, none⟩ (.string ⟨#[]⟩)).setCell ⟨w0.heap.size + 1, 3, none⟩ (.slice none 0 0)).setCell ⟨w0.heap.size + 1, 4, none⟩ (.bool false)) false := by
  have hlow := h.low
  refine .none ?_ ?_ ?_ te
  · rw [← hk]
    exact set_oth (by omega) (set_oth (by omega) (set_oth (by omega) (set_oth (by omega) (set_oth (by omega) h.box))))
  · exact box_set 4 _ (box_set 3 _ (box_set 2 _ (box_set 1 _ (box_set 0 _ h.b2))))
  · exact ((((h.keeps.high (by omega) _).high (by omega) _).high (by omega) _).high (by omega) _).high (by omega) _
end
theorem stBox {R : Nat} {l : List UInt8} {vo : Value} {w0 : World} {k0 : Nat} {r0 : Rd} {kd : Int} {b k : Nat} {nm : List UInt8} {va : Value} {al : List At} {f : Nat} {qs a : List UInt8} {q : UInt8} {w : World}
    (h : if b = 0 then TagW R l vo w0 k [] false va [] k0 qs w ∧ TagAt l k0 r0 kd 3 k ((cut l k0 k).map low) [] yes ∧ k0 ≤ k
   else if b = 1 ∨ b = 3 then TagW R l vo w0 k nm false va al f qs w ∧ TagAt l k0 r0 kd 4 k nm al yes
   else if b = 2 then TagW R l vo w0 k nm false va al f qs w ∧ TagAt l k0 r0 kd 11 k nm al yes
   else if b = 4 then TagW R l vo w0 k nm false va al f qs w ∧ TagAt l k0 r0 kd 5 k nm al (avIs ((cut l f k).map low) [])
   else if b = 5 then TagW R l vo w0 k nm false va (al ++ [⟨a, []⟩]) f qs w ∧ TagAt l k0 r0 kd 6 k nm al (avIs a [])
   else if b = 6 then TagW R l vo w0 k nm false va (al ++ [⟨a, []⟩]) f qs w ∧ TagAt l k0 r0 kd 7 k nm al (avIs a [])
   else if b = 8 then TagW R l vo w0 k nm false va (al ++ [⟨a, []⟩]) f qs w ∧ TagAt l k0 r0 kd 9 k nm al (avIs a (cut l f k))
   else if b = 7 then TagW R l vo w0 k nm false va (al ++ [⟨a, []⟩]) f [q] w ∧ TagAt l k0 r0 kd 8 k nm al (avq a (cut l f k) q)
   else False) : Bx R l k vo w ∧ True := by
  refine ⟨?_, trivial⟩
  repeat' split at h
  all_goals first | exact h.1.box | exact h.elim
theorem wp_jumps_ret {J : Nat → Act → World → Prop} {Q : Exit → Act → World → Prop} {a : Act} {w : World} (h : Q .ret a w) : jumps J Q .ret a w := h
end Go.Proofs.Ytidfcajhmldieaa.Tkc

/-
  The function tag from its label 0 on.
-/
namespace Go.Proofs.Ytidfcajhmldieaa.Tkc
open Go.RowKit Go.Proofs.Ytidfcajhmldieaa.Oct Go.Proofs.Ytidfcajhmldieaa.Utf Go.Proofs.Ytidfcajhmldieaa.Crf Go.Proofs.Ytidfcajhmldieaa.Tab Go.Proofs.Ytidfcajhmldieaa.Tok

set_option maxRecDepth 100000 in
set_option maxHeartbeats 4000000 in
theorem pass0 (R : Nat) (l : List UInt8) (hl : l.length ≤ 65536) (vo : Value) (w0 : World) (k0 : Nat) (r0 : Rd) (kd : Int) (Q : Exit → Act → World → Prop) (hQ : Ends R l vo w0 k0 r0 kd Q) (n : Nat) (a : Act) (w : World)
    (hJ : Jt R l vo w0 k0 r0 kd 0 a w) (hm : mt R l 0 a w = n) (ih : Goes Try.prog (bodyOf Try.f47.body) (Less (Jt R l vo w0 k0 r0 kd) (mt R l) n) (Less (Jt R l vo w0 k0 r0 kd) (mt R l) n) Q) :
    ∃ X, findLabel (bodyOf Try.f47.body) 0 = some (.seq .skip X) ∧ X.wp Try.prog (jumps (Less (Jt R l vo w0 k0 r0 kd) (mt R l) n) Q) a w := by
  have _ : True := (fun _ _ => trivial) hQ hl
  have _ : True := (fun _ => trivial) ih
  obtain ⟨hF, k, nm, va, al, f, qs, an, q, hk, hf, hal, hkk, hS⟩ := hJ
  have hn : n = 3 * (l.length - k) + rankL 0 := by
    obtain ⟨hT, _⟩ := stBox hS
    rw [← hm]
    unfold mt
    rw [hT.atOf]
  clear hm
  refine Fr.elim (P := fun a => ∃ X, findLabel (bodyOf Try.f47.body) 0 = some (.seq .skip X) ∧ X.wp Try.prog (jumps (Less (Jt R l vo w0 k0 r0 kd) (mt R l) n) Q) a w) hF ?_
  clear hF a
  intro u3 u9 u10 u11 u12 u13 u14 u15 u16 u17 u18 u19 u20 u21 u22 u23 u24 u25 u26 u27 u28 u29 u30 u31 u32 u33 u34 u35 u36 u37 u38 u39 u40 u41 u42 u43 u44 u45 u46 u47 u48 u49 u50 u51 u52 u53 u54 u55 u56 u57 u58 u59 u60 u61 u62 u63 u64 u65 u66 u67 u68 u69 u70 u71 u72 u73 u74 u75 u76 u77 u78 u79 u80 u81 u82 u83 u84 u85 u86 u87 u88 u89 u90 u91 u92 u93 u94 u95 u96 u97 u98 u99 u100 u101 u102 u103 u104 u105 u106 u107 u108 u109 u110 u111
  refine ⟨_, rfl, ?_⟩
  have rk0 : rankL 0 = 2 := rfl
  have rk1 : rankL 1 = 0 := rfl
  have rk2 : rankL 2 = 1 := rfl
  have rk3 : rankL 3 = 1 := rfl
  have rk4 : rankL 4 = 2 := rfl
  have rk5 : rankL 5 = 1 := rfl
  have rk6 : rankL 6 = 2 := rfl
  have rk7 : rankL 7 = 2 := rfl
  have rk8 : rankL 8 = 1 := rfl
  have mk0 : moreL 0 = 0 := rfl
  have mk1 : moreL 1 = 0 := rfl
  have mk2 : moreL 2 = 0 := rfl
  have mk3 : moreL 3 = 0 := rfl
  have mk4 : moreL 4 = 1 := rfl
  have mk5 : moreL 5 = 1 := rfl
  have mk6 : moreL 6 = 1 := rfl
  have mk7 : moreL 7 = 1 := rfl
  have mk8 : moreL 8 = 1 := rfl
  obtain ⟨hT, hM, hk0⟩ := hS
  have c1 := hT.c1
  have HT0 := Lib.hid hT
  cases hb : passB inNm l k with
  | true =>
    obtain ⟨hk2, hc⟩ := pass_true hb
    have p1 := fun W (h : Bx R l k vo W) => pass_yes h hl hk 61 #[] inNm enter_nm (asks_nm W) hb
    go_wp2_with (first
      | (have _ := HT0; go_at_call 60; refine (p1 _ HT0.out.box).mono ?_; rintro e w1 ⟨rfl, hbx, hkp⟩; have T := HT0.out.keep hkp hbx; have d1 := T.c1; have HT1 := Lib.hid T; clear hbx hkp T))
    exact wp_goto (show Less _ _ n 0 _ _ from less_mk (b := 0) ⟨rfl, rfl, rfl, rfl, rfl, rfl, rfl, rfl, rfl, rfl⟩ ⟨k + 1, nm, va, al, f, qs, an, q, by omega, by omega, by omega, by omega, HT1.out, (by have h := name_pass hk2 hc hM; rw [cut_succ hk2 hk0, List.map_append]; exact h), by omega⟩ HT1.out.box (by omega))
  | false =>
    have p1 := fun W (h : Bx R l k vo W) => pass_no h hl hk 61 #[] inNm enter_nm (asks_nm W) hb
    have hsi := fun w1 (h : Bx R l k vo w1) => since_c R l k k0 vo w1 h hk0 hk
    have hlo := lower_c (cut l k0 k) (Nat.le_trans (cut_len_le l k0 k) hl)
    go_wp2_with (first
      | (have _ := HT0; go_at_call 60; refine (p1 _ HT0.out.box).mono ?_; rintro e w1 ⟨rfl, hbx, hkp⟩; have T := HT0.out.keep hkp hbx; have d1 := T.c1; have d5 := T.c5; have HT1 := Lib.hid T; clear hbx hkp T)
      | (go_at_call 25; refine (hsi _ HT1.out.box).mono ?_; rintro e w2 ⟨rfl, m2, hw2⟩; have HT2 := Lib.hid (HT1.out.grow (grown_of hw2)); clear hw2)
      | (go_at_call 62; refine (hlo _).mono ?_; rintro e w3 ⟨rfl, h3⟩; have T3 := HT2.out.grow h3; have e1 := T3.cn; have z1 := T3.z4 1; have HT3 := Lib.hid T3; clear h3 T3))
    rename_i K hK
    exact wp_label (hK _ _ (ih 3 _ _ _ (less_mk (b := 3) ⟨rfl, rfl, rfl, rfl, rfl, rfl, rfl, rfl, rfl, rfl⟩ ⟨k, _, va, [], k0, qs, an, q, by omega, by omega, (by rw [List.length_nil]; omega), by omega, HT3.out.setN _, name_stop (pass_false hb) hM⟩ (HT3.out.setN _).box (by omega)) rfl))
end Go.Proofs.Ytidfcajhmldieaa.Tkc

/-
  The function tag from its label 1 on.
-/
namespace Go.Proofs.Ytidfcajhmldieaa.Tkc
open Go.RowKit Go.Proofs.Ytidfcajhmldieaa.Oct Go.Proofs.Ytidfcajhmldieaa.Utf Go.Proofs.Ytidfcajhmldieaa.Crf Go.Proofs.Ytidfcajhmldieaa.Tab Go.Proofs.Ytidfcajhmldieaa.Tok

set_option maxRecDepth 100000 in
set_option maxHeartbeats 4000000 in
theorem pass1 (R : Nat) (l : List UInt8) (hl : l.length ≤ 65536) (vo : Value) (w0 : World) (k0 : Nat) (r0 : Rd) (kd : Int) (Q : Exit → Act → World → Prop) (hQ : Ends R l vo w0 k0 r0 kd Q) (n : Nat) (a : Act) (w : World)
    (hJ : Jt R l vo w0 k0 r0 kd 1 a w) (hm : mt R l 1 a w = n) (ih : Goes Try.prog (bodyOf Try.f47.body) (Less (Jt R l vo w0 k0 r0 kd) (mt R l) n) (Less (Jt R l vo w0 k0 r0 kd) (mt R l) n) Q) :
    ∃ X, findLabel (bodyOf Try.f47.body) 1 = some (.seq .skip X) ∧ X.wp Try.prog (jumps (Less (Jt R l vo w0 k0 r0 kd) (mt R l) n) Q) a w := by
  have _ : True := (fun _ _ => trivial) hQ hl
  have _ : True := (fun _ => trivial) ih
  obtain ⟨hF, k, nm, va, al, f, qs, an, q, hk, hf, hal, hkk, hS⟩ := hJ
  have hn : n = 3 * (l.length - k) + rankL 1 := by
    obtain ⟨hT, _⟩ := stBox hS
    rw [← hm]
    unfold mt
    rw [hT.atOf]
  clear hm
  refine Fr.elim (P := fun a => ∃ X, findLabel (bodyOf Try.f47.body) 1 = some (.seq .skip X) ∧ X.wp Try.prog (jumps (Less (Jt R l vo w0 k0 r0 kd) (mt R l) n) Q) a w) hF ?_
  clear hF a
  intro u3 u9 u10 u11 u12 u13 u14 u15 u16 u17 u18 u19 u20 u21 u22 u23 u24 u25 u26 u27 u28 u29 u30 u31 u32 u33 u34 u35 u36 u37 u38 u39 u40 u41 u42 u43 u44 u45 u46 u47 u48 u49 u50 u51 u52 u53 u54 u55 u56 u57 u58 u59 u60 u61 u62 u63 u64 u65 u66 u67 u68 u69 u70 u71 u72 u73 u74 u75 u76 u77 u78 u79 u80 u81 u82 u83 u84 u85 u86 u87 u88 u89 u90 u91 u92 u93 u94 u95 u96 u97 u98 u99 u100 u101 u102 u103 u104 u105 u106 u107 u108 u109 u110 u111
  refine ⟨_, rfl, ?_⟩
  have rk0 : rankL 0 = 2 := rfl
  have rk1 : rankL 1 = 0 := rfl
  have rk2 : rankL 2 = 1 := rfl
  have rk3 : rankL 3 = 1 := rfl
  have rk4 : rankL 4 = 2 := rfl
  have rk5 : rankL 5 = 1 := rfl
  have rk6 : rankL 6 = 2 := rfl
  have rk7 : rankL 7 = 2 := rfl
  have rk8 : rankL 8 = 1 := rfl
  have mk0 : moreL 0 = 0 := rfl
  have mk1 : moreL 1 = 0 := rfl
  have mk2 : moreL 2 = 0 := rfl
  have mk3 : moreL 3 = 0 := rfl
  have mk4 : moreL 4 = 1 := rfl
  have mk5 : moreL 5 = 1 := rfl
  have mk6 : moreL 6 = 1 := rfl
  have mk7 : moreL 7 = 1 := rfl
  have mk8 : moreL 8 = 1 := rfl
  obtain ⟨hT, hM⟩ := hS
  have c1 := hT.c1
  have HT0 := Lib.hid hT
  cases hb1 : passB blB l k with
  | true =>
    obtain ⟨hk2, hc⟩ := pass_true hb1
    have p1 := fun W (h : Bx R l k vo W) => pass_yes h hl hk 63 #[] blB enter_blank (asks_blank W) hb1
    go_wp2_with (first
      | (have _ := HT0; go_at_call 60; refine (p1 _ HT0.out.box).mono ?_; rintro e w1 ⟨rfl, hbx, hkp⟩; have T := HT0.out.keep hkp hbx; have d1 := T.c1; have HT1 := Lib.hid T; clear hbx hkp T))
    exact wp_goto (show Less _ _ n 1 _ _ from less_mk (b := 1) ⟨rfl, rfl, rfl, rfl, rfl, rfl, rfl, rfl, rfl, rfl⟩ ⟨k + 1, nm, va, al, f, qs, an, q, by omega, by omega, by omega, by omega, HT1.out, before_blank hk2 hc hM⟩ HT1.out.box (by omega))
  | false =>
    have p1 := fun W (h : Bx R l k vo W) => pass_no h hl hk 63 #[] blB enter_blank (asks_blank W) hb1
    cases hb2 : passB (· == 47) l k with
    | true =>
      obtain ⟨hk2, hc⟩ := pass_true hb2
      have p2 := fun W (h : Bx R l k vo W) => take_yes h hl hk 47 hb2
      go_wp2_with (first
        | (have _ := HT1; go_at_call 64; refine (p2 _ HT1.out.box).mono ?_; rintro e w2 ⟨rfl, hbx, hkp⟩; have T := HT1.out.keep hkp hbx; have d2 := T.c1; have HT2 := Lib.hid T; clear hbx hkp T)
        | (have _ := HT0; go_at_call 60; refine (p1 _ HT0.out.box).mono ?_; rintro e w1 ⟨rfl, hbx, hkp⟩; have T := HT0.out.keep hkp hbx; have d1 := T.c1; have HT1 := Lib.hid T; clear hbx hkp T))
      exact wp_goto (show Less _ _ n 2 _ _ from less_mk (b := 2) ⟨rfl, rfl, rfl, rfl, rfl, rfl, rfl, rfl, rfl, rfl⟩ ⟨k + 1, nm, va, al, f, qs, an, q, by omega, by omega, by omega, by omega, HT2.out, before_slash hk2 (pass_false hb1 hk2) (by simpa using hc) hM⟩ HT2.out.box (by omega))
    | false =>
      have p2 := fun W (h : Bx R l k vo W) => take_no h hl hk 47 hb2
      cases hb3 : passB (· == 62) l k with
      | true =>
        obtain ⟨hk2, hc⟩ := pass_true hb3
        have p3 := fun W (h : Bx R l k vo W) => take_yes h hl hk 62 hb3
        obtain ⟨vp, vc, hva⟩ := own_form' hT.att
        subst hva
        go_wp2_with (first
          | (have _ := HT2; go_at_call 64; refine (p3 _ HT2.out.box).mono ?_; rintro e w3 ⟨rfl, hbx, hkp⟩; have T := HT2.out.keep hkp hbx; have d3 := T.c1; have f0 := T.ck; have f1 := T.cn; have f2 := T.cx; have f3 := T.cv; have f4 := T.cc; have g0 : _ = some (Value.int .i64 0) := (T.c2 0).trans rfl; have g1 : _ = some (Value.string ⟨#[]⟩) := (T.c2 1).trans rfl; have g2 : _ = some (Value.string ⟨#[]⟩) := (T.c2 2).trans rfl; have g3 : _ = some (Value.slice none 0 0) := (T.c2 3).trans rfl; have g4 : _ = some (Value.bool false) := (T.c2 4).trans rfl; have y0 := T.z2 0; have y1 := T.z2 1; have y2 := T.z2 2; have y3 := T.z2 3; have y4 := T.z2 4; have HT3 := Lib.hid T; clear hbx hkp T)
          | (have _ := HT1; go_at_call 64; refine (p2 _ HT1.out.box).mono ?_; rintro e w2 ⟨rfl, hbx, hkp⟩; have T := HT1.out.keep hkp hbx; have d2 := T.c1; have HT2 := Lib.hid T; clear hbx hkp T)
          | (have _ := HT0; go_at_call 60; refine (p1 _ HT0.out.box).mono ?_; rintro e w1 ⟨rfl, hbx, hkp⟩; have T := HT0.out.keep hkp hbx; have d1 := T.c1; have HT1 := Lib.hid T; clear hbx hkp T))
        show Q .ret _ _
        refine hQ true _ _ ?_ ?_ ?_ (HT3.out.ended hk2 (by omega) (before_end hk2 (pass_false hb1 hk2) (by simpa using pass_false hb2 hk2) (by simpa using hc) hM))
        all_goals rfl
      | false =>
        have p3 := fun W (h : Bx R l k vo W) => take_no h hl hk 62 hb3
        have hsz : ((S l).size : Int) = (l.length : Int) := by rw [size_S]
        have HBX := Lib.hid (fun W (h : Bx R l k vo W) => (And.intro ((h.cell 0).trans rfl) ((h.cell 1).trans rfl) : W.cell? ⟨R, 0, none⟩ = some (.string (S l)) ∧ W.cell? ⟨R, 1, none⟩ = some (.int .i64 (k : Int))))
        have i3 : (k : Int) ≤ 65536 := by omega
        have i0 : (0 : Int) ≤ (k : Int) := by omega
        by_cases hk2 : k < l.length
        · have hd : ((k : Int) == (l.length : Int)) = false := by rw [beq_eq_false_iff_ne]; omega
          generalize S l = L at hsz HBX
          go_wp2_with (first
            | (have _ := HT2; go_at_call 64; refine (p3 _ HT2.out.box).mono ?_; rintro e w3 ⟨rfl, hbx, hkp⟩; have T := HT2.out.keep hkp hbx; have d3 := T.c1; obtain ⟨x0, x1⟩ := HBX.out _ T.box; have HT3 := Lib.hid T; clear hbx hkp T)
            | (have _ := HT1; go_at_call 64; refine (p2 _ HT1.out.box).mono ?_; rintro e w2 ⟨rfl, hbx, hkp⟩; have T := HT1.out.keep hkp hbx; have d2 := T.c1; have HT2 := Lib.hid T; clear hbx hkp T)
            | (have _ := HT0; go_at_call 60; refine (p1 _ HT0.out.box).mono ?_; rintro e w1 ⟨rfl, hbx, hkp⟩; have T := HT0.out.keep hkp hbx; have d1 := T.c1; have HT1 := Lib.hid T; clear hbx hkp T))
          go_quiet (fail)
          have T4 := HT3.out.grow (Oct.below_drewN (Below.refl _ w3) nq)
          generalize w3.drewN nq = w4 at T4 ⊢
          have e1 := T4.c1
          have e5 := T4.c5
          have z5 := T4.z5
          have x2 := (HBX.out _ T4.box).2
          have T5 := T4.setF k
          have e6 := T5.c1
          have x3 := (HBX.out _ T5.box).2
          have z6 := T5.box.froz 1
          have T6 := T5.keep (Keeps.set _ _) (T5.box.at_ (k + 1))
          have HT6 := Lib.hid T6
          clear T4 T5 T6 d1 d2 d3 x0 x1 c1
          go_wp2_with fail
          rename_i K hK
          exact wp_label (hK _ _ (ih 4 _ _ _ (less_mk (b := 4) ⟨rfl, rfl, rfl, rfl, rfl, rfl, rfl, rfl, rfl, rfl⟩ ⟨k + 1, nm, va, al, k, qs, an, q, by omega, by omega, by omega, by omega, HT6.out, (by rw [cut_succ hk2 (Nat.le_refl k), cut_nil]; exact before_attr hk2 (pass_false hb1 hk2) (by simpa using pass_false hb2 hk2) (by simpa using pass_false hb3 hk2) hM)⟩ HT6.out.box (by omega)) rfl))
        · have hkl : k = l.length := by omega
          have hd : ((k : Int) == (l.length : Int)) = true := by rw [beq_iff_eq]; omega
          generalize S l = L at hsz HBX
          go_wp2_with (first
            | (have _ := HT2; go_at_call 64; refine (p3 _ HT2.out.box).mono ?_; rintro e w3 ⟨rfl, hbx, hkp⟩; have T := HT2.out.keep hkp hbx; have d3 := T.c1; obtain ⟨x0, x1⟩ := HBX.out _ T.box; have HT3 := Lib.hid T; clear hbx hkp T)
            | (have _ := HT1; go_at_call 64; refine (p2 _ HT1.out.box).mono ?_; rintro e w2 ⟨rfl, hbx, hkp⟩; have T := HT1.out.keep hkp hbx; have d2 := T.c1; have HT2 := Lib.hid T; clear hbx hkp T)
            | (have _ := HT0; go_at_call 60; refine (p1 _ HT0.out.box).mono ?_; rintro e w1 ⟨rfl, hbx, hkp⟩; have T := HT0.out.keep hkp hbx; have d1 := T.c1; have HT1 := Lib.hid T; clear hbx hkp T))
          go_quiet (fail)
          have T := HT3.out.grow (Oct.below_drewN (Below.refl _ w3) nq)
          generalize w3.drewN nq = w4 at T ⊢
          have f0 := T.ck
          have f1 := T.cn
          have f2 := T.cx
          have f3 := T.cv
          have f4 := T.cc
          have g0 : _ = some (Value.int .i64 0) := (T.c2 0).trans rfl
          have g1 : _ = some (Value.string ⟨#[]⟩) := (T.c2 1).trans rfl
          have g2 : _ = some (Value.string ⟨#[]⟩) := (T.c2 2).trans rfl
          have g3 : _ = some (Value.slice none 0 0) := (T.c2 3).trans rfl
          have g4 : _ = some (Value.bool false) := (T.c2 4).trans rfl
          have y0 := T.z2 0
          have y1 := T.z2 1
          have y2 := T.z2 2
          have y3 := T.z2 3
          have y4 := T.z2 4
          have HT4 := Lib.hid T
          clear T d1 d2 d3 x0 x1 c1
          go_wp2_with fail
          show Q .ret _ _
          refine hQ false _ _ ?_ ?_ ?_ (HT4.out.nothing hkl (tag_none (by decide) hk2 hM))
          all_goals rfl
end Go.Proofs.Ytidfcajhmldieaa.Tkc

/-
  The function tag from its label 2 on.
-/
namespace Go.Proofs.Ytidfcajhmldieaa.Tkc
open Go.RowKit Go.Proofs.Ytidfcajhmldieaa.Oct Go.Proofs.Ytidfcajhmldieaa.Utf Go.Proofs.Ytidfcajhmldieaa.Crf Go.Proofs.Ytidfcajhmldieaa.Tab Go.Proofs.Ytidfcajhmldieaa.Tok

set_option maxRecDepth 100000 in
set_option maxHeartbeats 4000000 in
theorem pass2 (R : Nat) (l : List UInt8) (hl : l.length ≤ 65536) (vo : Value) (w0 : World) (k0 : Nat) (r0 : Rd) (kd : Int) (Q : Exit → Act → World → Prop) (hQ : Ends R l vo w0 k0 r0 kd Q) (n : Nat) (a : Act) (w : World)
    (hJ : Jt R l vo w0 k0 r0 kd 2 a w) (hm : mt R l 2 a w = n) (ih : Goes Try.prog (bodyOf Try.f47.body) (Less (Jt R l vo w0 k0 r0 kd) (mt R l) n) (Less (Jt R l vo w0 k0 r0 kd) (mt R l) n) Q) :
    ∃ X, findLabel (bodyOf Try.f47.body) 2 = some (.seq .skip X) ∧ X.wp Try.prog (jumps (Less (Jt R l vo w0 k0 r0 kd) (mt R l) n) Q) a w := by
  have _ : True := (fun _ _ => trivial) hQ hl
  have _ : True := (fun _ => trivial) ih
  obtain ⟨hF, k, nm, va, al, f, qs, an, q, hk, hf, hal, hkk, hS⟩ := hJ
  have hn : n = 3 * (l.length - k) + rankL 2 := by
    obtain ⟨hT, _⟩ := stBox hS
    rw [← hm]
    unfold mt
    rw [hT.atOf]
  clear hm
  refine Fr.elim (P := fun a => ∃ X, findLabel (bodyOf Try.f47.body) 2 = some (.seq .skip X) ∧ X.wp Try.prog (jumps (Less (Jt R l vo w0 k0 r0 kd) (mt R l) n) Q) a w) hF ?_
  clear hF a
  intro u3 u9 u10 u11 u12 u13 u14 u15 u16 u17 u18 u19 u20 u21 u22 u23 u24 u25 u26 u27 u28 u29 u30 u31 u32 u33 u34 u35 u36 u37 u38 u39 u40 u41 u42 u43 u44 u45 u46 u47 u48 u49 u50 u51 u52 u53 u54 u55 u56 u57 u58 u59 u60 u61 u62 u63 u64 u65 u66 u67 u68 u69 u70 u71 u72 u73 u74 u75 u76 u77 u78 u79 u80 u81 u82 u83 u84 u85 u86 u87 u88 u89 u90 u91 u92 u93 u94 u95 u96 u97 u98 u99 u100 u101 u102 u103 u104 u105 u106 u107 u108 u109 u110 u111
  refine ⟨_, rfl, ?_⟩
  have rk0 : rankL 0 = 2 := rfl
  have rk1 : rankL 1 = 0 := rfl
  have rk2 : rankL 2 = 1 := rfl
  have rk3 : rankL 3 = 1 := rfl
  have rk4 : rankL 4 = 2 := rfl
  have rk5 : rankL 5 = 1 := rfl
  have rk6 : rankL 6 = 2 := rfl
  have rk7 : rankL 7 = 2 := rfl
  have rk8 : rankL 8 = 1 := rfl
  have mk0 : moreL 0 = 0 := rfl
  have mk1 : moreL 1 = 0 := rfl
  have mk2 : moreL 2 = 0 := rfl
  have mk3 : moreL 3 = 0 := rfl
  have mk4 : moreL 4 = 1 := rfl
  have mk5 : moreL 5 = 1 := rfl
  have mk6 : moreL 6 = 1 := rfl
  have mk7 : moreL 7 = 1 := rfl
  have mk8 : moreL 8 = 1 := rfl
  obtain ⟨hT, hM⟩ := hS
  have c1 := hT.c1
  have HT0 := Lib.hid hT
  obtain ⟨vp, vc, hva⟩ := own_form' hT.att
  subst hva
  cases hb : passB (· == 62) l k with
  | true =>
    obtain ⟨hk2, hc⟩ := pass_true hb
    have p1 := fun W (h : Bx R l k vo W) => take_yes h hl hk 62 hb
    go_wp2_with (first
      | (have _ := HT0; go_at_call 64; refine (p1 _ HT0.out.box).mono ?_; rintro e w1 ⟨rfl, hbx, hkp⟩; have T0 := HT0.out.keep hkp hbx; have b4 := T0.cc; have z4 := T0.z4 4; have T := T0.setC true; have f0 := T.ck; have f1 := T.cn; have f2 := T.cx; have f3 := T.cv; have f4 := T.cc; have g0 : _ = some (Value.int .i64 0) := (T.c2 0).trans rfl; have g1 : _ = some (Value.string ⟨#[]⟩) := (T.c2 1).trans rfl; have g2 : _ = some (Value.string ⟨#[]⟩) := (T.c2 2).trans rfl; have g3 : _ = some (Value.slice none 0 0) := (T.c2 3).trans rfl; have g4 : _ = some (Value.bool false) := (T.c2 4).trans rfl; have y0 := T.z2 0; have y1 := T.z2 1; have y2 := T.z2 2; have y3 := T.z2 3; have y4 := T.z2 4; have HT1 := Lib.hid T; clear hbx hkp T T0))
    show Q .ret _ _
    refine hQ true _ _ ?_ ?_ ?_ (HT1.out.ended hk2 (by omega) (slash_end hk2 (by simpa using hc) hM))
    all_goals rfl
  | false =>
    have p1 := fun W (h : Bx R l k vo W) => take_no h hl hk 62 hb
    go_wp2_with (first
      | (have _ := HT0; go_at_call 64; refine (p1 _ HT0.out.box).mono ?_; rintro e w1 ⟨rfl, hbx, hkp⟩; have T0 := HT0.out.keep hkp hbx; have b4 := T0.cc; have z4 := T0.z4 4; have T := T0.setC false; have f4 := T.cc; have HT1 := Lib.hid T; clear hbx hkp T T0))
    exact wp_goto (show Less _ _ n 1 _ _ from less_mk (b := 1) ⟨rfl, rfl, rfl, rfl, rfl, rfl, rfl, rfl, rfl, rfl⟩ ⟨k, nm, _, al, f, qs, an, q, by omega, by omega, by omega, by omega, HT1.out, slash_else (fun h => by simpa using pass_false hb h) hM⟩ HT1.out.box (by omega))
end Go.Proofs.Ytidfcajhmldieaa.Tkc

/-
  The function tag from its label 3 on.
-/
namespace Go.Proofs.Ytidfcajhmldieaa.Tkc
open Go.RowKit Go.Proofs.Ytidfcajhmldieaa.Oct Go.Proofs.Ytidfcajhmldieaa.Utf Go.Proofs.Ytidfcajhmldieaa.Crf Go.Proofs.Ytidfcajhmldieaa.Tab Go.Proofs.Ytidfcajhmldieaa.Tok

set_option maxRecDepth 100000 in
set_option maxHeartbeats 4000000 in
theorem pass3 (R : Nat) (l : List UInt8) (hl : l.length ≤ 65536) (vo : Value) (w0 : World) (k0 : Nat) (r0 : Rd) (kd : Int) (Q : Exit → Act → World → Prop) (hQ : Ends R l vo w0 k0 r0 kd Q) (n : Nat) (a : Act) (w : World)
    (hJ : Jt R l vo w0 k0 r0 kd 3 a w) (hm : mt R l 3 a w = n) (ih : Goes Try.prog (bodyOf Try.f47.body) (Less (Jt R l vo w0 k0 r0 kd) (mt R l) n) (Less (Jt R l vo w0 k0 r0 kd) (mt R l) n) Q) :
    ∃ X, findLabel (bodyOf Try.f47.body) 3 = some (.seq .skip X) ∧ X.wp Try.prog (jumps (Less (Jt R l vo w0 k0 r0 kd) (mt R l) n) Q) a w := by
  have _ : True := (fun _ _ => trivial) hQ hl
  have _ : True := (fun _ => trivial) ih
  obtain ⟨hF, k, nm, va, al, f, qs, an, q, hk, hf, hal, hkk, hS⟩ := hJ
  have hn : n = 3 * (l.length - k) + rankL 3 := by
    obtain ⟨hT, _⟩ := stBox hS
    rw [← hm]
    unfold mt
    rw [hT.atOf]
  clear hm
  refine Fr.elim (P := fun a => ∃ X, findLabel (bodyOf Try.f47.body) 3 = some (.seq .skip X) ∧ X.wp Try.prog (jumps (Less (Jt R l vo w0 k0 r0 kd) (mt R l) n) Q) a w) hF ?_
  clear hF a
  intro u3 u9 u10 u11 u12 u13 u14 u15 u16 u17 u18 u19 u20 u21 u22 u23 u24 u25 u26 u27 u28 u29 u30 u31 u32 u33 u34 u35 u36 u37 u38 u39 u40 u41 u42 u43 u44 u45 u46 u47 u48 u49 u50 u51 u52 u53 u54 u55 u56 u57 u58 u59 u60 u61 u62 u63 u64 u65 u66 u67 u68 u69 u70 u71 u72 u73 u74 u75 u76 u77 u78 u79 u80 u81 u82 u83 u84 u85 u86 u87 u88 u89 u90 u91 u92 u93 u94 u95 u96 u97 u98 u99 u100 u101 u102 u103 u104 u105 u106 u107 u108 u109 u110 u111
  refine ⟨_, rfl, ?_⟩
  have rk0 : rankL 0 = 2 := rfl
  have rk1 : rankL 1 = 0 := rfl
  have rk2 : rankL 2 = 1 := rfl
  have rk3 : rankL 3 = 1 := rfl
  have rk4 : rankL 4 = 2 := rfl
  have rk5 : rankL 5 = 1 := rfl
  have rk6 : rankL 6 = 2 := rfl
  have rk7 : rankL 7 = 2 := rfl
  have rk8 : rankL 8 = 1 := rfl
  have mk0 : moreL 0 = 0 := rfl
  have mk1 : moreL 1 = 0 := rfl
  have mk2 : moreL 2 = 0 := rfl
  have mk3 : moreL 3 = 0 := rfl
  have mk4 : moreL 4 = 1 := rfl
  have mk5 : moreL 5 = 1 := rfl
  have mk6 : moreL 6 = 1 := rfl
  have mk7 : moreL 7 = 1 := rfl
  have mk8 : moreL 8 = 1 := rfl
  obtain ⟨hT, hM⟩ := hS
  refine wp_seq (wp_label ?_)
  exact ih 1 _ _ _ (less_mk (b := 1) ⟨rfl, rfl, rfl, rfl, rfl, rfl, rfl, rfl, rfl, rfl⟩ ⟨k, nm, va, al, f, qs, an, q, by omega, by omega, by omega, by omega, hT, hM⟩ hT.box (by omega)) rfl
end Go.Proofs.Ytidfcajhmldieaa.Tkc
