/-
  Part 8: RdWhole, RdRead, RdCatch, RdCaught, RdAll, RdOne, LitAlive, LitOwn, RowKit, UtfLaid.
-/
import Derived.Test.YtgfbednfiejlfaaGreatDoorLitOwnCardP7
import Derived.Defers
import Derived.Recover
import Derived.Test.YtgfbednfiejlfaaGreatDoorLitOwnCardP1
import Derived.Test.YtgfbednfiejlfaaGreatDoorLitOwnCardP5
import Derived.Test.YtgfbednfiejlfaaGreatDoorLitOwnCardP2
import Derived.Test.YtgfbednfiejlfaaGreatDoorRows
import Derived.WalkKit
import Derived.ProofKit
import Derived.OpenShut
import Derived.JoinedCond
import Derived.SizedLaws
import Derived.Test.YtgfbednfiejlfaaGreatDoorCards
import Derived.Test.YtgfbednfiejlfaaGreatDoorTie
import Derived.Test.YtgfbednfiejlfaaGreatDoorLitOwnCardP3
import Derived.Lib.LaidU8
import Derived.Deep.DeepHandedRow
/-
  Contract of readWhole.
-/
namespace Go.Proofs.YtgfbednfiejlfaaGreatDoor.Rd
open Go.RowKit Go.Proofs.YtgfbednfiejlfaaGreatDoor.Oct Go.Proofs.YtgfbednfiejlfaaGreatDoor.Val

/-- A reader that has read nothing yet. -/
theorem rd_start {N : Nat} {R : Nat} {W : World} {s : List UInt8} (hR : N ≤ R) (h : Rd R (S s) (.slice none 0 0) (.int .i64 0) W) : RdAt N (fun b => if b = R then 2 else 1) W R s [] 0 (.slice none 0 0) [] where
  rd := h
  own := ⟨by simp [flat], .inl ⟨rfl, rfl⟩⟩
  len := rfl
  frs := fun i h => absurd h (by simp)
  rmark := by simp
  omark := fun b hb => by simp [Value.ownBlock] at hb
  out := fun b hb => by have := h.lt; rw [if_neg (by omega)]
  size := by have := h.lt; omega

/-- What readWhole leaves. -/
def WholeTo (w : World) (s : List UInt8) (en : Ending) (w' : World) : Prop :=
  Below w.heap.size w w' ∧
  ((en = Fault 33 ∧ (Leads (.loop s [] 0) .bad ∨ ∃ x t d, Leads (.loop s [] 0) (.done x t d) ∧ t ≠ [])) ∨
   (en = Fault 42 ∧ ∃ x d, Leads (.loop s [] 0) (.done x [] d) ∧ 16 < d) ∨
   ∃ e x d, en = .returned (agg5 e) ∧ Leads (.loop s [] 0) (.done x [] d) ∧ d ≤ 16 ∧ Holds (Mine w.heap.size w') w' (agg5 e) x)

theorem whole_fin {w w0 W1 : World} {R : Nat} {tag tg : Nat → Nat} {s : List UInt8} {d : Nat} {ov : Value} {es : List E5} {x : V} {v0 v1 v2 v3 v4 : Value} (hb0 : Below w.heap.size w w0) (h0 : RdAt w.heap.size tag w0 R s [] d ov es) (hk : Kp tag tg w0 W1) (ht : tg w.heap.size = 1)
    (hh : Holds (Dn w.heap.size tg W1) W1 (.agg #[v0, v1, v2, v3, v4]) x) (Z : World) (hZ : Z = st5 (W1.alloc (.cells #[v0, v1, v2, v3, v4] 26)) w.heap.size v0 v1 v2 v3 v4) : Below w.heap.size w Z ∧ Holds (Mine w.heap.size Z) Z (.agg #[v0, v1, v2, v3, v4]) x := by
  have hl := h0.low hk
  have hlo2 : w.heap.size ≤ W1.heap.size := Nat.le_trans h0.size hk.size
  have ba := (Below.refl W1.heap.size W1).alloc (Nat.le_refl _) (.cells #[v0, v1, v2, v3, v4] 26)
  have key : ∀ b, b < W1.heap.size → tg b = 0 → Z.heap[b]? = W1.heap[b]? := fun b hb h => by
    rw [hZ, st5_other _ v0 v1 v2 v3 v4 (fun e => by rw [e, ht] at h; cases h)]
    exact ba.block b hb
  refine ⟨?_, hh.frame (fun _ b _ _ hd => key b hd.lt hd.2) fun t b off n hd => ?_⟩
  · rw [hZ]
    exact st5_below ((hb0.trans hl).alloc hlo2 _) (Nat.le_refl _) v0 v1 v2 v3 v4
  · have hlt := hd.lt
    obtain ⟨⟨h1, h2, cur, h3⟩, h4⟩ := hd
    exact ⟨h1, h2, cur, by rw [key b hlt h4]; exact h3⟩

set_option maxHeartbeats 4000000 in
set_option maxRecDepth 100000 in
theorem whole_c (w : World) (s : List UInt8) (hl : s.length ≤ 274877906944) (hT : TabN w.heap.size w) :
    Calls Tryz.prog 18 #[.string (S s)] w (WholeTo w s) := by
  obtain ⟨w0, hw0⟩ : ∃ w0, w0 = (zBox w).alloc (.cells #[.string (S s), .slice none 0 0, .int .i64 0] 54) := ⟨_, rfl⟩
  have hs0 : w0.heap.size = w.heap.size + 2 := by rw [hw0]; exact (Array.size_push _).trans (congrArg (· + 1) (Array.size_push _))
  have hb1 : Below w.heap.size w (zBox w) := (Below.refl _ w).alloc (Nat.le_refl _) _
  have hb0 : Below w.heap.size w w0 := by rw [hw0]; exact hb1.alloc hb1.size _
  have hz1 : (zBox w).heap.size = w.heap.size + 1 := Array.size_push _
  have hrd : Rd (w.heap.size + 1) (S s) (.slice none 0 0) (.int .i64 0) w0 := by
    have h1 := heap_alloc_new (zBox w) (.cells #[.string (S s), .slice none 0 0, .int .i64 0] 54)
    rw [hz1, ← hw0] at h1
    exact h1
  have hbx : Bx w0 w.heap.size (.int .i64 0) (.int .i64 0) (.string ⟨#[]⟩) (.slice none 0 0) (.slice none 0 0) := by
    have h1 := (Bx.new w (.int .i64 0) (.int .i64 0) (.string ⟨#[]⟩) (.slice none 0 0) (.slice none 0 0)).keep (W' := w0) (by rw [hw0]; exact (Below.refl _ (zBox w)).alloc (Nat.le_refl _) _)
    exact h1
  have h0 := rd_start (N := w.heap.size) (by omega) hrd
  have hv := value_c _ _ w0 (w.heap.size + 1) s _ _ 0 h0 hl (hT.to hb0)
  have HB := Lib.hid (And.intro h0 (And.intro hb0 (And.intro hbx hs0)))
  rw [hw0] at hv
  clear h0 hb0 hbx hs0 hrd hz1 hb1
  go_enter Tryz.func18, Tryz.ntmps18
  go_wp2_with fail
  refine hv.mono ?_
  clear hv
  rintro e1 W1 (⟨rfl, hb, tg, hk⟩ | ⟨⟨v0, v1, v2, v3, v4⟩, tg, ov', es', x, t, d, rfl, hle, k1, k2, k3⟩)
  · have hlow := HB.out.1.low (hw0 ▸ hk)
    exact ⟨rfl, HB.out.2.1.trans hlow, .inl ⟨rfl, .inl hb⟩⟩
  · obtain ⟨l0, l1, l2, lp, la, lb, lq, lr, ld, rfl, rfl, rfl, rfl, rfl⟩ := holds_parts k3
    have c0 := k1.rd.cell0
    have c2 := k1.rd.cell2
    have hlt := k1.rd.lt
    have hW := fun W (hb : Below W1.heap.size W1 W) => And.intro (k1.keep hb).rd.cell0 (k1.keep hb).rd.cell2
    have HW := Lib.hid hW
    have HK := Lib.hid (And.intro hle (And.intro k1 (And.intro k2 k3)))
    clear hW hle k1 k2 k3
    cases t with
    | cons a t =>
      go_wp2_with fail
      refine (demand_no _ _).mono ?_
      rintro e2 W2 ⟨rfl, rfl⟩
      have hlow := (HB.out.1.low (hw0 ▸ HK.out.2.2.1)).alloc (Nat.le_trans HB.out.1.size (HK.out.2.2.1.size |> (hw0 ▸ ·))) (.cells #[.int .i64 l0, .int .i64 l1, .string l2, .slice lp la lb, .slice lq lr ld] 26)
      exact ⟨rfl, HB.out.2.1.trans hlow, .inl ⟨rfl, .inr ⟨x, _, d, HK.out.1, by simp⟩⟩⟩
    | nil =>
      go_wp2_with fail
      refine (demand_yes _ _).mono ?_
      rintro e2 W2 ⟨rfl, rfl⟩
      have hlow : Below w.heap.size w0 W1 := HB.out.1.low (hw0 ▸ HK.out.2.2.1)
      have hlo2 : w.heap.size ≤ W1.heap.size := Nat.le_trans HB.out.1.size hlow.size
      have hbz := HB.out.2.2.1.kp (hw0 ▸ HK.out.2.2.1) (by rw [if_neg (by omega)])
      have hbb := hbz.1.keep ((Below.refl _ W1).alloc (Nat.le_refl _) (.cells #[.int .i64 l0, .int .i64 l1, .string l2, .slice lp la lb, .slice lq lr ld] 26))
      obtain ⟨t0, t1, t2, t3, t4⟩ := hbb.froz
      obtain ⟨g0, g1, g2, g3, g4⟩ := hbb.five
      obtain ⟨y0, y1, y2, y3, y4⟩ := (Bx.new W1 (.int .i64 l0) (.int .i64 l1) (.string l2) (.slice lp la lb) (.slice lq lr ld)).five
      have HZ := Lib.hid hbz.2
      clear hbz hbb
      by_cases hd : (d : Int) ≤ 16
      · go_wp2_with fail
        refine (demand_yes _ _).mono ?_
        rintro e3 W3 ⟨rfl, rfl⟩
        go_wp2_with fail
        refine bodyPost_ret (v := .agg #[.int .i64 l0, .int .i64 l1, .string l2, .slice lp la lb, .slice lq lr ld]) (by simp [results, Tryz.results18, go_sem, g0, g1, g2, g3, g4]) rfl ?_
        have fin := fun Z hZ => whole_fin HB.out.2.1 HB.out.1 (hw0 ▸ HK.out.2.2.1) HZ.out HK.out.2.2.2 Z hZ
        obtain ⟨f1, f2⟩ := fin _ rfl
        exact ⟨f1, .inr (.inr ⟨(.int .i64 l0, .int .i64 l1, .string l2, .slice lp la lb, .slice lq lr ld), x, d, rfl, HK.out.1, by omega, f2⟩)⟩
      · go_wp2_with fail
        have hde : decide ((d : Int) ≤ 16) = false := decide_eq_false (by omega)
        rw [hde]
        refine (demand_no _ _).mono ?_
        rintro e3 W3 ⟨rfl, rfl⟩
        exact ⟨rfl, HB.out.2.1.trans (hlow.alloc hlo2 _), .inr (.inl ⟨rfl, x, d, HK.out.1, by omega⟩)⟩
end Go.Proofs.YtgfbednfiejlfaaGreatDoor.Rd

/-
  Contracts of Read's closure, of caught and of Read.
-/
namespace Go.Proofs.YtgfbednfiejlfaaGreatDoor.Rd
open Go.RowKit Go.Proofs.YtgfbednfiejlfaaGreatDoor.Oct Go.Proofs.YtgfbednfiejlfaaGreatDoor.Val

set_option maxHeartbeats 4000000 in
set_option maxRecDepth 100000 in
theorem read1_c (w : World) (sb : Nat) (s : List UInt8) (hs : w.cell? ⟨sb, 0, none⟩ = some (.string (S s))) (hlt : sb < w.heap.size) (hl : s.length ≤ 274877906944) (hT : TabN w.heap.size w) :
    Calls Tryz.prog 17 #[.pointer (some ⟨sb, 0, none⟩)] w (WholeTo w s) := by
  have hbz : Below w.heap.size w (zBox w) := (Below.refl _ w).alloc (Nat.le_refl _) _
  have hz1 : (zBox w).heap.size = w.heap.size + 1 := Array.size_push _
  have hw := whole_c (zBox w) s hl (fun X hX => hT X (hbz.trans (hX.mono (by omega))))
  have hs1 : (zBox w).cell? ⟨sb, 0, none⟩ = some (.string (S s)) := by rw [← hs]; exact hbz.cell hlt
  have HB := Lib.hid (And.intro hbz hz1)
  clear hbz hz1
  go_enter Tryz.func17, Tryz.ntmps17
  go_wp2_with fail
  refine hw.mono ?_
  clear hw
  rintro e1 W1 ⟨hb, (⟨rfl, h⟩ | ⟨rfl, h⟩ | ⟨⟨v0, v1, v2, v3, v4⟩, x, d, rfl, h1, h2, h3⟩)⟩
  · exact ⟨rfl, HB.out.1.trans (hb.mono (by rw [HB.out.2]; omega)), .inl ⟨rfl, h⟩⟩
  · exact ⟨rfl, HB.out.1.trans (hb.mono (by rw [HB.out.2]; omega)), .inr (.inl ⟨rfl, h⟩)⟩
  · obtain ⟨l0, l1, l2, lp, la, lb, lq, lr, ld, rfl, rfl, rfl, rfl, rfl⟩ := holds_parts h3
    have hbx : Bx W1 w.heap.size (.int .i64 0) (.int .i64 0) (.string ⟨#[]⟩) (.slice none 0 0) (.slice none 0 0) := by
      unfold Bx
      rw [hb.block w.heap.size (by rw [HB.out.2]; omega)]
      exact Bx.new w (.int .i64 0) (.int .i64 0) (.string ⟨#[]⟩) (.slice none 0 0) (.slice none 0 0)
    obtain ⟨t0, t1, t2, t3, t4⟩ := hbx.froz
    obtain ⟨g0, g1, g2, g3, g4⟩ := hbx.five
    have fin : Hid (∀ Z, Z = st5 W1 w.heap.size (.int .i64 l0) (.int .i64 l1) (.string l2) (.slice lp la lb) (.slice lq lr ld) → Below w.heap.size w Z ∧ Holds (Mine w.heap.size Z) Z (.agg #[.int .i64 l0, .int .i64 l1, .string l2, .slice lp la lb, .slice lq lr ld]) x) := by
      intro Z hZ
      rw [HB.out.2] at h3
      have key : ∀ b, b ≠ w.heap.size → Z.heap[b]? = W1.heap[b]? := fun b hb => by rw [hZ, st5_other _ _ _ _ _ _ hb]
      refine ⟨?_, h3.frame (fun _ b _ _ hd => key b (by have := hd.1; omega)) fun t b off n hd => ?_⟩
      · rw [hZ]
        exact st5_below (HB.out.1.trans (hb.mono (by rw [HB.out.2]; omega))) (Nat.le_refl _) _ _ _ _ _
      · obtain ⟨h5, h6, cur, h7⟩ := hd
        exact ⟨by omega, h6, cur, by rw [key b (by omega)]; exact h7⟩
    have H1 := Lib.hid (And.intro h1 h2)
    clear h1 h2 h3 hb hbx hs
    go_wp2_with fail
    refine bodyPost_ret (v := .agg #[.int .i64 l0, .int .i64 l1, .string l2, .slice lp la lb, .slice lq lr ld]) (by simp [results, Tryz.results17, go_sem, g0, g1, g2, g3, g4]) rfl ?_
    have hf := fin.out
    obtain ⟨f1, f2⟩ := hf _ rfl
    exact ⟨f1, .inr (.inr ⟨(.int .i64 l0, .int .i64 l1, .string l2, .slice lp la lb, .slice lq lr ld), x, d, rfl, H1.out.1, H1.out.2, f2⟩)⟩

end Go.Proofs.YtgfbednfiejlfaaGreatDoor.Rd

/-
  Contracts of faults.Caught at one of its instances, over whatever closure is handed in.
-/
namespace Go.Proofs.YtgfbednfiejlfaaGreatDoor.Rd
open Go.RowKit Go.Proofs.YtgfbednfiejlfaaGreatDoor.Oct

theorem assert_fault (x : Value) (xT : TypeId) (w : World) : (Instr.typeAssert (.iface 51 x) xT 51 true).run Tryz.prog w = .ok (.tuple #[x, .bool true]) w := by kernel_rfl
theorem assert_nil (xT : TypeId) (w : World) : (Instr.typeAssert .nilIface xT 51 true).run Tryz.prog w = .ok (.tuple #[.agg #[.int .i64 0], .bool false]) w := by kernel_rfl

set_option maxHeartbeats 4000000 in
set_option maxRecDepth 100000 in
theorem catch_none (r : Nat) (w : World) :
    CallsD Tryz.prog 28 #[.pointer (some ⟨r, 0, none⟩)] .returning w fun e u' w' =>
      e = .returned (.tuple #[]) ∧ u' = .returning ∧ Below w.heap.size w w' := by
  have hta := assert_nil
  refine callsD_of_wpS Tryz.func28 rfl fun c₀ cs hu => ?_
  apply wpS_seq
  apply wpS_region
  simp [wpOpsS, go_sem, recoverD, hu, Tryz.ntmps28, Exit.thenS]
  refine wpS_of_wp ?_
  simp only [List.replicate, Array.replicate, List.setIfInBounds_toArray, List.set_cons_succ, List.set_cons_zero, List.append_toArray, List.cons_append, List.nil_append]
  go_wp2_with fail
  simp only [bodyPostS]
  exact ⟨trivial, .returning, by cases c₀; simp_all, .tuple #[], by simp [results, Tryz.results28], rfl, rfl, (Below.refl _ w).alloc (Nat.le_refl _) _⟩

set_option maxHeartbeats 400000 in
set_option maxRecDepth 100000 in
theorem catch_fault (r : Nat) (n x : Int) (w : World) (hx : w.cell? ⟨r, 0, none⟩ = some (.int .i64 x)) (hz : w.frozen? ⟨r, 0, none⟩ = false) (hr : r < w.heap.size) :
    CallsD Tryz.prog 28 #[.pointer (some ⟨r, 0, none⟩)] (.panicking [{ v := faultV n, recovered := false }]) w fun e u' w' =>
      e = .returned (.tuple #[]) ∧ u' = .panicking [{ v := faultV n, recovered := true }] ∧ w' = (w.setCell ⟨r, 0, none⟩ (.int .i64 n)).alloc (.cells #[.int .i64 n] 51) := by
  have hb := (Below.refl w.heap.size w).alloc (Nat.le_refl _) (.cells #[.int .i64 n] 51)
  have hx1 := (hb.cell (p := ⟨r, 0, none⟩) hr).trans hx
  have hz1 := (hb.frozen (p := ⟨r, 0, none⟩) hr).trans hz
  have hnc : (w.alloc (.cells #[.int .i64 n] 51)).cell? ⟨w.heap.size, 0, none⟩ = some (.int .i64 n) := cell_of_row _ w.heap.size 0 _ _ _ (heap_alloc_new w _)
  clear hb
  have hta := assert_fault (.agg #[.int .i64 n])
  refine callsD_of_wpS Tryz.func28 rfl fun c₀ cs hu => ?_
  replace hu : c₀.mode = .panicking [{ v := .iface 51 (.agg #[.int .i64 n]), recovered := false }] := hu
  apply wpS_seq
  apply wpS_region
  simp [wpOpsS, go_sem, recoverD, hu, Tryz.ntmps28, Exit.thenS]
  refine wpS_of_wp ?_
  simp only [List.replicate, Array.replicate, List.setIfInBounds_toArray, List.set_cons_succ, List.set_cons_zero, List.append_toArray, List.cons_append, List.nil_append]
  go_wp2_with fail
  show bodyPostS _ _ _ _ _ _ _ _ _
  simp only [bodyPostS]
  exact ⟨trivial, .panicking [{ v := faultV n, recovered := true }], by cases c₀; simp_all, .tuple #[], by simp [results, Tryz.results28], rfl, rfl, (by first | trivial | rfl)⟩

end Go.Proofs.YtgfbednfiejlfaaGreatDoor.Rd

/-
  Contract of caught, over Read's closure.
-/
namespace Go.Proofs.YtgfbednfiejlfaaGreatDoor.Rd
open Go.RowKit Go.Proofs.YtgfbednfiejlfaaGreatDoor.Oct Go.Proofs.YtgfbednfiejlfaaGreatDoor.Val

/-- What caught leaves. -/
def CaughtTo (w : World) (s : List UInt8) (en : Ending) (w' : World) : Prop :=
  Below w.heap.size w w' ∧
  ((en = .returned (.tuple #[.agg #[.int .i64 0, .int .i64 0, .string ⟨#[]⟩, .slice none 0 0, .slice none 0 0], .int .i64 33]) ∧ (Leads (.loop s [] 0) .bad ∨ ∃ x t d, Leads (.loop s [] 0) (.done x t d) ∧ t ≠ [])) ∨
   (en = .returned (.tuple #[.agg #[.int .i64 0, .int .i64 0, .string ⟨#[]⟩, .slice none 0 0, .slice none 0 0], .int .i64 42]) ∧ ∃ x d, Leads (.loop s [] 0) (.done x [] d) ∧ 16 < d) ∨
   ∃ e x d, en = .returned (.tuple #[agg5 e, .int .i64 0]) ∧ Leads (.loop s [] 0) (.done x [] d) ∧ d ≤ 16 ∧ Holds (Mine w.heap.size w') w' (agg5 e) x)

/-- Both results are laid. -/
theorem laid_fin {w W1 : World} (hb : Below w.heap.size w W1) {n y : Int} {u0 u1 u2 u3 u4 : Value} (hbx : Bx W1 w.heap.size u0 u1 u2 u3 u4) (hx : W1.heap[w.heap.size + 1]? = some (.cells #[.int .i64 y] 27 (0, 0))) (v0 v1 v2 v3 v4 : Value) (Z : World)
    (hZ : Below ((st5 W1 w.heap.size v0 v1 v2 v3 v4).setCell ⟨w.heap.size + 1, 0, none⟩ (.int .i64 n)).heap.size ((st5 W1 w.heap.size v0 v1 v2 v3 v4).setCell ⟨w.heap.size + 1, 0, none⟩ (.int .i64 n)) Z) :
    Below w.heap.size w Z ∧ Bx Z w.heap.size v0 v1 v2 v3 v4 ∧ Z.cell? ⟨w.heap.size + 1, 0, none⟩ = some (.int .i64 n) ∧ ∀ b, w.heap.size + 2 ≤ b → b < W1.heap.size → Z.heap[b]? = W1.heap[b]? := by
  have h1 := hbx.st5 v0 v1 v2 v3 v4
  have h2 : (st5 W1 w.heap.size v0 v1 v2 v3 v4).heap[w.heap.size + 1]? = some (.cells #[.int .i64 y] 27 (0, 0)) := by
    rw [st5_other _ _ _ _ _ _ (by omega)]; exact hx
  have h3 := heap_setCell_same _ (w.heap.size + 1) 0 _ _ (.int .i64 n) h2
  have hlt : w.heap.size + 1 < W1.heap.size := (Array.getElem?_eq_some_iff.1 hx).1
  have h4 : Below (w.heap.size + 1) (st5 W1 w.heap.size v0 v1 v2 v3 v4) ((st5 W1 w.heap.size v0 v1 v2 v3 v4).setCell ⟨w.heap.size + 1, 0, none⟩ (.int .i64 n)) :=
    (Below.refl _ _).setCell (p := ⟨w.heap.size + 1, 0, none⟩) (Nat.le_refl _) _
  have h6 : ∀ b, w.heap.size + 2 ≤ b → ((st5 W1 w.heap.size v0 v1 v2 v3 v4).setCell ⟨w.heap.size + 1, 0, none⟩ (.int .i64 n)).heap[b]? = W1.heap[b]? := fun b hb => by
    rw [Below.heap_setCell _ _ _ _ (by simp only; omega), st5_other _ _ _ _ _ _ (by omega)]
  have hsz : ((st5 W1 w.heap.size v0 v1 v2 v3 v4).setCell ⟨w.heap.size + 1, 0, none⟩ (.int .i64 n)).heap.size = W1.heap.size := by
    have e1 : ((st5 W1 w.heap.size v0 v1 v2 v3 v4).setCell ⟨w.heap.size + 1, 0, none⟩ (.int .i64 n)).heap.size = (st5 W1 w.heap.size v0 v1 v2 v3 v4).heap.size := by simp [World.setCell]
    rw [e1, st5_size]
  generalize hV : (st5 W1 w.heap.size v0 v1 v2 v3 v4).setCell ⟨w.heap.size + 1, 0, none⟩ (.int .i64 n) = V at *
  refine ⟨?_, ?_, ?_, ?_⟩
  · exact ((st5_below hb (Nat.le_refl _) v0 v1 v2 v3 v4).trans (h4.mono (by omega))).trans (hZ.mono (by omega))
  · unfold Bx
    rw [hZ.block _ (by omega), h4.block _ (by omega)]
    exact h1
  · exact cell_of_row _ (w.heap.size + 1) 0 _ _ _ ((hZ.block _ (by omega)).trans h3)
  · exact fun b hb1 hb2 => (hZ.block b (by omega)).trans (h6 b hb1)

theorem fault_fin {w W1 : World} (hb : Below w.heap.size w W1) {n y : Int} {u0 u1 u2 u3 u4 : Value} (hbx : Bx W1 w.heap.size u0 u1 u2 u3 u4) (hx : W1.heap[w.heap.size + 1]? = some (.cells #[.int .i64 y] 27 (0, 0))) (Z : World)
    (hZ : Z = (W1.setCell ⟨w.heap.size + 1, 0, none⟩ (.int .i64 n)).alloc (.cells #[.int .i64 n] 51)) :
    Below w.heap.size w Z ∧ Bx Z w.heap.size u0 u1 u2 u3 u4 ∧ Z.cell? ⟨w.heap.size + 1, 0, none⟩ = some (.int .i64 n) := by
  have hlt : w.heap.size + 1 < W1.heap.size := (Array.getElem?_eq_some_iff.1 hx).1
  have h3 := heap_setCell_same W1 (w.heap.size + 1) 0 _ _ (.int .i64 n) hx
  have h0 : (W1.setCell ⟨w.heap.size + 1, 0, none⟩ (.int .i64 n)).heap[w.heap.size]? = W1.heap[w.heap.size]? := heap_setCell_other _ _ _ _ (by simp)
  have hs : (W1.setCell ⟨w.heap.size + 1, 0, none⟩ (.int .i64 n)).heap.size = W1.heap.size := by simp [World.setCell]
  have hB : Below w.heap.size w (W1.setCell ⟨w.heap.size + 1, 0, none⟩ (.int .i64 n)) := hb.setCell (p := ⟨w.heap.size + 1, 0, none⟩) (Nat.le_succ _) _
  generalize W1.setCell ⟨w.heap.size + 1, 0, none⟩ (.int .i64 n) = V at *
  have ha : Below V.heap.size V Z := by rw [hZ]; exact (Below.refl _ V).alloc (Nat.le_refl _) _
  refine ⟨hB.trans (ha.mono (by omega)), ?_, cell_of_row Z (w.heap.size + 1) 0 _ _ _ ((ha.block _ (by omega)).trans h3)⟩
  unfold Bx
  rw [ha.block _ (by omega), h0]
  exact hbx

set_option maxHeartbeats 400000 in
set_option maxRecDepth 100000 in
theorem caught_c (w : World) (sb : Nat) (s : List UInt8) (hs : w.cell? ⟨sb, 0, none⟩ = some (.string (S s))) (hlt : sb < w.heap.size) (hl : s.length ≤ 274877906944) (hT : TabN w.heap.size w) :
    Calls Tryz.prog 16 #[.func (.func 17) #[] #[.pointer (some ⟨sb, 0, none⟩)]] w (CaughtTo w s) := by
  have hmf : ∀ (fn : Fn) (first cap : Array Value) (w : World), (Instr.makeFunc fn first cap).run Tryz.prog w = .ok (.func fn first cap) w := fun _ _ _ _ => rfl
  obtain ⟨w2, hw2⟩ : ∃ w2, w2 = (zBox w).alloc (.cells #[.int .i64 0] 27) := ⟨_, rfl⟩
  have hz1 : (zBox w).heap.size = w.heap.size + 1 := Array.size_push _
  have hz2 : w2.heap.size = w.heap.size + 2 := by rw [hw2]; exact (Array.size_push _).trans (congrArg (· + 1) (Array.size_push _))
  have hb1 : Below w.heap.size w (zBox w) := (Below.refl _ w).alloc (Nat.le_refl _) _
  have hb2 : Below w.heap.size w w2 := by rw [hw2]; exact hb1.alloc hb1.size _
  have hbx : Bx w2 w.heap.size (.int .i64 0) (.int .i64 0) (.string ⟨#[]⟩) (.slice none 0 0) (.slice none 0 0) :=
    (Bx.new w (.int .i64 0) (.int .i64 0) (.string ⟨#[]⟩) (.slice none 0 0) (.slice none 0 0)).keep (W' := w2) (by rw [hw2]; exact (Below.refl _ (zBox w)).alloc (Nat.le_refl _) _)
  have hx : w2.heap[w.heap.size + 1]? = some (.cells #[.int .i64 0] 27 (0, 0)) := by
    have h1 := heap_alloc_new (zBox w) (.cells #[.int .i64 0] 27)
    rw [hz1, ← hw2] at h1
    exact h1
  have hc := read1_c w2 sb s ((hb2.cell (p := ⟨sb, 0, none⟩) hlt).trans hs) (by omega) hl (fun X hX => hT X (hb2.trans (hX.mono (by omega))))
  have HB := Lib.hid (And.intro hb2 (And.intro hbx (And.intro hx hz2)))
  rw [hw2] at hc
  clear hb1 hb2 hbx hx hz1 hz2
  go_enter_defers Tryz.func16, Tryz.ntmps16
  go_wp2_with fail
  refine hc.mono ?_
  clear hc
  rintro e1 W1 ⟨hb, h⟩
  rw [← hw2, HB.out.2.2.2] at hb
  have bx1 : Bx W1 w.heap.size (.int .i64 0) (.int .i64 0) (.string ⟨#[]⟩) (.slice none 0 0) (.slice none 0 0) := by unfold Bx; rw [hb.block _ (by omega)]; exact HB.out.2.1
  have x1 : W1.heap[w.heap.size + 1]? = some (.cells #[.int .i64 0] 27 (0, 0)) := by rw [hb.block _ (by omega)]; exact HB.out.2.2.1
  have hbw : Below w.heap.size w W1 := HB.out.1.trans (hb.mono (by omega))
  have hxc := cell_of_row W1 (w.heap.size + 1) 0 _ _ _ x1
  have hxz := frozen_of_row W1 (w.heap.size + 1) 0 _ _ x1
  have hxl : w.heap.size + 1 < W1.heap.size := (Array.getElem?_eq_some_iff.1 x1).1
  have flt : ∀ n, CallsD Tryz.prog 28 #[.pointer (some ⟨w.heap.size + 1, 0, none⟩)] (.panicking [{ v := faultV n, recovered := false }]) W1 _ := fun n => catch_fault (w.heap.size + 1) n 0 W1 hxc hxz hxl
  rcases h with ⟨rfl, h⟩ | ⟨rfl, h⟩ | ⟨⟨v0, v1, v2, v3, v4⟩, x, d, rfl, h1, h2, h3⟩
  · refine leaves_cons (f := 28) (args := #[.pointer (some ⟨w.heap.size + 1, 0, none⟩)]) (by simp) (by simp [go_sem]) ?_
    refine (flt 33).mono ?_
    rintro e u' w'' ⟨rfl, rfl, hw''⟩
    obtain ⟨f1, f2, f3⟩ := fault_fin hbw bx1 x1 w'' hw''
    obtain ⟨g0, g1, g2, g3, g4⟩ := f2.five
    clear hw''
    simp [Leaves, settle, results, Tryz.results16, go_sem, g0, g1, g2, g3, g4, f3]
    exact ⟨f1, .inl ⟨rfl, h⟩⟩
  · refine leaves_cons (f := 28) (args := #[.pointer (some ⟨w.heap.size + 1, 0, none⟩)]) (by simp) (by simp [go_sem]) ?_
    refine (flt 42).mono ?_
    rintro e u' w'' ⟨rfl, rfl, hw''⟩
    obtain ⟨f1, f2, f3⟩ := fault_fin hbw bx1 x1 w'' hw''
    obtain ⟨g0, g1, g2, g3, g4⟩ := f2.five
    clear hw''
    simp [Leaves, settle, results, Tryz.results16, go_sem, g0, g1, g2, g3, g4, f3]
    exact ⟨f1, .inr (.inl ⟨rfl, h⟩)⟩
  · obtain ⟨l0, l1, l2, lp, la, lb, lq, lr, ld, rfl, rfl, rfl, rfl, rfl⟩ := holds_parts h3
    obtain ⟨t0, t1, t2, t3, t4⟩ := bx1.froz
    obtain ⟨g0, g1, g2, g3, g4⟩ := bx1.five
    have hne : w.heap.size + 1 ≠ w.heap.size := by omega
    have hne2 := Ne.symm hne
    have HH := Lib.hid (And.intro h1 (And.intro h2 (And.intro h3 (And.intro hbw (And.intro bx1 x1)))))
    clear h1 h2 h3 hbw bx1 x1 hb flt
    go_wp2_with fail
    refine leaves_cons (f := 28) (args := #[.pointer (some ⟨w.heap.size + 1, 0, none⟩)]) (by simp) (by simp [go_sem]) ?_
    refine (catch_none (w.heap.size + 1) _).mono ?_
    rintro e u' w'' ⟨rfl, rfl, hw''⟩
    obtain ⟨f1, f2, f3, f4⟩ := laid_fin HH.out.2.2.2.1 HH.out.2.2.2.2.1 HH.out.2.2.2.2.2 (.int .i64 l0) (.int .i64 l1) (.string l2) (.slice lp la lb) (.slice lq lr ld) w'' hw''
    obtain ⟨g0, g1, g2, g3, g4⟩ := f2.five
    clear hw''
    simp [Leaves, settle, results, Tryz.results16, go_sem, g0, g1, g2, g3, g4, f3]
    obtain ⟨h1, h2, h3, _⟩ := HH.out
    rw [← hw2, HB.out.2.2.2] at h3
    refine ⟨f1, .inr (.inr ⟨(.int .i64 l0, .int .i64 l1, .string l2, .slice lp la lb, .slice lq lr ld), x, d, rfl, h1, h2, h3.frame (fun _ b _ _ hd => f4 b hd.1 hd.lt) fun t b off n hd => ?_⟩)⟩
    have hlt := hd.lt
    obtain ⟨h5, h6, cur, h7⟩ := hd
    exact ⟨by omega, h6, cur, by rw [f4 b h5 hlt]; exact h7⟩
end Go.Proofs.YtgfbednfiejlfaaGreatDoor.Rd

/-
  Contract of Read.
-/
namespace Go.Proofs.YtgfbednfiejlfaaGreatDoor.Rd
open Go.RowKit Go.Proofs.YtgfbednfiejlfaaGreatDoor.Oct Go.Proofs.YtgfbednfiejlfaaGreatDoor.Val

/-- What Read leaves. -/
def ReadTo (w : World) (s : List UInt8) (en : Ending) (w' : World) : Prop :=
  Below w.heap.size w w' ∧
  ((en = .returned (.tuple #[.agg #[.int .i64 0, .int .i64 0, .string ⟨#[]⟩, .slice none 0 0, .slice none 0 0], .int .i64 0, .int .i64 33]) ∧ (Leads (.loop s [] 0) .bad ∨ ∃ x t d, Leads (.loop s [] 0) (.done x t d) ∧ t ≠ [])) ∨
   (en = .returned (.tuple #[.agg #[.int .i64 0, .int .i64 0, .string ⟨#[]⟩, .slice none 0 0, .slice none 0 0], .int .i64 0, .int .i64 42]) ∧ ∃ x d, Leads (.loop s [] 0) (.done x [] d) ∧ 16 < d) ∨
   ∃ e x d, en = .returned (.tuple #[agg5 e, .int .i64 s.length, .int .i64 0]) ∧ Leads (.loop s [] 0) (.done x [] d) ∧ d ≤ 16 ∧ Holds (Mine w.heap.size w') w' (agg5 e) x)

theorem read_fin {w W1 V : World} {x : Val.V} {v0 v1 v2 v3 v4 : Value} (h4 : Below w.heap.size w V) (h6 : Below W1.heap.size W1 V) (h3 : Holds (Mine (w.heap.size + 2) W1) W1 (.agg #[v0, v1, v2, v3, v4]) x) (Z : World)
    (hZ : Z = (st5 V (w.heap.size + 1) v0 v1 v2 v3 v4).drew) : Below w.heap.size w Z ∧ Holds (Mine w.heap.size Z) Z (.agg #[v0, v1, v2, v3, v4]) x := by
  have key : ∀ b, w.heap.size + 2 ≤ b → b < W1.heap.size → Z.heap[b]? = W1.heap[b]? := fun b hb hb2 => by
    have e : Z.heap[b]? = (st5 V (w.heap.size + 1) v0 v1 v2 v3 v4).heap[b]? := by rw [hZ]; rfl
    rw [e, st5_other _ _ _ _ _ _ (by omega)]
    exact h6.block b hb2
  refine ⟨by rw [hZ]; exact (st5_below h4 (Nat.le_succ _) _ _ _ _ _).drew, h3.frame (fun _ b _ _ hd => key b hd.1 hd.lt) fun t b off n hd => ?_⟩
  have hlt := hd.lt
  obtain ⟨h7, h8, cur, h9⟩ := hd
  exact ⟨by omega, h8, cur, by rw [key b h7 hlt]; exact h9⟩

set_option maxHeartbeats 4000000 in
set_option maxRecDepth 100000 in
theorem read_c (w : World) (s : List UInt8) (hl : s.length ≤ 274877906944) (hT : TabN w.heap.size w) :
    Calls Tryz.prog 7 #[.string (S s)] w (ReadTo w s) := by
  obtain ⟨w1, hw1⟩ : ∃ w1, w1 = w.alloc (.cells #[.string (S s)] 9) := ⟨_, rfl⟩
  obtain ⟨w2, hw2⟩ : ∃ w2, w2 = w1.alloc (.cells #[.int .i64 0, .int .i64 0, .string ⟨#[]⟩, .slice none 0 0, .slice none 0 0] 26) := ⟨_, rfl⟩
  have hz1 : w1.heap.size = w.heap.size + 1 := by rw [hw1]; exact Array.size_push _
  have hz2 : w2.heap.size = w.heap.size + 2 := by rw [hw2]; exact (Array.size_push _).trans (congrArg (· + 1) hz1)
  have hb1 : Below w.heap.size w w1 := by rw [hw1]; exact (Below.refl _ w).alloc (Nat.le_refl _) _
  have hb12 : Below w1.heap.size w1 w2 := by rw [hw2]; exact (Below.refl _ w1).alloc (Nat.le_refl _) _
  have hs1 : w1.cell? ⟨w.heap.size, 0, none⟩ = some (.string (S s)) := by rw [hw1]; exact cell_of_row _ w.heap.size 0 _ _ _ (heap_alloc_new w _)
  have hs2 : w2.cell? ⟨w.heap.size, 0, none⟩ = some (.string (S s)) := (hb12.cell (p := ⟨w.heap.size, 0, none⟩) (by rw [hz1]; exact Nat.lt_succ_self _)).trans hs1
  have hbx : Bx w2 (w.heap.size + 1) (.int .i64 0) (.int .i64 0) (.string ⟨#[]⟩) (.slice none 0 0) (.slice none 0 0) := by
    have h1 := Bx.new w1 (.int .i64 0) (.int .i64 0) (.string ⟨#[]⟩) (.slice none 0 0) (.slice none 0 0)
    rw [← hw2, hz1] at h1
    exact h1
  have hb2 : Below w.heap.size w w2 := hb1.trans (hb12.mono (by omega))
  have hc := caught_c w2 w.heap.size s hs2 (by omega) hl (fun X hX => hT X (hb2.trans (hX.mono (by omega))))
  have HB := Lib.hid (And.intro hb2 (And.intro hbx (And.intro hs2 hz2)))
  rw [hw2, hw1] at hc
  have hw3 : w2 = (w.alloc (.cells #[.string (S s)] 9)).alloc (.cells #[.int .i64 0, .int .i64 0, .string ⟨#[]⟩, .slice none 0 0, .slice none 0 0] 26) := by rw [hw2, hw1]
  clear hw1 hw2 hb1 hb2 hb12 hbx hs1 hs2 hz1 hz2
  go_enter Tryz.func7, Tryz.ntmps7
  go_wp2_with fail
  refine hc.mono ?_
  clear hc
  rintro e1 W1 ⟨hb, h⟩
  rw [← hw3, HB.out.2.2.2] at hb
  have bx1 : Bx W1 (w.heap.size + 1) (.int .i64 0) (.int .i64 0) (.string ⟨#[]⟩) (.slice none 0 0) (.slice none 0 0) := by unfold Bx; rw [hb.block _ (by omega)]; exact HB.out.2.1
  have hsc : W1.cell? ⟨w.heap.size, 0, none⟩ = some (.string (S s)) := (hb.cell (p := ⟨w.heap.size, 0, none⟩) (by show w.heap.size < _; omega)).trans HB.out.2.2.1
  have hbw : Below w.heap.size w W1 := HB.out.1.trans (hb.mono (by omega))
  rcases h with ⟨rfl, h⟩ | ⟨rfl, h⟩ | ⟨⟨v0, v1, v2, v3, v4⟩, x, d, rfl, h1, h2, h3⟩
  · have ba := (Below.refl W1.heap.size W1).alloc (Nat.le_refl _) (.cells #[.int .i64 0, .int .i64 0, .string ⟨#[]⟩, .slice none 0 0, .slice none 0 0] 26)
    have bx2 := bx1.keep ba
    have hs3 := (ba.cell (p := ⟨w.heap.size, 0, none⟩) (by have := bx1.lt; show w.heap.size < _; omega)).trans hsc
    obtain ⟨t0, t1, t2, t3, t4⟩ := bx2.froz
    obtain ⟨g0, g1, g2, g3, g4⟩ := bx2.five
    obtain ⟨y0, y1, y2, y3, y4⟩ := (Bx.new W1 (.int .i64 0) (.int .i64 0) (.string ⟨#[]⟩) (.slice none 0 0) (.slice none 0 0)).five
    have hsz := bx1.lt
    have hlow := hbw.alloc (by omega) (.cells #[.int .i64 0, .int .i64 0, .string ⟨#[]⟩, .slice none 0 0, .slice none 0 0] 26)
    have HH := Lib.hid (And.intro h (And.intro hlow bx2))
    clear h hbw hb bx1 bx2 ba hsz hlow
    go_wp2_with fail
    refine bodyPost_ret (v := .tuple #[.agg #[.int .i64 0, .int .i64 0, .string ⟨#[]⟩, .slice none 0 0, .slice none 0 0], .int .i64 0, .int .i64 33]) (by simp [results, Tryz.results7, go_sem, g0, g1, g2, g3, g4]) rfl ?_
    have fin := fun Z (hZ : Z = st5 _ (w.heap.size + 1) (.int .i64 0) (.int .i64 0) (.string ⟨#[]⟩) (.slice none 0 0) (.slice none 0 0)) => (hZ ▸ st5_below HH.out.2.1 (Nat.le_succ _) (.int .i64 0) (.int .i64 0) (.string ⟨#[]⟩) (.slice none 0 0) (.slice none 0 0) : Below w.heap.size w Z)
    exact ⟨fin _ rfl, .inl ⟨rfl, HH.out.1⟩⟩
  · have ba := (Below.refl W1.heap.size W1).alloc (Nat.le_refl _) (.cells #[.int .i64 0, .int .i64 0, .string ⟨#[]⟩, .slice none 0 0, .slice none 0 0] 26)
    have bx2 := bx1.keep ba
    have hs3 := (ba.cell (p := ⟨w.heap.size, 0, none⟩) (by have := bx1.lt; show w.heap.size < _; omega)).trans hsc
    obtain ⟨t0, t1, t2, t3, t4⟩ := bx2.froz
    obtain ⟨g0, g1, g2, g3, g4⟩ := bx2.five
    obtain ⟨y0, y1, y2, y3, y4⟩ := (Bx.new W1 (.int .i64 0) (.int .i64 0) (.string ⟨#[]⟩) (.slice none 0 0) (.slice none 0 0)).five
    have hsz := bx1.lt
    have hlow := hbw.alloc (by omega) (.cells #[.int .i64 0, .int .i64 0, .string ⟨#[]⟩, .slice none 0 0, .slice none 0 0] 26)
    have HH := Lib.hid (And.intro h (And.intro hlow bx2))
    clear h hbw hb bx1 bx2 ba hsz hlow
    go_wp2_with fail
    refine bodyPost_ret (v := .tuple #[.agg #[.int .i64 0, .int .i64 0, .string ⟨#[]⟩, .slice none 0 0, .slice none 0 0], .int .i64 0, .int .i64 42]) (by simp [results, Tryz.results7, go_sem, g0, g1, g2, g3, g4]) rfl ?_
    have fin := fun Z (hZ : Z = st5 _ (w.heap.size + 1) (.int .i64 0) (.int .i64 0) (.string ⟨#[]⟩) (.slice none 0 0) (.slice none 0 0)) => (hZ ▸ st5_below HH.out.2.1 (Nat.le_succ _) (.int .i64 0) (.int .i64 0) (.string ⟨#[]⟩) (.slice none 0 0) (.slice none 0 0) : Below w.heap.size w Z)
    exact ⟨fin _ rfl, .inr (.inl ⟨rfl, HH.out.1⟩)⟩
  · obtain ⟨l0, l1, l2, lp, la, lb, lq, lr, ld, rfl, rfl, rfl, rfl, rfl⟩ := holds_parts h3
    have ba := (Below.refl W1.heap.size W1).alloc (Nat.le_refl _) (.cells #[.int .i64 l0, .int .i64 l1, .string l2, .slice lp la lb, .slice lq lr ld] 26)
    have bx2 := bx1.keep ba
    have hs3 := (ba.cell (p := ⟨w.heap.size, 0, none⟩) (by have := bx1.lt; show w.heap.size < _; omega)).trans hsc
    obtain ⟨t0, t1, t2, t3, t4⟩ := bx2.froz
    obtain ⟨g0, g1, g2, g3, g4⟩ := bx2.five
    obtain ⟨y0, y1, y2, y3, y4⟩ := (Bx.new W1 (.int .i64 l0) (.int .i64 l1) (.string l2) (.slice lp la lb) (.slice lq lr ld)).five
    have hsz := bx1.lt
    have hlow := hbw.alloc (by omega) (.cells #[.int .i64 l0, .int .i64 l1, .string l2, .slice lp la lb, .slice lq lr ld] 26)
    have HSZ := Lib.hid hsz
    have HH := Lib.hid (And.intro h1 (And.intro h2 (And.intro h3 (And.intro hlow (And.intro bx2 ba)))))
    clear h1 h2 h3 hbw bx1 bx2 hb ba hsz hlow
    have hne : W1.heap.size ≠ w.heap.size + 1 := by have := HH.out.2.2.2.2.1.lt; have h9 := HSZ.out; omega
    have hne2 := Ne.symm hne
    have hne3 : W1.heap.size ≠ w.heap.size := by have h9 := HSZ.out; omega
    have hne4 := Ne.symm hne3
    have hne5 : w.heap.size ≠ w.heap.size + 1 := by omega
    have hne6 := Ne.symm hne5
    have hsS := size_S s
    go_wp2_with fail
    go_region
    go_wp2_with fail
    refine bodyPost_ret (v := .tuple #[.agg #[.int .i64 l0, .int .i64 l1, .string l2, .slice lp la lb, .slice lq lr ld], .int .i64 s.length, .int .i64 0]) (by simp [results, Tryz.results7, go_sem, g0, g1, g2, g3, g4]) rfl ?_
    obtain ⟨h1, h2, h3, h4, h5, h6⟩ := HH.out
    rw [← hw3, HB.out.2.2.2] at h3
    have fin := fun Z hZ => read_fin h4 h6 h3 Z hZ
    obtain ⟨f1, f2⟩ := fin _ rfl
    exact ⟨f1, .inr (.inr ⟨(.int .i64 l0, .int .i64 l1, .string l2, .slice lp la lb, .slice lq lr ld), x, d, rfl, h1, h2, f2⟩)⟩
end Go.Proofs.YtgfbednfiejlfaaGreatDoor.Rd

/-
  The page's example: what the reader makes of the text [1].
-/
namespace Go.Proofs.YtgfbednfiejlfaaGreatDoor.Rd
open Go.RowKit Go.Proofs.YtgfbednfiejlfaaGreatDoor.Oct Go.Proofs.YtgfbednfiejlfaaGreatDoor.Val

theorem one_a : step (.loop [91, 49, 93] [] 0) = .inl (.loop [49, 93] [⟨5, [], []⟩] 1) := by rfl
theorem one_n : numberP [49, 93] = some (1, [93]) := by decide +kernel
theorem one_p : partP [49, 93] [⟨5, [], []⟩] 1 = .val (leafV 3 1 ⟨#[]⟩) [93] [⟨5, [], []⟩] 1 := by
  unfold partP
  rw [if_neg (by decide), if_neg (by decide), if_neg (by decide), if_neg (by decide), if_neg (by decide), if_neg (by decide), one_n]
theorem one_b : step (.loop [49, 93] [⟨5, [], []⟩] 1) = .inl (.close (leafV 3 1 ⟨#[]⟩) [93] [⟨5, [], []⟩] 1) := by simp only [step, one_p]
theorem one_c : step (.close (leafV 3 1 ⟨#[]⟩) [93] [⟨5, [], []⟩] 1) = .inl (.close (.mk 5 0 ⟨#[]⟩ [leafV 3 1 ⟨#[]⟩] []) [] [] 1) := by rfl
theorem one_leads : Leads (.loop [91, 49, 93] [] 0) (.done (.mk 5 0 ⟨#[]⟩ [leafV 3 1 ⟨#[]⟩] []) [] 1) :=
  .next one_a (.next one_b (.next one_c (.stop rfl)))

/-- So whatever the reader comes to at that text is this. -/
theorem one_only {o : Out} (h : Leads (.loop [91, 49, 93] [] 0) o) : o = .done (.mk 5 0 ⟨#[]⟩ [leafV 3 1 ⟨#[]⟩] []) [] 1 := h.det one_leads
end Go.Proofs.YtgfbednfiejlfaaGreatDoor.Rd

/-
  Contracts of num and alive of package muslinlaw05.
-/
namespace Go.Proofs.YtgfbednfiejlfaaGreatDoor.Rd
open Go.RowKit Go.Proofs.YtgfbednfiejlfaaGreatDoor.Oct Go.Proofs.YtgfbednfiejlfaaGreatDoor.Val Go.Proofs.YtgfbednfiejlfaaGreatDoor.Tl Go.Proofs.YtgfbednfiejlfaaGreatDoor.Lit Go.Proofs.YtgfbednfiejlfaaGreatDoor.Utf

theorem lnum_c (n : Int) (w : World) : Calls Tryz.prog 8 #[.int .i64 n] w fun e w' => e = .returned (.int .i64 n) ∧ w' = w := by
  go_enter Tryz.func8, Tryz.ntmps8
  go_wp2
  go_ret
  exact ⟨rfl, rfl⟩

theorem holds_list {C : Cond} {w : World} {v0 v1 v2 v4 : Value} {p : Option Addr} {a b : Nat} {k n : Int} {s : ByteArray} {l : List V} {ks : List ByteArray} (h : Holds C w (.agg #[v0, v1, v2, .slice p a b, v4]) (.mk k n s l ks)) : a = l.length := by
  cases h
  rfl

set_option maxHeartbeats 400000 in
set_option maxRecDepth 100000 in
theorem lalive_c (w : World) (hT : TabN w.heap.size w) : Calls Tryz.prog 6 #[] w fun e w' => e = .returned (.bool true) ∧ Below w.heap.size w w' := by
  have hr := read_c w [91, 49, 93] (by decide) hT
  have hn := lnum_c
  have HT := Lib.hid hT
  clear hT
  go_enter Tryz.func6, Tryz.ntmps6
  go_wp2_with fail
  refine hr.mono ?_
  clear hr
  rintro e1 W1 ⟨hb, h⟩
  rcases h with ⟨rfl, h | ⟨x, t, d, h, hne⟩⟩ | ⟨rfl, x, d, h, hd⟩ | ⟨⟨v0, v1, v2, v3, v4⟩, x, d, rfl, h1, h2, h3⟩
  · cases one_only h
  · have := one_only h; injection this with _ h2 _; exact absurd h2 hne
  · have := one_only h; injection this with _ _ h3; omega
  · have h5 := one_only h1
    injection h5 with hx _ hd
    rw [hx] at h3
    obtain ⟨l0, l1, l2, lp, la, lb, lq, lr, ld, rfl, rfl, rfl, rfl, rfl⟩ := holds_parts h3
    have hla : la = 1 := holds_list h3
    subst hla
    have hq := quote_c (S [60]) (by decide) (by decide +kernel)
    have hqe : quoteL (S [60]) = [34, 92, 117, 48, 48, 51, 99, 34] := by decide +kernel
    have HW := Lib.hid hb
    clear h1 h2 h3 hb
    go_wp2_with fail
    refine (hn _ _).mono ?_
    rintro e2 W2 ⟨rfl, rfl⟩
    have hbw : Below w.heap.size w (W1.alloc (.cells #[.int .i64 l0, .int .i64 l1, .string l2, .slice lp 1 lb, .slice lq lr ld] 26)) := HW.out.alloc HW.out.size _
    have hTt : Tabs (W1.alloc (.cells #[.int .i64 l0, .int .i64 l1, .string l2, .slice lp 1 lb, .slice lq lr ld] 26)) := HT.out _ hbw
    have hq1 := hq _ hTt
    rw [hqe] at hq1
    have HX := Lib.hid hbw
    clear hbw hTt hq hqe
    go_wp2_with (first | (go_at_call 15; refine hq1.mono ?_; rintro e3 W3 ⟨rfl, hb3⟩))
    refine bodyPost_ret (v := .bool true) (by simp [results, Tryz.results6, go_sem]) rfl ?_
    exact ⟨rfl, HX.out.trans (hb3.mono HX.out.size)⟩
end Go.Proofs.YtgfbednfiejlfaaGreatDoor.Rd

/-
  The law LiteralOwn, out of the contracts of the calls that it makes.
-/
namespace Go.Proofs.YtgfbednfiejlfaaGreatDoor.Rd
open Go.RowKit Go.Proofs.YtgfbednfiejlfaaGreatDoor.Oct Go.Proofs.YtgfbednfiejlfaaGreatDoor.Val Go.Proofs.YtgfbednfiejlfaaGreatDoor.Tl Go.Proofs.YtgfbednfiejlfaaGreatDoor.Lit Go.Proofs.YtgfbednfiejlfaaGreatDoor.Utf

/-- The error's number that Read tells of a text. -/
def ErrOf (s : List UInt8) (r : Int) : Prop :=
  (r = 33 ∧ (Leads (.loop s [] 0) .bad ∨ ∃ x t d, Leads (.loop s [] 0) (.done x t d) ∧ t ≠ [])) ∨ (r = 42 ∧ ∃ x d, Leads (.loop s [] 0) (.done x [] d) ∧ 16 < d) ∨
    (r = 0 ∧ ∃ x d, Leads (.loop s [] 0) (.done x [] d) ∧ d ≤ 16)
theorem ErrOf.det {s : List UInt8} {a b : Int} (h : ErrOf s a) (k : ErrOf s b) : a = b := by
  rcases h with ⟨rfl, h | ⟨x, t, d, h, ht⟩⟩ | ⟨rfl, x, d, h, hd⟩ | ⟨rfl, x, d, h, hd⟩ <;> rcases k with ⟨rfl, k | ⟨y, u, e, k, hu⟩⟩ | ⟨rfl, y, e, k, he⟩ | ⟨rfl, y, e, k, he⟩
  all_goals first
    | rfl
    | (exfalso
       have q := h.det k
       first
         | (cases q; done)
         | (simp only [Out.done.injEq] at q
            obtain ⟨_, q2, q3⟩ := q
            first
              | exact hu q2.symm
              | exact ht q2
              | omega))

/-- What Read leaves, in one form. -/
def Got (w : World) (s : List UInt8) (en : Ending) (w' : World) : Prop :=
  ∃ (k n : Int) (t : ByteArray) (p : Option Addr) (m cap : Nat) (q : Option Addr) (c d : Nat) (x : V) (len r : Int),
    en = .returned (.tuple #[.agg #[.int .i64 k, .int .i64 n, .string t, .slice p m cap, .slice q c d], .int .i64 len, .int .i64 r]) ∧ ErrOf s r ∧
    Holds (Mine w.heap.size w') w' (.agg #[.int .i64 k, .int .i64 n, .string t, .slice p m cap, .slice q c d]) x ∧ Below w.heap.size w w'
theorem ReadTo.got {w w' : World} {s : List UInt8} {en : Ending} (h : ReadTo w s en w') : Got w s en w' := by
  obtain ⟨hb, ⟨rfl, h⟩ | ⟨rfl, h⟩ | ⟨⟨v0, v1, v2, v3, v4⟩, x, d, rfl, h1, h2, h3⟩⟩ := h
  · exact ⟨0, 0, ⟨#[]⟩, none, 0, 0, none, 0, 0, _, 0, 33, rfl, .inl ⟨rfl, h⟩, leaf_holds 0 0 ⟨#[]⟩ (by decide) (by decide) (by decide), hb⟩
  · exact ⟨0, 0, ⟨#[]⟩, none, 0, 0, none, 0, 0, _, 0, 42, rfl, .inr (.inl ⟨rfl, h⟩), leaf_holds 0 0 ⟨#[]⟩ (by decide) (by decide) (by decide), hb⟩
  · obtain ⟨l0, l1, l2, lp, la, lb, lq, lr, ld, rfl, rfl, rfl, rfl, rfl⟩ := holds_parts h3
    exact ⟨_, _, _, _, _, _, _, _, _, x, _, 0, rfl, .inr (.inr ⟨rfl, x, d, h1, h2⟩), h3, hb⟩

theorem holds_row {lo : Nat} {w : World} {v0 v1 v2 v4 : Value} {p : Option Addr} {m cap : Nat} {x : V} (h : Holds (Mine lo w) w (.agg #[v0, v1, v2, .slice p m cap, v4]) x) :
    m ≤ 140737488351232 ∧ (0 < m → ∃ g cur, p = some ⟨g, 0, none⟩ ∧ lo ≤ g ∧ w.heap[g]? = some (.cells cur 26 (0, 0)) ∧ m * 5 ≤ cur.size) := by
  cases h with
  | mk k n s p cap K l ks b off c hr hp hc hK hl =>
    refine ⟨by have := hr.2.2.2.2.2; omega, fun h0 => ?_⟩
    obtain ⟨rfl, h1, rfl, cur, h2⟩ := hp h0
    have h2 : w.heap[b]? = some (.cells cur 26 (0, 0)) := h2
    refine ⟨b, cur, rfl, h1, h2, ?_⟩
    have h3 := hc (l.length - 1) 4 (by omega) (by omega)
    have h4 := (cell_of_row w b _ cur _ _ h2).symm.trans h3
    have := (Array.getElem?_eq_some_iff.1 h4).1
    omega

/-- One value written over. -/
abbrev over5 (w : World) (b i : Nat) : World :=
  ((((w.setCell ⟨b, i * 5, none⟩ (.int .i64 77)).setCell ⟨b, i * 5 + 1, none⟩ (.int .i64 0)).setCell ⟨b, i * 5 + 2, none⟩ (.string ⟨#[]⟩)).setCell ⟨b, i * 5 + 3, none⟩ (.slice none 0 0)).setCell ⟨b, i * 5 + 4, none⟩ (.slice none 0 0)

/-- Some values of the block g, which lies from lo on and below hi, are written over; all else lies as it lay. -/
structure OverAt (lo hi g m : Nat) (A B : World) : Prop where
  size : B.heap.size = A.heap.size
  os : B.os = A.os
  tape : B.tape = A.tape
  output : B.output = A.output
  block : ∀ b, b < lo ∨ hi ≤ b → B.heap[b]? = A.heap[b]?
  row : 0 < m → lo ≤ g ∧ g < hi ∧ ∃ cur, B.heap[g]? = some (.cells cur 26 (0, 0)) ∧ m * 5 ≤ cur.size

theorem st_os (w : World) (a : Addr) (v : Value) : (w.setCell a v).os = w.os ∧ (w.setCell a v).tape = w.tape ∧ (w.setCell a v).output = w.output ∧ (w.setCell a v).heap.size = w.heap.size := ⟨rfl, rfl, rfl, by simp⟩
theorem same5 {A B C : World} (h : B.os = A.os ∧ B.tape = A.tape ∧ B.output = A.output ∧ B.heap.size = A.heap.size) (k : C.os = B.os ∧ C.tape = B.tape ∧ C.output = B.output ∧ C.heap.size = B.heap.size) :
    C.os = A.os ∧ C.tape = A.tape ∧ C.output = A.output ∧ C.heap.size = A.heap.size := ⟨k.1.trans h.1, k.2.1.trans h.2.1, k.2.2.1.trans h.2.2.1, k.2.2.2.trans h.2.2.2⟩
theorem over_same (w : World) (b i : Nat) : (over5 w b i).os = w.os ∧ (over5 w b i).tape = w.tape ∧ (over5 w b i).output = w.output ∧ (over5 w b i).heap.size = w.heap.size :=
  same5 (same5 (same5 (same5 (st_os w _ _) (st_os _ _ _)) (st_os _ _ _)) (st_os _ _ _)) (st_os _ _ _)

theorem OverAt.over {lo hi g m : Nat} {A B : World} (h : OverAt lo hi g m A B) {i : Nat} (him : i < m) : OverAt lo hi g m A (over5 B g i) := by
  obtain ⟨h1, h2, cur, h3, h4⟩ := h.row (by omega)
  have e1 := heap_setCell_same B g (i * 5) cur _ (.int .i64 77) h3
  have e2 := heap_setCell_same _ g (i * 5 + 1) _ _ (.int .i64 0) e1
  have e3 := heap_setCell_same _ g (i * 5 + 2) _ _ (.string ⟨#[]⟩) e2
  have e4 := heap_setCell_same _ g (i * 5 + 3) _ _ (.slice none 0 0) e3
  have e5 := heap_setCell_same _ g (i * 5 + 4) _ _ (.slice none 0 0) e4
  obtain ⟨o1, o2, o3, o4⟩ := over_same B g i
  refine ⟨o4.trans h.size, o1.trans h.os, o2.trans h.tape, o3.trans h.output, fun b hb => ?_, fun _ => ⟨h1, h2, _, e5, by simpa using h4⟩⟩
  have hne : b ≠ g := by omega
  rw [heap_setCell_other _ _ _ _ hne, heap_setCell_other _ _ _ _ hne, heap_setCell_other _ _ _ _ hne, heap_setCell_other _ _ _ _ hne, heap_setCell_other _ _ _ _ hne]
  exact h.block b hb

theorem five5 {X : World} {B : Nat} {u0 u1 u2 u3 u4 : Value} {t : TypeId} (h : X.heap[B]? = some (.cells #[u0, u1, u2, u3, u4] t (0, 0))) :
    X.cell? ⟨B, 0, none⟩ = some u0 ∧ X.cell? ⟨B, 1, none⟩ = some u1 ∧ X.cell? ⟨B, 2, none⟩ = some u2 ∧ X.cell? ⟨B, 3, none⟩ = some u3 ∧ X.cell? ⟨B, 4, none⟩ = some u4 :=
  ⟨cell_of_row X B 0 _ _ _ h, cell_of_row X B 1 _ _ _ h, cell_of_row X B 2 _ _ _ h, cell_of_row X B 3 _ _ _ h, cell_of_row X B 4 _ _ _ h⟩

set_option maxHeartbeats 8000000 in
set_option maxRecDepth 100000 in
theorem law_own (W : World) (s : ByteArray) (hs : s.size ≤ 274877906944) (hT : TabN W.heap.size W) :
    Calls Tryz.prog 5 #[.string s] W fun e W' => e = .returned (.bool true) ∧ Below W.heap.size W W' := by
  obtain ⟨l, rfl⟩ : ∃ l, s = S l := ⟨s.data.toList, (S_list s).symm⟩
  have hl : l.length ≤ 274877906944 := by rw [← size_S]; exact hs
  have HT := Lib.hid hT
  have HL := Lib.hid hl
  have hal := lalive_c W hT
  clear hs hT hl
  go_enter Tryz.func5, Tryz.ntmps5
  go_wp2_with fail
  refine hal.mono ?_
  rintro e w1 ⟨rfl, hb1⟩
  clear hal
  have hr1 := read_c w1 l HL.out (fun X hX => HT.out X (hb1.trans (hX.mono hb1.size)))
  have B1 := Lib.hid hb1
  clear hb1
  go_wp2_with fail
  refine hr1.mono ?_
  clear hr1
  rintro e w2 hg
  obtain ⟨k1, n1, t1, p1, m1, a1, q1, c1, d1, x1, len1, r1, rfl, E1, A1, hb2⟩ := hg.got
  clear hg
  have hbA : Below W.heap.size W (w2.alloc (.cells #[.int .i64 k1, .int .i64 n1, .string t1, .slice p1 m1 a1, .slice q1 c1 d1] 26)) :=
    (B1.out.trans (hb2.mono B1.out.size)).alloc (Nat.le_trans B1.out.size hb2.size) _
  have hr2 := read_c (w2.alloc (.cells #[.int .i64 k1, .int .i64 n1, .string t1, .slice p1 m1 a1, .slice q1 c1 d1] 26)) l HL.out (fun X hX => HT.out X (hbA.trans (hX.mono hbA.size)))
  have H2 := Lib.hid (And.intro E1 (And.intro A1 (And.intro hb2 hbA)))
  clear E1 A1 hb2 hbA
  go_wp2_with fail
  refine hr2.mono ?_
  clear hr2
  rintro e w3 hg
  obtain ⟨k2, n2, t2, p2, m2, a2, q2, c2, d2, x2, len2, r2, rfl, E2, A2, hb3⟩ := hg.got
  clear hg
  have z3 : w2.heap.size < w3.heap.size := by have := hb3.size; simp at this; omega
  have D3 : w3.heap[w2.heap.size]? = some (.cells #[.int .i64 k1, .int .i64 n1, .string t1, .slice p1 m1 a1, .slice q1 c1 d1] 26 (0, 0)) := (hb3.block _ (by simp)).trans (heap_alloc_new w2 _)
  have O3 : Holds (Old w3.heap.size) w3 (.agg #[.int .i64 k2, .int .i64 n2, .string t2, .slice p2 m2 a2, .slice q2 c2 d2]) x2 := A2.frame (fun _ _ _ _ _ => rfl) (fun _ _ _ _ h => h.lt)
  have hown := own_c w3.heap.size w3 O3 (w3.alloc (.cells #[.int .i64 k2, .int .i64 n2, .string t2, .slice p2 m2 a2, .slice q2 c2 d2] 26)) (by simp) ((Below.refl _ w3).alloc (Nat.le_refl _) _)
  obtain rfl := H2.out.1.det E2
  have H3 := Lib.hid (And.intro A2 (And.intro hb3 D3))
  clear A2 hb3 D3 O3 E2
  go_wp2_with fail
  refine hown.mono ?_
  clear hown
  rintro e w4 ⟨v4, rfl, A4, hb4⟩
  obtain ⟨⟨u0, u1, u2, u3, u4⟩, rfl, -⟩ := holds_form A4
  obtain ⟨k4, n4, t4, p4, m4, a4, q4, c4, d4, rfl, rfl, rfl, rfl, rfl⟩ := holds_parts A4
  have z4 : w3.heap.size < w4.heap.size := by have := hb4.size; simp at this; omega
  obtain ⟨W4, hW4⟩ : ∃ W4, W4 = w4.alloc (.cells #[.int .i64 k4, .int .i64 n4, .string t4, .slice p4 m4 a4, .slice q4 c4 d4] 26) := ⟨_, rfl⟩
  have s4 : W4.heap.size = w4.heap.size + 1 := by rw [hW4]; simp
  have old4 : ∀ b, b < w3.heap.size → W4.heap[b]? = w3.heap[b]? := fun b hb => by
    rw [hW4, Go.heap_alloc_old _ _ (by omega), hb4.block b (by simp; omega), Go.heap_alloc_old _ _ hb]
  have DA : W4.heap[w2.heap.size]? = some (.cells #[.int .i64 k1, .int .i64 n1, .string t1, .slice p1 m1 a1, .slice q1 c1 d1] 26 (0, 0)) := (old4 _ z3).trans H3.out.2.2
  have DB : W4.heap[w3.heap.size]? = some (.cells #[.int .i64 k2, .int .i64 n2, .string t2, .slice p2 m2 a2, .slice q2 c2 d2] 26 (0, 0)) := by
    rw [hW4, Go.heap_alloc_old _ _ z4, hb4.block _ (by simp)]
    exact heap_alloc_new w3 _
  have DX : W4.heap[w4.heap.size]? = some (.cells #[.int .i64 k4, .int .i64 n4, .string t4, .slice p4 m4 a4, .slice q4 c4 d4] 26 (0, 0)) := by rw [hW4]; exact heap_alloc_new w4 _
  have BW4 : Below W.heap.size W W4 := by
    rw [hW4]
    exact ((H2.out.2.2.2.trans (H3.out.2.1.mono H2.out.2.2.2.size)).alloc (by have := H2.out.2.2.2.size; simp at this; omega) _ |>.trans (hb4.mono (by have := H2.out.2.2.2.size; simp at this ⊢; omega))).alloc (by have := H2.out.2.2.2.size; simp at this; omega) _
  obtain ⟨hm1, hrow⟩ := holds_row H2.out.2.1
  have HG : ∃ g, (0 < m1 → p1 = some ⟨g, 0, none⟩) ∧ OverAt w1.heap.size w2.heap.size g m1 W4 W4 := by
    by_cases h0 : 0 < m1
    · obtain ⟨g, cur, h1, h2, h3, h4⟩ := hrow h0
      have hg := (Array.getElem?_eq_some_iff.1 h3).1
      exact ⟨g, fun _ => h1, rfl, rfl, rfl, rfl, fun _ _ => rfl, fun _ => ⟨h2, hg, cur, by rw [old4 g (by omega), H3.out.2.1.block g (by simp; omega), Go.heap_alloc_old _ _ hg]; exact h3, h4⟩⟩
    · exact ⟨0, fun h => absurd h h0, rfl, rfl, rfl, rfl, fun _ _ => rfl, fun h => absurd h h0⟩
  obtain ⟨g, hp1, HO⟩ := HG
  have hA2' : Holds (Old w3.heap.size) W4 (.agg #[.int .i64 k2, .int .i64 n2, .string t2, .slice p2 m2 a2, .slice q2 c2 d2]) x2 := H3.out.1.frame (fun _ b _ _ h => old4 b h.lt) (fun _ _ _ _ h => h.lt)
  have HF := Lib.hid (And.intro s4 (And.intro DA (And.intro DB (And.intro DX (And.intro BW4 (And.intro A4 (And.intro z3 (And.intro z4 hb4))))))))
  have HW4 := Lib.hid hW4
  have HP := Lib.hid hp1
  have HO := Lib.hid HO
  have HO4 := Lib.hid old4
  clear s4 DA DB DX BW4 A4 z3 z4 hrow hA2' old4 hb4
  go_wp2_with fail
  rw [← hW4]
  clear hp1 hW4
  go_loopw [10] (fun i wr => ∃ j : Nat, j ≤ m1 ∧ i = .int .i64 j ∧ Hid (OverAt w1.heap.size w2.heap.size g m1 W4 wr)) (fun i _ => m1 - (intOf i).toNat)
  case atStart => exact ⟨0, Nat.zero_le _, rfl, HO⟩
  case round =>
    clear HO
    obtain ⟨j, hj, rfl, hat⟩ := hrel
    have C3 : wr.cell? ⟨w2.heap.size, 3, none⟩ = some (.slice p1 m1 a1) := cell_of_row wr _ 3 _ _ _ ((hat.out.block _ (.inr (Nat.le_refl _))).trans HF.out.2.1)
    by_cases hjm : j < m1
    · obtain rfl := HP.out (by omega)
      obtain ⟨g1, g2, cur, g3, g4⟩ := hat.out.row (by omega)
      have a0 : wr.cell? ⟨g, j * 5, none⟩ = some (cur[j * 5]'(by omega)) := (cell_of_row wr g (j * 5) _ _ _ g3).trans (Array.getElem?_eq_getElem (by omega))
      have a1 : wr.cell? ⟨g, j * 5 + 1, none⟩ = some (cur[j * 5 + 1]'(by omega)) := (cell_of_row wr g (j * 5 + 1) _ _ _ g3).trans (Array.getElem?_eq_getElem (by omega))
      have a2 : wr.cell? ⟨g, j * 5 + 2, none⟩ = some (cur[j * 5 + 2]'(by omega)) := (cell_of_row wr g (j * 5 + 2) _ _ _ g3).trans (Array.getElem?_eq_getElem (by omega))
      have a3 : wr.cell? ⟨g, j * 5 + 3, none⟩ = some (cur[j * 5 + 3]'(by omega)) := (cell_of_row wr g (j * 5 + 3) _ _ _ g3).trans (Array.getElem?_eq_getElem (by omega))
      have a4 : wr.cell? ⟨g, j * 5 + 4, none⟩ = some (cur[j * 5 + 4]'(by omega)) := (cell_of_row wr g (j * 5 + 4) _ _ _ g3).trans (Array.getElem?_eq_getElem (by omega))
      have f0 := frozen_of_row wr g (j * 5) _ _ g3
      have f1 := frozen_of_row wr g (j * 5 + 1) _ _ g3
      have f2 := frozen_of_row wr g (j * 5 + 2) _ _ g3
      have f3 := frozen_of_row wr g (j * 5 + 3) _ _ g3
      have f4 := frozen_of_row wr g (j * 5 + 4) _ _ g3
      generalize cur[j * 5]'_ = o0 at a0
      generalize cur[j * 5 + 1]'_ = o1 at a1
      generalize cur[j * 5 + 2]'_ = o2 at a2
      generalize cur[j * 5 + 3]'_ = o3 at a3
      generalize cur[j * 5 + 4]'_ = o4 at a4
      have i1 : (0 : Int) ≤ (j : Int) := by omega
      have i2 : (j : Int) < (m1 : Int) := by omega
      have HN : Hid (OverAt w1.heap.size w2.heap.size g m1 W4 (over5 wr g j)) := hat.out.over hjm
      clear g1 g2 g3 g4
      go_wp2_with fail
      go_roundw
      case rel => exact ⟨j + 1, by omega, by go_num, HN⟩
      case measure => simp [intOf]; omega
    · have hge : (m1 : Int) ≤ (j : Int) := by omega
      have hbl : ∀ b, w2.heap.size ≤ b → wr.heap[b]? = W4.heap[b]? := fun b hb => hat.out.block b (.inr hb)
      obtain ⟨x0, x1', x2', x3, x4⟩ := five5 ((hbl _ (by have := HF.out.2.2.2.2.2.2.1; omega)).trans HF.out.2.2.1)
      obtain ⟨y0, y1, y2, y3, y4⟩ := five5 ((hbl _ (by have := HF.out.2.2.2.2.2.2.1; have := HF.out.2.2.2.2.2.2.2.1; omega)).trans HF.out.2.2.2.1)
      have hsz : wr.heap.size = w4.heap.size + 1 := hat.out.size.trans HF.out.1
      have hB : Holds (Old wr.heap.size) wr (.agg #[.int .i64 k2, .int .i64 n2, .string t2, .slice p2 m2 a2, .slice q2 c2 d2]) x2 :=
        H3.out.1.frame (fun _ b _ _ h => (hbl b (by have := h.1; simp at this; omega)).trans (HO4.out b h.lt)) (fun _ b _ _ h => by have := h.lt; have := HF.out.2.2.2.2.2.2.2.1; show b < _; omega)
      have hX : Holds (Old wr.heap.size) wr (.agg #[.int .i64 k4, .int .i64 n4, .string t4, .slice p4 m4 a4, .slice q4 c4 d4]) x2 :=
        HF.out.2.2.2.2.2.1.frame (fun _ b _ _ h => by
          have h1 := h.1
          have h2 := h.lt
          simp at h1
          rw [hbl b (by have := HF.out.2.2.2.2.2.2.1; omega), HW4.out, Go.heap_alloc_old _ _ h2]) (fun _ b _ _ h => by have := h.lt; show b < _; omega)
      have hsame := same_c wr.heap.size wr hB _ hX wr (Nat.le_refl _) (Below.refl _ _)
      have BE : Below W.heap.size W wr := by
        have hw := HF.out.2.2.2.2.1
        have := B1.out.size
        exact ⟨hat.out.os.trans hw.os, hat.out.tape.trans hw.tape, hat.out.output.trans hw.output, by rw [hat.out.size]; exact hw.size, fun b hb => (hat.out.block b (.inl (by omega))).trans (hw.block b hb)⟩
      have HE := Lib.hid BE
      clear hB hX hsz hbl BE
      go_wp2_with fail
      refine hsame.mono ?_
      rintro e w9 ⟨rfl, hb9⟩
      go_wp2_with fail
      go_ret
      exact ⟨rfl, HE.out.trans (hb9.mono HE.out.size)⟩
end Go.Proofs.YtgfbednfiejlfaaGreatDoor.Rd

/-
  The last step of a law's row where the call leaves a world in which all that lay before lies unturned, the arguments are plain values (numbers, truths, texts), and the answer is the truth.
-/
namespace Go.Proofs.YtgfbednfiejlfaaGreatDoor.Kit
open Go.ChangeShapes Go.WideShapes Go.ChangeAt Go.RowKit
variable {H : Type} {enc : TypeId × Value → H} {P : Program}

theorem own : ownKnob Tryz.prog.godebug = none := by kernel_rfl

/-- Arguments without places: what is asked of the world behind the call is that nothing older has turned. -/
theorem post_plain {f : Func} {s : ChangeSpec} {apart fresh handsOn again : Bool} {W W' : World} {args : Array Value} {v : Value} {ds gs : List (DataW H)}
    (hW : DataW.Whole enc P f.params.toList s.vars apart W args.toList ds gs [])
    (hres : ∀ (b : Nat) (sp : Nat → Bool) (hd : Bool), DataW.TrodAll enc P W' b sp hd f.resultTypes.toList (v.resultList f.resultTypes.size) (s.fn H (ds ++ gs)).results [])
    (hargs : ∀ sp : Nat → Bool, DataW.TrodAll enc P W' 0 sp true f.params.toList args.toList (s.fn H (ds ++ gs)).args [])
    (hvars : ∀ sp : Nat → Bool, DataW.TrodVars enc P W' sp s.vars (s.fn H (ds ++ gs)).vars [])
    (hb : Below W.heap.size W W')
    (hok : ∀ (j : Nat) (t : TypeId) (r : Value), f.resultTypes[j]? = some t → (v.resultList f.resultTypes.size)[j]? = some r → Value.okWide P W' .any 0 t r) :
    s.post enc P f apart fresh handsOn again W args v W' :=
  ⟨ds, gs, [], [], [], [], hW, hres _ _ _, hargs _, hvars _, hb.frame _, fun _ =>
    ⟨hok, _, _, [], ⟨[], [], trodAll_append (hargs _) (hres _ _ _), hvars _, rfl, fun _ _ h => by simp at h, fun _ => by simp⟩, fun _ h => by simp at h⟩⟩
end Go.Proofs.YtgfbednfiejlfaaGreatDoor.Kit

/-
  What a row that lists Go's own two tables of characters' first octets gives: the tables, as they lie in memory; and a world that holds them.
-/
namespace Go.Proofs.YtgfbednfiejlfaaGreatDoor.Laid
open Go.ChangeShapes Go.WideShapes Go.ChangeAt Go.RowKit

abbrev list : List (String × DataW Unit) := [("unicode/utf8.acceptRanges", Rows.laid_unicode_utf8_acceptRanges), ("unicode/utf8.first", Rows.laid_unicode_utf8_first)]
set_option maxRecDepth 100000 in
theorem first_eq : Rows.laid_unicode_utf8_first = Lib.firstData := by kernel_rfl
theorem accept_eq : (Rows.laid_unicode_utf8_acceptRanges : DataW Unit) = Lib.acceptData := by kernel_rfl

theorem tabs {W : World} (h : laidMetH Tryz.prog list W) : Utf.Tabs W := by
  have h' : laidMet Tryz.prog list W := h
  have h3 := Lib.laidMet.reads h' (n := "unicode/utf8.first") (d := Rows.laid_unicode_utf8_first) (.tail _ (.head _))
  have h4 := Lib.laidMet.reads h' (n := "unicode/utf8.acceptRanges") (d := Rows.laid_unicode_utf8_acceptRanges) (.head _)
  rw [first_eq] at h3
  rw [accept_eq] at h4
  exact utf8Tabs_of_reads (ρ := Tryz.lays260_ren) Tryz.lays260 ⟨by kernel_rfl, by kernel_rfl, by kernel_rfl, by kernel_rfl, by kernel_rfl, by kernel_rfl, by kernel_rfl⟩ h3 h4

/-- A world that holds the two tables. -/
noncomputable def laidWorld (os : Os) : World :=
  { World.holding Tryz.prog os ⟨#[], #[], []⟩ with heap := (((World.holding Tryz.prog os ⟨#[], #[], []⟩).heap.modify 1 fun
      | .cells _ t frozen => .cells (Lib.firstTab.map fun z => Value.int .u8 z).toArray t frozen
      | o => o).modify 2 fun
      | .cells _ t frozen => .cells ((List.range 16).flatMap fun i => [Value.int .u8 (Lib.accLo i), Value.int .u8 (Lib.accHi i)]).toArray t frozen
      | o => o) }
set_option maxRecDepth 100000 in
theorem laid_met (os : Os) (args : Array Value) : laidMet Tryz.prog list ((laidWorld os).forCall (fun _ _ => 0) ⟨#[], args, []⟩).memory :=
  laidMet_of_run' 8 (by kernel_rfl) (by kernel_rfl)
end Go.Proofs.YtgfbednfiejlfaaGreatDoor.Laid
