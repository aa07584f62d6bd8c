/-
  Part 8: RdWhole, RdRead, RdCatch, RdCaught, RdAll, RdOne, LitAlive, LitOwn, RdLit, PgHex, UtfRefPure, UtfRef.
-/
import Derived.Test.YtgfbednfiejlfaaGreatDoorLitReadsCardP7
import Derived.Defers
import Derived.Recover
import Derived.Test.YtgfbednfiejlfaaGreatDoorLitReadsCardP1
import Derived.Test.YtgfbednfiejlfaaGreatDoorLitReadsCardP5
import Derived.Test.YtgfbednfiejlfaaGreatDoorLitReadsCardP2
import Derived.Test.YtgfbednfiejlfaaGreatDoorLitReadsCardP6
import Derived.Test.YtgfbednfiejlfaaGreatDoorLitReadsCardP3
import Derived.Test.YtgfbednfiejlfaaGreatDoorProg
import Derived.Lib.Hide
import Derived.RangeFuncBox
import Derived.Deep.QuietTactic
import Derived.BigQuiet
import Derived.Laws.BitsLemmas
/-
  Contract of readWhole.
-/
namespace Go.Proofs.YtgfbednfiejlfaaGreatDoor.Rd
open Go.RowKit Go.Proofs.YtgfbednfiejlfaaGreatDoor.Oct Go.Proofs.YtgfbednfiejlfaaGreatDoor.Val

/-- A reader that has read nothing yet. -/
theorem rd_start {N : Nat} {R : Nat} {W : World} {s : List UInt8} (hR : N ≤ R) (h : Rd R (S s) (.slice none 0 0) (.int .i64 0) W) : RdAt N (fun b => if b = R then 2 else 1) W R s [] 0 (.slice none 0 0) [] where
  rd := h
  own := ⟨by simp [flat], .inl ⟨rfl, rfl⟩⟩
  len := rfl
  frs := fun i h => absurd h (by simp)
  rmark := by simp
  omark := fun b hb => by simp [Value.ownBlock] at hb
  out := fun b hb => by have := h.lt; rw [if_neg (by omega)]
  size := by have := h.lt; omega

/-- What readWhole leaves. -/
def WholeTo (w : World) (s : List UInt8) (en : Ending) (w' : World) : Prop :=
  Below w.heap.size w w' ∧
  ((en = Fault 33 ∧ (Leads (.loop s [] 0) .bad ∨ ∃ x t d, Leads (.loop s [] 0) (.done x t d) ∧ t ≠ [])) ∨
   (en = Fault 42 ∧ ∃ x d, Leads (.loop s [] 0) (.done x [] d) ∧ 16 < d) ∨
   ∃ e x d, en = .returned (agg5 e) ∧ Leads (.loop s [] 0) (.done x [] d) ∧ d ≤ 16 ∧ Holds (Mine w.heap.size w') w' (agg5 e) x)

theorem whole_fin {w w0 W1 : World} {R : Nat} {tag tg : Nat → Nat} {s : List UInt8} {d : Nat} {ov : Value} {es : List E5} {x : V} {v0 v1 v2 v3 v4 : Value} (hb0 : Below w.heap.size w w0) (h0 : RdAt w.heap.size tag w0 R s [] d ov es) (hk : Kp tag tg w0 W1) (ht : tg w.heap.size = 1)
    (hh : Holds (Dn w.heap.size tg W1) W1 (.agg #[v0, v1, v2, v3, v4]) x) (Z : World) (hZ : Z = st5 (W1.alloc (.cells #[v0, v1, v2, v3, v4] 26)) w.heap.size v0 v1 v2 v3 v4) : Below w.heap.size w Z ∧ Holds (Mine w.heap.size Z) Z (.agg #[v0, v1, v2, v3, v4]) x := by
  have hl := h0.low hk
  have hlo2 : w.heap.size ≤ W1.heap.size := Nat.le_trans h0.size hk.size
  have ba := (Below.refl W1.heap.size W1).alloc (Nat.le_refl _) (.cells #[v0, v1, v2, v3, v4] 26)
  have key : ∀ b, b < W1.heap.size → tg b = 0 → Z.heap[b]? = W1.heap[b]? := fun b hb h => by
    rw [hZ, st5_other _ v0 v1 v2 v3 v4 (fun e => by rw [e, ht] at h; cases h)]
    exact ba.block b hb
  refine ⟨?_, hh.frame (fun _ b _ _ hd => key b hd.lt hd.2) fun t b off n hd => ?_⟩
  · rw [hZ]
    exact st5_below ((hb0.trans hl).alloc hlo2 _) (Nat.le_refl _) v0 v1 v2 v3 v4
  · have hlt := hd.lt
    obtain ⟨⟨h1, h2, cur, h3⟩, h4⟩ := hd
    exact ⟨h1, h2, cur, by rw [key b hlt h4]; exact h3⟩

set_option maxHeartbeats 4000000 in
set_option maxRecDepth 100000 in
theorem whole_c (w : World) (s : List UInt8) (hl : s.length ≤ 274877906944) (hT : TabN w.heap.size w) :
    Calls Tryz.prog 18 #[.string (S s)] w (WholeTo w s) := by
  obtain ⟨w0, hw0⟩ : ∃ w0, w0 = (zBox w).alloc (.cells #[.string (S s), .slice none 0 0, .int .i64 0] 54) := ⟨_, rfl⟩
  have hs0 : w0.heap.size = w.heap.size + 2 := by rw [hw0]; exact (Array.size_push _).trans (congrArg (· + 1) (Array.size_push _))
  have hb1 : Below w.heap.size w (zBox w) := (Below.refl _ w).alloc (Nat.le_refl _) _
  have hb0 : Below w.heap.size w w0 := by rw [hw0]; exact hb1.alloc hb1.size _
  have hz1 : (zBox w).heap.size = w.heap.size + 1 := Array.size_push _
  have hrd : Rd (w.heap.size + 1) (S s) (.slice none 0 0) (.int .i64 0) w0 := by
    have h1 := heap_alloc_new (zBox w) (.cells #[.string (S s), .slice none 0 0, .int .i64 0] 54)
    rw [hz1, ← hw0] at h1
    exact h1
  have hbx : Bx w0 w.heap.size (.int .i64 0) (.int .i64 0) (.string ⟨#[]⟩) (.slice none 0 0) (.slice none 0 0) := by
    have h1 := (Bx.new w (.int .i64 0) (.int .i64 0) (.string ⟨#[]⟩) (.slice none 0 0) (.slice none 0 0)).keep (W' := w0) (by rw [hw0]; exact (Below.refl _ (zBox w)).alloc (Nat.le_refl _) _)
    exact h1
  have h0 := rd_start (N := w.heap.size) (by omega) hrd
  have hv := value_c _ _ w0 (w.heap.size + 1) s _ _ 0 h0 hl (hT.to hb0)
  have HB := Lib.hid (And.intro h0 (And.intro hb0 (And.intro hbx hs0)))
  rw [hw0] at hv
  clear h0 hb0 hbx hs0 hrd hz1 hb1
  go_enter Tryz.func18, Tryz.ntmps18
  go_wp2_with fail
  refine hv.mono ?_
  clear hv
  rintro e1 W1 (⟨rfl, hb, tg, hk⟩ | ⟨⟨v0, v1, v2, v3, v4⟩, tg, ov', es', x, t, d, rfl, hle, k1, k2, k3⟩)
  · have hlow := HB.out.1.low (hw0 ▸ hk)
    exact ⟨rfl, HB.out.2.1.trans hlow, .inl ⟨rfl, .inl hb⟩⟩
  · obtain ⟨l0, l1, l2, lp, la, lb, lq, lr, ld, rfl, rfl, rfl, rfl, rfl⟩ := holds_parts k3
    have c0 := k1.rd.cell0
    have c2 := k1.rd.cell2
    have hlt := k1.rd.lt
    have hW := fun W (hb : Below W1.heap.size W1 W) => And.intro (k1.keep hb).rd.cell0 (k1.keep hb).rd.cell2
    have HW := Lib.hid hW
    have HK := Lib.hid (And.intro hle (And.intro k1 (And.intro k2 k3)))
    clear hW hle k1 k2 k3
    cases t with
    | cons a t =>
      go_wp2_with fail
      refine (demand_no _ _).mono ?_
      rintro e2 W2 ⟨rfl, rfl⟩
      have hlow := (HB.out.1.low (hw0 ▸ HK.out.2.2.1)).alloc (Nat.le_trans HB.out.1.size (HK.out.2.2.1.size |> (hw0 ▸ ·))) (.cells #[.int .i64 l0, .int .i64 l1, .string l2, .slice lp la lb, .slice lq lr ld] 26)
      exact ⟨rfl, HB.out.2.1.trans hlow, .inl ⟨rfl, .inr ⟨x, _, d, HK.out.1, by simp⟩⟩⟩
    | nil =>
      go_wp2_with fail
      refine (demand_yes _ _).mono ?_
      rintro e2 W2 ⟨rfl, rfl⟩
      have hlow : Below w.heap.size w0 W1 := HB.out.1.low (hw0 ▸ HK.out.2.2.1)
      have hlo2 : w.heap.size ≤ W1.heap.size := Nat.le_trans HB.out.1.size hlow.size
      have hbz := HB.out.2.2.1.kp (hw0 ▸ HK.out.2.2.1) (by rw [if_neg (by omega)])
      have hbb := hbz.1.keep ((Below.refl _ W1).alloc (Nat.le_refl _) (.cells #[.int .i64 l0, .int .i64 l1, .string l2, .slice lp la lb, .slice lq lr ld] 26))
      obtain ⟨t0, t1, t2, t3, t4⟩ := hbb.froz
      obtain ⟨g0, g1, g2, g3, g4⟩ := hbb.five
      obtain ⟨y0, y1, y2, y3, y4⟩ := (Bx.new W1 (.int .i64 l0) (.int .i64 l1) (.string l2) (.slice lp la lb) (.slice lq lr ld)).five
      have HZ := Lib.hid hbz.2
      clear hbz hbb
      by_cases hd : (d : Int) ≤ 16
      · go_wp2_with fail
        refine (demand_yes _ _).mono ?_
        rintro e3 W3 ⟨rfl, rfl⟩
        go_wp2_with fail
        refine bodyPost_ret (v := .agg #[.int .i64 l0, .int .i64 l1, .string l2, .slice lp la lb, .slice lq lr ld]) (by simp [results, Tryz.results18, go_sem, g0, g1, g2, g3, g4]) rfl ?_
        have fin := fun Z hZ => whole_fin HB.out.2.1 HB.out.1 (hw0 ▸ HK.out.2.2.1) HZ.out HK.out.2.2.2 Z hZ
        obtain ⟨f1, f2⟩ := fin _ rfl
        exact ⟨f1, .inr (.inr ⟨(.int .i64 l0, .int .i64 l1, .string l2, .slice lp la lb, .slice lq lr ld), x, d, rfl, HK.out.1, by omega, f2⟩)⟩
      · go_wp2_with fail
        have hde : decide ((d : Int) ≤ 16) = false := decide_eq_false (by omega)
        rw [hde]
        refine (demand_no _ _).mono ?_
        rintro e3 W3 ⟨rfl, rfl⟩
        exact ⟨rfl, HB.out.2.1.trans (hlow.alloc hlo2 _), .inr (.inl ⟨rfl, x, d, HK.out.1, by omega⟩)⟩
end Go.Proofs.YtgfbednfiejlfaaGreatDoor.Rd

/-
  Contracts of Read's closure, of caught and of Read.
-/
namespace Go.Proofs.YtgfbednfiejlfaaGreatDoor.Rd
open Go.RowKit Go.Proofs.YtgfbednfiejlfaaGreatDoor.Oct Go.Proofs.YtgfbednfiejlfaaGreatDoor.Val

set_option maxHeartbeats 4000000 in
set_option maxRecDepth 100000 in
theorem read1_c (w : World) (sb : Nat) (s : List UInt8) (hs : w.cell? ⟨sb, 0, none⟩ = some (.string (S s))) (hlt : sb < w.heap.size) (hl : s.length ≤ 274877906944) (hT : TabN w.heap.size w) :
    Calls Tryz.prog 17 #[.pointer (some ⟨sb, 0, none⟩)] w (WholeTo w s) := by
  have hbz : Below w.heap.size w (zBox w) := (Below.refl _ w).alloc (Nat.le_refl _) _
  have hz1 : (zBox w).heap.size = w.heap.size + 1 := Array.size_push _
  have hw := whole_c (zBox w) s hl (fun X hX => hT X (hbz.trans (hX.mono (by omega))))
  have hs1 : (zBox w).cell? ⟨sb, 0, none⟩ = some (.string (S s)) := by rw [← hs]; exact hbz.cell hlt
  have HB := Lib.hid (And.intro hbz hz1)
  clear hbz hz1
  go_enter Tryz.func17, Tryz.ntmps17
  go_wp2_with fail
  refine hw.mono ?_
  clear hw
  rintro e1 W1 ⟨hb, (⟨rfl, h⟩ | ⟨rfl, h⟩ | ⟨⟨v0, v1, v2, v3, v4⟩, x, d, rfl, h1, h2, h3⟩)⟩
  · exact ⟨rfl, HB.out.1.trans (hb.mono (by rw [HB.out.2]; omega)), .inl ⟨rfl, h⟩⟩
  · exact ⟨rfl, HB.out.1.trans (hb.mono (by rw [HB.out.2]; omega)), .inr (.inl ⟨rfl, h⟩)⟩
  · obtain ⟨l0, l1, l2, lp, la, lb, lq, lr, ld, rfl, rfl, rfl, rfl, rfl⟩ := holds_parts h3
    have hbx : Bx W1 w.heap.size (.int .i64 0) (.int .i64 0) (.string ⟨#[]⟩) (.slice none 0 0) (.slice none 0 0) := by
      unfold Bx
      rw [hb.block w.heap.size (by rw [HB.out.2]; omega)]
      exact Bx.new w (.int .i64 0) (.int .i64 0) (.string ⟨#[]⟩) (.slice none 0 0) (.slice none 0 0)
    obtain ⟨t0, t1, t2, t3, t4⟩ := hbx.froz
    obtain ⟨g0, g1, g2, g3, g4⟩ := hbx.five
    have fin : Hid (∀ Z, Z = st5 W1 w.heap.size (.int .i64 l0) (.int .i64 l1) (.string l2) (.slice lp la lb) (.slice lq lr ld) → Below w.heap.size w Z ∧ Holds (Mine w.heap.size Z) Z (.agg #[.int .i64 l0, .int .i64 l1, .string l2, .slice lp la lb, .slice lq lr ld]) x) := by
      intro Z hZ
      rw [HB.out.2] at h3
      have key : ∀ b, b ≠ w.heap.size → Z.heap[b]? = W1.heap[b]? := fun b hb => by rw [hZ, st5_other _ _ _ _ _ _ hb]
      refine ⟨?_, h3.frame (fun _ b _ _ hd => key b (by have := hd.1; omega)) fun t b off n hd => ?_⟩
      · rw [hZ]
        exact st5_below (HB.out.1.trans (hb.mono (by rw [HB.out.2]; omega))) (Nat.le_refl _) _ _ _ _ _
      · obtain ⟨h5, h6, cur, h7⟩ := hd
        exact ⟨by omega, h6, cur, by rw [key b (by omega)]; exact h7⟩
    have H1 := Lib.hid (And.intro h1 h2)
    clear h1 h2 h3 hb hbx hs
    go_wp2_with fail
    refine bodyPost_ret (v := .agg #[.int .i64 l0, .int .i64 l1, .string l2, .slice lp la lb, .slice lq lr ld]) (by simp [results, Tryz.results17, go_sem, g0, g1, g2, g3, g4]) rfl ?_
    have hf := fin.out
    obtain ⟨f1, f2⟩ := hf _ rfl
    exact ⟨f1, .inr (.inr ⟨(.int .i64 l0, .int .i64 l1, .string l2, .slice lp la lb, .slice lq lr ld), x, d, rfl, H1.out.1, H1.out.2, f2⟩)⟩

end Go.Proofs.YtgfbednfiejlfaaGreatDoor.Rd

/-
  Contracts of faults.Caught at one of its instances, over whatever closure is handed in.
-/
namespace Go.Proofs.YtgfbednfiejlfaaGreatDoor.Rd
open Go.RowKit Go.Proofs.YtgfbednfiejlfaaGreatDoor.Oct

theorem assert_fault (x : Value) (xT : TypeId) (w : World) : (Instr.typeAssert (.iface 51 x) xT 51 true).run Tryz.prog w = .ok (.tuple #[x, .bool true]) w := by kernel_rfl
theorem assert_nil (xT : TypeId) (w : World) : (Instr.typeAssert .nilIface xT 51 true).run Tryz.prog w = .ok (.tuple #[.agg #[.int .i64 0], .bool false]) w := by kernel_rfl

set_option maxHeartbeats 4000000 in
set_option maxRecDepth 100000 in
theorem catch_none (r : Nat) (w : World) :
    CallsD Tryz.prog 28 #[.pointer (some ⟨r, 0, none⟩)] .returning w fun e u' w' =>
      e = .returned (.tuple #[]) ∧ u' = .returning ∧ Below w.heap.size w w' := by
  have hta := assert_nil
  refine callsD_of_wpS Tryz.func28 rfl fun c₀ cs hu => ?_
  apply wpS_seq
  apply wpS_region
  simp [wpOpsS, go_sem, recoverD, hu, Tryz.ntmps28, Exit.thenS]
  refine wpS_of_wp ?_
  simp only [List.replicate, Array.replicate, List.setIfInBounds_toArray, List.set_cons_succ, List.set_cons_zero, List.append_toArray, List.cons_append, List.nil_append]
  go_wp2_with fail
  simp only [bodyPostS]
  exact ⟨trivial, .returning, by cases c₀; simp_all, .tuple #[], by simp [results, Tryz.results28], rfl, rfl, (Below.refl _ w).alloc (Nat.le_refl _) _⟩

set_option maxHeartbeats 400000 in
set_option maxRecDepth 100000 in
theorem catch_fault (r : Nat) (n x : Int) (w : World) (hx : w.cell? ⟨r, 0, none⟩ = some (.int .i64 x)) (hz : w.frozen? ⟨r, 0, none⟩ = false) (hr : r < w.heap.size) :
    CallsD Tryz.prog 28 #[.pointer (some ⟨r, 0, none⟩)] (.panicking [{ v := faultV n, recovered := false }]) w fun e u' w' =>
      e = .returned (.tuple #[]) ∧ u' = .panicking [{ v := faultV n, recovered := true }] ∧ w' = (w.setCell ⟨r, 0, none⟩ (.int .i64 n)).alloc (.cells #[.int .i64 n] 51) := by
  have hb := (Below.refl w.heap.size w).alloc (Nat.le_refl _) (.cells #[.int .i64 n] 51)
  have hx1 := (hb.cell (p := ⟨r, 0, none⟩) hr).trans hx
  have hz1 := (hb.frozen (p := ⟨r, 0, none⟩) hr).trans hz
  have hnc : (w.alloc (.cells #[.int .i64 n] 51)).cell? ⟨w.heap.size, 0, none⟩ = some (.int .i64 n) := cell_of_row _ w.heap.size 0 _ _ _ (heap_alloc_new w _)
  clear hb
  have hta := assert_fault (.agg #[.int .i64 n])
  refine callsD_of_wpS Tryz.func28 rfl fun c₀ cs hu => ?_
  replace hu : c₀.mode = .panicking [{ v := .iface 51 (.agg #[.int .i64 n]), recovered := false }] := hu
  apply wpS_seq
  apply wpS_region
  simp [wpOpsS, go_sem, recoverD, hu, Tryz.ntmps28, Exit.thenS]
  refine wpS_of_wp ?_
  simp only [List.replicate, Array.replicate, List.setIfInBounds_toArray, List.set_cons_succ, List.set_cons_zero, List.append_toArray, List.cons_append, List.nil_append]
  go_wp2_with fail
  show bodyPostS _ _ _ _ _ _ _ _ _
  simp only [bodyPostS]
  exact ⟨trivial, .panicking [{ v := faultV n, recovered := true }], by cases c₀; simp_all, .tuple #[], by simp [results, Tryz.results28], rfl, rfl, (by first | trivial | rfl)⟩

end Go.Proofs.YtgfbednfiejlfaaGreatDoor.Rd

/-
  Contract of caught, over Read's closure.
-/
namespace Go.Proofs.YtgfbednfiejlfaaGreatDoor.Rd
open Go.RowKit Go.Proofs.YtgfbednfiejlfaaGreatDoor.Oct Go.Proofs.YtgfbednfiejlfaaGreatDoor.Val

/-- What caught leaves. -/
def CaughtTo (w : World) (s : List UInt8) (en : Ending) (w' : World) : Prop :=
  Below w.heap.size w w' ∧
  ((en = .returned (.tuple #[.agg #[.int .i64 0, .int .i64 0, .string ⟨#[]⟩, .slice none 0 0, .slice none 0 0], .int .i64 33]) ∧ (Leads (.loop s [] 0) .bad ∨ ∃ x t d, Leads (.loop s [] 0) (.done x t d) ∧ t ≠ [])) ∨
   (en = .returned (.tuple #[.agg #[.int .i64 0, .int .i64 0, .string ⟨#[]⟩, .slice none 0 0, .slice none 0 0], .int .i64 42]) ∧ ∃ x d, Leads (.loop s [] 0) (.done x [] d) ∧ 16 < d) ∨
   ∃ e x d, en = .returned (.tuple #[agg5 e, .int .i64 0]) ∧ Leads (.loop s [] 0) (.done x [] d) ∧ d ≤ 16 ∧ Holds (Mine w.heap.size w') w' (agg5 e) x)

/-- Both results are laid. -/
theorem laid_fin {w W1 : World} (hb : Below w.heap.size w W1) {n y : Int} {u0 u1 u2 u3 u4 : Value} (hbx : Bx W1 w.heap.size u0 u1 u2 u3 u4) (hx : W1.heap[w.heap.size + 1]? = some (.cells #[.int .i64 y] 27 (0, 0))) (v0 v1 v2 v3 v4 : Value) (Z : World)
    (hZ : Below ((st5 W1 w.heap.size v0 v1 v2 v3 v4).setCell ⟨w.heap.size + 1, 0, none⟩ (.int .i64 n)).heap.size ((st5 W1 w.heap.size v0 v1 v2 v3 v4).setCell ⟨w.heap.size + 1, 0, none⟩ (.int .i64 n)) Z) :
    Below w.heap.size w Z ∧ Bx Z w.heap.size v0 v1 v2 v3 v4 ∧ Z.cell? ⟨w.heap.size + 1, 0, none⟩ = some (.int .i64 n) ∧ ∀ b, w.heap.size + 2 ≤ b → b < W1.heap.size → Z.heap[b]? = W1.heap[b]? := by
  have h1 := hbx.st5 v0 v1 v2 v3 v4
  have h2 : (st5 W1 w.heap.size v0 v1 v2 v3 v4).heap[w.heap.size + 1]? = some (.cells #[.int .i64 y] 27 (0, 0)) := by
    rw [st5_other _ _ _ _ _ _ (by omega)]; exact hx
  have h3 := heap_setCell_same _ (w.heap.size + 1) 0 _ _ (.int .i64 n) h2
  have hlt : w.heap.size + 1 < W1.heap.size := (Array.getElem?_eq_some_iff.1 hx).1
  have h4 : Below (w.heap.size + 1) (st5 W1 w.heap.size v0 v1 v2 v3 v4) ((st5 W1 w.heap.size v0 v1 v2 v3 v4).setCell ⟨w.heap.size + 1, 0, none⟩ (.int .i64 n)) :=
    (Below.refl _ _).setCell (p := ⟨w.heap.size + 1, 0, none⟩) (Nat.le_refl _) _
  have h6 : ∀ b, w.heap.size + 2 ≤ b → ((st5 W1 w.heap.size v0 v1 v2 v3 v4).setCell ⟨w.heap.size + 1, 0, none⟩ (.int .i64 n)).heap[b]? = W1.heap[b]? := fun b hb => by
    rw [Below.heap_setCell _ _ _ _ (by simp only; omega), st5_other _ _ _ _ _ _ (by omega)]
  have hsz : ((st5 W1 w.heap.size v0 v1 v2 v3 v4).setCell ⟨w.heap.size + 1, 0, none⟩ (.int .i64 n)).heap.size = W1.heap.size := by
    have e1 : ((st5 W1 w.heap.size v0 v1 v2 v3 v4).setCell ⟨w.heap.size + 1, 0, none⟩ (.int .i64 n)).heap.size = (st5 W1 w.heap.size v0 v1 v2 v3 v4).heap.size := by simp [World.setCell]
    rw [e1, st5_size]
  generalize hV : (st5 W1 w.heap.size v0 v1 v2 v3 v4).setCell ⟨w.heap.size + 1, 0, none⟩ (.int .i64 n) = V at *
  refine ⟨?_, ?_, ?_, ?_⟩
  · exact ((st5_below hb (Nat.le_refl _) v0 v1 v2 v3 v4).trans (h4.mono (by omega))).trans (hZ.mono (by omega))
  · unfold Bx
    rw [hZ.block _ (by omega), h4.block _ (by omega)]
    exact h1
  · exact cell_of_row _ (w.heap.size + 1) 0 _ _ _ ((hZ.block _ (by omega)).trans h3)
  · exact fun b hb1 hb2 => (hZ.block b (by omega)).trans (h6 b hb1)

theorem fault_fin {w W1 : World} (hb : Below w.heap.size w W1) {n y : Int} {u0 u1 u2 u3 u4 : Value} (hbx : Bx W1 w.heap.size u0 u1 u2 u3 u4) (hx : W1.heap[w.heap.size + 1]? = some (.cells #[.int .i64 y] 27 (0, 0))) (Z : World)
    (hZ : Z = (W1.setCell ⟨w.heap.size + 1, 0, none⟩ (.int .i64 n)).alloc (.cells #[.int .i64 n] 51)) :
    Below w.heap.size w Z ∧ Bx Z w.heap.size u0 u1 u2 u3 u4 ∧ Z.cell? ⟨w.heap.size + 1, 0, none⟩ = some (.int .i64 n) := by
  have hlt : w.heap.size + 1 < W1.heap.size := (Array.getElem?_eq_some_iff.1 hx).1
  have h3 := heap_setCell_same W1 (w.heap.size + 1) 0 _ _ (.int .i64 n) hx
  have h0 : (W1.setCell ⟨w.heap.size + 1, 0, none⟩ (.int .i64 n)).heap[w.heap.size]? = W1.heap[w.heap.size]? := heap_setCell_other _ _ _ _ (by simp)
  have hs : (W1.setCell ⟨w.heap.size + 1, 0, none⟩ (.int .i64 n)).heap.size = W1.heap.size := by simp [World.setCell]
  have hB : Below w.heap.size w (W1.setCell ⟨w.heap.size + 1, 0, none⟩ (.int .i64 n)) := hb.setCell (p := ⟨w.heap.size + 1, 0, none⟩) (Nat.le_succ _) _
  generalize W1.setCell ⟨w.heap.size + 1, 0, none⟩ (.int .i64 n) = V at *
  have ha : Below V.heap.size V Z := by rw [hZ]; exact (Below.refl _ V).alloc (Nat.le_refl _) _
  refine ⟨hB.trans (ha.mono (by omega)), ?_, cell_of_row Z (w.heap.size + 1) 0 _ _ _ ((ha.block _ (by omega)).trans h3)⟩
  unfold Bx
  rw [ha.block _ (by omega), h0]
  exact hbx

set_option maxHeartbeats 400000 in
set_option maxRecDepth 100000 in
theorem caught_c (w : World) (sb : Nat) (s : List UInt8) (hs : w.cell? ⟨sb, 0, none⟩ = some (.string (S s))) (hlt : sb < w.heap.size) (hl : s.length ≤ 274877906944) (hT : TabN w.heap.size w) :
    Calls Tryz.prog 16 #[.func (.func 17) #[] #[.pointer (some ⟨sb, 0, none⟩)]] w (CaughtTo w s) := by
  have hmf : ∀ (fn : Fn) (first cap : Array Value) (w : World), (Instr.makeFunc fn first cap).run Tryz.prog w = .ok (.func fn first cap) w := fun _ _ _ _ => rfl
  obtain ⟨w2, hw2⟩ : ∃ w2, w2 = (zBox w).alloc (.cells #[.int .i64 0] 27) := ⟨_, rfl⟩
  have hz1 : (zBox w).heap.size = w.heap.size + 1 := Array.size_push _
  have hz2 : w2.heap.size = w.heap.size + 2 := by rw [hw2]; exact (Array.size_push _).trans (congrArg (· + 1) (Array.size_push _))
  have hb1 : Below w.heap.size w (zBox w) := (Below.refl _ w).alloc (Nat.le_refl _) _
  have hb2 : Below w.heap.size w w2 := by rw [hw2]; exact hb1.alloc hb1.size _
  have hbx : Bx w2 w.heap.size (.int .i64 0) (.int .i64 0) (.string ⟨#[]⟩) (.slice none 0 0) (.slice none 0 0) :=
    (Bx.new w (.int .i64 0) (.int .i64 0) (.string ⟨#[]⟩) (.slice none 0 0) (.slice none 0 0)).keep (W' := w2) (by rw [hw2]; exact (Below.refl _ (zBox w)).alloc (Nat.le_refl _) _)
  have hx : w2.heap[w.heap.size + 1]? = some (.cells #[.int .i64 0] 27 (0, 0)) := by
    have h1 := heap_alloc_new (zBox w) (.cells #[.int .i64 0] 27)
    rw [hz1, ← hw2] at h1
    exact h1
  have hc := read1_c w2 sb s ((hb2.cell (p := ⟨sb, 0, none⟩) hlt).trans hs) (by omega) hl (fun X hX => hT X (hb2.trans (hX.mono (by omega))))
  have HB := Lib.hid (And.intro hb2 (And.intro hbx (And.intro hx hz2)))
  rw [hw2] at hc
  clear hb1 hb2 hbx hx hz1 hz2
  go_enter_defers Tryz.func16, Tryz.ntmps16
  go_wp2_with fail
  refine hc.mono ?_
  clear hc
  rintro e1 W1 ⟨hb, h⟩
  rw [← hw2, HB.out.2.2.2] at hb
  have bx1 : Bx W1 w.heap.size (.int .i64 0) (.int .i64 0) (.string ⟨#[]⟩) (.slice none 0 0) (.slice none 0 0) := by unfold Bx; rw [hb.block _ (by omega)]; exact HB.out.2.1
  have x1 : W1.heap[w.heap.size + 1]? = some (.cells #[.int .i64 0] 27 (0, 0)) := by rw [hb.block _ (by omega)]; exact HB.out.2.2.1
  have hbw : Below w.heap.size w W1 := HB.out.1.trans (hb.mono (by omega))
  have hxc := cell_of_row W1 (w.heap.size + 1) 0 _ _ _ x1
  have hxz := frozen_of_row W1 (w.heap.size + 1) 0 _ _ x1
  have hxl : w.heap.size + 1 < W1.heap.size := (Array.getElem?_eq_some_iff.1 x1).1
  have flt : ∀ n, CallsD Tryz.prog 28 #[.pointer (some ⟨w.heap.size + 1, 0, none⟩)] (.panicking [{ v := faultV n, recovered := false }]) W1 _ := fun n => catch_fault (w.heap.size + 1) n 0 W1 hxc hxz hxl
  rcases h with ⟨rfl, h⟩ | ⟨rfl, h⟩ | ⟨⟨v0, v1, v2, v3, v4⟩, x, d, rfl, h1, h2, h3⟩
  · refine leaves_cons (f := 28) (args := #[.pointer (some ⟨w.heap.size + 1, 0, none⟩)]) (by simp) (by simp [go_sem]) ?_
    refine (flt 33).mono ?_
    rintro e u' w'' ⟨rfl, rfl, hw''⟩
    obtain ⟨f1, f2, f3⟩ := fault_fin hbw bx1 x1 w'' hw''
    obtain ⟨g0, g1, g2, g3, g4⟩ := f2.five
    clear hw''
    simp [Leaves, settle, results, Tryz.results16, go_sem, g0, g1, g2, g3, g4, f3]
    exact ⟨f1, .inl ⟨rfl, h⟩⟩
  · refine leaves_cons (f := 28) (args := #[.pointer (some ⟨w.heap.size + 1, 0, none⟩)]) (by simp) (by simp [go_sem]) ?_
    refine (flt 42).mono ?_
    rintro e u' w'' ⟨rfl, rfl, hw''⟩
    obtain ⟨f1, f2, f3⟩ := fault_fin hbw bx1 x1 w'' hw''
    obtain ⟨g0, g1, g2, g3, g4⟩ := f2.five
    clear hw''
    simp [Leaves, settle, results, Tryz.results16, go_sem, g0, g1, g2, g3, g4, f3]
    exact ⟨f1, .inr (.inl ⟨rfl, h⟩)⟩
  · obtain ⟨l0, l1, l2, lp, la, lb, lq, lr, ld, rfl, rfl, rfl, rfl, rfl⟩ := holds_parts h3
    obtain ⟨t0, t1, t2, t3, t4⟩ := bx1.froz
    obtain ⟨g0, g1, g2, g3, g4⟩ := bx1.five
    have hne : w.heap.size + 1 ≠ w.heap.size := by omega
    have hne2 := Ne.symm hne
    have HH := Lib.hid (And.intro h1 (And.intro h2 (And.intro h3 (And.intro hbw (And.intro bx1 x1)))))
    clear h1 h2 h3 hbw bx1 x1 hb flt
    go_wp2_with fail
    refine leaves_cons (f := 28) (args := #[.pointer (some ⟨w.heap.size + 1, 0, none⟩)]) (by simp) (by simp [go_sem]) ?_
    refine (catch_none (w.heap.size + 1) _).mono ?_
    rintro e u' w'' ⟨rfl, rfl, hw''⟩
    obtain ⟨f1, f2, f3, f4⟩ := laid_fin HH.out.2.2.2.1 HH.out.2.2.2.2.1 HH.out.2.2.2.2.2 (.int .i64 l0) (.int .i64 l1) (.string l2) (.slice lp la lb) (.slice lq lr ld) w'' hw''
    obtain ⟨g0, g1, g2, g3, g4⟩ := f2.five
    clear hw''
    simp [Leaves, settle, results, Tryz.results16, go_sem, g0, g1, g2, g3, g4, f3]
    obtain ⟨h1, h2, h3, _⟩ := HH.out
    rw [← hw2, HB.out.2.2.2] at h3
    refine ⟨f1, .inr (.inr ⟨(.int .i64 l0, .int .i64 l1, .string l2, .slice lp la lb, .slice lq lr ld), x, d, rfl, h1, h2, h3.frame (fun _ b _ _ hd => f4 b hd.1 hd.lt) fun t b off n hd => ?_⟩)⟩
    have hlt := hd.lt
    obtain ⟨h5, h6, cur, h7⟩ := hd
    exact ⟨by omega, h6, cur, by rw [f4 b h5 hlt]; exact h7⟩
end Go.Proofs.YtgfbednfiejlfaaGreatDoor.Rd

/-
  Contract of Read.
-/
namespace Go.Proofs.YtgfbednfiejlfaaGreatDoor.Rd
open Go.RowKit Go.Proofs.YtgfbednfiejlfaaGreatDoor.Oct Go.Proofs.YtgfbednfiejlfaaGreatDoor.Val

/-- What Read leaves. -/
def ReadTo (w : World) (s : List UInt8) (en : Ending) (w' : World) : Prop :=
  Below w.heap.size w w' ∧
  ((en = .returned (.tuple #[.agg #[.int .i64 0, .int .i64 0, .string ⟨#[]⟩, .slice none 0 0, .slice none 0 0], .int .i64 0, .int .i64 33]) ∧ (Leads (.loop s [] 0) .bad ∨ ∃ x t d, Leads (.loop s [] 0) (.done x t d) ∧ t ≠ [])) ∨
   (en = .returned (.tuple #[.agg #[.int .i64 0, .int .i64 0, .string ⟨#[]⟩, .slice none 0 0, .slice none 0 0], .int .i64 0, .int .i64 42]) ∧ ∃ x d, Leads (.loop s [] 0) (.done x [] d) ∧ 16 < d) ∨
   ∃ e x d, en = .returned (.tuple #[agg5 e, .int .i64 s.length, .int .i64 0]) ∧ Leads (.loop s [] 0) (.done x [] d) ∧ d ≤ 16 ∧ Holds (Mine w.heap.size w') w' (agg5 e) x)

theorem read_fin {w W1 V : World} {x : Val.V} {v0 v1 v2 v3 v4 : Value} (h4 : Below w.heap.size w V) (h6 : Below W1.heap.size W1 V) (h3 : Holds (Mine (w.heap.size + 2) W1) W1 (.agg #[v0, v1, v2, v3, v4]) x) (Z : World)
    (hZ : Z = (st5 V (w.heap.size + 1) v0 v1 v2 v3 v4).drew) : Below w.heap.size w Z ∧ Holds (Mine w.heap.size Z) Z (.agg #[v0, v1, v2, v3, v4]) x := by
  have key : ∀ b, w.heap.size + 2 ≤ b → b < W1.heap.size → Z.heap[b]? = W1.heap[b]? := fun b hb hb2 => by
    have e : Z.heap[b]? = (st5 V (w.heap.size + 1) v0 v1 v2 v3 v4).heap[b]? := by rw [hZ]; rfl
    rw [e, st5_other _ _ _ _ _ _ (by omega)]
    exact h6.block b hb2
  refine ⟨by rw [hZ]; exact (st5_below h4 (Nat.le_succ _) _ _ _ _ _).drew, h3.frame (fun _ b _ _ hd => key b hd.1 hd.lt) fun t b off n hd => ?_⟩
  have hlt := hd.lt
  obtain ⟨h7, h8, cur, h9⟩ := hd
  exact ⟨by omega, h8, cur, by rw [key b h7 hlt]; exact h9⟩

set_option maxHeartbeats 4000000 in
set_option maxRecDepth 100000 in
theorem read_c (w : World) (s : List UInt8) (hl : s.length ≤ 274877906944) (hT : TabN w.heap.size w) :
    Calls Tryz.prog 7 #[.string (S s)] w (ReadTo w s) := by
  obtain ⟨w1, hw1⟩ : ∃ w1, w1 = w.alloc (.cells #[.string (S s)] 9) := ⟨_, rfl⟩
  obtain ⟨w2, hw2⟩ : ∃ w2, w2 = w1.alloc (.cells #[.int .i64 0, .int .i64 0, .string ⟨#[]⟩, .slice none 0 0, .slice none 0 0] 26) := ⟨_, rfl⟩
  have hz1 : w1.heap.size = w.heap.size + 1 := by rw [hw1]; exact Array.size_push _
  have hz2 : w2.heap.size = w.heap.size + 2 := by rw [hw2]; exact (Array.size_push _).trans (congrArg (· + 1) hz1)
  have hb1 : Below w.heap.size w w1 := by rw [hw1]; exact (Below.refl _ w).alloc (Nat.le_refl _) _
  have hb12 : Below w1.heap.size w1 w2 := by rw [hw2]; exact (Below.refl _ w1).alloc (Nat.le_refl _) _
  have hs1 : w1.cell? ⟨w.heap.size, 0, none⟩ = some (.string (S s)) := by rw [hw1]; exact cell_of_row _ w.heap.size 0 _ _ _ (heap_alloc_new w _)
  have hs2 : w2.cell? ⟨w.heap.size, 0, none⟩ = some (.string (S s)) := (hb12.cell (p := ⟨w.heap.size, 0, none⟩) (by rw [hz1]; exact Nat.lt_succ_self _)).trans hs1
  have hbx : Bx w2 (w.heap.size + 1) (.int .i64 0) (.int .i64 0) (.string ⟨#[]⟩) (.slice none 0 0) (.slice none 0 0) := by
    have h1 := Bx.new w1 (.int .i64 0) (.int .i64 0) (.string ⟨#[]⟩) (.slice none 0 0) (.slice none 0 0)
    rw [← hw2, hz1] at h1
    exact h1
  have hb2 : Below w.heap.size w w2 := hb1.trans (hb12.mono (by omega))
  have hc := caught_c w2 w.heap.size s hs2 (by omega) hl (fun X hX => hT X (hb2.trans (hX.mono (by omega))))
  have HB := Lib.hid (And.intro hb2 (And.intro hbx (And.intro hs2 hz2)))
  rw [hw2, hw1] at hc
  have hw3 : w2 = (w.alloc (.cells #[.string (S s)] 9)).alloc (.cells #[.int .i64 0, .int .i64 0, .string ⟨#[]⟩, .slice none 0 0, .slice none 0 0] 26) := by rw [hw2, hw1]
  clear hw1 hw2 hb1 hb2 hb12 hbx hs1 hs2 hz1 hz2
  go_enter Tryz.func7, Tryz.ntmps7
  go_wp2_with fail
  refine hc.mono ?_
  clear hc
  rintro e1 W1 ⟨hb, h⟩
  rw [← hw3, HB.out.2.2.2] at hb
  have bx1 : Bx W1 (w.heap.size + 1) (.int .i64 0) (.int .i64 0) (.string ⟨#[]⟩) (.slice none 0 0) (.slice none 0 0) := by unfold Bx; rw [hb.block _ (by omega)]; exact HB.out.2.1
  have hsc : W1.cell? ⟨w.heap.size, 0, none⟩ = some (.string (S s)) := (hb.cell (p := ⟨w.heap.size, 0, none⟩) (by show w.heap.size < _; omega)).trans HB.out.2.2.1
  have hbw : Below w.heap.size w W1 := HB.out.1.trans (hb.mono (by omega))
  rcases h with ⟨rfl, h⟩ | ⟨rfl, h⟩ | ⟨⟨v0, v1, v2, v3, v4⟩, x, d, rfl, h1, h2, h3⟩
  · have ba := (Below.refl W1.heap.size W1).alloc (Nat.le_refl _) (.cells #[.int .i64 0, .int .i64 0, .string ⟨#[]⟩, .slice none 0 0, .slice none 0 0] 26)
    have bx2 := bx1.keep ba
    have hs3 := (ba.cell (p := ⟨w.heap.size, 0, none⟩) (by have := bx1.lt; show w.heap.size < _; omega)).trans hsc
    obtain ⟨t0, t1, t2, t3, t4⟩ := bx2.froz
    obtain ⟨g0, g1, g2, g3, g4⟩ := bx2.five
    obtain ⟨y0, y1, y2, y3, y4⟩ := (Bx.new W1 (.int .i64 0) (.int .i64 0) (.string ⟨#[]⟩) (.slice none 0 0) (.slice none 0 0)).five
    have hsz := bx1.lt
    have hlow := hbw.alloc (by omega) (.cells #[.int .i64 0, .int .i64 0, .string ⟨#[]⟩, .slice none 0 0, .slice none 0 0] 26)
    have HH := Lib.hid (And.intro h (And.intro hlow bx2))
    clear h hbw hb bx1 bx2 ba hsz hlow
    go_wp2_with fail
    refine bodyPost_ret (v := .tuple #[.agg #[.int .i64 0, .int .i64 0, .string ⟨#[]⟩, .slice none 0 0, .slice none 0 0], .int .i64 0, .int .i64 33]) (by simp [results, Tryz.results7, go_sem, g0, g1, g2, g3, g4]) rfl ?_
    have fin := fun Z (hZ : Z = st5 _ (w.heap.size + 1) (.int .i64 0) (.int .i64 0) (.string ⟨#[]⟩) (.slice none 0 0) (.slice none 0 0)) => (hZ ▸ st5_below HH.out.2.1 (Nat.le_succ _) (.int .i64 0) (.int .i64 0) (.string ⟨#[]⟩) (.slice none 0 0) (.slice none 0 0) : Below w.heap.size w Z)
    exact ⟨fin _ rfl, .inl ⟨rfl, HH.out.1⟩⟩
  · have ba := (Below.refl W1.heap.size W1).alloc (Nat.le_refl _) (.cells #[.int .i64 0, .int .i64 0, .string ⟨#[]⟩, .slice none 0 0, .slice none 0 0] 26)
    have bx2 := bx1.keep ba
    have hs3 := (ba.cell (p := ⟨w.heap.size, 0, none⟩) (by have := bx1.lt; show w.heap.size < _; omega)).trans hsc
    obtain ⟨t0, t1, t2, t3, t4⟩ := bx2.froz
    obtain ⟨g0, g1, g2, g3, g4⟩ := bx2.five
    obtain ⟨y0, y1, y2, y3, y4⟩ := (Bx.new W1 (.int .i64 0) (.int .i64 0) (.string ⟨#[]⟩) (.slice none 0 0) (.slice none 0 0)).five
    have hsz := bx1.lt
    have hlow := hbw.alloc (by omega) (.cells #[.int .i64 0, .int .i64 0, .string ⟨#[]⟩, .slice none 0 0, .slice none 0 0] 26)
    have HH := Lib.hid (And.intro h (And.intro hlow bx2))
    clear h hbw hb bx1 bx2 ba hsz hlow
    go_wp2_with fail
    refine bodyPost_ret (v := .tuple #[.agg #[.int .i64 0, .int .i64 0, .string ⟨#[]⟩, .slice none 0 0, .slice none 0 0], .int .i64 0, .int .i64 42]) (by simp [results, Tryz.results7, go_sem, g0, g1, g2, g3, g4]) rfl ?_
    have fin := fun Z (hZ : Z = st5 _ (w.heap.size + 1) (.int .i64 0) (.int .i64 0) (.string ⟨#[]⟩) (.slice none 0 0) (.slice none 0 0)) => (hZ ▸ st5_below HH.out.2.1 (Nat.le_succ _) (.int .i64 0) (.int .i64 0) (.string ⟨#[]⟩) (.slice none 0 0) (.slice none 0 0) : Below w.heap.size w Z)
    exact ⟨fin _ rfl, .inr (.inl ⟨rfl, HH.out.1⟩)⟩
  · obtain ⟨l0, l1, l2, lp, la, lb, lq, lr, ld, rfl, rfl, rfl, rfl, rfl⟩ := holds_parts h3
    have ba := (Below.refl W1.heap.size W1).alloc (Nat.le_refl _) (.cells #[.int .i64 l0, .int .i64 l1, .string l2, .slice lp la lb, .slice lq lr ld] 26)
    have bx2 := bx1.keep ba
    have hs3 := (ba.cell (p := ⟨w.heap.size, 0, none⟩) (by have := bx1.lt; show w.heap.size < _; omega)).trans hsc
    obtain ⟨t0, t1, t2, t3, t4⟩ := bx2.froz
    obtain ⟨g0, g1, g2, g3, g4⟩ := bx2.five
    obtain ⟨y0, y1, y2, y3, y4⟩ := (Bx.new W1 (.int .i64 l0) (.int .i64 l1) (.string l2) (.slice lp la lb) (.slice lq lr ld)).five
    have hsz := bx1.lt
    have hlow := hbw.alloc (by omega) (.cells #[.int .i64 l0, .int .i64 l1, .string l2, .slice lp la lb, .slice lq lr ld] 26)
    have HSZ := Lib.hid hsz
    have HH := Lib.hid (And.intro h1 (And.intro h2 (And.intro h3 (And.intro hlow (And.intro bx2 ba)))))
    clear h1 h2 h3 hbw bx1 bx2 hb ba hsz hlow
    have hne : W1.heap.size ≠ w.heap.size + 1 := by have := HH.out.2.2.2.2.1.lt; have h9 := HSZ.out; omega
    have hne2 := Ne.symm hne
    have hne3 : W1.heap.size ≠ w.heap.size := by have h9 := HSZ.out; omega
    have hne4 := Ne.symm hne3
    have hne5 : w.heap.size ≠ w.heap.size + 1 := by omega
    have hne6 := Ne.symm hne5
    have hsS := size_S s
    go_wp2_with fail
    go_region
    go_wp2_with fail
    refine bodyPost_ret (v := .tuple #[.agg #[.int .i64 l0, .int .i64 l1, .string l2, .slice lp la lb, .slice lq lr ld], .int .i64 s.length, .int .i64 0]) (by simp [results, Tryz.results7, go_sem, g0, g1, g2, g3, g4]) rfl ?_
    obtain ⟨h1, h2, h3, h4, h5, h6⟩ := HH.out
    rw [← hw3, HB.out.2.2.2] at h3
    have fin := fun Z hZ => read_fin h4 h6 h3 Z hZ
    obtain ⟨f1, f2⟩ := fin _ rfl
    exact ⟨f1, .inr (.inr ⟨(.int .i64 l0, .int .i64 l1, .string l2, .slice lp la lb, .slice lq lr ld), x, d, rfl, h1, h2, f2⟩)⟩
end Go.Proofs.YtgfbednfiejlfaaGreatDoor.Rd

/-
  The page's example: what the reader makes of the text [1].
-/
namespace Go.Proofs.YtgfbednfiejlfaaGreatDoor.Rd
open Go.RowKit Go.Proofs.YtgfbednfiejlfaaGreatDoor.Oct Go.Proofs.YtgfbednfiejlfaaGreatDoor.Val

theorem one_a : step (.loop [91, 49, 93] [] 0) = .inl (.loop [49, 93] [⟨5, [], []⟩] 1) := by rfl
theorem one_n : numberP [49, 93] = some (1, [93]) := by decide +kernel
theorem one_p : partP [49, 93] [⟨5, [], []⟩] 1 = .val (leafV 3 1 ⟨#[]⟩) [93] [⟨5, [], []⟩] 1 := by
  unfold partP
  rw [if_neg (by decide), if_neg (by decide), if_neg (by decide), if_neg (by decide), if_neg (by decide), if_neg (by decide), one_n]
theorem one_b : step (.loop [49, 93] [⟨5, [], []⟩] 1) = .inl (.close (leafV 3 1 ⟨#[]⟩) [93] [⟨5, [], []⟩] 1) := by simp only [step, one_p]
theorem one_c : step (.close (leafV 3 1 ⟨#[]⟩) [93] [⟨5, [], []⟩] 1) = .inl (.close (.mk 5 0 ⟨#[]⟩ [leafV 3 1 ⟨#[]⟩] []) [] [] 1) := by rfl
theorem one_leads : Leads (.loop [91, 49, 93] [] 0) (.done (.mk 5 0 ⟨#[]⟩ [leafV 3 1 ⟨#[]⟩] []) [] 1) :=
  .next one_a (.next one_b (.next one_c (.stop rfl)))

/-- So whatever the reader comes to at that text is this. -/
theorem one_only {o : Out} (h : Leads (.loop [91, 49, 93] [] 0) o) : o = .done (.mk 5 0 ⟨#[]⟩ [leafV 3 1 ⟨#[]⟩] []) [] 1 := h.det one_leads
end Go.Proofs.YtgfbednfiejlfaaGreatDoor.Rd

/-
  Contracts of num and alive of package muslinlaw05.
-/
namespace Go.Proofs.YtgfbednfiejlfaaGreatDoor.Rd
open Go.RowKit Go.Proofs.YtgfbednfiejlfaaGreatDoor.Oct Go.Proofs.YtgfbednfiejlfaaGreatDoor.Val Go.Proofs.YtgfbednfiejlfaaGreatDoor.Tl Go.Proofs.YtgfbednfiejlfaaGreatDoor.Lit Go.Proofs.YtgfbednfiejlfaaGreatDoor.Utf

theorem lnum_c (n : Int) (w : World) : Calls Tryz.prog 8 #[.int .i64 n] w fun e w' => e = .returned (.int .i64 n) ∧ w' = w := by
  go_enter Tryz.func8, Tryz.ntmps8
  go_wp2
  go_ret
  exact ⟨rfl, rfl⟩

theorem holds_list {C : Cond} {w : World} {v0 v1 v2 v4 : Value} {p : Option Addr} {a b : Nat} {k n : Int} {s : ByteArray} {l : List V} {ks : List ByteArray} (h : Holds C w (.agg #[v0, v1, v2, .slice p a b, v4]) (.mk k n s l ks)) : a = l.length := by
  cases h
  rfl

set_option maxHeartbeats 400000 in
set_option maxRecDepth 100000 in
theorem lalive_c (w : World) (hT : TabN w.heap.size w) : Calls Tryz.prog 6 #[] w fun e w' => e = .returned (.bool true) ∧ Below w.heap.size w w' := by
  have hr := read_c w [91, 49, 93] (by decide) hT
  have hn := lnum_c
  have HT := Lib.hid hT
  clear hT
  go_enter Tryz.func6, Tryz.ntmps6
  go_wp2_with fail
  refine hr.mono ?_
  clear hr
  rintro e1 W1 ⟨hb, h⟩
  rcases h with ⟨rfl, h | ⟨x, t, d, h, hne⟩⟩ | ⟨rfl, x, d, h, hd⟩ | ⟨⟨v0, v1, v2, v3, v4⟩, x, d, rfl, h1, h2, h3⟩
  · cases one_only h
  · have := one_only h; injection this with _ h2 _; exact absurd h2 hne
  · have := one_only h; injection this with _ _ h3; omega
  · have h5 := one_only h1
    injection h5 with hx _ hd
    rw [hx] at h3
    obtain ⟨l0, l1, l2, lp, la, lb, lq, lr, ld, rfl, rfl, rfl, rfl, rfl⟩ := holds_parts h3
    have hla : la = 1 := holds_list h3
    subst hla
    have hq := quote_c (S [60]) (by decide) (by decide +kernel)
    have hqe : quoteL (S [60]) = [34, 92, 117, 48, 48, 51, 99, 34] := by decide +kernel
    have HW := Lib.hid hb
    clear h1 h2 h3 hb
    go_wp2_with fail
    refine (hn _ _).mono ?_
    rintro e2 W2 ⟨rfl, rfl⟩
    have hbw : Below w.heap.size w (W1.alloc (.cells #[.int .i64 l0, .int .i64 l1, .string l2, .slice lp 1 lb, .slice lq lr ld] 26)) := HW.out.alloc HW.out.size _
    have hTt : Tabs (W1.alloc (.cells #[.int .i64 l0, .int .i64 l1, .string l2, .slice lp 1 lb, .slice lq lr ld] 26)) := HT.out _ hbw
    have hq1 := hq _ hTt
    rw [hqe] at hq1
    have HX := Lib.hid hbw
    clear hbw hTt hq hqe
    go_wp2_with (first | (go_at_call 15; refine hq1.mono ?_; rintro e3 W3 ⟨rfl, hb3⟩))
    refine bodyPost_ret (v := .bool true) (by simp [results, Tryz.results6, go_sem]) rfl ?_
    exact ⟨rfl, HX.out.trans (hb3.mono HX.out.size)⟩
end Go.Proofs.YtgfbednfiejlfaaGreatDoor.Rd

/-
  The law LiteralOwn, out of the contracts of the calls that it makes.
-/
namespace Go.Proofs.YtgfbednfiejlfaaGreatDoor.Rd
open Go.RowKit Go.Proofs.YtgfbednfiejlfaaGreatDoor.Oct Go.Proofs.YtgfbednfiejlfaaGreatDoor.Val Go.Proofs.YtgfbednfiejlfaaGreatDoor.Tl Go.Proofs.YtgfbednfiejlfaaGreatDoor.Lit Go.Proofs.YtgfbednfiejlfaaGreatDoor.Utf

/-- The error's number that Read tells of a text. -/
def ErrOf (s : List UInt8) (r : Int) : Prop :=
  (r = 33 ∧ (Leads (.loop s [] 0) .bad ∨ ∃ x t d, Leads (.loop s [] 0) (.done x t d) ∧ t ≠ [])) ∨ (r = 42 ∧ ∃ x d, Leads (.loop s [] 0) (.done x [] d) ∧ 16 < d) ∨
    (r = 0 ∧ ∃ x d, Leads (.loop s [] 0) (.done x [] d) ∧ d ≤ 16)
theorem ErrOf.det {s : List UInt8} {a b : Int} (h : ErrOf s a) (k : ErrOf s b) : a = b := by
  rcases h with ⟨rfl, h | ⟨x, t, d, h, ht⟩⟩ | ⟨rfl, x, d, h, hd⟩ | ⟨rfl, x, d, h, hd⟩ <;> rcases k with ⟨rfl, k | ⟨y, u, e, k, hu⟩⟩ | ⟨rfl, y, e, k, he⟩ | ⟨rfl, y, e, k, he⟩
  all_goals first
    | rfl
    | (exfalso
       have q := h.det k
       first
         | (cases q; done)
         | (simp only [Out.done.injEq] at q
            obtain ⟨_, q2, q3⟩ := q
            first
              | exact hu q2.symm
              | exact ht q2
              | omega))

/-- What Read leaves, in one form. -/
def Got (w : World) (s : List UInt8) (en : Ending) (w' : World) : Prop :=
  ∃ (k n : Int) (t : ByteArray) (p : Option Addr) (m cap : Nat) (q : Option Addr) (c d : Nat) (x : V) (len r : Int),
    en = .returned (.tuple #[.agg #[.int .i64 k, .int .i64 n, .string t, .slice p m cap, .slice q c d], .int .i64 len, .int .i64 r]) ∧ ErrOf s r ∧
    Holds (Mine w.heap.size w') w' (.agg #[.int .i64 k, .int .i64 n, .string t, .slice p m cap, .slice q c d]) x ∧ Below w.heap.size w w'
theorem ReadTo.got {w w' : World} {s : List UInt8} {en : Ending} (h : ReadTo w s en w') : Got w s en w' := by
  obtain ⟨hb, ⟨rfl, h⟩ | ⟨rfl, h⟩ | ⟨⟨v0, v1, v2, v3, v4⟩, x, d, rfl, h1, h2, h3⟩⟩ := h
  · exact ⟨0, 0, ⟨#[]⟩, none, 0, 0, none, 0, 0, _, 0, 33, rfl, .inl ⟨rfl, h⟩, leaf_holds 0 0 ⟨#[]⟩ (by decide) (by decide) (by decide), hb⟩
  · exact ⟨0, 0, ⟨#[]⟩, none, 0, 0, none, 0, 0, _, 0, 42, rfl, .inr (.inl ⟨rfl, h⟩), leaf_holds 0 0 ⟨#[]⟩ (by decide) (by decide) (by decide), hb⟩
  · obtain ⟨l0, l1, l2, lp, la, lb, lq, lr, ld, rfl, rfl, rfl, rfl, rfl⟩ := holds_parts h3
    exact ⟨_, _, _, _, _, _, _, _, _, x, _, 0, rfl, .inr (.inr ⟨rfl, x, d, h1, h2⟩), h3, hb⟩

theorem holds_row {lo : Nat} {w : World} {v0 v1 v2 v4 : Value} {p : Option Addr} {m cap : Nat} {x : V} (h : Holds (Mine lo w) w (.agg #[v0, v1, v2, .slice p m cap, v4]) x) :
    m ≤ 140737488351232 ∧ (0 < m → ∃ g cur, p = some ⟨g, 0, none⟩ ∧ lo ≤ g ∧ w.heap[g]? = some (.cells cur 26 (0, 0)) ∧ m * 5 ≤ cur.size) := by
  cases h with
  | mk k n s p cap K l ks b off c hr hp hc hK hl =>
    refine ⟨by have := hr.2.2.2.2.2; omega, fun h0 => ?_⟩
    obtain ⟨rfl, h1, rfl, cur, h2⟩ := hp h0
    have h2 : w.heap[b]? = some (.cells cur 26 (0, 0)) := h2
    refine ⟨b, cur, rfl, h1, h2, ?_⟩
    have h3 := hc (l.length - 1) 4 (by omega) (by omega)
    have h4 := (cell_of_row w b _ cur _ _ h2).symm.trans h3
    have := (Array.getElem?_eq_some_iff.1 h4).1
    omega

/-- One value written over. -/
abbrev over5 (w : World) (b i : Nat) : World :=
  ((((w.setCell ⟨b, i * 5, none⟩ (.int .i64 77)).setCell ⟨b, i * 5 + 1, none⟩ (.int .i64 0)).setCell ⟨b, i * 5 + 2, none⟩ (.string ⟨#[]⟩)).setCell ⟨b, i * 5 + 3, none⟩ (.slice none 0 0)).setCell ⟨b, i * 5 + 4, none⟩ (.slice none 0 0)

/-- Some values of the block g, which lies from lo on and below hi, are written over; all else lies as it lay. -/
structure OverAt (lo hi g m : Nat) (A B : World) : Prop where
  size : B.heap.size = A.heap.size
  os : B.os = A.os
  tape : B.tape = A.tape
  output : B.output = A.output
  block : ∀ b, b < lo ∨ hi ≤ b → B.heap[b]? = A.heap[b]?
  row : 0 < m → lo ≤ g ∧ g < hi ∧ ∃ cur, B.heap[g]? = some (.cells cur 26 (0, 0)) ∧ m * 5 ≤ cur.size

theorem st_os (w : World) (a : Addr) (v : Value) : (w.setCell a v).os = w.os ∧ (w.setCell a v).tape = w.tape ∧ (w.setCell a v).output = w.output ∧ (w.setCell a v).heap.size = w.heap.size := ⟨rfl, rfl, rfl, by simp⟩
theorem same5 {A B C : World} (h : B.os = A.os ∧ B.tape = A.tape ∧ B.output = A.output ∧ B.heap.size = A.heap.size) (k : C.os = B.os ∧ C.tape = B.tape ∧ C.output = B.output ∧ C.heap.size = B.heap.size) :
    C.os = A.os ∧ C.tape = A.tape ∧ C.output = A.output ∧ C.heap.size = A.heap.size := ⟨k.1.trans h.1, k.2.1.trans h.2.1, k.2.2.1.trans h.2.2.1, k.2.2.2.trans h.2.2.2⟩
theorem over_same (w : World) (b i : Nat) : (over5 w b i).os = w.os ∧ (over5 w b i).tape = w.tape ∧ (over5 w b i).output = w.output ∧ (over5 w b i).heap.size = w.heap.size :=
  same5 (same5 (same5 (same5 (st_os w _ _) (st_os _ _ _)) (st_os _ _ _)) (st_os _ _ _)) (st_os _ _ _)

theorem OverAt.over {lo hi g m : Nat} {A B : World} (h : OverAt lo hi g m A B) {i : Nat} (him : i < m) : OverAt lo hi g m A (over5 B g i) := by
  obtain ⟨h1, h2, cur, h3, h4⟩ := h.row (by omega)
  have e1 := heap_setCell_same B g (i * 5) cur _ (.int .i64 77) h3
  have e2 := heap_setCell_same _ g (i * 5 + 1) _ _ (.int .i64 0) e1
  have e3 := heap_setCell_same _ g (i * 5 + 2) _ _ (.string ⟨#[]⟩) e2
  have e4 := heap_setCell_same _ g (i * 5 + 3) _ _ (.slice none 0 0) e3
  have e5 := heap_setCell_same _ g (i * 5 + 4) _ _ (.slice none 0 0) e4
  obtain ⟨o1, o2, o3, o4⟩ := over_same B g i
  refine ⟨o4.trans h.size, o1.trans h.os, o2.trans h.tape, o3.trans h.output, fun b hb => ?_, fun _ => ⟨h1, h2, _, e5, by simpa using h4⟩⟩
  have hne : b ≠ g := by omega
  rw [heap_setCell_other _ _ _ _ hne, heap_setCell_other _ _ _ _ hne, heap_setCell_other _ _ _ _ hne, heap_setCell_other _ _ _ _ hne, heap_setCell_other _ _ _ _ hne]
  exact h.block b hb

theorem five5 {X : World} {B : Nat} {u0 u1 u2 u3 u4 : Value} {t : TypeId} (h : X.heap[B]? = some (.cells #[u0, u1, u2, u3, u4] t (0, 0))) :
    X.cell? ⟨B, 0, none⟩ = some u0 ∧ X.cell? ⟨B, 1, none⟩ = some u1 ∧ X.cell? ⟨B, 2, none⟩ = some u2 ∧ X.cell? ⟨B, 3, none⟩ = some u3 ∧ X.cell? ⟨B, 4, none⟩ = some u4 :=
  ⟨cell_of_row X B 0 _ _ _ h, cell_of_row X B 1 _ _ _ h, cell_of_row X B 2 _ _ _ h, cell_of_row X B 3 _ _ _ h, cell_of_row X B 4 _ _ _ h⟩

set_option maxHeartbeats 8000000 in
set_option maxRecDepth 100000 in
theorem law_own (W : World) (s : ByteArray) (hs : s.size ≤ 274877906944) (hT : TabN W.heap.size W) :
    Calls Tryz.prog 5 #[.string s] W fun e W' => e = .returned (.bool true) ∧ Below W.heap.size W W' := by
  obtain ⟨l, rfl⟩ : ∃ l, s = S l := ⟨s.data.toList, (S_list s).symm⟩
  have hl : l.length ≤ 274877906944 := by rw [← size_S]; exact hs
  have HT := Lib.hid hT
  have HL := Lib.hid hl
  have hal := lalive_c W hT
  clear hs hT hl
  go_enter Tryz.func5, Tryz.ntmps5
  go_wp2_with fail
  refine hal.mono ?_
  rintro e w1 ⟨rfl, hb1⟩
  clear hal
  have hr1 := read_c w1 l HL.out (fun X hX => HT.out X (hb1.trans (hX.mono hb1.size)))
  have B1 := Lib.hid hb1
  clear hb1
  go_wp2_with fail
  refine hr1.mono ?_
  clear hr1
  rintro e w2 hg
  obtain ⟨k1, n1, t1, p1, m1, a1, q1, c1, d1, x1, len1, r1, rfl, E1, A1, hb2⟩ := hg.got
  clear hg
  have hbA : Below W.heap.size W (w2.alloc (.cells #[.int .i64 k1, .int .i64 n1, .string t1, .slice p1 m1 a1, .slice q1 c1 d1] 26)) :=
    (B1.out.trans (hb2.mono B1.out.size)).alloc (Nat.le_trans B1.out.size hb2.size) _
  have hr2 := read_c (w2.alloc (.cells #[.int .i64 k1, .int .i64 n1, .string t1, .slice p1 m1 a1, .slice q1 c1 d1] 26)) l HL.out (fun X hX => HT.out X (hbA.trans (hX.mono hbA.size)))
  have H2 := Lib.hid (And.intro E1 (And.intro A1 (And.intro hb2 hbA)))
  clear E1 A1 hb2 hbA
  go_wp2_with fail
  refine hr2.mono ?_
  clear hr2
  rintro e w3 hg
  obtain ⟨k2, n2, t2, p2, m2, a2, q2, c2, d2, x2, len2, r2, rfl, E2, A2, hb3⟩ := hg.got
  clear hg
  have z3 : w2.heap.size < w3.heap.size := by have := hb3.size; simp at this; omega
  have D3 : w3.heap[w2.heap.size]? = some (.cells #[.int .i64 k1, .int .i64 n1, .string t1, .slice p1 m1 a1, .slice q1 c1 d1] 26 (0, 0)) := (hb3.block _ (by simp)).trans (heap_alloc_new w2 _)
  have O3 : Holds (Old w3.heap.size) w3 (.agg #[.int .i64 k2, .int .i64 n2, .string t2, .slice p2 m2 a2, .slice q2 c2 d2]) x2 := A2.frame (fun _ _ _ _ _ => rfl) (fun _ _ _ _ h => h.lt)
  have hown := own_c w3.heap.size w3 O3 (w3.alloc (.cells #[.int .i64 k2, .int .i64 n2, .string t2, .slice p2 m2 a2, .slice q2 c2 d2] 26)) (by simp) ((Below.refl _ w3).alloc (Nat.le_refl _) _)
  obtain rfl := H2.out.1.det E2
  have H3 := Lib.hid (And.intro A2 (And.intro hb3 D3))
  clear A2 hb3 D3 O3 E2
  go_wp2_with fail
  refine hown.mono ?_
  clear hown
  rintro e w4 ⟨v4, rfl, A4, hb4⟩
  obtain ⟨⟨u0, u1, u2, u3, u4⟩, rfl, -⟩ := holds_form A4
  obtain ⟨k4, n4, t4, p4, m4, a4, q4, c4, d4, rfl, rfl, rfl, rfl, rfl⟩ := holds_parts A4
  have z4 : w3.heap.size < w4.heap.size := by have := hb4.size; simp at this; omega
  obtain ⟨W4, hW4⟩ : ∃ W4, W4 = w4.alloc (.cells #[.int .i64 k4, .int .i64 n4, .string t4, .slice p4 m4 a4, .slice q4 c4 d4] 26) := ⟨_, rfl⟩
  have s4 : W4.heap.size = w4.heap.size + 1 := by rw [hW4]; simp
  have old4 : ∀ b, b < w3.heap.size → W4.heap[b]? = w3.heap[b]? := fun b hb => by
    rw [hW4, Go.heap_alloc_old _ _ (by omega), hb4.block b (by simp; omega), Go.heap_alloc_old _ _ hb]
  have DA : W4.heap[w2.heap.size]? = some (.cells #[.int .i64 k1, .int .i64 n1, .string t1, .slice p1 m1 a1, .slice q1 c1 d1] 26 (0, 0)) := (old4 _ z3).trans H3.out.2.2
  have DB : W4.heap[w3.heap.size]? = some (.cells #[.int .i64 k2, .int .i64 n2, .string t2, .slice p2 m2 a2, .slice q2 c2 d2] 26 (0, 0)) := by
    rw [hW4, Go.heap_alloc_old _ _ z4, hb4.block _ (by simp)]
    exact heap_alloc_new w3 _
  have DX : W4.heap[w4.heap.size]? = some (.cells #[.int .i64 k4, .int .i64 n4, .string t4, .slice p4 m4 a4, .slice q4 c4 d4] 26 (0, 0)) := by rw [hW4]; exact heap_alloc_new w4 _
  have BW4 : Below W.heap.size W W4 := by
    rw [hW4]
    exact ((H2.out.2.2.2.trans (H3.out.2.1.mono H2.out.2.2.2.size)).alloc (by have := H2.out.2.2.2.size; simp at this; omega) _ |>.trans (hb4.mono (by have := H2.out.2.2.2.size; simp at this ⊢; omega))).alloc (by have := H2.out.2.2.2.size; simp at this; omega) _
  obtain ⟨hm1, hrow⟩ := holds_row H2.out.2.1
  have HG : ∃ g, (0 < m1 → p1 = some ⟨g, 0, none⟩) ∧ OverAt w1.heap.size w2.heap.size g m1 W4 W4 := by
    by_cases h0 : 0 < m1
    · obtain ⟨g, cur, h1, h2, h3, h4⟩ := hrow h0
      have hg := (Array.getElem?_eq_some_iff.1 h3).1
      exact ⟨g, fun _ => h1, rfl, rfl, rfl, rfl, fun _ _ => rfl, fun _ => ⟨h2, hg, cur, by rw [old4 g (by omega), H3.out.2.1.block g (by simp; omega), Go.heap_alloc_old _ _ hg]; exact h3, h4⟩⟩
    · exact ⟨0, fun h => absurd h h0, rfl, rfl, rfl, rfl, fun _ _ => rfl, fun h => absurd h h0⟩
  obtain ⟨g, hp1, HO⟩ := HG
  have hA2' : Holds (Old w3.heap.size) W4 (.agg #[.int .i64 k2, .int .i64 n2, .string t2, .slice p2 m2 a2, .slice q2 c2 d2]) x2 := H3.out.1.frame (fun _ b _ _ h => old4 b h.lt) (fun _ _ _ _ h => h.lt)
  have HF := Lib.hid (And.intro s4 (And.intro DA (And.intro DB (And.intro DX (And.intro BW4 (And.intro A4 (And.intro z3 (And.intro z4 hb4))))))))
  have HW4 := Lib.hid hW4
  have HP := Lib.hid hp1
  have HO := Lib.hid HO
  have HO4 := Lib.hid old4
  clear s4 DA DB DX BW4 A4 z3 z4 hrow hA2' old4 hb4
  go_wp2_with fail
  rw [← hW4]
  clear hp1 hW4
  go_loopw [10] (fun i wr => ∃ j : Nat, j ≤ m1 ∧ i = .int .i64 j ∧ Hid (OverAt w1.heap.size w2.heap.size g m1 W4 wr)) (fun i _ => m1 - (intOf i).toNat)
  case atStart => exact ⟨0, Nat.zero_le _, rfl, HO⟩
  case round =>
    clear HO
    obtain ⟨j, hj, rfl, hat⟩ := hrel
    have C3 : wr.cell? ⟨w2.heap.size, 3, none⟩ = some (.slice p1 m1 a1) := cell_of_row wr _ 3 _ _ _ ((hat.out.block _ (.inr (Nat.le_refl _))).trans HF.out.2.1)
    by_cases hjm : j < m1
    · obtain rfl := HP.out (by omega)
      obtain ⟨g1, g2, cur, g3, g4⟩ := hat.out.row (by omega)
      have a0 : wr.cell? ⟨g, j * 5, none⟩ = some (cur[j * 5]'(by omega)) := (cell_of_row wr g (j * 5) _ _ _ g3).trans (Array.getElem?_eq_getElem (by omega))
      have a1 : wr.cell? ⟨g, j * 5 + 1, none⟩ = some (cur[j * 5 + 1]'(by omega)) := (cell_of_row wr g (j * 5 + 1) _ _ _ g3).trans (Array.getElem?_eq_getElem (by omega))
      have a2 : wr.cell? ⟨g, j * 5 + 2, none⟩ = some (cur[j * 5 + 2]'(by omega)) := (cell_of_row wr g (j * 5 + 2) _ _ _ g3).trans (Array.getElem?_eq_getElem (by omega))
      have a3 : wr.cell? ⟨g, j * 5 + 3, none⟩ = some (cur[j * 5 + 3]'(by omega)) := (cell_of_row wr g (j * 5 + 3) _ _ _ g3).trans (Array.getElem?_eq_getElem (by omega))
      have a4 : wr.cell? ⟨g, j * 5 + 4, none⟩ = some (cur[j * 5 + 4]'(by omega)) := (cell_of_row wr g (j * 5 + 4) _ _ _ g3).trans (Array.getElem?_eq_getElem (by omega))
      have f0 := frozen_of_row wr g (j * 5) _ _ g3
      have f1 := frozen_of_row wr g (j * 5 + 1) _ _ g3
      have f2 := frozen_of_row wr g (j * 5 + 2) _ _ g3
      have f3 := frozen_of_row wr g (j * 5 + 3) _ _ g3
      have f4 := frozen_of_row wr g (j * 5 + 4) _ _ g3
      generalize cur[j * 5]'_ = o0 at a0
      generalize cur[j * 5 + 1]'_ = o1 at a1
      generalize cur[j * 5 + 2]'_ = o2 at a2
      generalize cur[j * 5 + 3]'_ = o3 at a3
      generalize cur[j * 5 + 4]'_ = o4 at a4
      have i1 : (0 : Int) ≤ (j : Int) := by omega
      have i2 : (j : Int) < (m1 : Int) := by omega
      have HN : Hid (OverAt w1.heap.size w2.heap.size g m1 W4 (over5 wr g j)) := hat.out.over hjm
      clear g1 g2 g3 g4
      go_wp2_with fail
      go_roundw
      case rel => exact ⟨j + 1, by omega, by go_num, HN⟩
      case measure => simp [intOf]; omega
    · have hge : (m1 : Int) ≤ (j : Int) := by omega
      have hbl : ∀ b, w2.heap.size ≤ b → wr.heap[b]? = W4.heap[b]? := fun b hb => hat.out.block b (.inr hb)
      obtain ⟨x0, x1', x2', x3, x4⟩ := five5 ((hbl _ (by have := HF.out.2.2.2.2.2.2.1; omega)).trans HF.out.2.2.1)
      obtain ⟨y0, y1, y2, y3, y4⟩ := five5 ((hbl _ (by have := HF.out.2.2.2.2.2.2.1; have := HF.out.2.2.2.2.2.2.2.1; omega)).trans HF.out.2.2.2.1)
      have hsz : wr.heap.size = w4.heap.size + 1 := hat.out.size.trans HF.out.1
      have hB : Holds (Old wr.heap.size) wr (.agg #[.int .i64 k2, .int .i64 n2, .string t2, .slice p2 m2 a2, .slice q2 c2 d2]) x2 :=
        H3.out.1.frame (fun _ b _ _ h => (hbl b (by have := h.1; simp at this; omega)).trans (HO4.out b h.lt)) (fun _ b _ _ h => by have := h.lt; have := HF.out.2.2.2.2.2.2.2.1; show b < _; omega)
      have hX : Holds (Old wr.heap.size) wr (.agg #[.int .i64 k4, .int .i64 n4, .string t4, .slice p4 m4 a4, .slice q4 c4 d4]) x2 :=
        HF.out.2.2.2.2.2.1.frame (fun _ b _ _ h => by
          have h1 := h.1
          have h2 := h.lt
          simp at h1
          rw [hbl b (by have := HF.out.2.2.2.2.2.2.1; omega), HW4.out, Go.heap_alloc_old _ _ h2]) (fun _ b _ _ h => by have := h.lt; show b < _; omega)
      have hsame := same_c wr.heap.size wr hB _ hX wr (Nat.le_refl _) (Below.refl _ _)
      have BE : Below W.heap.size W wr := by
        have hw := HF.out.2.2.2.2.1
        have := B1.out.size
        exact ⟨hat.out.os.trans hw.os, hat.out.tape.trans hw.tape, hat.out.output.trans hw.output, by rw [hat.out.size]; exact hw.size, fun b hb => (hat.out.block b (.inl (by omega))).trans (hw.block b hb)⟩
      have HE := Lib.hid BE
      clear hB hX hsz hbl BE
      go_wp2_with fail
      refine hsame.mono ?_
      rintro e w9 ⟨rfl, hb9⟩
      go_wp2_with fail
      go_ret
      exact ⟨rfl, HE.out.trans (hb9.mono HE.out.size)⟩
end Go.Proofs.YtgfbednfiejlfaaGreatDoor.Rd

/-
  Plainly: what the reader reads is a value whose literal is the text.
-/
namespace Go.Proofs.YtgfbednfiejlfaaGreatDoor.Rd
open Go.RowKit Go.Proofs.YtgfbednfiejlfaaGreatDoor.Oct Go.Proofs.YtgfbednfiejlfaaGreatDoor.Val Go.Proofs.YtgfbednfiejlfaaGreatDoor.Lit Go.Proofs.YtgfbednfiejlfaaGreatDoor.Tl

theorem prefix_cut {s p : List UInt8} (h : Lib.hasPrefix s p = true) : s = p ++ s.drop p.length := by
  unfold Lib.hasPrefix at h
  obtain ⟨t, rfl⟩ := List.isPrefixOf_iff_prefix.1 h
  simp

theorem take_suf {n : Nat} {l a t : List UInt8} (h : takeP n l = some (a, t)) : t <:+ l := by
  unfold takeP at h
  split at h
  · injection h with h
    injection h with h1 h2
    rw [← h2]
    exact List.drop_suffix _ _
  · cases h
theorem unit_suf {l t : List UInt8} {n : Nat} (h : unitP l = some (n, t)) : t <:+ l := by
  unfold unitP at h
  split at h
  · cases hk : takeP 4 (l.drop 2) with
    | none => rw [hk] at h; cases h
    | some q =>
      obtain ⟨a, u⟩ := q
      rw [hk] at h
      simp only at h
      split at h
      · injection h with h
        injection h with h1 h2
        rw [← h2]
        exact (take_suf hk).trans (List.drop_suffix _ _)
      · cases h
  · cases h
theorem enc_suf {c : Int} {t a u : List UInt8} (h : encP c t = some (a, u)) : u = t := by
  unfold encP at h
  split at h
  · injection h with h
    injection h with h1 h2
    exact h2.symm
  · cases h
theorem char_suf {l a t : List UInt8} (h : charP l = some (a, t)) : t <:+ l := by
  unfold charP at h
  split at h
  · cases hk : unitP l with
    | none => rw [hk] at h; cases h
    | some q =>
      obtain ⟨c, u⟩ := q
      rw [hk] at h
      simp only at h
      split at h
      · cases hk2 : unitP u with
        | none => rw [hk2] at h; cases h
        | some q2 =>
          obtain ⟨d, u2⟩ := q2
          rw [hk2] at h
          simp only at h
          rw [enc_suf h]
          exact (unit_suf hk2).trans (unit_suf hk)
      · rw [enc_suf h]
        exact unit_suf hk
  · exact take_suf h
theorem inside_suf (f : Nat) : ∀ (l acc a t : List UInt8), insideF f l acc = some (a, t) → t <:+ l := by
  induction f with
  | zero => intro l acc a t h; cases h
  | succ f ih =>
    intro l acc a t h
    rw [insideF] at h
    split at h
    · injection h with h
      injection h with h1 h2
      rw [← h2]
      exact List.drop_suffix _ _
    · cases hk : charP l with
      | none => rw [hk] at h; cases h
      | some q =>
        obtain ⟨b, u⟩ := q
        rw [hk] at h
        exact (ih u (acc ++ b) a t h).trans (char_suf hk)
theorem inner_suf {l a t : List UInt8} (h : innerP l = some (a, t)) : t <:+ l := by
  unfold innerP at h
  split at h
  · exact (inside_suf _ _ _ _ _ h).trans (List.drop_suffix _ _)
  · cases h
theorem text_lit {s a t : List UInt8} (h : textP s = some (a, t)) : s = quoteL (S a) ++ t := by
  unfold textP at h
  cases hi : innerP s with
  | none => rw [hi] at h; cases h
  | some q =>
    obtain ⟨a', t'⟩ := q
    rw [hi] at h
    simp only at h
    split at h
    · rename_i hq
      injection h with h
      injection h with h1 h2
      subst h1 h2
      obtain ⟨p, rfl⟩ := inner_suf hi
      rw [hq]
      simp
    · cases h
theorem number_lit {s t : List UInt8} {n : Int} (h : numberP s = some (n, t)) : s = litI n ++ t := by
  unfold numberP at h
  split at h
  · split at h
    · rename_i hp
      injection h with h
      injection h with h1 h2
      have := prefix_cut hp
      rw [h1] at this h2
      rw [← h2]
      exact this
    · cases h
  · cases h

theorem join_keys (r : Bool) (ks e : List ByteArray) (ts : List (List UInt8)) : ∀ n, n ≤ ks.length → joinK r (ks ++ e) ts n = joinK r ks ts n
  | 0, _ => rfl
  | n + 1, h => by
    have hk : keyAt r (ks ++ e) n = keyAt r ks n := by
      unfold keyAt
      rw [List.getElem?_append_left (by omega)]
    rw [joinK, joinK, join_keys r ks e ts n (by omega), hk]
theorem join_vals (r : Bool) (ks : List ByteArray) (ts u : List (List UInt8)) : ∀ n, n ≤ ts.length → joinK r ks (ts ++ u) n = joinK r ks ts n
  | 0, _ => rfl
  | n + 1, h => by
    have hk : (ts ++ u).getD n [] = ts.getD n [] := by
      rw [List.getD_eq_getElem?_getD, List.getD_eq_getElem?_getD, List.getElem?_append_left (by omega)]
    rw [joinK, joinK, join_vals r ks ts u n (by omega), hk]
theorem key_none_at (r : Bool) (ks : List ByteArray) (n : Nat) (h : ks.length ≤ n) : keyAt r ks n = [] := by
  unfold keyAt
  rw [List.getElem?_eq_none h]
  split <;> rfl
theorem key_last (ks : List ByteArray) (key : ByteArray) : keyAt true (ks ++ [key]) ks.length = quoteL key ++ [58] := by
  unfold keyAt
  rw [List.getElem?_concat_length]
  rfl

/-- Which brackets. -/
abbrev Fr.isRec (f : Fr) : Bool := decide (f.kind = 6)
/-- What stands of one that has begun, up to where a value is due. -/
def frT (f : Fr) : List UInt8 := (if f.kind = 6 then [123] else [91]) ++ (joinK f.isRec f.ks (litAll f.xs) f.xs.length ++ ((if f.xs.length = 0 then [] else [44]) ++ keyAt f.isRec f.ks f.xs.length))
def preT (fs : List Fr) : List UInt8 := fs.flatMap frT
structure FrOk (f : Fr) : Prop where
  kind : f.kind = 5 ∨ f.kind = 6
  keys : f.ks.length ≤ f.xs.length + 1
  plain : ∀ x ∈ f.xs, plainV x = true

theorem pre_snoc (fs : List Fr) (f : Fr) : preT (fs ++ [f]) = preT fs ++ frT f := by simp [preT]

theorem fr_items (f : Fr) (x : V) : joinK f.isRec f.ks (litAll (f.xs ++ [x])) (f.xs.length + 1) = joinK f.isRec f.ks (litAll f.xs) f.xs.length ++ ((if f.xs.length = 0 then [] else [44]) ++ (keyAt f.isRec f.ks f.xs.length ++ litL x)) := by
  have e : litAll (f.xs ++ [x]) = litAll f.xs ++ [litL x] := by rw [litAll_eq, litAll_eq]; simp
  have hl : (litAll f.xs).length = f.xs.length := litAll_len _
  rw [e, joinK, join_vals _ _ _ _ _ (by omega)]
  have hg : (litAll f.xs ++ [litL x]).getD f.xs.length [] = litL x := by
    rw [List.getD_eq_getElem?_getD, ← hl, List.getElem?_concat_length]
    rfl
  rw [hg]

theorem fr_add (f : Fr) (h : FrOk f) (x : V) : frT (f.add x) = frT f ++ (litL x ++ [44]) := by
  have h1 := fr_items f x
  have h2 : keyAt f.isRec f.ks (f.xs.length + 1) = [] := key_none_at _ _ _ h.keys
  unfold frT
  simp only [Fr.isRec] at h1 h2 ⊢
  simp only [List.length_append, List.length_cons, List.length_nil, Nat.zero_add]
  rw [h1, h2]
  simp

theorem fr_end (f : Fr) (h : FrOk f) (x : V) : litL (f.add x).val = frT f ++ (litL x ++ endL f.kind) := by
  have h1 := fr_items f x
  have hl : (litAll (f.xs ++ [x])).length = f.xs.length + 1 := by rw [litAll_len]; simp
  have hk := h.kind
  clear h
  obtain ⟨k, xs, ks⟩ := f
  have hk : k = 5 ∨ k = 6 := hk
  have hl : (litAll (xs ++ [x])).length = xs.length + 1 := hl
  rcases hk with rfl | rfl
  · have h1 : joinK false ks (litAll (xs ++ [x])) (xs.length + 1) = joinK false ks (litAll xs) xs.length ++ ((if xs.length = 0 then [] else [44]) ++ (keyAt false ks xs.length ++ litL x)) := h1
    show litL (.mk 5 0 ⟨#[]⟩ (xs ++ [x]) ks) = ([91] ++ (joinK false ks (litAll xs) xs.length ++ ((if xs.length = 0 then [] else [44]) ++ keyAt false ks xs.length))) ++ (litL x ++ [93])
    have e : litL (.mk 5 0 ⟨#[]⟩ (xs ++ [x]) ks) = brackL 91 93 (joinK false ks (litAll (xs ++ [x])) (litAll (xs ++ [x])).length) := by simp [litL]
    rw [e, hl, h1]
    simp [brackL]
  · have h1 : joinK true ks (litAll (xs ++ [x])) (xs.length + 1) = joinK true ks (litAll xs) xs.length ++ ((if xs.length = 0 then [] else [44]) ++ (keyAt true ks xs.length ++ litL x)) := h1
    show litL (.mk 6 0 ⟨#[]⟩ (xs ++ [x]) ks) = ([123] ++ (joinK true ks (litAll xs) xs.length ++ ((if xs.length = 0 then [] else [44]) ++ keyAt true ks xs.length))) ++ (litL x ++ [125])
    have e : litL (.mk 6 0 ⟨#[]⟩ (xs ++ [x]) ks) = brackL 123 125 (joinK true ks (litAll (xs ++ [x])) (litAll (xs ++ [x])).length) := by simp [litL]
    rw [e, hl, h1]
    simp [brackL]

theorem FrOk.add {f : Fr} (h : FrOk f) {x : V} (hx : plainV x = true) : FrOk (f.add x) :=
  ⟨h.kind, by show f.ks.length ≤ (f.xs ++ [x]).length + 1; have := h.keys; simp; omega, fun y hy => by
    rcases List.mem_append.1 hy with hy | hy
    · exact h.plain y hy
    · rw [List.mem_singleton.1 hy]; exact hx⟩
theorem FrOk.val {f : Fr} (h : FrOk f) : plainV f.val = true := by
  show plainV (.mk f.kind 0 ⟨#[]⟩ f.xs f.ks) = true
  rw [plainV, plainAll_eq]
  have : f.xs.all plainV = true := List.all_eq_true.2 h.plain
  rw [this]
  rcases h.kind with e | e <;> rw [e] <;> rfl

/-- What a part leaves keeps the text. -/
def PartOk (s : List UInt8) (fs : List Fr) : PR → Prop
  | .bad => True
  | .val x s' fs' _ => fs' = fs ∧ plainV x = true ∧ s = litL x ++ s'
  | .more s' fs' _ => (∀ f ∈ fs', FrOk f) ∧ preT fs' ++ s' = preT fs ++ s

theorem begin_ok (k : Int) (hk : k = 5 ∨ k = 6) (s s0 : List UInt8) (fs : List Fr) (d : Nat) (h : ∀ f ∈ fs, FrOk f) (h0 : s0 = (if k = 6 then [123] else [91]) ++ s) : PartOk s0 fs (beginP k s fs d) := by
  have hf : FrOk (fresh0 k) := ⟨hk, by simp, fun x hx => by cases hx⟩
  unfold beginP
  split
  · rename_i hp
    have hc := prefix_cut hp
    refine ⟨rfl, hf.val, ?_⟩
    rw [h0, hc]
    rcases hk with rfl | rfl <;> simp [litL, litAll, brackL, joinK, endL]
  · refine ⟨fun f hm => ?_, ?_⟩
    · rcases List.mem_append.1 hm with hm | hm
      · exact h f hm
      · rw [List.mem_singleton.1 hm]; exact hf
    · rw [pre_snoc, h0]
      have : frT (fresh0 k) = if k = 6 then [123] else [91] := by
        unfold frT
        simp [joinK, key_none_at]
      rw [this, List.append_assoc]

theorem key_ok {fs fs' : List Fr} {key : ByteArray} (hk : keyP fs key = some fs') (h : ∀ f ∈ fs, FrOk f) : (∀ f ∈ fs', FrOk f) ∧ preT fs' = preT fs ++ (quoteL key ++ [58]) := by
  rcases List.eq_nil_or_concat fs with rfl | ⟨fs0, f, rfl⟩
  · cases hk
  · rw [List.concat_eq_append] at hk h ⊢
    unfold keyP at hk
    rw [List.getLast?_concat, List.dropLast_concat] at hk
    simp only at hk
    split at hk
    · rename_i hc
      obtain ⟨c1, c2⟩ := hc
      injection hk with hk
      have hf := h f (by simp)
      rw [← hk]
      refine ⟨fun g hm => ?_, ?_⟩
      · rcases List.mem_append.1 hm with hm | hm
        · exact h g (by simp [hm])
        · rw [List.mem_singleton.1 hm]
          exact ⟨hf.kind, by simp; omega, hf.plain⟩
      · rw [pre_snoc, pre_snoc, List.append_assoc]
        congr 1
        unfold frT
        simp only [Fr.isRec, c1, decide_true, if_true]
        rw [join_keys true f.ks [key] (litAll f.xs) f.xs.length (by omega), ← c2, key_last, key_none_at true f.ks f.ks.length (Nat.le_refl _)]
        simp
    · cases hk

theorem leaf_plain (k n : Int) (t : ByteArray) (h : k < 7) : plainV (leafV k n t) = true := by
  rw [plainV, plainAll]
  simp [h]

theorem part_ok (s : List UInt8) (fs : List Fr) (d : Nat) (h : ∀ f ∈ fs, FrOk f) : PartOk s fs (partP s fs d) := by
  unfold partP
  split
  · rename_i hp; exact ⟨rfl, leaf_plain _ _ _ (by decide), by simpa [litL] using prefix_cut hp⟩
  · split
    · rename_i hp; exact ⟨rfl, leaf_plain _ _ _ (by decide), by simpa [litL] using prefix_cut hp⟩
    · split
      · rename_i hp; exact ⟨rfl, leaf_plain _ _ _ (by decide), by simpa [litL] using prefix_cut hp⟩
      · split
        · rename_i hp; exact begin_ok 5 (.inl rfl) _ _ fs d h (by simpa using prefix_cut hp)
        · split
          · rename_i hp; exact begin_ok 6 (.inr rfl) _ _ fs d h (by simpa using prefix_cut hp)
          · split
            · unfold textOrKeyP
              cases ht : textP s with
              | none => trivial
              | some q =>
                obtain ⟨a, t⟩ := q
                have hl := text_lit ht
                simp only
                split
                · rename_i hp
                  have h1 := prefix_cut hp
                  cases hk : keyP fs (S a) with
                  | none => trivial
                  | some fs' =>
                    obtain ⟨g1, g2⟩ := key_ok hk h
                    refine ⟨g1, ?_⟩
                    rw [g2, hl]
                    simp only [List.append_assoc]
                    congr 2
                    simpa using h1.symm
                · exact ⟨rfl, leaf_plain _ _ _ (by decide), by rw [hl]; simp [litL]⟩
            · cases hn : numberP s with
              | none => trivial
              | some q =>
                obtain ⟨n, t⟩ := q
                exact ⟨rfl, leaf_plain _ _ _ (by decide), by rw [number_lit hn]; simp [litL, litI]⟩

/-- What has been read, and what is left. -/
def Cfg.text : Cfg → List UInt8
  | .loop s fs _ => preT fs ++ s
  | .close x s fs _ => preT fs ++ (litL x ++ s)
def Cfg.ok : Cfg → Prop
  | .loop _ fs _ => ∀ f ∈ fs, FrOk f
  | .close x _ fs _ => plainV x = true ∧ ∀ f ∈ fs, FrOk f

theorem step_ok (c c' : Cfg) (h : c.ok) (hs : step c = .inl c') : c'.ok ∧ c'.text = c.text := by
  cases c with
  | loop s fs d =>
    have hp := part_ok s fs d h
    unfold step at hs
    simp only at hs
    cases hk : partP s fs d with
    | bad => rw [hk] at hs; cases hs
    | val x s' fs' d' =>
      rw [hk] at hs hp
      injection hs with hs
      obtain ⟨h1, h2, h3⟩ := hp
      rw [← hs, h1]
      exact ⟨⟨h2, h⟩, by show preT fs ++ (litL x ++ s') = preT fs ++ s; rw [← h3]⟩
    | more s' fs' d' =>
      rw [hk] at hs hp
      injection hs with hs
      rw [← hs]
      exact hp
  | close x s fs d =>
    obtain ⟨hx, hf⟩ := h
    rcases List.eq_nil_or_concat fs with rfl | ⟨fs0, f, rfl⟩
    · rw [close_nil] at hs; cases hs
    · rw [List.concat_eq_append] at hs hf ⊢
      rw [close_last] at hs
      have hff := hf f (by simp)
      split at hs
      · rename_i hp
        have hc := prefix_cut hp
        injection hs with hs
        rw [← hs]
        refine ⟨fun g hm => ?_, ?_⟩
        · rcases List.mem_append.1 hm with hm | hm
          · exact hf g (by simp [hm])
          · rw [List.mem_singleton.1 hm]; exact hff.add hx
        · show preT (fs0 ++ [f.add x]) ++ s.drop 1 = preT (fs0 ++ [f]) ++ (litL x ++ s)
          rw [pre_snoc, pre_snoc, fr_add f hff]
          simp only [List.append_assoc]
          congr 3
          simpa using hc.symm
      · split at hs
        · rename_i hp
          have hc := prefix_cut hp
          rw [endL_len] at hc
          injection hs with hs
          rw [← hs]
          refine ⟨⟨(hff.add hx).val, fun g hm => hf g (by simp [hm])⟩, ?_⟩
          show preT fs0 ++ (litL (f.add x).val ++ s.drop 1) = preT (fs0 ++ [f]) ++ (litL x ++ s)
          rw [pre_snoc, fr_end f hff]
          simp only [List.append_assoc]
          congr 3
          exact hc.symm
        · cases hs

theorem leads_lit {c : Cfg} {o : Out} (h : Leads c o) : c.ok → ∀ x t d, o = .done x t d → plainV x = true ∧ litL x ++ t = c.text := by
  induction h with
  | @stop c o hs =>
    intro hc x t d ho
    subst ho
    cases c with
    | loop s fs d' =>
      unfold step at hs
      simp only at hs
      cases hk : partP s fs d' <;> rw [hk] at hs <;> simp at hs
    | close y s fs d' =>
      rcases List.eq_nil_or_concat fs with rfl | ⟨fs0, f, rfl⟩
      · rw [close_nil] at hs
        injection hs with hs
        injection hs with h1 h2 h3
        subst h1 h2
        exact ⟨hc.1, rfl⟩
      · rw [List.concat_eq_append, close_last] at hs
        split at hs
        · cases hs
        · split at hs <;> simp at hs
  | next hs k ih =>
    intro hc x t d ho
    obtain ⟨h1, h2⟩ := step_ok _ _ hc hs
    rw [← h2]
    exact ih h1 x t d ho

/-- What is read whole is a plain value, and the text is its literal. -/
theorem read_lit {s : List UInt8} {x : V} {d : Nat} (h : Leads (.loop s [] 0) (.done x [] d)) : plainV x = true ∧ litL x = s := by
  obtain ⟨h1, h2⟩ := leads_lit h (fun f hf => by cases hf) x [] d rfl
  exact ⟨h1, by simpa [Cfg.text, preT] using h2⟩
end Go.Proofs.YtgfbednfiejlfaaGreatDoor.Rd

/-
  Contract of the page's Hex: the lowest digits of base 16, in two's complement; it changes nothing.
-/
namespace Go.Proofs.YtgfbednfiejlfaaGreatDoor.Oct
open Go.RowKit

theorem digit_slice (d : Nat) (h : d < 16) (w : World) :
    (Instr.slice 9 (.string ⟨#[48, 49, 50, 51, 52, 53, 54, 55, 56, 57, 97, 98, 99, 100, 101, 102]⟩) (some (.int .i64 (d : Int))) (some (.int .i64 ((d : Int) + 1))) none).run Tryz.prog w = .ok (.string (S [hexDig d])) w := by
  have h16 : (⟨#[48, 49, 50, 51, 52, 53, 54, 55, 56, 57, 97, 98, 99, 100, 101, 102]⟩ : ByteArray).size = 16 := rfl
  rw [← digit_cut d h]
  generalize (⟨#[48, 49, 50, 51, 52, 53, 54, 55, 56, 57, 97, 98, 99, 100, 101, 102]⟩ : ByteArray) = s at h16
  have e1 : ((d : Int) + 1).toNat = d + 1 := by omega
  rw [run_slice_string w _ s .i64 .i64 (d : Int) ((d : Int) + 1) Tryz.underlying9 (by omega) (by omega) (by omega), e1, Int.toNat_natCast]


set_option maxHeartbeats 1000000 in
theorem rhex_walk (n : Int) (size : Int) (w : World) (c : Nat) (hc : c ≤ 16) (h : (size < 0 ∧ c = 0) ∨ (16 < size ∧ c = 16) ∨ (size = (c : Int))) :
    Calls Tryz.prog 49 #[.int .i64 n, .int .i64 size] w fun e w' => e = .returned (.string (S (hexL (u64 n) c))) ∧ w = w' := by
  have hu := u64_wrap n
  have hm := u64_lt n
  have HM : Hid (u64 n < 18446744073709551616) := hm
  clear hm
  rcases (show (size < 0 ∧ c ≤ 0) ∨ (16 < size ∧ 16 ≤ c) ∨ size = (c : Int) from by omega) with ⟨h1, hcc⟩ | ⟨h1, hcc⟩ | rfl
  all_goals
    clear h
    go_enter Tryz.func49, Tryz.ntmps49
    go_wp2
    go_loop [5, 6, 7, 8] (fun u o i _ => ∃ k : Nat, k ≤ c ∧ u = .int .u64 ((u64 n / 16 ^ k : Nat) : Int) ∧ o = .string (S (hexL (u64 n) k)) ∧ i = .int .i64 k) (fun _ _ i _ => 16 - (intOf i).toNat)
    case atStart => exact ⟨0, Nat.zero_le _, by simp, rfl, rfl⟩
    case round =>
      obtain ⟨k, hk, rfl, rfl, rfl⟩ := hrel
      by_cases hlt : k < c
      · try (exfalso; omega)
        all_goals
          have hnext : Hid (S [hexDig (u64 n / 16 ^ k % 16)] ++ S (hexL (u64 n) k) = S (hexL (u64 n) (k + 1))) := by show _ = _; rw [S_append, hexL_cons]; rfl
          have hdiv : Hid (u64 n / 16 ^ (k + 1) = u64 n / 16 ^ k / 16) := by show _ = _; rw [Nat.pow_succ, Nat.div_div_eq_div_mul]
          have hvl : u64 n / 16 ^ k < 18446744073709551616 := Nat.lt_of_le_of_lt (Nat.div_le_self _ _) HM.out
          have hol : (S (hexL (u64 n) k)).size ≤ 16 := by rw [size_S, hexL_length]; omega
          generalize S (hexL (u64 n) k) = o at hnext hol
          generalize u64 n / 16 ^ k = v at hnext hdiv hvl
          obtain ⟨d, hd⟩ : ∃ d, v % 16 = d := ⟨_, rfl⟩
          have hdI : (v : Int) % 16 = (d : Int) := by omega
          have hd16 : d < 16 := by omega
          rw [hd] at hnext
          have hcut := digit_slice d hd16
          have hxl : (S [hexDig d]).size ≤ 1 := by rw [size_S]; simp
          generalize S [hexDig d] = x at hnext hcut hxl
          clear hd
          go_wp2
          go_round
          case rel => exact ⟨k + 1, by omega, by rw [hdiv.out]; go_num, by rw [hnext.out], by go_num⟩
          case measure => simp [intOf]; omega
      · go_wp2
        go_ret
        obtain rfl : k = c := by omega
        exact ⟨rfl, rfl⟩

theorem rhex_c (n size : Int) (w : World) :
    Calls Tryz.prog 49 #[.int .i64 n, .int .i64 size] w fun e w' => e = .returned (.string (S (hexL (u64 n) (clamp size)))) ∧ w = w' :=
  rhex_walk n size w (clamp size) (clamp_le size) (by unfold clamp; omega)
end Go.Proofs.YtgfbednfiejlfaaGreatDoor.Oct

/-
  Plain facts on how the page reads a character: how many octets the first one says, what they count, and that this is what a text begins with.
-/
namespace Go.Proofs.YtgfbednfiejlfaaGreatDoor.Utf
open Go.Lib (encodeRune)

/-- How many octets a first one says; 0: none. -/
def sizeN (b : Nat) : Nat := if b < 128 then 1 else if 194 ≤ b ∧ b < 224 then 2 else if 224 ≤ b ∧ b < 240 then 3 else if 240 ≤ b ∧ b < 245 then 4 else 0
theorem sizeN_le (b : Nat) : sizeN b ≤ 4 := by
  unfold sizeN
  repeat' split
  all_goals omega
/-- What of the first octet counts. -/
def partN (n : Nat) : Nat := if n = 1 then 128 else if n = 2 then 32 else if n = 3 then 16 else 8
/-- What the first k + 1 octets count. -/
def runV (l : List UInt8) (m : Nat) : Nat → Int
  | 0 => ((oct l 0 % m : Nat) : Int)
  | k + 1 => runV l m k * 64 + (oct l (k + 1) : Int) - 128

theorem oct_app (a t : List UInt8) (k : Nat) (h : k < a.length) : oct (a ++ t) k = oct a k := by
  unfold oct
  rw [List.getD_eq_getElem?_getD, List.getD_eq_getElem?_getD, List.getElem?_append_left h]

theorem enc_facts (n : Nat) (h : isChar n) :
    sizeN (oct (encodeRune n) 0) = (encodeRune n).length ∧ runV (encodeRune n) (partN (encodeRune n).length) ((encodeRune n).length - 1) = (n : Int) ∧
    ∀ k, 1 ≤ k → k < (encodeRune n).length → 128 ≤ oct (encodeRune n) k ∧ oct (encodeRune n) k ≤ 191 := by
  rw [enc_eq n h]
  unfold isChar at h
  unfold encN
  by_cases h1 : n < 128
  · rw [if_pos h1]
    refine ⟨?_, ?_, ?_⟩
    · simp only [oct, List.map_cons, List.map_nil, List.getD_cons_zero, List.length_cons, List.length_nil]
      rw [u8 n (by omega)]; unfold sizeN; rw [if_pos h1]
    · show (((n.toUInt8.toNat) % 128 : Nat) : Int) = (n : Int)
      rw [u8 n (by omega)]; omega
    · intro k hk1 hk2; simp at hk2; omega
  · rw [if_neg h1]
    by_cases h2 : n < 2048
    · rw [if_pos h2]
      have e0 := u8 (192 + n / 64) (by omega)
      have e1 := u8 (128 + n % 64) (by omega)
      refine ⟨?_, ?_, ?_⟩
      · simp only [oct, List.map_cons, List.map_nil, List.getD_cons_zero, List.length_cons, List.length_nil, e0]
        unfold sizeN; rw [if_neg (by omega), if_pos (by omega)]
      · simp only [oct, runV, partN, List.map_cons, List.map_nil, List.getD_cons_zero, List.getD_cons_succ, List.length_cons, List.length_nil, e0, e1]
        simp; omega
      · intro k hk1 hk2
        match k, hk1, hk2 with
        | 1, _, _ => simp only [oct, List.map_cons, List.map_nil, List.getD_cons_zero, List.getD_cons_succ, e1]; omega
        | k + 2, _, hk2 => simp at hk2; omega
    · rw [if_neg h2]
      by_cases h3 : n < 65536
      · rw [if_pos h3]
        have e0 := u8 (224 + n / 4096) (by omega)
        have e1 := u8 (128 + n / 64 % 64) (by omega)
        have e2 := u8 (128 + n % 64) (by omega)
        refine ⟨?_, ?_, ?_⟩
        · simp only [oct, List.map_cons, List.map_nil, List.getD_cons_zero, List.length_cons, List.length_nil, e0]
          unfold sizeN; rw [if_neg (by omega), if_neg (by omega), if_pos (by omega)]
        · simp only [oct, runV, partN, List.map_cons, List.map_nil, List.getD_cons_zero, List.getD_cons_succ, List.length_cons, List.length_nil, e0, e1, e2]
          simp; omega
        · intro k hk1 hk2
          match k, hk1, hk2 with
          | 1, _, _ => simp only [oct, List.map_cons, List.map_nil, List.getD_cons_zero, List.getD_cons_succ, e1]; omega
          | 2, _, _ => simp only [oct, List.map_cons, List.map_nil, List.getD_cons_zero, List.getD_cons_succ, e2]; omega
          | k + 3, _, hk2 => simp at hk2; omega
      · rw [if_neg h3]
        have e0 := u8 (240 + n / 262144) (by omega)
        have e1 := u8 (128 + n / 4096 % 64) (by omega)
        have e2 := u8 (128 + n / 64 % 64) (by omega)
        have e3 := u8 (128 + n % 64) (by omega)
        refine ⟨?_, ?_, ?_⟩
        · simp only [oct, List.map_cons, List.map_nil, List.getD_cons_zero, List.length_cons, List.length_nil, e0]
          unfold sizeN; rw [if_neg (by omega), if_neg (by omega), if_neg (by omega), if_pos (by omega)]
        · simp only [oct, runV, partN, List.map_cons, List.map_nil, List.getD_cons_zero, List.getD_cons_succ, List.length_cons, List.length_nil, e0, e1, e2, e3]
          simp; omega
        · intro k hk1 hk2
          match k, hk1, hk2 with
          | 1, _, _ => simp only [oct, List.map_cons, List.map_nil, List.getD_cons_zero, List.getD_cons_succ, e1]; omega
          | 2, _, _ => simp only [oct, List.map_cons, List.map_nil, List.getD_cons_zero, List.getD_cons_succ, e2]; omega
          | 3, _, _ => simp only [oct, List.map_cons, List.map_nil, List.getD_cons_zero, List.getD_cons_succ, e3]; omega
          | k + 4, _, hk2 => simp at hk2; omega

theorem runV_app (a t : List UInt8) (m k : Nat) (h : k < a.length) : runV (a ++ t) m k = runV a m k := by
  induction k with
  | zero => unfold runV; rw [oct_app a t 0 h]
  | succ k ih => unfold runV; rw [ih (by omega), oct_app a t (k + 1) h]

theorem dec_none (l : List UInt8) (hl : l ≠ []) (h : ∀ c t, isChar c → l = encodeRune c ++ t → False) : dec l = (-1, 1) := by
  rcases dec_cases l hl with h' | ⟨c, t, hc, e⟩
  · exact h'
  · exact (h c t hc e).elim

theorem enc_app (c : Int) (h : isChar c) (t : List UInt8) :
    sizeN (oct (encodeRune c ++ t) 0) = (encodeRune c).length ∧ runV (encodeRune c ++ t) (partN (encodeRune c).length) ((encodeRune c).length - 1) = c ∧
    ∀ k, 1 ≤ k → k < (encodeRune c).length → 128 ≤ oct (encodeRune c ++ t) k ∧ oct (encodeRune c ++ t) k ≤ 191 := by
  have hl := enc_len c
  obtain ⟨n, rfl, hn⟩ := isChar_nat h
  obtain ⟨h1, h2, h3⟩ := enc_facts n hn
  refine ⟨by rw [oct_app _ _ _ (by omega)]; exact h1, by rw [runV_app _ _ _ _ (by omega)]; exact h2, fun k hk1 hk2 => by rw [oct_app _ _ _ hk2]; exact h3 k hk1 hk2⟩

theorem dec_short (l : List UInt8) (hl : l ≠ []) (h : sizeN (oct l 0) = 0 ∨ l.length < sizeN (oct l 0)) : dec l = (-1, 1) :=
  dec_none l hl (fun c t hc e => by
    subst e
    have h1 := (enc_app c hc t).1
    have hl := enc_len c
    rw [h1, List.length_append] at h
    omega)
theorem dec_broken (l : List UInt8) (hl : l ≠ []) (k : Nat) (h1 : 1 ≤ k) (h2 : k < sizeN (oct l 0)) (h : oct l k < 128 ∨ 191 < oct l k) : dec l = (-1, 1) :=
  dec_none l hl (fun c t hc e => by
    subst e
    have h3 := enc_app c hc t
    rw [h3.1] at h2
    have := h3.2.2 k h1 h2
    omega)
theorem dec_yes (l : List UInt8) (v : Int) (hc : isChar v) (h : l.take (sizeN (oct l 0)) = encodeRune v) : dec l = (v, sizeN (oct l 0)) := by
  have e : l = encodeRune v ++ l.drop (sizeN (oct l 0)) := by rw [← h, List.take_append_drop]
  have h1 := (enc_app v hc (l.drop (sizeN (oct l 0)))).1
  rw [← e] at h1
  rw [h1, e, dec_enc v hc]
theorem dec_no (l : List UInt8) (hl : l ≠ []) (h : ¬ (isChar (runV l (partN (sizeN (oct l 0))) (sizeN (oct l 0) - 1)) ∧ l.take (sizeN (oct l 0)) = encodeRune (runV l (partN (sizeN (oct l 0))) (sizeN (oct l 0) - 1)))) : dec l = (-1, 1) :=
  dec_none l hl (fun c t hc e => by
    subst e
    have h3 := enc_app c hc t
    rw [h3.1, h3.2.1] at h
    exact h ⟨hc, by simp⟩)

theorem runV_bound (l : List UInt8) (m : Nat) (hm : 0 < m) (hm' : m ≤ 128) (k : Nat) (hk : k ≤ 3) (h : ∀ j, 1 ≤ j → j ≤ k → 128 ≤ oct l j ∧ oct l j ≤ 191) : 0 ≤ runV l m k ∧ runV l m k ≤ 33554431 := by
  have h0 : oct l 0 % m < m := Nat.mod_lt _ hm
  match k, hk with
  | 0, _ => unfold runV; omega
  | 1, _ => have h1 := h 1 (by omega) (by omega); simp only [runV, Nat.zero_add]; omega
  | 2, _ => have h1 := h 1 (by omega) (by omega); have h2 := h 2 (by omega) (by omega); simp only [runV, Nat.zero_add, Nat.reduceAdd]; omega
  | 3, _ => have h1 := h 1 (by omega) (by omega); have h2 := h 2 (by omega) (by omega); have h3 := h 3 (by omega) (by omega); simp only [runV, Nat.zero_add, Nat.reduceAdd]; omega
end Go.Proofs.YtgfbednfiejlfaaGreatDoor.Utf

/-
  Contracts of the page's answers on characters: Encode, size, Decode.
-/
namespace Go.Proofs.YtgfbednfiejlfaaGreatDoor.Utf
open Go.RowKit Go.Proofs.YtgfbednfiejlfaaGreatDoor.Oct Go.Proofs.YtgfbednfiejlfaaGreatDoor.Mem
open Go.Lib (encodeRune encodeRuneZ)

/-- 'string([]byte{..})' of numbers of one octet. -/
theorem conv_new (w : World) (xs : List Int) (hx : ∀ x ∈ xs, 0 ≤ x ∧ x < 256) :
    (convert 59 9 (.slice (some ⟨w.heap.size, 0, none⟩) xs.length xs.length)).run Tryz.prog (w.alloc (.cells (xs.map (Value.int .u8)).toArray 5)) =
      .ok (.string (S (xs.map fun x => x.toNat.toUInt8))) (w.alloc (.cells (xs.map (Value.int .u8)).toArray 5)) := by
  have h := run_convert_bytes_back (P := Tryz.prog) (w.alloc (.cells (xs.map (Value.int .u8)).toArray 5)) 59 9 5 ⟨w.heap.size, 0, none⟩ xs.length (xs.map fun x => x.toNat.toUInt8) Tryz.underlying59 Tryz.underlying5 Tryz.underlying9 (fun j hj => by
    have hj' : j < xs.length := by simpa using hj
    have hb := hx xs[j] (List.getElem_mem _)
    rw [Addr.add_lit, Nat.zero_add]
    have e : (w.alloc (.cells (xs.map (Value.int .u8)).toArray 5)).cell? ⟨w.heap.size, j, none⟩ = some (Value.int .u8 xs[j]) := by
      unfold World.cell?
      rw [World.alloc_heap_new]
      simp [hj']
    rw [e]
    simp
    omega)
  simpa using h

theorem rencode_no (c : Int) (w : World) (h : charB c = false) :
    Calls Tryz.prog 88 #[.int .i64 c] w fun e w' => e = .returned (.tuple #[.string ⟨#[]⟩, .int .i64 4]) ∧ Kept w w' := by
  have hch : ¬ isChar c := of_decide_eq_false h
  have hcase : c < 0 ∨ 1114111 < c ∨ (55296 ≤ c ∧ c ≤ 57343) := by unfold isChar at hch; omega
  clear h hch
  rcases hcase with hc | hc | ⟨hc1, hc2⟩
  · go_enter Tryz.func88, Tryz.ntmps88
    go_wp2
    go_ret2
    exact ⟨rfl, Below.refl _ _⟩
  · have d0 : decide (c < 0) = false := by simp; omega
    go_enter Tryz.func88, Tryz.ntmps88
    go_wp2
    go_ret2
    exact ⟨rfl, Below.refl _ _⟩
  · have d0 : decide (c < 0) = false := by simp; omega
    have d1 : decide (1114111 < c) = false := by simp; omega
    go_enter Tryz.func88, Tryz.ntmps88
    go_wp2
    go_ret2
    exact ⟨rfl, Below.refl _ _⟩

set_option maxHeartbeats 2000000 in
theorem rencode_yes (c : Int) (w : World) (h : charB c = true) :
    Calls Tryz.prog 88 #[.int .i64 c] w fun e w' => e = .returned (.tuple #[.string (S (encodeRune c)), .int .i64 0]) ∧ Kept w w' := by
  have hch : isChar c := of_decide_eq_true h
  have h0 : 0 ≤ c := by unfold isChar at hch; omega
  have h1 : c ≤ 1114111 := by unfold isChar at hch; omega
  have hsur : c < 55296 ∨ 57343 < c := by unfold isChar at hch; omega
  have d0 : decide (c < 0) = false := by simp; omega
  have d1 : decide (1114111 < c) = false := by simp; omega
  have hb := Lib.encodeRuneZ_byte c
  have hcv := conv_new w (encodeRuneZ c) hb
  have he : S ((encodeRuneZ c).map fun x => x.toNat.toUInt8) = S (encodeRune c) := rfl
  rw [he] at hcv
  clear hch h hb he
  by_cases k1 : c < 128
  · rw [Lib.encodeRuneZ_one h0 (by omega)] at hcv
    simp only [List.map_cons, List.map_nil, List.length_cons, List.length_nil, Nat.zero_add] at hcv
    have d2 : decide (55296 ≤ c) = false := by simp; omega
    clear hsur
    go_enter Tryz.func88, Tryz.ntmps88
    go_wp2
    go_ret2
    exact ⟨rfl, (Below.refl _ w).alloc (Nat.le_refl _) _⟩
  · have e1 : decide (c < 128) = false := by simp; omega
    by_cases k2 : c < 2048
    · rw [Lib.encodeRuneZ_two (by omega) (by omega)] at hcv
      simp only [List.map_cons, List.map_nil, List.length_cons, List.length_nil, Nat.zero_add, Nat.reduceAdd] at hcv
      have d2 : decide (55296 ≤ c) = false := by simp; omega
      clear hsur
      go_enter Tryz.func88, Tryz.ntmps88
      go_wp2
      go_ret2
      exact ⟨rfl, (Below.refl _ w).alloc (Nat.le_refl _) _⟩
    · have e2 : decide (c < 2048) = false := by simp; omega
      by_cases k3 : c < 65536
      · rw [Lib.encodeRuneZ_three (by omega)] at hcv
        simp only [List.map_cons, List.map_nil, List.length_cons, List.length_nil, Nat.zero_add, Nat.reduceAdd] at hcv
        rcases hsur with hs | hs
        · have d2 : decide (55296 ≤ c) = false := by simp; omega
          go_enter Tryz.func88, Tryz.ntmps88
          go_wp2
          go_ret2
          exact ⟨rfl, (Below.refl _ w).alloc (Nat.le_refl _) _⟩
        · have d2 : (55296 : Int) ≤ c := by omega
          have d3 : decide (c ≤ 57343) = false := by simp; omega
          go_enter Tryz.func88, Tryz.ntmps88
          go_wp2
          go_ret2
          exact ⟨rfl, (Below.refl _ w).alloc (Nat.le_refl _) _⟩
      · have e3 : decide (c < 65536) = false := by simp; omega
        rw [Lib.encodeRuneZ_four (by omega) (by omega)] at hcv
        simp only [List.map_cons, List.map_nil, List.length_cons, List.length_nil, Nat.zero_add, Nat.reduceAdd] at hcv
        have d2 : (55296 : Int) ≤ c := by omega
        have d3 : decide (c ≤ 57343) = false := by simp; omega
        clear hsur
        go_enter Tryz.func88, Tryz.ntmps88
        go_wp2
        go_ret2
        exact ⟨rfl, (Below.refl _ w).alloc (Nat.le_refl _) _⟩

/-- What the page's Encode answers. -/
def encS (c : Int) : ByteArray := if charB c then S (encodeRune c) else ⟨#[]⟩
def encE (c : Int) : Int := if charB c then 0 else 4
theorem rencode_c (c : Int) (w : World) :
    Calls Tryz.prog 88 #[.int .i64 c] w fun e w' => e = .returned (.tuple #[.string (encS c), .int .i64 (encE c)]) ∧ Kept w w' := by
  cases h : charB c with
  | true => unfold encS encE; rw [h]; exact rencode_yes c w h
  | false => unfold encS encE; rw [h]; exact rencode_no c w h

def sizeI (n : Int) : Int := if n < 128 then 1 else if 194 ≤ n ∧ n < 224 then 2 else if 224 ≤ n ∧ n < 240 then 3 else if 240 ≤ n ∧ n < 245 then 4 else 0
theorem sizeI_eq (n : Nat) : sizeI (n : Int) = (sizeN n : Nat) := by
  unfold sizeI sizeN
  repeat' split
  all_goals first | rfl | omega
theorem rsize_c (n : Int) (w : World) (h0 : 0 ≤ n) (h1 : n ≤ 255) :
    Calls Tryz.prog 87 #[.int .u8 n] w fun e w' => e = .returned (.int .i64 (sizeI n)) ∧ w = w' := by
  go_enter Tryz.func87, Tryz.ntmps87
  go_wp2
  all_goals go_ret
  all_goals (refine ⟨ret_int ?_, rfl⟩; unfold sizeI; repeat' split)
  all_goals first | rfl | omega
end Go.Proofs.YtgfbednfiejlfaaGreatDoor.Utf
