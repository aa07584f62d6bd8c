/-
  Part 25: RdCatch, RdCaught, RdAll.
-/
import Derived.Test.YtganmmkdcaphfaaGreatDoorJsBaseP3
import Derived.Defers
import Derived.Recover
import Derived.Test.YtganmmkdcaphfaaGreatDoorJsBaseP24
/-
  Contracts of faults.Caught at one of its instances, over whatever closure is handed in.
-/
namespace Go.Proofs.YtganmmkdcaphfaaGreatDoor.Rd
open Go.RowKit Go.Proofs.YtganmmkdcaphfaaGreatDoor.Oct

theorem assert_fault (x : Value) (xT : TypeId) (w : World) : (Instr.typeAssert (.iface 65 x) xT 65 true).run Tryz.prog w = .ok (.tuple #[x, .bool true]) w := by kernel_rfl
theorem assert_nil (xT : TypeId) (w : World) : (Instr.typeAssert .nilIface xT 65 true).run Tryz.prog w = .ok (.tuple #[.agg #[.int .i64 0], .bool false]) w := by kernel_rfl

set_option maxHeartbeats 4000000 in
set_option maxRecDepth 100000 in
theorem catch_none (r : Nat) (w : World) :
    CallsD Tryz.prog 55 #[.pointer (some ⟨r, 0, none⟩)] .returning w fun e u' w' =>
      e = .returned (.tuple #[]) ∧ u' = .returning ∧ Below w.heap.size w w' := by
  have hta := assert_nil
  refine callsD_of_wpS Tryz.func55 rfl fun c₀ cs hu => ?_
  apply wpS_seq
  apply wpS_region
  simp [wpOpsS, go_sem, recoverD, hu, Tryz.ntmps55, Exit.thenS]
  refine wpS_of_wp ?_
  simp only [List.replicate, Array.replicate, List.setIfInBounds_toArray, List.set_cons_succ, List.set_cons_zero, List.append_toArray, List.cons_append, List.nil_append]
  go_wp2_with fail
  simp only [bodyPostS]
  exact ⟨trivial, .returning, by cases c₀; simp_all, .tuple #[], by simp [results, Tryz.results55], rfl, rfl, (Below.refl _ w).alloc (Nat.le_refl _) _⟩

set_option maxHeartbeats 400000 in
set_option maxRecDepth 100000 in
theorem catch_fault (r : Nat) (n x : Int) (w : World) (hx : w.cell? ⟨r, 0, none⟩ = some (.int .i64 x)) (hz : w.frozen? ⟨r, 0, none⟩ = false) (hr : r < w.heap.size) :
    CallsD Tryz.prog 55 #[.pointer (some ⟨r, 0, none⟩)] (.panicking [{ v := faultV n, recovered := false }]) w fun e u' w' =>
      e = .returned (.tuple #[]) ∧ u' = .panicking [{ v := faultV n, recovered := true }] ∧ w' = (w.setCell ⟨r, 0, none⟩ (.int .i64 n)).alloc (.cells #[.int .i64 n] 65) := by
  have hb := (Below.refl w.heap.size w).alloc (Nat.le_refl _) (.cells #[.int .i64 n] 65)
  have hx1 := (hb.cell (p := ⟨r, 0, none⟩) hr).trans hx
  have hz1 := (hb.frozen (p := ⟨r, 0, none⟩) hr).trans hz
  have hnc : (w.alloc (.cells #[.int .i64 n] 65)).cell? ⟨w.heap.size, 0, none⟩ = some (.int .i64 n) := cell_of_row _ w.heap.size 0 _ _ _ (heap_alloc_new w _)
  clear hb
  have hta := assert_fault (.agg #[.int .i64 n])
  refine callsD_of_wpS Tryz.func55 rfl fun c₀ cs hu => ?_
  replace hu : c₀.mode = .panicking [{ v := .iface 65 (.agg #[.int .i64 n]), recovered := false }] := hu
  apply wpS_seq
  apply wpS_region
  simp [wpOpsS, go_sem, recoverD, hu, Tryz.ntmps55, Exit.thenS]
  refine wpS_of_wp ?_
  simp only [List.replicate, Array.replicate, List.setIfInBounds_toArray, List.set_cons_succ, List.set_cons_zero, List.append_toArray, List.cons_append, List.nil_append]
  go_wp2_with fail
  show bodyPostS _ _ _ _ _ _ _ _ _
  simp only [bodyPostS]
  exact ⟨trivial, .panicking [{ v := faultV n, recovered := true }], by cases c₀; simp_all, .tuple #[], by simp [results, Tryz.results55], rfl, rfl, (by first | trivial | rfl)⟩

end Go.Proofs.YtganmmkdcaphfaaGreatDoor.Rd

/-
  Contract of caught, over Read's closure.
-/
namespace Go.Proofs.YtganmmkdcaphfaaGreatDoor.Rd
open Go.RowKit Go.Proofs.YtganmmkdcaphfaaGreatDoor.Oct Go.Proofs.YtganmmkdcaphfaaGreatDoor.Val

/-- What caught leaves. -/
def CaughtTo (w : World) (s : List UInt8) (en : Ending) (w' : World) : Prop :=
  Below w.heap.size w w' ∧
  ((en = .returned (.tuple #[.agg #[.int .i64 0, .int .i64 0, .string ⟨#[]⟩, .slice none 0 0, .slice none 0 0], .int .i64 33]) ∧ (Leads (.loop s [] 0) .bad ∨ ∃ x t d, Leads (.loop s [] 0) (.done x t d) ∧ t ≠ [])) ∨
   (en = .returned (.tuple #[.agg #[.int .i64 0, .int .i64 0, .string ⟨#[]⟩, .slice none 0 0, .slice none 0 0], .int .i64 42]) ∧ ∃ x d, Leads (.loop s [] 0) (.done x [] d) ∧ 16 < d) ∨
   ∃ e x d, en = .returned (.tuple #[agg5 e, .int .i64 0]) ∧ Leads (.loop s [] 0) (.done x [] d) ∧ d ≤ 16 ∧ Holds (Mine w.heap.size w') w' (agg5 e) x)

/-- Both results are laid. -/
theorem laid_fin {w W1 : World} (hb : Below w.heap.size w W1) {n y : Int} {u0 u1 u2 u3 u4 : Value} (hbx : Bx W1 w.heap.size u0 u1 u2 u3 u4) (hx : W1.heap[w.heap.size + 1]? = some (.cells #[.int .i64 y] 38 (0, 0))) (v0 v1 v2 v3 v4 : Value) (Z : World)
    (hZ : Below ((st5 W1 w.heap.size v0 v1 v2 v3 v4).setCell ⟨w.heap.size + 1, 0, none⟩ (.int .i64 n)).heap.size ((st5 W1 w.heap.size v0 v1 v2 v3 v4).setCell ⟨w.heap.size + 1, 0, none⟩ (.int .i64 n)) Z) :
    Below w.heap.size w Z ∧ Bx Z w.heap.size v0 v1 v2 v3 v4 ∧ Z.cell? ⟨w.heap.size + 1, 0, none⟩ = some (.int .i64 n) ∧ ∀ b, w.heap.size + 2 ≤ b → b < W1.heap.size → Z.heap[b]? = W1.heap[b]? := by
  have h1 := hbx.st5 v0 v1 v2 v3 v4
  have h2 : (st5 W1 w.heap.size v0 v1 v2 v3 v4).heap[w.heap.size + 1]? = some (.cells #[.int .i64 y] 38 (0, 0)) := by
    rw [st5_other _ _ _ _ _ _ (by omega)]; exact hx
  have h3 := heap_setCell_same _ (w.heap.size + 1) 0 _ _ (.int .i64 n) h2
  have hlt : w.heap.size + 1 < W1.heap.size := (Array.getElem?_eq_some_iff.1 hx).1
  have h4 : Below (w.heap.size + 1) (st5 W1 w.heap.size v0 v1 v2 v3 v4) ((st5 W1 w.heap.size v0 v1 v2 v3 v4).setCell ⟨w.heap.size + 1, 0, none⟩ (.int .i64 n)) :=
    (Below.refl _ _).setCell (p := ⟨w.heap.size + 1, 0, none⟩) (Nat.le_refl _) _
  have h6 : ∀ b, w.heap.size + 2 ≤ b → ((st5 W1 w.heap.size v0 v1 v2 v3 v4).setCell ⟨w.heap.size + 1, 0, none⟩ (.int .i64 n)).heap[b]? = W1.heap[b]? := fun b hb => by
    rw [Below.heap_setCell _ _ _ _ (by simp only; omega), st5_other _ _ _ _ _ _ (by omega)]
  have hsz : ((st5 W1 w.heap.size v0 v1 v2 v3 v4).setCell ⟨w.heap.size + 1, 0, none⟩ (.int .i64 n)).heap.size = W1.heap.size := by
    have e1 : ((st5 W1 w.heap.size v0 v1 v2 v3 v4).setCell ⟨w.heap.size + 1, 0, none⟩ (.int .i64 n)).heap.size = (st5 W1 w.heap.size v0 v1 v2 v3 v4).heap.size := by simp [World.setCell]
    rw [e1, st5_size]
  generalize hV : (st5 W1 w.heap.size v0 v1 v2 v3 v4).setCell ⟨w.heap.size + 1, 0, none⟩ (.int .i64 n) = V at *
  refine ⟨?_, ?_, ?_, ?_⟩
  · exact ((st5_below hb (Nat.le_refl _) v0 v1 v2 v3 v4).trans (h4.mono (by omega))).trans (hZ.mono (by omega))
  · unfold Bx
    rw [hZ.block _ (by omega), h4.block _ (by omega)]
    exact h1
  · exact cell_of_row _ (w.heap.size + 1) 0 _ _ _ ((hZ.block _ (by omega)).trans h3)
  · exact fun b hb1 hb2 => (hZ.block b (by omega)).trans (h6 b hb1)

theorem fault_fin {w W1 : World} (hb : Below w.heap.size w W1) {n y : Int} {u0 u1 u2 u3 u4 : Value} (hbx : Bx W1 w.heap.size u0 u1 u2 u3 u4) (hx : W1.heap[w.heap.size + 1]? = some (.cells #[.int .i64 y] 38 (0, 0))) (Z : World)
    (hZ : Z = (W1.setCell ⟨w.heap.size + 1, 0, none⟩ (.int .i64 n)).alloc (.cells #[.int .i64 n] 65)) :
    Below w.heap.size w Z ∧ Bx Z w.heap.size u0 u1 u2 u3 u4 ∧ Z.cell? ⟨w.heap.size + 1, 0, none⟩ = some (.int .i64 n) := by
  have hlt : w.heap.size + 1 < W1.heap.size := (Array.getElem?_eq_some_iff.1 hx).1
  have h3 := heap_setCell_same W1 (w.heap.size + 1) 0 _ _ (.int .i64 n) hx
  have h0 : (W1.setCell ⟨w.heap.size + 1, 0, none⟩ (.int .i64 n)).heap[w.heap.size]? = W1.heap[w.heap.size]? := heap_setCell_other _ _ _ _ (by simp)
  have hs : (W1.setCell ⟨w.heap.size + 1, 0, none⟩ (.int .i64 n)).heap.size = W1.heap.size := by simp [World.setCell]
  have hB : Below w.heap.size w (W1.setCell ⟨w.heap.size + 1, 0, none⟩ (.int .i64 n)) := hb.setCell (p := ⟨w.heap.size + 1, 0, none⟩) (Nat.le_succ _) _
  generalize W1.setCell ⟨w.heap.size + 1, 0, none⟩ (.int .i64 n) = V at *
  have ha : Below V.heap.size V Z := by rw [hZ]; exact (Below.refl _ V).alloc (Nat.le_refl _) _
  refine ⟨hB.trans (ha.mono (by omega)), ?_, cell_of_row Z (w.heap.size + 1) 0 _ _ _ ((ha.block _ (by omega)).trans h3)⟩
  unfold Bx
  rw [ha.block _ (by omega), h0]
  exact hbx

set_option maxHeartbeats 400000 in
set_option maxRecDepth 100000 in
theorem caught_c (w : World) (sb : Nat) (s : List UInt8) (hs : w.cell? ⟨sb, 0, none⟩ = some (.string (S s))) (hlt : sb < w.heap.size) (hl : s.length ≤ 274877906944) (hT : TabN w.heap.size w) :
    Calls Tryz.prog 37 #[.func (.func 38) #[] #[.pointer (some ⟨sb, 0, none⟩)]] w (CaughtTo w s) := by
  have hmf : ∀ (fn : Fn) (first cap : Array Value) (w : World), (Instr.makeFunc fn first cap).run Tryz.prog w = .ok (.func fn first cap) w := fun _ _ _ _ => rfl
  obtain ⟨w2, hw2⟩ : ∃ w2, w2 = (zBox w).alloc (.cells #[.int .i64 0] 38) := ⟨_, rfl⟩
  have hz1 : (zBox w).heap.size = w.heap.size + 1 := Array.size_push _
  have hz2 : w2.heap.size = w.heap.size + 2 := by rw [hw2]; exact (Array.size_push _).trans (congrArg (· + 1) (Array.size_push _))
  have hb1 : Below w.heap.size w (zBox w) := (Below.refl _ w).alloc (Nat.le_refl _) _
  have hb2 : Below w.heap.size w w2 := by rw [hw2]; exact hb1.alloc hb1.size _
  have hbx : Bx w2 w.heap.size (.int .i64 0) (.int .i64 0) (.string ⟨#[]⟩) (.slice none 0 0) (.slice none 0 0) :=
    (Bx.new w (.int .i64 0) (.int .i64 0) (.string ⟨#[]⟩) (.slice none 0 0) (.slice none 0 0)).keep (W' := w2) (by rw [hw2]; exact (Below.refl _ (zBox w)).alloc (Nat.le_refl _) _)
  have hx : w2.heap[w.heap.size + 1]? = some (.cells #[.int .i64 0] 38 (0, 0)) := by
    have h1 := heap_alloc_new (zBox w) (.cells #[.int .i64 0] 38)
    rw [hz1, ← hw2] at h1
    exact h1
  have hc := read1_c w2 sb s ((hb2.cell (p := ⟨sb, 0, none⟩) hlt).trans hs) (by omega) hl (fun X hX => hT X (hb2.trans (hX.mono (by omega))))
  have HB := Lib.hid (And.intro hb2 (And.intro hbx (And.intro hx hz2)))
  rw [hw2] at hc
  clear hb1 hb2 hbx hx hz1 hz2
  go_enter_defers Tryz.func37, Tryz.ntmps37
  go_wp2_with fail
  refine hc.mono ?_
  clear hc
  rintro e1 W1 ⟨hb, h⟩
  rw [← hw2, HB.out.2.2.2] at hb
  have bx1 : Bx W1 w.heap.size (.int .i64 0) (.int .i64 0) (.string ⟨#[]⟩) (.slice none 0 0) (.slice none 0 0) := by unfold Bx; rw [hb.block _ (by omega)]; exact HB.out.2.1
  have x1 : W1.heap[w.heap.size + 1]? = some (.cells #[.int .i64 0] 38 (0, 0)) := by rw [hb.block _ (by omega)]; exact HB.out.2.2.1
  have hbw : Below w.heap.size w W1 := HB.out.1.trans (hb.mono (by omega))
  have hxc := cell_of_row W1 (w.heap.size + 1) 0 _ _ _ x1
  have hxz := frozen_of_row W1 (w.heap.size + 1) 0 _ _ x1
  have hxl : w.heap.size + 1 < W1.heap.size := (Array.getElem?_eq_some_iff.1 x1).1
  have flt : ∀ n, CallsD Tryz.prog 55 #[.pointer (some ⟨w.heap.size + 1, 0, none⟩)] (.panicking [{ v := faultV n, recovered := false }]) W1 _ := fun n => catch_fault (w.heap.size + 1) n 0 W1 hxc hxz hxl
  rcases h with ⟨rfl, h⟩ | ⟨rfl, h⟩ | ⟨⟨v0, v1, v2, v3, v4⟩, x, d, rfl, h1, h2, h3⟩
  · refine leaves_cons (f := 55) (args := #[.pointer (some ⟨w.heap.size + 1, 0, none⟩)]) (by simp) (by simp [go_sem]) ?_
    refine (flt 33).mono ?_
    rintro e u' w'' ⟨rfl, rfl, hw''⟩
    obtain ⟨f1, f2, f3⟩ := fault_fin hbw bx1 x1 w'' hw''
    obtain ⟨g0, g1, g2, g3, g4⟩ := f2.five
    clear hw''
    simp [Leaves, settle, results, Tryz.results37, go_sem, g0, g1, g2, g3, g4, f3]
    exact ⟨f1, .inl ⟨rfl, h⟩⟩
  · refine leaves_cons (f := 55) (args := #[.pointer (some ⟨w.heap.size + 1, 0, none⟩)]) (by simp) (by simp [go_sem]) ?_
    refine (flt 42).mono ?_
    rintro e u' w'' ⟨rfl, rfl, hw''⟩
    obtain ⟨f1, f2, f3⟩ := fault_fin hbw bx1 x1 w'' hw''
    obtain ⟨g0, g1, g2, g3, g4⟩ := f2.five
    clear hw''
    simp [Leaves, settle, results, Tryz.results37, go_sem, g0, g1, g2, g3, g4, f3]
    exact ⟨f1, .inr (.inl ⟨rfl, h⟩)⟩
  · obtain ⟨l0, l1, l2, lp, la, lb, lq, lr, ld, rfl, rfl, rfl, rfl, rfl⟩ := holds_parts h3
    obtain ⟨t0, t1, t2, t3, t4⟩ := bx1.froz
    obtain ⟨g0, g1, g2, g3, g4⟩ := bx1.five
    have hne : w.heap.size + 1 ≠ w.heap.size := by omega
    have hne2 := Ne.symm hne
    have HH := Lib.hid (And.intro h1 (And.intro h2 (And.intro h3 (And.intro hbw (And.intro bx1 x1)))))
    clear h1 h2 h3 hbw bx1 x1 hb flt
    go_wp2_with fail
    refine leaves_cons (f := 55) (args := #[.pointer (some ⟨w.heap.size + 1, 0, none⟩)]) (by simp) (by simp [go_sem]) ?_
    refine (catch_none (w.heap.size + 1) _).mono ?_
    rintro e u' w'' ⟨rfl, rfl, hw''⟩
    obtain ⟨f1, f2, f3, f4⟩ := laid_fin HH.out.2.2.2.1 HH.out.2.2.2.2.1 HH.out.2.2.2.2.2 (.int .i64 l0) (.int .i64 l1) (.string l2) (.slice lp la lb) (.slice lq lr ld) w'' hw''
    obtain ⟨g0, g1, g2, g3, g4⟩ := f2.five
    clear hw''
    simp [Leaves, settle, results, Tryz.results37, go_sem, g0, g1, g2, g3, g4, f3]
    obtain ⟨h1, h2, h3, _⟩ := HH.out
    rw [← hw2, HB.out.2.2.2] at h3
    refine ⟨f1, .inr (.inr ⟨(.int .i64 l0, .int .i64 l1, .string l2, .slice lp la lb, .slice lq lr ld), x, d, rfl, h1, h2, h3.frame (fun _ b _ _ hd => f4 b hd.1 hd.lt) fun t b off n hd => ?_⟩)⟩
    have hlt := hd.lt
    obtain ⟨h5, h6, cur, h7⟩ := hd
    exact ⟨by omega, h6, cur, by rw [f4 b h5 hlt]; exact h7⟩
end Go.Proofs.YtganmmkdcaphfaaGreatDoor.Rd

/-
  Contract of Read.
-/
namespace Go.Proofs.YtganmmkdcaphfaaGreatDoor.Rd
open Go.RowKit Go.Proofs.YtganmmkdcaphfaaGreatDoor.Oct Go.Proofs.YtganmmkdcaphfaaGreatDoor.Val

/-- What Read leaves. -/
def ReadTo (w : World) (s : List UInt8) (en : Ending) (w' : World) : Prop :=
  Below w.heap.size w w' ∧
  ((en = .returned (.tuple #[.agg #[.int .i64 0, .int .i64 0, .string ⟨#[]⟩, .slice none 0 0, .slice none 0 0], .int .i64 0, .int .i64 33]) ∧ (Leads (.loop s [] 0) .bad ∨ ∃ x t d, Leads (.loop s [] 0) (.done x t d) ∧ t ≠ [])) ∨
   (en = .returned (.tuple #[.agg #[.int .i64 0, .int .i64 0, .string ⟨#[]⟩, .slice none 0 0, .slice none 0 0], .int .i64 0, .int .i64 42]) ∧ ∃ x d, Leads (.loop s [] 0) (.done x [] d) ∧ 16 < d) ∨
   ∃ e x d, en = .returned (.tuple #[agg5 e, .int .i64 s.length, .int .i64 0]) ∧ Leads (.loop s [] 0) (.done x [] d) ∧ d ≤ 16 ∧ Holds (Mine w.heap.size w') w' (agg5 e) x)

theorem read_fin {w W1 V : World} {x : Val.V} {v0 v1 v2 v3 v4 : Value} (h4 : Below w.heap.size w V) (h6 : Below W1.heap.size W1 V) (h3 : Holds (Mine (w.heap.size + 2) W1) W1 (.agg #[v0, v1, v2, v3, v4]) x) (Z : World)
    (hZ : Z = (st5 V (w.heap.size + 1) v0 v1 v2 v3 v4).drew) : Below w.heap.size w Z ∧ Holds (Mine w.heap.size Z) Z (.agg #[v0, v1, v2, v3, v4]) x := by
  have key : ∀ b, w.heap.size + 2 ≤ b → b < W1.heap.size → Z.heap[b]? = W1.heap[b]? := fun b hb hb2 => by
    have e : Z.heap[b]? = (st5 V (w.heap.size + 1) v0 v1 v2 v3 v4).heap[b]? := by rw [hZ]; rfl
    rw [e, st5_other _ _ _ _ _ _ (by omega)]
    exact h6.block b hb2
  refine ⟨by rw [hZ]; exact (st5_below h4 (Nat.le_succ _) _ _ _ _ _).drew, h3.frame (fun _ b _ _ hd => key b hd.1 hd.lt) fun t b off n hd => ?_⟩
  have hlt := hd.lt
  obtain ⟨h7, h8, cur, h9⟩ := hd
  exact ⟨by omega, h8, cur, by rw [key b h7 hlt]; exact h9⟩

set_option maxHeartbeats 4000000 in
set_option maxRecDepth 100000 in
theorem read_c (w : World) (s : List UInt8) (hl : s.length ≤ 274877906944) (hT : TabN w.heap.size w) :
    Calls Tryz.prog 21 #[.string (S s)] w (ReadTo w s) := by
  obtain ⟨w1, hw1⟩ : ∃ w1, w1 = w.alloc (.cells #[.string (S s)] 9) := ⟨_, rfl⟩
  obtain ⟨w2, hw2⟩ : ∃ w2, w2 = w1.alloc (.cells #[.int .i64 0, .int .i64 0, .string ⟨#[]⟩, .slice none 0 0, .slice none 0 0] 25) := ⟨_, rfl⟩
  have hz1 : w1.heap.size = w.heap.size + 1 := by rw [hw1]; exact Array.size_push _
  have hz2 : w2.heap.size = w.heap.size + 2 := by rw [hw2]; exact (Array.size_push _).trans (congrArg (· + 1) hz1)
  have hb1 : Below w.heap.size w w1 := by rw [hw1]; exact (Below.refl _ w).alloc (Nat.le_refl _) _
  have hb12 : Below w1.heap.size w1 w2 := by rw [hw2]; exact (Below.refl _ w1).alloc (Nat.le_refl _) _
  have hs1 : w1.cell? ⟨w.heap.size, 0, none⟩ = some (.string (S s)) := by rw [hw1]; exact cell_of_row _ w.heap.size 0 _ _ _ (heap_alloc_new w _)
  have hs2 : w2.cell? ⟨w.heap.size, 0, none⟩ = some (.string (S s)) := (hb12.cell (p := ⟨w.heap.size, 0, none⟩) (by rw [hz1]; exact Nat.lt_succ_self _)).trans hs1
  have hbx : Bx w2 (w.heap.size + 1) (.int .i64 0) (.int .i64 0) (.string ⟨#[]⟩) (.slice none 0 0) (.slice none 0 0) := by
    have h1 := Bx.new w1 (.int .i64 0) (.int .i64 0) (.string ⟨#[]⟩) (.slice none 0 0) (.slice none 0 0)
    rw [← hw2, hz1] at h1
    exact h1
  have hb2 : Below w.heap.size w w2 := hb1.trans (hb12.mono (by omega))
  have hc := caught_c w2 w.heap.size s hs2 (by omega) hl (fun X hX => hT X (hb2.trans (hX.mono (by omega))))
  have HB := Lib.hid (And.intro hb2 (And.intro hbx (And.intro hs2 hz2)))
  rw [hw2, hw1] at hc
  have hw3 : w2 = (w.alloc (.cells #[.string (S s)] 9)).alloc (.cells #[.int .i64 0, .int .i64 0, .string ⟨#[]⟩, .slice none 0 0, .slice none 0 0] 25) := by rw [hw2, hw1]
  clear hw1 hw2 hb1 hb2 hb12 hbx hs1 hs2 hz1 hz2
  go_enter Tryz.func21, Tryz.ntmps21
  go_wp2_with fail
  refine hc.mono ?_
  clear hc
  rintro e1 W1 ⟨hb, h⟩
  rw [← hw3, HB.out.2.2.2] at hb
  have bx1 : Bx W1 (w.heap.size + 1) (.int .i64 0) (.int .i64 0) (.string ⟨#[]⟩) (.slice none 0 0) (.slice none 0 0) := by unfold Bx; rw [hb.block _ (by omega)]; exact HB.out.2.1
  have hsc : W1.cell? ⟨w.heap.size, 0, none⟩ = some (.string (S s)) := (hb.cell (p := ⟨w.heap.size, 0, none⟩) (by show w.heap.size < _; omega)).trans HB.out.2.2.1
  have hbw : Below w.heap.size w W1 := HB.out.1.trans (hb.mono (by omega))
  rcases h with ⟨rfl, h⟩ | ⟨rfl, h⟩ | ⟨⟨v0, v1, v2, v3, v4⟩, x, d, rfl, h1, h2, h3⟩
  · have ba := (Below.refl W1.heap.size W1).alloc (Nat.le_refl _) (.cells #[.int .i64 0, .int .i64 0, .string ⟨#[]⟩, .slice none 0 0, .slice none 0 0] 25)
    have bx2 := bx1.keep ba
    have hs3 := (ba.cell (p := ⟨w.heap.size, 0, none⟩) (by have := bx1.lt; show w.heap.size < _; omega)).trans hsc
    obtain ⟨t0, t1, t2, t3, t4⟩ := bx2.froz
    obtain ⟨g0, g1, g2, g3, g4⟩ := bx2.five
    obtain ⟨y0, y1, y2, y3, y4⟩ := (Bx.new W1 (.int .i64 0) (.int .i64 0) (.string ⟨#[]⟩) (.slice none 0 0) (.slice none 0 0)).five
    have hsz := bx1.lt
    have hlow := hbw.alloc (by omega) (.cells #[.int .i64 0, .int .i64 0, .string ⟨#[]⟩, .slice none 0 0, .slice none 0 0] 25)
    have HH := Lib.hid (And.intro h (And.intro hlow bx2))
    clear h hbw hb bx1 bx2 ba hsz hlow
    go_wp2_with fail
    refine bodyPost_ret (v := .tuple #[.agg #[.int .i64 0, .int .i64 0, .string ⟨#[]⟩, .slice none 0 0, .slice none 0 0], .int .i64 0, .int .i64 33]) (by simp [results, Tryz.results21, go_sem, g0, g1, g2, g3, g4]) rfl ?_
    have fin := fun Z (hZ : Z = st5 _ (w.heap.size + 1) (.int .i64 0) (.int .i64 0) (.string ⟨#[]⟩) (.slice none 0 0) (.slice none 0 0)) => (hZ ▸ st5_below HH.out.2.1 (Nat.le_succ _) (.int .i64 0) (.int .i64 0) (.string ⟨#[]⟩) (.slice none 0 0) (.slice none 0 0) : Below w.heap.size w Z)
    exact ⟨fin _ rfl, .inl ⟨rfl, HH.out.1⟩⟩
  · have ba := (Below.refl W1.heap.size W1).alloc (Nat.le_refl _) (.cells #[.int .i64 0, .int .i64 0, .string ⟨#[]⟩, .slice none 0 0, .slice none 0 0] 25)
    have bx2 := bx1.keep ba
    have hs3 := (ba.cell (p := ⟨w.heap.size, 0, none⟩) (by have := bx1.lt; show w.heap.size < _; omega)).trans hsc
    obtain ⟨t0, t1, t2, t3, t4⟩ := bx2.froz
    obtain ⟨g0, g1, g2, g3, g4⟩ := bx2.five
    obtain ⟨y0, y1, y2, y3, y4⟩ := (Bx.new W1 (.int .i64 0) (.int .i64 0) (.string ⟨#[]⟩) (.slice none 0 0) (.slice none 0 0)).five
    have hsz := bx1.lt
    have hlow := hbw.alloc (by omega) (.cells #[.int .i64 0, .int .i64 0, .string ⟨#[]⟩, .slice none 0 0, .slice none 0 0] 25)
    have HH := Lib.hid (And.intro h (And.intro hlow bx2))
    clear h hbw hb bx1 bx2 ba hsz hlow
    go_wp2_with fail
    refine bodyPost_ret (v := .tuple #[.agg #[.int .i64 0, .int .i64 0, .string ⟨#[]⟩, .slice none 0 0, .slice none 0 0], .int .i64 0, .int .i64 42]) (by simp [results, Tryz.results21, go_sem, g0, g1, g2, g3, g4]) rfl ?_
    have fin := fun Z (hZ : Z = st5 _ (w.heap.size + 1) (.int .i64 0) (.int .i64 0) (.string ⟨#[]⟩) (.slice none 0 0) (.slice none 0 0)) => (hZ ▸ st5_below HH.out.2.1 (Nat.le_succ _) (.int .i64 0) (.int .i64 0) (.string ⟨#[]⟩) (.slice none 0 0) (.slice none 0 0) : Below w.heap.size w Z)
    exact ⟨fin _ rfl, .inr (.inl ⟨rfl, HH.out.1⟩)⟩
  · obtain ⟨l0, l1, l2, lp, la, lb, lq, lr, ld, rfl, rfl, rfl, rfl, rfl⟩ := holds_parts h3
    have ba := (Below.refl W1.heap.size W1).alloc (Nat.le_refl _) (.cells #[.int .i64 l0, .int .i64 l1, .string l2, .slice lp la lb, .slice lq lr ld] 25)
    have bx2 := bx1.keep ba
    have hs3 := (ba.cell (p := ⟨w.heap.size, 0, none⟩) (by have := bx1.lt; show w.heap.size < _; omega)).trans hsc
    obtain ⟨t0, t1, t2, t3, t4⟩ := bx2.froz
    obtain ⟨g0, g1, g2, g3, g4⟩ := bx2.five
    obtain ⟨y0, y1, y2, y3, y4⟩ := (Bx.new W1 (.int .i64 l0) (.int .i64 l1) (.string l2) (.slice lp la lb) (.slice lq lr ld)).five
    have hsz := bx1.lt
    have hlow := hbw.alloc (by omega) (.cells #[.int .i64 l0, .int .i64 l1, .string l2, .slice lp la lb, .slice lq lr ld] 25)
    have HSZ := Lib.hid hsz
    have HH := Lib.hid (And.intro h1 (And.intro h2 (And.intro h3 (And.intro hlow (And.intro bx2 ba)))))
    clear h1 h2 h3 hbw bx1 bx2 hb ba hsz hlow
    have hne : W1.heap.size ≠ w.heap.size + 1 := by have := HH.out.2.2.2.2.1.lt; have h9 := HSZ.out; omega
    have hne2 := Ne.symm hne
    have hne3 : W1.heap.size ≠ w.heap.size := by have h9 := HSZ.out; omega
    have hne4 := Ne.symm hne3
    have hne5 : w.heap.size ≠ w.heap.size + 1 := by omega
    have hne6 := Ne.symm hne5
    have hsS := size_S s
    go_wp2_with fail
    go_region
    go_wp2_with fail
    refine bodyPost_ret (v := .tuple #[.agg #[.int .i64 l0, .int .i64 l1, .string l2, .slice lp la lb, .slice lq lr ld], .int .i64 s.length, .int .i64 0]) (by simp [results, Tryz.results21, go_sem, g0, g1, g2, g3, g4]) rfl ?_
    obtain ⟨h1, h2, h3, h4, h5, h6⟩ := HH.out
    rw [← hw3, HB.out.2.2.2] at h3
    have fin := fun Z hZ => read_fin h4 h6 h3 Z hZ
    obtain ⟨f1, f2⟩ := fin _ rfl
    exact ⟨f1, .inr (.inr ⟨(.int .i64 l0, .int .i64 l1, .string l2, .slice lp la lb, .slice lq lr ld), x, d, rfl, h1, h2, f2⟩)⟩
end Go.Proofs.YtganmmkdcaphfaaGreatDoor.Rd
