/-
  Part 8: RdWhole, RdRead, RdCatch, RdCaught, RdAll, RdOne, LitAlive, LitOwn, RdLit, TlEach, TlEach2.
-/
import Derived.Test.YtgfbednfiejlfaaGreatDoorLitCutsCardP7
import Derived.Defers
import Derived.Recover
import Derived.Test.YtgfbednfiejlfaaGreatDoorLitCutsCardP1
import Derived.Test.YtgfbednfiejlfaaGreatDoorLitCutsCardP5
import Derived.Test.YtgfbednfiejlfaaGreatDoorLitCutsCardP2
import Derived.Test.YtgfbednfiejlfaaGreatDoorLitCutsCardP6
/-
  Contract of readWhole.
-/
namespace Go.Proofs.YtgfbednfiejlfaaGreatDoor.Rd
open Go.RowKit Go.Proofs.YtgfbednfiejlfaaGreatDoor.Oct Go.Proofs.YtgfbednfiejlfaaGreatDoor.Val

/-- A reader that has read nothing yet. -/
theorem rd_start {N : Nat} {R : Nat} {W : World} {s : List UInt8} (hR : N ≤ R) (h : Rd R (S s) (.slice none 0 0) (.int .i64 0) W) : RdAt N (fun b => if b = R then 2 else 1) W R s [] 0 (.slice none 0 0) [] where
  rd := h
  own := ⟨by simp [flat], .inl ⟨rfl, rfl⟩⟩
  len := rfl
  frs := fun i h => absurd h (by simp)
  rmark := by simp
  omark := fun b hb => by simp [Value.ownBlock] at hb
  out := fun b hb => by have := h.lt; rw [if_neg (by omega)]
  size := by have := h.lt; omega

/-- What readWhole leaves. -/
def WholeTo (w : World) (s : List UInt8) (en : Ending) (w' : World) : Prop :=
  Below w.heap.size w w' ∧
  ((en = Fault 33 ∧ (Leads (.loop s [] 0) .bad ∨ ∃ x t d, Leads (.loop s [] 0) (.done x t d) ∧ t ≠ [])) ∨
   (en = Fault 42 ∧ ∃ x d, Leads (.loop s [] 0) (.done x [] d) ∧ 16 < d) ∨
   ∃ e x d, en = .returned (agg5 e) ∧ Leads (.loop s [] 0) (.done x [] d) ∧ d ≤ 16 ∧ Holds (Mine w.heap.size w') w' (agg5 e) x)

theorem whole_fin {w w0 W1 : World} {R : Nat} {tag tg : Nat → Nat} {s : List UInt8} {d : Nat} {ov : Value} {es : List E5} {x : V} {v0 v1 v2 v3 v4 : Value} (hb0 : Below w.heap.size w w0) (h0 : RdAt w.heap.size tag w0 R s [] d ov es) (hk : Kp tag tg w0 W1) (ht : tg w.heap.size = 1)
    (hh : Holds (Dn w.heap.size tg W1) W1 (.agg #[v0, v1, v2, v3, v4]) x) (Z : World) (hZ : Z = st5 (W1.alloc (.cells #[v0, v1, v2, v3, v4] 26)) w.heap.size v0 v1 v2 v3 v4) : Below w.heap.size w Z ∧ Holds (Mine w.heap.size Z) Z (.agg #[v0, v1, v2, v3, v4]) x := by
  have hl := h0.low hk
  have hlo2 : w.heap.size ≤ W1.heap.size := Nat.le_trans h0.size hk.size
  have ba := (Below.refl W1.heap.size W1).alloc (Nat.le_refl _) (.cells #[v0, v1, v2, v3, v4] 26)
  have key : ∀ b, b < W1.heap.size → tg b = 0 → Z.heap[b]? = W1.heap[b]? := fun b hb h => by
    rw [hZ, st5_other _ v0 v1 v2 v3 v4 (fun e => by rw [e, ht] at h; cases h)]
    exact ba.block b hb
  refine ⟨?_, hh.frame (fun _ b _ _ hd => key b hd.lt hd.2) fun t b off n hd => ?_⟩
  · rw [hZ]
    exact st5_below ((hb0.trans hl).alloc hlo2 _) (Nat.le_refl _) v0 v1 v2 v3 v4
  · have hlt := hd.lt
    obtain ⟨⟨h1, h2, cur, h3⟩, h4⟩ := hd
    exact ⟨h1, h2, cur, by rw [key b hlt h4]; exact h3⟩

set_option maxHeartbeats 4000000 in
set_option maxRecDepth 100000 in
theorem whole_c (w : World) (s : List UInt8) (hl : s.length ≤ 274877906944) (hT : TabN w.heap.size w) :
    Calls Tryz.prog 18 #[.string (S s)] w (WholeTo w s) := by
  obtain ⟨w0, hw0⟩ : ∃ w0, w0 = (zBox w).alloc (.cells #[.string (S s), .slice none 0 0, .int .i64 0] 54) := ⟨_, rfl⟩
  have hs0 : w0.heap.size = w.heap.size + 2 := by rw [hw0]; exact (Array.size_push _).trans (congrArg (· + 1) (Array.size_push _))
  have hb1 : Below w.heap.size w (zBox w) := (Below.refl _ w).alloc (Nat.le_refl _) _
  have hb0 : Below w.heap.size w w0 := by rw [hw0]; exact hb1.alloc hb1.size _
  have hz1 : (zBox w).heap.size = w.heap.size + 1 := Array.size_push _
  have hrd : Rd (w.heap.size + 1) (S s) (.slice none 0 0) (.int .i64 0) w0 := by
    have h1 := heap_alloc_new (zBox w) (.cells #[.string (S s), .slice none 0 0, .int .i64 0] 54)
    rw [hz1, ← hw0] at h1
    exact h1
  have hbx : Bx w0 w.heap.size (.int .i64 0) (.int .i64 0) (.string ⟨#[]⟩) (.slice none 0 0) (.slice none 0 0) := by
    have h1 := (Bx.new w (.int .i64 0) (.int .i64 0) (.string ⟨#[]⟩) (.slice none 0 0) (.slice none 0 0)).keep (W' := w0) (by rw [hw0]; exact (Below.refl _ (zBox w)).alloc (Nat.le_refl _) _)
    exact h1
  have h0 := rd_start (N := w.heap.size) (by omega) hrd
  have hv := value_c _ _ w0 (w.heap.size + 1) s _ _ 0 h0 hl (hT.to hb0)
  have HB := Lib.hid (And.intro h0 (And.intro hb0 (And.intro hbx hs0)))
  rw [hw0] at hv
  clear h0 hb0 hbx hs0 hrd hz1 hb1
  go_enter Tryz.func18, Tryz.ntmps18
  go_wp2_with fail
  refine hv.mono ?_
  clear hv
  rintro e1 W1 (⟨rfl, hb, tg, hk⟩ | ⟨⟨v0, v1, v2, v3, v4⟩, tg, ov', es', x, t, d, rfl, hle, k1, k2, k3⟩)
  · have hlow := HB.out.1.low (hw0 ▸ hk)
    exact ⟨rfl, HB.out.2.1.trans hlow, .inl ⟨rfl, .inl hb⟩⟩
  · obtain ⟨l0, l1, l2, lp, la, lb, lq, lr, ld, rfl, rfl, rfl, rfl, rfl⟩ := holds_parts k3
    have c0 := k1.rd.cell0
    have c2 := k1.rd.cell2
    have hlt := k1.rd.lt
    have hW := fun W (hb : Below W1.heap.size W1 W) => And.intro (k1.keep hb).rd.cell0 (k1.keep hb).rd.cell2
    have HW := Lib.hid hW
    have HK := Lib.hid (And.intro hle (And.intro k1 (And.intro k2 k3)))
    clear hW hle k1 k2 k3
    cases t with
    | cons a t =>
      go_wp2_with fail
      refine (demand_no _ _).mono ?_
      rintro e2 W2 ⟨rfl, rfl⟩
      have hlow := (HB.out.1.low (hw0 ▸ HK.out.2.2.1)).alloc (Nat.le_trans HB.out.1.size (HK.out.2.2.1.size |> (hw0 ▸ ·))) (.cells #[.int .i64 l0, .int .i64 l1, .string l2, .slice lp la lb, .slice lq lr ld] 26)
      exact ⟨rfl, HB.out.2.1.trans hlow, .inl ⟨rfl, .inr ⟨x, _, d, HK.out.1, by simp⟩⟩⟩
    | nil =>
      go_wp2_with fail
      refine (demand_yes _ _).mono ?_
      rintro e2 W2 ⟨rfl, rfl⟩
      have hlow : Below w.heap.size w0 W1 := HB.out.1.low (hw0 ▸ HK.out.2.2.1)
      have hlo2 : w.heap.size ≤ W1.heap.size := Nat.le_trans HB.out.1.size hlow.size
      have hbz := HB.out.2.2.1.kp (hw0 ▸ HK.out.2.2.1) (by rw [if_neg (by omega)])
      have hbb := hbz.1.keep ((Below.refl _ W1).alloc (Nat.le_refl _) (.cells #[.int .i64 l0, .int .i64 l1, .string l2, .slice lp la lb, .slice lq lr ld] 26))
      obtain ⟨t0, t1, t2, t3, t4⟩ := hbb.froz
      obtain ⟨g0, g1, g2, g3, g4⟩ := hbb.five
      obtain ⟨y0, y1, y2, y3, y4⟩ := (Bx.new W1 (.int .i64 l0) (.int .i64 l1) (.string l2) (.slice lp la lb) (.slice lq lr ld)).five
      have HZ := Lib.hid hbz.2
      clear hbz hbb
      by_cases hd : (d : Int) ≤ 16
      · go_wp2_with fail
        refine (demand_yes _ _).mono ?_
        rintro e3 W3 ⟨rfl, rfl⟩
        go_wp2_with fail
        refine bodyPost_ret (v := .agg #[.int .i64 l0, .int .i64 l1, .string l2, .slice lp la lb, .slice lq lr ld]) (by simp [results, Tryz.results18, go_sem, g0, g1, g2, g3, g4]) rfl ?_
        have fin := fun Z hZ => whole_fin HB.out.2.1 HB.out.1 (hw0 ▸ HK.out.2.2.1) HZ.out HK.out.2.2.2 Z hZ
        obtain ⟨f1, f2⟩ := fin _ rfl
        exact ⟨f1, .inr (.inr ⟨(.int .i64 l0, .int .i64 l1, .string l2, .slice lp la lb, .slice lq lr ld), x, d, rfl, HK.out.1, by omega, f2⟩)⟩
      · go_wp2_with fail
        have hde : decide ((d : Int) ≤ 16) = false := decide_eq_false (by omega)
        rw [hde]
        refine (demand_no _ _).mono ?_
        rintro e3 W3 ⟨rfl, rfl⟩
        exact ⟨rfl, HB.out.2.1.trans (hlow.alloc hlo2 _), .inr (.inl ⟨rfl, x, d, HK.out.1, by omega⟩)⟩
end Go.Proofs.YtgfbednfiejlfaaGreatDoor.Rd

/-
  Contracts of Read's closure, of caught and of Read.
-/
namespace Go.Proofs.YtgfbednfiejlfaaGreatDoor.Rd
open Go.RowKit Go.Proofs.YtgfbednfiejlfaaGreatDoor.Oct Go.Proofs.YtgfbednfiejlfaaGreatDoor.Val

set_option maxHeartbeats 4000000 in
set_option maxRecDepth 100000 in
theorem read1_c (w : World) (sb : Nat) (s : List UInt8) (hs : w.cell? ⟨sb, 0, none⟩ = some (.string (S s))) (hlt : sb < w.heap.size) (hl : s.length ≤ 274877906944) (hT : TabN w.heap.size w) :
    Calls Tryz.prog 17 #[.pointer (some ⟨sb, 0, none⟩)] w (WholeTo w s) := by
  have hbz : Below w.heap.size w (zBox w) := (Below.refl _ w).alloc (Nat.le_refl _) _
  have hz1 : (zBox w).heap.size = w.heap.size + 1 := Array.size_push _
  have hw := whole_c (zBox w) s hl (fun X hX => hT X (hbz.trans (hX.mono (by omega))))
  have hs1 : (zBox w).cell? ⟨sb, 0, none⟩ = some (.string (S s)) := by rw [← hs]; exact hbz.cell hlt
  have HB := Lib.hid (And.intro hbz hz1)
  clear hbz hz1
  go_enter Tryz.func17, Tryz.ntmps17
  go_wp2_with fail
  refine hw.mono ?_
  clear hw
  rintro e1 W1 ⟨hb, (⟨rfl, h⟩ | ⟨rfl, h⟩ | ⟨⟨v0, v1, v2, v3, v4⟩, x, d, rfl, h1, h2, h3⟩)⟩
  · exact ⟨rfl, HB.out.1.trans (hb.mono (by rw [HB.out.2]; omega)), .inl ⟨rfl, h⟩⟩
  · exact ⟨rfl, HB.out.1.trans (hb.mono (by rw [HB.out.2]; omega)), .inr (.inl ⟨rfl, h⟩)⟩
  · obtain ⟨l0, l1, l2, lp, la, lb, lq, lr, ld, rfl, rfl, rfl, rfl, rfl⟩ := holds_parts h3
    have hbx : Bx W1 w.heap.size (.int .i64 0) (.int .i64 0) (.string ⟨#[]⟩) (.slice none 0 0) (.slice none 0 0) := by
      unfold Bx
      rw [hb.block w.heap.size (by rw [HB.out.2]; omega)]
      exact Bx.new w (.int .i64 0) (.int .i64 0) (.string ⟨#[]⟩) (.slice none 0 0) (.slice none 0 0)
    obtain ⟨t0, t1, t2, t3, t4⟩ := hbx.froz
    obtain ⟨g0, g1, g2, g3, g4⟩ := hbx.five
    have fin : Hid (∀ Z, Z = st5 W1 w.heap.size (.int .i64 l0) (.int .i64 l1) (.string l2) (.slice lp la lb) (.slice lq lr ld) → Below w.heap.size w Z ∧ Holds (Mine w.heap.size Z) Z (.agg #[.int .i64 l0, .int .i64 l1, .string l2, .slice lp la lb, .slice lq lr ld]) x) := by
      intro Z hZ
      rw [HB.out.2] at h3
      have key : ∀ b, b ≠ w.heap.size → Z.heap[b]? = W1.heap[b]? := fun b hb => by rw [hZ, st5_other _ _ _ _ _ _ hb]
      refine ⟨?_, h3.frame (fun _ b _ _ hd => key b (by have := hd.1; omega)) fun t b off n hd => ?_⟩
      · rw [hZ]
        exact st5_below (HB.out.1.trans (hb.mono (by rw [HB.out.2]; omega))) (Nat.le_refl _) _ _ _ _ _
      · obtain ⟨h5, h6, cur, h7⟩ := hd
        exact ⟨by omega, h6, cur, by rw [key b (by omega)]; exact h7⟩
    have H1 := Lib.hid (And.intro h1 h2)
    clear h1 h2 h3 hb hbx hs
    go_wp2_with fail
    refine bodyPost_ret (v := .agg #[.int .i64 l0, .int .i64 l1, .string l2, .slice lp la lb, .slice lq lr ld]) (by simp [results, Tryz.results17, go_sem, g0, g1, g2, g3, g4]) rfl ?_
    have hf := fin.out
    obtain ⟨f1, f2⟩ := hf _ rfl
    exact ⟨f1, .inr (.inr ⟨(.int .i64 l0, .int .i64 l1, .string l2, .slice lp la lb, .slice lq lr ld), x, d, rfl, H1.out.1, H1.out.2, f2⟩)⟩

end Go.Proofs.YtgfbednfiejlfaaGreatDoor.Rd

/-
  Contracts of faults.Caught at one of its instances, over whatever closure is handed in.
-/
namespace Go.Proofs.YtgfbednfiejlfaaGreatDoor.Rd
open Go.RowKit Go.Proofs.YtgfbednfiejlfaaGreatDoor.Oct

theorem assert_fault (x : Value) (xT : TypeId) (w : World) : (Instr.typeAssert (.iface 51 x) xT 51 true).run Tryz.prog w = .ok (.tuple #[x, .bool true]) w := by kernel_rfl
theorem assert_nil (xT : TypeId) (w : World) : (Instr.typeAssert .nilIface xT 51 true).run Tryz.prog w = .ok (.tuple #[.agg #[.int .i64 0], .bool false]) w := by kernel_rfl

set_option maxHeartbeats 4000000 in
set_option maxRecDepth 100000 in
theorem catch_none (r : Nat) (w : World) :
    CallsD Tryz.prog 28 #[.pointer (some ⟨r, 0, none⟩)] .returning w fun e u' w' =>
      e = .returned (.tuple #[]) ∧ u' = .returning ∧ Below w.heap.size w w' := by
  have hta := assert_nil
  refine callsD_of_wpS Tryz.func28 rfl fun c₀ cs hu => ?_
  apply wpS_seq
  apply wpS_region
  simp [wpOpsS, go_sem, recoverD, hu, Tryz.ntmps28, Exit.thenS]
  refine wpS_of_wp ?_
  simp only [List.replicate, Array.replicate, List.setIfInBounds_toArray, List.set_cons_succ, List.set_cons_zero, List.append_toArray, List.cons_append, List.nil_append]
  go_wp2_with fail
  simp only [bodyPostS]
  exact ⟨trivial, .returning, by cases c₀; simp_all, .tuple #[], by simp [results, Tryz.results28], rfl, rfl, (Below.refl _ w).alloc (Nat.le_refl _) _⟩

set_option maxHeartbeats 400000 in
set_option maxRecDepth 100000 in
theorem catch_fault (r : Nat) (n x : Int) (w : World) (hx : w.cell? ⟨r, 0, none⟩ = some (.int .i64 x)) (hz : w.frozen? ⟨r, 0, none⟩ = false) (hr : r < w.heap.size) :
    CallsD Tryz.prog 28 #[.pointer (some ⟨r, 0, none⟩)] (.panicking [{ v := faultV n, recovered := false }]) w fun e u' w' =>
      e = .returned (.tuple #[]) ∧ u' = .panicking [{ v := faultV n, recovered := true }] ∧ w' = (w.setCell ⟨r, 0, none⟩ (.int .i64 n)).alloc (.cells #[.int .i64 n] 51) := by
  have hb := (Below.refl w.heap.size w).alloc (Nat.le_refl _) (.cells #[.int .i64 n] 51)
  have hx1 := (hb.cell (p := ⟨r, 0, none⟩) hr).trans hx
  have hz1 := (hb.frozen (p := ⟨r, 0, none⟩) hr).trans hz
  have hnc : (w.alloc (.cells #[.int .i64 n] 51)).cell? ⟨w.heap.size, 0, none⟩ = some (.int .i64 n) := cell_of_row _ w.heap.size 0 _ _ _ (heap_alloc_new w _)
  clear hb
  have hta := assert_fault (.agg #[.int .i64 n])
  refine callsD_of_wpS Tryz.func28 rfl fun c₀ cs hu => ?_
  replace hu : c₀.mode = .panicking [{ v := .iface 51 (.agg #[.int .i64 n]), recovered := false }] := hu
  apply wpS_seq
  apply wpS_region
  simp [wpOpsS, go_sem, recoverD, hu, Tryz.ntmps28, Exit.thenS]
  refine wpS_of_wp ?_
  simp only [List.replicate, Array.replicate, List.setIfInBounds_toArray, List.set_cons_succ, List.set_cons_zero, List.append_toArray, List.cons_append, List.nil_append]
  go_wp2_with fail
  show bodyPostS _ _ _ _ _ _ _ _ _
  simp only [bodyPostS]
  exact ⟨trivial, .panicking [{ v := faultV n, recovered := true }], by cases c₀; simp_all, .tuple #[], by simp [results, Tryz.results28], rfl, rfl, (by first | trivial | rfl)⟩

end Go.Proofs.YtgfbednfiejlfaaGreatDoor.Rd

/-
  Contract of caught, over Read's closure.
-/
namespace Go.Proofs.YtgfbednfiejlfaaGreatDoor.Rd
open Go.RowKit Go.Proofs.YtgfbednfiejlfaaGreatDoor.Oct Go.Proofs.YtgfbednfiejlfaaGreatDoor.Val

/-- What caught leaves. -/
def CaughtTo (w : World) (s : List UInt8) (en : Ending) (w' : World) : Prop :=
  Below w.heap.size w w' ∧
  ((en = .returned (.tuple #[.agg #[.int .i64 0, .int .i64 0, .string ⟨#[]⟩, .slice none 0 0, .slice none 0 0], .int .i64 33]) ∧ (Leads (.loop s [] 0) .bad ∨ ∃ x t d, Leads (.loop s [] 0) (.done x t d) ∧ t ≠ [])) ∨
   (en = .returned (.tuple #[.agg #[.int .i64 0, .int .i64 0, .string ⟨#[]⟩, .slice none 0 0, .slice none 0 0], .int .i64 42]) ∧ ∃ x d, Leads (.loop s [] 0) (.done x [] d) ∧ 16 < d) ∨
   ∃ e x d, en = .returned (.tuple #[agg5 e, .int .i64 0]) ∧ Leads (.loop s [] 0) (.done x [] d) ∧ d ≤ 16 ∧ Holds (Mine w.heap.size w') w' (agg5 e) x)

/-- Both results are laid. -/
theorem laid_fin {w W1 : World} (hb : Below w.heap.size w W1) {n y : Int} {u0 u1 u2 u3 u4 : Value} (hbx : Bx W1 w.heap.size u0 u1 u2 u3 u4) (hx : W1.heap[w.heap.size + 1]? = some (.cells #[.int .i64 y] 27 (0, 0))) (v0 v1 v2 v3 v4 : Value) (Z : World)
    (hZ : Below ((st5 W1 w.heap.size v0 v1 v2 v3 v4).setCell ⟨w.heap.size + 1, 0, none⟩ (.int .i64 n)).heap.size ((st5 W1 w.heap.size v0 v1 v2 v3 v4).setCell ⟨w.heap.size + 1, 0, none⟩ (.int .i64 n)) Z) :
    Below w.heap.size w Z ∧ Bx Z w.heap.size v0 v1 v2 v3 v4 ∧ Z.cell? ⟨w.heap.size + 1, 0, none⟩ = some (.int .i64 n) ∧ ∀ b, w.heap.size + 2 ≤ b → b < W1.heap.size → Z.heap[b]? = W1.heap[b]? := by
  have h1 := hbx.st5 v0 v1 v2 v3 v4
  have h2 : (st5 W1 w.heap.size v0 v1 v2 v3 v4).heap[w.heap.size + 1]? = some (.cells #[.int .i64 y] 27 (0, 0)) := by
    rw [st5_other _ _ _ _ _ _ (by omega)]; exact hx
  have h3 := heap_setCell_same _ (w.heap.size + 1) 0 _ _ (.int .i64 n) h2
  have hlt : w.heap.size + 1 < W1.heap.size := (Array.getElem?_eq_some_iff.1 hx).1
  have h4 : Below (w.heap.size + 1) (st5 W1 w.heap.size v0 v1 v2 v3 v4) ((st5 W1 w.heap.size v0 v1 v2 v3 v4).setCell ⟨w.heap.size + 1, 0, none⟩ (.int .i64 n)) :=
    (Below.refl _ _).setCell (p := ⟨w.heap.size + 1, 0, none⟩) (Nat.le_refl _) _
  have h6 : ∀ b, w.heap.size + 2 ≤ b → ((st5 W1 w.heap.size v0 v1 v2 v3 v4).setCell ⟨w.heap.size + 1, 0, none⟩ (.int .i64 n)).heap[b]? = W1.heap[b]? := fun b hb => by
    rw [Below.heap_setCell _ _ _ _ (by simp only; omega), st5_other _ _ _ _ _ _ (by omega)]
  have hsz : ((st5 W1 w.heap.size v0 v1 v2 v3 v4).setCell ⟨w.heap.size + 1, 0, none⟩ (.int .i64 n)).heap.size = W1.heap.size := by
    have e1 : ((st5 W1 w.heap.size v0 v1 v2 v3 v4).setCell ⟨w.heap.size + 1, 0, none⟩ (.int .i64 n)).heap.size = (st5 W1 w.heap.size v0 v1 v2 v3 v4).heap.size := by simp [World.setCell]
    rw [e1, st5_size]
  generalize hV : (st5 W1 w.heap.size v0 v1 v2 v3 v4).setCell ⟨w.heap.size + 1, 0, none⟩ (.int .i64 n) = V at *
  refine ⟨?_, ?_, ?_, ?_⟩
  · exact ((st5_below hb (Nat.le_refl _) v0 v1 v2 v3 v4).trans (h4.mono (by omega))).trans (hZ.mono (by omega))
  · unfold Bx
    rw [hZ.block _ (by omega), h4.block _ (by omega)]
    exact h1
  · exact cell_of_row _ (w.heap.size + 1) 0 _ _ _ ((hZ.block _ (by omega)).trans h3)
  · exact fun b hb1 hb2 => (hZ.block b (by omega)).trans (h6 b hb1)

theorem fault_fin {w W1 : World} (hb : Below w.heap.size w W1) {n y : Int} {u0 u1 u2 u3 u4 : Value} (hbx : Bx W1 w.heap.size u0 u1 u2 u3 u4) (hx : W1.heap[w.heap.size + 1]? = some (.cells #[.int .i64 y] 27 (0, 0))) (Z : World)
    (hZ : Z = (W1.setCell ⟨w.heap.size + 1, 0, none⟩ (.int .i64 n)).alloc (.cells #[.int .i64 n] 51)) :
    Below w.heap.size w Z ∧ Bx Z w.heap.size u0 u1 u2 u3 u4 ∧ Z.cell? ⟨w.heap.size + 1, 0, none⟩ = some (.int .i64 n) := by
  have hlt : w.heap.size + 1 < W1.heap.size := (Array.getElem?_eq_some_iff.1 hx).1
  have h3 := heap_setCell_same W1 (w.heap.size + 1) 0 _ _ (.int .i64 n) hx
  have h0 : (W1.setCell ⟨w.heap.size + 1, 0, none⟩ (.int .i64 n)).heap[w.heap.size]? = W1.heap[w.heap.size]? := heap_setCell_other _ _ _ _ (by simp)
  have hs : (W1.setCell ⟨w.heap.size + 1, 0, none⟩ (.int .i64 n)).heap.size = W1.heap.size := by simp [World.setCell]
  have hB : Below w.heap.size w (W1.setCell ⟨w.heap.size + 1, 0, none⟩ (.int .i64 n)) := hb.setCell (p := ⟨w.heap.size + 1, 0, none⟩) (Nat.le_succ _) _
  generalize W1.setCell ⟨w.heap.size + 1, 0, none⟩ (.int .i64 n) = V at *
  have ha : Below V.heap.size V Z := by rw [hZ]; exact (Below.refl _ V).alloc (Nat.le_refl _) _
  refine ⟨hB.trans (ha.mono (by omega)), ?_, cell_of_row Z (w.heap.size + 1) 0 _ _ _ ((ha.block _ (by omega)).trans h3)⟩
  unfold Bx
  rw [ha.block _ (by omega), h0]
  exact hbx

set_option maxHeartbeats 400000 in
set_option maxRecDepth 100000 in
theorem caught_c (w : World) (sb : Nat) (s : List UInt8) (hs : w.cell? ⟨sb, 0, none⟩ = some (.string (S s))) (hlt : sb < w.heap.size) (hl : s.length ≤ 274877906944) (hT : TabN w.heap.size w) :
    Calls Tryz.prog 16 #[.func (.func 17) #[] #[.pointer (some ⟨sb, 0, none⟩)]] w (CaughtTo w s) := by
  have hmf : ∀ (fn : Fn) (first cap : Array Value) (w : World), (Instr.makeFunc fn first cap).run Tryz.prog w = .ok (.func fn first cap) w := fun _ _ _ _ => rfl
  obtain ⟨w2, hw2⟩ : ∃ w2, w2 = (zBox w).alloc (.cells #[.int .i64 0] 27) := ⟨_, rfl⟩
  have hz1 : (zBox w).heap.size = w.heap.size + 1 := Array.size_push _
  have hz2 : w2.heap.size = w.heap.size + 2 := by rw [hw2]; exact (Array.size_push _).trans (congrArg (· + 1) (Array.size_push _))
  have hb1 : Below w.heap.size w (zBox w) := (Below.refl _ w).alloc (Nat.le_refl _) _
  have hb2 : Below w.heap.size w w2 := by rw [hw2]; exact hb1.alloc hb1.size _
  have hbx : Bx w2 w.heap.size (.int .i64 0) (.int .i64 0) (.string ⟨#[]⟩) (.slice none 0 0) (.slice none 0 0) :=
    (Bx.new w (.int .i64 0) (.int .i64 0) (.string ⟨#[]⟩) (.slice none 0 0) (.slice none 0 0)).keep (W' := w2) (by rw [hw2]; exact (Below.refl _ (zBox w)).alloc (Nat.le_refl _) _)
  have hx : w2.heap[w.heap.size + 1]? = some (.cells #[.int .i64 0] 27 (0, 0)) := by
    have h1 := heap_alloc_new (zBox w) (.cells #[.int .i64 0] 27)
    rw [hz1, ← hw2] at h1
    exact h1
  have hc := read1_c w2 sb s ((hb2.cell (p := ⟨sb, 0, none⟩) hlt).trans hs) (by omega) hl (fun X hX => hT X (hb2.trans (hX.mono (by omega))))
  have HB := Lib.hid (And.intro hb2 (And.intro hbx (And.intro hx hz2)))
  rw [hw2] at hc
  clear hb1 hb2 hbx hx hz1 hz2
  go_enter_defers Tryz.func16, Tryz.ntmps16
  go_wp2_with fail
  refine hc.mono ?_
  clear hc
  rintro e1 W1 ⟨hb, h⟩
  rw [← hw2, HB.out.2.2.2] at hb
  have bx1 : Bx W1 w.heap.size (.int .i64 0) (.int .i64 0) (.string ⟨#[]⟩) (.slice none 0 0) (.slice none 0 0) := by unfold Bx; rw [hb.block _ (by omega)]; exact HB.out.2.1
  have x1 : W1.heap[w.heap.size + 1]? = some (.cells #[.int .i64 0] 27 (0, 0)) := by rw [hb.block _ (by omega)]; exact HB.out.2.2.1
  have hbw : Below w.heap.size w W1 := HB.out.1.trans (hb.mono (by omega))
  have hxc := cell_of_row W1 (w.heap.size + 1) 0 _ _ _ x1
  have hxz := frozen_of_row W1 (w.heap.size + 1) 0 _ _ x1
  have hxl : w.heap.size + 1 < W1.heap.size := (Array.getElem?_eq_some_iff.1 x1).1
  have flt : ∀ n, CallsD Tryz.prog 28 #[.pointer (some ⟨w.heap.size + 1, 0, none⟩)] (.panicking [{ v := faultV n, recovered := false }]) W1 _ := fun n => catch_fault (w.heap.size + 1) n 0 W1 hxc hxz hxl
  rcases h with ⟨rfl, h⟩ | ⟨rfl, h⟩ | ⟨⟨v0, v1, v2, v3, v4⟩, x, d, rfl, h1, h2, h3⟩
  · refine leaves_cons (f := 28) (args := #[.pointer (some ⟨w.heap.size + 1, 0, none⟩)]) (by simp) (by simp [go_sem]) ?_
    refine (flt 33).mono ?_
    rintro e u' w'' ⟨rfl, rfl, hw''⟩
    obtain ⟨f1, f2, f3⟩ := fault_fin hbw bx1 x1 w'' hw''
    obtain ⟨g0, g1, g2, g3, g4⟩ := f2.five
    clear hw''
    simp [Leaves, settle, results, Tryz.results16, go_sem, g0, g1, g2, g3, g4, f3]
    exact ⟨f1, .inl ⟨rfl, h⟩⟩
  · refine leaves_cons (f := 28) (args := #[.pointer (some ⟨w.heap.size + 1, 0, none⟩)]) (by simp) (by simp [go_sem]) ?_
    refine (flt 42).mono ?_
    rintro e u' w'' ⟨rfl, rfl, hw''⟩
    obtain ⟨f1, f2, f3⟩ := fault_fin hbw bx1 x1 w'' hw''
    obtain ⟨g0, g1, g2, g3, g4⟩ := f2.five
    clear hw''
    simp [Leaves, settle, results, Tryz.results16, go_sem, g0, g1, g2, g3, g4, f3]
    exact ⟨f1, .inr (.inl ⟨rfl, h⟩)⟩
  · obtain ⟨l0, l1, l2, lp, la, lb, lq, lr, ld, rfl, rfl, rfl, rfl, rfl⟩ := holds_parts h3
    obtain ⟨t0, t1, t2, t3, t4⟩ := bx1.froz
    obtain ⟨g0, g1, g2, g3, g4⟩ := bx1.five
    have hne : w.heap.size + 1 ≠ w.heap.size := by omega
    have hne2 := Ne.symm hne
    have HH := Lib.hid (And.intro h1 (And.intro h2 (And.intro h3 (And.intro hbw (And.intro bx1 x1)))))
    clear h1 h2 h3 hbw bx1 x1 hb flt
    go_wp2_with fail
    refine leaves_cons (f := 28) (args := #[.pointer (some ⟨w.heap.size + 1, 0, none⟩)]) (by simp) (by simp [go_sem]) ?_
    refine (catch_none (w.heap.size + 1) _).mono ?_
    rintro e u' w'' ⟨rfl, rfl, hw''⟩
    obtain ⟨f1, f2, f3, f4⟩ := laid_fin HH.out.2.2.2.1 HH.out.2.2.2.2.1 HH.out.2.2.2.2.2 (.int .i64 l0) (.int .i64 l1) (.string l2) (.slice lp la lb) (.slice lq lr ld) w'' hw''
    obtain ⟨g0, g1, g2, g3, g4⟩ := f2.five
    clear hw''
    simp [Leaves, settle, results, Tryz.results16, go_sem, g0, g1, g2, g3, g4, f3]
    obtain ⟨h1, h2, h3, _⟩ := HH.out
    rw [← hw2, HB.out.2.2.2] at h3
    refine ⟨f1, .inr (.inr ⟨(.int .i64 l0, .int .i64 l1, .string l2, .slice lp la lb, .slice lq lr ld), x, d, rfl, h1, h2, h3.frame (fun _ b _ _ hd => f4 b hd.1 hd.lt) fun t b off n hd => ?_⟩)⟩
    have hlt := hd.lt
    obtain ⟨h5, h6, cur, h7⟩ := hd
    exact ⟨by omega, h6, cur, by rw [f4 b h5 hlt]; exact h7⟩
end Go.Proofs.YtgfbednfiejlfaaGreatDoor.Rd

/-
  Contract of Read.
-/
namespace Go.Proofs.YtgfbednfiejlfaaGreatDoor.Rd
open Go.RowKit Go.Proofs.YtgfbednfiejlfaaGreatDoor.Oct Go.Proofs.YtgfbednfiejlfaaGreatDoor.Val

/-- What Read leaves. -/
def ReadTo (w : World) (s : List UInt8) (en : Ending) (w' : World) : Prop :=
  Below w.heap.size w w' ∧
  ((en = .returned (.tuple #[.agg #[.int .i64 0, .int .i64 0, .string ⟨#[]⟩, .slice none 0 0, .slice none 0 0], .int .i64 0, .int .i64 33]) ∧ (Leads (.loop s [] 0) .bad ∨ ∃ x t d, Leads (.loop s [] 0) (.done x t d) ∧ t ≠ [])) ∨
   (en = .returned (.tuple #[.agg #[.int .i64 0, .int .i64 0, .string ⟨#[]⟩, .slice none 0 0, .slice none 0 0], .int .i64 0, .int .i64 42]) ∧ ∃ x d, Leads (.loop s [] 0) (.done x [] d) ∧ 16 < d) ∨
   ∃ e x d, en = .returned (.tuple #[agg5 e, .int .i64 s.length, .int .i64 0]) ∧ Leads (.loop s [] 0) (.done x [] d) ∧ d ≤ 16 ∧ Holds (Mine w.heap.size w') w' (agg5 e) x)

theorem read_fin {w W1 V : World} {x : Val.V} {v0 v1 v2 v3 v4 : Value} (h4 : Below w.heap.size w V) (h6 : Below W1.heap.size W1 V) (h3 : Holds (Mine (w.heap.size + 2) W1) W1 (.agg #[v0, v1, v2, v3, v4]) x) (Z : World)
    (hZ : Z = (st5 V (w.heap.size + 1) v0 v1 v2 v3 v4).drew) : Below w.heap.size w Z ∧ Holds (Mine w.heap.size Z) Z (.agg #[v0, v1, v2, v3, v4]) x := by
  have key : ∀ b, w.heap.size + 2 ≤ b → b < W1.heap.size → Z.heap[b]? = W1.heap[b]? := fun b hb hb2 => by
    have e : Z.heap[b]? = (st5 V (w.heap.size + 1) v0 v1 v2 v3 v4).heap[b]? := by rw [hZ]; rfl
    rw [e, st5_other _ _ _ _ _ _ (by omega)]
    exact h6.block b hb2
  refine ⟨by rw [hZ]; exact (st5_below h4 (Nat.le_succ _) _ _ _ _ _).drew, h3.frame (fun _ b _ _ hd => key b hd.1 hd.lt) fun t b off n hd => ?_⟩
  have hlt := hd.lt
  obtain ⟨h7, h8, cur, h9⟩ := hd
  exact ⟨by omega, h8, cur, by rw [key b h7 hlt]; exact h9⟩

set_option maxHeartbeats 4000000 in
set_option maxRecDepth 100000 in
theorem read_c (w : World) (s : List UInt8) (hl : s.length ≤ 274877906944) (hT : TabN w.heap.size w) :
    Calls Tryz.prog 7 #[.string (S s)] w (ReadTo w s) := by
  obtain ⟨w1, hw1⟩ : ∃ w1, w1 = w.alloc (.cells #[.string (S s)] 9) := ⟨_, rfl⟩
  obtain ⟨w2, hw2⟩ : ∃ w2, w2 = w1.alloc (.cells #[.int .i64 0, .int .i64 0, .string ⟨#[]⟩, .slice none 0 0, .slice none 0 0] 26) := ⟨_, rfl⟩
  have hz1 : w1.heap.size = w.heap.size + 1 := by rw [hw1]; exact Array.size_push _
  have hz2 : w2.heap.size = w.heap.size + 2 := by rw [hw2]; exact (Array.size_push _).trans (congrArg (· + 1) hz1)
  have hb1 : Below w.heap.size w w1 := by rw [hw1]; exact (Below.refl _ w).alloc (Nat.le_refl _) _
  have hb12 : Below w1.heap.size w1 w2 := by rw [hw2]; exact (Below.refl _ w1).alloc (Nat.le_refl _) _
  have hs1 : w1.cell? ⟨w.heap.size, 0, none⟩ = some (.string (S s)) := by rw [hw1]; exact cell_of_row _ w.heap.size 0 _ _ _ (heap_alloc_new w _)
  have hs2 : w2.cell? ⟨w.heap.size, 0, none⟩ = some (.string (S s)) := (hb12.cell (p := ⟨w.heap.size, 0, none⟩) (by rw [hz1]; exact Nat.lt_succ_self _)).trans hs1
  have hbx : Bx w2 (w.heap.size + 1) (.int .i64 0) (.int .i64 0) (.string ⟨#[]⟩) (.slice none 0 0) (.slice none 0 0) := by
    have h1 := Bx.new w1 (.int .i64 0) (.int .i64 0) (.string ⟨#[]⟩) (.slice none 0 0) (.slice none 0 0)
    rw [← hw2, hz1] at h1
    exact h1
  have hb2 : Below w.heap.size w w2 := hb1.trans (hb12.mono (by omega))
  have hc := caught_c w2 w.heap.size s hs2 (by omega) hl (fun X hX => hT X (hb2.trans (hX.mono (by omega))))
  have HB := Lib.hid (And.intro hb2 (And.intro hbx (And.intro hs2 hz2)))
  rw [hw2, hw1] at hc
  have hw3 : w2 = (w.alloc (.cells #[.string (S s)] 9)).alloc (.cells #[.int .i64 0, .int .i64 0, .string ⟨#[]⟩, .slice none 0 0, .slice none 0 0] 26) := by rw [hw2, hw1]
  clear hw1 hw2 hb1 hb2 hb12 hbx hs1 hs2 hz1 hz2
  go_enter Tryz.func7, Tryz.ntmps7
  go_wp2_with fail
  refine hc.mono ?_
  clear hc
  rintro e1 W1 ⟨hb, h⟩
  rw [← hw3, HB.out.2.2.2] at hb
  have bx1 : Bx W1 (w.heap.size + 1) (.int .i64 0) (.int .i64 0) (.string ⟨#[]⟩) (.slice none 0 0) (.slice none 0 0) := by unfold Bx; rw [hb.block _ (by omega)]; exact HB.out.2.1
  have hsc : W1.cell? ⟨w.heap.size, 0, none⟩ = some (.string (S s)) := (hb.cell (p := ⟨w.heap.size, 0, none⟩) (by show w.heap.size < _; omega)).trans HB.out.2.2.1
  have hbw : Below w.heap.size w W1 := HB.out.1.trans (hb.mono (by omega))
  rcases h with ⟨rfl, h⟩ | ⟨rfl, h⟩ | ⟨⟨v0, v1, v2, v3, v4⟩, x, d, rfl, h1, h2, h3⟩
  · have ba := (Below.refl W1.heap.size W1).alloc (Nat.le_refl _) (.cells #[.int .i64 0, .int .i64 0, .string ⟨#[]⟩, .slice none 0 0, .slice none 0 0] 26)
    have bx2 := bx1.keep ba
    have hs3 := (ba.cell (p := ⟨w.heap.size, 0, none⟩) (by have := bx1.lt; show w.heap.size < _; omega)).trans hsc
    obtain ⟨t0, t1, t2, t3, t4⟩ := bx2.froz
    obtain ⟨g0, g1, g2, g3, g4⟩ := bx2.five
    obtain ⟨y0, y1, y2, y3, y4⟩ := (Bx.new W1 (.int .i64 0) (.int .i64 0) (.string ⟨#[]⟩) (.slice none 0 0) (.slice none 0 0)).five
    have hsz := bx1.lt
    have hlow := hbw.alloc (by omega) (.cells #[.int .i64 0, .int .i64 0, .string ⟨#[]⟩, .slice none 0 0, .slice none 0 0] 26)
    have HH := Lib.hid (And.intro h (And.intro hlow bx2))
    clear h hbw hb bx1 bx2 ba hsz hlow
    go_wp2_with fail
    refine bodyPost_ret (v := .tuple #[.agg #[.int .i64 0, .int .i64 0, .string ⟨#[]⟩, .slice none 0 0, .slice none 0 0], .int .i64 0, .int .i64 33]) (by simp [results, Tryz.results7, go_sem, g0, g1, g2, g3, g4]) rfl ?_
    have fin := fun Z (hZ : Z = st5 _ (w.heap.size + 1) (.int .i64 0) (.int .i64 0) (.string ⟨#[]⟩) (.slice none 0 0) (.slice none 0 0)) => (hZ ▸ st5_below HH.out.2.1 (Nat.le_succ _) (.int .i64 0) (.int .i64 0) (.string ⟨#[]⟩) (.slice none 0 0) (.slice none 0 0) : Below w.heap.size w Z)
    exact ⟨fin _ rfl, .inl ⟨rfl, HH.out.1⟩⟩
  · have ba := (Below.refl W1.heap.size W1).alloc (Nat.le_refl _) (.cells #[.int .i64 0, .int .i64 0, .string ⟨#[]⟩, .slice none 0 0, .slice none 0 0] 26)
    have bx2 := bx1.keep ba
    have hs3 := (ba.cell (p := ⟨w.heap.size, 0, none⟩) (by have := bx1.lt; show w.heap.size < _; omega)).trans hsc
    obtain ⟨t0, t1, t2, t3, t4⟩ := bx2.froz
    obtain ⟨g0, g1, g2, g3, g4⟩ := bx2.five
    obtain ⟨y0, y1, y2, y3, y4⟩ := (Bx.new W1 (.int .i64 0) (.int .i64 0) (.string ⟨#[]⟩) (.slice none 0 0) (.slice none 0 0)).five
    have hsz := bx1.lt
    have hlow := hbw.alloc (by omega) (.cells #[.int .i64 0, .int .i64 0, .string ⟨#[]⟩, .slice none 0 0, .slice none 0 0] 26)
    have HH := Lib.hid (And.intro h (And.intro hlow bx2))
    clear h hbw hb bx1 bx2 ba hsz hlow
    go_wp2_with fail
    refine bodyPost_ret (v := .tuple #[.agg #[.int .i64 0, .int .i64 0, .string ⟨#[]⟩, .slice none 0 0, .slice none 0 0], .int .i64 0, .int .i64 42]) (by simp [results, Tryz.results7, go_sem, g0, g1, g2, g3, g4]) rfl ?_
    have fin := fun Z (hZ : Z = st5 _ (w.heap.size + 1) (.int .i64 0) (.int .i64 0) (.string ⟨#[]⟩) (.slice none 0 0) (.slice none 0 0)) => (hZ ▸ st5_below HH.out.2.1 (Nat.le_succ _) (.int .i64 0) (.int .i64 0) (.string ⟨#[]⟩) (.slice none 0 0) (.slice none 0 0) : Below w.heap.size w Z)
    exact ⟨fin _ rfl, .inr (.inl ⟨rfl, HH.out.1⟩)⟩
  · obtain ⟨l0, l1, l2, lp, la, lb, lq, lr, ld, rfl, rfl, rfl, rfl, rfl⟩ := holds_parts h3
    have ba := (Below.refl W1.heap.size W1).alloc (Nat.le_refl _) (.cells #[.int .i64 l0, .int .i64 l1, .string l2, .slice lp la lb, .slice lq lr ld] 26)
    have bx2 := bx1.keep ba
    have hs3 := (ba.cell (p := ⟨w.heap.size, 0, none⟩) (by have := bx1.lt; show w.heap.size < _; omega)).trans hsc
    obtain ⟨t0, t1, t2, t3, t4⟩ := bx2.froz
    obtain ⟨g0, g1, g2, g3, g4⟩ := bx2.five
    obtain ⟨y0, y1, y2, y3, y4⟩ := (Bx.new W1 (.int .i64 l0) (.int .i64 l1) (.string l2) (.slice lp la lb) (.slice lq lr ld)).five
    have hsz := bx1.lt
    have hlow := hbw.alloc (by omega) (.cells #[.int .i64 l0, .int .i64 l1, .string l2, .slice lp la lb, .slice lq lr ld] 26)
    have HSZ := Lib.hid hsz
    have HH := Lib.hid (And.intro h1 (And.intro h2 (And.intro h3 (And.intro hlow (And.intro bx2 ba)))))
    clear h1 h2 h3 hbw bx1 bx2 hb ba hsz hlow
    have hne : W1.heap.size ≠ w.heap.size + 1 := by have := HH.out.2.2.2.2.1.lt; have h9 := HSZ.out; omega
    have hne2 := Ne.symm hne
    have hne3 : W1.heap.size ≠ w.heap.size := by have h9 := HSZ.out; omega
    have hne4 := Ne.symm hne3
    have hne5 : w.heap.size ≠ w.heap.size + 1 := by omega
    have hne6 := Ne.symm hne5
    have hsS := size_S s
    go_wp2_with fail
    go_region
    go_wp2_with fail
    refine bodyPost_ret (v := .tuple #[.agg #[.int .i64 l0, .int .i64 l1, .string l2, .slice lp la lb, .slice lq lr ld], .int .i64 s.length, .int .i64 0]) (by simp [results, Tryz.results7, go_sem, g0, g1, g2, g3, g4]) rfl ?_
    obtain ⟨h1, h2, h3, h4, h5, h6⟩ := HH.out
    rw [← hw3, HB.out.2.2.2] at h3
    have fin := fun Z hZ => read_fin h4 h6 h3 Z hZ
    obtain ⟨f1, f2⟩ := fin _ rfl
    exact ⟨f1, .inr (.inr ⟨(.int .i64 l0, .int .i64 l1, .string l2, .slice lp la lb, .slice lq lr ld), x, d, rfl, h1, h2, f2⟩)⟩
end Go.Proofs.YtgfbednfiejlfaaGreatDoor.Rd

/-
  The page's example: what the reader makes of the text [1].
-/
namespace Go.Proofs.YtgfbednfiejlfaaGreatDoor.Rd
open Go.RowKit Go.Proofs.YtgfbednfiejlfaaGreatDoor.Oct Go.Proofs.YtgfbednfiejlfaaGreatDoor.Val

theorem one_a : step (.loop [91, 49, 93] [] 0) = .inl (.loop [49, 93] [⟨5, [], []⟩] 1) := by rfl
theorem one_n : numberP [49, 93] = some (1, [93]) := by decide +kernel
theorem one_p : partP [49, 93] [⟨5, [], []⟩] 1 = .val (leafV 3 1 ⟨#[]⟩) [93] [⟨5, [], []⟩] 1 := by
  unfold partP
  rw [if_neg (by decide), if_neg (by decide), if_neg (by decide), if_neg (by decide), if_neg (by decide), if_neg (by decide), one_n]
theorem one_b : step (.loop [49, 93] [⟨5, [], []⟩] 1) = .inl (.close (leafV 3 1 ⟨#[]⟩) [93] [⟨5, [], []⟩] 1) := by simp only [step, one_p]
theorem one_c : step (.close (leafV 3 1 ⟨#[]⟩) [93] [⟨5, [], []⟩] 1) = .inl (.close (.mk 5 0 ⟨#[]⟩ [leafV 3 1 ⟨#[]⟩] []) [] [] 1) := by rfl
theorem one_leads : Leads (.loop [91, 49, 93] [] 0) (.done (.mk 5 0 ⟨#[]⟩ [leafV 3 1 ⟨#[]⟩] []) [] 1) :=
  .next one_a (.next one_b (.next one_c (.stop rfl)))

/-- So whatever the reader comes to at that text is this. -/
theorem one_only {o : Out} (h : Leads (.loop [91, 49, 93] [] 0) o) : o = .done (.mk 5 0 ⟨#[]⟩ [leafV 3 1 ⟨#[]⟩] []) [] 1 := h.det one_leads
end Go.Proofs.YtgfbednfiejlfaaGreatDoor.Rd

/-
  Contracts of num and alive of package muslinlaw05.
-/
namespace Go.Proofs.YtgfbednfiejlfaaGreatDoor.Rd
open Go.RowKit Go.Proofs.YtgfbednfiejlfaaGreatDoor.Oct Go.Proofs.YtgfbednfiejlfaaGreatDoor.Val Go.Proofs.YtgfbednfiejlfaaGreatDoor.Tl Go.Proofs.YtgfbednfiejlfaaGreatDoor.Lit Go.Proofs.YtgfbednfiejlfaaGreatDoor.Utf

theorem lnum_c (n : Int) (w : World) : Calls Tryz.prog 8 #[.int .i64 n] w fun e w' => e = .returned (.int .i64 n) ∧ w' = w := by
  go_enter Tryz.func8, Tryz.ntmps8
  go_wp2
  go_ret
  exact ⟨rfl, rfl⟩

theorem holds_list {C : Cond} {w : World} {v0 v1 v2 v4 : Value} {p : Option Addr} {a b : Nat} {k n : Int} {s : ByteArray} {l : List V} {ks : List ByteArray} (h : Holds C w (.agg #[v0, v1, v2, .slice p a b, v4]) (.mk k n s l ks)) : a = l.length := by
  cases h
  rfl

set_option maxHeartbeats 400000 in
set_option maxRecDepth 100000 in
theorem lalive_c (w : World) (hT : TabN w.heap.size w) : Calls Tryz.prog 6 #[] w fun e w' => e = .returned (.bool true) ∧ Below w.heap.size w w' := by
  have hr := read_c w [91, 49, 93] (by decide) hT
  have hn := lnum_c
  have HT := Lib.hid hT
  clear hT
  go_enter Tryz.func6, Tryz.ntmps6
  go_wp2_with fail
  refine hr.mono ?_
  clear hr
  rintro e1 W1 ⟨hb, h⟩
  rcases h with ⟨rfl, h | ⟨x, t, d, h, hne⟩⟩ | ⟨rfl, x, d, h, hd⟩ | ⟨⟨v0, v1, v2, v3, v4⟩, x, d, rfl, h1, h2, h3⟩
  · cases one_only h
  · have := one_only h; injection this with _ h2 _; exact absurd h2 hne
  · have := one_only h; injection this with _ _ h3; omega
  · have h5 := one_only h1
    injection h5 with hx _ hd
    rw [hx] at h3
    obtain ⟨l0, l1, l2, lp, la, lb, lq, lr, ld, rfl, rfl, rfl, rfl, rfl⟩ := holds_parts h3
    have hla : la = 1 := holds_list h3
    subst hla
    have hq := quote_c (S [60]) (by decide) (by decide +kernel)
    have hqe : quoteL (S [60]) = [34, 92, 117, 48, 48, 51, 99, 34] := by decide +kernel
    have HW := Lib.hid hb
    clear h1 h2 h3 hb
    go_wp2_with fail
    refine (hn _ _).mono ?_
    rintro e2 W2 ⟨rfl, rfl⟩
    have hbw : Below w.heap.size w (W1.alloc (.cells #[.int .i64 l0, .int .i64 l1, .string l2, .slice lp 1 lb, .slice lq lr ld] 26)) := HW.out.alloc HW.out.size _
    have hTt : Tabs (W1.alloc (.cells #[.int .i64 l0, .int .i64 l1, .string l2, .slice lp 1 lb, .slice lq lr ld] 26)) := HT.out _ hbw
    have hq1 := hq _ hTt
    rw [hqe] at hq1
    have HX := Lib.hid hbw
    clear hbw hTt hq hqe
    go_wp2_with (first | (go_at_call 15; refine hq1.mono ?_; rintro e3 W3 ⟨rfl, hb3⟩))
    refine bodyPost_ret (v := .bool true) (by simp [results, Tryz.results6, go_sem]) rfl ?_
    exact ⟨rfl, HX.out.trans (hb3.mono HX.out.size)⟩
end Go.Proofs.YtgfbednfiejlfaaGreatDoor.Rd

/-
  The law LiteralOwn, out of the contracts of the calls that it makes.
-/
namespace Go.Proofs.YtgfbednfiejlfaaGreatDoor.Rd
open Go.RowKit Go.Proofs.YtgfbednfiejlfaaGreatDoor.Oct Go.Proofs.YtgfbednfiejlfaaGreatDoor.Val Go.Proofs.YtgfbednfiejlfaaGreatDoor.Tl Go.Proofs.YtgfbednfiejlfaaGreatDoor.Lit Go.Proofs.YtgfbednfiejlfaaGreatDoor.Utf

/-- The error's number that Read tells of a text. -/
def ErrOf (s : List UInt8) (r : Int) : Prop :=
  (r = 33 ∧ (Leads (.loop s [] 0) .bad ∨ ∃ x t d, Leads (.loop s [] 0) (.done x t d) ∧ t ≠ [])) ∨ (r = 42 ∧ ∃ x d, Leads (.loop s [] 0) (.done x [] d) ∧ 16 < d) ∨
    (r = 0 ∧ ∃ x d, Leads (.loop s [] 0) (.done x [] d) ∧ d ≤ 16)
theorem ErrOf.det {s : List UInt8} {a b : Int} (h : ErrOf s a) (k : ErrOf s b) : a = b := by
  rcases h with ⟨rfl, h | ⟨x, t, d, h, ht⟩⟩ | ⟨rfl, x, d, h, hd⟩ | ⟨rfl, x, d, h, hd⟩ <;> rcases k with ⟨rfl, k | ⟨y, u, e, k, hu⟩⟩ | ⟨rfl, y, e, k, he⟩ | ⟨rfl, y, e, k, he⟩
  all_goals first
    | rfl
    | (exfalso
       have q := h.det k
       first
         | (cases q; done)
         | (simp only [Out.done.injEq] at q
            obtain ⟨_, q2, q3⟩ := q
            first
              | exact hu q2.symm
              | exact ht q2
              | omega))

/-- What Read leaves, in one form. -/
def Got (w : World) (s : List UInt8) (en : Ending) (w' : World) : Prop :=
  ∃ (k n : Int) (t : ByteArray) (p : Option Addr) (m cap : Nat) (q : Option Addr) (c d : Nat) (x : V) (len r : Int),
    en = .returned (.tuple #[.agg #[.int .i64 k, .int .i64 n, .string t, .slice p m cap, .slice q c d], .int .i64 len, .int .i64 r]) ∧ ErrOf s r ∧
    Holds (Mine w.heap.size w') w' (.agg #[.int .i64 k, .int .i64 n, .string t, .slice p m cap, .slice q c d]) x ∧ Below w.heap.size w w'
theorem ReadTo.got {w w' : World} {s : List UInt8} {en : Ending} (h : ReadTo w s en w') : Got w s en w' := by
  obtain ⟨hb, ⟨rfl, h⟩ | ⟨rfl, h⟩ | ⟨⟨v0, v1, v2, v3, v4⟩, x, d, rfl, h1, h2, h3⟩⟩ := h
  · exact ⟨0, 0, ⟨#[]⟩, none, 0, 0, none, 0, 0, _, 0, 33, rfl, .inl ⟨rfl, h⟩, leaf_holds 0 0 ⟨#[]⟩ (by decide) (by decide) (by decide), hb⟩
  · exact ⟨0, 0, ⟨#[]⟩, none, 0, 0, none, 0, 0, _, 0, 42, rfl, .inr (.inl ⟨rfl, h⟩), leaf_holds 0 0 ⟨#[]⟩ (by decide) (by decide) (by decide), hb⟩
  · obtain ⟨l0, l1, l2, lp, la, lb, lq, lr, ld, rfl, rfl, rfl, rfl, rfl⟩ := holds_parts h3
    exact ⟨_, _, _, _, _, _, _, _, _, x, _, 0, rfl, .inr (.inr ⟨rfl, x, d, h1, h2⟩), h3, hb⟩

theorem holds_row {lo : Nat} {w : World} {v0 v1 v2 v4 : Value} {p : Option Addr} {m cap : Nat} {x : V} (h : Holds (Mine lo w) w (.agg #[v0, v1, v2, .slice p m cap, v4]) x) :
    m ≤ 140737488351232 ∧ (0 < m → ∃ g cur, p = some ⟨g, 0, none⟩ ∧ lo ≤ g ∧ w.heap[g]? = some (.cells cur 26 (0, 0)) ∧ m * 5 ≤ cur.size) := by
  cases h with
  | mk k n s p cap K l ks b off c hr hp hc hK hl =>
    refine ⟨by have := hr.2.2.2.2.2; omega, fun h0 => ?_⟩
    obtain ⟨rfl, h1, rfl, cur, h2⟩ := hp h0
    have h2 : w.heap[b]? = some (.cells cur 26 (0, 0)) := h2
    refine ⟨b, cur, rfl, h1, h2, ?_⟩
    have h3 := hc (l.length - 1) 4 (by omega) (by omega)
    have h4 := (cell_of_row w b _ cur _ _ h2).symm.trans h3
    have := (Array.getElem?_eq_some_iff.1 h4).1
    omega

/-- One value written over. -/
abbrev over5 (w : World) (b i : Nat) : World :=
  ((((w.setCell ⟨b, i * 5, none⟩ (.int .i64 77)).setCell ⟨b, i * 5 + 1, none⟩ (.int .i64 0)).setCell ⟨b, i * 5 + 2, none⟩ (.string ⟨#[]⟩)).setCell ⟨b, i * 5 + 3, none⟩ (.slice none 0 0)).setCell ⟨b, i * 5 + 4, none⟩ (.slice none 0 0)

/-- Some values of the block g, which lies from lo on and below hi, are written over; all else lies as it lay. -/
structure OverAt (lo hi g m : Nat) (A B : World) : Prop where
  size : B.heap.size = A.heap.size
  os : B.os = A.os
  tape : B.tape = A.tape
  output : B.output = A.output
  block : ∀ b, b < lo ∨ hi ≤ b → B.heap[b]? = A.heap[b]?
  row : 0 < m → lo ≤ g ∧ g < hi ∧ ∃ cur, B.heap[g]? = some (.cells cur 26 (0, 0)) ∧ m * 5 ≤ cur.size

theorem st_os (w : World) (a : Addr) (v : Value) : (w.setCell a v).os = w.os ∧ (w.setCell a v).tape = w.tape ∧ (w.setCell a v).output = w.output ∧ (w.setCell a v).heap.size = w.heap.size := ⟨rfl, rfl, rfl, by simp⟩
theorem same5 {A B C : World} (h : B.os = A.os ∧ B.tape = A.tape ∧ B.output = A.output ∧ B.heap.size = A.heap.size) (k : C.os = B.os ∧ C.tape = B.tape ∧ C.output = B.output ∧ C.heap.size = B.heap.size) :
    C.os = A.os ∧ C.tape = A.tape ∧ C.output = A.output ∧ C.heap.size = A.heap.size := ⟨k.1.trans h.1, k.2.1.trans h.2.1, k.2.2.1.trans h.2.2.1, k.2.2.2.trans h.2.2.2⟩
theorem over_same (w : World) (b i : Nat) : (over5 w b i).os = w.os ∧ (over5 w b i).tape = w.tape ∧ (over5 w b i).output = w.output ∧ (over5 w b i).heap.size = w.heap.size :=
  same5 (same5 (same5 (same5 (st_os w _ _) (st_os _ _ _)) (st_os _ _ _)) (st_os _ _ _)) (st_os _ _ _)

theorem OverAt.over {lo hi g m : Nat} {A B : World} (h : OverAt lo hi g m A B) {i : Nat} (him : i < m) : OverAt lo hi g m A (over5 B g i) := by
  obtain ⟨h1, h2, cur, h3, h4⟩ := h.row (by omega)
  have e1 := heap_setCell_same B g (i * 5) cur _ (.int .i64 77) h3
  have e2 := heap_setCell_same _ g (i * 5 + 1) _ _ (.int .i64 0) e1
  have e3 := heap_setCell_same _ g (i * 5 + 2) _ _ (.string ⟨#[]⟩) e2
  have e4 := heap_setCell_same _ g (i * 5 + 3) _ _ (.slice none 0 0) e3
  have e5 := heap_setCell_same _ g (i * 5 + 4) _ _ (.slice none 0 0) e4
  obtain ⟨o1, o2, o3, o4⟩ := over_same B g i
  refine ⟨o4.trans h.size, o1.trans h.os, o2.trans h.tape, o3.trans h.output, fun b hb => ?_, fun _ => ⟨h1, h2, _, e5, by simpa using h4⟩⟩
  have hne : b ≠ g := by omega
  rw [heap_setCell_other _ _ _ _ hne, heap_setCell_other _ _ _ _ hne, heap_setCell_other _ _ _ _ hne, heap_setCell_other _ _ _ _ hne, heap_setCell_other _ _ _ _ hne]
  exact h.block b hb

theorem five5 {X : World} {B : Nat} {u0 u1 u2 u3 u4 : Value} {t : TypeId} (h : X.heap[B]? = some (.cells #[u0, u1, u2, u3, u4] t (0, 0))) :
    X.cell? ⟨B, 0, none⟩ = some u0 ∧ X.cell? ⟨B, 1, none⟩ = some u1 ∧ X.cell? ⟨B, 2, none⟩ = some u2 ∧ X.cell? ⟨B, 3, none⟩ = some u3 ∧ X.cell? ⟨B, 4, none⟩ = some u4 :=
  ⟨cell_of_row X B 0 _ _ _ h, cell_of_row X B 1 _ _ _ h, cell_of_row X B 2 _ _ _ h, cell_of_row X B 3 _ _ _ h, cell_of_row X B 4 _ _ _ h⟩

set_option maxHeartbeats 8000000 in
set_option maxRecDepth 100000 in
theorem law_own (W : World) (s : ByteArray) (hs : s.size ≤ 274877906944) (hT : TabN W.heap.size W) :
    Calls Tryz.prog 5 #[.string s] W fun e W' => e = .returned (.bool true) ∧ Below W.heap.size W W' := by
  obtain ⟨l, rfl⟩ : ∃ l, s = S l := ⟨s.data.toList, (S_list s).symm⟩
  have hl : l.length ≤ 274877906944 := by rw [← size_S]; exact hs
  have HT := Lib.hid hT
  have HL := Lib.hid hl
  have hal := lalive_c W hT
  clear hs hT hl
  go_enter Tryz.func5, Tryz.ntmps5
  go_wp2_with fail
  refine hal.mono ?_
  rintro e w1 ⟨rfl, hb1⟩
  clear hal
  have hr1 := read_c w1 l HL.out (fun X hX => HT.out X (hb1.trans (hX.mono hb1.size)))
  have B1 := Lib.hid hb1
  clear hb1
  go_wp2_with fail
  refine hr1.mono ?_
  clear hr1
  rintro e w2 hg
  obtain ⟨k1, n1, t1, p1, m1, a1, q1, c1, d1, x1, len1, r1, rfl, E1, A1, hb2⟩ := hg.got
  clear hg
  have hbA : Below W.heap.size W (w2.alloc (.cells #[.int .i64 k1, .int .i64 n1, .string t1, .slice p1 m1 a1, .slice q1 c1 d1] 26)) :=
    (B1.out.trans (hb2.mono B1.out.size)).alloc (Nat.le_trans B1.out.size hb2.size) _
  have hr2 := read_c (w2.alloc (.cells #[.int .i64 k1, .int .i64 n1, .string t1, .slice p1 m1 a1, .slice q1 c1 d1] 26)) l HL.out (fun X hX => HT.out X (hbA.trans (hX.mono hbA.size)))
  have H2 := Lib.hid (And.intro E1 (And.intro A1 (And.intro hb2 hbA)))
  clear E1 A1 hb2 hbA
  go_wp2_with fail
  refine hr2.mono ?_
  clear hr2
  rintro e w3 hg
  obtain ⟨k2, n2, t2, p2, m2, a2, q2, c2, d2, x2, len2, r2, rfl, E2, A2, hb3⟩ := hg.got
  clear hg
  have z3 : w2.heap.size < w3.heap.size := by have := hb3.size; simp at this; omega
  have D3 : w3.heap[w2.heap.size]? = some (.cells #[.int .i64 k1, .int .i64 n1, .string t1, .slice p1 m1 a1, .slice q1 c1 d1] 26 (0, 0)) := (hb3.block _ (by simp)).trans (heap_alloc_new w2 _)
  have O3 : Holds (Old w3.heap.size) w3 (.agg #[.int .i64 k2, .int .i64 n2, .string t2, .slice p2 m2 a2, .slice q2 c2 d2]) x2 := A2.frame (fun _ _ _ _ _ => rfl) (fun _ _ _ _ h => h.lt)
  have hown := own_c w3.heap.size w3 O3 (w3.alloc (.cells #[.int .i64 k2, .int .i64 n2, .string t2, .slice p2 m2 a2, .slice q2 c2 d2] 26)) (by simp) ((Below.refl _ w3).alloc (Nat.le_refl _) _)
  obtain rfl := H2.out.1.det E2
  have H3 := Lib.hid (And.intro A2 (And.intro hb3 D3))
  clear A2 hb3 D3 O3 E2
  go_wp2_with fail
  refine hown.mono ?_
  clear hown
  rintro e w4 ⟨v4, rfl, A4, hb4⟩
  obtain ⟨⟨u0, u1, u2, u3, u4⟩, rfl, -⟩ := holds_form A4
  obtain ⟨k4, n4, t4, p4, m4, a4, q4, c4, d4, rfl, rfl, rfl, rfl, rfl⟩ := holds_parts A4
  have z4 : w3.heap.size < w4.heap.size := by have := hb4.size; simp at this; omega
  obtain ⟨W4, hW4⟩ : ∃ W4, W4 = w4.alloc (.cells #[.int .i64 k4, .int .i64 n4, .string t4, .slice p4 m4 a4, .slice q4 c4 d4] 26) := ⟨_, rfl⟩
  have s4 : W4.heap.size = w4.heap.size + 1 := by rw [hW4]; simp
  have old4 : ∀ b, b < w3.heap.size → W4.heap[b]? = w3.heap[b]? := fun b hb => by
    rw [hW4, Go.heap_alloc_old _ _ (by omega), hb4.block b (by simp; omega), Go.heap_alloc_old _ _ hb]
  have DA : W4.heap[w2.heap.size]? = some (.cells #[.int .i64 k1, .int .i64 n1, .string t1, .slice p1 m1 a1, .slice q1 c1 d1] 26 (0, 0)) := (old4 _ z3).trans H3.out.2.2
  have DB : W4.heap[w3.heap.size]? = some (.cells #[.int .i64 k2, .int .i64 n2, .string t2, .slice p2 m2 a2, .slice q2 c2 d2] 26 (0, 0)) := by
    rw [hW4, Go.heap_alloc_old _ _ z4, hb4.block _ (by simp)]
    exact heap_alloc_new w3 _
  have DX : W4.heap[w4.heap.size]? = some (.cells #[.int .i64 k4, .int .i64 n4, .string t4, .slice p4 m4 a4, .slice q4 c4 d4] 26 (0, 0)) := by rw [hW4]; exact heap_alloc_new w4 _
  have BW4 : Below W.heap.size W W4 := by
    rw [hW4]
    exact ((H2.out.2.2.2.trans (H3.out.2.1.mono H2.out.2.2.2.size)).alloc (by have := H2.out.2.2.2.size; simp at this; omega) _ |>.trans (hb4.mono (by have := H2.out.2.2.2.size; simp at this ⊢; omega))).alloc (by have := H2.out.2.2.2.size; simp at this; omega) _
  obtain ⟨hm1, hrow⟩ := holds_row H2.out.2.1
  have HG : ∃ g, (0 < m1 → p1 = some ⟨g, 0, none⟩) ∧ OverAt w1.heap.size w2.heap.size g m1 W4 W4 := by
    by_cases h0 : 0 < m1
    · obtain ⟨g, cur, h1, h2, h3, h4⟩ := hrow h0
      have hg := (Array.getElem?_eq_some_iff.1 h3).1
      exact ⟨g, fun _ => h1, rfl, rfl, rfl, rfl, fun _ _ => rfl, fun _ => ⟨h2, hg, cur, by rw [old4 g (by omega), H3.out.2.1.block g (by simp; omega), Go.heap_alloc_old _ _ hg]; exact h3, h4⟩⟩
    · exact ⟨0, fun h => absurd h h0, rfl, rfl, rfl, rfl, fun _ _ => rfl, fun h => absurd h h0⟩
  obtain ⟨g, hp1, HO⟩ := HG
  have hA2' : Holds (Old w3.heap.size) W4 (.agg #[.int .i64 k2, .int .i64 n2, .string t2, .slice p2 m2 a2, .slice q2 c2 d2]) x2 := H3.out.1.frame (fun _ b _ _ h => old4 b h.lt) (fun _ _ _ _ h => h.lt)
  have HF := Lib.hid (And.intro s4 (And.intro DA (And.intro DB (And.intro DX (And.intro BW4 (And.intro A4 (And.intro z3 (And.intro z4 hb4))))))))
  have HW4 := Lib.hid hW4
  have HP := Lib.hid hp1
  have HO := Lib.hid HO
  have HO4 := Lib.hid old4
  clear s4 DA DB DX BW4 A4 z3 z4 hrow hA2' old4 hb4
  go_wp2_with fail
  rw [← hW4]
  clear hp1 hW4
  go_loopw [10] (fun i wr => ∃ j : Nat, j ≤ m1 ∧ i = .int .i64 j ∧ Hid (OverAt w1.heap.size w2.heap.size g m1 W4 wr)) (fun i _ => m1 - (intOf i).toNat)
  case atStart => exact ⟨0, Nat.zero_le _, rfl, HO⟩
  case round =>
    clear HO
    obtain ⟨j, hj, rfl, hat⟩ := hrel
    have C3 : wr.cell? ⟨w2.heap.size, 3, none⟩ = some (.slice p1 m1 a1) := cell_of_row wr _ 3 _ _ _ ((hat.out.block _ (.inr (Nat.le_refl _))).trans HF.out.2.1)
    by_cases hjm : j < m1
    · obtain rfl := HP.out (by omega)
      obtain ⟨g1, g2, cur, g3, g4⟩ := hat.out.row (by omega)
      have a0 : wr.cell? ⟨g, j * 5, none⟩ = some (cur[j * 5]'(by omega)) := (cell_of_row wr g (j * 5) _ _ _ g3).trans (Array.getElem?_eq_getElem (by omega))
      have a1 : wr.cell? ⟨g, j * 5 + 1, none⟩ = some (cur[j * 5 + 1]'(by omega)) := (cell_of_row wr g (j * 5 + 1) _ _ _ g3).trans (Array.getElem?_eq_getElem (by omega))
      have a2 : wr.cell? ⟨g, j * 5 + 2, none⟩ = some (cur[j * 5 + 2]'(by omega)) := (cell_of_row wr g (j * 5 + 2) _ _ _ g3).trans (Array.getElem?_eq_getElem (by omega))
      have a3 : wr.cell? ⟨g, j * 5 + 3, none⟩ = some (cur[j * 5 + 3]'(by omega)) := (cell_of_row wr g (j * 5 + 3) _ _ _ g3).trans (Array.getElem?_eq_getElem (by omega))
      have a4 : wr.cell? ⟨g, j * 5 + 4, none⟩ = some (cur[j * 5 + 4]'(by omega)) := (cell_of_row wr g (j * 5 + 4) _ _ _ g3).trans (Array.getElem?_eq_getElem (by omega))
      have f0 := frozen_of_row wr g (j * 5) _ _ g3
      have f1 := frozen_of_row wr g (j * 5 + 1) _ _ g3
      have f2 := frozen_of_row wr g (j * 5 + 2) _ _ g3
      have f3 := frozen_of_row wr g (j * 5 + 3) _ _ g3
      have f4 := frozen_of_row wr g (j * 5 + 4) _ _ g3
      generalize cur[j * 5]'_ = o0 at a0
      generalize cur[j * 5 + 1]'_ = o1 at a1
      generalize cur[j * 5 + 2]'_ = o2 at a2
      generalize cur[j * 5 + 3]'_ = o3 at a3
      generalize cur[j * 5 + 4]'_ = o4 at a4
      have i1 : (0 : Int) ≤ (j : Int) := by omega
      have i2 : (j : Int) < (m1 : Int) := by omega
      have HN : Hid (OverAt w1.heap.size w2.heap.size g m1 W4 (over5 wr g j)) := hat.out.over hjm
      clear g1 g2 g3 g4
      go_wp2_with fail
      go_roundw
      case rel => exact ⟨j + 1, by omega, by go_num, HN⟩
      case measure => simp [intOf]; omega
    · have hge : (m1 : Int) ≤ (j : Int) := by omega
      have hbl : ∀ b, w2.heap.size ≤ b → wr.heap[b]? = W4.heap[b]? := fun b hb => hat.out.block b (.inr hb)
      obtain ⟨x0, x1', x2', x3, x4⟩ := five5 ((hbl _ (by have := HF.out.2.2.2.2.2.2.1; omega)).trans HF.out.2.2.1)
      obtain ⟨y0, y1, y2, y3, y4⟩ := five5 ((hbl _ (by have := HF.out.2.2.2.2.2.2.1; have := HF.out.2.2.2.2.2.2.2.1; omega)).trans HF.out.2.2.2.1)
      have hsz : wr.heap.size = w4.heap.size + 1 := hat.out.size.trans HF.out.1
      have hB : Holds (Old wr.heap.size) wr (.agg #[.int .i64 k2, .int .i64 n2, .string t2, .slice p2 m2 a2, .slice q2 c2 d2]) x2 :=
        H3.out.1.frame (fun _ b _ _ h => (hbl b (by have := h.1; simp at this; omega)).trans (HO4.out b h.lt)) (fun _ b _ _ h => by have := h.lt; have := HF.out.2.2.2.2.2.2.2.1; show b < _; omega)
      have hX : Holds (Old wr.heap.size) wr (.agg #[.int .i64 k4, .int .i64 n4, .string t4, .slice p4 m4 a4, .slice q4 c4 d4]) x2 :=
        HF.out.2.2.2.2.2.1.frame (fun _ b _ _ h => by
          have h1 := h.1
          have h2 := h.lt
          simp at h1
          rw [hbl b (by have := HF.out.2.2.2.2.2.2.1; omega), HW4.out, Go.heap_alloc_old _ _ h2]) (fun _ b _ _ h => by have := h.lt; show b < _; omega)
      have hsame := same_c wr.heap.size wr hB _ hX wr (Nat.le_refl _) (Below.refl _ _)
      have BE : Below W.heap.size W wr := by
        have hw := HF.out.2.2.2.2.1
        have := B1.out.size
        exact ⟨hat.out.os.trans hw.os, hat.out.tape.trans hw.tape, hat.out.output.trans hw.output, by rw [hat.out.size]; exact hw.size, fun b hb => (hat.out.block b (.inl (by omega))).trans (hw.block b hb)⟩
      have HE := Lib.hid BE
      clear hB hX hsz hbl BE
      go_wp2_with fail
      refine hsame.mono ?_
      rintro e w9 ⟨rfl, hb9⟩
      go_wp2_with fail
      go_ret
      exact ⟨rfl, HE.out.trans (hb9.mono HE.out.size)⟩
end Go.Proofs.YtgfbednfiejlfaaGreatDoor.Rd

/-
  Plainly: what the reader reads is a value whose literal is the text.
-/
namespace Go.Proofs.YtgfbednfiejlfaaGreatDoor.Rd
open Go.RowKit Go.Proofs.YtgfbednfiejlfaaGreatDoor.Oct Go.Proofs.YtgfbednfiejlfaaGreatDoor.Val Go.Proofs.YtgfbednfiejlfaaGreatDoor.Lit Go.Proofs.YtgfbednfiejlfaaGreatDoor.Tl

theorem prefix_cut {s p : List UInt8} (h : Lib.hasPrefix s p = true) : s = p ++ s.drop p.length := by
  unfold Lib.hasPrefix at h
  obtain ⟨t, rfl⟩ := List.isPrefixOf_iff_prefix.1 h
  simp

theorem take_suf {n : Nat} {l a t : List UInt8} (h : takeP n l = some (a, t)) : t <:+ l := by
  unfold takeP at h
  split at h
  · injection h with h
    injection h with h1 h2
    rw [← h2]
    exact List.drop_suffix _ _
  · cases h
theorem unit_suf {l t : List UInt8} {n : Nat} (h : unitP l = some (n, t)) : t <:+ l := by
  unfold unitP at h
  split at h
  · cases hk : takeP 4 (l.drop 2) with
    | none => rw [hk] at h; cases h
    | some q =>
      obtain ⟨a, u⟩ := q
      rw [hk] at h
      simp only at h
      split at h
      · injection h with h
        injection h with h1 h2
        rw [← h2]
        exact (take_suf hk).trans (List.drop_suffix _ _)
      · cases h
  · cases h
theorem enc_suf {c : Int} {t a u : List UInt8} (h : encP c t = some (a, u)) : u = t := by
  unfold encP at h
  split at h
  · injection h with h
    injection h with h1 h2
    exact h2.symm
  · cases h
theorem char_suf {l a t : List UInt8} (h : charP l = some (a, t)) : t <:+ l := by
  unfold charP at h
  split at h
  · cases hk : unitP l with
    | none => rw [hk] at h; cases h
    | some q =>
      obtain ⟨c, u⟩ := q
      rw [hk] at h
      simp only at h
      split at h
      · cases hk2 : unitP u with
        | none => rw [hk2] at h; cases h
        | some q2 =>
          obtain ⟨d, u2⟩ := q2
          rw [hk2] at h
          simp only at h
          rw [enc_suf h]
          exact (unit_suf hk2).trans (unit_suf hk)
      · rw [enc_suf h]
        exact unit_suf hk
  · exact take_suf h
theorem inside_suf (f : Nat) : ∀ (l acc a t : List UInt8), insideF f l acc = some (a, t) → t <:+ l := by
  induction f with
  | zero => intro l acc a t h; cases h
  | succ f ih =>
    intro l acc a t h
    rw [insideF] at h
    split at h
    · injection h with h
      injection h with h1 h2
      rw [← h2]
      exact List.drop_suffix _ _
    · cases hk : charP l with
      | none => rw [hk] at h; cases h
      | some q =>
        obtain ⟨b, u⟩ := q
        rw [hk] at h
        exact (ih u (acc ++ b) a t h).trans (char_suf hk)
theorem inner_suf {l a t : List UInt8} (h : innerP l = some (a, t)) : t <:+ l := by
  unfold innerP at h
  split at h
  · exact (inside_suf _ _ _ _ _ h).trans (List.drop_suffix _ _)
  · cases h
theorem text_lit {s a t : List UInt8} (h : textP s = some (a, t)) : s = quoteL (S a) ++ t := by
  unfold textP at h
  cases hi : innerP s with
  | none => rw [hi] at h; cases h
  | some q =>
    obtain ⟨a', t'⟩ := q
    rw [hi] at h
    simp only at h
    split at h
    · rename_i hq
      injection h with h
      injection h with h1 h2
      subst h1 h2
      obtain ⟨p, rfl⟩ := inner_suf hi
      rw [hq]
      simp
    · cases h
theorem number_lit {s t : List UInt8} {n : Int} (h : numberP s = some (n, t)) : s = litI n ++ t := by
  unfold numberP at h
  split at h
  · split at h
    · rename_i hp
      injection h with h
      injection h with h1 h2
      have := prefix_cut hp
      rw [h1] at this h2
      rw [← h2]
      exact this
    · cases h
  · cases h

theorem join_keys (r : Bool) (ks e : List ByteArray) (ts : List (List UInt8)) : ∀ n, n ≤ ks.length → joinK r (ks ++ e) ts n = joinK r ks ts n
  | 0, _ => rfl
  | n + 1, h => by
    have hk : keyAt r (ks ++ e) n = keyAt r ks n := by
      unfold keyAt
      rw [List.getElem?_append_left (by omega)]
    rw [joinK, joinK, join_keys r ks e ts n (by omega), hk]
theorem join_vals (r : Bool) (ks : List ByteArray) (ts u : List (List UInt8)) : ∀ n, n ≤ ts.length → joinK r ks (ts ++ u) n = joinK r ks ts n
  | 0, _ => rfl
  | n + 1, h => by
    have hk : (ts ++ u).getD n [] = ts.getD n [] := by
      rw [List.getD_eq_getElem?_getD, List.getD_eq_getElem?_getD, List.getElem?_append_left (by omega)]
    rw [joinK, joinK, join_vals r ks ts u n (by omega), hk]
theorem key_none_at (r : Bool) (ks : List ByteArray) (n : Nat) (h : ks.length ≤ n) : keyAt r ks n = [] := by
  unfold keyAt
  rw [List.getElem?_eq_none h]
  split <;> rfl
theorem key_last (ks : List ByteArray) (key : ByteArray) : keyAt true (ks ++ [key]) ks.length = quoteL key ++ [58] := by
  unfold keyAt
  rw [List.getElem?_concat_length]
  rfl

/-- Which brackets. -/
abbrev Fr.isRec (f : Fr) : Bool := decide (f.kind = 6)
/-- What stands of one that has begun, up to where a value is due. -/
def frT (f : Fr) : List UInt8 := (if f.kind = 6 then [123] else [91]) ++ (joinK f.isRec f.ks (litAll f.xs) f.xs.length ++ ((if f.xs.length = 0 then [] else [44]) ++ keyAt f.isRec f.ks f.xs.length))
def preT (fs : List Fr) : List UInt8 := fs.flatMap frT
structure FrOk (f : Fr) : Prop where
  kind : f.kind = 5 ∨ f.kind = 6
  keys : f.ks.length ≤ f.xs.length + 1
  plain : ∀ x ∈ f.xs, plainV x = true

theorem pre_snoc (fs : List Fr) (f : Fr) : preT (fs ++ [f]) = preT fs ++ frT f := by simp [preT]

theorem fr_items (f : Fr) (x : V) : joinK f.isRec f.ks (litAll (f.xs ++ [x])) (f.xs.length + 1) = joinK f.isRec f.ks (litAll f.xs) f.xs.length ++ ((if f.xs.length = 0 then [] else [44]) ++ (keyAt f.isRec f.ks f.xs.length ++ litL x)) := by
  have e : litAll (f.xs ++ [x]) = litAll f.xs ++ [litL x] := by rw [litAll_eq, litAll_eq]; simp
  have hl : (litAll f.xs).length = f.xs.length := litAll_len _
  rw [e, joinK, join_vals _ _ _ _ _ (by omega)]
  have hg : (litAll f.xs ++ [litL x]).getD f.xs.length [] = litL x := by
    rw [List.getD_eq_getElem?_getD, ← hl, List.getElem?_concat_length]
    rfl
  rw [hg]

theorem fr_add (f : Fr) (h : FrOk f) (x : V) : frT (f.add x) = frT f ++ (litL x ++ [44]) := by
  have h1 := fr_items f x
  have h2 : keyAt f.isRec f.ks (f.xs.length + 1) = [] := key_none_at _ _ _ h.keys
  unfold frT
  simp only [Fr.isRec] at h1 h2 ⊢
  simp only [List.length_append, List.length_cons, List.length_nil, Nat.zero_add]
  rw [h1, h2]
  simp

theorem fr_end (f : Fr) (h : FrOk f) (x : V) : litL (f.add x).val = frT f ++ (litL x ++ endL f.kind) := by
  have h1 := fr_items f x
  have hl : (litAll (f.xs ++ [x])).length = f.xs.length + 1 := by rw [litAll_len]; simp
  have hk := h.kind
  clear h
  obtain ⟨k, xs, ks⟩ := f
  have hk : k = 5 ∨ k = 6 := hk
  have hl : (litAll (xs ++ [x])).length = xs.length + 1 := hl
  rcases hk with rfl | rfl
  · have h1 : joinK false ks (litAll (xs ++ [x])) (xs.length + 1) = joinK false ks (litAll xs) xs.length ++ ((if xs.length = 0 then [] else [44]) ++ (keyAt false ks xs.length ++ litL x)) := h1
    show litL (.mk 5 0 ⟨#[]⟩ (xs ++ [x]) ks) = ([91] ++ (joinK false ks (litAll xs) xs.length ++ ((if xs.length = 0 then [] else [44]) ++ keyAt false ks xs.length))) ++ (litL x ++ [93])
    have e : litL (.mk 5 0 ⟨#[]⟩ (xs ++ [x]) ks) = brackL 91 93 (joinK false ks (litAll (xs ++ [x])) (litAll (xs ++ [x])).length) := by simp [litL]
    rw [e, hl, h1]
    simp [brackL]
  · have h1 : joinK true ks (litAll (xs ++ [x])) (xs.length + 1) = joinK true ks (litAll xs) xs.length ++ ((if xs.length = 0 then [] else [44]) ++ (keyAt true ks xs.length ++ litL x)) := h1
    show litL (.mk 6 0 ⟨#[]⟩ (xs ++ [x]) ks) = ([123] ++ (joinK true ks (litAll xs) xs.length ++ ((if xs.length = 0 then [] else [44]) ++ keyAt true ks xs.length))) ++ (litL x ++ [125])
    have e : litL (.mk 6 0 ⟨#[]⟩ (xs ++ [x]) ks) = brackL 123 125 (joinK true ks (litAll (xs ++ [x])) (litAll (xs ++ [x])).length) := by simp [litL]
    rw [e, hl, h1]
    simp [brackL]

theorem FrOk.add {f : Fr} (h : FrOk f) {x : V} (hx : plainV x = true) : FrOk (f.add x) :=
  ⟨h.kind, by show f.ks.length ≤ (f.xs ++ [x]).length + 1; have := h.keys; simp; omega, fun y hy => by
    rcases List.mem_append.1 hy with hy | hy
    · exact h.plain y hy
    · rw [List.mem_singleton.1 hy]; exact hx⟩
theorem FrOk.val {f : Fr} (h : FrOk f) : plainV f.val = true := by
  show plainV (.mk f.kind 0 ⟨#[]⟩ f.xs f.ks) = true
  rw [plainV, plainAll_eq]
  have : f.xs.all plainV = true := List.all_eq_true.2 h.plain
  rw [this]
  rcases h.kind with e | e <;> rw [e] <;> rfl

/-- What a part leaves keeps the text. -/
def PartOk (s : List UInt8) (fs : List Fr) : PR → Prop
  | .bad => True
  | .val x s' fs' _ => fs' = fs ∧ plainV x = true ∧ s = litL x ++ s'
  | .more s' fs' _ => (∀ f ∈ fs', FrOk f) ∧ preT fs' ++ s' = preT fs ++ s

theorem begin_ok (k : Int) (hk : k = 5 ∨ k = 6) (s s0 : List UInt8) (fs : List Fr) (d : Nat) (h : ∀ f ∈ fs, FrOk f) (h0 : s0 = (if k = 6 then [123] else [91]) ++ s) : PartOk s0 fs (beginP k s fs d) := by
  have hf : FrOk (fresh0 k) := ⟨hk, by simp, fun x hx => by cases hx⟩
  unfold beginP
  split
  · rename_i hp
    have hc := prefix_cut hp
    refine ⟨rfl, hf.val, ?_⟩
    rw [h0, hc]
    rcases hk with rfl | rfl <;> simp [litL, litAll, brackL, joinK, endL]
  · refine ⟨fun f hm => ?_, ?_⟩
    · rcases List.mem_append.1 hm with hm | hm
      · exact h f hm
      · rw [List.mem_singleton.1 hm]; exact hf
    · rw [pre_snoc, h0]
      have : frT (fresh0 k) = if k = 6 then [123] else [91] := by
        unfold frT
        simp [joinK, key_none_at]
      rw [this, List.append_assoc]

theorem key_ok {fs fs' : List Fr} {key : ByteArray} (hk : keyP fs key = some fs') (h : ∀ f ∈ fs, FrOk f) : (∀ f ∈ fs', FrOk f) ∧ preT fs' = preT fs ++ (quoteL key ++ [58]) := by
  rcases List.eq_nil_or_concat fs with rfl | ⟨fs0, f, rfl⟩
  · cases hk
  · rw [List.concat_eq_append] at hk h ⊢
    unfold keyP at hk
    rw [List.getLast?_concat, List.dropLast_concat] at hk
    simp only at hk
    split at hk
    · rename_i hc
      obtain ⟨c1, c2⟩ := hc
      injection hk with hk
      have hf := h f (by simp)
      rw [← hk]
      refine ⟨fun g hm => ?_, ?_⟩
      · rcases List.mem_append.1 hm with hm | hm
        · exact h g (by simp [hm])
        · rw [List.mem_singleton.1 hm]
          exact ⟨hf.kind, by simp; omega, hf.plain⟩
      · rw [pre_snoc, pre_snoc, List.append_assoc]
        congr 1
        unfold frT
        simp only [Fr.isRec, c1, decide_true, if_true]
        rw [join_keys true f.ks [key] (litAll f.xs) f.xs.length (by omega), ← c2, key_last, key_none_at true f.ks f.ks.length (Nat.le_refl _)]
        simp
    · cases hk

theorem leaf_plain (k n : Int) (t : ByteArray) (h : k < 7) : plainV (leafV k n t) = true := by
  rw [plainV, plainAll]
  simp [h]

theorem part_ok (s : List UInt8) (fs : List Fr) (d : Nat) (h : ∀ f ∈ fs, FrOk f) : PartOk s fs (partP s fs d) := by
  unfold partP
  split
  · rename_i hp; exact ⟨rfl, leaf_plain _ _ _ (by decide), by simpa [litL] using prefix_cut hp⟩
  · split
    · rename_i hp; exact ⟨rfl, leaf_plain _ _ _ (by decide), by simpa [litL] using prefix_cut hp⟩
    · split
      · rename_i hp; exact ⟨rfl, leaf_plain _ _ _ (by decide), by simpa [litL] using prefix_cut hp⟩
      · split
        · rename_i hp; exact begin_ok 5 (.inl rfl) _ _ fs d h (by simpa using prefix_cut hp)
        · split
          · rename_i hp; exact begin_ok 6 (.inr rfl) _ _ fs d h (by simpa using prefix_cut hp)
          · split
            · unfold textOrKeyP
              cases ht : textP s with
              | none => trivial
              | some q =>
                obtain ⟨a, t⟩ := q
                have hl := text_lit ht
                simp only
                split
                · rename_i hp
                  have h1 := prefix_cut hp
                  cases hk : keyP fs (S a) with
                  | none => trivial
                  | some fs' =>
                    obtain ⟨g1, g2⟩ := key_ok hk h
                    refine ⟨g1, ?_⟩
                    rw [g2, hl]
                    simp only [List.append_assoc]
                    congr 2
                    simpa using h1.symm
                · exact ⟨rfl, leaf_plain _ _ _ (by decide), by rw [hl]; simp [litL]⟩
            · cases hn : numberP s with
              | none => trivial
              | some q =>
                obtain ⟨n, t⟩ := q
                exact ⟨rfl, leaf_plain _ _ _ (by decide), by rw [number_lit hn]; simp [litL, litI]⟩

/-- What has been read, and what is left. -/
def Cfg.text : Cfg → List UInt8
  | .loop s fs _ => preT fs ++ s
  | .close x s fs _ => preT fs ++ (litL x ++ s)
def Cfg.ok : Cfg → Prop
  | .loop _ fs _ => ∀ f ∈ fs, FrOk f
  | .close x _ fs _ => plainV x = true ∧ ∀ f ∈ fs, FrOk f

theorem step_ok (c c' : Cfg) (h : c.ok) (hs : step c = .inl c') : c'.ok ∧ c'.text = c.text := by
  cases c with
  | loop s fs d =>
    have hp := part_ok s fs d h
    unfold step at hs
    simp only at hs
    cases hk : partP s fs d with
    | bad => rw [hk] at hs; cases hs
    | val x s' fs' d' =>
      rw [hk] at hs hp
      injection hs with hs
      obtain ⟨h1, h2, h3⟩ := hp
      rw [← hs, h1]
      exact ⟨⟨h2, h⟩, by show preT fs ++ (litL x ++ s') = preT fs ++ s; rw [← h3]⟩
    | more s' fs' d' =>
      rw [hk] at hs hp
      injection hs with hs
      rw [← hs]
      exact hp
  | close x s fs d =>
    obtain ⟨hx, hf⟩ := h
    rcases List.eq_nil_or_concat fs with rfl | ⟨fs0, f, rfl⟩
    · rw [close_nil] at hs; cases hs
    · rw [List.concat_eq_append] at hs hf ⊢
      rw [close_last] at hs
      have hff := hf f (by simp)
      split at hs
      · rename_i hp
        have hc := prefix_cut hp
        injection hs with hs
        rw [← hs]
        refine ⟨fun g hm => ?_, ?_⟩
        · rcases List.mem_append.1 hm with hm | hm
          · exact hf g (by simp [hm])
          · rw [List.mem_singleton.1 hm]; exact hff.add hx
        · show preT (fs0 ++ [f.add x]) ++ s.drop 1 = preT (fs0 ++ [f]) ++ (litL x ++ s)
          rw [pre_snoc, pre_snoc, fr_add f hff]
          simp only [List.append_assoc]
          congr 3
          simpa using hc.symm
      · split at hs
        · rename_i hp
          have hc := prefix_cut hp
          rw [endL_len] at hc
          injection hs with hs
          rw [← hs]
          refine ⟨⟨(hff.add hx).val, fun g hm => hf g (by simp [hm])⟩, ?_⟩
          show preT fs0 ++ (litL (f.add x).val ++ s.drop 1) = preT (fs0 ++ [f]) ++ (litL x ++ s)
          rw [pre_snoc, fr_end f hff]
          simp only [List.append_assoc]
          congr 3
          exact hc.symm
        · cases hs

theorem leads_lit {c : Cfg} {o : Out} (h : Leads c o) : c.ok → ∀ x t d, o = .done x t d → plainV x = true ∧ litL x ++ t = c.text := by
  induction h with
  | @stop c o hs =>
    intro hc x t d ho
    subst ho
    cases c with
    | loop s fs d' =>
      unfold step at hs
      simp only at hs
      cases hk : partP s fs d' <;> rw [hk] at hs <;> simp at hs
    | close y s fs d' =>
      rcases List.eq_nil_or_concat fs with rfl | ⟨fs0, f, rfl⟩
      · rw [close_nil] at hs
        injection hs with hs
        injection hs with h1 h2 h3
        subst h1 h2
        exact ⟨hc.1, rfl⟩
      · rw [List.concat_eq_append, close_last] at hs
        split at hs
        · cases hs
        · split at hs <;> simp at hs
  | next hs k ih =>
    intro hc x t d ho
    obtain ⟨h1, h2⟩ := step_ok _ _ hc hs
    rw [← h2]
    exact ih h1 x t d ho

/-- What is read whole is a plain value, and the text is its literal. -/
theorem read_lit {s : List UInt8} {x : V} {d : Nat} (h : Leads (.loop s [] 0) (.done x [] d)) : plainV x = true ∧ litL x = s := by
  obtain ⟨h1, h2⟩ := leads_lit h (fun f hf => by cases hf) x [] d rfl
  exact ⟨h1, by simpa [Cfg.text, preT] using h2⟩
end Go.Proofs.YtgfbednfiejlfaaGreatDoor.Rd

/-
  Contracts of literal.tellKey and of tell's two closures, and of tellEach at whatever function value stands ahead.
-/
namespace Go.Proofs.YtgfbednfiejlfaaGreatDoor.Tl
open Go.RowKit Go.Proofs.YtgfbednfiejlfaaGreatDoor.Oct Go.Proofs.YtgfbednfiejlfaaGreatDoor.Num Go.Proofs.YtgfbednfiejlfaaGreatDoor.Utf Go.Proofs.YtgfbednfiejlfaaGreatDoor.Build Go.Proofs.YtgfbednfiejlfaaGreatDoor.Val Go.Proofs.YtgfbednfiejlfaaGreatDoor.Lit

theorem enter_ahead1 : ∀ args w, (callFunc 38 args).run Tryz.prog w = .ok (.enter 38 args) w := enters_of Tryz.func38 (by kernel_rfl) rfl
theorem enter_ahead2 : ∀ args w, (callFunc 39 args).run Tryz.prog w = .ok (.enter 39 args) w := enters_of Tryz.func39 (by kernel_rfl) rfl
theorem ahead1_c (k : Int) (w : World) : Calls Tryz.prog 38 #[.int .i64 k] w fun e w' => e = .returned (.tuple #[]) ∧ w' = w := by
  go_enter Tryz.func38, Tryz.ntmps38
  go_wp2
  go_end0
  exact ⟨rfl, rfl⟩

theorem Put.none {B b : Nat} {l : List UInt8} {w : World} (h : Has B b l w) : Put B b l w (.returned (.tuple #[])) w := ⟨rfl, h, Below.refl _ _, Lib.OthersKept.refl _ _ _⟩

set_option maxHeartbeats 1000000 in
set_option maxRecDepth 100000 in
theorem tellKey_c (B b : Nat) (l : List UInt8) (ks : List ByteArray) (q : Option Addr) (qc qb qo k : Nat) (w : World) (h : Has B b l w) (hlen : l.length + (keyAt true ks k).length + 16 ≤ 140737488355328) (hBw : B ≤ w.heap.size) (hT : ∀ W, Below B w W → Tabs W)
    (hks : (keyAt true ks k).length ≤ 4398046511104) (hn : ks.length ≤ 140737488351232) (hk : k ≤ 140737488351232) (hq : 0 < ks.length → q = some ⟨qb, qo, none⟩) (keys : ∀ i (h : i < ks.length), w.cell? ⟨qb, qo + i, none⟩ = some (.string ks[i])) :
    Calls Tryz.prog 40 #[.slice q ks.length qc, .int .i64 (k : Int), putG b] w (Put B b (l ++ keyAt true ks k) w) := by
  have e9 := enter_put
  have i0 : (0 : Int) ≤ (k : Int) := by omega
  by_cases hlt : k < ks.length
  · have e0 : keyAt true ks k = quoteL ks[k] ++ [58] := by simp [keyAt, hlt]
    rw [e0] at hlen hks ⊢
    rw [List.length_append, List.length_singleton] at hlen hks
    have hwd := quoteL_wide ks[k]
    obtain rfl := hq (by omega)
    have c0 := keys k hlt
    have ht := tellText_c B b l ks[k] (by omega) w h (by omega) hBw hT
    have HC := Lib.hid (fun w1 (h1 : Put B b (l ++ quoteL ks[k]) w (.returned (.tuple #[])) w1) => put_c B b (l ++ quoteL ks[k]) [58] w1 h1.2.1 (by rw [List.length_append, List.length_singleton]; omega) (Nat.le_trans hBw h1.2.2.1.size))
    have i1 : (k : Int) < (ks.length : Int) := by omega
    have e3 : Hid (l ++ (quoteL ks[k] ++ [58]) = (l ++ quoteL ks[k]) ++ [58]) := by show _ = _; simp
    clear e0 hlen hks hwd keys h hT hBw hq
    generalize ks[k] = s at c0 ht HC e3
    go_enter Tryz.func40, Tryz.ntmps40
    go_wp2_with (first
      | (go_at_call 27; refine ht.mono ?_; rintro e w1 h1; obtain rfl := h1.1; have hc := HC.out w1 h1; have H1 := Lib.hid h1; clear h1)
      | (go_at_fn 33; refine hc.mono ?_; rintro e w2 h2; obtain rfl := h2.1))
    go_end0
    rw [e3.out]
    exact ⟨rfl, h2.2.1, H1.out.2.2.1.trans h2.2.2.1, H1.out.2.2.2.trans h2.2.2.2⟩
  · have e0 : keyAt true ks k = [] := by simp [keyAt, List.getElem?_eq_none (Nat.le_of_not_lt hlt)]
    rw [e0, List.append_nil]
    have i1 : ¬ (k : Int) < (ks.length : Int) := by omega
    have HP := Lib.hid (Put.none h)
    clear e0 hlen hks keys h hT hBw hq
    go_enter Tryz.func40, Tryz.ntmps40
    go_wp2
    go_end0
    exact HP.out

set_option maxHeartbeats 1000000 in
set_option maxRecDepth 100000 in
/-- The closure that tells a record's keys. -/
theorem ahead2_c (B b : Nat) (l : List UInt8) (ks : List ByteArray) (q : Option Addr) (qc k vb : Nat) (u0 u1 u2 u3 : Value) (w : World) (hv : w.heap[vb]? = some (.cells #[u0, u1, u2, u3, .slice q ks.length qc] 26 (0, 0)) ∧ w.heap[vb + 1]? = some (.cells #[putG b] 46 (0, 0)))
    (ht : Calls Tryz.prog 40 #[.slice q ks.length qc, .int .i64 (k : Int), putG b] w (Put B b (l ++ keyAt true ks k) w)) :
    Calls Tryz.prog 39 #[.int .i64 (k : Int), .pointer (some ⟨vb, 0, none⟩), .pointer (some ⟨vb + 1, 0, none⟩)] w (Put B b (l ++ keyAt true ks k) w) := by
  obtain ⟨c0, c1, c2, c3, c4, c5⟩ := two' hv
  clear hv
  go_enter Tryz.func39, Tryz.ntmps39
  go_wp2_with (go_at_call 40; refine ht.mono ?_; rintro e w1 h1; obtain rfl := h1.1)
  go_end0
  exact h1
end Go.Proofs.YtgfbednfiejlfaaGreatDoor.Tl

/-
  Contract of literal.tellEach, at whatever function value stands ahead and whatever the items tell.
-/
namespace Go.Proofs.YtgfbednfiejlfaaGreatDoor.Tl
open Go.RowKit Go.Proofs.YtgfbednfiejlfaaGreatDoor.Oct Go.Proofs.YtgfbednfiejlfaaGreatDoor.Num Go.Proofs.YtgfbednfiejlfaaGreatDoor.Utf Go.Proofs.YtgfbednfiejlfaaGreatDoor.Build Go.Proofs.YtgfbednfiejlfaaGreatDoor.Val Go.Proofs.YtgfbednfiejlfaaGreatDoor.Lit

/-- What holds between two puts behind the start W. -/
def AtL (B b : Nat) (l : List UInt8) (W X : World) : Prop := Has B b l X ∧ Below B W X ∧ Others b W X
theorem AtL.put {B b : Nat} {l l' : List UInt8} {W X Y : World} {e : Ending} (h : AtL B b l W X) (hp : Put B b l' X e Y) : AtL B b l' W Y := ⟨hp.2.1, h.2.1.trans hp.2.2.1, h.2.2.trans hp.2.2.2⟩
theorem AtL.alloc {B b : Nat} {l : List UInt8} {W X : World} (h : AtL B b l W X) (hB : B ≤ W.heap.size) (o : Obj) : AtL B b l W (X.alloc o) :=
  ⟨has_below h.1 ((Below.refl _ X).alloc (Nat.le_refl _) _), h.2.1.alloc (Nat.le_trans hB h.2.1.size) o, h.2.2.alloc o⟩
theorem AtL.size {B b : Nat} {l : List UInt8} {W X : World} (h : AtL B b l W X) (hB : B ≤ W.heap.size) : B ≤ X.heap.size := Nat.le_trans hB h.2.1.size

abbrev box5 (u0 u1 u2 u3 u4 : Value) : Obj := .cells #[u0, u1, u2, u3, u4] 26
/-- The item's box, read. -/
def Box5 (r : Nat) (u0 u1 u2 u3 u4 : Value) (Y : World) : Prop := Y.heap[r]? = some (.cells #[u0, u1, u2, u3, u4] 26 (0, 0))
theorem Box5.cells {r : Nat} {u0 u1 u2 u3 u4 : Value} {Y : World} (h : Box5 r u0 u1 u2 u3 u4 Y) : Y.cell? ⟨r, 0, none⟩ = some u0 ∧ Y.cell? ⟨r, 1, none⟩ = some u1 ∧ Y.cell? ⟨r, 2, none⟩ = some u2 ∧ Y.cell? ⟨r, 3, none⟩ = some u3 ∧ Y.cell? ⟨r, 4, none⟩ = some u4 :=
  ⟨cell_of_row Y _ 0 _ _ _ h, cell_of_row Y _ 1 _ _ _ h, cell_of_row Y _ 2 _ _ _ h, cell_of_row Y _ 3 _ _ _ h, cell_of_row Y _ 4 _ _ _ h⟩
theorem Box5.put {B b r : Nat} {l : List UInt8} {u0 u1 u2 u3 u4 : Value} {Y Z : World} {e : Ending} (h : Box5 r u0 u1 u2 u3 u4 Y) (hb : b < r) (hp : Put B b l Y e Z) : Box5 r u0 u1 u2 u3 u4 Z :=
  hp.2.2.2 _ _ h (by simp; omega) (fun c fz e => by cases e)

/-- What the first k items tell: a comma between, what stands ahead of each. -/
def joinG (hd ts : Nat → List UInt8) : Nat → List UInt8
  | 0 => []
  | k + 1 => joinG hd ts k ++ ((if k = 0 then [] else [44]) ++ (hd k ++ ts k))
theorem joinG_le (hd ts : Nat → List UInt8) {j k : Nat} (h : j ≤ k) : (joinG hd ts j).length ≤ (joinG hd ts k).length := by
  induction k with
  | zero => have : j = 0 := by omega
            subst this; exact Nat.le_refl _
  | succ k ih =>
    rcases Nat.lt_or_ge k j with h1 | h1
    · have : j = k + 1 := by omega
      subst this; exact Nat.le_refl _
    · have := ih h1
      simp only [joinG, List.length_append]
      omega

set_option maxHeartbeats 2000000 in
set_option maxRecDepth 100000 in
theorem tellEach_c (B b : Nat) (l : List UInt8) (g : Nat) (lb : Array Value) (hd ts : Nat → List UInt8) (p : Option Addr) (bl off n cap : Nat) (k1 n1 : Nat → Int) (s1 : Nat → ByteArray) (p1 q1 : Nat → Option Addr) (a1 b1 c1 d1 : Nat → Nat) (W : World)
    (h : Has B b l W) (hbig : l.length + (joinG hd ts n).length + 16 ≤ 140737488355328) (hBW : B ≤ W.heap.size) (hn : n ≤ 140737488351232)
    (hp : 0 < n → p = some ⟨bl, off, none⟩) (eg : ∀ args w, (callFunc g args).run Tryz.prog w = .ok (.enter g args) w)
    (hc : ∀ i, i < n → ∀ X, Below B W X → X.cell? ⟨bl, off + i * 5, none⟩ = some (.int .i64 (k1 i)) ∧ X.cell? ⟨bl, off + i * 5 + 1, none⟩ = some (.int .i64 (n1 i)) ∧ X.cell? ⟨bl, off + i * 5 + 2, none⟩ = some (.string (s1 i)) ∧ X.cell? ⟨bl, off + i * 5 + 3, none⟩ = some (.slice (p1 i) (a1 i) (b1 i)) ∧ X.cell? ⟨bl, off + i * 5 + 4, none⟩ = some (.slice (q1 i) (c1 i) (d1 i)))
    (ha : ∀ k, k < n → ∀ l' X, AtL B b l' W X → l'.length + (hd k).length + 16 ≤ 140737488355328 → Calls Tryz.prog g (#[.int .i64 (k : Int)] ++ lb) X (Put B b (l' ++ hd k) X))
    (hi : ∀ k, k < n → ∀ l' X, AtL B b l' W X → l'.length + (ts k).length + 16 ≤ 140737488355328 → Calls Tryz.prog 25 #[.agg #[.int .i64 (k1 k), .int .i64 (n1 k), .string (s1 k), .slice (p1 k) (a1 k) (b1 k), .slice (q1 k) (c1 k) (d1 k)], putG b] X (Put B b (l' ++ ts k) X)) :
    Calls Tryz.prog 37 #[.slice p n cap, putG b, .func (.func g) #[] lb] W (Put B b (l ++ joinG hd ts n) W) := by
  have e9 := enter_put
  have HH := Lib.hid (And.intro hbig (And.intro hBW (And.intro hc (And.intro ha hi))))
  have H0 := Lib.hid h
  have HP := Lib.hid hp
  clear h hbig hBW hc ha hi hp
  go_enter Tryz.func37, Tryz.ntmps37
  go_wp2_with fail
  go_loopw [6, 7, 10] (fun _ _ i wr => ∃ k : Nat, k ≤ n ∧ i = .int .i64 k ∧ Hid (AtL B b (l ++ joinG hd ts k) W wr)) (fun _ _ i _ => n - (intOf i).toNat)
  case atStart => exact ⟨0, Nat.zero_le _, rfl, by simpa [joinG] using H0.out, Below.refl _ _, Lib.OthersKept.refl _ _ _⟩
  case round =>
    obtain ⟨k, hk, rfl, hat⟩ := hrel
    by_cases hlt : k < n
    · obtain ⟨hbig, hBW, hc, ha, hi⟩ := HH.out
      obtain rfl := HP.out (by omega)
      have hbl := (has_lt hat.out.1).2
      obtain ⟨f0, f1, f2, f3, f4⟩ := hc k hlt wr hat.out.2.1
      have hle : l.length + (joinG hd ts (k + 1)).length + 16 ≤ 140737488355328 := by have := joinG_le hd ts (show k + 1 ≤ n by omega); omega
      have hA := ha k hlt
      have hI := hi k hlt
      clear hc ha hi hbig
      generalize k1 k = x0 at f0 hI
      generalize n1 k = x1 at f1 hI
      generalize s1 k = x2 at f2 hI
      generalize p1 k = x3 at f3 hI
      generalize a1 k = y3 at f3 hI
      generalize b1 k = z3 at f3 hI
      generalize q1 k = x4 at f4 hI
      generalize c1 k = y4 at f4 hI
      generalize d1 k = z4 at f4 hI
      have h1 : (0 : Int) ≤ (k : Int) := by omega
      have h2 : (k : Int) < (n : Int) := by omega
      obtain ⟨bx, hbx⟩ : ∃ bx, bx = box5 (.int .i64 x0) (.int .i64 x1) (.string x2) (.slice x3 y3 z3) (.slice x4 y4 z4) := ⟨_, rfl⟩
      have hat1 : AtL B b (l ++ joinG hd ts k) W (wr.alloc bx) := hat.out.alloc hBW _
      have hbox1 : Box5 wr.heap.size (.int .i64 x0) (.int .i64 x1) (.string x2) (.slice x3 y3 z3) (.slice x4 y4 z4) (wr.alloc bx) := by rw [hbx]; exact heap_alloc_new wr _
      by_cases hk0 : k = 0
      · have hjn : l ++ joinG hd ts (k + 1) = ((l ++ joinG hd ts k) ++ hd k) ++ ts k := by simp [joinG, hk0]
        have hlen := congrArg List.length hjn
        simp only [List.length_append] at hlen hle
        have hgo := hA _ _ hat1 (by simp only [List.length_append]; omega)
        have HT : Hid (∀ Y, Put B b ((l ++ joinG hd ts k) ++ hd k) (wr.alloc bx) (.returned (.tuple #[])) Y → (Y.cell? ⟨wr.heap.size, 0, none⟩ = some (.int .i64 x0) ∧ Y.cell? ⟨wr.heap.size, 1, none⟩ = some (.int .i64 x1) ∧ Y.cell? ⟨wr.heap.size, 2, none⟩ = some (.string x2) ∧ Y.cell? ⟨wr.heap.size, 3, none⟩ = some (.slice x3 y3 z3) ∧ Y.cell? ⟨wr.heap.size, 4, none⟩ = some (.slice x4 y4 z4)) ∧
            Calls Tryz.prog 25 #[.agg #[.int .i64 x0, .int .i64 x1, .string x2, .slice x3 y3 z3, .slice x4 y4 z4], putG b] Y (fun e Z => e = .returned (.tuple #[]) ∧ AtL B b (l ++ joinG hd ts (k + 1)) W Z)) := fun Y hY =>
          ⟨(hbox1.put hbl hY).cells, (hI _ _ (hat1.put hY) (by simp only [List.length_append]; omega)).mono fun e Z hZ => ⟨hZ.1, by rw [hjn]; exact (hat1.put hY).put hZ⟩⟩
        rw [hbx] at hgo HT
        clear hA hI hat1 hbox1 hlen hle hjn hbx hbl hBW
        subst hk0
        rw [Nat.zero_mul, Nat.add_zero] at f0 f1 f2 f3 f4
        go_wp2_with (first
          | (go_at_fn g; refine hgo.mono ?_; rintro e Y hY; obtain rfl := hY.1; obtain ⟨⟨v0, v1, v2, v3, v4⟩, hcall⟩ := HT.out Y hY; clear hY)
          | (go_at_call 25; refine hcall.mono ?_; rintro e Z ⟨rfl, hZ⟩; have HZ := Lib.hid hZ; clear hZ))
        go_roundw
        case rel => exact ⟨0 + 1, by omega, by go_num, HZ⟩
        case measure => simp [intOf]; omega
      · have hjn : l ++ joinG hd ts (k + 1) = (((l ++ joinG hd ts k) ++ [44]) ++ hd k) ++ ts k := by simp [joinG, hk0]
        have hlen := congrArg List.length hjn
        simp only [List.length_append, List.length_singleton] at hlen hle
        have hput := put_c B b (l ++ joinG hd ts k) [44] (wr.alloc bx) hat1.1 (by simp only [List.length_append, List.length_singleton]; omega) (hat1.size hBW)
        have HG : Hid (∀ X, Put B b ((l ++ joinG hd ts k) ++ [44]) (wr.alloc bx) (.returned (.tuple #[])) X → Calls Tryz.prog g (#[.int .i64 (k : Int)] ++ lb) X (Put B b (((l ++ joinG hd ts k) ++ [44]) ++ hd k) X)) := fun X hX =>
          hA _ _ (hat1.put hX) (by simp only [List.length_append, List.length_singleton]; omega)
        have HT : Hid (∀ X, Put B b ((l ++ joinG hd ts k) ++ [44]) (wr.alloc bx) (.returned (.tuple #[])) X → ∀ Y, Put B b (((l ++ joinG hd ts k) ++ [44]) ++ hd k) X (.returned (.tuple #[])) Y → (Y.cell? ⟨wr.heap.size, 0, none⟩ = some (.int .i64 x0) ∧ Y.cell? ⟨wr.heap.size, 1, none⟩ = some (.int .i64 x1) ∧ Y.cell? ⟨wr.heap.size, 2, none⟩ = some (.string x2) ∧ Y.cell? ⟨wr.heap.size, 3, none⟩ = some (.slice x3 y3 z3) ∧ Y.cell? ⟨wr.heap.size, 4, none⟩ = some (.slice x4 y4 z4)) ∧
            Calls Tryz.prog 25 #[.agg #[.int .i64 x0, .int .i64 x1, .string x2, .slice x3 y3 z3, .slice x4 y4 z4], putG b] Y (fun e Z => e = .returned (.tuple #[]) ∧ AtL B b (l ++ joinG hd ts (k + 1)) W Z)) := fun X hX Y hY =>
          ⟨((hbox1.put hbl hX).put hbl hY).cells, (hI _ _ ((hat1.put hX).put hY) (by simp only [List.length_append, List.length_singleton]; omega)).mono fun e Z hZ => ⟨hZ.1, by rw [hjn]; exact ((hat1.put hX).put hY).put hZ⟩⟩
        have hgt : (0 : Int) < (k : Int) := by omega
        rw [hbx] at hput HG HT
        clear hA hI hat1 hbox1 hlen hle hjn hbx hbl hBW
        go_wp2_with (first
          | (go_at_fn 33; refine hput.mono ?_; rintro e X hX; obtain rfl := hX.1; have hgo := HG.out X hX; have HT1 := Lib.hid (HT.out X hX); clear hX)
          | (go_at_fn g; refine hgo.mono ?_; rintro e Y hY; obtain rfl := hY.1; obtain ⟨⟨v0, v1, v2, v3, v4⟩, hcall⟩ := HT1.out Y hY; clear hY)
          | (go_at_call 25; refine hcall.mono ?_; rintro e Z ⟨rfl, hZ⟩; have HZ := Lib.hid hZ; clear hZ))
        go_roundw
        case rel => exact ⟨k + 1, by omega, by go_num, HZ⟩
        case measure => simp [intOf]; omega
    · have hkn : k = n := by omega
      subst hkn
      go_wp2
      go_end0
      exact ⟨rfl, hat.out⟩
end Go.Proofs.YtgfbednfiejlfaaGreatDoor.Tl
