/-
  Contract of marks.read: a text as a state.
-/
import Derived.Test.YtbpccbdgkkfdpaaDoorMksPrint
import Derived.Laws.CopyOwn
import Derived.Deep.RegionLaw
namespace Go.Proofs.YtbpccbdgkkfdpaaDoor.Mks
open Go.RowKit Go.Proofs.YtbpccbdgkkfdpaaDoor.Oct Go.Proofs.YtbpccbdgkkfdpaaDoor.Num Go.Proofs.YtbpccbdgkkfdpaaDoor.Scn Go.Proofs.YtbpccbdgkkfdpaaDoor.Tab Go.Proofs.YtbpccbdgkkfdpaaDoor.Pct Go.Proofs.YtbpccbdgkkfdpaaDoor.Utf
attribute [local go_sem ↓] Go.wp_at_zero Go.wp_at_succ

/-- The eight pieces as they lie in told. -/
def Ps (g : Nat) (t : List UInt8) (Y : World) : Prop := ∀ j, j < 8 → Y.cell? ⟨g, j, none⟩ = some (.string (pieceB t j))
theorem Ps.next {g : Nat} {t : List UInt8} {Y Z : World} (h : Ps g t Y) (b : Below Y.heap.size Y Z) : Ps g t Z := fun j hj => (b.cell (World.block_lt_of_cell? Y _ (h j hj))).trans (h j hj)
theorem enter_read1 : ∀ args w, (callFunc 20 args).run Tryd.prog w = .ok (.enter 20 args) w := enters_of Tryd.func20 (by kernel_rfl) rfl
theorem enter_read2 : ∀ args w, (callFunc 22 args).run Tryd.prog w = .ok (.enter 22 args) w := enters_of Tryd.func22 (by kernel_rfl) rfl

theorem numAt_c (t : List UInt8) (ht : t.length ≤ 4294967280) (g : Nat) (Y : World) (h : Ps g t Y) (j : Nat) (i : Int) (hi : i = (j : Int)) (hj : j < 8) :
    Calls Tryd.prog 20 #[.int .i64 i, .pointer (some ⟨g, 0, none⟩)] Y fun e Z => e = .returned (.int .i64 (numAt (pieceL t j))) ∧ Below Y.heap.size Y Z := by
  have hz := piece_size t j
  have hp := fun w => Num.parse_c (pieceB t j) w (by omega)
  have hc := h j hj
  have j0 : (0 : Int) ≤ (j : Int) := by omega
  have j1 : (j : Int) < 8 := by omega
  unfold numAt pieceL
  generalize (pieceB t j) = x at hp hc ⊢
  generalize parseL x.data.toList = y at hp ⊢
  clear hz ht h
  subst hi
  go_enter Tryd.func20, Tryd.ntmps20
  go_wp2_with fail
  refine (hp _).mono ?_
  rintro e w' ⟨rfl, rfl⟩
  go_wp2_with fail
  go_ret
  exact ⟨rfl, Below.refl _ _⟩
theorem txtAt_c (t : List UInt8) (ht : t.length ≤ 4294967280) (g : Nat) (Y : World) (h : Ps g t Y) (j : Nat) (i : Int) (hi : i = (j : Int)) (hj : j < 8) :
    Calls Tryd.prog 22 #[.int .i64 i, .pointer (some ⟨g, 0, none⟩)] Y fun e Z => e = .returned (.string (S (txtAt (pieceL t j)))) ∧ Below Y.heap.size Y Z := by
  have hz := piece_len t j
  have hc := h j hj
  have ex : pieceB t j = S (pieceL t j) := (S_list _).symm
  rw [ex] at hc
  have hle := (tell_len _ (pieceL t j) (Nat.le_refl _)).1
  have j0 : (0 : Int) ≤ (j : Int) := by omega
  have j1 : (j : Int) < 8 := by omega
  subst hi
  unfold txtAt
  by_cases hq : (tellL (pieceL t j)).2 = (pieceL t j).length
  · have hp := fun w => decode_yes (pieceL t j) (by omega) hq w
    rw [if_pos hq]
    generalize ((pieceL t j).length : Int) = ln at hp
    generalize S (tellL (pieceL t j)).1 = y at hp ⊢
    generalize S (pieceL t j) = x at hp hc
    clear hz ht h ex hle hq
    go_enter Tryd.func22, Tryd.ntmps22
    go_wp2_with fail
    refine (hp _).mono ?_
    rintro e w' ⟨rfl, hb⟩
    go_wp2_with fail
    go_ret
    exact ⟨rfl, hb⟩
  · have hp := fun w => decode_no (pieceL t j) (by omega) (by omega) w
    rw [if_neg hq]
    generalize ((tellL (pieceL t j)).2 : Int) = ln at hp
    generalize S (pieceL t j) = x at hp hc
    clear hz ht h ex hle hq
    go_enter Tryd.func22, Tryd.ntmps22
    go_wp2_with fail
    refine (hp _).mono ?_
    rintro e w' ⟨rfl, hb⟩
    go_wp2_with fail
    go_ret
    exact ⟨rfl, hb⟩

theorem u8_oct (n : Int) : IntKind.u8.wrap n = ((octI n).toNat : Int) := by
  unfold octI
  rw [IntKind.wrap_u8, UInt8.toNat_ofNat']
  omega

/-! ### The boxes -/
theorem info_str : (Tryd.prog.info? 9).map (·.size) = some 1 := by kernel_rfl
/-- A block of eight cells, written. -/
def set8 (Y : World) (g : Nat) (r0 r1 r2 r3 r4 r5 r6 r7 : Value) : World :=
  (((((((Y.setCell ⟨g, 0, none⟩ r0).setCell ⟨g, 1, none⟩ r1).setCell ⟨g, 2, none⟩ r2).setCell ⟨g, 3, none⟩ r3).setCell ⟨g, 4, none⟩ r4).setCell ⟨g, 5, none⟩ r5).setCell ⟨g, 6, none⟩ r6).setCell ⟨g, 7, none⟩ r7
theorem set8_row {Y : World} {g : Nat} {a0 a1 a2 a3 a4 a5 a6 a7 : Value} {T : TypeId} (h : Y.heap[g]? = some (.cells #[a0, a1, a2, a3, a4, a5, a6, a7] T (0, 0))) (r0 r1 r2 r3 r4 r5 r6 r7 : Value) : (set8 Y g r0 r1 r2 r3 r4 r5 r6 r7).heap[g]? = some (.cells #[r0, r1, r2, r3, r4, r5, r6, r7] T (0, 0)) := by
  have h8 := row_set (j := 7) (u := r7) (row_set (j := 6) (u := r6) (row_set (j := 5) (u := r5) (row_set (j := 4) (u := r4) (row_set (j := 3) (u := r3) (row_set (j := 2) (u := r2) (row_set (j := 1) (u := r1) (row_set (j := 0) (u := r0) h)))))))
  simp only [List.setIfInBounds_toArray, List.set_cons_zero, List.set_cons_succ] at h8
  exact h8
theorem row8 {Y : World} {g : Nat} {r0 r1 r2 r3 r4 r5 r6 r7 : Value} {T : TypeId} (e : Y.heap[g]? = some (.cells #[r0, r1, r2, r3, r4, r5, r6, r7] T (0, 0))) :
    (Y.cell? ⟨g, 0, none⟩ = some r0 ∧ Y.cell? ⟨g, 1, none⟩ = some r1 ∧ Y.cell? ⟨g, 2, none⟩ = some r2 ∧ Y.cell? ⟨g, 3, none⟩ = some r3 ∧ Y.cell? ⟨g, 4, none⟩ = some r4 ∧ Y.cell? ⟨g, 5, none⟩ = some r5 ∧ Y.cell? ⟨g, 6, none⟩ = some r6 ∧ Y.cell? ⟨g, 7, none⟩ = some r7) ∧
    (Y.frozen? ⟨g, 0, none⟩ = false ∧ Y.frozen? ⟨g, 1, none⟩ = false ∧ Y.frozen? ⟨g, 2, none⟩ = false ∧ Y.frozen? ⟨g, 3, none⟩ = false ∧ Y.frozen? ⟨g, 4, none⟩ = false ∧ Y.frozen? ⟨g, 5, none⟩ = false ∧ Y.frozen? ⟨g, 6, none⟩ = false ∧ Y.frozen? ⟨g, 7, none⟩ = false) :=
  ⟨⟨cell_of_row _ _ 0 _ _ _ e, cell_of_row _ _ 1 _ _ _ e, cell_of_row _ _ 2 _ _ _ e, cell_of_row _ _ 3 _ _ _ e, cell_of_row _ _ 4 _ _ _ e, cell_of_row _ _ 5 _ _ _ e, cell_of_row _ _ 6 _ _ _ e, cell_of_row _ _ 7 _ _ _ e⟩,
   ⟨frozen_of_row _ _ 0 _ _ e, frozen_of_row _ _ 1 _ _ e, frozen_of_row _ _ 2 _ _ e, frozen_of_row _ _ 3 _ _ e, frozen_of_row _ _ 4 _ _ e, frozen_of_row _ _ 5 _ _ e, frozen_of_row _ _ 6 _ _ e, frozen_of_row _ _ 7 _ _ e⟩⟩
theorem set8_below {B : Nat} {w Y : World} {g : Nat} (hb : Below B w Y) (hg : B ≤ g) (r0 r1 r2 r3 r4 r5 r6 r7 : Value) : Below B w (set8 Y g r0 r1 r2 r3 r4 r5 r6 r7) :=
  (((((((hb.setCell hg _).setCell hg _).setCell hg _).setCell hg _).setCell hg _).setCell hg _).setCell hg _).setCell hg _

def MaxAt (w : World) : Prop := ∃ m, w.cell? ⟨0, 0, none⟩ = some (.int .i64 m)
theorem MaxAt.kept {w w' : World} (h : MaxAt w) (hb : Below w.heap.size w w') : MaxAt w' := by
  obtain ⟨m, hm⟩ := h
  exact ⟨m, (hb.cell (World.block_lt_of_cell? w _ hm)).trans hm⟩

abbrev zero8 : Array Value := #[.int .i64 0, .string ⟨#[]⟩, .string ⟨#[]⟩, .int .u8 0, .string ⟨#[]⟩, .string ⟨#[]⟩, .int .i64 0, .string ⟨#[]⟩]
/-- While read asks its closures: all that lay before, the result's box, the pieces. -/
def KR (w : World) (t : List UInt8) (Y : World) : Prop := Below w.heap.size w Y ∧ Y.heap[w.heap.size]? = some (.cells zero8 24 (0, 0)) ∧ Ps (w.heap.size + 1) t Y
theorem KR.lt {w Y : World} {t : List UInt8} (h : KR w t Y) : w.heap.size < Y.heap.size := (Array.getElem?_eq_some_iff.1 h.2.1).1
theorem KR.next {w Y Z : World} {t : List UInt8} (h : KR w t Y) (b : Below Y.heap.size Y Z) : KR w t Z :=
  ⟨h.1.trans (b.mono (Nat.le_of_lt h.lt)), (b.block _ h.lt).trans h.2.1, h.2.2.next b⟩
theorem KR.drew {w Y : World} {t : List UInt8} (h : KR w t Y) : KR w t Y.drew := h.next (Below.refl _ Y).drew

/-- Behind the copy of the pieces. -/
theorem ps_copied {t : List UInt8} {g : Nat} {Y : World} (h : Y.heap[g]? = some (.cells (splice told0.toList 0 ((piecesB t).map Value.string)).toArray 38 (0, 0))) : Ps g t Y := fun j hj => by
  rw [cell_of_row Y g j _ _ _ h, List.getElem?_toArray]
  have hl := pieces_few t
  unfold splice pieceB
  simp only [List.take_zero, List.nil_append, List.length_map, Nat.zero_add]
  by_cases hjl : j < (piecesB t).length
  · rw [List.getElem?_append_left (by simpa using hjl), List.getElem?_map, List.getElem?_eq_getElem hjl]
    rfl
  · rw [List.getElem?_append_right (by simp; omega), List.getElem?_drop, List.getElem?_eq_none (l := piecesB t) (by omega), List.length_map]
    rw [show (piecesB t).length + (j - (piecesB t).length) = j by omega]
    have : j = 0 ∨ j = 1 ∨ j = 2 ∨ j = 3 ∨ j = 4 ∨ j = 5 ∨ j = 6 ∨ j = 7 := by omega
    rcases this with e | e | e | e | e | e | e | e <;> rw [e] <;> rfl
abbrev stW' (t : List UInt8) : Value := stW (readL t)

set_option maxHeartbeats 4000000 in
set_option maxRecDepth 100000 in
theorem read_c (t : List UInt8) (ht : t.length ≤ 4294967280) (w : World) (hM : MaxAt w) :
    Calls Tryd.prog 12 #[.string (S t)] w fun e w' => e = .returned (stW (readL t)) ∧ Below w.heap.size w w' := by
  obtain ⟨m, hm⟩ := hM
  have hlen : (piecesB t).length ≤ 8 := pieces_few t
  have hW : Hid (∀ X, Below w.heap.size w X → Calls Tryd.prog 19 #[.string (S t), .string ⟨#[124]⟩, .int .i64 8] X fun e w' =>
      e = .returned (.slice (some ⟨X.heap.size, 0, none⟩) (piecesB t).length (min 8 ((S t).size + 1))) ∧ w' = X.alloc (.cells (Lib.cellsOf (piecesB t) (min 8 ((S t).size + 1))) 9)) := fun X hX =>
    Tryd.strings_SplitN (S t) (S [124]) 8 m X (by rw [size_S]; omega) ((hX.cell (World.block_lt_of_cell? w _ hm)).trans hm) (by decide) (by decide) (by decide)
  have hN : ∀ (j : Nat) (i : Int), i = (j : Int) → j < 8 → Hid (∀ Y, KR w t Y → Calls Tryd.prog 20 #[.int .i64 i, .pointer (some ⟨w.heap.size + 1, 0, none⟩)] Y fun e Z => e = .returned (.int .i64 (numAt (pieceL t j))) ∧ Below Y.heap.size Y Z) :=
    fun j i hi hj Y h => numAt_c t ht _ Y h.2.2 j i hi hj
  have hX : ∀ (j : Nat) (i : Int), i = (j : Int) → j < 8 → Hid (∀ Y, KR w t Y → Calls Tryd.prog 22 #[.int .i64 i, .pointer (some ⟨w.heap.size + 1, 0, none⟩)] Y fun e Z => e = .returned (.string (S (txtAt (pieceL t j)))) ∧ Below Y.heap.size Y Z) :=
    fun j i hi hj Y h => txtAt_c t ht _ Y h.2.2 j i hi hj
  have h0 := hN 0 0 rfl (by decide)
  have h1 := hX 1 1 rfl (by decide)
  have h2 := hX 2 2 rfl (by decide)
  have h3 := hN 3 3 rfl (by decide)
  have h4 := hX 4 4 rfl (by decide)
  have h5 := hX 5 5 rfl (by decide)
  have h6 := hN 6 6 rfl (by decide)
  have h7 := hX 7 7 rfl (by decide)
  clear hN hX
  have hd := u8_oct (numAt (pieceL t 3))
  have hcw : Hid (((piecesB t).map Value.string).length = Nat.min (piecesB t).length 8) := by
    rw [List.length_map]
    exact (Nat.min_eq_left hlen).symm
  have hone : Hid (∀ v ∈ (piecesB t).map Value.string, v.oneCell' = true) := by
    intro v hv
    obtain ⟨x, _, rfl⟩ := List.mem_map.1 hv
    rfl
  have hfit : Hid (0 + ((piecesB t).map Value.string).length ≤ told0.toList.length) := by
    show _ ≤ 8
    rw [List.length_map]
    omega
  have hsrc : Hid (∀ (X : World), ∀ j v, ((piecesB t).map Value.string)[j]? = some v → (X.alloc (.cells (Lib.cellsOf (piecesB t) (min 8 ((S t).size + 1))) 9)).cell? ((⟨X.heap.size, 0, none⟩ : Addr).add j) = some v) := fun X j v hv => by
    rw [Addr.add_lit, Nat.zero_add, cell_of_row _ _ j _ _ _ (heap_alloc_new X _)]
    unfold Lib.cellsOf
    rw [List.getElem?_toArray, List.getElem?_append_left (List.getElem?_eq_some_iff.1 hv).1]
    exact hv
  have hback : Hid (∀ Y : World, Y.heap[w.heap.size + 1]? = some (.cells (splice told0.toList 0 ((piecesB t).map Value.string)).toArray 38 (0, 0)) → Ps (w.heap.size + 1) t Y) := fun Y h => ps_copied h
  show Calls Tryd.prog 12 #[.string (S t)] w fun e w' => e = .returned (stV (numAt (pieceL t 0)) (S (txtAt (pieceL t 1))) (S (txtAt (pieceL t 2))) (octI (numAt (pieceL t 3))) (S (txtAt (pieceL t 4))) (S (txtAt (pieceL t 5))) (numAt (pieceL t 6)) (S (txtAt (pieceL t 7)))) ∧ Below w.heap.size w w'
  generalize numAt (pieceL t 0) = n0 at *
  generalize numAt (pieceL t 3) = n3 at *
  generalize numAt (pieceL t 6) = n6 at *
  generalize octI n3 = d3 at *
  generalize S (txtAt (pieceL t 1)) = s1 at *
  generalize S (txtAt (pieceL t 2)) = s2 at *
  generalize S (txtAt (pieceL t 4)) = s4 at *
  generalize S (txtAt (pieceL t 5)) = s5 at *
  generalize S (txtAt (pieceL t 7)) = s7 at *
  generalize S t = T at *
  generalize (piecesB t).map Value.string = cs at *
  generalize (piecesB t).length = np at *
  generalize Lib.cellsOf (piecesB t) (min 8 (T.size + 1)) = pc at *
  generalize min 8 (T.size + 1) = cap at *
  clear hm ht
  go_enter Tryd.func12, Tryd.ntmps12
  go_wp2_with fail
  have B0 : Below w.heap.size w ((w.alloc (.cells zero8 24)).alloc (.cells told0 38)) := ((Below.refl _ w).alloc (Nat.le_refl _) _).alloc (by simp) _
  have R0 : ((w.alloc (.cells zero8 24)).alloc (.cells told0 38)).heap[w.heap.size]? = some (.cells zero8 24 (0, 0)) := by
    rw [heap_alloc_old _ _ (by simp)]
    exact heap_alloc_new w _
  have T0 : ((w.alloc (.cells zero8 24)).alloc (.cells told0 38)).heap[w.heap.size + 1]? = some (.cells told0 38 (0, 0)) := by
    have := heap_alloc_new (w.alloc (.cells zero8 24)) (.cells told0 38)
    rw [show (w.alloc (.cells zero8 24)).heap.size = w.heap.size + 1 by simp] at this
    exact this
  have Z0 : w.heap.size + 1 < ((w.alloc (.cells zero8 24)).alloc (.cells told0 38)).heap.size := by simp
  have Z1 : Hid (∀ X, X = ((w.alloc (.cells zero8 24)).alloc (.cells told0 38)) → X = X) := fun _ _ => rfl
  clear Z1
  generalize ((w.alloc (.cells zero8 24)).alloc (.cells told0 38)) = W1 at B0 R0 T0 Z0 ⊢
  have HW := Lib.hid (And.intro B0 (And.intro R0 (And.intro T0 Z0)))
  clear B0 R0 T0 Z0
  have G : Hid ((W1.drew.alloc (.cells pc 9)).heap[w.heap.size + 1]? = some (.cells told0.toList.toArray 38 (0, 0))) := by
    show _ = _
    rw [heap_alloc_old _ _ (show w.heap.size + 1 < W1.drew.heap.size from HW.out.2.2.2)]
    exact HW.out.2.2.1
  have hs2 := hsrc.out W1.drew
  have HS2 := Lib.hid hs2
  clear hs2 hsrc

  refine wp_region_held_drew (S := (fun _ => True)) (by kernel_rfl) trivial (fun hHeld => ?_)
  refine wpAnyH_take (i := 0) (v := ?_) rfl (by kernel_rfl) (by kernel_rfl) (by kernel_rfl) (fun _ _ _ h => h) (Or.inl ⟨by rfl, ?_⟩) (by assumption) ?_
  rotate_left
  · intro w hSw
    try dsimp only at hSw
    go_simp
    try with_reducible rfl
  (try simp only [List.getElem_toArray]); (try simp only [List.getElem_cons_succ]); (try simp only [List.getElem_cons_zero]); (try simp only [Act.put]); (try simp only [List.setIfInBounds_toArray]); (try simp only [List.set_cons_succ]); (try simp only [List.set_cons_zero])
  refine wpAnyH_take (i := 1) (v := ?_) rfl (by kernel_rfl) (by kernel_rfl) (by kernel_rfl) (fun _ _ _ h => h) (Or.inl ⟨by rfl, ?_⟩) (by assumption) ?_
  rotate_left
  · intro w hSw
    try dsimp only at hSw
    go_simp
    try with_reducible rfl
  (try simp only [List.getElem_toArray]); (try simp only [List.getElem_cons_succ]); (try simp only [List.getElem_cons_zero]); (try simp only [Act.put]); (try simp only [List.setIfInBounds_toArray]); (try simp only [List.set_cons_succ]); (try simp only [List.set_cons_zero])
  refine wpAnyH_ready (rs := [2]) (by kernel_rfl) (by simp) ?_
  refine AllReadyH.cons rfl (fun K hK => ?_) AllReadyH.nil
  go_simp
  refine (hW.out _ HW.out.1.drew).mono ?_; rintro e w2 ⟨rfl, rfl⟩; (try go_wp2_with fail)
  refine hK.out _ _ (by trivial) (fun hHeld => ?_)
  clear hK K
  (try simp only [List.getElem_toArray]); (try simp only [List.getElem_cons_succ]); (try simp only [List.getElem_cons_zero]); (try simp only [Act.put]); (try simp only [List.setIfInBounds_toArray]); (try simp only [List.set_cons_succ]); (try simp only [List.set_cons_zero])
  refine wpAnyH_ready (rs := [3]) (by kernel_rfl) (by simp) ?_
  refine AllReadyH.cons rfl (fun K hK => ?_) AllReadyH.nil
  refine step_copy_splice rfl (.tmp 6) (.tmp 8) 40 40 rfl 9 Tryd.underlying40 info_str (some ⟨w.heap.size + 1, 0, none⟩) (some ⟨W1.heap.size, 0, none⟩) 8 8 np cap (by simp [Act.eval]) (by simp [Act.eval]) (w.heap.size + 1) 0 told0.toList 38 G.out cs hcw.out (fun _ => ⟨rfl, _, rfl, HS2.out⟩) hfit.out hone.out (w.heap.size + 1) (W1.drew.alloc (.cells pc 9)) (Below.refl _ _) (Nat.le_refl _) ?_
  intro w4 hg4 hb4
  refine hK.out _ _ (by trivial) (fun hHeld => ?_)
  clear hK K
  (try simp only [List.getElem_toArray]); (try simp only [List.getElem_cons_succ]); (try simp only [List.getElem_cons_zero]); (try simp only [Act.put]); (try simp only [List.setIfInBounds_toArray]); (try simp only [List.set_cons_succ]); (try simp only [List.set_cons_zero])
  refine wpAnyH_done (by kernel_rfl) ?_ _
  have K0 : KR w t w4 := ⟨(HW.out.1.drew.alloc (show w.heap.size ≤ W1.drew.heap.size from HW.out.1.size) _).trans (hb4.mono (Nat.le_succ _)), (hb4.block _ (Nat.lt_succ_self _)).trans ((heap_alloc_old _ _ (show w.heap.size < W1.drew.heap.size from Nat.lt_of_succ_lt HW.out.2.2.2)).trans HW.out.2.1), hback.out _ hg4⟩
  have K0 := Lib.hid K0
  have e1 := enter_read1
  have e2 := enter_read2
  clear hg4 hb4 HW G HS2 hback hcw hone hfit hW hlen
  go_wp2_with fail
  refine (h0.out _ K0.out).mono ?_
  rintro e Y1 ⟨rfl, b1⟩
  have K1 := Lib.hid (K0.out.next b1)
  clear b1
  go_wp2_with fail
  refine (h1.out _ K1.out).mono ?_
  rintro e Y2 ⟨rfl, b2⟩
  have K2 := Lib.hid (K1.out.next b2)
  clear b2
  go_wp2_with fail
  refine (h2.out _ K2.out).mono ?_
  rintro e Y3 ⟨rfl, b3⟩
  have K3 := Lib.hid (K2.out.next b3)
  clear b3
  go_wp2_with fail
  refine (h3.out _ K3.out).mono ?_
  rintro e Y4 ⟨rfl, b4⟩
  have K4 := Lib.hid (K3.out.next b4)
  clear b4
  go_wp2_with fail
  refine (h4.out _ K4.out).mono ?_
  rintro e Y5 ⟨rfl, b5⟩
  have K5 := Lib.hid (K4.out.next b5)
  clear b5
  go_wp2_with fail
  refine (h5.out _ K5.out).mono ?_
  rintro e Y6 ⟨rfl, b6⟩
  have K6 := Lib.hid (K5.out.next b6)
  clear b6
  go_wp2_with fail
  refine (h6.out _ K6.out).mono ?_
  rintro e Y7 ⟨rfl, b7⟩
  have K7 := Lib.hid (K6.out.next b7)
  clear b7
  go_wp2_with fail
  have hz : Hid (∀ Y, KR w t Y → Y.heap[w.heap.size]? = some (.cells zero8 24 (0, 0))) := fun _ h => h.2.1
  refine (h7.out _ K7.out).mono ?_
  rintro e Y8 ⟨rfl, b8⟩
  have K8 := Lib.hid (K7.out.next b8)
  clear b8
  obtain ⟨⟨x0, x1, x2, x3, x4, x5, x6, x7⟩, y0, y1, y2, y3, y4, y5, y6, y7⟩ := row8 (hz.out _ K8.out)
  go_wp2_with fail
  obtain ⟨⟨g0, g1, g2, g3, g4, g5, g6, g7⟩, -⟩ := row8 (set8_row (hz.out _ K8.out) (.int .i64 n0) (.string s1) (.string s2) (.int .u8 (d3.toNat : Int)) (.string s4) (.string s5) (.int .i64 n6) (.string s7))
  unfold set8 at g0 g1 g2 g3 g4 g5 g6 g7
  refine bodyPost_ret (v := stV n0 s1 s2 d3 s4 s5 n6 s7) (by simp [results, Tryd.results12, go_sem, g0, g1, g2, g3, g4, g5, g6, g7]) rfl ?_
  exact ⟨rfl, set8_below K8.out.1 (Nat.le_refl _) (.int .i64 n0) (.string s1) (.string s2) (.int .u8 (d3.toNat : Int)) (.string s4) (.string s5) (.int .i64 n6) (.string s7)⟩
end Go.Proofs.YtbpccbdgkkfdpaaDoor.Mks
