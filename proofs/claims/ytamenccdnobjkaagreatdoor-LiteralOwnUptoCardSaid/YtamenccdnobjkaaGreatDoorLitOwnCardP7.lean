/-
  Part 7: LitOwn, RowKit, UtfLaid.
-/
import Derived.Test.YtamenccdnobjkaaGreatDoorLitOwnCardP6
import Derived.Test.YtamenccdnobjkaaGreatDoorLitOwnCardP1
import Derived.Test.YtamenccdnobjkaaGreatDoorRows
import Derived.WalkKit
import Derived.ProofKit
import Derived.OpenShut
import Derived.JoinedCond
import Derived.SizedLaws
import Derived.Test.YtamenccdnobjkaaGreatDoorCards
import Derived.Test.YtamenccdnobjkaaGreatDoorTie
import Derived.Test.YtamenccdnobjkaaGreatDoorLitOwnCardP2
import Derived.Lib.LaidU8
import Derived.Deep.DeepHandedRow
/-
  The law LiteralOwn, out of the contracts of the calls that it makes.
-/
namespace Go.Proofs.YtamenccdnobjkaaGreatDoor.Rd
open Go.RowKit Go.Proofs.YtamenccdnobjkaaGreatDoor.Oct Go.Proofs.YtamenccdnobjkaaGreatDoor.Val Go.Proofs.YtamenccdnobjkaaGreatDoor.Tl Go.Proofs.YtamenccdnobjkaaGreatDoor.Lit Go.Proofs.YtamenccdnobjkaaGreatDoor.Utf

/-- The error's number that Read tells of a text. -/
def ErrOf (s : List UInt8) (r : Int) : Prop :=
  (r = 33 ∧ (Leads (.loop s [] 0) .bad ∨ ∃ x t d, Leads (.loop s [] 0) (.done x t d) ∧ t ≠ [])) ∨ (r = 42 ∧ ∃ x d, Leads (.loop s [] 0) (.done x [] d) ∧ 16 < d) ∨
    (r = 0 ∧ ∃ x d, Leads (.loop s [] 0) (.done x [] d) ∧ d ≤ 16)
theorem ErrOf.det {s : List UInt8} {a b : Int} (h : ErrOf s a) (k : ErrOf s b) : a = b := by
  rcases h with ⟨rfl, h | ⟨x, t, d, h, ht⟩⟩ | ⟨rfl, x, d, h, hd⟩ | ⟨rfl, x, d, h, hd⟩ <;> rcases k with ⟨rfl, k | ⟨y, u, e, k, hu⟩⟩ | ⟨rfl, y, e, k, he⟩ | ⟨rfl, y, e, k, he⟩
  all_goals first
    | rfl
    | (exfalso
       have q := h.det k
       first
         | (cases q; done)
         | (simp only [Out.done.injEq] at q
            obtain ⟨_, q2, q3⟩ := q
            first
              | exact hu q2.symm
              | exact ht q2
              | omega))

/-- What Read leaves, in one form. -/
def Got (w : World) (s : List UInt8) (en : Ending) (w' : World) : Prop :=
  ∃ (k n : Int) (t : ByteArray) (p : Option Addr) (m cap : Nat) (q : Option Addr) (c d : Nat) (x : V) (len r : Int),
    en = .returned (.tuple #[.agg #[.int .i64 k, .int .i64 n, .string t, .slice p m cap, .slice q c d], .int .i64 len, .int .i64 r]) ∧ ErrOf s r ∧
    Holds (Mine w.heap.size w') w' (.agg #[.int .i64 k, .int .i64 n, .string t, .slice p m cap, .slice q c d]) x ∧ Below w.heap.size w w'
theorem ReadTo.got {w w' : World} {s : List UInt8} {en : Ending} (h : ReadTo w s en w') : Got w s en w' := by
  obtain ⟨hb, ⟨rfl, h⟩ | ⟨rfl, h⟩ | ⟨⟨v0, v1, v2, v3, v4⟩, x, d, rfl, h1, h2, h3⟩⟩ := h
  · exact ⟨0, 0, ⟨#[]⟩, none, 0, 0, none, 0, 0, _, 0, 33, rfl, .inl ⟨rfl, h⟩, leaf_holds 0 0 ⟨#[]⟩ (by decide) (by decide) (by decide), hb⟩
  · exact ⟨0, 0, ⟨#[]⟩, none, 0, 0, none, 0, 0, _, 0, 42, rfl, .inr (.inl ⟨rfl, h⟩), leaf_holds 0 0 ⟨#[]⟩ (by decide) (by decide) (by decide), hb⟩
  · obtain ⟨l0, l1, l2, lp, la, lb, lq, lr, ld, rfl, rfl, rfl, rfl, rfl⟩ := holds_parts h3
    exact ⟨_, _, _, _, _, _, _, _, _, x, _, 0, rfl, .inr (.inr ⟨rfl, x, d, h1, h2⟩), h3, hb⟩

theorem holds_row {lo : Nat} {w : World} {v0 v1 v2 v4 : Value} {p : Option Addr} {m cap : Nat} {x : V} (h : Holds (Mine lo w) w (.agg #[v0, v1, v2, .slice p m cap, v4]) x) :
    m ≤ 140737488351232 ∧ (0 < m → ∃ g cur, p = some ⟨g, 0, none⟩ ∧ lo ≤ g ∧ w.heap[g]? = some (.cells cur 26 (0, 0)) ∧ m * 5 ≤ cur.size) := by
  cases h with
  | mk k n s p cap K l ks b off c hr hp hc hK hl =>
    refine ⟨by have := hr.2.2.2.2.2; omega, fun h0 => ?_⟩
    obtain ⟨rfl, h1, rfl, cur, h2⟩ := hp h0
    have h2 : w.heap[b]? = some (.cells cur 26 (0, 0)) := h2
    refine ⟨b, cur, rfl, h1, h2, ?_⟩
    have h3 := hc (l.length - 1) 4 (by omega) (by omega)
    have h4 := (cell_of_row w b _ cur _ _ h2).symm.trans h3
    have := (Array.getElem?_eq_some_iff.1 h4).1
    omega

/-- One value written over. -/
abbrev over5 (w : World) (b i : Nat) : World :=
  ((((w.setCell ⟨b, i * 5, none⟩ (.int .i64 77)).setCell ⟨b, i * 5 + 1, none⟩ (.int .i64 0)).setCell ⟨b, i * 5 + 2, none⟩ (.string ⟨#[]⟩)).setCell ⟨b, i * 5 + 3, none⟩ (.slice none 0 0)).setCell ⟨b, i * 5 + 4, none⟩ (.slice none 0 0)

/-- Some values of the block g, which lies from lo on and below hi, are written over; all else lies as it lay. -/
structure OverAt (lo hi g m : Nat) (A B : World) : Prop where
  size : B.heap.size = A.heap.size
  os : B.os = A.os
  tape : B.tape = A.tape
  output : B.output = A.output
  block : ∀ b, b < lo ∨ hi ≤ b → B.heap[b]? = A.heap[b]?
  row : 0 < m → lo ≤ g ∧ g < hi ∧ ∃ cur, B.heap[g]? = some (.cells cur 26 (0, 0)) ∧ m * 5 ≤ cur.size

theorem st_os (w : World) (a : Addr) (v : Value) : (w.setCell a v).os = w.os ∧ (w.setCell a v).tape = w.tape ∧ (w.setCell a v).output = w.output ∧ (w.setCell a v).heap.size = w.heap.size := ⟨rfl, rfl, rfl, by simp⟩
theorem same5 {A B C : World} (h : B.os = A.os ∧ B.tape = A.tape ∧ B.output = A.output ∧ B.heap.size = A.heap.size) (k : C.os = B.os ∧ C.tape = B.tape ∧ C.output = B.output ∧ C.heap.size = B.heap.size) :
    C.os = A.os ∧ C.tape = A.tape ∧ C.output = A.output ∧ C.heap.size = A.heap.size := ⟨k.1.trans h.1, k.2.1.trans h.2.1, k.2.2.1.trans h.2.2.1, k.2.2.2.trans h.2.2.2⟩
theorem over_same (w : World) (b i : Nat) : (over5 w b i).os = w.os ∧ (over5 w b i).tape = w.tape ∧ (over5 w b i).output = w.output ∧ (over5 w b i).heap.size = w.heap.size :=
  same5 (same5 (same5 (same5 (st_os w _ _) (st_os _ _ _)) (st_os _ _ _)) (st_os _ _ _)) (st_os _ _ _)

theorem OverAt.over {lo hi g m : Nat} {A B : World} (h : OverAt lo hi g m A B) {i : Nat} (him : i < m) : OverAt lo hi g m A (over5 B g i) := by
  obtain ⟨h1, h2, cur, h3, h4⟩ := h.row (by omega)
  have e1 := heap_setCell_same B g (i * 5) cur _ (.int .i64 77) h3
  have e2 := heap_setCell_same _ g (i * 5 + 1) _ _ (.int .i64 0) e1
  have e3 := heap_setCell_same _ g (i * 5 + 2) _ _ (.string ⟨#[]⟩) e2
  have e4 := heap_setCell_same _ g (i * 5 + 3) _ _ (.slice none 0 0) e3
  have e5 := heap_setCell_same _ g (i * 5 + 4) _ _ (.slice none 0 0) e4
  obtain ⟨o1, o2, o3, o4⟩ := over_same B g i
  refine ⟨o4.trans h.size, o1.trans h.os, o2.trans h.tape, o3.trans h.output, fun b hb => ?_, fun _ => ⟨h1, h2, _, e5, by simpa using h4⟩⟩
  have hne : b ≠ g := by omega
  rw [heap_setCell_other _ _ _ _ hne, heap_setCell_other _ _ _ _ hne, heap_setCell_other _ _ _ _ hne, heap_setCell_other _ _ _ _ hne, heap_setCell_other _ _ _ _ hne]
  exact h.block b hb

theorem five5 {X : World} {B : Nat} {u0 u1 u2 u3 u4 : Value} {t : TypeId} (h : X.heap[B]? = some (.cells #[u0, u1, u2, u3, u4] t (0, 0))) :
    X.cell? ⟨B, 0, none⟩ = some u0 ∧ X.cell? ⟨B, 1, none⟩ = some u1 ∧ X.cell? ⟨B, 2, none⟩ = some u2 ∧ X.cell? ⟨B, 3, none⟩ = some u3 ∧ X.cell? ⟨B, 4, none⟩ = some u4 :=
  ⟨cell_of_row X B 0 _ _ _ h, cell_of_row X B 1 _ _ _ h, cell_of_row X B 2 _ _ _ h, cell_of_row X B 3 _ _ _ h, cell_of_row X B 4 _ _ _ h⟩

set_option maxHeartbeats 8000000 in
set_option maxRecDepth 100000 in
theorem law_own (W : World) (s : ByteArray) (hs : s.size ≤ 274877906944) (hT : TabN W.heap.size W) :
    Calls Tryz.prog 5 #[.string s] W fun e W' => e = .returned (.bool true) ∧ Below W.heap.size W W' := by
  obtain ⟨l, rfl⟩ : ∃ l, s = S l := ⟨s.data.toList, (S_list s).symm⟩
  have hl : l.length ≤ 274877906944 := by rw [← size_S]; exact hs
  have HT := Lib.hid hT
  have HL := Lib.hid hl
  have hal := lalive_c W hT
  clear hs hT hl
  go_enter Tryz.func5, Tryz.ntmps5
  go_wp2_with fail
  refine hal.mono ?_
  rintro e w1 ⟨rfl, hb1⟩
  clear hal
  have hr1 := read_c w1 l HL.out (fun X hX => HT.out X (hb1.trans (hX.mono hb1.size)))
  have B1 := Lib.hid hb1
  clear hb1
  go_wp2_with fail
  refine hr1.mono ?_
  clear hr1
  rintro e w2 hg
  obtain ⟨k1, n1, t1, p1, m1, a1, q1, c1, d1, x1, len1, r1, rfl, E1, A1, hb2⟩ := hg.got
  clear hg
  have hbA : Below W.heap.size W (w2.alloc (.cells #[.int .i64 k1, .int .i64 n1, .string t1, .slice p1 m1 a1, .slice q1 c1 d1] 26)) :=
    (B1.out.trans (hb2.mono B1.out.size)).alloc (Nat.le_trans B1.out.size hb2.size) _
  have hr2 := read_c (w2.alloc (.cells #[.int .i64 k1, .int .i64 n1, .string t1, .slice p1 m1 a1, .slice q1 c1 d1] 26)) l HL.out (fun X hX => HT.out X (hbA.trans (hX.mono hbA.size)))
  have H2 := Lib.hid (And.intro E1 (And.intro A1 (And.intro hb2 hbA)))
  clear E1 A1 hb2 hbA
  go_wp2_with fail
  refine hr2.mono ?_
  clear hr2
  rintro e w3 hg
  obtain ⟨k2, n2, t2, p2, m2, a2, q2, c2, d2, x2, len2, r2, rfl, E2, A2, hb3⟩ := hg.got
  clear hg
  have z3 : w2.heap.size < w3.heap.size := by have := hb3.size; simp at this; omega
  have D3 : w3.heap[w2.heap.size]? = some (.cells #[.int .i64 k1, .int .i64 n1, .string t1, .slice p1 m1 a1, .slice q1 c1 d1] 26 (0, 0)) := (hb3.block _ (by simp)).trans (heap_alloc_new w2 _)
  have O3 : Holds (Old w3.heap.size) w3 (.agg #[.int .i64 k2, .int .i64 n2, .string t2, .slice p2 m2 a2, .slice q2 c2 d2]) x2 := A2.frame (fun _ _ _ _ _ => rfl) (fun _ _ _ _ h => h.lt)
  have hown := own_c w3.heap.size w3 O3 (w3.alloc (.cells #[.int .i64 k2, .int .i64 n2, .string t2, .slice p2 m2 a2, .slice q2 c2 d2] 26)) (by simp) ((Below.refl _ w3).alloc (Nat.le_refl _) _)
  obtain rfl := H2.out.1.det E2
  have H3 := Lib.hid (And.intro A2 (And.intro hb3 D3))
  clear A2 hb3 D3 O3 E2
  go_wp2_with fail
  refine hown.mono ?_
  clear hown
  rintro e w4 ⟨v4, rfl, A4, hb4⟩
  obtain ⟨⟨u0, u1, u2, u3, u4⟩, rfl, -⟩ := holds_form A4
  obtain ⟨k4, n4, t4, p4, m4, a4, q4, c4, d4, rfl, rfl, rfl, rfl, rfl⟩ := holds_parts A4
  have z4 : w3.heap.size < w4.heap.size := by have := hb4.size; simp at this; omega
  obtain ⟨W4, hW4⟩ : ∃ W4, W4 = w4.alloc (.cells #[.int .i64 k4, .int .i64 n4, .string t4, .slice p4 m4 a4, .slice q4 c4 d4] 26) := ⟨_, rfl⟩
  have s4 : W4.heap.size = w4.heap.size + 1 := by rw [hW4]; simp
  have old4 : ∀ b, b < w3.heap.size → W4.heap[b]? = w3.heap[b]? := fun b hb => by
    rw [hW4, Go.heap_alloc_old _ _ (by omega), hb4.block b (by simp; omega), Go.heap_alloc_old _ _ hb]
  have DA : W4.heap[w2.heap.size]? = some (.cells #[.int .i64 k1, .int .i64 n1, .string t1, .slice p1 m1 a1, .slice q1 c1 d1] 26 (0, 0)) := (old4 _ z3).trans H3.out.2.2
  have DB : W4.heap[w3.heap.size]? = some (.cells #[.int .i64 k2, .int .i64 n2, .string t2, .slice p2 m2 a2, .slice q2 c2 d2] 26 (0, 0)) := by
    rw [hW4, Go.heap_alloc_old _ _ z4, hb4.block _ (by simp)]
    exact heap_alloc_new w3 _
  have DX : W4.heap[w4.heap.size]? = some (.cells #[.int .i64 k4, .int .i64 n4, .string t4, .slice p4 m4 a4, .slice q4 c4 d4] 26 (0, 0)) := by rw [hW4]; exact heap_alloc_new w4 _
  have BW4 : Below W.heap.size W W4 := by
    rw [hW4]
    exact ((H2.out.2.2.2.trans (H3.out.2.1.mono H2.out.2.2.2.size)).alloc (by have := H2.out.2.2.2.size; simp at this; omega) _ |>.trans (hb4.mono (by have := H2.out.2.2.2.size; simp at this ⊢; omega))).alloc (by have := H2.out.2.2.2.size; simp at this; omega) _
  obtain ⟨hm1, hrow⟩ := holds_row H2.out.2.1
  have HG : ∃ g, (0 < m1 → p1 = some ⟨g, 0, none⟩) ∧ OverAt w1.heap.size w2.heap.size g m1 W4 W4 := by
    by_cases h0 : 0 < m1
    · obtain ⟨g, cur, h1, h2, h3, h4⟩ := hrow h0
      have hg := (Array.getElem?_eq_some_iff.1 h3).1
      exact ⟨g, fun _ => h1, rfl, rfl, rfl, rfl, fun _ _ => rfl, fun _ => ⟨h2, hg, cur, by rw [old4 g (by omega), H3.out.2.1.block g (by simp; omega), Go.heap_alloc_old _ _ hg]; exact h3, h4⟩⟩
    · exact ⟨0, fun h => absurd h h0, rfl, rfl, rfl, rfl, fun _ _ => rfl, fun h => absurd h h0⟩
  obtain ⟨g, hp1, HO⟩ := HG
  have hA2' : Holds (Old w3.heap.size) W4 (.agg #[.int .i64 k2, .int .i64 n2, .string t2, .slice p2 m2 a2, .slice q2 c2 d2]) x2 := H3.out.1.frame (fun _ b _ _ h => old4 b h.lt) (fun _ _ _ _ h => h.lt)
  have HF := Lib.hid (And.intro s4 (And.intro DA (And.intro DB (And.intro DX (And.intro BW4 (And.intro A4 (And.intro z3 (And.intro z4 hb4))))))))
  have HW4 := Lib.hid hW4
  have HP := Lib.hid hp1
  have HO := Lib.hid HO
  have HO4 := Lib.hid old4
  clear s4 DA DB DX BW4 A4 z3 z4 hrow hA2' old4 hb4
  go_wp2_with fail
  rw [← hW4]
  clear hp1 hW4
  go_loopw [10] (fun i wr => ∃ j : Nat, j ≤ m1 ∧ i = .int .i64 j ∧ Hid (OverAt w1.heap.size w2.heap.size g m1 W4 wr)) (fun i _ => m1 - (intOf i).toNat)
  case atStart => exact ⟨0, Nat.zero_le _, rfl, HO⟩
  case round =>
    clear HO
    obtain ⟨j, hj, rfl, hat⟩ := hrel
    have C3 : wr.cell? ⟨w2.heap.size, 3, none⟩ = some (.slice p1 m1 a1) := cell_of_row wr _ 3 _ _ _ ((hat.out.block _ (.inr (Nat.le_refl _))).trans HF.out.2.1)
    by_cases hjm : j < m1
    · obtain rfl := HP.out (by omega)
      obtain ⟨g1, g2, cur, g3, g4⟩ := hat.out.row (by omega)
      have a0 : wr.cell? ⟨g, j * 5, none⟩ = some (cur[j * 5]'(by omega)) := (cell_of_row wr g (j * 5) _ _ _ g3).trans (Array.getElem?_eq_getElem (by omega))
      have a1 : wr.cell? ⟨g, j * 5 + 1, none⟩ = some (cur[j * 5 + 1]'(by omega)) := (cell_of_row wr g (j * 5 + 1) _ _ _ g3).trans (Array.getElem?_eq_getElem (by omega))
      have a2 : wr.cell? ⟨g, j * 5 + 2, none⟩ = some (cur[j * 5 + 2]'(by omega)) := (cell_of_row wr g (j * 5 + 2) _ _ _ g3).trans (Array.getElem?_eq_getElem (by omega))
      have a3 : wr.cell? ⟨g, j * 5 + 3, none⟩ = some (cur[j * 5 + 3]'(by omega)) := (cell_of_row wr g (j * 5 + 3) _ _ _ g3).trans (Array.getElem?_eq_getElem (by omega))
      have a4 : wr.cell? ⟨g, j * 5 + 4, none⟩ = some (cur[j * 5 + 4]'(by omega)) := (cell_of_row wr g (j * 5 + 4) _ _ _ g3).trans (Array.getElem?_eq_getElem (by omega))
      have f0 := frozen_of_row wr g (j * 5) _ _ g3
      have f1 := frozen_of_row wr g (j * 5 + 1) _ _ g3
      have f2 := frozen_of_row wr g (j * 5 + 2) _ _ g3
      have f3 := frozen_of_row wr g (j * 5 + 3) _ _ g3
      have f4 := frozen_of_row wr g (j * 5 + 4) _ _ g3
      generalize cur[j * 5]'_ = o0 at a0
      generalize cur[j * 5 + 1]'_ = o1 at a1
      generalize cur[j * 5 + 2]'_ = o2 at a2
      generalize cur[j * 5 + 3]'_ = o3 at a3
      generalize cur[j * 5 + 4]'_ = o4 at a4
      have i1 : (0 : Int) ≤ (j : Int) := by omega
      have i2 : (j : Int) < (m1 : Int) := by omega
      have HN : Hid (OverAt w1.heap.size w2.heap.size g m1 W4 (over5 wr g j)) := hat.out.over hjm
      clear g1 g2 g3 g4
      go_wp2_with fail
      go_roundw
      case rel => exact ⟨j + 1, by omega, by go_num, HN⟩
      case measure => simp [intOf]; omega
    · have hge : (m1 : Int) ≤ (j : Int) := by omega
      have hbl : ∀ b, w2.heap.size ≤ b → wr.heap[b]? = W4.heap[b]? := fun b hb => hat.out.block b (.inr hb)
      obtain ⟨x0, x1', x2', x3, x4⟩ := five5 ((hbl _ (by have := HF.out.2.2.2.2.2.2.1; omega)).trans HF.out.2.2.1)
      obtain ⟨y0, y1, y2, y3, y4⟩ := five5 ((hbl _ (by have := HF.out.2.2.2.2.2.2.1; have := HF.out.2.2.2.2.2.2.2.1; omega)).trans HF.out.2.2.2.1)
      have hsz : wr.heap.size = w4.heap.size + 1 := hat.out.size.trans HF.out.1
      have hB : Holds (Old wr.heap.size) wr (.agg #[.int .i64 k2, .int .i64 n2, .string t2, .slice p2 m2 a2, .slice q2 c2 d2]) x2 :=
        H3.out.1.frame (fun _ b _ _ h => (hbl b (by have := h.1; simp at this; omega)).trans (HO4.out b h.lt)) (fun _ b _ _ h => by have := h.lt; have := HF.out.2.2.2.2.2.2.2.1; show b < _; omega)
      have hX : Holds (Old wr.heap.size) wr (.agg #[.int .i64 k4, .int .i64 n4, .string t4, .slice p4 m4 a4, .slice q4 c4 d4]) x2 :=
        HF.out.2.2.2.2.2.1.frame (fun _ b _ _ h => by
          have h1 := h.1
          have h2 := h.lt
          simp at h1
          rw [hbl b (by have := HF.out.2.2.2.2.2.2.1; omega), HW4.out, Go.heap_alloc_old _ _ h2]) (fun _ b _ _ h => by have := h.lt; show b < _; omega)
      have hsame := same_c wr.heap.size wr hB _ hX wr (Nat.le_refl _) (Below.refl _ _)
      have BE : Below W.heap.size W wr := by
        have hw := HF.out.2.2.2.2.1
        have := B1.out.size
        exact ⟨hat.out.os.trans hw.os, hat.out.tape.trans hw.tape, hat.out.output.trans hw.output, by rw [hat.out.size]; exact hw.size, fun b hb => (hat.out.block b (.inl (by omega))).trans (hw.block b hb)⟩
      have HE := Lib.hid BE
      clear hB hX hsz hbl BE
      go_wp2_with fail
      refine hsame.mono ?_
      rintro e w9 ⟨rfl, hb9⟩
      go_wp2_with fail
      go_ret
      exact ⟨rfl, HE.out.trans (hb9.mono HE.out.size)⟩
end Go.Proofs.YtamenccdnobjkaaGreatDoor.Rd

/-
  The last step of a law's row where the call leaves a world in which all that lay before lies unturned, the arguments are plain values (numbers, truths, texts), and the answer is the truth.
-/
namespace Go.Proofs.YtamenccdnobjkaaGreatDoor.Kit
open Go.ChangeShapes Go.WideShapes Go.ChangeAt Go.RowKit
variable {H : Type} {enc : TypeId × Value → H} {P : Program}

theorem own : ownKnob Tryz.prog.godebug = none := by kernel_rfl

/-- Arguments without places: what is asked of the world behind the call is that nothing older has turned. -/
theorem post_plain {f : Func} {s : ChangeSpec} {apart fresh handsOn again : Bool} {W W' : World} {args : Array Value} {v : Value} {ds gs : List (DataW H)}
    (hW : DataW.Whole enc P f.params.toList s.vars apart W args.toList ds gs [])
    (hres : ∀ (b : Nat) (sp : Nat → Bool) (hd : Bool), DataW.TrodAll enc P W' b sp hd f.resultTypes.toList (v.resultList f.resultTypes.size) (s.fn H (ds ++ gs)).results [])
    (hargs : ∀ sp : Nat → Bool, DataW.TrodAll enc P W' 0 sp true f.params.toList args.toList (s.fn H (ds ++ gs)).args [])
    (hvars : ∀ sp : Nat → Bool, DataW.TrodVars enc P W' sp s.vars (s.fn H (ds ++ gs)).vars [])
    (hb : Below W.heap.size W W')
    (hok : ∀ (j : Nat) (t : TypeId) (r : Value), f.resultTypes[j]? = some t → (v.resultList f.resultTypes.size)[j]? = some r → Value.okWide P W' .any 0 t r) :
    s.post enc P f apart fresh handsOn again W args v W' :=
  ⟨ds, gs, [], [], [], [], hW, hres _ _ _, hargs _, hvars _, hb.frame _, fun _ =>
    ⟨hok, _, _, [], ⟨[], [], trodAll_append (hargs _) (hres _ _ _), hvars _, rfl, fun _ _ h => by simp at h, fun _ => by simp⟩, fun _ h => by simp at h⟩⟩
end Go.Proofs.YtamenccdnobjkaaGreatDoor.Kit

/-
  What a row that lists Go's own two tables of characters' first octets gives: the tables, as they lie in memory; and a world that holds them.
-/
namespace Go.Proofs.YtamenccdnobjkaaGreatDoor.Laid
open Go.ChangeShapes Go.WideShapes Go.ChangeAt Go.RowKit

abbrev list : List (String × DataW Unit) := [("unicode/utf8.acceptRanges", Rows.laid_unicode_utf8_acceptRanges), ("unicode/utf8.first", Rows.laid_unicode_utf8_first)]
set_option maxRecDepth 100000 in
theorem first_eq : Rows.laid_unicode_utf8_first = Lib.firstData := by kernel_rfl
theorem accept_eq : (Rows.laid_unicode_utf8_acceptRanges : DataW Unit) = Lib.acceptData := by kernel_rfl

theorem tabs {W : World} (h : laidMetH Tryz.prog list W) : Utf.Tabs W := by
  have h' : laidMet Tryz.prog list W := h
  have h3 := Lib.laidMet.reads h' (n := "unicode/utf8.first") (d := Rows.laid_unicode_utf8_first) (.tail _ (.head _))
  have h4 := Lib.laidMet.reads h' (n := "unicode/utf8.acceptRanges") (d := Rows.laid_unicode_utf8_acceptRanges) (.head _)
  rw [first_eq] at h3
  rw [accept_eq] at h4
  exact utf8Tabs_of_reads (ρ := Tryz.lays260_ren) Tryz.lays260 ⟨by kernel_rfl, by kernel_rfl, by kernel_rfl, by kernel_rfl, by kernel_rfl, by kernel_rfl, by kernel_rfl⟩ h3 h4

/-- A world that holds the two tables. -/
noncomputable def laidWorld (os : Os) : World :=
  { World.holding Tryz.prog os ⟨#[], #[], []⟩ with heap := (((World.holding Tryz.prog os ⟨#[], #[], []⟩).heap.modify 1 fun
      | .cells _ t frozen => .cells (Lib.firstTab.map fun z => Value.int .u8 z).toArray t frozen
      | o => o).modify 2 fun
      | .cells _ t frozen => .cells ((List.range 16).flatMap fun i => [Value.int .u8 (Lib.accLo i), Value.int .u8 (Lib.accHi i)]).toArray t frozen
      | o => o) }
set_option maxRecDepth 100000 in
theorem laid_met (os : Os) (args : Array Value) : laidMet Tryz.prog list ((laidWorld os).forCall (fun _ _ => 0) ⟨#[], args, []⟩).memory :=
  laidMet_of_run' 8 (by kernel_rfl) (by kernel_rfl)
end Go.Proofs.YtamenccdnobjkaaGreatDoor.Laid
