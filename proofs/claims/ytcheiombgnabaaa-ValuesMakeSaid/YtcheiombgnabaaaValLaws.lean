/-
  The law ValuesOwn, out of the contracts of the calls that it makes.
-/
import Derived.Test.YtcheiombgnabaaaValMax
namespace Go.Proofs.Ytcheiombgnabaaa.Val
open Go.RowKit Go.Proofs.Ytcheiombgnabaaa.Oct

/-- What a call leaves that tells a value in memory of its own, and an error's number. -/
def OwnTold (r : V × Int) (W : World) (e : Ending) (W' : World) : Prop := ∃ v, e = .returned (.tuple #[v, .int .i64 r.2]) ∧ Holds (Mine W.heap.size W') W' v r.1 ∧ Below W.heap.size W W'

/-- From lo to below hi. -/
abbrev Zone (lo hi : Nat) : Nat → Nat → Prop := fun b _ => lo ≤ b ∧ b < hi
theorem Spoilt.mono {S T S' T' : Nat → Nat → Prop} {A B : World} (h : Spoilt S T A B) (hs : ∀ b m, S b m → S' b m) (ht : ∀ b m, T b m → T' b m) : Spoilt S' T' A B :=
  ⟨h.os, h.tape, h.output, h.size, fun b hb h1 h2 => h.block b hb (fun m x => h1 m (hs b m x)) (fun m x => h2 m (ht b m x))⟩
theorem Spoilt.zone {lo hi : Nat} {A B : World} (h : Spoilt (Zone lo hi) (Zone lo hi) A B) {b : Nat} (hb : b < A.heap.size) (hz : b < lo ∨ hi ≤ b) : B.heap[b]? = A.heap[b]? :=
  h.block b hb (fun _ ⟨h1, h2⟩ => by omega) (fun _ ⟨h1, h2⟩ => by omega)

theorem five {X : World} {B : Nat} {u0 u1 u2 u3 u4 : Value} {t : TypeId} (h : X.heap[B]? = some (.cells #[u0, u1, u2, u3, u4] t (0, 0))) :
    X.cell? ⟨B, 0, none⟩ = some u0 ∧ X.cell? ⟨B, 1, none⟩ = some u1 ∧ X.cell? ⟨B, 2, none⟩ = some u2 ∧ X.cell? ⟨B, 3, none⟩ = some u3 ∧ X.cell? ⟨B, 4, none⟩ = some u4 :=
  ⟨cell_row h rfl, cell_row h rfl, cell_row h rfl, cell_row h rfl, cell_row h rfl⟩

theorem mine_old {lo : Nat} {w : World} {v : Value} {x : V} (h : Holds (Mine lo w) w v x) : Holds (Old w.heap.size) w v x := h.frame (fun _ _ _ _ _ => rfl) (fun _ _ _ _ h => h.lt)

theorem holds_form5 {C : Cond} {w : World} {v : Value} {x : V} (h : Holds C w v x) : ∃ k n s p a b q c d, v = .agg #[.int .i64 k, .int .i64 n, .string s, .slice p a b, .slice q c d] := by
  cases h with
  | mk k n s p cap K l ks b off c hr hp hc hK hl =>
    obtain ⟨q, qc, qb, qo, rfl, _⟩ := hK
    exact ⟨k, n, s, p, _, _, q, _, _, rfl⟩

theorem vnum_c (n : Int) (w : World) : Calls Try.prog 14 #[.int .i64 n] w fun e w' => e = .returned (.int .i64 n) ∧ w = w' := by
  go_enter Try.func14, Try.ntmps14
  go_wp2
  go_ret
  exact ⟨rfl, rfl⟩

set_option maxHeartbeats 8000000 in
set_option maxRecDepth 100000 in
theorem law_own (W : World) {v : Value} {x : V} (hv : Holds (Old W.heap.size) W v x) (name : ByteArray) (m : Int)
    (halive : ∀ w, Calls Try.prog 5 #[] w fun e w' => e = .returned (.bool true) ∧ Below w.heap.size w w')
    (hclone : ∀ (w : World) {a : Value} {x : V}, Holds (Old w.heap.size) w a x → Calls Try.prog 7 #[a] w (Owned x w))
    (hfield : ∀ (w : World) {a : Value} {x : V} (name : ByteArray), Holds (Old w.heap.size) w a x → Calls Try.prog 8 #[a, .string name] w (OwnTold (fieldV x name) w))
    (hindex : ∀ (w : World) {a : Value} {x : V} (m : Int), Holds (Old w.heap.size) w a x → Calls Try.prog 9 #[a, .int .i64 m] w (OwnTold (indexV x m) w)) :
    Calls Try.prog 3 #[v, .string name, .int .i64 m] W fun e w' => e = .returned (.bool true) ∧ Below W.heap.size W w' := by
  obtain ⟨k0, n0, s0, p0, a0, b0, q0, c0, d0, rfl⟩ := holds_form5 hv
  have HV := Lib.hid hv
  have HCl := Lib.hid @hclone
  have HFi := Lib.hid @hfield
  have HIn := Lib.hid @hindex
  clear hv hclone hfield hindex
  go_enter Try.func3, Try.ntmps3
  go_wp2_with fail
  refine (halive _).mono ?_
  rintro e w1 ⟨rfl, hb1⟩
  clear halive
  have B01 : Below W.heap.size W w1 := ((Below.refl _ W).alloc (Nat.le_refl _) _).trans (hb1.mono (by simp))
  have D1 : w1.heap[W.heap.size]? = some (.cells #[.int .i64 k0, .int .i64 n0, .string s0, .slice p0 a0 b0, .slice q0 c0 d0] 25 (0, 0)) := (hb1.block _ (by simp)).trans (heap_alloc_new W _)
  have z1 : W.heap.size < w1.heap.size := (Array.getElem?_eq_some_iff.1 D1).1
  obtain ⟨x0, x1, x2, x3, x4⟩ := five D1
  have hcall := own_c W.heap.size W HV.out w1 B01.size B01
  have H1 := Lib.hid (And.intro B01 D1)
  clear hb1 B01 D1
  go_wp2_with fail
  refine hcall.mono ?_
  rintro e w2 ⟨v2, rfl, hA2, hB2⟩
  obtain ⟨k1, n1, s1, p1, a1, b1, q1, c1, d1, rfl⟩ := holds_form5 hA2
  clear hcall x0 x1 x2 x3 x4
  have hin := mine_old hA2
  -- the blocks that may be spoilt
  obtain ⟨k1', n1', s1', L1, K1, hform, okL, okK⟩ := holds_max hA2
  simp only [Value.agg.injEq, Array.mk.injEq, List.cons.injEq, and_true] at hform
  obtain ⟨-, -, -, rfl, rfl⟩ := hform
  have hmax := max_good w1.heap.size w2
  have hsub : (∀ b m, SMax w1.heap.size w2 b m → Zone w1.heap.size w2.heap.size b m) ∧ (∀ b m, TMax w1.heap.size w2 b m → Zone w1.heap.size w2.heap.size b m) :=
    ⟨fun b m h => ⟨hmax.2.1 b m h, hmax.1.lt (.inl ⟨m, h⟩)⟩, fun b m h => ⟨hmax.2.2 b m h, hmax.1.lt (.inr ⟨m, h⟩)⟩⟩
  have z2 : w1.heap.size ≤ w2.heap.size := hB2.size
  have D2 : w2.heap[W.heap.size]? = some (.cells #[.int .i64 k0, .int .i64 n0, .string s0, .slice p0 a0 b0, .slice q0 c0 d0] 25 (0, 0)) := (hB2.block _ z1).trans H1.out.2
  have L2 : ∀ b, b < w1.heap.size → w2.heap[b]? = w1.heap[b]? := fun b hb => hB2.block b hb
  have hin3 : Holds (Old (w2.alloc (.cells #[.int .i64 k1, .int .i64 n1, .string s1, .slice p1 a1 b1, .slice q1 c1 d1] 25)).heap.size) (w2.alloc (.cells #[.int .i64 k1, .int .i64 n1, .string s1, .slice p1 a1 b1, .slice q1 c1 d1] 25)) (.agg #[.int .i64 k1, .int .i64 n1, .string s1, .slice p1 a1 b1, .slice q1 c1 d1]) x :=
    (hin.frame (fun _ b _ _ hb => Go.heap_alloc_old _ _ hb) (fun _ _ _ _ h => h)).older (by simp)
  have hcl := HCl.out (w2.alloc (.cells #[.int .i64 k1, .int .i64 n1, .string s1, .slice p1 a1 b1, .slice q1 c1 d1] 25)) hin3
  have H2 := Lib.hid (And.intro hB2 (And.intro hin (And.intro hmax (And.intro hsub (And.intro okL (And.intro okK (And.intro D2 (And.intro L2 hin3))))))))
  clear hA2 hB2 hin okL okK hmax hsub D2 L2 hin3
  go_wp2_with fail
  refine hcl.mono ?_
  clear hcl
  rintro e w4 ⟨v4, rfl, hA4, hB4⟩
  obtain ⟨k2, n2, s2, p2, a2, b2, q2, c2, d2, rfl⟩ := holds_form5 hA4
  have E4 : w4.heap[w2.heap.size]? = some (.cells #[.int .i64 k1, .int .i64 n1, .string s1, .slice p1 a1 b1, .slice q1 c1 d1] 25 (0, 0)) := (hB4.block _ (by simp)).trans (heap_alloc_new w2 _)
  have z4 : w2.heap.size < w4.heap.size := (Array.getElem?_eq_some_iff.1 E4).1
  obtain ⟨x0, x1, x2, x3, x4⟩ := five E4
  have L4 : ∀ b, b < w2.heap.size → w4.heap[b]? = w2.heap[b]? := fun b hb => (hB4.block b (by simp; omega)).trans (Go.heap_alloc_old _ _ hb)
  have hin4 : Holds (Old (w4.alloc (.cells #[.int .i64 k2, .int .i64 n2, .string s2, .slice p2 a2 b2, .slice q2 c2 d2] 25)).heap.size) (w4.alloc (.cells #[.int .i64 k2, .int .i64 n2, .string s2, .slice p2 a2 b2, .slice q2 c2 d2] 25)) (.agg #[.int .i64 k1, .int .i64 n1, .string s1, .slice p1 a1 b1, .slice q1 c1 d1]) x :=
    (H2.out.2.1.frame (fun _ b _ _ hb => (Go.heap_alloc_old _ _ (by omega)).trans (L4 b hb)) (fun _ _ _ _ h => h)).older (by simp; omega)
  have hfi := HFi.out (w4.alloc (.cells #[.int .i64 k2, .int .i64 n2, .string s2, .slice p2 a2 b2, .slice q2 c2 d2] 25)) name hin4
  have H4 := Lib.hid (And.intro hA4 (And.intro hB4 (And.intro E4 L4)))
  clear hA4 hB4 E4 L4 hin4
  go_wp2_with fail
  refine hfi.mono ?_
  clear hfi
  rintro e w5 ⟨v5, rfl, hA5, hB5⟩
  obtain ⟨k3, n3, s3, p3, a3, b3, q3, c3, d3, rfl⟩ := holds_form5 hA5
  clear x0 x1 x2 x3 x4
  have E5 : w5.heap[w2.heap.size]? = some (.cells #[.int .i64 k1, .int .i64 n1, .string s1, .slice p1 a1 b1, .slice q1 c1 d1] 25 (0, 0)) := (hB5.block _ (by simp; omega)).trans ((Go.heap_alloc_old _ _ z4).trans H4.out.2.2.1)
  have z5 : w4.heap.size < w5.heap.size := by have := hB5.size; simp at this; omega
  obtain ⟨x0, x1, x2, x3, x4⟩ := five E5
  have L5 : ∀ b, b < w4.heap.size → w5.heap[b]? = w4.heap[b]? := fun b hb => (hB5.block b (by simp; omega)).trans (Go.heap_alloc_old _ _ hb)
  have A5 : w5.heap[w4.heap.size]? = some (.cells #[.int .i64 k2, .int .i64 n2, .string s2, .slice p2 a2 b2, .slice q2 c2 d2] 25 (0, 0)) := (hB5.block _ (by simp)).trans (heap_alloc_new w4 _)
  have z25 : w2.heap.size < w5.heap.size := by omega
  have hin5 : Holds (Old (w5.alloc (.cells #[.int .i64 k3, .int .i64 n3, .string s3, .slice p3 a3 b3, .slice q3 c3 d3] 25)).heap.size) (w5.alloc (.cells #[.int .i64 k3, .int .i64 n3, .string s3, .slice p3 a3 b3, .slice q3 c3 d3] 25)) (.agg #[.int .i64 k1, .int .i64 n1, .string s1, .slice p1 a1 b1, .slice q1 c1 d1]) x :=
    (H2.out.2.1.frame (fun _ b _ _ hb => (Go.heap_alloc_old _ _ (by omega)).trans ((L5 b (by omega)).trans (H4.out.2.2.2 b hb))) (fun _ _ _ _ h => h)).older (by simp; omega)
  have hix := HIn.out (w5.alloc (.cells #[.int .i64 k3, .int .i64 n3, .string s3, .slice p3 a3 b3, .slice q3 c3 d3] 25)) m hin5
  have H5 := Lib.hid (And.intro hA5 (And.intro hB5 (And.intro E5 (And.intro L5 A5))))
  clear hA5 hB5 E5 L5 A5 hin5
  go_wp2_with fail
  refine hix.mono ?_
  clear hix
  rintro e w6 ⟨v6, rfl, hA6, hB6⟩
  obtain ⟨k4, n4, s4, p4, a4, b4, q4, c4, d4, rfl⟩ := holds_form5 hA6
  clear x0 x1 x2 x3 x4
  have E6 : w6.heap[w2.heap.size]? = some (.cells #[.int .i64 k1, .int .i64 n1, .string s1, .slice p1 a1 b1, .slice q1 c1 d1] 25 (0, 0)) := (hB6.block _ (by simp; omega)).trans ((Go.heap_alloc_old _ _ z25).trans H5.out.2.2.1)
  have z6 : w5.heap.size < w6.heap.size := by have := hB6.size; simp at this; omega
  have z26 : w2.heap.size < w6.heap.size := by omega
  obtain ⟨x0, x1, x2, x3, x4⟩ := five E6
  have L6 : ∀ b, b < w5.heap.size → w6.heap[b]? = w5.heap[b]? := fun b hb => (hB6.block b (by simp; omega)).trans (Go.heap_alloc_old _ _ hb)
  have A6 : w6.heap[w5.heap.size]? = some (.cells #[.int .i64 k3, .int .i64 n3, .string s3, .slice p3 a3 b3, .slice q3 c3 d3] 25 (0, 0)) := (hB6.block _ (by simp)).trans (heap_alloc_new w5 _)
  have T6 : Ty (SMax w1.heap.size w2) (TMax w1.heap.size w2) (w6.alloc (.cells #[.int .i64 k4, .int .i64 n4, .string s4, .slice p4 a4 b4, .slice q4 c4 d4] 25)) := by
    have hs : Below w2.heap.size w2 w6 := by
      have h1 := ((Below.refl w2.heap.size w2).alloc (Nat.le_refl _) (.cells #[.int .i64 k1, .int .i64 n1, .string s1, .slice p1 a1 b1, .slice q1 c1 d1] 25)).trans (H4.out.2.1.mono (by simp))
      have h2 := (h1.alloc (by omega) (.cells #[.int .i64 k2, .int .i64 n2, .string s2, .slice p2 a2 b2, .slice q2 c2 d2] 25)).trans (H5.out.2.1.mono (by simp; omega))
      exact (h2.alloc (by omega) (.cells #[.int .i64 k3, .int .i64 n3, .string s3, .slice p3 a3 b3, .slice q3 c3 d3] 25)).trans (hB6.mono (by simp; omega))
    exact (H2.out.2.2.1.1.kept hs).alloc _
  have hsp := spoil_c _ _ 20 (by omega) k1 n1 s1 _ _ (w6.alloc (.cells #[.int .i64 k4, .int .i64 n4, .string s4, .slice p4 a4 b4, .slice q4 c4 d4] 25)) H2.out.2.2.2.2.1 H2.out.2.2.2.2.2.1 T6
  have H6 := Lib.hid (And.intro hA6 (And.intro hB6 (And.intro L6 A6)))
  clear hA6 hB6 E6 L6 A6 T6
  go_wp2_with fail
  refine hsp.mono ?_
  clear hsp
  rintro e w7 ⟨⟨u7, rfl⟩, -, hS7⟩
  clear x0 x1 x2 x3 x4
  have hZ := hS7.mono H2.out.2.2.2.1.1 H2.out.2.2.2.1.2
  have keep : ∀ b, b < w6.heap.size → (b < w1.heap.size ∨ w2.heap.size ≤ b) → w7.heap[b]? = w6.heap[b]? := fun b hb hz => (hZ.zone (by simp; omega) hz).trans (Go.heap_alloc_old _ _ hb)
  have z7 : w6.heap.size < w7.heap.size := by have := hZ.size; simp at this; omega
  have low : ∀ b, b < w1.heap.size → w7.heap[b]? = w1.heap[b]? := fun b hb =>
    (keep b (by omega) (.inl hb)).trans ((H6.out.2.2.1 b (by omega)).trans ((H5.out.2.2.2.1 b (by omega)).trans ((H4.out.2.2.2 b (by omega)).trans (H2.out.2.2.2.2.2.2.2.1 b hb))))
  have D7 : w7.heap[W.heap.size]? = some (.cells #[.int .i64 k0, .int .i64 n0, .string s0, .slice p0 a0 b0, .slice q0 c0 d0] 25 (0, 0)) := (low _ z1).trans H1.out.2
  have A7 : w7.heap[w4.heap.size]? = some (.cells #[.int .i64 k2, .int .i64 n2, .string s2, .slice p2 a2 b2, .slice q2 c2 d2] 25 (0, 0)) := (keep _ (by omega) (.inr (by omega))).trans ((H6.out.2.2.1 _ (by omega)).trans H5.out.2.2.2.2)
  have B7 : w7.heap[w5.heap.size]? = some (.cells #[.int .i64 k3, .int .i64 n3, .string s3, .slice p3 a3 b3, .slice q3 c3 d3] 25 (0, 0)) := (keep _ (by omega) (.inr (by omega))).trans H6.out.2.2.2
  have C7 : w7.heap[w6.heap.size]? = some (.cells #[.int .i64 k4, .int .i64 n4, .string s4, .slice p4 a4 b4, .slice q4 c4 d4] 25 (0, 0)) := (hZ.zone (by simp) (.inr (by omega))).trans (heap_alloc_new w6 _)
  have low0 : ∀ b, b < W.heap.size → w7.heap[b]? = W.heap[b]? := fun b hb => (low b (by omega)).trans (H1.out.1.block b hb)
  have hb26 : Below W.heap.size W w7 := by
    have o2 := H1.out.1.trans (H2.out.1.mono (by omega))
    have o4 := (o2.alloc (by omega) (.cells #[.int .i64 k1, .int .i64 n1, .string s1, .slice p1 a1 b1, .slice q1 c1 d1] 25)).trans (H4.out.2.1.mono (by simp; omega))
    have o5 := (o4.alloc (by omega) (.cells #[.int .i64 k2, .int .i64 n2, .string s2, .slice p2 a2 b2, .slice q2 c2 d2] 25)).trans (H5.out.2.1.mono (by simp; omega))
    have o6 := (o5.alloc (by omega) (.cells #[.int .i64 k3, .int .i64 n3, .string s3, .slice p3 a3 b3, .slice q3 c3 d3] 25)).trans (H6.out.2.1.mono (by simp; omega))
    have o6' := o6.alloc (by omega) (.cells #[.int .i64 k4, .int .i64 n4, .string s4, .slice p4 a4 b4, .slice q4 c4 d4] 25)
    exact ⟨hZ.os.trans o6'.os, hZ.tape.trans o6'.tape, hZ.output.trans o6'.output, Nat.le_trans o6'.size hZ.size, low0⟩
  have hv7 : Holds (Old w7.heap.size) w7 (.agg #[.int .i64 k0, .int .i64 n0, .string s0, .slice p0 a0 b0, .slice q0 c0 d0]) x := (HV.out.frame (fun _ b _ _ hb => low0 b hb) (fun _ _ _ _ h => h)).older (by omega)
  have ha7 : Holds (Old w7.heap.size) w7 (.agg #[.int .i64 k2, .int .i64 n2, .string s2, .slice p2 a2 b2, .slice q2 c2 d2]) x := by
    refine H4.out.1.frame (fun t b off n h => ?_) (fun t b off n h => ?_)
    · have h1 := h.1
      have h2 := h.lt
      simp at h1
      exact (keep b (by omega) (.inr (by omega))).trans ((H6.out.2.2.1 b (by omega)).trans (H5.out.2.2.2.1 b h2))
    · have h2 := h.lt
      show b < w7.heap.size
      omega
  have hf7 : Holds (Old w7.heap.size) w7 (.agg #[.int .i64 k3, .int .i64 n3, .string s3, .slice p3 a3 b3, .slice q3 c3 d3]) (fieldV x name).1 := by
    refine H5.out.1.frame (fun t b off n h => ?_) (fun t b off n h => ?_)
    · have h1 := h.1
      have h2 := h.lt
      simp at h1
      exact (keep b (by omega) (.inr (by omega))).trans (H6.out.2.2.1 b h2)
    · have h2 := h.lt
      show b < w7.heap.size
      omega
  have hi7 : Holds (Old w7.heap.size) w7 (.agg #[.int .i64 k4, .int .i64 n4, .string s4, .slice p4 a4 b4, .slice q4 c4 d4]) (indexV x m).1 := by
    refine H6.out.1.frame (fun t b off n h => ?_) (fun t b off n h => ?_)
    · have h1 := h.1
      have h2 := h.lt
      simp at h1
      exact keep b h2 (.inr (by omega))
    · have h2 := h.lt
      show b < w7.heap.size
      omega
  have low1 : ∀ (v' : Value) (x' : V), Holds (Old W.heap.size) W v' x' → Holds (Old w7.heap.size) w7 v' x' := fun v' x' h => (h.frame (fun _ b _ _ hb => low0 b hb) (fun _ _ _ _ h => h)).older (by omega)
  have hfc := field_c W.heap.size W HV.out name w7 (by omega) hb26
  obtain ⟨x0, x1, x2, x3, x4⟩ := five D7
  have H7 := Lib.hid (And.intro D7 (And.intro A7 (And.intro B7 (And.intro C7 (And.intro hb26 (And.intro hv7 (And.intro ha7 (And.intro hf7 (And.intro hi7 low1)))))))))
  clear hS7 hZ keep low D7 A7 B7 C7 low0 hb26 hv7 ha7 hf7 hi7 low1 H2 H4 H5 H6
  go_wp2_with fail
  refine hfc.mono ?_
  clear hfc
  rintro e w8 ⟨v8, rfl, hA8, hB8⟩
  obtain ⟨k5, n5, s5, p5, a5, b5, q5, c5, d5, rfl⟩ := holds_form5 hA8
  clear x0 x1 x2 x3 x4
  have z8 : w7.heap.size ≤ w8.heap.size := hB8.size
  have z08 : W.heap.size < w8.heap.size := by omega
  obtain ⟨x0, x1, x2, x3, x4⟩ := five ((hB8.block _ (by omega)).trans H7.out.1)
  have hic := index_c W.heap.size W HV.out m (w8.alloc (.cells #[.int .i64 k5, .int .i64 n5, .string s5, .slice p5 a5 b5, .slice q5 c5 d5] 25)) (by simp; omega) ((H7.out.2.2.2.2.1.trans (hB8.mono (by omega))).alloc (by omega) _)
  have H8 := Lib.hid (And.intro hA8 hB8)
  clear hA8 hB8
  go_wp2_with fail
  refine hic.mono ?_
  clear hic
  rintro e w9 ⟨v9, rfl, hA9, hB9⟩
  obtain ⟨k6, n6, s6, p6, a6, b6, q6, c6, d6, rfl⟩ := holds_form5 hA9
  clear x0 x1 x2 x3 x4
  have z9 : w8.heap.size < w9.heap.size := by have := hB9.size; simp at this; omega
  have L9 : ∀ b, b < w7.heap.size → w9.heap[b]? = w7.heap[b]? := fun b hb => (hB9.block b (by simp; omega)).trans ((Go.heap_alloc_old _ _ (by omega)).trans (H8.out.2.block b hb))
  have X9 : w9.heap[w8.heap.size]? = some (.cells #[.int .i64 k5, .int .i64 n5, .string s5, .slice p5 a5 b5, .slice q5 c5 d5] 25 (0, 0)) := (hB9.block _ (by simp)).trans (heap_alloc_new w8 _)
  have B79 : Below w7.heap.size w7 (w9.alloc (.cells #[.int .i64 k6, .int .i64 n6, .string s6, .slice p6 a6 b6, .slice q6 c6 d6] 25)) := ((H8.out.2.alloc (by omega) _).trans (hB9.mono (by simp; omega))).alloc (by omega) _
  have hs1 := same_c w7.heap.size w7 H7.out.2.2.2.2.2.2.1 _ H7.out.2.2.2.2.2.1 (w9.alloc (.cells #[.int .i64 k6, .int .i64 n6, .string s6, .slice p6 a6 b6, .slice q6 c6 d6] 25)) (by simp; omega) B79
  have z09 : W.heap.size < w9.heap.size := by omega
  have z49 : w4.heap.size < w9.heap.size := by omega
  obtain ⟨x0, x1, x2, x3, x4⟩ := five ((L9 _ (by omega)).trans H7.out.1)
  obtain ⟨y0, y1, y2, y3, y4⟩ := five ((L9 _ (by omega)).trans H7.out.2.1)
  have H9 := Lib.hid (And.intro hA9 (And.intro hB9 (And.intro L9 (And.intro X9 B79))))
  clear hA9 hB9 L9 X9 B79
  go_wp2_with fail
  refine hs1.mono ?_
  clear hs1
  rintro e w10 ⟨rfl, hB10⟩
  clear x0 x1 x2 x3 x4 y0 y1 y2 y3 y4
  obtain ⟨e1, he1⟩ : ∃ e1, (fieldV x name).2 = e1 := ⟨_, rfl⟩
  obtain ⟨e2, he2⟩ : ∃ e2, (indexV x m).2 = e2 := ⟨_, rfl⟩
  simp only [he1, he2]
  clear he1 he2
  have z10 : w9.heap.size < w10.heap.size := by have := hB10.size; simp at this; omega
  have L10 : ∀ b, b < w9.heap.size → w10.heap[b]? = w9.heap[b]? := fun b hb => (hB10.block b (by simp; omega)).trans (Go.heap_alloc_old _ _ hb)
  have Y10 : w10.heap[w9.heap.size]? = some (.cells #[.int .i64 k6, .int .i64 n6, .string s6, .slice p6 a6 b6, .slice q6 c6 d6] 25 (0, 0)) := (hB10.block _ (by simp)).trans (heap_alloc_new w9 _)
  have B7t : Below w7.heap.size w7 w10 := H9.out.2.2.2.2.trans (hB10.mono (by simp; omega))
  have hs2 := same_c w7.heap.size w7 H7.out.2.2.2.2.2.2.2.1 _ (H7.out.2.2.2.2.2.2.2.2.2 _ _ H8.out.1) w10 (by omega) B7t
  obtain ⟨x0, x1, x2, x3, x4⟩ := five ((L10 _ (by omega)).trans ((H9.out.2.2.1 _ (by omega)).trans H7.out.2.2.1))
  obtain ⟨y0, y1, y2, y3, y4⟩ := five ((L10 _ (by omega)).trans H9.out.2.2.2.1)
  have H10 := Lib.hid (And.intro L10 (And.intro Y10 B7t))
  clear hB10 L10 Y10 B7t
  go_wp2_with fail
  refine (vnum_c _ _).mono ?_
  rintro e w10' ⟨rfl, rfl⟩
  go_wp2_with fail
  refine hs2.mono ?_
  clear hs2
  rintro e w11 ⟨rfl, hB11⟩
  clear x0 x1 x2 x3 x4 y0 y1 y2 y3 y4
  have z11 : w10.heap.size ≤ w11.heap.size := hB11.size
  have B7u : Below w7.heap.size w7 w11 := H10.out.2.2.trans (hB11.mono (by omega))
  have hs3 := same_c w7.heap.size w7 H7.out.2.2.2.2.2.2.2.2.1 _ (H7.out.2.2.2.2.2.2.2.2.2 _ _ H9.out.1) w11 (by omega) B7u
  obtain ⟨x0, x1, x2, x3, x4⟩ := five ((hB11.block _ (by omega)).trans ((H10.out.1 _ (by omega)).trans ((H9.out.2.2.1 _ (by omega)).trans H7.out.2.2.2.1)))
  obtain ⟨y0, y1, y2, y3, y4⟩ := five ((hB11.block _ (by omega)).trans H10.out.2.1)
  have H11 := Lib.hid B7u
  clear hB11 B7u
  go_wp2_with fail
  refine (vnum_c _ _).mono ?_
  rintro e w11' ⟨rfl, rfl⟩
  go_wp2_with fail
  refine hs3.mono ?_
  clear hs3
  rintro e w12 ⟨rfl, hB12⟩
  have HF := Lib.hid (H7.out.2.2.2.2.1.trans ((H11.out.mono (by omega)).trans (hB12.mono (by omega))))
  clear hB12
  go_wp2_with fail
  go_ret
  exact ⟨rfl, HF.out⟩
end Go.Proofs.Ytcheiombgnabaaa.Val
