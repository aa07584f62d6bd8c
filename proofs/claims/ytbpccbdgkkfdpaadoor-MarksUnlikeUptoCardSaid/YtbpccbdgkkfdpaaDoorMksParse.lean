/-
  Contract of marks.Parse; what laws of marks ask beside: num, alive.
-/
import Derived.Test.YtbpccbdgkkfdpaaDoorMksMay
import Derived.Laws.StructEq
namespace Go.Proofs.YtbpccbdgkkfdpaaDoor.Mks
open Go.RowKit Go.Proofs.YtbpccbdgkkfdpaaDoor.Oct Go.Proofs.YtbpccbdgkkfdpaaDoor.Num Go.Proofs.YtbpccbdgkkfdpaaDoor.Scn Go.Proofs.YtbpccbdgkkfdpaaDoor.Tab Go.Proofs.YtbpccbdgkkfdpaaDoor.Pct Go.Proofs.YtbpccbdgkkfdpaaDoor.Utf

theorem parse_rng (l : List UInt8) : -9223372036854775808 ≤ numAt l ∧ numAt l ≤ 9223372036854775807 := by
  have hS : ∀ u b, -9223372036854775808 ≤ (signedL u b).1 ∧ (signedL u b).1 ≤ 9223372036854775807 := fun u b => by
    unfold signedL
    repeat' split
    all_goals (dsimp only; omega)
  have hT : ∀ b t, -9223372036854775808 ≤ (parseT b t).1 ∧ (parseT b t).1 ≤ 9223372036854775807 := fun b t => by
    unfold parseT
    repeat' split
    all_goals first | exact hS _ _ | (dsimp only; omega)
  unfold numAt parseL
  split
  · exact hT _ _
  · exact hT _ _
theorem sized_read (t : List UInt8) (ht : t.length ≤ 268435456) : Sized (readL t) := by
  have hp : ∀ j, (txtAt (pieceL t j)).length ≤ 268435456 := fun j => Nat.le_trans (txt_len _) (Nat.le_trans (piece_len t j) ht)
  exact ⟨(parse_rng _).1, (parse_rng _).2, (parse_rng _).1, (parse_rng _).2, hp 1, hp 2, hp 4, hp 5, hp 7⟩

/-- What Parse tells of a text. -/
def parE (t : List UInt8) : Nat := if showL (readL t) = t then checkC (readL t) else 33
def parS (t : List UInt8) : St := if parE t = 0 then readL t else st0
theorem parE_show {t : List UInt8} (h : parE t = 0) : showL (parS t) = t ∧ checkC (parS t) = 0 := by
  unfold parS
  rw [if_pos h]
  unfold parE at h
  split at h
  · rename_i hs
    exact ⟨hs, h⟩
  · cases h
theorem checkC_le (s : St) : checkC s = 0 ∨ checkC s = 4 ∨ checkC s = 9 := by
  unfold checkC
  split
  · split
    · exact .inl rfl
    · exact .inr (.inr rfl)
  · exact .inr (.inl rfl)

/-- A box that came next, behind one that came first. -/
def Kq (w : World) (o : Obj) (g : Nat) (o2 : Obj) (Y : World) : Prop := Kp w o Y ∧ Y.heap[g]? = some o2
theorem Kq.new {w X : World} {o : Obj} (h : Kp w o X) (o2 : Obj) : Kq w o X.heap.size o2 (X.alloc o2) := ⟨h.alloc _, heap_alloc_new X o2⟩
theorem Kq.next {w Y Z : World} {o o2 : Obj} {g : Nat} (h : Kq w o g o2 Y) (b : Below Y.heap.size Y Z) : Kq w o g o2 Z := ⟨h.1.next b, (b.block _ (Array.getElem?_eq_some_iff.1 h.2).1).trans h.2⟩

set_option maxHeartbeats 1000000 in
set_option maxRecDepth 100000 in
theorem parse_w (T : ByteArray) (k : Int) (E A : ByteArray) (d : UInt8) (P R : ByteArray) (n : Int) (Wd sh : ByteArray) (same : Bool) (cc : Nat) (w : World) (pv : Value) (pe : Nat)
    (hR : ∀ Y, Below w.heap.size w Y → Calls Tryd.prog 12 #[.string T] Y fun e w' => e = .returned (stV k E A d P R n Wd) ∧ Below Y.heap.size Y w')
    (hP : Hid (∀ Y, Below w.heap.size w Y → Calls Tryd.prog 9 #[stV k E A d P R n Wd] Y fun e w' => e = .returned (.string sh) ∧ Below Y.heap.size Y w'))
    (hC : ∀ Y, Calls Tryd.prog 11 #[stV k E A d P R n Wd] Y fun x w' => x = .returned (.int .i64 (cc : Nat)) ∧ Below Y.heap.size Y w')
    (he : (sh.toList == T.toList) = same) (G : cc = 0 ∨ cc = 4 ∨ cc = 9)
    (F : Hid ((same = true ∧ cc = 0 → pv = stV k E A d P R n Wd ∧ pe = 0) ∧ (same = true ∧ cc ≠ 0 → pv = .agg zero8 ∧ pe = cc) ∧ (same = false → pv = .agg zero8 ∧ pe = 33))) :
    Calls Tryd.prog 6 #[.string T] w fun e w' => e = .returned (.tuple #[pv, .int .i64 (pe : Nat)]) ∧ Below w.heap.size w w' := by
  have KF := Lib.hid (Kp.first w (.cells zero8 24))
  have hne : (sh.toList != T.toList) = !same := by rw [bne, he]
  go_enter Tryd.func6, Tryd.ntmps6
  go_wp2_with fail
  refine (hR _ KF.out.1).mono ?_
  rintro e1 X1 ⟨rfl, b1⟩
  have K1 := Lib.hid (KF.out.next b1)
  have Q1 := Lib.hid (Kq.new K1.out (boxO k E A d.toNat P R n Wd))
  clear b1 hR KF
  go_wp2_with fail
  refine (hP.out _ Q1.out.1.1).mono ?_
  rintro e2 X2 ⟨rfl, b2⟩
  have Q2 := Lib.hid (Q1.out.next b2)
  have c2 := (row8 Q2.out.2).1
  obtain ⟨z0, z1, z2, z3, z4, z5, z6, z7⟩ := c2
  clear b2 hP Q1 K1
  cases same with
  | false =>
    obtain ⟨rfl, rfl⟩ := F.out.2.2 rfl
    obtain ⟨⟨x0, x1, x2, x3, x4, x5, x6, x7⟩, y0, y1, y2, y3, y4, y5, y6, y7⟩ := row8 Q2.out.1.2
    obtain ⟨⟨g0, g1, g2, g3, g4, g5, g6, g7⟩, -⟩ := row8 (set8_row Q2.out.1.2 (.int .i64 0) (.string ⟨#[]⟩) (.string ⟨#[]⟩) (.int .u8 0) (.string ⟨#[]⟩) (.string ⟨#[]⟩) (.int .i64 0) (.string ⟨#[]⟩))
    unfold set8 at g0 g1 g2 g3 g4 g5 g6 g7
    go_wp2_with fail
    refine bodyPost_ret (v := .tuple #[.agg zero8, .int .i64 33]) (by simp [results, Tryd.results6, go_sem, g0, g1, g2, g3, g4, g5, g6, g7]) rfl ?_
    exact ⟨rfl, set8_below Q2.out.1.1 (Nat.le_refl _) (.int .i64 0) (.string ⟨#[]⟩) (.string ⟨#[]⟩) (.int .u8 0) (.string ⟨#[]⟩) (.string ⟨#[]⟩) (.int .i64 0) (.string ⟨#[]⟩)⟩
  | true =>
    go_wp2_with fail
    refine (hC _).mono ?_
    rintro e3 X3 ⟨rfl, b3⟩
    have Q3 := Lib.hid (Q2.out.next b3)
    clear z0 z1 z2 z3 z4 z5 z6 z7 b3 hC Q2
    obtain ⟨⟨z0, z1, z2, z3, z4, z5, z6, z7⟩, -⟩ := row8 Q3.out.2
    obtain ⟨⟨x0, x1, x2, x3, x4, x5, x6, x7⟩, y0, y1, y2, y3, y4, y5, y6, y7⟩ := row8 Q3.out.1.2
    rcases G with rfl | hc
    · obtain ⟨rfl, rfl⟩ := F.out.1 ⟨trivial, rfl⟩
      obtain ⟨⟨g0, g1, g2, g3, g4, g5, g6, g7⟩, -⟩ := row8 (set8_row Q3.out.1.2 (.int .i64 k) (.string E) (.string A) (.int .u8 (d.toNat : Int)) (.string P) (.string R) (.int .i64 n) (.string Wd))
      unfold set8 at g0 g1 g2 g3 g4 g5 g6 g7
      go_wp2_with fail
      refine bodyPost_ret (v := .tuple #[stV k E A d P R n Wd, .int .i64 0]) (by simp [results, Tryd.results6, go_sem, g0, g1, g2, g3, g4, g5, g6, g7]) rfl ?_
      exact ⟨rfl, set8_below Q3.out.1.1 (Nat.le_refl _) (.int .i64 k) (.string E) (.string A) (.int .u8 (d.toNat : Int)) (.string P) (.string R) (.int .i64 n) (.string Wd)⟩
    · obtain ⟨rfl, rfl⟩ := F.out.2.1 ⟨trivial, by omega⟩
      have c0 : ((pe : Int) != 0) = true := by rw [bne_iff_ne]; omega
      obtain ⟨⟨g0, g1, g2, g3, g4, g5, g6, g7⟩, -⟩ := row8 (set8_row Q3.out.1.2 (.int .i64 0) (.string ⟨#[]⟩) (.string ⟨#[]⟩) (.int .u8 0) (.string ⟨#[]⟩) (.string ⟨#[]⟩) (.int .i64 0) (.string ⟨#[]⟩))
      unfold set8 at g0 g1 g2 g3 g4 g5 g6 g7
      go_wp2_with fail
      refine bodyPost_ret (v := .tuple #[.agg zero8, .int .i64 (pe : Nat)]) (by simp [results, Tryd.results6, go_sem, g0, g1, g2, g3, g4, g5, g6, g7]) rfl ?_
      exact ⟨rfl, set8_below Q3.out.1.1 (Nat.le_refl _) (.int .i64 0) (.string ⟨#[]⟩) (.string ⟨#[]⟩) (.int .u8 0) (.string ⟨#[]⟩) (.string ⟨#[]⟩) (.int .i64 0) (.string ⟨#[]⟩)⟩

theorem parse_c (t : List UInt8) (ht : t.length ≤ 268435456) (w : World) (hT : Tabs w) (hM : MaxAt w) :
    Calls Tryd.prog 6 #[.string (S t)] w fun e w' => e = .returned (.tuple #[stW (parS t), .int .i64 (parE t : Nat)]) ∧ Below w.heap.size w w' := by
  have hz := sized_read t ht
  refine parse_w (S t) (readL t).k (S (readL t).e) (S (readL t).a) (readL t).d (S (readL t).p) (S (readL t).r) (readL t).n (S (readL t).w) (S (showL (readL t))) (decide (showL (readL t) = t)) (checkC (readL t)) w _ _
    (fun Y b => read_c t (by omega) Y (hM.kept b)) (fun Y b => print_c (readL t) hz Y (hT.kept b)) (fun Y => check_c (readL t) Y) (eqT _ _) (checkC_le _) ⟨?_, ?_, ?_⟩
  · rintro ⟨h1, h2⟩
    have e : parE t = 0 := by unfold parE; rw [if_pos (of_decide_eq_true h1), h2]
    refine ⟨?_, e⟩
    unfold parS
    rw [if_pos e]
  · rintro ⟨h1, h2⟩
    have e : parE t = checkC (readL t) := by unfold parE; rw [if_pos (of_decide_eq_true h1)]
    refine ⟨?_, e⟩
    unfold parS
    rw [if_neg (by rw [e]; exact h2)]
    rfl
  · intro h1
    have e : parE t = 33 := by unfold parE; rw [if_neg (of_decide_eq_false h1)]
    refine ⟨?_, e⟩
    unfold parS
    rw [if_neg (by rw [e]; decide)]
    rfl
end Go.Proofs.YtbpccbdgkkfdpaaDoor.Mks
