/-
  Part 2: MrkPage, MrkCheck.
-/
import Derived.Test.YtbpccbdgkkfdpaaDoorMkBaseP1
/-
  Contracts of the page's Kind, Language and Check of states (muslinref13).
-/
namespace Go.Proofs.YtbpccbdgkkfdpaaDoor.Scn
open Go.RowKit Go.Proofs.YtbpccbdgkkfdpaaDoor.Oct Go.Proofs.YtbpccbdgkkfdpaaDoor.Tab

/-- A state as it lies in a call. -/
abbrev stV (k : Int) (E A : ByteArray) (d : UInt8) (P R : ByteArray) (n : Int) (W : ByteArray) : Value :=
  .agg #[.int .i64 k, .string E, .string A, .int .u8 (d.toNat : Int), .string P, .string R, .int .i64 n, .string W]
/-- The box of a state that came in, behind a call that keeps it. -/
theorem box8 {W X : World} {c0 c1 c2 c3 c4 c5 c6 c7 : Value} (h : Below (W.alloc (.cells #[c0, c1, c2, c3, c4, c5, c6, c7] 24)).heap.size (W.alloc (.cells #[c0, c1, c2, c3, c4, c5, c6, c7] 24)) X) :
    (X.cell? ⟨W.heap.size, 0, none⟩ = some c0 ∧ X.cell? ⟨W.heap.size, 1, none⟩ = some c1 ∧ X.cell? ⟨W.heap.size, 2, none⟩ = some c2 ∧ X.cell? ⟨W.heap.size, 3, none⟩ = some c3 ∧ X.cell? ⟨W.heap.size, 4, none⟩ = some c4 ∧
      X.cell? ⟨W.heap.size, 5, none⟩ = some c5 ∧ X.cell? ⟨W.heap.size, 6, none⟩ = some c6 ∧ X.cell? ⟨W.heap.size, 7, none⟩ = some c7) ∧ Below W.heap.size W X := by
  have e : X.heap[W.heap.size]? = some (.cells #[c0, c1, c2, c3, c4, c5, c6, c7] 24 (0, 0)) := (h.block _ (by simp)).trans (heap_alloc_new W _)
  exact ⟨⟨cell_of_row X _ 0 _ _ _ e, cell_of_row X _ 1 _ _ _ e, cell_of_row X _ 2 _ _ _ e, cell_of_row X _ 3 _ _ _ e, cell_of_row X _ 4 _ _ _ e, cell_of_row X _ 5 _ _ _ e, cell_of_row X _ 6 _ _ _ e, cell_of_row X _ 7 _ _ _ e⟩, ((Below.refl _ W).alloc (Nat.le_refl _) _).trans (h.mono (by simp))⟩
def attI (k : Int) (e a : List UInt8) : Nat := if (k < 8 ∨ 10 < k) ∨ endE e = true then 0 else attrN e a
theorem pre_slash (e : List UInt8) : preL [47] e = endE e := by
  unfold preL endE
  cases e with
  | nil => decide
  | cons c t =>
    rw [Bool.eq_iff_iff, decide_eq_true_eq, List.cons_prefix_cons]
    simp
    exact eq_comm

theorem rKind_c (k : Int) (e a : List UInt8) (d : UInt8) (P R : ByteArray) (n : Int) (W : ByteArray) (w : World) :
    Calls Tryd.prog 24 #[stV k (S e) (S a) d P R n W] w fun x w' => x = .returned (.int .i64 (attI k e a : Nat)) ∧ Below w.heap.size w w' := by
  have hp := fun w => rpre_c [47] e w
  rw [pre_slash] at hp
  have ha := fun w => rAttribute_c e a w
  have E : Hid (attI k e a = if (k < 8 ∨ 10 < k) ∨ endE e = true then 0 else attrN e a) := by show _ = _; rfl
  generalize attI k e a = ans at E ⊢
  generalize endE e = b at hp E
  generalize attrN e a = m at ha E
  generalize S e = EE at *
  generalize S a = AA at *
  by_cases h1 : k < 8
  · go_enter Tryd.func24, Tryd.ntmps24
    go_wp2_with fail
    go_ret
    exact ⟨ret_int (by rw [E.out, if_pos (.inl (.inl h1))]; rfl), (Below.refl _ w).alloc (Nat.le_refl _) _⟩
  · have h1' : 8 ≤ k := by omega
    by_cases h2 : 10 < k
    · go_enter Tryd.func24, Tryd.ntmps24
      go_wp2_with fail
      go_ret
      exact ⟨ret_int (by rw [E.out, if_pos (.inl (.inr h2))]; rfl), (Below.refl _ w).alloc (Nat.le_refl _) _⟩
    · have h2' : k ≤ 10 := by omega
      cases b with
      | true =>
        go_enter Tryd.func24, Tryd.ntmps24
        go_wp2_with fail
        refine (hp _).mono ?_
        rintro x w1 ⟨rfl, rfl⟩
        go_wp2_with fail
        go_ret
        exact ⟨ret_int (by rw [E.out, if_pos (.inr trivial)]; rfl), (Below.refl _ w).alloc (Nat.le_refl _) _⟩
      | false =>
        go_enter Tryd.func24, Tryd.ntmps24
        go_wp2_with fail
        refine (hp _).mono ?_
        rintro x w1 ⟨rfl, rfl⟩
        go_wp2_with fail
        refine (ha _).mono ?_
        rintro x w1 ⟨rfl, hb⟩
        go_wp2_with fail
        go_ret
        exact ⟨ret_int (by rw [E.out, if_neg (by rintro ((h | h) | h) <;> first | omega | cases h)]), ((Below.refl _ w).alloc (Nat.le_refl _) _).trans (hb.mono (by simp))⟩

def lanI (k : Int) (e a : List UInt8) : Nat := if k = 18 then 3 else if k = 19 then 2 else if k = 9 ∨ k = 10 then (if attI k e a < 4 then attI k e a else 0) else 0
theorem lan_mid (k : Int) (e a : List UInt8) (d : UInt8) (P R : ByteArray) (n : Int) (W : ByteArray) (w : World) (h : k = 9 ∨ k = 10) :
    Calls Tryd.prog 13 #[stV k (S e) (S a) d P R n W] w fun x w' => x = .returned (.int .i64 (lanI k e a : Nat)) ∧ Below w.heap.size w w' := by
  have hk := fun w => rKind_c k e a d P R n W w
  have E : Hid (lanI k e a = if attI k e a < 4 then attI k e a else 0) := by
    show _ = _
    unfold lanI
    rw [if_neg (by omega), if_neg (by omega), if_pos h]
  generalize lanI k e a = ans at E ⊢
  generalize attI k e a = m at hk E
  generalize S e = EE at *
  generalize S a = AA at *
  have n1 : ¬ k = 18 := by omega
  have n2 : ¬ k = 19 := by omega
  have n3 : (k == 18) = false := by rw [beq_eq_false_iff_ne]; exact n1
  have n4 : (k == 19) = false := by rw [beq_eq_false_iff_ne]; exact n2
  by_cases hm : m < 4
  · have hm2 : (m : Int) < 4 := by omega
    rcases h with rfl | rfl
    all_goals
      clear n1 n2 n3 n4
      go_enter Tryd.func13, Tryd.ntmps13
      go_wp2_with fail
      refine (hk _).mono ?_
      rintro x w1 ⟨rfl, hb1⟩
      obtain ⟨⟨q0, q1, q2, q3, q4, q5, q6, q7⟩, hb⟩ := box8 hb1
      have B1 := Lib.hid hb
      clear hb1 hb
      go_wp2_with fail
      refine (hk _).mono ?_
      rintro x w2 ⟨rfl, hb2⟩
      have B2 := Lib.hid (B1.out.trans (hb2.mono B1.out.size))
      clear hb2 q0 q1 q2 q3 q4 q5 q6 q7
      go_wp2_with fail
      go_ret
      exact ⟨ret_int (by rw [E.out, if_pos hm]), B2.out⟩
  · have hm2 : (4 : Int) ≤ (m : Int) := by omega
    rcases h with rfl | rfl
    all_goals
      clear n1 n2 n3 n4
      go_enter Tryd.func13, Tryd.ntmps13
      go_wp2_with fail
      refine (hk _).mono ?_
      rintro x w1 ⟨rfl, hb1⟩
      obtain ⟨⟨q0, q1, q2, q3, q4, q5, q6, q7⟩, hb⟩ := box8 hb1
      have B1 := Lib.hid hb
      clear hb1 hb
      go_wp2_with fail
      go_ret
      exact ⟨ret_int (by rw [E.out, if_neg hm]; rfl), B1.out⟩
theorem rLanguage_c (k : Int) (e a : List UInt8) (d : UInt8) (P R : ByteArray) (n : Int) (W : ByteArray) (w : World) :
    Calls Tryd.prog 13 #[stV k (S e) (S a) d P R n W] w fun x w' => x = .returned (.int .i64 (lanI k e a : Nat)) ∧ Below w.heap.size w w' := by
  by_cases h : k = 9 ∨ k = 10
  · exact lan_mid k e a d P R n W w h
  · have E : Hid (lanI k e a = if k = 18 then 3 else if k = 19 then 2 else 0) := by
      show _ = _
      unfold lanI
      rw [if_neg h]
    generalize lanI k e a = ans at E ⊢
    generalize S e = EE at *
    generalize S a = AA at *
    have n3 : ¬ k = 9 := fun hk => h (.inl hk)
    have n4 : ¬ k = 10 := fun hk => h (.inr hk)
    clear h
    go_enter Tryd.func13, Tryd.ntmps13
    go_wp2_with fail
    all_goals go_ret
    all_goals exact ⟨ret_int (by rw [E.out]; simp_all), (Below.refl _ w).alloc (Nat.le_refl _) _⟩
end Go.Proofs.YtbpccbdgkkfdpaaDoor.Scn

/-
  Contract of the page's Check of states (muslinref13), at a state that may be.
-/
namespace Go.Proofs.YtbpccbdgkkfdpaaDoor.Scn
open Go.RowKit Go.Proofs.YtbpccbdgkkfdpaaDoor.Oct Go.Proofs.YtbpccbdgkkfdpaaDoor.Tab

theorem emptyN (a : List UInt8) : (S a).toList.isEmpty = decide (a = []) := by
  rw [ByteArray.toList_eq, list_S]
  cases a <;> rfl

set_option maxHeartbeats 4000000 in
set_option maxRecDepth 100000 in
theorem chk_0 (r : List UInt8) (lr : r.length ≤ 16) (w : World) :
    Calls Tryd.prog 8 #[stV (0 : Int) (S []) (S []) 0 (S []) (S r) 0 (S [])] w fun x w' => x = .returned (.int .i64 0) ∧ Below w.heap.size w w' := by
  have zr : ((S r).size : Int) = (r.length : Int) := by rw [size_S]
  have ir : (r.length : Int) ≤ 16 := by omega
  have hl := fun w => rLanguage_c (0 : Int) [] [] 0 (S []) (S r) 0 (S []) w
  have hm : lanI (0 : Int) [] [] = 0 := by unfold lanI; (repeat' split) <;> first | rfl | omega
  rw [hm] at hl
  generalize r.length = Lr at *
  generalize S r = Tr at *
  go_enter Tryd.func8, Tryd.ntmps8
  go_wp2_with fail
  refine (hl _).mono ?_
  rintro x w1 ⟨rfl, hb1⟩
  obtain ⟨⟨q0, q1, q2, q3, q4, q5, q6, q7⟩, hb⟩ := box8 hb1
  have B1 := Lib.hid hb
  clear hb1 hb
  go_wp2_with fail
  go_ret
  exact ⟨rfl, B1.out⟩

set_option maxHeartbeats 4000000 in
set_option maxRecDepth 100000 in
theorem chk_1 (k : Int) (h1 : 1 ≤ k) (h2 : k ≤ 2)  (w : World) :
    Calls Tryd.prog 8 #[stV k (S []) (S []) 0 (S []) (S []) 0 (S [])] w fun x w' => x = .returned (.int .i64 0) ∧ Below w.heap.size w w' := by
  have hl := fun w => rLanguage_c k [] [] 0 (S []) (S []) 0 (S []) w
  have hm : lanI k [] [] = 0 := by unfold lanI; (repeat' split) <;> first | rfl | omega
  rw [hm] at hl
  have f0 : k < 3 := by omega
  have f1 : k < 6 := by omega
  have f2 : k < 16 := by omega
  have f3 : k < 17 := by omega
  have f4 : k ≤ 10 := by omega
  have f5 : k ≤ 12 := by omega
  have f6 : (0 : Int) ≤ k := by omega
  have f7 : k ≤ 19 := by omega
  have f8 : ¬ k = 0 := by omega
  have f9 : ¬ k = 9 := by omega
  have f10 : ¬ k = 10 := by omega
  have f11 : ¬ k = 17 := by omega
  clear h1 h2
  go_enter Tryd.func8, Tryd.ntmps8
  go_wp2_with fail
  refine (hl _).mono ?_
  rintro x w1 ⟨rfl, hb1⟩
  obtain ⟨⟨q0, q1, q2, q3, q4, q5, q6, q7⟩, hb⟩ := box8 hb1
  have B1 := Lib.hid hb
  clear hb1 hb
  go_wp2_with fail
  go_ret
  exact ⟨rfl, B1.out⟩

set_option maxHeartbeats 4000000 in
set_option maxRecDepth 100000 in
theorem chk_3 (k : Int) (h1 : 3 ≤ k) (h2 : k ≤ 5) (e : List UInt8) (le : e.length ≤ 33) (w : World) :
    Calls Tryd.prog 8 #[stV k (S e) (S []) 0 (S []) (S []) 0 (S [])] w fun x w' => x = .returned (.int .i64 0) ∧ Below w.heap.size w w' := by
  have ze : ((S e).size : Int) = (e.length : Int) := by rw [size_S]
  have ie : (e.length : Int) ≤ 33 := by omega
  have hl := fun w => rLanguage_c k e [] 0 (S []) (S []) 0 (S []) w
  have hm : lanI k e [] = 0 := by unfold lanI; (repeat' split) <;> first | rfl | omega
  rw [hm] at hl
  have f0 : (3 : Int) ≤ k := by omega
  have f1 : k < 6 := by omega
  have f2 : k < 16 := by omega
  have f3 : k < 17 := by omega
  have f4 : k ≤ 10 := by omega
  have f5 : k ≤ 12 := by omega
  have f6 : (0 : Int) ≤ k := by omega
  have f7 : k ≤ 19 := by omega
  have f8 : ¬ k = 0 := by omega
  have f9 : ¬ k = 9 := by omega
  have f10 : ¬ k = 10 := by omega
  have f11 : ¬ k = 17 := by omega
  generalize e.length = Le at *
  generalize S e = Te at *
  clear h1 h2
  go_enter Tryd.func8, Tryd.ntmps8
  go_wp2_with fail
  refine (hl _).mono ?_
  rintro x w1 ⟨rfl, hb1⟩
  obtain ⟨⟨q0, q1, q2, q3, q4, q5, q6, q7⟩, hb⟩ := box8 hb1
  have B1 := Lib.hid hb
  clear hb1 hb
  go_wp2_with fail
  go_ret
  exact ⟨rfl, B1.out⟩

set_option maxHeartbeats 4000000 in
set_option maxRecDepth 100000 in
theorem chk_6 (k : Int) (h1 : 6 ≤ k) (h2 : k ≤ 8) (e a : List UInt8) (le : e.length ≤ 33) (la : a.length ≤ 32) (w : World) :
    Calls Tryd.prog 8 #[stV k (S e) (S a) 0 (S []) (S []) 0 (S [])] w fun x w' => x = .returned (.int .i64 0) ∧ Below w.heap.size w w' := by
  have ze : ((S e).size : Int) = (e.length : Int) := by rw [size_S]
  have ie : (e.length : Int) ≤ 33 := by omega
  have za : ((S a).size : Int) = (a.length : Int) := by rw [size_S]
  have ia : (a.length : Int) ≤ 32 := by omega
  have hl := fun w => rLanguage_c k e a 0 (S []) (S []) 0 (S []) w
  have hm : lanI k e a = 0 := by unfold lanI; (repeat' split) <;> first | rfl | omega
  rw [hm] at hl
  have f0 : (3 : Int) ≤ k := by omega
  have f1 : (6 : Int) ≤ k := by omega
  have f2 : k < 16 := by omega
  have f3 : k < 17 := by omega
  have f4 : k ≤ 10 := by omega
  have f5 : k ≤ 12 := by omega
  have f6 : (0 : Int) ≤ k := by omega
  have f7 : k ≤ 19 := by omega
  have f8 : ¬ k = 0 := by omega
  have f9 : ¬ k = 9 := by omega
  have f10 : ¬ k = 10 := by omega
  have f11 : ¬ k = 17 := by omega
  generalize e.length = Le at *
  generalize S e = Te at *
  generalize a.length = La at *
  generalize S a = Ta at *
  clear h1 h2
  go_enter Tryd.func8, Tryd.ntmps8
  go_wp2_with fail
  refine (hl _).mono ?_
  rintro x w1 ⟨rfl, hb1⟩
  obtain ⟨⟨q0, q1, q2, q3, q4, q5, q6, q7⟩, hb⟩ := box8 hb1
  have B1 := Lib.hid hb
  clear hb1 hb
  go_wp2_with fail
  go_ret
  exact ⟨rfl, B1.out⟩

set_option maxHeartbeats 4000000 in
set_option maxRecDepth 100000 in
theorem chk_9_34 (e a r : List UInt8) (le : e.length ≤ 33) (la : a.length ≤ 32) (lr : r.length ≤ 16) (hm : lanI (9 : Int) e a = 0) (w : World) :
    Calls Tryd.prog 8 #[stV (9 : Int) (S e) (S a) 34 (S []) (S r) 0 (S [])] w fun x w' => x = .returned (.int .i64 0) ∧ Below w.heap.size w w' := by
  have ze : ((S e).size : Int) = (e.length : Int) := by rw [size_S]
  have ie : (e.length : Int) ≤ 33 := by omega
  have za : ((S a).size : Int) = (a.length : Int) := by rw [size_S]
  have ia : (a.length : Int) ≤ 32 := by omega
  have zr : ((S r).size : Int) = (r.length : Int) := by rw [size_S]
  have ir : (r.length : Int) ≤ 16 := by omega
  have hl := fun w => rLanguage_c (9 : Int) e a 34 (S []) (S r) 0 (S []) w
  rw [hm] at hl
  generalize e.length = Le at *
  generalize S e = Te at *
  generalize a.length = La at *
  generalize S a = Ta at *
  generalize r.length = Lr at *
  generalize S r = Tr at *
  go_enter Tryd.func8, Tryd.ntmps8
  go_wp2_with fail
  refine (hl _).mono ?_
  rintro x w1 ⟨rfl, hb1⟩
  obtain ⟨⟨q0, q1, q2, q3, q4, q5, q6, q7⟩, hb⟩ := box8 hb1
  have B1 := Lib.hid hb
  clear hb1 hb
  go_wp2_with fail
  go_ret
  exact ⟨rfl, B1.out⟩

set_option maxHeartbeats 4000000 in
set_option maxRecDepth 100000 in
theorem chk_9_34n (e a r wd : List UInt8) (le : e.length ≤ 33) (la : a.length ≤ 32) (lr : r.length ≤ 16) (lwd : wd.length ≤ 16) (n : Int) (hn0 : 0 ≤ n) (hn1 : n ≤ 15) (hm : lanI (9 : Int) e a ≠ 0) (w : World) :
    Calls Tryd.prog 8 #[stV (9 : Int) (S e) (S a) 34 (S []) (S r) n (S wd)] w fun x w' => x = .returned (.int .i64 0) ∧ Below w.heap.size w w' := by
  have ze : ((S e).size : Int) = (e.length : Int) := by rw [size_S]
  have ie : (e.length : Int) ≤ 33 := by omega
  have za : ((S a).size : Int) = (a.length : Int) := by rw [size_S]
  have ia : (a.length : Int) ≤ 32 := by omega
  have zr : ((S r).size : Int) = (r.length : Int) := by rw [size_S]
  have ir : (r.length : Int) ≤ 16 := by omega
  have zwd : ((S wd).size : Int) = (wd.length : Int) := by rw [size_S]
  have iwd : (wd.length : Int) ≤ 16 := by omega
  have hl := fun w => rLanguage_c (9 : Int) e a 34 (S []) (S r) n (S wd) w
  have hmi : ¬ ((lanI (9 : Int) e a : Nat) : Int) = 0 := by omega
  generalize lanI (9 : Int) e a = m at hl hmi
  clear hm
  generalize e.length = Le at *
  generalize S e = Te at *
  generalize a.length = La at *
  generalize S a = Ta at *
  generalize r.length = Lr at *
  generalize S r = Tr at *
  generalize wd.length = Lwd at *
  generalize S wd = Twd at *
  go_enter Tryd.func8, Tryd.ntmps8
  go_wp2_with fail
  refine (hl _).mono ?_
  rintro x w1 ⟨rfl, hb1⟩
  obtain ⟨⟨q0, q1, q2, q3, q4, q5, q6, q7⟩, hb⟩ := box8 hb1
  have B1 := Lib.hid hb
  clear hb1 hb
  go_wp2_with fail
  go_ret
  exact ⟨rfl, B1.out⟩

set_option maxHeartbeats 4000000 in
set_option maxRecDepth 100000 in
theorem chk_9_39 (e a r : List UInt8) (le : e.length ≤ 33) (la : a.length ≤ 32) (lr : r.length ≤ 16) (hm : lanI (9 : Int) e a = 0) (w : World) :
    Calls Tryd.prog 8 #[stV (9 : Int) (S e) (S a) 39 (S []) (S r) 0 (S [])] w fun x w' => x = .returned (.int .i64 0) ∧ Below w.heap.size w w' := by
  have ze : ((S e).size : Int) = (e.length : Int) := by rw [size_S]
  have ie : (e.length : Int) ≤ 33 := by omega
  have za : ((S a).size : Int) = (a.length : Int) := by rw [size_S]
  have ia : (a.length : Int) ≤ 32 := by omega
  have zr : ((S r).size : Int) = (r.length : Int) := by rw [size_S]
  have ir : (r.length : Int) ≤ 16 := by omega
  have hl := fun w => rLanguage_c (9 : Int) e a 39 (S []) (S r) 0 (S []) w
  rw [hm] at hl
  generalize e.length = Le at *
  generalize S e = Te at *
  generalize a.length = La at *
  generalize S a = Ta at *
  generalize r.length = Lr at *
  generalize S r = Tr at *
  go_enter Tryd.func8, Tryd.ntmps8
  go_wp2_with fail
  refine (hl _).mono ?_
  rintro x w1 ⟨rfl, hb1⟩
  obtain ⟨⟨q0, q1, q2, q3, q4, q5, q6, q7⟩, hb⟩ := box8 hb1
  have B1 := Lib.hid hb
  clear hb1 hb
  go_wp2_with fail
  go_ret
  exact ⟨rfl, B1.out⟩

set_option maxHeartbeats 4000000 in
set_option maxRecDepth 100000 in
theorem chk_9_39n (e a r wd : List UInt8) (le : e.length ≤ 33) (la : a.length ≤ 32) (lr : r.length ≤ 16) (lwd : wd.length ≤ 16) (n : Int) (hn0 : 0 ≤ n) (hn1 : n ≤ 15) (hm : lanI (9 : Int) e a ≠ 0) (w : World) :
    Calls Tryd.prog 8 #[stV (9 : Int) (S e) (S a) 39 (S []) (S r) n (S wd)] w fun x w' => x = .returned (.int .i64 0) ∧ Below w.heap.size w w' := by
  have ze : ((S e).size : Int) = (e.length : Int) := by rw [size_S]
  have ie : (e.length : Int) ≤ 33 := by omega
  have za : ((S a).size : Int) = (a.length : Int) := by rw [size_S]
  have ia : (a.length : Int) ≤ 32 := by omega
  have zr : ((S r).size : Int) = (r.length : Int) := by rw [size_S]
  have ir : (r.length : Int) ≤ 16 := by omega
  have zwd : ((S wd).size : Int) = (wd.length : Int) := by rw [size_S]
  have iwd : (wd.length : Int) ≤ 16 := by omega
  have hl := fun w => rLanguage_c (9 : Int) e a 39 (S []) (S r) n (S wd) w
  have hmi : ¬ ((lanI (9 : Int) e a : Nat) : Int) = 0 := by omega
  generalize lanI (9 : Int) e a = m at hl hmi
  clear hm
  generalize e.length = Le at *
  generalize S e = Te at *
  generalize a.length = La at *
  generalize S a = Ta at *
  generalize r.length = Lr at *
  generalize S r = Tr at *
  generalize wd.length = Lwd at *
  generalize S wd = Twd at *
  go_enter Tryd.func8, Tryd.ntmps8
  go_wp2_with fail
  refine (hl _).mono ?_
  rintro x w1 ⟨rfl, hb1⟩
  obtain ⟨⟨q0, q1, q2, q3, q4, q5, q6, q7⟩, hb⟩ := box8 hb1
  have B1 := Lib.hid hb
  clear hb1 hb
  go_wp2_with fail
  go_ret
  exact ⟨rfl, B1.out⟩

set_option maxHeartbeats 4000000 in
set_option maxRecDepth 100000 in
theorem chk_10 (e a r : List UInt8) (le : e.length ≤ 33) (la : a.length ≤ 32) (lr : r.length ≤ 16) (hm : lanI (10 : Int) e a = 0) (w : World) :
    Calls Tryd.prog 8 #[stV (10 : Int) (S e) (S a) 0 (S []) (S r) 0 (S [])] w fun x w' => x = .returned (.int .i64 0) ∧ Below w.heap.size w w' := by
  have ze : ((S e).size : Int) = (e.length : Int) := by rw [size_S]
  have ie : (e.length : Int) ≤ 33 := by omega
  have za : ((S a).size : Int) = (a.length : Int) := by rw [size_S]
  have ia : (a.length : Int) ≤ 32 := by omega
  have zr : ((S r).size : Int) = (r.length : Int) := by rw [size_S]
  have ir : (r.length : Int) ≤ 16 := by omega
  have hl := fun w => rLanguage_c (10 : Int) e a 0 (S []) (S r) 0 (S []) w
  rw [hm] at hl
  generalize e.length = Le at *
  generalize S e = Te at *
  generalize a.length = La at *
  generalize S a = Ta at *
  generalize r.length = Lr at *
  generalize S r = Tr at *
  go_enter Tryd.func8, Tryd.ntmps8
  go_wp2_with fail
  refine (hl _).mono ?_
  rintro x w1 ⟨rfl, hb1⟩
  obtain ⟨⟨q0, q1, q2, q3, q4, q5, q6, q7⟩, hb⟩ := box8 hb1
  have B1 := Lib.hid hb
  clear hb1 hb
  go_wp2_with fail
  go_ret
  exact ⟨rfl, B1.out⟩

set_option maxHeartbeats 4000000 in
set_option maxRecDepth 100000 in
theorem chk_10n (e a r wd : List UInt8) (le : e.length ≤ 33) (la : a.length ≤ 32) (lr : r.length ≤ 16) (lwd : wd.length ≤ 16) (n : Int) (hn0 : 0 ≤ n) (hn1 : n ≤ 15) (hm : lanI (10 : Int) e a ≠ 0) (w : World) :
    Calls Tryd.prog 8 #[stV (10 : Int) (S e) (S a) 0 (S []) (S r) n (S wd)] w fun x w' => x = .returned (.int .i64 0) ∧ Below w.heap.size w w' := by
  have ze : ((S e).size : Int) = (e.length : Int) := by rw [size_S]
  have ie : (e.length : Int) ≤ 33 := by omega
  have za : ((S a).size : Int) = (a.length : Int) := by rw [size_S]
  have ia : (a.length : Int) ≤ 32 := by omega
  have zr : ((S r).size : Int) = (r.length : Int) := by rw [size_S]
  have ir : (r.length : Int) ≤ 16 := by omega
  have zwd : ((S wd).size : Int) = (wd.length : Int) := by rw [size_S]
  have iwd : (wd.length : Int) ≤ 16 := by omega
  have hl := fun w => rLanguage_c (10 : Int) e a 0 (S []) (S r) n (S wd) w
  have hmi : ¬ ((lanI (10 : Int) e a : Nat) : Int) = 0 := by omega
  generalize lanI (10 : Int) e a = m at hl hmi
  clear hm
  generalize e.length = Le at *
  generalize S e = Te at *
  generalize a.length = La at *
  generalize S a = Ta at *
  generalize r.length = Lr at *
  generalize S r = Tr at *
  generalize wd.length = Lwd at *
  generalize S wd = Twd at *
  go_enter Tryd.func8, Tryd.ntmps8
  go_wp2_with fail
  refine (hl _).mono ?_
  rintro x w1 ⟨rfl, hb1⟩
  obtain ⟨⟨q0, q1, q2, q3, q4, q5, q6, q7⟩, hb⟩ := box8 hb1
  have B1 := Lib.hid hb
  clear hb1 hb
  go_wp2_with fail
  go_ret
  exact ⟨rfl, B1.out⟩

set_option maxHeartbeats 4000000 in
set_option maxRecDepth 100000 in
theorem chk_11 (k : Int) (h1 : 11 ≤ k) (h2 : k ≤ 12) (e : List UInt8) (le : e.length ≤ 33) (w : World) :
    Calls Tryd.prog 8 #[stV k (S e) (S []) 0 (S []) (S []) 0 (S [])] w fun x w' => x = .returned (.int .i64 0) ∧ Below w.heap.size w w' := by
  have ze : ((S e).size : Int) = (e.length : Int) := by rw [size_S]
  have ie : (e.length : Int) ≤ 33 := by omega
  have hl := fun w => rLanguage_c k e [] 0 (S []) (S []) 0 (S []) w
  have hm : lanI k e [] = 0 := by unfold lanI; (repeat' split) <;> first | rfl | omega
  rw [hm] at hl
  have f0 : (3 : Int) ≤ k := by omega
  have f1 : (6 : Int) ≤ k := by omega
  have f2 : k < 16 := by omega
  have f3 : k < 17 := by omega
  have f4 : (10 : Int) < k := by omega
  have f5 : k ≤ 12 := by omega
  have f6 : (0 : Int) ≤ k := by omega
  have f7 : k ≤ 19 := by omega
  have f8 : ¬ k = 0 := by omega
  have f9 : ¬ k = 9 := by omega
  have f10 : ¬ k = 10 := by omega
  have f11 : ¬ k = 17 := by omega
  generalize e.length = Le at *
  generalize S e = Te at *
  clear h1 h2
  go_enter Tryd.func8, Tryd.ntmps8
  go_wp2_with fail
  refine (hl _).mono ?_
  rintro x w1 ⟨rfl, hb1⟩
  obtain ⟨⟨q0, q1, q2, q3, q4, q5, q6, q7⟩, hb⟩ := box8 hb1
  have B1 := Lib.hid hb
  clear hb1 hb
  go_wp2_with fail
  go_ret
  exact ⟨rfl, B1.out⟩

set_option maxHeartbeats 4000000 in
set_option maxRecDepth 100000 in
theorem chk_13 (k : Int) (h1 : 13 ≤ k) (h2 : k ≤ 15)  (w : World) :
    Calls Tryd.prog 8 #[stV k (S []) (S []) 0 (S []) (S []) 0 (S [])] w fun x w' => x = .returned (.int .i64 0) ∧ Below w.heap.size w w' := by
  have hl := fun w => rLanguage_c k [] [] 0 (S []) (S []) 0 (S []) w
  have hm : lanI k [] [] = 0 := by unfold lanI; (repeat' split) <;> first | rfl | omega
  rw [hm] at hl
  have f0 : (3 : Int) ≤ k := by omega
  have f1 : (6 : Int) ≤ k := by omega
  have f2 : k < 16 := by omega
  have f3 : k < 17 := by omega
  have f4 : (10 : Int) < k := by omega
  have f5 : (12 : Int) < k := by omega
  have f6 : (0 : Int) ≤ k := by omega
  have f7 : k ≤ 19 := by omega
  have f8 : ¬ k = 0 := by omega
  have f9 : ¬ k = 9 := by omega
  have f10 : ¬ k = 10 := by omega
  have f11 : ¬ k = 17 := by omega
  clear h1 h2
  go_enter Tryd.func8, Tryd.ntmps8
  go_wp2_with fail
  refine (hl _).mono ?_
  rintro x w1 ⟨rfl, hb1⟩
  obtain ⟨⟨q0, q1, q2, q3, q4, q5, q6, q7⟩, hb⟩ := box8 hb1
  have B1 := Lib.hid hb
  clear hb1 hb
  go_wp2_with fail
  go_ret
  exact ⟨rfl, B1.out⟩

set_option maxHeartbeats 4000000 in
set_option maxRecDepth 100000 in
theorem chk_16 (p : List UInt8) (lp : p.length ≤ 34) (w : World) :
    Calls Tryd.prog 8 #[stV (16 : Int) (S []) (S []) 0 (S p) (S []) 0 (S [])] w fun x w' => x = .returned (.int .i64 0) ∧ Below w.heap.size w w' := by
  have zp : ((S p).size : Int) = (p.length : Int) := by rw [size_S]
  have ip : (p.length : Int) ≤ 34 := by omega
  have hl := fun w => rLanguage_c (16 : Int) [] [] 0 (S p) (S []) 0 (S []) w
  have hm : lanI (16 : Int) [] [] = 0 := by unfold lanI; (repeat' split) <;> first | rfl | omega
  rw [hm] at hl
  generalize p.length = Lp at *
  generalize S p = Tp at *
  go_enter Tryd.func8, Tryd.ntmps8
  go_wp2_with fail
  refine (hl _).mono ?_
  rintro x w1 ⟨rfl, hb1⟩
  obtain ⟨⟨q0, q1, q2, q3, q4, q5, q6, q7⟩, hb⟩ := box8 hb1
  have B1 := Lib.hid hb
  clear hb1 hb
  go_wp2_with fail
  go_ret
  exact ⟨rfl, B1.out⟩

set_option maxHeartbeats 4000000 in
set_option maxRecDepth 100000 in
theorem chk_17 (e p r : List UInt8) (le : e.length ≤ 33) (lp : p.length ≤ 34) (lr : r.length ≤ 16) (w : World) :
    Calls Tryd.prog 8 #[stV (17 : Int) (S e) (S []) 0 (S p) (S r) 0 (S [])] w fun x w' => x = .returned (.int .i64 0) ∧ Below w.heap.size w w' := by
  have ze : ((S e).size : Int) = (e.length : Int) := by rw [size_S]
  have ie : (e.length : Int) ≤ 33 := by omega
  have zp : ((S p).size : Int) = (p.length : Int) := by rw [size_S]
  have ip : (p.length : Int) ≤ 34 := by omega
  have zr : ((S r).size : Int) = (r.length : Int) := by rw [size_S]
  have ir : (r.length : Int) ≤ 16 := by omega
  have hl := fun w => rLanguage_c (17 : Int) e [] 0 (S p) (S r) 0 (S []) w
  have hm : lanI (17 : Int) e [] = 0 := by unfold lanI; (repeat' split) <;> first | rfl | omega
  rw [hm] at hl
  generalize e.length = Le at *
  generalize S e = Te at *
  generalize p.length = Lp at *
  generalize S p = Tp at *
  generalize r.length = Lr at *
  generalize S r = Tr at *
  go_enter Tryd.func8, Tryd.ntmps8
  go_wp2_with fail
  refine (hl _).mono ?_
  rintro x w1 ⟨rfl, hb1⟩
  obtain ⟨⟨q0, q1, q2, q3, q4, q5, q6, q7⟩, hb⟩ := box8 hb1
  have B1 := Lib.hid hb
  clear hb1 hb
  go_wp2_with fail
  go_ret
  exact ⟨rfl, B1.out⟩

set_option maxHeartbeats 4000000 in
set_option maxRecDepth 100000 in
theorem chk_18 (k : Int) (h1 : 18 ≤ k) (h2 : k ≤ 19) (e p wd : List UInt8) (le : e.length ≤ 33) (lp : p.length ≤ 34) (lwd : wd.length ≤ 16) (n : Int) (hn0 : 0 ≤ n) (hn1 : n ≤ 15) (w : World) :
    Calls Tryd.prog 8 #[stV k (S e) (S []) 0 (S p) (S []) n (S wd)] w fun x w' => x = .returned (.int .i64 0) ∧ Below w.heap.size w w' := by
  have ze : ((S e).size : Int) = (e.length : Int) := by rw [size_S]
  have ie : (e.length : Int) ≤ 33 := by omega
  have zp : ((S p).size : Int) = (p.length : Int) := by rw [size_S]
  have ip : (p.length : Int) ≤ 34 := by omega
  have zwd : ((S wd).size : Int) = (wd.length : Int) := by rw [size_S]
  have iwd : (wd.length : Int) ≤ 16 := by omega
  have hl := fun w => rLanguage_c k e [] 0 (S p) (S []) n (S wd) w
  have hmi : ¬ ((lanI k e [] : Nat) : Int) = 0 := by unfold lanI; rw [Int.natCast_eq_zero]; (repeat' split) <;> omega
  generalize lanI k e [] = m at hl hmi
  have f0 : (3 : Int) ≤ k := by omega
  have f1 : (6 : Int) ≤ k := by omega
  have f2 : (16 : Int) ≤ k := by omega
  have f3 : (17 : Int) ≤ k := by omega
  have f4 : (10 : Int) < k := by omega
  have f5 : (12 : Int) < k := by omega
  have f6 : (0 : Int) ≤ k := by omega
  have f7 : k ≤ 19 := by omega
  have f8 : ¬ k = 0 := by omega
  have f9 : ¬ k = 9 := by omega
  have f10 : ¬ k = 10 := by omega
  have f11 : ¬ k = 17 := by omega
  generalize e.length = Le at *
  generalize S e = Te at *
  generalize p.length = Lp at *
  generalize S p = Tp at *
  generalize wd.length = Lwd at *
  generalize S wd = Twd at *
  clear h1 h2
  go_enter Tryd.func8, Tryd.ntmps8
  go_wp2_with fail
  refine (hl _).mono ?_
  rintro x w1 ⟨rfl, hb1⟩
  obtain ⟨⟨q0, q1, q2, q3, q4, q5, q6, q7⟩, hb⟩ := box8 hb1
  have B1 := Lib.hid hb
  clear hb1 hb
  go_wp2_with fail
  go_ret
  exact ⟨rfl, B1.out⟩
end Go.Proofs.YtbpccbdgkkfdpaaDoor.Scn
