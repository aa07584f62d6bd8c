/-
  Part 31: TokEnd, TokPut, TokTag.
-/
import Derived.Test.YtklpbkjplecdpaaGreatSxBaseP29
import Derived.Test.YtklpbkjplecdpaaGreatSxBaseP12
import Derived.Test.YtklpbkjplecdpaaGreatSxBaseP8
import Derived.Test.YtklpbkjplecdpaaGreatSxBaseP5
/-
  Contracts of the page's reader's end and low: a tag is told.
-/
namespace Go.Proofs.YtklpbkjplecdpaaGreat.Tok
open Go.RowKit Oct Utf Crf Tab Mem

structure TellW (R N : Nat) (l : List UInt8) (r : Rd) (t : Tk) (v : Value) (vo vt va : Value) (ps : List (Tk × Value)) (w : World) : Prop where
  rd : RdW R l r vo vt va ps w
  copy : w.heap[N]? = some (.cells #[.int .i64 t.k, .string (S t.n), .string (S t.x), v, .bool t.c] 52 (0, 0))
  att : AtR (R + 1) w v t.a
  sp : Sep v vo ∧ Sep v vt
  no : vo.ownBlock ≠ some N
theorem TellW.lt {R N : Nat} {l : List UInt8} {r : Rd} {t : Tk} {v vo vt va : Value} {ps : List (Tk × Value)} {w : World} (h : TellW R N l r t v vo vt va ps w) : N < w.heap.size := (Array.getElem?_eq_some_iff.1 h.copy).1

set_option maxHeartbeats 4000000 in
set_option maxRecDepth 100000 in
theorem rend_2 (R : Nat) (l : List UInt8) (r : Rd) (w : World) (h : RdM R l r w) (ho : r.out.length ≤ 134217728) (hk : r.tg.k = 2) :
    Calls Tryz.prog 54 #[.pointer (some ⟨R, 0, none⟩)] w fun e w' => e = .returned (.tuple #[]) ∧ RdM R l (endR r) w' ∧ Below R w w' := by
  obtain ⟨vo, vt, va, ps, h⟩ := h
  have hp : ps.length ≤ 134217728 := by have := congrArg List.length h.outs; rw [List.length_map] at this; omega
  have c2 : w.cell? ⟨R, 2, none⟩ = some (.int .i64 (r.st : Int)) := (h.cell 2).trans rfl
  have z2 := h.froz 2
  have h1 := h.seti (r' := { r with st := 0 }) 2 (.int .i64 0) rfl rfl rfl rfl
  obtain ⟨vp, vj, vc, rfl⟩ := own_slice h.att
  have c4 : _ = some (Value.int .i64 r.tg.k) := (h1.cell 4).trans rfl
  have c5 : _ = some (Value.string (S r.tg.n)) := (h1.cell 5).trans rfl
  have c6 : _ = some (Value.string (S r.tg.x)) := (h1.cell 6).trans rfl
  have c7 : _ = some (Value.slice vp vj vc) := (h1.cell 7).trans rfl
  have c8 : _ = some (Value.bool r.tg.c) := (h1.cell 8).trans rfl
  have hRW : R < w.heap.size := h.lt
  have HT : Hid (TellW R w.heap.size l { r with st := 0 } (⟨2, r.tg.n, r.tg.x, [], false⟩ : Tk) (.slice none 0 0) vo vt (.slice vp vj vc) ps ((w.setCell ⟨R, 2, none⟩ (.int .i64 0)).alloc (.cells #[.int .i64 2, .string (S r.tg.n), .string (S r.tg.x), (.slice none 0 0), .bool false] 52))) := by
    have hal : Below (w.setCell ⟨R, 2, none⟩ (.int .i64 0)).heap.size (w.setCell ⟨R, 2, none⟩ (.int .i64 0)) ((w.setCell ⟨R, 2, none⟩ (.int .i64 0)).alloc (.cells #[.int .i64 2, .string (S r.tg.n), .string (S r.tg.x), (.slice none 0 0), .bool false] 52)) := (Below.refl _ _).alloc (Nat.le_refl _) _
    have h2 := h1.keep hal
    have hno : vo.ownBlock ≠ some w.heap.size := fun e => by have := own_lt h.out _ e; omega
    refine ⟨h2, ?_, ?_, ?_, hno⟩
    · have e := heap_alloc_new (w.setCell ⟨R, 2, none⟩ (.int .i64 0)) (.cells #[.int .i64 2, .string (S r.tg.n), .string (S r.tg.x), (.slice none 0 0), .bool false] 52)
      simpa using e
    · exact World.ownsRow_nil _ _ _ _
    · exact ⟨nil_sep _, nil_sep _⟩
  have HB : Hid (Below R w ((w.setCell ⟨R, 2, none⟩ (.int .i64 0)).alloc (.cells #[.int .i64 2, .string (S r.tg.n), .string (S r.tg.x), (.slice none 0 0), .bool false] 52))) := (below_set _ (Below.refl R w)).alloc (by simp; omega) _
  have hel := fun w => rElement_c r.tg.n w
  have hkb : (r.tg.k == 2) = true := by rw [hk]; rfl
  have HE : Hid (endR r = { r with out := r.out ++ [⟨2, r.tg.n, r.tg.x, [], false⟩], tg := noTk, st := 0 }) := by
    have e1 : toldT r.tg = ⟨2, r.tg.n, r.tg.x, [], false⟩ := by
      unfold toldT
      rw [if_pos hk]
      show (⟨r.tg.k, r.tg.n, r.tg.x, [], false⟩ : Tk) = _
      rw [hk]
    show _ = _
    unfold endR rawK
    rw [e1]
    rfl
  clear h h1
  obtain ⟨i0, hi, hz0, hz1, hz2⟩ := info_parts info_tok
  go_enter Tryz.func54, Tryz.ntmps54
  go_wp2_with fail
  clear c2 z2 c4 c5 c6 c7 c8
  generalize (w.setCell ⟨R, 2, none⟩ (.int .i64 0)).alloc (.cells #[.int .i64 2, .string (S r.tg.n), .string (S r.tg.x), (.slice none 0 0), .bool false] 52) = W at HT HB ⊢
  generalize w.heap.size = N at HT hRW ⊢
  have hNW : N < W.heap.size := HT.out.lt
  have hRWW : R < W.heap.size := by omega
  have hNR : N ≠ R := by omega
  have c1 : W.cell? ⟨R, 1, none⟩ = some vo := (HT.out.rd.cell 1).trans rfl
  have t0 : W.cell? ⟨N, 0, none⟩ = some (.int .i64 2) := (cell_of_row W N 0 _ _ _ HT.out.copy).trans rfl
  have t1 : W.cell? ⟨N, 1, none⟩ = some (.string (S r.tg.n)) := (cell_of_row W N 1 _ _ _ HT.out.copy).trans rfl
  have t2 : W.cell? ⟨N, 2, none⟩ = some (.string (S r.tg.x)) := (cell_of_row W N 2 _ _ _ HT.out.copy).trans rfl
  have t3 : W.cell? ⟨N, 3, none⟩ = some (.slice none 0 0) := (cell_of_row W N 3 _ _ _ HT.out.copy).trans rfl
  have t4 : W.cell? ⟨N, 4, none⟩ = some (.bool false) := (cell_of_row W N 4 _ _ _ HT.out.copy).trans rfl
  go_region_law (first
    | (refine step_append_lies _ rfl (.tmp 20) (.tmp 22) 32 rfl (R + 1) 52 i0 _ 5 72 Tryz.underlying32 hi hz0 hz1 hz2 rfl (by omega) vo ps.length (ps.flatMap tkCs) (by simp [Act.eval]) (HT.out.rd.out.alloc _) ⟨W.heap.size, 0, none⟩ 1 1 (tkCs ((⟨2, r.tg.n, r.tg.x, [], false⟩ : Tk), (.slice none 0 0))) (by simp [Act.eval]) rfl (push_cells (cs := tkCs ((⟨2, r.tg.n, r.tg.x, [], false⟩ : Tk), (.slice none 0 0)))) (push_tok rfl) (by omega) (by unfold maxLen; omega) (by omega) (by simp; omega) (W.heap.size + 1) (by simp) ?_; intro g cp wB hownB hgB hatB hltB; obtain ⟨p1, p2, p3, p4, p5⟩ := HT.out.rd.tell ((⟨2, r.tg.n, r.tg.x, [], false⟩ : Tk), (.slice none 0 0)) HT.out.att HT.out.sp _ hownB (grown_drew hgB) (hatB.imp Eq.symm (congrArg some)) hNW hNR HT.out.no; have HP := Lib.hid (And.intro p1 (And.intro p2 (p5.trans HT.out.copy))); have b1 := fun i => cell_of_row wB R i _ _ _ p3; have b2 := fun i => frozen_of_row wB R i _ _ p3; have b3 := fun i => (cell_of_row wB N i _ _ _ (p4.trans HT.out.copy)); have HQ := Lib.hid (And.intro b1 (And.intro b2 b3)); have b0 := b1 1; have z0 := b2 1; clear p1 p2 p3 p4 p5 b1 b2 b3 hownB hgB hatB hltB))
  all_goals
    have b4 : _ = some (Value.int .i64 r.tg.k) := (HQ.out.1 4).trans rfl
    have b5 : _ = some (Value.string (S r.tg.n)) := (HQ.out.1 5).trans rfl
    have b6 : _ = some (Value.string (S r.tg.x)) := (HQ.out.1 6).trans rfl
    have b7 : _ = some (Value.slice vp vj vc) := (HQ.out.1 7).trans rfl
    have b8 : _ = some (Value.bool r.tg.c) := (HQ.out.1 8).trans rfl
    have z4 := HQ.out.2.1 4
    have z5 := HQ.out.2.1 5
    have z6 := HQ.out.2.1 6
    have z7 := HQ.out.2.1 7
    have z8 := HQ.out.2.1 8
    have n1 : _ = some (Value.string (S r.tg.n)) := (HQ.out.2.2 1).trans rfl
    clear HQ b0 z0
    go_wp2_with fail
    refine (hel _).mono ?_
    rintro e w6 ⟨rfl, hb6⟩
    have H6 := Lib.hid (HP.out.1.keep hb6)
    have HB6 := Lib.hid (HB.out.trans (HP.out.2.1.trans (hb6.mono (Nat.le_of_lt HP.out.1.lt))))
    have hn6 := (hb6.block N (Array.getElem?_eq_some_iff.1 HP.out.2.2).1).trans HP.out.2.2
    have n0 : _ = some (Value.int .i64 2) := (cell_of_row w6 N 0 _ _ _ hn6).trans rfl
    have n2 : _ = some (Value.string (S r.tg.n)) := (cell_of_row w6 N 1 _ _ _ hn6).trans rfl
    clear hb6 hn6 HP n1 b4 b5 b6 b7 b8 z4 z5 z6 z7 z8 c1 t0 t1 t2 t3 t4
    go_wp2_with fail
    go_end0
    exact ⟨rfl, ⟨_, _, _, _, by rw [HE.out]; exact H6.out⟩, HB6.out⟩
set_option maxHeartbeats 4000000 in
set_option maxRecDepth 100000 in
theorem rend_o (R : Nat) (l : List UInt8) (r : Rd) (w : World) (h : RdM R l r w) (ho : r.out.length ≤ 134217728) (hk : r.tg.k ≠ 2) (hk1 : r.tg.k ≠ 1) :
    Calls Tryz.prog 54 #[.pointer (some ⟨R, 0, none⟩)] w fun e w' => e = .returned (.tuple #[]) ∧ RdM R l (endR r) w' ∧ Below R w w' := by
  obtain ⟨vo, vt, va, ps, h⟩ := h
  have hp : ps.length ≤ 134217728 := by have := congrArg List.length h.outs; rw [List.length_map] at this; omega
  have c2 : w.cell? ⟨R, 2, none⟩ = some (.int .i64 (r.st : Int)) := (h.cell 2).trans rfl
  have z2 := h.froz 2
  have h1 := h.seti (r' := { r with st := 0 }) 2 (.int .i64 0) rfl rfl rfl rfl
  obtain ⟨vp, vj, vc, rfl⟩ := own_slice h.att
  have c4 : _ = some (Value.int .i64 r.tg.k) := (h1.cell 4).trans rfl
  have c5 : _ = some (Value.string (S r.tg.n)) := (h1.cell 5).trans rfl
  have c6 : _ = some (Value.string (S r.tg.x)) := (h1.cell 6).trans rfl
  have c7 : _ = some (Value.slice vp vj vc) := (h1.cell 7).trans rfl
  have c8 : _ = some (Value.bool r.tg.c) := (h1.cell 8).trans rfl
  have hRW : R < w.heap.size := h.lt
  have HT : Hid (TellW R w.heap.size l { r with st := 0 } (⟨r.tg.k, r.tg.n, r.tg.x, r.tg.a, r.tg.c⟩ : Tk) (.slice vp vj vc) vo vt (.slice vp vj vc) ps ((w.setCell ⟨R, 2, none⟩ (.int .i64 0)).alloc (.cells #[.int .i64 r.tg.k, .string (S r.tg.n), .string (S r.tg.x), (.slice vp vj vc), .bool r.tg.c] 52))) := by
    have hal : Below (w.setCell ⟨R, 2, none⟩ (.int .i64 0)).heap.size (w.setCell ⟨R, 2, none⟩ (.int .i64 0)) ((w.setCell ⟨R, 2, none⟩ (.int .i64 0)).alloc (.cells #[.int .i64 r.tg.k, .string (S r.tg.n), .string (S r.tg.x), (.slice vp vj vc), .bool r.tg.c] 52)) := (Below.refl _ _).alloc (Nat.le_refl _) _
    have h2 := h1.keep hal
    have hno : vo.ownBlock ≠ some w.heap.size := fun e => by have := own_lt h.out _ e; omega
    refine ⟨h2, ?_, ?_, ?_, hno⟩
    · have e := heap_alloc_new (w.setCell ⟨R, 2, none⟩ (.int .i64 0)) (.cells #[.int .i64 r.tg.k, .string (S r.tg.n), .string (S r.tg.x), (.slice vp vj vc), .bool r.tg.c] 52)
      simpa using e
    · exact h2.att
    · exact ⟨h2.s2.symm, h2.s3.symm⟩
  have HB : Hid (Below R w ((w.setCell ⟨R, 2, none⟩ (.int .i64 0)).alloc (.cells #[.int .i64 r.tg.k, .string (S r.tg.n), .string (S r.tg.x), (.slice vp vj vc), .bool r.tg.c] 52))) := (below_set _ (Below.refl R w)).alloc (by simp; omega) _
  have hel := fun w => rElement_c r.tg.n w
  have hkb : (r.tg.k == 2) = false := by simp; exact hk
  have hkb1 : (r.tg.k == 1) = false := by simp; exact hk1
  have HE : Hid (endR r = { r with out := r.out ++ [⟨r.tg.k, r.tg.n, r.tg.x, r.tg.a, r.tg.c⟩], tg := noTk, st := 0 }) := by
    have e1 : toldT r.tg = ⟨r.tg.k, r.tg.n, r.tg.x, r.tg.a, r.tg.c⟩ := by
      unfold toldT
      rw [if_neg hk]
    show _ = _
    unfold endR rawK
    rw [e1]
    rw [if_neg (by rw [decide_eq_true_eq]; exact fun h => hk1 h.1)]
  clear h h1
  obtain ⟨i0, hi, hz0, hz1, hz2⟩ := info_parts info_tok
  go_enter Tryz.func54, Tryz.ntmps54
  go_wp2_with fail
  clear c2 z2 c4 c5 c6 c7 c8
  generalize (w.setCell ⟨R, 2, none⟩ (.int .i64 0)).alloc (.cells #[.int .i64 r.tg.k, .string (S r.tg.n), .string (S r.tg.x), (.slice vp vj vc), .bool r.tg.c] 52) = W at HT HB ⊢
  generalize w.heap.size = N at HT hRW ⊢
  have hNW : N < W.heap.size := HT.out.lt
  have hRWW : R < W.heap.size := by omega
  have hNR : N ≠ R := by omega
  have c1 : W.cell? ⟨R, 1, none⟩ = some vo := (HT.out.rd.cell 1).trans rfl
  have t0 : W.cell? ⟨N, 0, none⟩ = some (.int .i64 r.tg.k) := (cell_of_row W N 0 _ _ _ HT.out.copy).trans rfl
  have t1 : W.cell? ⟨N, 1, none⟩ = some (.string (S r.tg.n)) := (cell_of_row W N 1 _ _ _ HT.out.copy).trans rfl
  have t2 : W.cell? ⟨N, 2, none⟩ = some (.string (S r.tg.x)) := (cell_of_row W N 2 _ _ _ HT.out.copy).trans rfl
  have t3 : W.cell? ⟨N, 3, none⟩ = some (.slice vp vj vc) := (cell_of_row W N 3 _ _ _ HT.out.copy).trans rfl
  have t4 : W.cell? ⟨N, 4, none⟩ = some (.bool r.tg.c) := (cell_of_row W N 4 _ _ _ HT.out.copy).trans rfl
  go_region_law (first
    | (refine step_append_lies _ rfl (.tmp 20) (.tmp 22) 32 rfl (R + 1) 52 i0 _ 5 72 Tryz.underlying32 hi hz0 hz1 hz2 rfl (by omega) vo ps.length (ps.flatMap tkCs) (by simp [Act.eval]) (HT.out.rd.out.alloc _) ⟨W.heap.size, 0, none⟩ 1 1 (tkCs ((⟨r.tg.k, r.tg.n, r.tg.x, r.tg.a, r.tg.c⟩ : Tk), (.slice vp vj vc))) (by simp [Act.eval]) rfl (push_cells (cs := tkCs ((⟨r.tg.k, r.tg.n, r.tg.x, r.tg.a, r.tg.c⟩ : Tk), (.slice vp vj vc)))) (push_tok rfl) (by omega) (by unfold maxLen; omega) (by omega) (by simp; omega) (W.heap.size + 1) (by simp) ?_; intro g cp wB hownB hgB hatB hltB; obtain ⟨p1, p2, p3, p4, p5⟩ := HT.out.rd.tell ((⟨r.tg.k, r.tg.n, r.tg.x, r.tg.a, r.tg.c⟩ : Tk), (.slice vp vj vc)) HT.out.att HT.out.sp _ hownB (grown_drew hgB) (hatB.imp Eq.symm (congrArg some)) hNW hNR HT.out.no; have HP := Lib.hid (And.intro p1 (And.intro p2 (p5.trans HT.out.copy))); have b1 := fun i => cell_of_row wB R i _ _ _ p3; have b2 := fun i => frozen_of_row wB R i _ _ p3; have b3 := fun i => (cell_of_row wB N i _ _ _ (p4.trans HT.out.copy)); have HQ := Lib.hid (And.intro b1 (And.intro b2 b3)); have b0 := b1 1; have z0 := b2 1; clear p1 p2 p3 p4 p5 b1 b2 b3 hownB hgB hatB hltB))
  all_goals
    have b4 : _ = some (Value.int .i64 r.tg.k) := (HQ.out.1 4).trans rfl
    have b5 : _ = some (Value.string (S r.tg.n)) := (HQ.out.1 5).trans rfl
    have b6 : _ = some (Value.string (S r.tg.x)) := (HQ.out.1 6).trans rfl
    have b7 : _ = some (Value.slice vp vj vc) := (HQ.out.1 7).trans rfl
    have b8 : _ = some (Value.bool r.tg.c) := (HQ.out.1 8).trans rfl
    have z4 := HQ.out.2.1 4
    have z5 := HQ.out.2.1 5
    have z6 := HQ.out.2.1 6
    have z7 := HQ.out.2.1 7
    have z8 := HQ.out.2.1 8
    have n1 : _ = some (Value.string (S r.tg.n)) := (HQ.out.2.2 1).trans rfl
    clear HQ b0 z0
    go_wp2_with fail
    refine (hel _).mono ?_
    rintro e w6 ⟨rfl, hb6⟩
    have H6 := Lib.hid (HP.out.1.keep hb6)
    have HB6 := Lib.hid (HB.out.trans (HP.out.2.1.trans (hb6.mono (Nat.le_of_lt HP.out.1.lt))))
    have hn6 := (hb6.block N (Array.getElem?_eq_some_iff.1 HP.out.2.2).1).trans HP.out.2.2
    have n0 : _ = some (Value.int .i64 r.tg.k) := (cell_of_row w6 N 0 _ _ _ hn6).trans rfl
    have n2 : _ = some (Value.string (S r.tg.n)) := (cell_of_row w6 N 1 _ _ _ hn6).trans rfl
    clear hb6 hn6 HP n1 b4 b5 b6 b7 b8 z4 z5 z6 z7 z8 c1 t0 t1 t2 t3 t4
    go_wp2_with fail
    go_end0
    exact ⟨rfl, ⟨_, _, _, _, by rw [HE.out]; exact H6.out⟩, HB6.out⟩
set_option maxHeartbeats 4000000 in
set_option maxRecDepth 100000 in
theorem rend_d (R : Nat) (l : List UInt8) (r : Rd) (w : World) (h : RdM R l r w) (ho : r.out.length ≤ 134217728) (hk : r.tg.k = 1) (he : ¬ (1 ≤ elemN r.tg.n ∧ elemN r.tg.n ≤ 3)) :
    Calls Tryz.prog 54 #[.pointer (some ⟨R, 0, none⟩)] w fun e w' => e = .returned (.tuple #[]) ∧ RdM R l (endR r) w' ∧ Below R w w' := by
  obtain ⟨vo, vt, va, ps, h⟩ := h
  have hp : ps.length ≤ 134217728 := by have := congrArg List.length h.outs; rw [List.length_map] at this; omega
  have c2 : w.cell? ⟨R, 2, none⟩ = some (.int .i64 (r.st : Int)) := (h.cell 2).trans rfl
  have z2 := h.froz 2
  have h1 := h.seti (r' := { r with st := 0 }) 2 (.int .i64 0) rfl rfl rfl rfl
  obtain ⟨vp, vj, vc, rfl⟩ := own_slice h.att
  have c4 : _ = some (Value.int .i64 r.tg.k) := (h1.cell 4).trans rfl
  have c5 : _ = some (Value.string (S r.tg.n)) := (h1.cell 5).trans rfl
  have c6 : _ = some (Value.string (S r.tg.x)) := (h1.cell 6).trans rfl
  have c7 : _ = some (Value.slice vp vj vc) := (h1.cell 7).trans rfl
  have c8 : _ = some (Value.bool r.tg.c) := (h1.cell 8).trans rfl
  have hRW : R < w.heap.size := h.lt
  have HT : Hid (TellW R w.heap.size l { r with st := 0 } (⟨1, r.tg.n, r.tg.x, r.tg.a, r.tg.c⟩ : Tk) (.slice vp vj vc) vo vt (.slice vp vj vc) ps ((w.setCell ⟨R, 2, none⟩ (.int .i64 0)).alloc (.cells #[.int .i64 1, .string (S r.tg.n), .string (S r.tg.x), (.slice vp vj vc), .bool r.tg.c] 52))) := by
    have hal : Below (w.setCell ⟨R, 2, none⟩ (.int .i64 0)).heap.size (w.setCell ⟨R, 2, none⟩ (.int .i64 0)) ((w.setCell ⟨R, 2, none⟩ (.int .i64 0)).alloc (.cells #[.int .i64 1, .string (S r.tg.n), .string (S r.tg.x), (.slice vp vj vc), .bool r.tg.c] 52)) := (Below.refl _ _).alloc (Nat.le_refl _) _
    have h2 := h1.keep hal
    have hno : vo.ownBlock ≠ some w.heap.size := fun e => by have := own_lt h.out _ e; omega
    refine ⟨h2, ?_, ?_, ?_, hno⟩
    · have e := heap_alloc_new (w.setCell ⟨R, 2, none⟩ (.int .i64 0)) (.cells #[.int .i64 1, .string (S r.tg.n), .string (S r.tg.x), (.slice vp vj vc), .bool r.tg.c] 52)
      simpa using e
    · exact h2.att
    · exact ⟨h2.s2.symm, h2.s3.symm⟩
  have HB : Hid (Below R w ((w.setCell ⟨R, 2, none⟩ (.int .i64 0)).alloc (.cells #[.int .i64 1, .string (S r.tg.n), .string (S r.tg.x), (.slice vp vj vc), .bool r.tg.c] 52))) := (below_set _ (Below.refl R w)).alloc (by simp; omega) _
  have hel := fun w => rElement_c r.tg.n w
  have hkb : (r.tg.k == 2) = false := by rw [hk]; rfl
  have HE : Hid (endR r = { r with out := r.out ++ [⟨1, r.tg.n, r.tg.x, r.tg.a, r.tg.c⟩], tg := noTk, st := 0 }) := by
    have e1 : toldT r.tg = ⟨1, r.tg.n, r.tg.x, r.tg.a, r.tg.c⟩ := by
      unfold toldT
      rw [if_neg (by rw [hk]; decide)]
      show (⟨r.tg.k, r.tg.n, r.tg.x, r.tg.a, r.tg.c⟩ : Tk) = _
      rw [hk]
    show _ = _
    unfold endR rawK
    rw [e1]
    rw [if_neg (by rw [decide_eq_true_eq]; exact fun h => he h.2)]
  have hei : ¬ ((1 : Int) ≤ (elemN r.tg.n : Int)) ∨ ((1 : Int) ≤ (elemN r.tg.n : Int) ∧ ¬ ((elemN r.tg.n : Int) ≤ 3)) := by omega
  clear he
  generalize (elemN r.tg.n : Int) = E at hel hei
  clear h h1
  obtain ⟨i0, hi, hz0, hz1, hz2⟩ := info_parts info_tok
  go_enter Tryz.func54, Tryz.ntmps54
  go_wp2_with fail
  clear c2 z2 c4 c5 c6 c7 c8
  generalize (w.setCell ⟨R, 2, none⟩ (.int .i64 0)).alloc (.cells #[.int .i64 1, .string (S r.tg.n), .string (S r.tg.x), (.slice vp vj vc), .bool r.tg.c] 52) = W at HT HB ⊢
  generalize w.heap.size = N at HT hRW ⊢
  have hNW : N < W.heap.size := HT.out.lt
  have hRWW : R < W.heap.size := by omega
  have hNR : N ≠ R := by omega
  have c1 : W.cell? ⟨R, 1, none⟩ = some vo := (HT.out.rd.cell 1).trans rfl
  have t0 : W.cell? ⟨N, 0, none⟩ = some (.int .i64 1) := (cell_of_row W N 0 _ _ _ HT.out.copy).trans rfl
  have t1 : W.cell? ⟨N, 1, none⟩ = some (.string (S r.tg.n)) := (cell_of_row W N 1 _ _ _ HT.out.copy).trans rfl
  have t2 : W.cell? ⟨N, 2, none⟩ = some (.string (S r.tg.x)) := (cell_of_row W N 2 _ _ _ HT.out.copy).trans rfl
  have t3 : W.cell? ⟨N, 3, none⟩ = some (.slice vp vj vc) := (cell_of_row W N 3 _ _ _ HT.out.copy).trans rfl
  have t4 : W.cell? ⟨N, 4, none⟩ = some (.bool r.tg.c) := (cell_of_row W N 4 _ _ _ HT.out.copy).trans rfl
  go_region_law (first
    | (refine step_append_lies _ rfl (.tmp 20) (.tmp 22) 32 rfl (R + 1) 52 i0 _ 5 72 Tryz.underlying32 hi hz0 hz1 hz2 rfl (by omega) vo ps.length (ps.flatMap tkCs) (by simp [Act.eval]) (HT.out.rd.out.alloc _) ⟨W.heap.size, 0, none⟩ 1 1 (tkCs ((⟨1, r.tg.n, r.tg.x, r.tg.a, r.tg.c⟩ : Tk), (.slice vp vj vc))) (by simp [Act.eval]) rfl (push_cells (cs := tkCs ((⟨1, r.tg.n, r.tg.x, r.tg.a, r.tg.c⟩ : Tk), (.slice vp vj vc)))) (push_tok rfl) (by omega) (by unfold maxLen; omega) (by omega) (by simp; omega) (W.heap.size + 1) (by simp) ?_; intro g cp wB hownB hgB hatB hltB; obtain ⟨p1, p2, p3, p4, p5⟩ := HT.out.rd.tell ((⟨1, r.tg.n, r.tg.x, r.tg.a, r.tg.c⟩ : Tk), (.slice vp vj vc)) HT.out.att HT.out.sp _ hownB (grown_drew hgB) (hatB.imp Eq.symm (congrArg some)) hNW hNR HT.out.no; have HP := Lib.hid (And.intro p1 (And.intro p2 (p5.trans HT.out.copy))); have b1 := fun i => cell_of_row wB R i _ _ _ p3; have b2 := fun i => frozen_of_row wB R i _ _ p3; have b3 := fun i => (cell_of_row wB N i _ _ _ (p4.trans HT.out.copy)); have HQ := Lib.hid (And.intro b1 (And.intro b2 b3)); have b0 := b1 1; have z0 := b2 1; clear p1 p2 p3 p4 p5 b1 b2 b3 hownB hgB hatB hltB))
  all_goals
    have b4 : _ = some (Value.int .i64 r.tg.k) := (HQ.out.1 4).trans rfl
    have b5 : _ = some (Value.string (S r.tg.n)) := (HQ.out.1 5).trans rfl
    have b6 : _ = some (Value.string (S r.tg.x)) := (HQ.out.1 6).trans rfl
    have b7 : _ = some (Value.slice vp vj vc) := (HQ.out.1 7).trans rfl
    have b8 : _ = some (Value.bool r.tg.c) := (HQ.out.1 8).trans rfl
    have z4 := HQ.out.2.1 4
    have z5 := HQ.out.2.1 5
    have z6 := HQ.out.2.1 6
    have z7 := HQ.out.2.1 7
    have z8 := HQ.out.2.1 8
    have n1 : _ = some (Value.string (S r.tg.n)) := (HQ.out.2.2 1).trans rfl
    clear HQ b0 z0
    go_wp2_with fail
    refine (hel _).mono ?_
    rintro e w6 ⟨rfl, hb6⟩
    have H6 := Lib.hid (HP.out.1.keep hb6)
    have HB6 := Lib.hid (HB.out.trans (HP.out.2.1.trans (hb6.mono (Nat.le_of_lt HP.out.1.lt))))
    have hn6 := (hb6.block N (Array.getElem?_eq_some_iff.1 HP.out.2.2).1).trans HP.out.2.2
    have n0 : _ = some (Value.int .i64 1) := (cell_of_row w6 N 0 _ _ _ hn6).trans rfl
    have n2 : _ = some (Value.string (S r.tg.n)) := (cell_of_row w6 N 1 _ _ _ hn6).trans rfl
    clear hb6 hn6 HP n1 b4 b5 b6 b7 b8 z4 z5 z6 z7 z8 c1 t0 t1 t2 t3 t4
    rcases hei with h1 | ⟨h1, h2⟩
    · go_wp2_with fail
      go_end0
      exact ⟨rfl, ⟨_, _, _, _, by rw [HE.out]; exact H6.out⟩, HB6.out⟩
    · go_wp2_with fail
      go_end0
      exact ⟨rfl, ⟨_, _, _, _, by rw [HE.out]; exact H6.out⟩, HB6.out⟩
set_option maxHeartbeats 4000000 in
set_option maxRecDepth 100000 in
theorem rend_r (R : Nat) (l : List UInt8) (r : Rd) (w : World) (h : RdM R l r w) (ho : r.out.length ≤ 134217728) (hk : r.tg.k = 1) (he : 1 ≤ elemN r.tg.n ∧ elemN r.tg.n ≤ 3) :
    Calls Tryz.prog 54 #[.pointer (some ⟨R, 0, none⟩)] w fun e w' => e = .returned (.tuple #[]) ∧ RdM R l (endR r) w' ∧ Below R w w' := by
  obtain ⟨vo, vt, va, ps, h⟩ := h
  have hp : ps.length ≤ 134217728 := by have := congrArg List.length h.outs; rw [List.length_map] at this; omega
  have c2 : w.cell? ⟨R, 2, none⟩ = some (.int .i64 (r.st : Int)) := (h.cell 2).trans rfl
  have z2 := h.froz 2
  have h1 := h.seti (r' := { r with st := 0 }) 2 (.int .i64 0) rfl rfl rfl rfl
  obtain ⟨vp, vj, vc, rfl⟩ := own_slice h.att
  have c4 : _ = some (Value.int .i64 r.tg.k) := (h1.cell 4).trans rfl
  have c5 : _ = some (Value.string (S r.tg.n)) := (h1.cell 5).trans rfl
  have c6 : _ = some (Value.string (S r.tg.x)) := (h1.cell 6).trans rfl
  have c7 : _ = some (Value.slice vp vj vc) := (h1.cell 7).trans rfl
  have c8 : _ = some (Value.bool r.tg.c) := (h1.cell 8).trans rfl
  have hRW : R < w.heap.size := h.lt
  have HT : Hid (TellW R w.heap.size l { r with st := 0 } (⟨1, r.tg.n, r.tg.x, r.tg.a, r.tg.c⟩ : Tk) (.slice vp vj vc) vo vt (.slice vp vj vc) ps ((w.setCell ⟨R, 2, none⟩ (.int .i64 0)).alloc (.cells #[.int .i64 1, .string (S r.tg.n), .string (S r.tg.x), (.slice vp vj vc), .bool r.tg.c] 52))) := by
    have hal : Below (w.setCell ⟨R, 2, none⟩ (.int .i64 0)).heap.size (w.setCell ⟨R, 2, none⟩ (.int .i64 0)) ((w.setCell ⟨R, 2, none⟩ (.int .i64 0)).alloc (.cells #[.int .i64 1, .string (S r.tg.n), .string (S r.tg.x), (.slice vp vj vc), .bool r.tg.c] 52)) := (Below.refl _ _).alloc (Nat.le_refl _) _
    have h2 := h1.keep hal
    have hno : vo.ownBlock ≠ some w.heap.size := fun e => by have := own_lt h.out _ e; omega
    refine ⟨h2, ?_, ?_, ?_, hno⟩
    · have e := heap_alloc_new (w.setCell ⟨R, 2, none⟩ (.int .i64 0)) (.cells #[.int .i64 1, .string (S r.tg.n), .string (S r.tg.x), (.slice vp vj vc), .bool r.tg.c] 52)
      simpa using e
    · exact h2.att
    · exact ⟨h2.s2.symm, h2.s3.symm⟩
  have HB : Hid (Below R w ((w.setCell ⟨R, 2, none⟩ (.int .i64 0)).alloc (.cells #[.int .i64 1, .string (S r.tg.n), .string (S r.tg.x), (.slice vp vj vc), .bool r.tg.c] 52))) := (below_set _ (Below.refl R w)).alloc (by simp; omega) _
  have hel := fun w => rElement_c r.tg.n w
  have hkb : (r.tg.k == 2) = false := by rw [hk]; rfl
  have HE : Hid (endR r = { r with out := r.out ++ [⟨1, r.tg.n, r.tg.x, r.tg.a, r.tg.c⟩], tg := noTk, st := 15, rw := r.tg.n, kd := elemN r.tg.n }) := by
    have e1 : toldT r.tg = ⟨1, r.tg.n, r.tg.x, r.tg.a, r.tg.c⟩ := by
      unfold toldT
      rw [if_neg (by rw [hk]; decide)]
      show (⟨r.tg.k, r.tg.n, r.tg.x, r.tg.a, r.tg.c⟩ : Tk) = _
      rw [hk]
    show _ = _
    unfold endR rawK
    rw [e1]
    rw [if_pos (decide_eq_true ⟨rfl, he⟩)]
  have hei1 : (1 : Int) ≤ (elemN r.tg.n : Int) := by omega
  have hei2 : (elemN r.tg.n : Int) ≤ 3 := by omega
  clear he
  clear h h1
  obtain ⟨i0, hi, hz0, hz1, hz2⟩ := info_parts info_tok
  go_enter Tryz.func54, Tryz.ntmps54
  go_wp2_with fail
  clear c2 z2 c4 c5 c6 c7 c8
  generalize (w.setCell ⟨R, 2, none⟩ (.int .i64 0)).alloc (.cells #[.int .i64 1, .string (S r.tg.n), .string (S r.tg.x), (.slice vp vj vc), .bool r.tg.c] 52) = W at HT HB ⊢
  generalize w.heap.size = N at HT hRW ⊢
  have hNW : N < W.heap.size := HT.out.lt
  have hRWW : R < W.heap.size := by omega
  have hNR : N ≠ R := by omega
  have c1 : W.cell? ⟨R, 1, none⟩ = some vo := (HT.out.rd.cell 1).trans rfl
  have t0 : W.cell? ⟨N, 0, none⟩ = some (.int .i64 1) := (cell_of_row W N 0 _ _ _ HT.out.copy).trans rfl
  have t1 : W.cell? ⟨N, 1, none⟩ = some (.string (S r.tg.n)) := (cell_of_row W N 1 _ _ _ HT.out.copy).trans rfl
  have t2 : W.cell? ⟨N, 2, none⟩ = some (.string (S r.tg.x)) := (cell_of_row W N 2 _ _ _ HT.out.copy).trans rfl
  have t3 : W.cell? ⟨N, 3, none⟩ = some (.slice vp vj vc) := (cell_of_row W N 3 _ _ _ HT.out.copy).trans rfl
  have t4 : W.cell? ⟨N, 4, none⟩ = some (.bool r.tg.c) := (cell_of_row W N 4 _ _ _ HT.out.copy).trans rfl
  go_region_law (first
    | (refine step_append_lies _ rfl (.tmp 20) (.tmp 22) 32 rfl (R + 1) 52 i0 _ 5 72 Tryz.underlying32 hi hz0 hz1 hz2 rfl (by omega) vo ps.length (ps.flatMap tkCs) (by simp [Act.eval]) (HT.out.rd.out.alloc _) ⟨W.heap.size, 0, none⟩ 1 1 (tkCs ((⟨1, r.tg.n, r.tg.x, r.tg.a, r.tg.c⟩ : Tk), (.slice vp vj vc))) (by simp [Act.eval]) rfl (push_cells (cs := tkCs ((⟨1, r.tg.n, r.tg.x, r.tg.a, r.tg.c⟩ : Tk), (.slice vp vj vc)))) (push_tok rfl) (by omega) (by unfold maxLen; omega) (by omega) (by simp; omega) (W.heap.size + 1) (by simp) ?_; intro g cp wB hownB hgB hatB hltB; obtain ⟨p1, p2, p3, p4, p5⟩ := HT.out.rd.tell ((⟨1, r.tg.n, r.tg.x, r.tg.a, r.tg.c⟩ : Tk), (.slice vp vj vc)) HT.out.att HT.out.sp _ hownB (grown_drew hgB) (hatB.imp Eq.symm (congrArg some)) hNW hNR HT.out.no; have HP := Lib.hid (And.intro p1 (And.intro p2 (p5.trans HT.out.copy))); have b1 := fun i => cell_of_row wB R i _ _ _ p3; have b2 := fun i => frozen_of_row wB R i _ _ p3; have b3 := fun i => (cell_of_row wB N i _ _ _ (p4.trans HT.out.copy)); have HQ := Lib.hid (And.intro b1 (And.intro b2 b3)); have b0 := b1 1; have z0 := b2 1; clear p1 p2 p3 p4 p5 b1 b2 b3 hownB hgB hatB hltB))
  all_goals
    have b4 : _ = some (Value.int .i64 r.tg.k) := (HQ.out.1 4).trans rfl
    have b5 : _ = some (Value.string (S r.tg.n)) := (HQ.out.1 5).trans rfl
    have b6 : _ = some (Value.string (S r.tg.x)) := (HQ.out.1 6).trans rfl
    have b7 : _ = some (Value.slice vp vj vc) := (HQ.out.1 7).trans rfl
    have b8 : _ = some (Value.bool r.tg.c) := (HQ.out.1 8).trans rfl
    have z4 := HQ.out.2.1 4
    have z5 := HQ.out.2.1 5
    have z6 := HQ.out.2.1 6
    have z7 := HQ.out.2.1 7
    have z8 := HQ.out.2.1 8
    have n1 : _ = some (Value.string (S r.tg.n)) := (HQ.out.2.2 1).trans rfl
    clear HQ b0 z0
    go_wp2_with fail
    refine (hel _).mono ?_
    rintro e w6 ⟨rfl, hb6⟩
    have H6 := Lib.hid (HP.out.1.keep hb6)
    have HB6 := Lib.hid (HB.out.trans (HP.out.2.1.trans (hb6.mono (Nat.le_of_lt HP.out.1.lt))))
    have hn6 := (hb6.block N (Array.getElem?_eq_some_iff.1 HP.out.2.2).1).trans HP.out.2.2
    have n0 : _ = some (Value.int .i64 1) := (cell_of_row w6 N 0 _ _ _ hn6).trans rfl
    have n2 : _ = some (Value.string (S r.tg.n)) := (cell_of_row w6 N 1 _ _ _ hn6).trans rfl
    clear hb6 hn6 HP n1 b4 b5 b6 b7 b8 z4 z5 z6 z7 z8 c1 t0 t1 t2 t3 t4
    have y2 : _ = some (Value.int .i64 0) := (H6.out.cell 2).trans rfl
    have y12 : _ = some (Value.string (S r.rw)) := (H6.out.cell 12).trans rfl
    have y13 : _ = some (Value.int .i64 (r.kd : Int)) := (H6.out.cell 13).trans rfl
    have x2 := H6.out.froz 2
    have x12 := H6.out.froz 12
    have x13 := H6.out.froz 13
    go_wp2_with fail
    go_region
    go_end0
    exact ⟨rfl, ⟨_, _, _, _, by rw [HE.out]; exact (((H6.out.seti (r' := { r with out := r.out ++ [⟨1, r.tg.n, r.tg.x, r.tg.a, r.tg.c⟩], tg := noTk, st := 15 }) 2 _ rfl rfl rfl rfl).seti (r' := { r with out := r.out ++ [⟨1, r.tg.n, r.tg.x, r.tg.a, r.tg.c⟩], tg := noTk, st := 15, rw := r.tg.n }) 12 _ rfl rfl rfl rfl).seti (r' := { r with out := r.out ++ [⟨1, r.tg.n, r.tg.x, r.tg.a, r.tg.c⟩], tg := noTk, st := 15, rw := r.tg.n, kd := elemN r.tg.n }) 13 _ rfl rfl rfl rfl).keep (Below.refl _ _).drew⟩, (below_set _ (below_set _ (below_set _ HB6.out))).drew⟩
theorem rend_c (R : Nat) (l : List UInt8) (r : Rd) (w : World) (h : RdM R l r w) (ho : r.out.length ≤ 134217728) :
    Calls Tryz.prog 54 #[.pointer (some ⟨R, 0, none⟩)] w fun e w' => e = .returned (.tuple #[]) ∧ RdM R l (endR r) w' ∧ Below R w w' := by
  by_cases h2 : r.tg.k = 2
  · exact rend_2 R l r w h ho h2
  · by_cases h1 : r.tg.k = 1
    · by_cases he : 1 ≤ elemN r.tg.n ∧ elemN r.tg.n ≤ 3
      · exact rend_r R l r w h ho h1 he
      · exact rend_d R l r w h ho h1 he
    · exact rend_o R l r w h ho h2 h1
end Go.Proofs.YtklpbkjplecdpaaGreat.Tok

/-
  Contract of the page's reader's put: the attribute that is on its way.
-/
namespace Go.Proofs.YtklpbkjplecdpaaGreat.Tok
open Go.RowKit Oct Utf Crf Tab Mem

set_option maxHeartbeats 2000000 in
set_option maxRecDepth 100000 in
theorem rput_c (R : Nat) (l : List UInt8) (r : Rd) (w : World) (h : RdM R l r w) (hl : r.av.v.length ≤ 134217728) (ho : r.tg.a.length ≤ 134217728) :
    Calls Tryz.prog 56 #[.pointer (some ⟨R, 0, none⟩)] w fun e w' => e = .returned (.tuple #[]) ∧ RdM R l (putR r) w' ∧ Below R w w' := by
  obtain ⟨vo, vt, va, ps, h⟩ := h
  have c10 : w.cell? ⟨R, 10, none⟩ = some (.string (S r.av.v)) := (h.cell 10).trans rfl
  have hdc := fun w => rDecode_c r.av.v hl w
  obtain ⟨i0, hi, hz0, hz1, hz2⟩ := info_parts info_att
  have hR : R ≤ w.heap.size := Nat.le_of_lt h.lt
  have H1 := Lib.hid (fun w1 (hb : Below w.heap.size w w1) => (h.keep hb).seti (r' := { r with av := { r.av with v := decL' r.av.v } }) 10 (.string (S (decL' r.av.v))) rfl rfl rfl rfl)
  have HC1 := Lib.hid (fun w1 (hb : Below w.heap.size w w1) => And.intro ((h.keep hb).cell 10) ((h.keep hb).froz 10))
  generalize S r.av.v = T at hdc c10
  clear h
  go_enter Tryz.func56, Tryz.ntmps56
  go_wp2_with fail
  refine (hdc _).mono ?_
  rintro e w1 ⟨rfl, hb1⟩
  have h1 := H1.out w1 hb1
  have c1 : _ = some (Value.string (S r.av.v)) := (HC1.out w1 hb1).1.trans rfl
  have z1 := (HC1.out w1 hb1).2
  have c2 : _ = some va := (h1.cell 7).trans rfl
  have c3 : _ = some (Value.string (S r.av.n)) := (h1.cell 9).trans rfl
  have c4 : _ = some (Value.string (S (decL' r.av.v))) := (h1.cell 10).trans rfl
  have HW1 := Lib.hid h1
  have HB1 := Lib.hid (below_set (i := 10) (.string (S (decL' r.av.v))) (hb1.mono hR))
  clear h1 hb1 hdc H1 HC1 c10
  go_wp2_with fail
  generalize w1.setCell ⟨R, 10, none⟩ (.string (S (decL' r.av.v))) = W at HW1 HB1 c2 c3 c4 ⊢
  have hRW : R < W.heap.size := HW1.out.lt
  clear c1 z1
  go_region_law (first
    | (refine step_append_lies _ rfl (.tmp 17) (.tmp 22) 50 rfl (R + 1) 54 i0 _ 2 32 Tryz.underlying50 hi hz0 hz1 hz2 rfl (by omega) va r.tg.a.length (r.tg.a.flatMap atCs) (by simp [Act.eval]) (HW1.out.att.alloc _) ⟨W.heap.size, 0, none⟩ 1 1 (atCs ⟨r.av.n, decL' r.av.v⟩) (by simp [Act.eval]) rfl (push_cells (cs := atCs ⟨r.av.n, decL' r.av.v⟩)) push_att (by omega) (by unfold maxLen; omega) (by omega) (by simp; omega) (W.heap.size + 1) (by simp) ?_; intro g cp wB hownB hgB hatB hltB; obtain ⟨p1, p2, p3, p4⟩ := HW1.out.pushA ⟨r.av.n, decL' r.av.v⟩ _ hownB (grown_drew hgB) (hatB.imp Eq.symm (congrArg some)); have HP := Lib.hid (And.intro p1 p2); clear p1 p2 hownB hgB hatB hltB))
  all_goals
    have c5 := HP.out.1.cell 9
    have c6 := HP.out.1.cell 10
    have z5 := HP.out.1.froz 9
    have z6 := HP.out.1.froz 10
    go_wp2_with fail
  all_goals
    go_end0
    exact ⟨rfl, ⟨_, _, _, _, (HP.out.1.seti (r' := { r with tg := { r.tg with a := r.tg.a ++ [⟨r.av.n, decL' r.av.v⟩] }, av := ⟨[], decL' r.av.v⟩ }) 9 _ rfl rfl rfl rfl).seti (r' := putR r) 10 _ rfl rfl rfl rfl⟩, below_set _ (below_set _ (HB1.out.trans HP.out.2))⟩
end Go.Proofs.YtklpbkjplecdpaaGreat.Tok

/-
  Contracts of the page's low, and of its reader's tag in a name and ahead of an attribute.
-/
namespace Go.Proofs.YtklpbkjplecdpaaGreat.Tok
open Go.RowKit Oct Utf Crf Tab Mem

def Sz (r : Rd) : Prop := r.out.length ≤ 134217728 ∧ r.tg.n.length ≤ 134217728 ∧ r.av.v.length ≤ 134217728 ∧ r.av.n.length ≤ 134217728 ∧ r.tg.a.length ≤ 134217728 ∧ r.tx.length ≤ 134217728 ∧ r.rw.length ≤ 134217728
theorem conv_one (w : World) (c : UInt8) : (convert 49 9 (.slice (some ⟨w.heap.size, 0, none⟩) 1 1)).run Tryz.prog (w.alloc (.cells #[.int .u8 (c.toNat : Int)] 5)) = .ok (.string (S [c])) (w.alloc (.cells #[.int .u8 (c.toNat : Int)] 5)) := by
  refine Mem.conv_own (base := w.heap.size) (n := 1) ?_
  exact ⟨rfl, .inr ⟨w.heap.size, 1, #[.int .u8 (c.toNat : Int)], rfl, Nat.le_refl _, heap_alloc_new w _, Nat.le_refl _, by decide, rfl, rfl⟩⟩
theorem conv_drew (w : World) (c : UInt8) : (convert 49 9 (.slice (some ⟨w.heap.size, 0, none⟩) 1 1)).run Tryz.prog (w.alloc (.cells #[.int .u8 (c.toNat : Int)] 5)).drew = .ok (.string (S [c])) (w.alloc (.cells #[.int .u8 (c.toNat : Int)] 5)).drew := by
  refine Mem.conv_own (base := w.heap.size) (n := 1) ?_
  exact ⟨rfl, .inr ⟨w.heap.size, 1, #[.int .u8 (c.toNat : Int)], rfl, Nat.le_refl _, heap_alloc_new w _, Nat.le_refl _, by decide, rfl, rfl⟩⟩
theorem rlow_c (c : UInt8) (w : World) :
    Calls Tryz.prog 55 #[.int .u8 (c.toNat : Int)] w fun e w' => e = .returned (.string (S [low c])) ∧ Below w.heap.size w w' := by
  have hcv := conv_one w c
  have hl := fun w => rlower_c (S [c]) w (by rw [size_S, List.length_singleton]; omega)
  rw [list_S] at hl
  generalize S [c] = T at hcv hl
  generalize (c.toNat : Int) = n at hcv
  go_enter Tryz.func55, Tryz.ntmps55
  go_wp2_with fail
  refine (hl _).mono ?_
  rintro e w1 ⟨rfl, hb1⟩
  go_wp2_with fail
  go_ret
  exact ⟨rfl, ((Below.refl _ w).alloc (Nat.le_refl _) _).trans (hb1.mono (by simp))⟩
end Go.Proofs.YtklpbkjplecdpaaGreat.Tok
