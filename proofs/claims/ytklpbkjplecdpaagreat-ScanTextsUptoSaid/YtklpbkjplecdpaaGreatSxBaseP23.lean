/-
  Part 23: ScwFeed, ScwFed.
-/
import Derived.Test.YtklpbkjplecdpaaGreatSxBaseP19
import Derived.Test.YtklpbkjplecdpaaGreatSxBaseP22
/-
  Contract of Feed of package scan, at every state that octets make.
-/
namespace Go.Proofs.YtklpbkjplecdpaaGreat.Scw
open Go.RowKit Oct Crf Scn Tab Tok

abbrev stOf (s : Sc) : Mks.St := ⟨(s.k : Int), s.e, s.a, s.d, s.p, s.r, s.n, s.w⟩
abbrev stA (s : Sc) : Value := stV (s.k : Int) (S s.e) (S s.a) s.d (S s.p) (S s.r) s.n (S s.w)
theorem met_check {s : Sc} (h : Met s) : Mks.checkC (stOf s) = 0 := by
  have hk := h.k
  have att : Mks.attS (stOf s) = attK s := by
    unfold Mks.attS attK
    have e : (((s.k : Int) < 8 ∨ 10 < (s.k : Int)) ∨ endE s.e = true) = ((s.k < 8 ∨ 10 < s.k) ∨ endE s.e = true) := by
      rw [show ((s.k : Int) < 8) = (s.k < 8) by rw [eq_iff_iff]; omega, show (10 < (s.k : Int)) = (10 < s.k) by rw [eq_iff_iff]; omega]
    show (if ((s.k : Int) < 8 ∨ 10 < (s.k : Int)) ∨ endE s.e = true then 0 else attrN s.e s.a) = _
    simp only [e]
  have part : Mks.partS (stOf s) = false → langN s = 0 := fun g => by
    unfold Mks.partS at g
    rw [att] at g
    simp only [Mks.btw, Bool.or_eq_false_iff, Bool.and_eq_false_iff, decide_eq_false_iff_not] at g
    unfold langN
    by_cases q18 : s.k = 18
    · exfalso; exact g.1 (by constructor <;> (show _ ≤ _; simp [q18]))
    rw [if_neg q18]
    by_cases q19 : s.k = 19
    · exfalso; exact g.1 (by constructor <;> (show _ ≤ _; simp [q19]))
    rw [if_neg q19]
    by_cases q9 : s.k = 9 ∨ s.k = 10
    · rw [if_pos q9]
      rcases g.2 with q | q
      · exfalso
        apply q
        show (9 : Int) ≤ (s.k : Int) ∧ (s.k : Int) ≤ 10
        omega
      · by_cases q4 : attK s < 4
        · rw [if_pos q4]
          have : ¬ ((1 : Int) ≤ (attK s : Int) ∧ (attK s : Int) ≤ 3) := q
          omega
        · rw [if_neg q4]
    · rw [if_neg q9]
  unfold Mks.checkC
  rw [if_pos (show Mks.btw (s.k : Int) 0 19 = true from decide_eq_true (by omega))]
  have hall : ∀ j, j < 8 → Mks.okAt (stOf s) j = true := by
    intro j hj
    have ok : ∀ u z m, (u = true ∨ z = 0) → 0 ≤ z → z ≤ m → Mks.okF u z m = true := fun u z m h1 h2 h3 => by
      unfold Mks.okF Mks.btw
      rw [Bool.and_eq_true, Bool.or_eq_true, decide_eq_true_iff, decide_eq_true_iff]
      exact ⟨h1, h2, h3⟩
    have : j = 0 ∨ j = 1 ∨ j = 2 ∨ j = 3 ∨ j = 4 ∨ j = 5 ∨ j = 6 ∨ j = 7 := by omega
    unfold Mks.okAt
    rcases this with rfl | rfl | rfl | rfl | rfl | rfl | rfl | rfl
    · exact ok true (s.k : Int) 19 (.inl rfl) (by omega) (by omega)
    · refine ok (Mks.btw (s.k : Int) 3 12 || Mks.btw (s.k : Int) 17 19) (s.e.length : Int) 33 ?_ (by omega) (by have := h.e2; omega)
      rcases h.e1 with q | q
      · have q := of_decide_eq_true q
        left
        rw [Bool.or_eq_true]
        rcases q with q | q
        · left; exact decide_eq_true (by omega)
        · right; exact decide_eq_true (by omega)
      · right; rw [q]; rfl
    · refine ok (Mks.btw (s.k : Int) 6 10) (s.a.length : Int) 32 ?_ (by omega) (by have := h.a2; omega)
      rcases h.a1 with q | q
      · have q := of_decide_eq_true q
        left; exact decide_eq_true (by omega)
      · right; rw [q]; rfl
    · refine ok (decide ((s.k : Int) = 9)) (s.d.toNat : Int) 255 ?_ (by omega) (by have := s.d.toNat_lt; omega)
      rcases h.d with ⟨q, _⟩ | ⟨_, q⟩
      · left; exact decide_eq_true (by omega)
      · right; rw [q]; rfl
    · refine ok (Mks.btw (s.k : Int) 16 19) (s.p.length : Int) 34 ?_ (by omega) (by have := h.p2; omega)
      rcases h.p1 with q | q
      · left; exact decide_eq_true (by omega)
      · right; rw [q]; rfl
    · refine ok (decide ((s.k : Int) = 0) || Mks.btw (s.k : Int) 9 10 || decide ((s.k : Int) = 17)) (s.r.length : Int) 16 ?_ (by omega) (by have := h.r2; omega)
      rcases h.r1 with q | q
      · have q := of_decide_eq_true q
        left
        rw [Bool.or_eq_true, Bool.or_eq_true]
        rcases q with q | q | q | q
        · left; left; exact decide_eq_true (by omega)
        · left; right; exact decide_eq_true (by omega)
        · left; right; exact decide_eq_true (by omega)
        · right; exact decide_eq_true (by omega)
      · right; rw [q]; rfl
    · refine ok (Mks.partS (stOf s)) s.n 15 ?_ h.n1 h.n2
      cases hp : Mks.partS (stOf s) with
      | true => exact .inl rfl
      | false => exact .inr (h.l (part hp)).1
    · refine ok (Mks.partS (stOf s)) (s.w.length : Int) 16 ?_ (by omega) (by have := h.w; omega)
      cases hp : Mks.partS (stOf s) with
      | true => exact .inl rfl
      | false => right; rw [(h.l (part hp)).2]; rfl
  rw [Mks.may_all hall]
  have he : Mks.endS (stOf s) = true := by
    show (decide ((s.k : Int) ≠ 9) || s.d == 34 || s.d == 39) = true
    rcases h.d with ⟨_, q | q⟩ | ⟨q, _⟩
    · rw [q]; simp
    · rw [q]; simp
    · rw [decide_eq_true (by omega)]; rfl
  rw [he, if_pos rfl]
theorem marks_c (s : Sc) (h : Met s) (w : World) : Calls Tryz.prog 20 #[stA s] w fun e w' => e = .returned (.int .i64 0) ∧ Below w.heap.size w w' := by
  have q := Mks.check_c (stOf s) w
  rw [met_check h] at q
  exact q

theorem run_step {s u v : Sc} {l : List UInt8} {j : Nat} (hj : j < l.length) (h : runC s (l.take j) = .ok u) (g : goC u l[j] = .ok v) : runC s (l.take (j + 1)) = .ok v := by
  have e : l.take (j + 1) = l.take j ++ [l[j]] := by rw [List.take_append_getElem hj]
  rw [e, runC_append, h]
  show (match runC u [l[j]] with | .error (k, e) => Except.error ((l.take j).length + k, e) | .ok v => .ok v) = _
  rw [runC_eq, g]
  rfl
theorem run_stop {s u : Sc} {l : List UInt8} {j : Nat} (hj : j < l.length) (h : runC s (l.take j) = .ok u) {n : Nat} (g : goC u l[j] = .error n) : runC s l = .error (j, n) := by
  have e : l = l.take j ++ (l[j] :: l.drop (j + 1)) := by rw [← List.drop_eq_getElem_cons hj, List.take_append_drop]
  have hlen : (l.take j).length = j := by rw [List.length_take]; omega
  have q := runC_append (l.take j) (l[j] :: l.drop (j + 1)) s
  rw [← e, h] at q
  rw [q]
  show (match runC u (l[j] :: l.drop (j + 1)) with | .error (k, e) => Except.error ((l.take j).length + k, e) | .ok v => .ok v) = _
  rw [runC_eq, g, hlen]
  rfl
theorem reach_go {u v : Sc} {c : UInt8} (h : Scn.Reach u) (g : goC u c = .ok v) : Scn.Reach v := go_reach h (goC_ok.1 g)

structure Fi (pa : Nat) (w : World) (u : Sc) (c : UInt8) (x : Int) (Y : World) : Prop where
  low : Keeps pa w Y
  wk : Wk (w.heap.size + 1) 47 (Octet c) u Y
  res : Pl w.heap.size 24 [] 0 ⟨#[]⟩ ⟨#[]⟩ 0 ⟨#[]⟩ ⟨#[]⟩ 0 ⟨#[]⟩ Y
  box : Y.heap[pa]? = some (.cells #[.int .i64 x] 3 (0, 0))
section
variable {pa : Nat} {w : World} {u : Sc} {c : UInt8} {x : Int} {Y : World}
theorem Fi.at_ (h : Fi pa w u c x Y) (hp : pa < w.heap.size) (y : Int) : Fi pa w u c y (Y.setCell ⟨pa, 0, none⟩ (.int .i64 y)) where
  low := h.low.trans (Keeps.set Y _)
  wk := (heap_setCell_other _ _ _ _ (by simp; omega)).trans h.wk
  res := (heap_setCell_other _ _ _ _ (by simp; omega)).trans h.res
  box := heap_setCell_same Y pa 0 _ _ (.int .i64 y) h.box
theorem Fi.oct (h : Fi pa w u c x Y) (hp : pa < w.heap.size) (d : UInt8) : Fi pa w u d x (Y.setCell ⟨w.heap.size + 1, 8, none⟩ (.int .u8 (d.toNat : Int))) where
  low := h.low.fresh (Nat.le_succ _) _
  wk := by
    have h8 := heap_setCell_same _ (w.heap.size + 1) 8 _ _ (.int .u8 (d.toNat : Int)) h.wk
    simp only [List.setIfInBounds_toArray, List.set_cons_zero, List.set_cons_succ] at h8
    exact h8
  res := (heap_setCell_other _ _ _ _ (by simp)).trans h.res
  box := (heap_setCell_other _ _ _ _ (by simp; omega)).trans h.box
theorem Fi.grow (h : Fi pa w u c x Y) (hp : pa < w.heap.size) {Z : World} (hk : Keeps (w.heap.size + 1) Y Z) : Keeps pa w Z ∧ Pl w.heap.size 24 [] 0 ⟨#[]⟩ ⟨#[]⟩ 0 ⟨#[]⟩ ⟨#[]⟩ 0 ⟨#[]⟩ Z ∧ Z.heap[pa]? = some (.cells #[.int .i64 x] 3 (0, 0)) := by
  have hs := h.low.size
  refine ⟨⟨hk.os.trans h.low.os, hk.tape.trans h.low.tape, hk.output.trans h.low.output, Nat.le_trans hs hk.size, fun b hb hbP => (hk.block b (by omega) (by omega)).trans (h.low.block b hb hbP)⟩, ?_, ?_⟩
  · exact (hk.block _ h.res.lt (by omega)).trans h.res
  · exact (hk.block _ (by omega) (by omega)).trans h.box
theorem Fi.asked (h : Fi pa w u c x Y) (hp : pa < w.heap.size) {Z : World} {v : Sc} (hk : Keeps (w.heap.size + 1) Y Z) (hw : Wk (w.heap.size + 1) 47 (Octet c) v Z) : Fi pa w v c x Z :=
  ⟨(h.grow hp hk).1, hw, (h.grow hp hk).2.1, (h.grow hp hk).2.2⟩
theorem Fi.old (h : Fi pa w u c x Y) {b : Nat} (hb : b < w.heap.size) (hne : b ≠ pa) (i : Nat) : Y.cell? ⟨b, i, none⟩ = w.cell? ⟨b, i, none⟩ := by
  unfold World.cell?
  rw [h.low.block b hb hne]
end
theorem fi_new (pa : Nat) (w : World) (u : Sc) (x : Int) (hb : w.heap[pa]? = some (.cells #[.int .i64 x] 3 (0, 0))) :
    Fi pa w u 0 x ((w.alloc (.cells zeroRow 24)).alloc (.cells #[.int .i64 (u.k : Int), .string (S u.e), .string (S u.a), .int .u8 (u.d.toNat : Int), .string (S u.p), .string (S u.r), .int .i64 u.n, .string (S u.w), .int .u8 0] 47)) := by
  have b1 : Below w.heap.size w (w.alloc (.cells zeroRow 24)) := (Below.refl _ w).alloc (Nat.le_refl _) _
  have s1 : (w.alloc (.cells zeroRow 24)).heap.size = w.heap.size + 1 := Array.size_push _
  have n1 := heap_alloc_new w (.cells zeroRow 24)
  have hlt : pa < w.heap.size := (Array.getElem?_eq_some_iff.1 hb).1
  generalize w.alloc (.cells zeroRow 24) = w1 at b1 s1 n1 ⊢
  have b2 := (Below.refl w1.heap.size w1).alloc (Nat.le_refl _) (.cells #[.int .i64 (u.k : Int), .string (S u.e), .string (S u.a), .int .u8 (u.d.toNat : Int), .string (S u.p), .string (S u.r), .int .i64 u.n, .string (S u.w), .int .u8 0] 47)
  have n2 := heap_alloc_new w1 (.cells #[.int .i64 (u.k : Int), .string (S u.e), .string (S u.a), .int .u8 (u.d.toNat : Int), .string (S u.p), .string (S u.r), .int .i64 u.n, .string (S u.w), .int .u8 0] 47)
  generalize w1.alloc (.cells #[.int .i64 (u.k : Int), .string (S u.e), .string (S u.a), .int .u8 (u.d.toNat : Int), .string (S u.p), .string (S u.r), .int .i64 u.n, .string (S u.w), .int .u8 0] 47) = w2 at b2 n2 ⊢
  rw [s1] at n2
  exact ⟨(Keeps.of b1).trans (Keeps.of b2), n2, (b2.block _ (by omega)).trans n1, (b2.block _ (by omega)).trans ((b1.block _ hlt).trans hb)⟩
def FeedTo (pa : Nat) (w : World) (s : Sc) (l : List UInt8) (e : Ending) (Y : World) : Prop :=
  Keeps pa w Y ∧ ((∃ n, e = Fault n ∧ ∃ (k m : Nat), runC s l = .error (k, m) ∧ n = (m : Int) ∧ Y.heap[pa]? = some (.cells #[.int .i64 (k : Int)] 3 (0, 0))) ∨ ∃ v, e = .returned (stA v) ∧ runC s l = .ok v)

set_option maxHeartbeats 1000000 in
set_option maxRecDepth 100000 in
theorem feed1_c (l : List UInt8) (hl : l.length ≤ 4611686018427387904) (s : Sc) (hs : Scn.Reach s) (ps pt pa : Nat) (w : World) (h1 : Pl ps 24 [] (s.k : Int) (S s.e) (S s.a) (s.d.toNat : Int) (S s.p) (S s.r) s.n (S s.w) w)
    (h2 : w.cell? ⟨pt, 0, none⟩ = some (.string (S l))) (x : Int) (h3 : w.heap[pa]? = some (.cells #[.int .i64 x] 3 (0, 0))) (ht : pt ≠ pa) :
    Calls Tryz.prog 22 #[.pointer (some ⟨ps, 0, none⟩), .pointer (some ⟨pt, 0, none⟩), .pointer (some ⟨pa, 0, none⟩)] w (FeedTo pa w s l) := by
  have hlt : pa < w.heap.size := (Array.getElem?_eq_some_iff.1 h3).1
  have htt : pt < w.heap.size := World.block_lt_of_cell? _ _ h2
  have hsz : ((S l).size : Int) = (l.length : Int) := by rw [size_S]
  have hli : (l.length : Int) ≤ 4611686018427387904 := by omega
  have HN := Lib.hid (fi_new pa w s x h3)
  have HA : Hid (∀ (u : Sc) (hu : Scn.Reach u) (c : UInt8) Y, Wk (w.heap.size + 1) 47 (Octet c) u Y → Calls Tryz.prog 23 #[.pointer (some ⟨w.heap.size + 1, 0, none⟩)] Y (AskTo (w.heap.size + 1) c Y (goC u c))) := fun u hu c Y g => ask_c c _ u hu.met Y g
  have HC : Hid (∀ (u : Sc) (hu : Scn.Reach u) (c : UInt8) Y, Wk (w.heap.size + 1) 47 (Octet c) u Y → Calls Tryz.prog 24 #[.pointer (some ⟨w.heap.size + 1, 0, none⟩)] Y fun e w' => e = .returned (stA u) ∧ Below Y.heap.size Y w') := fun u hu c Y g => by
    have hm := hu.met
    have q1 := hm.e2
    have q2 := hm.a2
    have q3 := hm.p2
    have q4 := hm.r2
    have q5 := hm.w
    exact copied_c _ _ _ _ _ _ _ _ _ _ _ Y g (by rw [size_S]; omega) (by rw [size_S]; omega) (by rw [size_S]; omega) (by rw [size_S]; omega) (by rw [size_S]; omega)
  have HOne := Lib.hid (fun k (h : k < l.length) => at_S2 l k h)
  have HT : Hid (∀ u c x Y, Fi pa w u c x Y → Y.cell? ⟨pt, 0, none⟩ = some (.string (S l)) ∧ Y.cell? ⟨pa, 0, none⟩ = some (.int .i64 x) ∧ Y.frozen? ⟨pa, 0, none⟩ = false ∧ Y.frozen? ⟨w.heap.size + 1, 8, none⟩ = false ∧ Y.cell? ⟨w.heap.size + 1, 8, none⟩ = some (.int .u8 (c.toNat : Int))) := fun u c x Y g =>
    ⟨(g.old htt ht 0).trans h2, cell_of_row _ _ 0 _ _ _ g.box, frozen_of_row _ _ 0 _ _ g.box, frozen_of_row _ _ 8 _ _ g.wk, g.wk.last⟩
  obtain ⟨c0, c1, c2, c3, c4, c5, c6, c7⟩ := h1.cells
  have hp1 := h1.lt
  have HS := Lib.hid hs
  have HP := Lib.hid hlt
  clear h1 h3 hs
  go_enter Tryz.func22, Tryz.ntmps22
  go_wp2_with fail
  go_loopw [10] (fun i wr => ∃ (j : Nat) (u : Sc) (c : UInt8) (y : Int), j ≤ l.length ∧ i = .int .i64 j ∧ Hid (runC s (l.take j) = .ok u ∧ Scn.Reach u ∧ Fi pa w u c y wr)) (fun i _ => l.length - (intOf i).toNat)
  case atStart => exact ⟨0, s, 0, x, Nat.zero_le _, rfl, rfl, HS.out, HN.out⟩
  case round =>
    obtain ⟨j, u, c0, y, hj, rfl, HI⟩ := hrel
    clear HN h2
    by_cases hlt2 : j < l.length
    · have h1 := HOne.out j hlt2
      have hrs := Lib.hid (fun v (g : goC u l[j] = .ok v) => And.intro (run_step hlt2 HI.out.1 g) (reach_go HI.out.2.1 g))
      have hre := Lib.hid (fun n (g : goC u l[j] = .error n) => run_stop hlt2 HI.out.1 g)
      have ha := HA.out u HI.out.2.1 l[j]
      generalize l[j] = c at h1 hrs hre ha
      have F1 := Lib.hid (HI.out.2.2.at_ HP.out (j : Int))
      have F2 := Lib.hid (F1.out.oct HP.out c)
      have HA2 := Lib.hid ha
      obtain ⟨x1, x2, x3, x4, x5⟩ := HT.out _ _ _ _ HI.out.2.2
      obtain ⟨y1, y2, y3, y4, y5⟩ := HT.out _ _ _ _ F1.out
      have j0 : (0 : Int) ≤ (j : Int) := by omega
      have j1 : (j : Int) < (l.length : Int) := by omega
      have hcb : (c.toNat : Int) ≤ 255 := by have := c.toNat_lt; omega
      clear ha
      generalize goC u c = r at hrs hre HA2
      go_wp2_with fail
      refine (HA2.out _ F2.out.wk).mono ?_
      rintro e w3 ⟨hk3, hx3⟩
      cases r with
      | error n =>
        subst hx3
        exact ⟨rfl, (F2.out.grow HP.out hk3).1, .inl ⟨(n : Int), rfl, j, n, hre.out n rfl, rfl, (F2.out.grow HP.out hk3).2.2⟩⟩
      | ok v =>
        obtain ⟨rfl, hw3⟩ := hx3
        have F3 := Lib.hid (And.intro (hrs.out v rfl) (F2.out.asked HP.out hk3 hw3))
        clear hk3 hw3 hre hrs HA2
        go_wp2_with fail
        go_roundw
        case rel => exact ⟨j + 1, v, c, (j : Int), by omega, by go_num, F3.out.1.1, F3.out.1.2, F3.out.2⟩
        case measure => simp [intOf]; omega
    · have hjl : j = l.length := by omega
      subst hjl
      have hrun : Hid (runC s l = .ok u) := by have q := HI.out.1; rwa [List.take_length] at q
      have hc := HC.out u HI.out.2.1 c0 _ HI.out.2.2.wk
      clear HOne
      go_wp2_with fail
      refine hc.mono ?_
      rintro e w3 ⟨rfl, hb3⟩
      have hres := HI.out.2.2.res.keep hb3
      have KF := Lib.hid (And.intro (HI.out.2.2.low.trans (Keeps.of hb3)) hres)
      obtain ⟨a0, a1, a2, a3, a4, a5, a6, a7⟩ := hres.cells
      obtain ⟨z0, z1, z2, z3, z4, z5, z6, z7⟩ := hres.froz
      have hq := put8_pl hres (u.k : Int) (S u.e) (S u.a) (u.d.toNat : Int) (S u.p) (S u.r) u.n (S u.w)
      obtain ⟨g0, g1, g2, g3, g4, g5, g6, g7⟩ := hq.cells
      unfold put8 at g0 g1 g2 g3 g4 g5 g6 g7
      clear hb3 hres hq hc
      go_wp2_with fail
      refine bodyPost_ret (v := stA u) (by simp [results, Tryz.results22, go_sem, g0, g1, g2, g3, g4, g5, g6, g7]) rfl ?_
      have hk8 := put8_keeps (Keeps.refl w.heap.size w3) (.int .i64 (u.k : Int)) (.string (S u.e)) (.string (S u.a)) (.int .u8 (u.d.toNat : Int)) (.string (S u.p)) (.string (S u.r)) (.int .i64 u.n) (.string (S u.w))
      have hk := KF.out.1
      have hs0 := hk.size
      exact ⟨⟨hk8.os.trans hk.os, hk8.tape.trans hk.tape, hk8.output.trans hk.output, Nat.le_trans hs0 hk8.size, fun b hb hbP => (hk8.block b (by omega) (by omega)).trans (hk.block b hb hbP)⟩, .inr ⟨u, rfl, hrun.out⟩⟩
end Go.Proofs.YtklpbkjplecdpaaGreat.Scw

/-
  Contracts of Feed, Hole and Ends of package scan, at every state that octets make.
-/
namespace Go.Proofs.YtklpbkjplecdpaaGreat.Scw
open Go.RowKit Oct Crf Scn Tab Tok

theorem enter_feed1 : ∀ args w, (callFunc 22 args).run Tryz.prog w = .ok (.enter 22 args) w := enters_of Tryz.func22 (by kernel_rfl) rfl
structure Fb (s : Sc) (l : List UInt8) (w Y : World) : Prop where
  low : Below w.heap.size w Y
  st : Pl w.heap.size 24 [] (s.k : Int) (S s.e) (S s.a) (s.d.toNat : Int) (S s.p) (S s.r) s.n (S s.w) Y
  tx : Y.heap[w.heap.size + 1]? = some (.cells #[.string (S l)] 9 (0, 0))
  res : Pl (w.heap.size + 1 + 1) 24 [] 0 ⟨#[]⟩ ⟨#[]⟩ 0 ⟨#[]⟩ ⟨#[]⟩ 0 ⟨#[]⟩ Y
theorem Fb.grow {s : Sc} {l : List UInt8} {w Y Z : World} (h : Fb s l w Y) (hb : Below Y.heap.size Y Z) : Fb s l w Z :=
  ⟨h.low.trans (hb.mono h.low.size), h.st.keep hb, (hb.block _ (Array.getElem?_eq_some_iff.1 h.tx).1).trans h.tx, h.res.keep hb⟩
theorem fb_new (s : Sc) (l : List UInt8) (w : World) : Fb s l w (((w.alloc (.cells #[.int .i64 (s.k : Int), .string (S s.e), .string (S s.a), .int .u8 (s.d.toNat : Int), .string (S s.p), .string (S s.r), .int .i64 s.n, .string (S s.w)] 24)).alloc (.cells #[.string (S l)] 9)).alloc (.cells zeroRow 24)) := by
  have b1 : Below w.heap.size w (w.alloc (.cells #[.int .i64 (s.k : Int), .string (S s.e), .string (S s.a), .int .u8 (s.d.toNat : Int), .string (S s.p), .string (S s.r), .int .i64 s.n, .string (S s.w)] 24)) := (Below.refl _ w).alloc (Nat.le_refl _) _
  have s1 : (w.alloc (.cells #[.int .i64 (s.k : Int), .string (S s.e), .string (S s.a), .int .u8 (s.d.toNat : Int), .string (S s.p), .string (S s.r), .int .i64 s.n, .string (S s.w)] 24)).heap.size = w.heap.size + 1 := Array.size_push _
  have n1 := heap_alloc_new w (.cells #[.int .i64 (s.k : Int), .string (S s.e), .string (S s.a), .int .u8 (s.d.toNat : Int), .string (S s.p), .string (S s.r), .int .i64 s.n, .string (S s.w)] 24)
  generalize w.alloc (.cells #[.int .i64 (s.k : Int), .string (S s.e), .string (S s.a), .int .u8 (s.d.toNat : Int), .string (S s.p), .string (S s.r), .int .i64 s.n, .string (S s.w)] 24) = w1 at b1 s1 n1 ⊢
  have b2 := (Below.refl w1.heap.size w1).alloc (Nat.le_refl _) (.cells #[.string (S l)] 9)
  have s2 : (w1.alloc (.cells #[.string (S l)] 9)).heap.size = w1.heap.size + 1 := Array.size_push _
  have n2 := heap_alloc_new w1 (.cells #[.string (S l)] 9)
  generalize w1.alloc (.cells #[.string (S l)] 9) = w2 at b2 s2 n2 ⊢
  have b3 := (Below.refl w2.heap.size w2).alloc (Nat.le_refl _) (.cells zeroRow 24)
  have n3 := heap_alloc_new w2 (.cells zeroRow 24)
  generalize w2.alloc (.cells zeroRow 24) = w3 at b3 n3 ⊢
  rw [s1] at n2
  rw [s2, s1] at n3
  refine ⟨b1.trans ((b2.trans (b3.mono b2.size)).mono b1.size), ?_, ?_, n3⟩
  · show w3.heap[w.heap.size]? = _
    rw [b3.block _ (by omega), b2.block _ (by omega)]; exact n1
  · rw [b3.block _ (by omega)]; exact n2
structure Fc (l : List UInt8) (w : World) (pa : Nat) (Z : World) : Prop where
  low : Below w.heap.size w Z
  tx : Z.cell? ⟨w.heap.size + 1, 0, none⟩ = some (.string (S l))
  res : Pl (w.heap.size + 1 + 1) 24 [] 0 ⟨#[]⟩ ⟨#[]⟩ 0 ⟨#[]⟩ ⟨#[]⟩ 0 ⟨#[]⟩ Z
theorem fc_of {s : Sc} {l : List UInt8} {w Y Z : World} (h : Fb s l w Y) {pa : Nat} (hp : w.heap.size + 1 + 1 < pa) (hk : Keeps pa Y Z) : Fc l w pa Z := by
  have hs := h.low.size
  have h2 : w.heap.size + 1 + 1 < Y.heap.size := h.res.lt
  exact ⟨⟨hk.os.trans h.low.os, hk.tape.trans h.low.tape, hk.output.trans h.low.output, Nat.le_trans hs hk.size, fun b hb => (hk.block b (by omega) (by omega)).trans (h.low.block b hb)⟩, cell_of_row _ _ 0 _ _ _ ((hk.block _ (by omega) (by omega)).trans h.tx), (hk.block _ h2 (by omega)).trans h.res⟩
theorem fc_fin {l : List UInt8} {w : World} {pa : Nat} {Z : World} (h : Fc l w pa Z) (o : Obj) (k : Int) (E A : ByteArray) (d : Int) (Q F : ByteArray) (n : Int) (W : ByteArray) :
    Below w.heap.size w ((put8 Z (w.heap.size + 1 + 1) (.int .i64 k) (.string E) (.string A) (.int .u8 d) (.string Q) (.string F) (.int .i64 n) (.string W)).alloc o) ∧
    Pl (w.heap.size + 1 + 1) 24 [] k E A d Q F n W ((put8 Z (w.heap.size + 1 + 1) (.int .i64 k) (.string E) (.string A) (.int .u8 d) (.string Q) (.string F) (.int .i64 n) (.string W)).alloc o) := by
  have h1 := put8_pl h.res k E A d Q F n W
  have hk := put8_keeps (Keeps.refl (w.heap.size + 1 + 1) Z) (.int .i64 k) (.string E) (.string A) (.int .u8 d) (.string Q) (.string F) (.int .i64 n) (.string W)
  generalize put8 Z (w.heap.size + 1 + 1) (.int .i64 k) (.string E) (.string A) (.int .u8 d) (.string Q) (.string F) (.int .i64 n) (.string W) = U at *
  have hb : Below U.heap.size U (U.alloc o) := (Below.refl _ U).alloc (Nat.le_refl _) o
  have hU : Below w.heap.size w U := by
    have hs := h.low.size
    exact ⟨hk.os.trans h.low.os, hk.tape.trans h.low.tape, hk.output.trans h.low.output, Nat.le_trans hs hk.size, fun b hb => (hk.block b (by omega) (by omega)).trans (h.low.block b hb)⟩
  exact ⟨hU.trans (hb.mono hU.size), h1.keep hb⟩
def feedV (s : Sc) (l : List UInt8) : Value := .tuple (match runC s l with | .ok v => #[stA v, .int .i64 (l.length : Int), .int .i64 0] | .error (k, m) => #[zeroV, .int .i64 (k : Int), .int .i64 (m : Int)])

set_option maxHeartbeats 1000000 in
set_option maxRecDepth 100000 in
theorem feed_c (l : List UInt8) (hl : l.length ≤ 4611686018427387904) (s : Sc) (hs : Scn.Reach s) (w : World) :
    Calls Tryz.prog 9 #[stA s, .string (S l)] w fun e w' => e = .returned (feedV s l) ∧ Below w.heap.size w w' := by
  have hck := fun w => marks_c s hs.met w
  have hsz : ((S l).size : Int) = (l.length : Int) := by rw [size_S]
  have HN := Lib.hid (fb_new s l w)
  have HCa : Hid (∀ Y, Fb s l w Y → Calls Tryz.prog 21 #[.func (.func 22) #[] #[.pointer (some ⟨w.heap.size, 0, none⟩), .pointer (some ⟨w.heap.size + 1, 0, none⟩), .pointer (some ⟨Y.heap.size, 0, none⟩)]] (Y.alloc (.cells #[.int .i64 0] 3)) fun e w' =>
      Fc l w Y.heap.size w' ∧ ((∃ k m, runC s l = .error (k, m) ∧ e = .returned (.tuple #[zeroV, .int .i64 (m : Int)]) ∧ w'.heap[Y.heap.size]? = some (.cells #[.int .i64 (k : Int)] 3 (0, 0))) ∨ ∃ u, runC s l = .ok u ∧ e = .returned (.tuple #[stA u, .int .i64 0]) ∧ Y.heap.size < w'.heap.size)) := by
    intro Y hY
    have hlt2 : w.heap.size + 1 + 1 < Y.heap.size := hY.res.lt
    have b1 : Below Y.heap.size Y (Y.alloc (.cells #[.int .i64 0] 3)) := (Below.refl _ Y).alloc (Nat.le_refl _) _
    have n1 := heap_alloc_new Y (.cells #[.int .i64 0] 3)
    have s1 : (Y.alloc (.cells #[.int .i64 0] 3)).heap.size = Y.heap.size + 1 := Array.size_push _
    have hY1 := hY.grow b1
    generalize Y.alloc (.cells #[.int .i64 0] 3) = Y1 at b1 n1 s1 hY1 ⊢
    have hbb := (both_new Y.heap.size Y1).1
    have hks := both_new Y.heap.size Y1
    have b2 : Below Y1.heap.size Y1 (bothBox Y1) := ((Below.refl _ Y1).alloc (Nat.le_refl _) _).trans (((Below.refl _ (ansBox Y1)).alloc (Nat.le_refl _) _).mono (by simp))
    have hY2 := hY1.grow b2
    have hc := feed1_c l hl s hs w.heap.size (w.heap.size + 1) Y.heap.size (bothBox Y1) hY2.st ((cell_of_row _ _ 0 _ _ _ hY2.tx).trans rfl) 0 ((b2.block _ (by omega)).trans n1) (by omega)
    refine (caught_c Y.heap.size 22 _ Y1 (by omega) (fun n Z => ∃ (k m : Nat), runC s l = .error (k, m) ∧ n = (m : Int) ∧ Z.heap[Y.heap.size]? = some (.cells #[.int .i64 (k : Int)] 3 (0, 0))) (fun v => ∃ u, runC s l = .ok u ∧ v = stA u) enter_feed1 (hc.mono ?_)).mono ?_
    · rintro e Z ⟨hk, (⟨n, he, k, m, h1, h2, h3⟩ | ⟨v, he, h1⟩)⟩
      · exact ⟨hk, .inl ⟨n, he, k, m, h1, h2, h3⟩⟩
      · exact ⟨hk, .inr ⟨_, _, _, _, _, _, _, _, he, v, h1, rfl⟩⟩
    · rintro e Z ⟨hk, (⟨n, U, he, ⟨k, m, h1, h2, h3⟩, h4⟩ | ⟨v, he, u, h1, rfl⟩)⟩
      · subst h2
        exact ⟨fc_of hY1 hlt2 hk, .inl ⟨k, m, h1, he, h4.trans h3⟩⟩
      · exact ⟨fc_of hY1 hlt2 hk, .inr ⟨u, h1, he, by have := hk.size; omega⟩⟩
  have HE : Hid (∀ k m, runC s l = .error (k, m) → ((m : Int) != 0) = true) := fun k m g => by
    have := (err_run l g).1
    rw [bne_iff_ne]
    omega
  have E : Hid (feedV s l = .tuple (match runC s l with | .ok v => #[stA v, .int .i64 (l.length : Int), .int .i64 0] | .error (k, m) => #[zeroV, .int .i64 (k : Int), .int .i64 (m : Int)])) := by show _ = _; rfl
  clear hs
  generalize feedV s l = res at E ⊢
  generalize runC s l = r at HCa HE E
  go_enter Tryz.func9, Tryz.ntmps9
  go_wp2_with fail
  refine (hck _).mono ?_
  rintro e w1 ⟨rfl, hb1⟩
  have B1 := Lib.hid (HN.out.grow hb1)
  clear hb1 hck HN
  go_wp2_with fail
  refine (HCa.out _ B1.out).mono ?_
  rintro e w2 ⟨hfc, (⟨k, m, rfl, rfl, hbx⟩ | ⟨u, rfl, rfl, hlt⟩)⟩
  · have hm := HE.out k m rfl
    have C := Lib.hid hfc
    have hx := cell_of_row _ _ 0 _ _ _ hbx
    have hxl : w1.heap.size < w2.heap.size := (Array.getElem?_eq_some_iff.1 hbx).1
    have hrl : w.heap.size + 1 + 1 < w2.heap.size := hfc.res.lt
    obtain ⟨a0, a1, a2, a3, a4, a5, a6, a7⟩ := hfc.res.cells
    obtain ⟨z0, z1, z2, z3, z4, z5, z6, z7⟩ := hfc.res.froz
    have er : Hid (res = .tuple #[zeroV, .int .i64 (k : Int), .int .i64 (m : Int)]) := E.out
    have hpa : w.heap.size + 1 + 1 < w1.heap.size := B1.out.res.lt
    have ne1 : w1.heap.size ≠ w.heap.size + 1 + 1 := by omega
    have ne2 := Ne.symm ne1
    have fin : Hid (∀ o, _) := fun o => fc_fin C.out o 0 ⟨#[]⟩ ⟨#[]⟩ 0 ⟨#[]⟩ ⟨#[]⟩ 0 ⟨#[]⟩
    clear E hfc hbx HCa HE hpa
    go_wp2_with fail
    go_region
    go_wp2_with fail
    obtain ⟨g0, g1, g2, g3, g4, g5, g6, g7⟩ := (fin.out (.cells zeroRow 24)).2.cells
    unfold put8 at g0 g1 g2 g3 g4 g5 g6 g7
    refine bodyPost_ret (v := .tuple #[zeroV, .int .i64 (k : Int), .int .i64 (m : Int)]) (by simp [results, Tryz.results9, go_sem, g0, g1, g2, g3, g4, g5, g6, g7]) rfl ?_
    exact ⟨by rw [er.out], (fin.out (.cells zeroRow 24)).1.drew⟩
  · have C := Lib.hid hfc
    have hrl : w.heap.size + 1 + 1 < w2.heap.size := hfc.res.lt
    obtain ⟨a0, a1, a2, a3, a4, a5, a6, a7⟩ := hfc.res.cells
    obtain ⟨z0, z1, z2, z3, z4, z5, z6, z7⟩ := hfc.res.froz
    have er : Hid (res = .tuple #[stA u, .int .i64 (l.length : Int), .int .i64 0]) := E.out
    have ht1 := hfc.tx
    have htl : w.heap.size + 1 < w2.heap.size := by omega
    have fin : Hid (∀ o, _) := fun o => fc_fin C.out o (u.k : Int) (S u.e) (S u.a) (u.d.toNat : Int) (S u.p) (S u.r) u.n (S u.w)
    have ne1 : w2.heap.size ≠ w.heap.size + 1 + 1 := by omega
    have ne2 := Ne.symm ne1
    have ne3 : w.heap.size + 1 ≠ w.heap.size + 1 + 1 := by omega
    clear E hfc HCa HE
    go_wp2_with fail
    go_region
    go_wp2_with fail
    obtain ⟨g0, g1, g2, g3, g4, g5, g6, g7⟩ := (fin.out (.cells #[.int .i64 (u.k : Int), .string (S u.e), .string (S u.a), .int .u8 (u.d.toNat : Int), .string (S u.p), .string (S u.r), .int .i64 u.n, .string (S u.w)] 24)).2.cells
    unfold put8 at g0 g1 g2 g3 g4 g5 g6 g7
    refine bodyPost_ret (v := .tuple #[stA u, .int .i64 (l.length : Int), .int .i64 0]) (by simp [results, Tryz.results9, go_sem, g0, g1, g2, g3, g4, g5, g6, g7]) rfl ?_
    exact ⟨by rw [er.out], (fin.out (.cells #[.int .i64 (u.k : Int), .string (S u.e), .string (S u.a), .int .u8 (u.d.toNat : Int), .string (S u.p), .string (S u.r), .int .i64 u.n, .string (S u.w)] 24)).1.drew⟩
end Go.Proofs.YtklpbkjplecdpaaGreat.Scw
