/-
  Part 13: RdBegin2, BuildText.
-/
import Derived.Test.YtganmmkdcaphfaaGreatDoorJsBaseP12
import Derived.Deep.RegionHeld3
import Derived.Deep.DeepCutAuto
import Derived.Test.YtganmmkdcaphfaaGreatDoorJsBaseP1
import Derived.Test.YtganmmkdcaphfaaGreatDoorProg
import Derived.Test.YtganmmkdcaphfaaGreatDoorJsBaseP2
import Derived.Lib.OthersKept
import Derived.Lib.Hide
/-
  Contract of the reader's begin: the walk.
-/
namespace Go.Proofs.YtganmmkdcaphfaaGreatDoor.Rd
open Go.RowKit Go.Proofs.YtganmmkdcaphfaaGreatDoor.Oct Go.Proofs.YtganmmkdcaphfaaGreatDoor.Val

/-- What holds behind the first step of begin. -/
def BegunAt (N : Nat) (tag : Nat → Nat) (w : World) (R : Nat) (s : List UInt8) (fs : List Fr) (k : Int) (deep : Nat) (W : World) : Prop :=
  ∃ tag' g cap es', RdAt N tag' W R s (fs ++ [fresh0 k]) deep (.slice (some ⟨g, 0, none⟩) (fs.length + 1) cap) es' ∧ Kp tag tag' w W ∧ Bx W w.heap.size (.int .i64 0) (.int .i64 0) (.string ⟨#[]⟩) (.slice none 0 0) (.slice none 0 0) ∧ tag' w.heap.size = 1

theorem begun_of {N : Nat} {tag : Nat → Nat} {w A Z : World} {R : Nat} {s : List UInt8} {fs : List Fr} {k : Int} {deep g cap : Nat} {es' : List E5} (hb : Below w.heap.size w A) (ht : tag w.heap.size = 1)
    (hx : Bx A w.heap.size (.int .i64 0) (.int .i64 0) (.string ⟨#[]⟩) (.slice none 0 0) (.slice none 0 0))
    (h : ∃ tag', RdAt N tag' Z R s (fs ++ [fresh0 k]) deep (.slice (some ⟨g, 0, none⟩) (fs.length + 1) cap) es' ∧ Kp tag tag' A Z) : BegunAt N tag w R s fs k deep Z := by
  obtain ⟨tag', h1, h2⟩ := h
  obtain ⟨h3, h4⟩ := hx.kp h2 ht
  exact ⟨tag', g, cap, es', h1, (Kp.of hb).trans h2, h3, h4⟩

theorem ending_e (k : Int) (w : World) : Calls Tryz.prog 72 #[.int .i64 k] w fun e w' => e = .returned (.string (S (endL k))) ∧ w' = w := ending_c k w

/-- What begin leaves. -/
def BeginTo (N : Nat) (tag : Nat → Nat) (w : World) (R : Nat) (s : List UInt8) (fs : List Fr) (k : Int) (deep : Nat) (en : Ending) (w' : World) : Prop :=
  if Lib.hasPrefix s (endL k) then ∃ e tag' ov' es', en = .returned (.tuple #[agg5 e, .bool true]) ∧ RdAt N tag' w' R (s.drop 1) fs (max deep (fs.length + 1)) ov' es' ∧ Kp tag tag' w w' ∧ Holds (Dn N tag' w') w' (agg5 e) (fresh0 k).val
  else ∃ tag' ov' es', en = .returned (.tuple #[.agg #[.int .i64 0, .int .i64 0, .string ⟨#[]⟩, .slice none 0 0, .slice none 0 0], .bool false]) ∧ RdAt N tag' w' R s (fs ++ [fresh0 k]) (max deep (fs.length + 1)) ov' es' ∧ Kp tag tag' w w'

theorem begin_no {N : Nat} {tag tag' : Nat → Nat} {w D : World} {R : Nat} {s : List UInt8} {fs : List Fr} {k : Int} {deep : Nat} {ov : Value} {es : List E5} (hp : Lib.hasPrefix s (endL k) = false)
    (h : RdAt N tag' D R s (fs ++ [fresh0 k]) (max deep (fs.length + 1)) ov es) (hk : Kp tag tag' w D) (ht : tag' w.heap.size = 1) (Z : World) (hZ : Z = (st5 D w.heap.size (.int .i64 0) (.int .i64 0) (.string ⟨#[]⟩) (.slice none 0 0) (.slice none 0 0)).drew) :
    BeginTo N tag w R s fs k deep (.returned (.tuple #[.agg #[.int .i64 0, .int .i64 0, .string ⟨#[]⟩, .slice none 0 0, .slice none 0 0], .bool false])) Z := by
  have a1 := h.st5 ht (.int .i64 0) (.int .i64 0) (.string ⟨#[]⟩) (.slice none 0 0) (.slice none 0 0)
  have a2 := hk.own (st5_below (Below.refl _ D) (Nat.le_refl _) (.int .i64 0) (.int .i64 0) (.string ⟨#[]⟩) (.slice none 0 0) (.slice none 0 0))
  generalize st5 D w.heap.size (.int .i64 0) (.int .i64 0) (.string ⟨#[]⟩) (.slice none 0 0) (.slice none 0 0) = X at a1 a2 hZ
  subst hZ
  unfold BeginTo
  rw [hp]
  exact ⟨tag', _, _, rfl, a1.keep (Below.refl _ X).drew, a2.own (Below.refl _ X).drew⟩

theorem begin_yes {N : Nat} {tag tag' tag2 : Nat → Nat} {w D W6 : World} {R : Nat} {s : List UInt8} {fs : List Fr} {k : Int} {deep : Nat} {ov2 : Value} {es2 : List E5} (hp : Lib.hasPrefix s (endL k) = true) {v0 v1 v2 v3 v4 : Value}
    (hk : Kp tag tag' w D) (h : RdAt N tag2 W6 R (s.drop 1) fs (max deep (fs.length + 1)) ov2 es2) (hk2 : Kp tag' tag2 D.drew W6) (hh : Holds (Dn N tag2 W6) W6 (agg5 (v0, v1, v2, v3, v4)) (fresh0 k).val) (ht : tag2 w.heap.size = 1) (Z : World) (hZ : Z = st5 W6 w.heap.size v0 v1 v2 v3 v4) :
    BeginTo N tag w R s fs k deep (.returned (.tuple #[.agg #[v0, v1, v2, v3, v4], .bool true])) Z := by
  have a1 := h.st5 ht v0 v1 v2 v3 v4
  have a2 := ((hk.trans (Kp.of (Below.refl _ D).drew)).trans hk2).own (st5_below (Below.refl _ W6) (Nat.le_refl _) v0 v1 v2 v3 v4)
  have a3 := holds_dn (tag' := tag2) hh (fun b hb h0 => st5_other W6 v0 v1 v2 v3 v4 (fun e => by rw [e, ht] at h0; cases h0)) (fun _ _ h => h)
  rw [← hZ] at a1 a2 a3
  unfold BeginTo
  rw [hp]
  exact ⟨(v0, v1, v2, v3, v4), tag2, _, _, rfl, a1, a2, a3⟩

set_option maxHeartbeats 4000000 in
set_option maxRecDepth 100000 in
theorem begin_c (N : Nat) (tag : Nat → Nat) (w : World) (R : Nat) (s : List UInt8) (fs : List Fr) (k : Int) (hk : k = 5 ∨ k = 6) (deep : Nat) (ov : Value) (es : List E5) (h : RdAt N tag w R s fs deep ov es) (hm : fs.length + 1 ≤ 1099511627776) :
    Calls Tryz.prog 66 #[.pointer (some ⟨R, 0, none⟩), .int .i64 k] w (BeginTo N tag w R s fs k deep) := by
  obtain ⟨op, oc, hov⟩ := own_slice h.own
  obtain ⟨A, hA⟩ : ∃ A, A = w.alloc (.cells #[.int .i64 0, .int .i64 0, .string ⟨#[]⟩, .slice none 0 0, .slice none 0 0] 25) := ⟨_, rfl⟩
  have hbA : Below w.heap.size w A := by rw [hA]; exact (Below.refl _ w).alloc (Nat.le_refl _) _
  have hAs : A.heap.size = w.heap.size + 1 := by rw [hA]; simp
  have hxA : Bx A w.heap.size (.int .i64 0) (.int .i64 0) (.string ⟨#[]⟩) (.slice none 0 0) (.slice none 0 0) := by rw [hA]; exact Bx.new _ _ _ _ _ _
  have hd := (h.keep hbA).keep (Below.refl _ A).drew
  have c1 := (h.keep hbA).rd.cell1
  have z1 := (h.keep hbA).rd.frozen 1
  have hRA := hd.rd.lt
  rw [hov] at c1
  obtain ⟨i0, hi0, hz0, hz1, hz2⟩ := info_parts info_value
  have hmax : fs.length + 1 ≤ maxLen := by unfold maxLen; omega
  have hby : (fs.length + 1) * 80 ≤ 140737488355328 := by omega
  have hN := hd.size
  have hA0 : (0 : Int) ≤ (fs.length : Int) := by omega
  have hA1 : (fs.length : Int) < (fs.length : Int) + 1 := by omega
  have q2 : ¬ R = A.heap.size := by have : A.drew.heap.size = A.heap.size := rfl; omega
  have hRl : R < A.heap.size := hRA
  have HY := Lib.hid (And.intro hd (And.intro hov (And.intro hAs (And.intro hbA (And.intro hxA (h.out w.heap.size (.inr (Nat.le_refl _))))))))
  have hown0 := hd.own
  rw [hov] at hown0
  have HO := Lib.hid hown0
  have HA := Lib.hid hA
  clear hd h hbA hAs hxA hA hown0 hRA hov
  go_enter Tryz.func66, Tryz.ntmps66
  go_upto_region 1 with fail
  rw [← HA.out]
  go_cut [] (fun wx => Hid (BegunAt N tag w R s fs k deep wx))
  case first =>
    go_region_law (first
      | (refine step_append_lies _ rfl (.tmp 9) (.tmp 13) 22 rfl N 25 i0 _ 5 80 Tryz.underlying22 hi0 hz0 hz1 hz2 rfl (by omega) (.slice op fs.length oc) fs.length (flat es) (by simp [Act.eval, Act.put]) (HO.out.alloc _) ⟨A.heap.size, 0, none⟩ 1 1 [.int .i64 0, .int .i64 0, .string ⟨#[]⟩, .slice none 0 0, .slice none 0 0] (by simp [Act.eval, Act.put]) rfl (World.news_of_block (heap_alloc_new A.drew _)) (by intro u hu; simp at hu; rcases hu with rfl | rfl | rfl | rfl | rfl <;> rfl) (by omega) hmax hby (by simp at hN ⊢; omega) (A.heap.size + 1) (by simp) ?_; intro g cp wB hownB hgB hatB hltB; obtain ⟨⟨y0, y1, y2, y3, y4⟩, ⟨t0, t1, t2, t3, t4⟩, hRB, ne1, ne2⟩ := begin_facts HY.out.1 hownB (HY.out.2.1.symm ▸ hgB) (HY.out.2.1.symm ▸ hatB); have r1 := hRB.cell1; have r2 := hRB.frozen 1; rw [HY.out.2.1] at r1; have HZ := Lib.hid (And.intro hownB (And.intro hgB (And.intro hatB hltB))); clear hownB hgB hatB hltB hRB))
    all_goals
      clear y0 y1 y2 y3 y4 t0 t1 t2 t3 t4 r1 r2
      go_wp2_with fail
      have e1 := HY.out.1
      have e2 := HY.out.2
      have e3 := HZ.out
      have PF := fun Z hZ => begun_of e2.2.2.1 e2.2.2.2.2 e2.2.2.2.1 (begin_fin hk (Kp.of (Below.refl _ A).drew) e1 e3.1 (e2.1.symm ▸ e3.2.1) (e2.1.symm ▸ e3.2.2.1) e3.2.2.2 Z hZ)
      have PF1 := Lib.hid (PF _ (Or.inl rfl))
      have PF2 := Lib.hid (PF _ (Or.inr rfl))
      clear PF e1 e2 e3
      go_meet
      first | with_reducible exact PF1 | with_reducible exact PF2
  case rest =>
    obtain ⟨tag', g, cap, es', h1, h2, h3, h4⟩ := hcut.out
    have c1 := h1.rd.cell1
    have c2 := h1.rd.cell2
    have z2 := h1.rd.frozen 2
    have HX := Lib.hid (And.intro h1 (And.intro h2 (And.intro h3 h4)))
    clear h1 h2 h3 h4 hcut HY HO HA q2 hRl hN
    have hmx : max (deep : Int) ((fs.length : Int) + 1) = ((max deep (fs.length + 1) : Nat) : Int) := by omega
    have hD := ((HX.out.1.deeper (max deep (fs.length + 1))).keep (Below.refl _ _).drew)
    have hDk := (HX.out.2.1.trans (Kp.save HX.out.1.rmark (Save.setR (i := 2) wc (.int .i64 ((max deep (fs.length + 1) : Nat) : Int))))).trans (Kp.of (Below.refl _ _).drew)
    have hDb := (HX.out.2.2.1.save (Save.setR (i := 2) wc (.int .i64 ((max deep (fs.length + 1) : Nat) : Int))) (fun e => by have h1 := HX.out.2.2.2; rw [e, HX.out.1.rmark] at h1; omega)).keep (Below.refl _ _).drew
    obtain ⟨D, hDe⟩ : ∃ D, D = (wc.setCell ⟨R, 2, none⟩ (.int .i64 ((max deep (fs.length + 1) : Nat) : Int))).drew := ⟨_, rfl⟩
    rw [← hDe] at hD hDk hDb
    have HD := Lib.hid (And.intro hD (And.intro hDk (And.intro hDb HX.out.2.2.2)))
    have HDE := Lib.hid hDe
    have d0 : D.drew.cell? ⟨R, 0, none⟩ = some (.string (S s)) := (hD.keep (Below.refl _ _).drew).rd.cell0
    clear hD hDk hDb hDe
    go_wp2_with fail
    go_region
    rw [← HDE.out]
    clear c1 c2 z2 hmx
    obtain ⟨y0, y1, y2, y3, y4⟩ := HD.out.2.2.1.five
    obtain ⟨z0, z1', z2, z3, z4⟩ := HD.out.2.2.1.froz
    have hh := fun W => hasPrefix_S s (endL k) W
    cases hp : Lib.hasPrefix s (endL k) with
    | false =>
      rw [hp] at hh
      go_wp2_with fail
      go_region_held3 (fun w' => w'.cell? ⟨R, 0, none⟩ = some (.string (S s)))
        (first | with_reducible exact d0)
        (first
          | (go_at_call 72; refine (ending_e k _).mono ?_; rintro e4 W4 ⟨rfl, rfl⟩)
          | (go_at_call 20; refine (hh _).mono ?_; rintro e5 W5 ⟨rfl, rfl⟩))
      go_wp2_with fail
      refine bodyPost_ret (v := .tuple #[.agg #[.int .i64 0, .int .i64 0, .string ⟨#[]⟩, .slice none 0 0, .slice none 0 0], .bool false]) (by simp [results, Tryz.results66, go_sem, y0, y1, y2, y3, y4]) rfl ?_
      have fin := fun Z hZ => begin_no (tag := tag) (w := w) hp HD.out.1 HD.out.2.1 HD.out.2.2.2 Z hZ
      exact fin _ rfl
    | true =>
      rw [hp] at hh
      have he := end_c N tag' D.drew R s fs (fresh0 k) (max deep (fs.length + 1)) _ _ (HD.out.1.keep (Below.refl _ D).drew) (by simp) (by simp) hm
      unfold EndsTo at he
      simp only [hp, if_true] at he
      go_wp2_with fail
      go_region_held3 (fun w' => w'.cell? ⟨R, 0, none⟩ = some (.string (S s)))
        (first | with_reducible exact d0)
        (first
          | (go_at_call 72; refine (ending_e k _).mono ?_; rintro e4 W4 ⟨rfl, rfl⟩)
          | (go_at_call 20; refine (hh _).mono ?_; rintro e5 W5 ⟨rfl, rfl⟩))
      go_wp2_with (first
        | (go_at_call 64; refine he.mono ?_; rintro e6 W6 ⟨⟨v0, v1, v2, v3, v4⟩, tag2, ov2, es2, rfl, f1, f2, f3⟩; obtain ⟨b1, b2⟩ := (HD.out.2.2.1.keep (Below.refl _ D).drew).kp f2 HD.out.2.2.2; obtain ⟨x0, x1, x2, x3, x4⟩ := b1.five; obtain ⟨t0, t1, t2, t3, t4⟩ := b1.froz; obtain ⟨k2, n2, s2, p2, a2, b3, q2, r2, d2, rfl, rfl, rfl, rfl, rfl⟩ := holds_parts f3; have H6 := Lib.hid (And.intro f1 (And.intro f2 (And.intro f3 b2))); clear f1 f2 f3 b1 b2))
      refine bodyPost_ret (v := .tuple #[.agg #[.int .i64 k2, .int .i64 n2, .string s2, .slice p2 a2 b3, .slice q2 r2 d2], .bool true]) (by simp [results, Tryz.results66, go_sem, x0, x1, x2, x3, x4]) rfl ?_
      have fin := fun Z hZ => begin_yes (tag := tag) (w := w) hp HD.out.2.1 H6.out.1 H6.out.2.1 H6.out.2.2.1 H6.out.2.2.2 Z hZ
      exact fin _ rfl
end Go.Proofs.YtganmmkdcaphfaaGreatDoor.Rd

/-
  Contracts of strings.Builder's copyCheck and WriteString over this translation: a builder in a block of its own takes a text; every block that is neither its own nor a row of octets stays as it was.
-/
namespace Go.Proofs.YtganmmkdcaphfaaGreatDoor.Build
open Go.RowKit Go.Proofs.YtganmmkdcaphfaaGreatDoor.Oct

theorem size_b : (Tryz.prog.info? 103).map (·.size) = some 2 := by kernel_rfl
theorem lies_b : liesAt Tryz.prog Tryz.prog.depth 103 (2 / Tryz.prog.cellsOf 103) 0 103 1 = true := by kernel_rfl
theorem info_o : (Tryz.prog.info? 5).map (fun i => (i.zero, i.size, i.bytes)) = some (some (.int .u8 0), 1, 1) := by kernel_rfl

set_option maxHeartbeats 2000000 in
set_option maxRecDepth 100000 in
theorem check_used (b : Nat) (w : World) (h0 : w.cell? ⟨b, 0, none⟩ = some (.pointer (some ⟨b, 0, none⟩))) :
    Calls Tryz.prog 113 #[.pointer (some ⟨b, 0, none⟩)] w fun e w' => e = .returned (.tuple #[]) ∧ w' = w := by
  obtain ⟨j, hj, _⟩ := Option.map_eq_some_iff.1 size_b
  have he := Lib.run_neq_ptr_same w ⟨b, 0, none⟩ Tryz.underlying101 hj
  go_enter Tryz.func113, Tryz.ntmps113
  go_wp2
  go_end0
  exact ⟨rfl, rfl⟩

set_option maxHeartbeats 2000000 in
set_option maxRecDepth 100000 in
theorem check_fresh (b : Nat) (w : World) (h0 : w.cell? ⟨b, 0, none⟩ = some (.pointer none)) (hsh : w.shape? b = some (103, 2)) (hfz : w.frozen? ⟨b, 0, none⟩ = false) :
    Calls Tryz.prog 113 #[.pointer (some ⟨b, 0, none⟩)] w fun e w' => e = .returned (.tuple #[]) ∧ w' = w.setCell ⟨b, 0, none⟩ (.pointer (some ⟨b, 0, none⟩)) := by
  obtain ⟨j, hj, hjs⟩ := Option.map_eq_some_iff.1 size_b
  go_enter Tryz.func113, Tryz.ntmps113
  go_wp2
  rw [Lib.run_to_unsafe w ⟨b, 0, none⟩ Tryz.underlying101 Tryz.underlying122 hj (by rw [hjs]; decide) hsh (Nat.zero_lt_succ 1)]
  simp only [Result.andThen]
  rw [Oper.upon_value]
  go_wp2
  rw [run_callFunc_extern Tryz.func122 (by kernel_rfl) (by kernel_rfl) (by kernel_rfl) (e := Extern.AbiNoEscape.same) (by kernel_rfl)]
  rw [Lib.run_noEscape]
  simp only [Result.andThen]
  rw [Oper.upon_value]
  go_wp2
  rw [Lib.run_from_unsafe w ⟨b, 0, none⟩ Tryz.underlying122 Tryz.underlying101 hj hsh lies_b]
  simp only [Result.andThen]
  rw [Oper.upon_value]
  go_wp2
  go_end0
  exact ⟨rfl, rfl⟩

/-- A builder in block b, of the call's own from B on, that holds these octets. -/
abbrev Is (B b : Nat) (l : List Value) (w : World) : Prop := Lib.IsBuilder 103 5 B b l w
/-- Every block but b and but rows of octets. -/
abbrev Others (b : Nat) (w w' : World) : Prop := Lib.OthersKept 5 (some b) w w'

theorem check_c (B b : Nat) (l : List Value) (w : World) (h : Is B b l w) :
    Calls Tryz.prog 113 #[.pointer (some ⟨b, 0, none⟩)] w fun e w' => e = .returned (.tuple #[]) ∧ Lib.BuilderAt 103 5 B b (.pointer (some ⟨b, 0, none⟩)) l w' ∧ Below B w w' ∧ Others b w w' := by
  rcases h with h | h
  · refine (check_fresh b w h.cell0 h.shape h.frozen0).mono ?_
    rintro e w' ⟨rfl, rfl⟩
    exact ⟨rfl, h.used _, (Below.refl B w).setCell (p := ⟨b, 0, none⟩) h.1 _, (Lib.OthersKept.refl _ _ w).setCell ⟨b, 0, none⟩ rfl _⟩
  · refine (check_used b w h.cell0).mono ?_
    rintro e w' ⟨rfl, rfl⟩
    exact ⟨rfl, h, Below.refl B _, Lib.OthersKept.refl _ _ _⟩

set_option maxHeartbeats 2000000 in
set_option maxRecDepth 100000 in
theorem write_c (B b : Nat) (l : List Value) (s : ByteArray) (w : World) (h : Is B b l w) (hlen : l.length + s.size ≤ 140737488355328) (hBw : B ≤ w.heap.size) :
    Calls Tryz.prog 97 #[.pointer (some ⟨b, 0, none⟩), .string s] w fun e w' => e = .returned (.tuple #[.int .i64 s.size, .nilIface]) ∧ Is B b (l ++ Lib.strCells s) w' ∧ Below B w w' ∧ Others b w w' := by
  obtain ⟨i0, hi, hz0, hz1, hz2⟩ := info_parts info_o
  have e42 : ∀ args w, (callFunc 113 args).run Tryz.prog w = .ok (.enter 113 args) w := enters_of Tryz.func113 (by kernel_rfl) rfl
  go_enter Tryz.func97, Tryz.ntmps97
  go_wp2_with (go_at_fn 113; refine (check_c B b l _ h).mono ?_)
  rintro e w1 ⟨rfl, h1, hb1, hk1⟩
  obtain ⟨hB, v, hbk, hown, hne⟩ := h1
  have c0 : w1.cell? ⟨b, 0, none⟩ = some (.pointer (some ⟨b, 0, none⟩)) := by rw [Lib.cell_of_heap hbk]; rfl
  have c1 : w1.cell? ⟨b, 1, none⟩ = some v := by rw [Lib.cell_of_heap hbk]; rfl
  go_wp2_with (at_builtin; refine Lib.wpList_append_own_string _ rfl _ _ 44 9 rfl B 5 i0 Tryz.underlying44 Tryz.underlying9 hi hz0 hz1 hz2 _ _ _ rfl hown s rfl ?c3 ?c4 ?c5 ?_)
  case c3 => unfold maxLen; omega
  case c4 => omega
  case c5 => have := hb1.size; omega
  intro v' w2 hown' hgrow _
  have hlt : b < w1.heap.size := (Array.getElem?_eq_some_iff.1 hbk).1
  have hb2 : w2.heap[b]? = some (.cells #[.pointer (some ⟨b, 0, none⟩), v] 103 (0, 0)) := by
    rw [hgrow.block b hlt (fun e => hne e.symm)]
    exact hbk
  have d0 : w2.cell? ⟨b, 0, none⟩ = some (.pointer (some ⟨b, 0, none⟩)) := by rw [Lib.cell_of_heap hb2]; rfl
  have d1 : w2.cell? ⟨b, 1, none⟩ = some v := by rw [Lib.cell_of_heap hb2]; rfl
  have f1 : w2.frozen? ⟨b, 1, none⟩ = false := Lib.frozen_of_heap hb2 1
  obtain ⟨ao, n', cap, rfl⟩ : ∃ ao n' cap, v' = .slice ao n' cap := by
    rcases hown'.2 with ⟨hv, _⟩ | ⟨g, cap, cur, hv, _⟩
    · exact ⟨_, _, _, hv⟩
    · exact ⟨_, _, _, hv⟩
  have hrow : ∀ g, v.ownBlock = some g → ∃ c fz, w1.heap[g]? = some (.cells c 5 fz) := by
    intro g hg
    rcases hown.2 with ⟨hv, _⟩ | ⟨g', cap', cur, hv, _, hc, _⟩
    · rw [hv] at hg; cases hg
    · rw [hv] at hg; cases hg; exact ⟨_, _, hc⟩
  go_wp2
  go_ret2
  refine ⟨rfl, ?_, ?_, (hk1.grown hgrow hrow).setCell ⟨b, 1, none⟩ rfl _⟩
  · exact .inr (Lib.BuilderAt.put (T := 103) (e := 5) hB hb2 (bs' := l ++ Lib.strCells s) (by simpa [Lib.strCells_length] using hown') (by decide))
  · exact (hb1.grown hgrow (by have := hb1.size; omega) (fun k hk => (hown.lt k hk).1)).setCell (p := ⟨b, 1, none⟩) hB _
end Go.Proofs.YtganmmkdcaphfaaGreatDoor.Build
