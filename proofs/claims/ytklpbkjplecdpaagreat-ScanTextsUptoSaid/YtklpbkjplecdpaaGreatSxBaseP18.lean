/-
  Part 18: ScwElem.
-/
import Derived.Test.YtklpbkjplecdpaaGreatSxBaseP17
import Derived.Deep.RegionHeld3
import Derived.Deep.DrawnRows
import Derived.BigQuiet
/-
  Contract of the walker of package scan within an element that just its end tag ends.
-/
namespace Go.Proofs.YtklpbkjplecdpaaGreat.Scw
open Go.RowKit Oct Crf Scn Tab Tok

theorem endsTagName_c (c : UInt8) (R : Nat) (s : Sc) (w : World) (h : Wk R 47 (Octet c) s w) :
    Calls Tryz.prog 90 #[.pointer (some ⟨R, 0, none⟩)] w fun e w' => e = .returned (.bool (endB c)) ∧ w = w' := by
  have c8 := h.last
  have hl := blank_at c
  have e47 : ((c.toNat : Int) == 47) = decide (c = 47) := eq_u8 c 47 (by decide)
  have e62 : ((c.toNat : Int) == 62) = decide (c = 62) := eq_u8 c 62 (by decide)
  have b47 : (c == 47) = decide (c = 47) := by rw [Bool.eq_iff_iff, beq_iff_eq, decide_eq_true_iff]
  have b62 : (c == 62) = decide (c = 62) := by rw [Bool.eq_iff_iff, beq_iff_eq, decide_eq_true_iff]
  have E : Hid (endB c = (blB c || c == 47 || c == 62)) := by show _ = _; rfl
  rw [b47, b62] at E
  clear h b47 b62
  generalize endB c = r at E ⊢
  generalize blB c = b at hl E
  generalize decide (c = 47) = x at e47 E
  generalize decide (c = 62) = y at e62 E
  have E := E.out
  subst E
  cases b <;> cases x <;> cases y
  all_goals go_enter Tryz.func90, Tryz.ntmps90
  all_goals go_wp2_with (go_at_call 79; refine (hl _).mono ?_; rintro e w' ⟨rfl, rfl⟩)
  all_goals go_ret
  all_goals exact ⟨rfl, rfl⟩

set_option maxHeartbeats 2000000 in
set_option maxRecDepth 100000 in
theorem askElement_c (c : UInt8) (R : Nat) (s : Sc) (he : s.e.length ≤ 32) (hp : s.p.length ≤ 34) (hr16 : s.r.length ≤ 16) (hg : Scn.Good (s.n, s.w))
    (hrec : s.p ≠ [] → ∀ u, folS (rulN s) s.p { s with p := [] } = .ok u → ∀ W, Wk R 47 (Octet c) u W → Calls Tryz.prog 23 #[.pointer (some ⟨R, 0, none⟩)] W (AskTo R c W (elm0 u c))) (w : World) (h : Wk R 47 (Octet c) s w) :
    Calls Tryz.prog 51 #[.pointer (some ⟨R, 0, none⟩)] w (AskTo R c w (elmC s c)) := by
  have HS : Hid (∀ W, Below w.heap.size w W → Calls Tryz.prog 84 #[.pointer (some ⟨R, 0, none⟩)] W fun e w' => e = .returned (.string (S [c])) ∧ Below W.heap.size W w') := fun W hb => said_c c R 47 _ _ _ _ _ _ _ _ W (h.keep hb)
  have HZ : Hid (∀ W, Below w.heap.size w W → W.cell? ⟨R, 4, none⟩ = some (.string (S s.p)) ∧ W.cell? ⟨R, 1, none⟩ = some (.string (S s.e)) ∧ W.cell? ⟨R, 0, none⟩ = some (.int .i64 (s.k : Int)) ∧ W.frozen? ⟨R, 4, none⟩ = false ∧ W.frozen? ⟨R, 5, none⟩ = false ∧ W.cell? ⟨R, 5, none⟩ = some (.string (S s.r))) := fun W hb => by
    have g := h.keep hb
    exact ⟨g.cells.2.2.2.2.1, g.cells.2.1, g.cells.1, g.froz.2.2.2.2.1, g.froz.2.2.2.2.2.1, g.cells.2.2.2.2.2.1⟩
  have HWk : Hid (∀ W, Below w.heap.size w W → Wk R 47 (Octet c) s W) := fun W hb => h.keep hb
  have HB2 : Hid (∀ W, Below w.heap.size w W → AskTo R c w (.ok { s with p := s.p ++ [c], r := [] }) (.returned (.tuple #[])) ((W.setCell ⟨R, 4, none⟩ (.string (S (s.p ++ [c])))).setCell ⟨R, 5, none⟩ (.string ⟨#[]⟩))) :=
    fun W hb => To.ok (((Keeps.of hb).trans (Keeps.set W _)).trans (Keeps.set _ _)) (set_ref (set_pend (h.keep hb) _) [])
  have HPn : Hid (∀ W, Below w.heap.size w W → Wk R 47 (Octet c) { s with p := [] } (W.setCell ⟨R, 4, none⟩ (.string ⟨#[]⟩)) ∧ Keeps R w (W.setCell ⟨R, 4, none⟩ (.string ⟨#[]⟩))) := fun W hb => ⟨set_pend (h.keep hb) [], (Keeps.of hb).trans (Keeps.set W _)⟩
  have hrul : rulN { s with p := [] } = rulN s := rul_keeps ⟨rfl, rfl, rfl⟩
  have HFm : Hid (∀ W, Wk R 47 (Octet c) { s with p := [] } W → Calls Tryz.prog 83 #[.pointer (some ⟨R, 0, none⟩), .string (S s.p)] W (To R 47 (Octet c) W (folS (rulN s) s.p { s with p := [] }))) := fun W g => by
    have q := follow_c s.p (by omega) R 47 (Octet c) { s with p := [] } hg W g
    rw [hrul] at q
    exact q
  have HEo : Hid (∀ W, Wk R 47 (Octet c) s W → Calls Tryz.prog 74 #[.pointer (some ⟨R, 0, none⟩), .int .i64 4, .string (S (47 :: s.e))] W fun e w' => e = .returned (.tuple #[]) ∧ Wk R 47 (Octet c) (scK 4 (47 :: s.e)) w' ∧ Keeps R W w') := fun W g => enterOfS_c 4 4 rfl (47 :: s.e) R _ _ s W g
  have HAn : Hid (∀ W, Wk R 47 (Octet c) (scK 4 (47 :: s.e)) W → Calls Tryz.prog 23 #[.pointer (some ⟨R, 0, none⟩)] W (AskTo R c W (nameC (scK 4 (47 :: s.e)) c))) := fun W g => ask4_c c R (scK 4 (47 :: s.e)) rfl _ W g (askTagName_c c R _ (by simp; omega) W g)
  have HEn : Hid (∀ W, Wk R 47 (Octet c) s W → Calls Tryz.prog 90 #[.pointer (some ⟨R, 0, none⟩)] W fun e w' => e = .returned (.bool (endB c)) ∧ W = w') := fun W g => endsTagName_c c R s W g
  have HRf : Hid (∀ W, Wk R 47 (Octet c) s W → Calls Tryz.prog 71 #[.pointer (some ⟨R, 0, none⟩)] W (RefTo R c W (refC s c))) := fun W g => refers_c c R s hr16 hg W g
  have HFo := Lib.hid (folC_c R c s hg)
  have HSd := Lib.hid (saidC_c R c s)
  have hst := fun w => starts_c (S (60 :: 47 :: s.e)) (S (s.p ++ [c])) w (by rw [size_S, List.length_append, List.length_singleton]; omega)
  rw [list_S, list_S] at hst
  have hpr : ∀ w, Calls Tryz.prog 88 #[.string ⟨#[60, 33, 45, 45]⟩, .string (S (s.p ++ [c]))] w fun e w' => e = .returned (.bool (preL (s.p ++ [c]) [60, 33, 45, 45])) ∧ w' = w := fun w => Mks.pre_c (s.p ++ [c]) [60, 33, 45, 45] w
  have hl1 := fun w => lower_c (S s.p) w (by rw [size_S]; omega)
  have hl2 := fun w => lower_c (S (60 :: 47 :: s.e)) w (by rw [size_S]; simp; omega)
  rw [list_S] at hl1 hl2
  have hy := demand_yes
  have hn := demand_no
  have ha : S s.p ++ S [c] = S (s.p ++ [c]) := S_append _ _
  have hb0 : (⟨#[60, 47]⟩ : ByteArray) ++ S s.e = S (60 :: 47 :: s.e) := S_append [60, 47] s.e
  have hb1 : (⟨#[47]⟩ : ByteArray) ++ S s.e = S (47 :: s.e) := S_append [47] s.e
  have z1 : ¬ (9223372036854775807 < (S s.p).size + (S [c]).size) := by rw [size_S, size_S]; simp; omega
  have z2 : ¬ (9223372036854775807 < 2 + (S s.e).size) := by rw [size_S]; omega
  have z3 : ¬ (9223372036854775807 < 1 + (S s.e).size) := by rw [size_S]; omega
  have z4 : (S s.e).size ≤ 32 := by rw [size_S]; exact he
  have k1 : ((s.k : Int) != 19) = decide (s.k ≠ 19) := by rw [Bool.eq_iff_iff, bne_iff_ne, decide_eq_true_iff]; omega
  have k2 : ((s.k : Int) == 19) = decide (s.k = 19) := by rw [Bool.eq_iff_iff, beq_iff_eq, decide_eq_true_iff]; omega
  have k3 : ((s.k : Int) == 17) = decide (s.k = 17) := by rw [Bool.eq_iff_iff, beq_iff_eq, decide_eq_true_iff]; omega
  have qr : ((S (s.p ++ [c])).toList == [60, 33, 45, 45]) = decide (s.p ++ [c] = [60, 33, 45, 45]) := eqT _ _
  have qe : ((S (s.p.map low)).toList == (S ((60 :: 47 :: s.e).map low)).toList) = decide (s.p.map low = (60 :: 47 :: s.e).map low) := by rw [ByteArray.toList_eq, ByteArray.toList_eq, Bool.eq_iff_iff, beq_iff_eq, decide_eq_true_iff]
  have qp : ((S s.p).toList == []) = decide (s.p = []) := eqT _ _
  have hsz : ((S (s.p ++ [c])).size : Int) = ((s.p ++ [c]).length : Int) := by rw [size_S]
  have E : Hid (elmC s c = if s.k = 19 ∧ s.p ++ [c] = [60, 33, 45, 45] then .error 94
    else if startsB (60 :: 47 :: s.e) (s.p ++ [c]) = true ∨ (s.k = 19 ∧ preL (s.p ++ [c]) [60, 33, 45, 45] = true) then (if (s.p ++ [c]).length ≤ 34 then .ok { s with p := s.p ++ [c], r := [] } else .error 5)
    else if s.p.map low = (60 :: 47 :: s.e).map low ∧ endB c = true then nameC (scK 4 (47 :: s.e)) c
    else if s.p ≠ [] then andThen (folS (rulN s) s.p { s with p := [] }) fun u => elm0 u c
    else if s.k = 17 then thenR (refC s c) fun u _ => .ok u else folS (rulN s) [c] s) := by show _ = _; rfl
  have hleI : (s.p ++ [c]).length ≤ 34 → ((s.p ++ [c]).length : Int) ≤ 34 := fun g => by omega
  have hlen : (startsB (60 :: 47 :: s.e) (s.p ++ [c]) = true ∨ preL (s.p ++ [c]) [60, 33, 45, 45] = true) → (s.p ++ [c]).length ≤ 34 := by
    rintro (g | g)
    · unfold startsB at g
      rw [Bool.and_eq_true, decide_eq_true_iff] at g
      have := g.1
      simp at this ⊢
      omega
    · have g := (of_decide_eq_true g).length_le
      simp at g ⊢
      omega
  have heq : s.p.map low = (60 :: 47 :: s.e).map low → s.p ≠ [] := fun g q => by rw [q] at g; cases g
  have H0 := Lib.hid ((Below.refl w.heap.size w).drew)
  have Hrec := Lib.hid hrec
  clear h hg hr16 hp he hrul hrec
  generalize elmC s c = res at E ⊢
  generalize S (s.p.map low) = XL at *
  generalize S ((60 :: 47 :: s.e).map low) = EL at *
  generalize S (60 :: 47 :: s.e) = ET at *
  generalize S (47 :: s.e) = SE at *
  generalize S (s.p ++ [c]) = PD at *
  generalize S [c] = Y at *
  generalize S s.p = X at *
  generalize S s.e = EE at *
  generalize nameC (scK 4 (47 :: s.e)) c = nm at HAn E
  generalize endB c = bE at HEn E
  have E := E.out
  generalize (s.k : Int) = KI at *
  generalize ((s.p ++ [c]).length : Int) = LN at *
  obtain ⟨o4, o1, -⟩ := HZ.out _ H0.out
  by_cases h19 : s.k = 19
  · rw [decide_eq_false (fun g => g h19)] at k1
    rw [decide_eq_true h19] at k2
    by_cases hrem : s.p ++ [c] = [60, 33, 45, 45]
    · rw [decide_eq_true hrem] at qr
      rw [if_pos ⟨h19, hrem⟩] at E
      have ER := Lib.hid E
      clear E hrem h19 hlen heq hleI
      go_enter Tryz.func51, Tryz.ntmps51
      go_wp2_with fail
      go_region_held3 (fun w' => w'.cell? ⟨R, 4, none⟩ = some (.string X) ∧ w'.cell? ⟨R, 1, none⟩ = some (.string EE)) (first | with_reducible exact ⟨o4, o1⟩ | with_reducible exact ⟨d4, d1⟩ | fail)
        (first
          | (go_at_call 84; refine (HS.out _ H0.out).mono ?_; rintro e w1 ⟨rfl, hb1⟩; have HB := Lib.hid (H0.out.trans (hb1.mono H0.out.size)); obtain ⟨d4, d1, d0, -⟩ := HZ.out _ HB.out; clear hb1)
          | fail)
      go_wp2_with fail
      refine (hn _ _).mono ?_
      rintro e w2 ⟨rfl, rfl⟩
      have q := To.err (T := 47) (tl := Octet c) (n := 94) (Keeps.of (R := R) HB.out)
      rw [← ER.out] at q
      exact ⟨rfl, q⟩
    · rw [decide_eq_false hrem] at qr
      rw [if_neg (fun g => hrem g.2)] at E
      by_cases hs : startsB (60 :: 47 :: s.e) (s.p ++ [c]) = true
      · have hle := hlen (.inl hs)
        have hle2 := hleI hle
        rw [if_pos (.inl hs), if_pos hle] at E
        rw [hs] at hst
        have ER := Lib.hid E
        clear E hrem h19 hlen heq hleI hs hle
        go_enter Tryz.func51, Tryz.ntmps51
        go_wp2_with fail
        go_region_held3 (fun w' => w'.cell? ⟨R, 4, none⟩ = some (.string X) ∧ w'.cell? ⟨R, 1, none⟩ = some (.string EE)) (first | with_reducible exact ⟨o4, o1⟩ | with_reducible exact ⟨d4, d1⟩ | fail)
          (first
            | (go_at_call 84; refine (HS.out _ H0.out).mono ?_; rintro e w1 ⟨rfl, hb1⟩; have HB := Lib.hid (H0.out.trans (hb1.mono H0.out.size)); obtain ⟨d4, d1, d0, -⟩ := HZ.out _ HB.out; clear hb1)
            | fail)
        go_wp2_with fail
        refine (hy _ _).mono ?_
        rintro e w2 ⟨rfl, rfl⟩
        go_wp2_with fail
        refine (hst _).mono ?_
        rintro e w3 ⟨rfl, hb3⟩
        have HB3 := Lib.hid (HB.out.trans (hb3.mono HB.out.size))
        obtain ⟨f4, f1, f0, g4, g5, f5⟩ := HZ.out _ HB3.out
        clear hb3 d4 d1 d0
        go_wp2_with fail
        refine (hy _ _).mono ?_
        rintro e w5 ⟨rfl, rfl⟩
        go_wp2_with fail
        go_end0
        have q := HB2.out _ HB3.out
        rw [← ER.out] at q
        exact q
      · by_cases hpre : preL (s.p ++ [c]) [60, 33, 45, 45] = true
        · have hle := hlen (.inr hpre)
          have hle2 := hleI hle
          rw [if_pos (.inr ⟨h19, hpre⟩), if_pos hle] at E
          rw [Bool.eq_false_iff.2 hs] at hst
          rw [hpre] at hpr
          have ER := Lib.hid E
          clear E hrem h19 hlen heq hleI hs hle hpre
          go_enter Tryz.func51, Tryz.ntmps51
          go_wp2_with fail
          go_region_held3 (fun w' => w'.cell? ⟨R, 4, none⟩ = some (.string X) ∧ w'.cell? ⟨R, 1, none⟩ = some (.string EE)) (first | with_reducible exact ⟨o4, o1⟩ | with_reducible exact ⟨d4, d1⟩ | fail)
            (first
              | (go_at_call 84; refine (HS.out _ H0.out).mono ?_; rintro e w1 ⟨rfl, hb1⟩; have HB := Lib.hid (H0.out.trans (hb1.mono H0.out.size)); obtain ⟨d4, d1, d0, -⟩ := HZ.out _ HB.out; clear hb1)
              | fail)
          go_wp2_with fail
          refine (hy _ _).mono ?_
          rintro e w2 ⟨rfl, rfl⟩
          go_wp2_with fail
          refine (hst _).mono ?_
          rintro e w3 ⟨rfl, hb3⟩
          have HB3 := Lib.hid (HB.out.trans (hb3.mono HB.out.size))
          obtain ⟨f4, f1, f0, g4, g5, f5⟩ := HZ.out _ HB3.out
          clear hb3 d4 d1 d0
          go_wp2_with fail
          refine (hpr _).mono ?_
          rintro e w4 ⟨rfl, rfl⟩
          go_wp2_with fail
          refine (hy _ _).mono ?_
          rintro e w5 ⟨rfl, rfl⟩
          go_wp2_with fail
          go_end0
          have q := HB2.out _ HB3.out
          rw [← ER.out] at q
          exact q
        · rw [if_neg (fun g => g.elim hs (fun q => hpre q.2))] at E
          rw [Bool.eq_false_iff.2 hs] at hst
          rw [Bool.eq_false_iff.2 hpre] at hpr
          clear hrem hlen hs hpre hleI
          by_cases heq1 : s.p.map low = (60 :: 47 :: s.e).map low
          · rw [decide_eq_true heq1] at qe
            have hne := heq heq1
            rw [decide_eq_false hne] at qp
            cases bE with
            | true =>
              rw [if_pos ⟨heq1, rfl⟩] at E
              have ER := Lib.hid E
              clear E heq1 hne heq Hrec
              go_enter Tryz.func51, Tryz.ntmps51
              go_wp2_with fail
              go_region_held3 (fun w' => w'.cell? ⟨R, 4, none⟩ = some (.string X) ∧ w'.cell? ⟨R, 1, none⟩ = some (.string EE)) (first | with_reducible exact ⟨o4, o1⟩ | with_reducible exact ⟨d4, d1⟩ | fail)
                (first
                  | (go_at_call 84; refine (HS.out _ H0.out).mono ?_; rintro e w1 ⟨rfl, hb1⟩; have HB := Lib.hid (H0.out.trans (hb1.mono H0.out.size)); obtain ⟨d4, d1, d0, -⟩ := HZ.out _ HB.out; clear hb1)
                  | fail)
              go_wp2_with fail
              refine (hy _ _).mono ?_
              rintro e w2 ⟨rfl, rfl⟩
              go_wp2_with fail
              refine (hst _).mono ?_
              rintro e w3 ⟨rfl, hb3⟩
              have HB3 := Lib.hid (HB.out.trans (hb3.mono HB.out.size))
              obtain ⟨f4, f1, f0, g4, g5, f5⟩ := HZ.out _ HB3.out
              clear hb3 d4 d1 d0
              go_wp2_with fail
              refine (hpr _).mono ?_
              rintro e w4 ⟨rfl, rfl⟩
              go_wp2_with fail
              refine (hl1 _).mono ?_
              rintro e w6 ⟨rfl, hb6⟩
              have HB6 := Lib.hid (HB3.out.trans (hb6.mono HB3.out.size))
              clear hb6
              go_wp2_with fail
              refine (hl2 _).mono ?_
              rintro e w7 ⟨rfl, hb7⟩
              have HB7 := Lib.hid (HB6.out.trans (hb7.mono HB6.out.size))
              obtain ⟨i4, i1, i0, j4, j5, i5⟩ := HZ.out _ HB7.out
              clear hb7 f4 f1 f0 g4 g5 f5
              go_wp2_with fail
              refine (HEn.out _ (HWk.out _ HB7.out)).mono ?_
              rintro e w8 ⟨rfl, rfl⟩
              go_wp2_with fail
              go_region_with (go_at_call 74; refine (HEo.out _ (HWk.out _ (HB7.out.trans ((Below.refl _ _).drew.mono HB7.out.size)))).mono ?_; rintro e w8 ⟨rfl, hw8, hk8⟩; have K8 := Lib.hid (And.intro hw8 ((Keeps.of (HB7.out.trans ((Below.refl _ _).drew.mono HB7.out.size))).trans hk8)); clear hw8 hk8)
              go_wp2_with fail
              have KL := Lib.hid K8.out.2
              refine (HAn.out _ K8.out.1).mono ?_
              intro e w9 h9
              have h3 := To.trans KL.out h9
              clear h9
              rw [← ER.out] at h3
              cases res with
              | error n =>
                obtain ⟨hk, rfl⟩ := h3
                exact ⟨rfl, To.err hk⟩
              | ok u =>
                obtain ⟨hk, rfl, hw⟩ := h3
                have K2 := Lib.hid (To.ok hk hw)
                clear hk hw
                go_wp2_with fail
                go_end0
                exact K2.out
            | false =>
              rw [if_neg (fun g => absurd g.2 (by decide)), if_pos hne] at E
              have HRe := Lib.hid (Hrec.out hne)
              generalize folS (rulN s) s.p { s with p := [] } = x at HFm HRe E
              have ER := Lib.hid E
              clear E heq1 hne heq Hrec
              go_enter Tryz.func51, Tryz.ntmps51
              go_wp2_with fail
              go_region_held3 (fun w' => w'.cell? ⟨R, 4, none⟩ = some (.string X) ∧ w'.cell? ⟨R, 1, none⟩ = some (.string EE)) (first | with_reducible exact ⟨o4, o1⟩ | with_reducible exact ⟨d4, d1⟩ | fail)
                (first
                  | (go_at_call 84; refine (HS.out _ H0.out).mono ?_; rintro e w1 ⟨rfl, hb1⟩; have HB := Lib.hid (H0.out.trans (hb1.mono H0.out.size)); obtain ⟨d4, d1, d0, -⟩ := HZ.out _ HB.out; clear hb1)
                  | fail)
              go_wp2_with fail
              refine (hy _ _).mono ?_
              rintro e w2 ⟨rfl, rfl⟩
              go_wp2_with fail
              refine (hst _).mono ?_
              rintro e w3 ⟨rfl, hb3⟩
              have HB3 := Lib.hid (HB.out.trans (hb3.mono HB.out.size))
              obtain ⟨f4, f1, f0, g4, g5, f5⟩ := HZ.out _ HB3.out
              clear hb3 d4 d1 d0
              go_wp2_with fail
              refine (hpr _).mono ?_
              rintro e w4 ⟨rfl, rfl⟩
              go_wp2_with fail
              refine (hl1 _).mono ?_
              rintro e w6 ⟨rfl, hb6⟩
              have HB6 := Lib.hid (HB3.out.trans (hb6.mono HB3.out.size))
              clear hb6
              go_wp2_with fail
              refine (hl2 _).mono ?_
              rintro e w7 ⟨rfl, hb7⟩
              have HB7 := Lib.hid (HB6.out.trans (hb7.mono HB6.out.size))
              obtain ⟨i4, i1, i0, j4, j5, i5⟩ := HZ.out _ HB7.out
              clear hb7 f4 f1 f0 g4 g5 f5
              go_wp2_with fail
              refine (HEn.out _ (HWk.out _ HB7.out)).mono ?_
              rintro e w8 ⟨rfl, rfl⟩
              go_wp2_with fail
              refine (HFm.out _ (HPn.out _ HB7.out).1).mono ?_
              rintro e w8 ⟨hk8, hx8⟩
              have KL := Lib.hid ((HPn.out _ HB7.out).2.trans hk8)
              clear hk8 i4 i1 i0 j4 j5 i5
              cases x with
              | error n =>
                subst hx8
                have er : res = .error n := ER.out
                have q := To.err (T := 47) (tl := Octet c) (n := n) KL.out
                rw [← er] at q
                exact ⟨rfl, q⟩
              | ok u =>
                obtain ⟨rfl, hw8⟩ := hx8
                have hq := HRe.out u rfl _ hw8
                have ER2 : Hid (res = elm0 u c) := ER.out
                clear hw8 HRe ER
                go_wp2_with fail
                refine hq.mono ?_
                intro e w9 h9
                have h3 := To.trans KL.out h9
                clear h9
                rw [← ER2.out] at h3
                cases res with
                | error n =>
                  obtain ⟨hk, rfl⟩ := h3
                  exact ⟨rfl, To.err hk⟩
                | ok u =>
                  obtain ⟨hk, rfl, hw⟩ := h3
                  have K2 := Lib.hid (To.ok hk hw)
                  clear hk hw
                  go_wp2_with fail
                  go_end0
                  exact K2.out
          · rw [decide_eq_false heq1] at qe
            rw [if_neg (fun g => heq1 g.1)] at E
            by_cases hne : s.p ≠ []
            · rw [decide_eq_false hne] at qp
              rw [if_pos hne] at E
              have HRe := Lib.hid (Hrec.out hne)
              generalize folS (rulN s) s.p { s with p := [] } = x at HFm HRe E
              have ER := Lib.hid E
              clear E heq1 hne heq Hrec
              go_enter Tryz.func51, Tryz.ntmps51
              go_wp2_with fail
              go_region_held3 (fun w' => w'.cell? ⟨R, 4, none⟩ = some (.string X) ∧ w'.cell? ⟨R, 1, none⟩ = some (.string EE)) (first | with_reducible exact ⟨o4, o1⟩ | with_reducible exact ⟨d4, d1⟩ | fail)
                (first
                  | (go_at_call 84; refine (HS.out _ H0.out).mono ?_; rintro e w1 ⟨rfl, hb1⟩; have HB := Lib.hid (H0.out.trans (hb1.mono H0.out.size)); obtain ⟨d4, d1, d0, -⟩ := HZ.out _ HB.out; clear hb1)
                  | fail)
              go_wp2_with fail
              refine (hy _ _).mono ?_
              rintro e w2 ⟨rfl, rfl⟩
              go_wp2_with fail
              refine (hst _).mono ?_
              rintro e w3 ⟨rfl, hb3⟩
              have HB3 := Lib.hid (HB.out.trans (hb3.mono HB.out.size))
              obtain ⟨f4, f1, f0, g4, g5, f5⟩ := HZ.out _ HB3.out
              clear hb3 d4 d1 d0
              go_wp2_with fail
              refine (hpr _).mono ?_
              rintro e w4 ⟨rfl, rfl⟩
              go_wp2_with fail
              refine (hl1 _).mono ?_
              rintro e w6 ⟨rfl, hb6⟩
              have HB6 := Lib.hid (HB3.out.trans (hb6.mono HB3.out.size))
              clear hb6
              go_wp2_with fail
              refine (hl2 _).mono ?_
              rintro e w7 ⟨rfl, hb7⟩
              have HB7 := Lib.hid (HB6.out.trans (hb7.mono HB6.out.size))
              obtain ⟨i4, i1, i0, j4, j5, i5⟩ := HZ.out _ HB7.out
              clear hb7 f4 f1 f0 g4 g5 f5
              go_wp2_with fail
              refine (HFm.out _ (HPn.out _ HB7.out).1).mono ?_
              rintro e w8 ⟨hk8, hx8⟩
              have KL := Lib.hid ((HPn.out _ HB7.out).2.trans hk8)
              clear hk8 i4 i1 i0 j4 j5 i5
              cases x with
              | error n =>
                subst hx8
                have er : res = .error n := ER.out
                have q := To.err (T := 47) (tl := Octet c) (n := n) KL.out
                rw [← er] at q
                exact ⟨rfl, q⟩
              | ok u =>
                obtain ⟨rfl, hw8⟩ := hx8
                have hq := HRe.out u rfl _ hw8
                have ER2 : Hid (res = elm0 u c) := ER.out
                clear hw8 HRe ER
                go_wp2_with fail
                refine hq.mono ?_
                intro e w9 h9
                have h3 := To.trans KL.out h9
                clear h9
                rw [← ER2.out] at h3
                cases res with
                | error n =>
                  obtain ⟨hk, rfl⟩ := h3
                  exact ⟨rfl, To.err hk⟩
                | ok u =>
                  obtain ⟨hk, rfl, hw⟩ := h3
                  have K2 := Lib.hid (To.ok hk hw)
                  clear hk hw
                  go_wp2_with fail
                  go_end0
                  exact K2.out
            · rw [decide_eq_true (Classical.byContradiction hne)] at qp
              rw [if_neg hne] at E
              have h17 : s.k ≠ 17 := by omega
              rw [decide_eq_false h17] at k3
              rw [if_neg h17] at E
              have ER := Lib.hid E
              clear E heq1 hne heq Hrec h17 h19
              go_enter Tryz.func51, Tryz.ntmps51
              go_wp2_with fail
              go_region_held3 (fun w' => w'.cell? ⟨R, 4, none⟩ = some (.string X) ∧ w'.cell? ⟨R, 1, none⟩ = some (.string EE)) (first | with_reducible exact ⟨o4, o1⟩ | with_reducible exact ⟨d4, d1⟩ | fail)
                (first
                  | (go_at_call 84; refine (HS.out _ H0.out).mono ?_; rintro e w1 ⟨rfl, hb1⟩; have HB := Lib.hid (H0.out.trans (hb1.mono H0.out.size)); obtain ⟨d4, d1, d0, -⟩ := HZ.out _ HB.out; clear hb1)
                  | fail)
              go_wp2_with fail
              refine (hy _ _).mono ?_
              rintro e w2 ⟨rfl, rfl⟩
              go_wp2_with fail
              refine (hst _).mono ?_
              rintro e w3 ⟨rfl, hb3⟩
              have HB3 := Lib.hid (HB.out.trans (hb3.mono HB.out.size))
              obtain ⟨f4, f1, f0, g4, g5, f5⟩ := HZ.out _ HB3.out
              clear hb3 d4 d1 d0
              go_wp2_with fail
              refine (hpr _).mono ?_
              rintro e w4 ⟨rfl, rfl⟩
              go_wp2_with fail
              refine (hl1 _).mono ?_
              rintro e w6 ⟨rfl, hb6⟩
              have HB6 := Lib.hid (HB3.out.trans (hb6.mono HB3.out.size))
              clear hb6
              go_wp2_with fail
              refine (hl2 _).mono ?_
              rintro e w7 ⟨rfl, hb7⟩
              have HB7 := Lib.hid (HB6.out.trans (hb7.mono HB6.out.size))
              obtain ⟨i4, i1, i0, j4, j5, i5⟩ := HZ.out _ HB7.out
              clear hb7 f4 f1 f0 g4 g5 f5
              go_wp2_with fail
              have KU := Lib.hid (And.intro (HWk.out _ HB7.out) (Keeps.of (R := R) HB7.out))
              have KUd := Lib.hid (And.intro (KU.out.1.keep ((Below.refl _ _).drew)) (KU.out.2.trans (Keeps.of ((Below.refl _ _).drew))))
              clear i4 i1 i0 j4 j5 i5
              cases res with
              | error n =>
                refine wp_region_held_drew (S := (fun _ => True)) (by kernel_rfl) trivial (fun hHeld => ?_)
                refine wpAnyH_take (i := 0) (v := ?_) rfl (by kernel_rfl) (by kernel_rfl) (by kernel_rfl) (fun _ _ _ h => h) (Or.inl ⟨by rfl, ?_⟩) (by assumption) ?_
                rotate_left
                · intro w hSw
                  try dsimp only at hSw
                  go_simp
                  try with_reducible rfl
                (try simp only [List.getElem_toArray, List.getElem_cons_zero, Act.put, List.setIfInBounds_toArray, List.set_cons_succ, List.set_cons_zero])
                refine wpAnyH_take (i := 1) (v := ?_) rfl (by kernel_rfl) (by kernel_rfl) (by kernel_rfl) (fun _ _ _ h => h) (Or.inl ⟨by rfl, ?_⟩) (by assumption) ?_
                rotate_left
                · intro w hSw
                  try dsimp only at hSw
                  go_simp
                  try with_reducible rfl
                (try simp only [List.getElem_toArray, List.getElem_cons_succ, List.getElem_cons_zero, Act.put, List.setIfInBounds_toArray, List.set_cons_succ, List.set_cons_zero])
                refine wpAnyH_take (i := 2) (v := ?_) rfl (by kernel_rfl) (by kernel_rfl) (by kernel_rfl) (fun _ _ _ h => h) (Or.inl ⟨by rfl, ?_⟩) (by assumption) ?_
                rotate_left
                · intro w hSw
                  try dsimp only at hSw
                  go_simp
                  try with_reducible rfl
                (try simp only [List.getElem_toArray, List.getElem_cons_succ, List.getElem_cons_zero, Act.put, List.setIfInBounds_toArray, List.set_cons_succ, List.set_cons_zero])
                refine wpAnyH_take (i := 3) (v := ?_) rfl (by kernel_rfl) (by kernel_rfl) (by kernel_rfl) (fun _ _ _ h => h) (Or.inl ⟨by rfl, ?_⟩) (by assumption) ?_
                rotate_left
                · intro w hSw
                  try dsimp only at hSw
                  go_simp
                  try with_reducible rfl
                (try simp only [List.getElem_toArray, List.getElem_cons_succ, List.getElem_cons_zero, Act.put, List.setIfInBounds_toArray, List.set_cons_succ, List.set_cons_zero])
                refine wpAnyH_ready (rs := [4]) (by kernel_rfl) (by simp) ?_
                refine AllReadyH.cons rfl (fun K hK => ?_) AllReadyH.nil
                go_simp
                refine (HSd.out _ KUd.out.1).mono ?_
                rintro e w8 ⟨rfl, hb8⟩
                have K5 := Lib.hid (And.intro (KUd.out.1.keep hb8) (KUd.out.2.trans (Keeps.of hb8)))
                clear hb8
                refine hK.out _ _ (by exact trivial) (fun hHeld => ?_)
                clear hK K
                (try simp only [List.getElem_toArray, List.getElem_cons_succ, List.getElem_cons_zero, Act.put, List.setIfInBounds_toArray, List.set_cons_succ, List.set_cons_zero])
                refine wpAnyH_ready (rs := [5]) (by kernel_rfl) (by simp) ?_
                refine AllReadyH.cons rfl (fun K hK => ?_) AllReadyH.nil
                go_simp
                refine (HFo.out _ K5.out.1).mono ?_
                rintro e w9 h6
                have h7 := To.trans K5.out.2 h6
                clear h6
                rw [← ER.out] at h7
                obtain ⟨hk, rfl⟩ := h7
                exact ⟨rfl, To.err hk⟩
              | ok v =>
                refine wp_region_held_drew (S := (fun _ => True)) (by kernel_rfl) trivial (fun hHeld => ?_)
                refine wpAnyH_take (i := 0) (v := ?_) rfl (by kernel_rfl) (by kernel_rfl) (by kernel_rfl) (fun _ _ _ h => h) (Or.inl ⟨by rfl, ?_⟩) (by assumption) ?_
                rotate_left
                · intro w hSw
                  try dsimp only at hSw
                  go_simp
                  try with_reducible rfl
                (try simp only [List.getElem_toArray, List.getElem_cons_zero, Act.put, List.setIfInBounds_toArray, List.set_cons_succ, List.set_cons_zero])
                refine wpAnyH_take (i := 1) (v := ?_) rfl (by kernel_rfl) (by kernel_rfl) (by kernel_rfl) (fun _ _ _ h => h) (Or.inl ⟨by rfl, ?_⟩) (by assumption) ?_
                rotate_left
                · intro w hSw
                  try dsimp only at hSw
                  go_simp
                  try with_reducible rfl
                (try simp only [List.getElem_toArray, List.getElem_cons_succ, List.getElem_cons_zero, Act.put, List.setIfInBounds_toArray, List.set_cons_succ, List.set_cons_zero])
                refine wpAnyH_take (i := 2) (v := ?_) rfl (by kernel_rfl) (by kernel_rfl) (by kernel_rfl) (fun _ _ _ h => h) (Or.inl ⟨by rfl, ?_⟩) (by assumption) ?_
                rotate_left
                · intro w hSw
                  try dsimp only at hSw
                  go_simp
                  try with_reducible rfl
                (try simp only [List.getElem_toArray, List.getElem_cons_succ, List.getElem_cons_zero, Act.put, List.setIfInBounds_toArray, List.set_cons_succ, List.set_cons_zero])
                refine wpAnyH_take (i := 3) (v := ?_) rfl (by kernel_rfl) (by kernel_rfl) (by kernel_rfl) (fun _ _ _ h => h) (Or.inl ⟨by rfl, ?_⟩) (by assumption) ?_
                rotate_left
                · intro w hSw
                  try dsimp only at hSw
                  go_simp
                  try with_reducible rfl
                (try simp only [List.getElem_toArray, List.getElem_cons_succ, List.getElem_cons_zero, Act.put, List.setIfInBounds_toArray, List.set_cons_succ, List.set_cons_zero])
                refine wpAnyH_ready (rs := [4]) (by kernel_rfl) (by simp) ?_
                refine AllReadyH.cons rfl (fun K hK => ?_) AllReadyH.nil
                go_simp
                refine (HSd.out _ KUd.out.1).mono ?_
                rintro e w8 ⟨rfl, hb8⟩
                have K5 := Lib.hid (And.intro (KUd.out.1.keep hb8) (KUd.out.2.trans (Keeps.of hb8)))
                clear hb8
                refine hK.out _ _ (by exact trivial) (fun hHeld => ?_)
                clear hK K
                (try simp only [List.getElem_toArray, List.getElem_cons_succ, List.getElem_cons_zero, Act.put, List.setIfInBounds_toArray, List.set_cons_succ, List.set_cons_zero])
                refine wpAnyH_ready (rs := [5]) (by kernel_rfl) (by simp) ?_
                refine AllReadyH.cons rfl (fun K hK => ?_) AllReadyH.nil
                go_simp
                refine (HFo.out _ K5.out.1).mono ?_
                rintro e w9 h6
                have h7 := To.trans K5.out.2 h6
                clear h6
                rw [← ER.out] at h7
                obtain ⟨hk, rfl, hw⟩ := h7
                have K7 := Lib.hid (To.ok hk hw)
                clear hk hw
                refine hK.out _ _ (by exact trivial) (fun hHeld => ?_)
                clear hK K
                (try simp only [List.getElem_toArray, List.getElem_cons_succ, List.getElem_cons_zero, Act.put, List.setIfInBounds_toArray, List.set_cons_succ, List.set_cons_zero])
                refine wpAnyH_done (by kernel_rfl) ?_ _
                go_wp2_with fail
                go_end0
                exact K7.out
  · rw [decide_eq_true h19] at k1
    rw [decide_eq_false h19] at k2
    rw [if_neg (fun g => h19 g.1)] at E
    by_cases hs : startsB (60 :: 47 :: s.e) (s.p ++ [c]) = true
    · have hle := hlen (.inl hs)
      have hle2 := hleI hle
      rw [if_pos (.inl hs), if_pos hle] at E
      rw [hs] at hst
      have ER := Lib.hid E
      clear E h19 hlen heq hs hle hleI
      go_enter Tryz.func51, Tryz.ntmps51
      go_wp2_with fail
      go_region_held3 (fun w' => w'.cell? ⟨R, 4, none⟩ = some (.string X) ∧ w'.cell? ⟨R, 1, none⟩ = some (.string EE)) (first | with_reducible exact ⟨o4, o1⟩ | with_reducible exact ⟨d4, d1⟩ | fail)
        (first
          | (go_at_call 84; refine (HS.out _ H0.out).mono ?_; rintro e w1 ⟨rfl, hb1⟩; have HB := Lib.hid (H0.out.trans (hb1.mono H0.out.size)); obtain ⟨d4, d1, d0, -⟩ := HZ.out _ HB.out; clear hb1)
          | fail)
      go_wp2_with fail
      refine (hy _ _).mono ?_
      rintro e w2 ⟨rfl, rfl⟩
      go_wp2_with fail
      refine (hst _).mono ?_
      rintro e w3 ⟨rfl, hb3⟩
      have HB3 := Lib.hid (HB.out.trans (hb3.mono HB.out.size))
      obtain ⟨f4, f1, f0, g4, g5, f5⟩ := HZ.out _ HB3.out
      clear hb3 d4 d1 d0
      go_wp2_with fail
      refine (hy _ _).mono ?_
      rintro e w5 ⟨rfl, rfl⟩
      go_wp2_with fail
      go_end0
      have q := HB2.out _ HB3.out
      rw [← ER.out] at q
      exact q
    · rw [if_neg (fun g => g.elim hs (fun q => h19 q.1))] at E
      rw [Bool.eq_false_iff.2 hs] at hst
      clear hlen hs hleI
      by_cases heq1 : s.p.map low = (60 :: 47 :: s.e).map low
      · rw [decide_eq_true heq1] at qe
        have hne := heq heq1
        rw [decide_eq_false hne] at qp
        cases bE with
        | true =>
          rw [if_pos ⟨heq1, rfl⟩] at E
          have ER := Lib.hid E
          clear E heq1 hne heq Hrec
          go_enter Tryz.func51, Tryz.ntmps51
          go_wp2_with fail
          go_region_held3 (fun w' => w'.cell? ⟨R, 4, none⟩ = some (.string X) ∧ w'.cell? ⟨R, 1, none⟩ = some (.string EE)) (first | with_reducible exact ⟨o4, o1⟩ | with_reducible exact ⟨d4, d1⟩ | fail)
            (first
              | (go_at_call 84; refine (HS.out _ H0.out).mono ?_; rintro e w1 ⟨rfl, hb1⟩; have HB := Lib.hid (H0.out.trans (hb1.mono H0.out.size)); obtain ⟨d4, d1, d0, -⟩ := HZ.out _ HB.out; clear hb1)
              | fail)
          go_wp2_with fail
          refine (hy _ _).mono ?_
          rintro e w2 ⟨rfl, rfl⟩
          go_wp2_with fail
          refine (hst _).mono ?_
          rintro e w3 ⟨rfl, hb3⟩
          have HB3 := Lib.hid (HB.out.trans (hb3.mono HB.out.size))
          obtain ⟨f4, f1, f0, g4, g5, f5⟩ := HZ.out _ HB3.out
          clear hb3 d4 d1 d0
          go_wp2_with fail
          refine (hl1 _).mono ?_
          rintro e w6 ⟨rfl, hb6⟩
          have HB6 := Lib.hid (HB3.out.trans (hb6.mono HB3.out.size))
          clear hb6
          go_wp2_with fail
          refine (hl2 _).mono ?_
          rintro e w7 ⟨rfl, hb7⟩
          have HB7 := Lib.hid (HB6.out.trans (hb7.mono HB6.out.size))
          obtain ⟨i4, i1, i0, j4, j5, i5⟩ := HZ.out _ HB7.out
          clear hb7 f4 f1 f0 g4 g5 f5
          go_wp2_with fail
          refine (HEn.out _ (HWk.out _ HB7.out)).mono ?_
          rintro e w8 ⟨rfl, rfl⟩
          go_wp2_with fail
          go_region_with (go_at_call 74; refine (HEo.out _ (HWk.out _ (HB7.out.trans ((Below.refl _ _).drew.mono HB7.out.size)))).mono ?_; rintro e w8 ⟨rfl, hw8, hk8⟩; have K8 := Lib.hid (And.intro hw8 ((Keeps.of (HB7.out.trans ((Below.refl _ _).drew.mono HB7.out.size))).trans hk8)); clear hw8 hk8)
          go_wp2_with fail
          have KL := Lib.hid K8.out.2
          refine (HAn.out _ K8.out.1).mono ?_
          intro e w9 h9
          have h3 := To.trans KL.out h9
          clear h9
          rw [← ER.out] at h3
          cases res with
          | error n =>
            obtain ⟨hk, rfl⟩ := h3
            exact ⟨rfl, To.err hk⟩
          | ok u =>
            obtain ⟨hk, rfl, hw⟩ := h3
            have K2 := Lib.hid (To.ok hk hw)
            clear hk hw
            go_wp2_with fail
            go_end0
            exact K2.out
        | false =>
          rw [if_neg (fun g => absurd g.2 (by decide)), if_pos hne] at E
          have HRe := Lib.hid (Hrec.out hne)
          generalize folS (rulN s) s.p { s with p := [] } = x at HFm HRe E
          have ER := Lib.hid E
          clear E heq1 hne heq Hrec
          go_enter Tryz.func51, Tryz.ntmps51
          go_wp2_with fail
          go_region_held3 (fun w' => w'.cell? ⟨R, 4, none⟩ = some (.string X) ∧ w'.cell? ⟨R, 1, none⟩ = some (.string EE)) (first | with_reducible exact ⟨o4, o1⟩ | with_reducible exact ⟨d4, d1⟩ | fail)
            (first
              | (go_at_call 84; refine (HS.out _ H0.out).mono ?_; rintro e w1 ⟨rfl, hb1⟩; have HB := Lib.hid (H0.out.trans (hb1.mono H0.out.size)); obtain ⟨d4, d1, d0, -⟩ := HZ.out _ HB.out; clear hb1)
              | fail)
          go_wp2_with fail
          refine (hy _ _).mono ?_
          rintro e w2 ⟨rfl, rfl⟩
          go_wp2_with fail
          refine (hst _).mono ?_
          rintro e w3 ⟨rfl, hb3⟩
          have HB3 := Lib.hid (HB.out.trans (hb3.mono HB.out.size))
          obtain ⟨f4, f1, f0, g4, g5, f5⟩ := HZ.out _ HB3.out
          clear hb3 d4 d1 d0
          go_wp2_with fail
          refine (hl1 _).mono ?_
          rintro e w6 ⟨rfl, hb6⟩
          have HB6 := Lib.hid (HB3.out.trans (hb6.mono HB3.out.size))
          clear hb6
          go_wp2_with fail
          refine (hl2 _).mono ?_
          rintro e w7 ⟨rfl, hb7⟩
          have HB7 := Lib.hid (HB6.out.trans (hb7.mono HB6.out.size))
          obtain ⟨i4, i1, i0, j4, j5, i5⟩ := HZ.out _ HB7.out
          clear hb7 f4 f1 f0 g4 g5 f5
          go_wp2_with fail
          refine (HEn.out _ (HWk.out _ HB7.out)).mono ?_
          rintro e w8 ⟨rfl, rfl⟩
          go_wp2_with fail
          refine (HFm.out _ (HPn.out _ HB7.out).1).mono ?_
          rintro e w8 ⟨hk8, hx8⟩
          have KL := Lib.hid ((HPn.out _ HB7.out).2.trans hk8)
          clear hk8 i4 i1 i0 j4 j5 i5
          cases x with
          | error n =>
            subst hx8
            have er : res = .error n := ER.out
            have q := To.err (T := 47) (tl := Octet c) (n := n) KL.out
            rw [← er] at q
            exact ⟨rfl, q⟩
          | ok u =>
            obtain ⟨rfl, hw8⟩ := hx8
            have hq := HRe.out u rfl _ hw8
            have ER2 : Hid (res = elm0 u c) := ER.out
            clear hw8 HRe ER
            go_wp2_with fail
            refine hq.mono ?_
            intro e w9 h9
            have h3 := To.trans KL.out h9
            clear h9
            rw [← ER2.out] at h3
            cases res with
            | error n =>
              obtain ⟨hk, rfl⟩ := h3
              exact ⟨rfl, To.err hk⟩
            | ok u =>
              obtain ⟨hk, rfl, hw⟩ := h3
              have K2 := Lib.hid (To.ok hk hw)
              clear hk hw
              go_wp2_with fail
              go_end0
              exact K2.out
      · rw [decide_eq_false heq1] at qe
        rw [if_neg (fun g => heq1 g.1)] at E
        by_cases hne : s.p ≠ []
        · rw [decide_eq_false hne] at qp
          rw [if_pos hne] at E
          have HRe := Lib.hid (Hrec.out hne)
          generalize folS (rulN s) s.p { s with p := [] } = x at HFm HRe E
          have ER := Lib.hid E
          clear E heq1 hne heq Hrec
          go_enter Tryz.func51, Tryz.ntmps51
          go_wp2_with fail
          go_region_held3 (fun w' => w'.cell? ⟨R, 4, none⟩ = some (.string X) ∧ w'.cell? ⟨R, 1, none⟩ = some (.string EE)) (first | with_reducible exact ⟨o4, o1⟩ | with_reducible exact ⟨d4, d1⟩ | fail)
            (first
              | (go_at_call 84; refine (HS.out _ H0.out).mono ?_; rintro e w1 ⟨rfl, hb1⟩; have HB := Lib.hid (H0.out.trans (hb1.mono H0.out.size)); obtain ⟨d4, d1, d0, -⟩ := HZ.out _ HB.out; clear hb1)
              | fail)
          go_wp2_with fail
          refine (hy _ _).mono ?_
          rintro e w2 ⟨rfl, rfl⟩
          go_wp2_with fail
          refine (hst _).mono ?_
          rintro e w3 ⟨rfl, hb3⟩
          have HB3 := Lib.hid (HB.out.trans (hb3.mono HB.out.size))
          obtain ⟨f4, f1, f0, g4, g5, f5⟩ := HZ.out _ HB3.out
          clear hb3 d4 d1 d0
          go_wp2_with fail
          refine (hl1 _).mono ?_
          rintro e w6 ⟨rfl, hb6⟩
          have HB6 := Lib.hid (HB3.out.trans (hb6.mono HB3.out.size))
          clear hb6
          go_wp2_with fail
          refine (hl2 _).mono ?_
          rintro e w7 ⟨rfl, hb7⟩
          have HB7 := Lib.hid (HB6.out.trans (hb7.mono HB6.out.size))
          obtain ⟨i4, i1, i0, j4, j5, i5⟩ := HZ.out _ HB7.out
          clear hb7 f4 f1 f0 g4 g5 f5
          go_wp2_with fail
          refine (HFm.out _ (HPn.out _ HB7.out).1).mono ?_
          rintro e w8 ⟨hk8, hx8⟩
          have KL := Lib.hid ((HPn.out _ HB7.out).2.trans hk8)
          clear hk8 i4 i1 i0 j4 j5 i5
          cases x with
          | error n =>
            subst hx8
            have er : res = .error n := ER.out
            have q := To.err (T := 47) (tl := Octet c) (n := n) KL.out
            rw [← er] at q
            exact ⟨rfl, q⟩
          | ok u =>
            obtain ⟨rfl, hw8⟩ := hx8
            have hq := HRe.out u rfl _ hw8
            have ER2 : Hid (res = elm0 u c) := ER.out
            clear hw8 HRe ER
            go_wp2_with fail
            refine hq.mono ?_
            intro e w9 h9
            have h3 := To.trans KL.out h9
            clear h9
            rw [← ER2.out] at h3
            cases res with
            | error n =>
              obtain ⟨hk, rfl⟩ := h3
              exact ⟨rfl, To.err hk⟩
            | ok u =>
              obtain ⟨hk, rfl, hw⟩ := h3
              have K2 := Lib.hid (To.ok hk hw)
              clear hk hw
              go_wp2_with fail
              go_end0
              exact K2.out
        · rw [decide_eq_true (Classical.byContradiction hne)] at qp
          rw [if_neg hne] at E
          by_cases h17 : s.k = 17
          · rw [decide_eq_true h17] at k3
            rw [if_pos h17] at E
            generalize refC s c = y at HRf E
            have ER := Lib.hid E
            clear E heq1 hne heq Hrec h17 h19
            go_enter Tryz.func51, Tryz.ntmps51
            go_wp2_with fail
            go_region_held3 (fun w' => w'.cell? ⟨R, 4, none⟩ = some (.string X) ∧ w'.cell? ⟨R, 1, none⟩ = some (.string EE)) (first | with_reducible exact ⟨o4, o1⟩ | with_reducible exact ⟨d4, d1⟩ | fail)
              (first
                | (go_at_call 84; refine (HS.out _ H0.out).mono ?_; rintro e w1 ⟨rfl, hb1⟩; have HB := Lib.hid (H0.out.trans (hb1.mono H0.out.size)); obtain ⟨d4, d1, d0, -⟩ := HZ.out _ HB.out; clear hb1)
                | fail)
            go_wp2_with fail
            refine (hy _ _).mono ?_
            rintro e w2 ⟨rfl, rfl⟩
            go_wp2_with fail
            refine (hst _).mono ?_
            rintro e w3 ⟨rfl, hb3⟩
            have HB3 := Lib.hid (HB.out.trans (hb3.mono HB.out.size))
            obtain ⟨f4, f1, f0, g4, g5, f5⟩ := HZ.out _ HB3.out
            clear hb3 d4 d1 d0
            go_wp2_with fail
            refine (hl1 _).mono ?_
            rintro e w6 ⟨rfl, hb6⟩
            have HB6 := Lib.hid (HB3.out.trans (hb6.mono HB3.out.size))
            clear hb6
            go_wp2_with fail
            refine (hl2 _).mono ?_
            rintro e w7 ⟨rfl, hb7⟩
            have HB7 := Lib.hid (HB6.out.trans (hb7.mono HB6.out.size))
            obtain ⟨i4, i1, i0, j4, j5, i5⟩ := HZ.out _ HB7.out
            clear hb7 f4 f1 f0 g4 g5 f5
            go_wp2_with fail
            refine (HRf.out _ (HWk.out _ HB7.out)).mono ?_
            rintro e w8 ⟨hk8, hx8⟩
            have KL := Lib.hid ((Keeps.of HB7.out).trans hk8)
            clear hk8 i4 i1 i0 j4 j5 i5
            cases y with
            | error n =>
              subst hx8
              have er : res = .error n := ER.out
              have q := To.err (T := 47) (tl := Octet c) (n := n) KL.out
              rw [← er] at q
              exact ⟨rfl, q⟩
            | ok pr =>
              obtain ⟨rfl, hw8⟩ := hx8
              have er : res = .ok pr.1 := ER.out
              have K2 := Lib.hid (To.ok KL.out hw8)
              rw [← er] at K2
              clear hw8 er
              go_wp2_with fail
              go_end0
              exact K2.out
          · rw [decide_eq_false h17] at k3
            rw [if_neg h17] at E
            have ER := Lib.hid E
            clear E heq1 hne heq Hrec h17 h19
            go_enter Tryz.func51, Tryz.ntmps51
            go_wp2_with fail
            go_region_held3 (fun w' => w'.cell? ⟨R, 4, none⟩ = some (.string X) ∧ w'.cell? ⟨R, 1, none⟩ = some (.string EE)) (first | with_reducible exact ⟨o4, o1⟩ | with_reducible exact ⟨d4, d1⟩ | fail)
              (first
                | (go_at_call 84; refine (HS.out _ H0.out).mono ?_; rintro e w1 ⟨rfl, hb1⟩; have HB := Lib.hid (H0.out.trans (hb1.mono H0.out.size)); obtain ⟨d4, d1, d0, -⟩ := HZ.out _ HB.out; clear hb1)
                | fail)
            go_wp2_with fail
            refine (hy _ _).mono ?_
            rintro e w2 ⟨rfl, rfl⟩
            go_wp2_with fail
            refine (hst _).mono ?_
            rintro e w3 ⟨rfl, hb3⟩
            have HB3 := Lib.hid (HB.out.trans (hb3.mono HB.out.size))
            obtain ⟨f4, f1, f0, g4, g5, f5⟩ := HZ.out _ HB3.out
            clear hb3 d4 d1 d0
            go_wp2_with fail
            refine (hl1 _).mono ?_
            rintro e w6 ⟨rfl, hb6⟩
            have HB6 := Lib.hid (HB3.out.trans (hb6.mono HB3.out.size))
            clear hb6
            go_wp2_with fail
            refine (hl2 _).mono ?_
            rintro e w7 ⟨rfl, hb7⟩
            have HB7 := Lib.hid (HB6.out.trans (hb7.mono HB6.out.size))
            obtain ⟨i4, i1, i0, j4, j5, i5⟩ := HZ.out _ HB7.out
            clear hb7 f4 f1 f0 g4 g5 f5
            go_wp2_with fail
            have KU := Lib.hid (And.intro (HWk.out _ HB7.out) (Keeps.of (R := R) HB7.out))
            have KUd := Lib.hid (And.intro (KU.out.1.keep ((Below.refl _ _).drew)) (KU.out.2.trans (Keeps.of ((Below.refl _ _).drew))))
            clear i4 i1 i0 j4 j5 i5
            cases res with
            | error n =>
              refine wp_region_held_drew (S := (fun _ => True)) (by kernel_rfl) trivial (fun hHeld => ?_)
              refine wpAnyH_take (i := 0) (v := ?_) rfl (by kernel_rfl) (by kernel_rfl) (by kernel_rfl) (fun _ _ _ h => h) (Or.inl ⟨by rfl, ?_⟩) (by assumption) ?_
              rotate_left
              · intro w hSw
                try dsimp only at hSw
                go_simp
                try with_reducible rfl
              (try simp only [List.getElem_toArray, List.getElem_cons_zero, Act.put, List.setIfInBounds_toArray, List.set_cons_succ, List.set_cons_zero])
              refine wpAnyH_take (i := 1) (v := ?_) rfl (by kernel_rfl) (by kernel_rfl) (by kernel_rfl) (fun _ _ _ h => h) (Or.inl ⟨by rfl, ?_⟩) (by assumption) ?_
              rotate_left
              · intro w hSw
                try dsimp only at hSw
                go_simp
                try with_reducible rfl
              (try simp only [List.getElem_toArray, List.getElem_cons_succ, List.getElem_cons_zero, Act.put, List.setIfInBounds_toArray, List.set_cons_succ, List.set_cons_zero])
              refine wpAnyH_take (i := 2) (v := ?_) rfl (by kernel_rfl) (by kernel_rfl) (by kernel_rfl) (fun _ _ _ h => h) (Or.inl ⟨by rfl, ?_⟩) (by assumption) ?_
              rotate_left
              · intro w hSw
                try dsimp only at hSw
                go_simp
                try with_reducible rfl
              (try simp only [List.getElem_toArray, List.getElem_cons_succ, List.getElem_cons_zero, Act.put, List.setIfInBounds_toArray, List.set_cons_succ, List.set_cons_zero])
              refine wpAnyH_take (i := 3) (v := ?_) rfl (by kernel_rfl) (by kernel_rfl) (by kernel_rfl) (fun _ _ _ h => h) (Or.inl ⟨by rfl, ?_⟩) (by assumption) ?_
              rotate_left
              · intro w hSw
                try dsimp only at hSw
                go_simp
                try with_reducible rfl
              (try simp only [List.getElem_toArray, List.getElem_cons_succ, List.getElem_cons_zero, Act.put, List.setIfInBounds_toArray, List.set_cons_succ, List.set_cons_zero])
              refine wpAnyH_ready (rs := [4]) (by kernel_rfl) (by simp) ?_
              refine AllReadyH.cons rfl (fun K hK => ?_) AllReadyH.nil
              go_simp
              refine (HSd.out _ KUd.out.1).mono ?_
              rintro e w8 ⟨rfl, hb8⟩
              have K5 := Lib.hid (And.intro (KUd.out.1.keep hb8) (KUd.out.2.trans (Keeps.of hb8)))
              clear hb8
              refine hK.out _ _ (by exact trivial) (fun hHeld => ?_)
              clear hK K
              (try simp only [List.getElem_toArray, List.getElem_cons_succ, List.getElem_cons_zero, Act.put, List.setIfInBounds_toArray, List.set_cons_succ, List.set_cons_zero])
              refine wpAnyH_ready (rs := [5]) (by kernel_rfl) (by simp) ?_
              refine AllReadyH.cons rfl (fun K hK => ?_) AllReadyH.nil
              go_simp
              refine (HFo.out _ K5.out.1).mono ?_
              rintro e w9 h6
              have h7 := To.trans K5.out.2 h6
              clear h6
              rw [← ER.out] at h7
              obtain ⟨hk, rfl⟩ := h7
              exact ⟨rfl, To.err hk⟩
            | ok v =>
              refine wp_region_held_drew (S := (fun _ => True)) (by kernel_rfl) trivial (fun hHeld => ?_)
              refine wpAnyH_take (i := 0) (v := ?_) rfl (by kernel_rfl) (by kernel_rfl) (by kernel_rfl) (fun _ _ _ h => h) (Or.inl ⟨by rfl, ?_⟩) (by assumption) ?_
              rotate_left
              · intro w hSw
                try dsimp only at hSw
                go_simp
                try with_reducible rfl
              (try simp only [List.getElem_toArray, List.getElem_cons_zero, Act.put, List.setIfInBounds_toArray, List.set_cons_succ, List.set_cons_zero])
              refine wpAnyH_take (i := 1) (v := ?_) rfl (by kernel_rfl) (by kernel_rfl) (by kernel_rfl) (fun _ _ _ h => h) (Or.inl ⟨by rfl, ?_⟩) (by assumption) ?_
              rotate_left
              · intro w hSw
                try dsimp only at hSw
                go_simp
                try with_reducible rfl
              (try simp only [List.getElem_toArray, List.getElem_cons_succ, List.getElem_cons_zero, Act.put, List.setIfInBounds_toArray, List.set_cons_succ, List.set_cons_zero])
              refine wpAnyH_take (i := 2) (v := ?_) rfl (by kernel_rfl) (by kernel_rfl) (by kernel_rfl) (fun _ _ _ h => h) (Or.inl ⟨by rfl, ?_⟩) (by assumption) ?_
              rotate_left
              · intro w hSw
                try dsimp only at hSw
                go_simp
                try with_reducible rfl
              (try simp only [List.getElem_toArray, List.getElem_cons_succ, List.getElem_cons_zero, Act.put, List.setIfInBounds_toArray, List.set_cons_succ, List.set_cons_zero])
              refine wpAnyH_take (i := 3) (v := ?_) rfl (by kernel_rfl) (by kernel_rfl) (by kernel_rfl) (fun _ _ _ h => h) (Or.inl ⟨by rfl, ?_⟩) (by assumption) ?_
              rotate_left
              · intro w hSw
                try dsimp only at hSw
                go_simp
                try with_reducible rfl
              (try simp only [List.getElem_toArray, List.getElem_cons_succ, List.getElem_cons_zero, Act.put, List.setIfInBounds_toArray, List.set_cons_succ, List.set_cons_zero])
              refine wpAnyH_ready (rs := [4]) (by kernel_rfl) (by simp) ?_
              refine AllReadyH.cons rfl (fun K hK => ?_) AllReadyH.nil
              go_simp
              refine (HSd.out _ KUd.out.1).mono ?_
              rintro e w8 ⟨rfl, hb8⟩
              have K5 := Lib.hid (And.intro (KUd.out.1.keep hb8) (KUd.out.2.trans (Keeps.of hb8)))
              clear hb8
              refine hK.out _ _ (by exact trivial) (fun hHeld => ?_)
              clear hK K
              (try simp only [List.getElem_toArray, List.getElem_cons_succ, List.getElem_cons_zero, Act.put, List.setIfInBounds_toArray, List.set_cons_succ, List.set_cons_zero])
              refine wpAnyH_ready (rs := [5]) (by kernel_rfl) (by simp) ?_
              refine AllReadyH.cons rfl (fun K hK => ?_) AllReadyH.nil
              go_simp
              refine (HFo.out _ K5.out.1).mono ?_
              rintro e w9 h6
              have h7 := To.trans K5.out.2 h6
              clear h6
              rw [← ER.out] at h7
              obtain ⟨hk, rfl, hw⟩ := h7
              have K7 := Lib.hid (To.ok hk hw)
              clear hk hw
              refine hK.out _ _ (by exact trivial) (fun hHeld => ?_)
              clear hK K
              (try simp only [List.getElem_toArray, List.getElem_cons_succ, List.getElem_cons_zero, Act.put, List.setIfInBounds_toArray, List.set_cons_succ, List.set_cons_zero])
              refine wpAnyH_done (by kernel_rfl) ?_ _
              go_wp2_with fail
              go_end0
              exact K7.out
theorem elm_nil {s : Sc} (hp : s.p = []) (c : UInt8) : elmC s c = elm0 s c := by
  unfold elmC
  rw [hp, List.nil_append, if_neg (by simp)]
  by_cases h60 : c = 60
  · have e : startsB (60 :: 47 :: s.e) [c] = true := by rw [starts_pre, h60]; simp [List.isPrefixOf]
    rw [if_pos (.inl e), if_pos (by simp)]
    unfold elm0
    rw [if_pos h60, h60]
  · have e : ¬ (startsB (60 :: 47 :: s.e) [c] = true ∨ (s.k = 19 ∧ preL [c] [60, 33, 45, 45] = true)) := by
      rintro (g | ⟨_, g⟩)
      · rw [starts_pre] at g
        have g : low c = low 60 := by simpa [List.isPrefixOf] using g
        have : ∀ k : Fin 256, low (UInt8.ofNat k.val) = low 60 → UInt8.ofNat k.val = 60 := by decide +kernel
        have h2 := this ⟨c.toNat, c.toNat_lt⟩
        simp only [UInt8.ofNat_toNat] at h2
        exact h60 (h2 g)
      · have g := of_decide_eq_true g
        rw [List.cons_prefix_cons] at g
        exact h60 g.1
    rw [if_neg e, if_neg (by simp), if_neg (by simp)]
    unfold elm0
    rw [if_neg h60]
end Go.Proofs.YtklpbkjplecdpaaGreat.Scw
