/-
  Part 17: ScwAsk3.
-/
import Derived.Test.YtklpbkjplecdpaaGreatSxBaseP16
/-
  Contracts of the walker of package scan: what begins a value, remarks, what is bogus, where a tag opens.
-/
namespace Go.Proofs.YtklpbkjplecdpaaGreat.Scw
open Go.RowKit Oct Crf Scn Tab Tok

set_option maxHeartbeats 1000000 in
set_option maxRecDepth 100000 in
theorem askBogus_c (c : UInt8) (R : Nat) (s : Sc) (w : World) (h : Wk R 47 (Octet c) s w) :
    Calls Tryz.prog 49 #[.pointer (some ⟨R, 0, none⟩)] w (AskTo R c w (bogC s c)) := by
  have c8 := h.last
  have e62 : ((c.toNat : Int) == 62) = decide (c = 62) := eq_u8 c 62 (by decide)
  have he := enterS_c 0 0 rfl R _ _ s w h
  have HW := Lib.hid h
  unfold bogC
  clear h
  by_cases h62 : c = 62
  · rw [if_pos h62]
    rw [decide_eq_true h62] at e62
    clear h62
    go_enter Tryz.func49, Tryz.ntmps49
    go_wp2_with fail
    refine he.mono ?_
    rintro e w2 ⟨rfl, hw2, hk2⟩
    have K2 := Lib.hid (To.ok hk2 hw2)
    clear hw2 hk2
    go_wp2_with fail
    go_end0
    exact K2.out
  · rw [if_neg h62]
    rw [decide_eq_false h62] at e62
    clear h62 he
    go_enter Tryz.func49, Tryz.ntmps49
    go_wp2_with fail
    go_end0
    exact To.ok (Keeps.refl R w) HW.out
set_option maxHeartbeats 1000000 in
set_option maxRecDepth 100000 in
theorem askMarkup_c (c : UInt8) (R : Nat) (s : Sc) (w : World) (h : Wk R 47 (Octet c) s w) :
    Calls Tryz.prog 48 #[.pointer (some ⟨R, 0, none⟩)] w (AskTo R c w (marC s c)) := by
  have c8 := h.last
  have c0 := h.cells.1
  have e45 : ((c.toNat : Int) != 45) = decide (c ≠ 45) := ne_u8 c 45 (by decide)
  have e13 : (((s.k : Nat) : Int) == 13) = decide (s.k = 13) := by rw [Bool.eq_iff_iff, beq_iff_eq, decide_eq_true_iff]; omega
  have hi := askIn_c 15 15 rfl c R s (bogC (entS 15 s) c) (fun W g => ask15_c c R (entS 15 s) rfl _ W g (askBogus_c c R _ W g)) w h
  have h14 := enterS_c 14 14 rfl R _ _ s w h
  have h16 := enterS_c 16 16 rfl R _ _ s w h
  unfold marC
  clear h
  by_cases h45 : c ≠ 45
  · rw [if_pos h45]
    rw [decide_eq_true h45] at e45
    clear h45 h14 h16 e13
    generalize bogC (entS 15 s) c = res at hi ⊢
    go_enter Tryz.func48, Tryz.ntmps48
    go_wp2_with fail
    refine hi.mono ?_
    intro e w2 h3
    clear hi
    cases res with
    | error n =>
      obtain ⟨hk, rfl⟩ := h3
      exact ⟨rfl, To.err hk⟩
    | ok u =>
      obtain ⟨hk, rfl, hw⟩ := h3
      have K2 := Lib.hid (To.ok hk hw)
      clear hk hw
      go_wp2_with fail
      go_end0
      exact K2.out
  · rw [if_neg h45]
    rw [decide_eq_false h45] at e45
    by_cases h13 : s.k = 13
    · rw [if_pos h13]
      rw [decide_eq_true h13] at e13
      clear h45 h13 hi h16
      go_enter Tryz.func48, Tryz.ntmps48
      go_wp2_with fail
      refine h14.mono ?_
      rintro e w2 ⟨rfl, hw2, hk2⟩
      have K2 := Lib.hid (To.ok hk2 hw2)
      clear hw2 hk2
      go_wp2_with fail
      go_end0
      exact K2.out
    · rw [if_neg h13]
      rw [decide_eq_false h13] at e13
      clear h45 h13 hi h14
      go_enter Tryz.func48, Tryz.ntmps48
      go_wp2_with fail
      refine h16.mono ?_
      rintro e w2 ⟨rfl, hw2, hk2⟩
      have K2 := Lib.hid (To.ok hk2 hw2)
      clear hw2 hk2
      go_wp2_with fail
      go_end0
      exact K2.out
set_option maxHeartbeats 1000000 in
set_option maxRecDepth 100000 in
theorem askComment_c (c : UInt8) (R : Nat) (s : Sc) (w : World) (h : Wk R 47 (Octet c) s w) :
    Calls Tryz.prog 50 #[.pointer (some ⟨R, 0, none⟩)] w (AskTo R c w (comC s c)) := by
  have c8 := h.last
  have c4 := h.cells.2.2.2.2.1
  have z4 := h.froz.2.2.2.2.1
  have e62 : ((c.toNat : Int) == 62) = decide (c = 62) := eq_u8 c 62 (by decide)
  have e45 : ((c.toNat : Int) != 45) = decide (c ≠ 45) := ne_u8 c 45 (by decide)
  have p0 : ((S s.p).toList == []) = decide (s.p = []) := eqT _ _
  have p2 : ((S s.p).toList == [45, 45]) = decide (s.p = [45, 45]) := eqT _ _
  have he := enterS_c 0 0 rfl R _ _ s w h
  have fin : Hid (∀ p, AskTo R c w (.ok { s with p := p }) (.returned (.tuple #[])) (w.setCell ⟨R, 4, none⟩ (.string (S p)))) := fun p => To.ok (Keeps.set w _) (set_pend h p)
  unfold comC
  clear h
  generalize S s.p = X at *
  by_cases h1 : c = 62 ∧ s.p = [45, 45]
  · rw [if_pos h1]
    rw [decide_eq_true h1.1] at e62
    rw [decide_eq_true h1.2] at p2
    clear h1 p0 e45
    go_enter Tryz.func50, Tryz.ntmps50
    go_wp2_with fail
    refine he.mono ?_
    rintro e w2 ⟨rfl, hw2, hk2⟩
    have K2 := Lib.hid (To.ok hk2 hw2)
    clear hw2 hk2
    go_wp2_with fail
    go_end0
    exact K2.out
  · rw [if_neg h1]
    have key : Hid (¬ (c = 62 ∧ s.p = [45, 45])) := h1
    clear h1
    by_cases h45 : c ≠ 45
    · rw [if_pos h45]
      rw [decide_eq_true h45] at e45
      clear h45 p0 he
      by_cases h62 : c = 62
      · rw [decide_eq_true h62] at e62
        rw [decide_eq_false (fun g => key.out ⟨h62, g⟩)] at p2
        clear h62 key
        go_enter Tryz.func50, Tryz.ntmps50
        go_wp2_with fail
        go_end0
        exact fin.out []
      · rw [decide_eq_false h62] at e62
        clear h62 key p2
        go_enter Tryz.func50, Tryz.ntmps50
        go_wp2_with fail
        go_end0
        exact fin.out []
    · rw [if_neg h45]
      have c45 : c = 45 := Classical.byContradiction h45
      rw [decide_eq_false h45] at e45
      have h62 : c ≠ 62 := by rw [c45]; decide
      rw [decide_eq_false h62] at e62
      clear h45 c45 h62 p2 key he
      by_cases hp : s.p = []
      · rw [if_pos hp]
        rw [decide_eq_true hp] at p0
        clear hp
        go_enter Tryz.func50, Tryz.ntmps50
        go_wp2_with fail
        go_end0
        exact fin.out [45]
      · rw [if_neg hp]
        rw [decide_eq_false hp] at p0
        clear hp
        go_enter Tryz.func50, Tryz.ntmps50
        go_wp2_with fail
        go_end0
        exact fin.out [45, 45]
theorem letter_at (c : UInt8) (w : World) : Calls Tryz.prog 73 #[.int .u8 (c.toNat : Int)] w fun e w' => e = .returned (.bool (letB c)) ∧ w = w' := letter_c (c.toNat : Int) w (by omega) (by have := c.toNat_lt; omega)
theorem blank_at (c : UInt8) (w : World) : Calls Tryz.prog 79 #[.int .u8 (c.toNat : Int)] w fun e w' => e = .returned (.bool (blB c)) ∧ w = w' := blank_c (c.toNat : Int) w
set_option maxHeartbeats 1000000 in
set_option maxRecDepth 100000 in
theorem askTagOpen_c (c : UInt8) (R : Nat) (s : Sc) (w : World) (h : Wk R 47 (Octet c) s w) :
    Calls Tryz.prog 39 #[.pointer (some ⟨R, 0, none⟩)] w (AskTo R c w (opeC s c)) := by
  have c8 := h.last
  have hl := letter_at c
  have e47 : ((c.toNat : Int) == 47) = decide (c = 47) := eq_u8 c 47 (by decide)
  have e33 : ((c.toNat : Int) == 33) = decide (c = 33) := eq_u8 c 33 (by decide)
  have e63 : ((c.toNat : Int) == 63) = decide (c = 63) := eq_u8 c 63 (by decide)
  have heo : Calls Tryz.prog 74 #[.pointer (some ⟨R, 0, none⟩), .int .i64 3, .string ⟨#[]⟩] w fun e w' => e = .returned (.tuple #[]) ∧ Wk R 47 (Octet c) (scK 3 []) w' ∧ Keeps R w w' := enterOfS_c 3 3 rfl [] R _ _ s w h
  have HA : Hid (∀ W, Wk R 47 (Octet c) (scK 3 []) W → Calls Tryz.prog 23 #[.pointer (some ⟨R, 0, none⟩)] W (AskTo R c W (nameC (scK 3 []) c))) := fun W g => ask3_c c R (scK 3 []) rfl _ W g (askTagName_c c R _ (by simp) W g)
  have h2 := enterS_c 2 2 rfl R _ _ s w h
  have h13 := enterS_c 13 13 rfl R _ _ s w h
  have h15 := enterS_c 15 15 rfl R _ _ s w h
  have hi := askIn_c 0 0 rfl c R s (dataC (entS 0 s) c) (fun W g => ask0_c c R (entS 0 s) rfl _ W g (askData_c c R _ (by simp [entS]) ⟨by simp [entS], by simp [entS], by simp [entS]⟩ W g)) w h
  unfold opeC
  clear h
  by_cases q1 : letB c = true
  · rw [if_pos q1]
    rw [q1] at hl
    clear q1 e47 e33 e63 h2 h13 h15 hi
    generalize nameC (scK 3 []) c = res at HA ⊢
    go_enter Tryz.func39, Tryz.ntmps39
    go_wp2_with (go_at_call 73; refine (hl _).mono ?_; rintro e w' ⟨rfl, rfl⟩)
    refine heo.mono ?_
    rintro e w1 ⟨rfl, hw1, hk1⟩
    have hq := (HA.out _ hw1).mono fun _ _ h3 => To.trans hk1 h3
    clear hw1 hk1 heo HA
    go_wp2_with fail
    refine hq.mono ?_
    intro e w2 h3
    clear hq
    cases res with
    | error n =>
      obtain ⟨hk, rfl⟩ := h3
      exact ⟨rfl, To.err hk⟩
    | ok u =>
      obtain ⟨hk, rfl, hw⟩ := h3
      have K2 := Lib.hid (To.ok hk hw)
      clear hk hw
      go_wp2_with fail
      go_end0
      exact K2.out
  · rw [if_neg q1]
    rw [Bool.eq_false_iff.2 q1] at hl
    by_cases q2 : c = 47
    · rw [if_pos q2]
      rw [decide_eq_true q2] at e47
      clear q1 q2 e33 e63 heo HA h13 h15 hi
      go_enter Tryz.func39, Tryz.ntmps39
      go_wp2_with (go_at_call 73; refine (hl _).mono ?_; rintro e w' ⟨rfl, rfl⟩)
      refine h2.mono ?_
      rintro e w2 ⟨rfl, hw2, hk2⟩
      have K2 := Lib.hid (To.ok hk2 hw2)
      clear hw2 hk2
      go_wp2_with fail
      go_end0
      exact K2.out
    · rw [if_neg q2]
      rw [decide_eq_false q2] at e47
      by_cases q3 : c = 33
      · rw [if_pos q3]
        rw [decide_eq_true q3] at e33
        clear q1 q2 q3 e63 heo HA h2 h15 hi
        go_enter Tryz.func39, Tryz.ntmps39
        go_wp2_with (go_at_call 73; refine (hl _).mono ?_; rintro e w' ⟨rfl, rfl⟩)
        refine h13.mono ?_
        rintro e w2 ⟨rfl, hw2, hk2⟩
        have K2 := Lib.hid (To.ok hk2 hw2)
        clear hw2 hk2
        go_wp2_with fail
        go_end0
        exact K2.out
      · rw [if_neg q3]
        rw [decide_eq_false q3] at e33
        by_cases q4 : c = 63
        · rw [if_pos q4]
          rw [decide_eq_true q4] at e63
          clear q1 q2 q3 q4 heo HA h2 h13 hi
          go_enter Tryz.func39, Tryz.ntmps39
          go_wp2_with (go_at_call 73; refine (hl _).mono ?_; rintro e w' ⟨rfl, rfl⟩)
          refine h15.mono ?_
          rintro e w2 ⟨rfl, hw2, hk2⟩
          have K2 := Lib.hid (To.ok hk2 hw2)
          clear hw2 hk2
          go_wp2_with fail
          go_end0
          exact K2.out
        · rw [if_neg q4]
          rw [decide_eq_false q4] at e63
          clear q1 q2 q3 q4 heo HA h2 h13 h15
          generalize dataC (entS 0 s) c = res at hi ⊢
          go_enter Tryz.func39, Tryz.ntmps39
          go_wp2_with (go_at_call 73; refine (hl _).mono ?_; rintro e w' ⟨rfl, rfl⟩)
          refine hi.mono ?_
          intro e w2 h3
          clear hi
          cases res with
          | error n =>
            obtain ⟨hk, rfl⟩ := h3
            exact ⟨rfl, To.err hk⟩
          | ok u =>
            obtain ⟨hk, rfl, hw⟩ := h3
            have K2 := Lib.hid (To.ok hk hw)
            clear hk hw
            go_wp2_with fail
            go_end0
            exact K2.out
set_option maxHeartbeats 1000000 in
set_option maxRecDepth 100000 in
theorem askEndOpen_c (c : UInt8) (R : Nat) (s : Sc) (w : World) (h : Wk R 47 (Octet c) s w) :
    Calls Tryz.prog 40 #[.pointer (some ⟨R, 0, none⟩)] w (AskTo R c w (eopC s c)) := by
  have c8 := h.last
  have hl := letter_at c
  have heo : Calls Tryz.prog 74 #[.pointer (some ⟨R, 0, none⟩), .int .i64 4, .string ⟨#[47]⟩] w fun e w' => e = .returned (.tuple #[]) ∧ Wk R 47 (Octet c) (scK 4 [47]) w' ∧ Keeps R w w' := enterOfS_c 4 4 rfl [47] R _ _ s w h
  have HA : Hid (∀ W, Wk R 47 (Octet c) (scK 4 [47]) W → Calls Tryz.prog 23 #[.pointer (some ⟨R, 0, none⟩)] W (AskTo R c W (nameC (scK 4 [47]) c))) := fun W g => ask4_c c R (scK 4 [47]) rfl _ W g (askTagName_c c R _ (by simp) W g)
  have hi := askIn_c 15 15 rfl c R s (bogC (entS 15 s) c) (fun W g => ask15_c c R (entS 15 s) rfl _ W g (askBogus_c c R _ W g)) w h
  unfold eopC
  clear h
  by_cases q1 : letB c = true
  · rw [if_pos q1]
    rw [q1] at hl
    clear q1 hi
    generalize nameC (scK 4 [47]) c = res at HA ⊢
    go_enter Tryz.func40, Tryz.ntmps40
    go_wp2_with (go_at_call 73; refine (hl _).mono ?_; rintro e w' ⟨rfl, rfl⟩)
    refine heo.mono ?_
    rintro e w1 ⟨rfl, hw1, hk1⟩
    have hq := (HA.out _ hw1).mono fun _ _ h3 => To.trans hk1 h3
    clear hw1 hk1 heo HA
    go_wp2_with fail
    refine hq.mono ?_
    intro e w2 h3
    clear hq
    cases res with
    | error n =>
      obtain ⟨hk, rfl⟩ := h3
      exact ⟨rfl, To.err hk⟩
    | ok u =>
      obtain ⟨hk, rfl, hw⟩ := h3
      have K2 := Lib.hid (To.ok hk hw)
      clear hk hw
      go_wp2_with fail
      go_end0
      exact K2.out
  · rw [if_neg q1]
    rw [Bool.eq_false_iff.2 q1] at hl
    clear q1 heo HA
    generalize bogC (entS 15 s) c = res at hi ⊢
    go_enter Tryz.func40, Tryz.ntmps40
    go_wp2_with (go_at_call 73; refine (hl _).mono ?_; rintro e w' ⟨rfl, rfl⟩)
    refine hi.mono ?_
    intro e w2 h3
    clear hi
    cases res with
    | error n =>
      obtain ⟨hk, rfl⟩ := h3
      exact ⟨rfl, To.err hk⟩
    | ok u =>
      obtain ⟨hk, rfl, hw⟩ := h3
      have K2 := Lib.hid (To.ok hk hw)
      clear hk hw
      go_wp2_with fail
      go_end0
      exact K2.out
set_option maxHeartbeats 1000000 in
set_option maxRecDepth 100000 in
theorem askBeforeValue_c (c : UInt8) (R : Nat) (s : Sc) (w : World) (h : Wk R 47 (Octet c) s w) :
    Calls Tryz.prog 45 #[.pointer (some ⟨R, 0, none⟩)] w (AskTo R c w (wanC s c)) := by
  have c8 := h.last
  have hl := blank_at c
  have e34 : ((c.toNat : Int) == 34) = decide (c = 34) := eq_u8 c 34 (by decide)
  have e39 : ((c.toNat : Int) == 39) = decide (c = 39) := eq_u8 c 39 (by decide)
  have e62 : ((c.toNat : Int) == 62) = decide (c = 62) := eq_u8 c 62 (by decide)
  have h9 := enterS_c 9 9 rfl R _ _ s w h
  have HD : Hid (∀ W, Wk R 47 (Octet c) (entS 9 s) W → (W.cell? ⟨R, 8, none⟩ = some (.int .u8 (c.toNat : Int)) ∧ W.cell? ⟨R, 3, none⟩ = some (.int .u8 ((entS 9 s).d.toNat : Int)) ∧ W.frozen? ⟨R, 3, none⟩ = false) ∧ Wk R 47 (Octet c) { entS 9 s with d := c } (W.setCell ⟨R, 3, none⟩ (.int .u8 (c.toNat : Int))) ∧ Keeps R W (W.setCell ⟨R, 3, none⟩ (.int .u8 (c.toNat : Int)))) :=
    fun W g => ⟨⟨g.last, g.cells.2.2.2.1, g.froz.2.2.2.1⟩, set_delim g c, Keeps.set W _⟩
  have hlt := leaveTag_c R _ _ s w h
  have hi := askIn_c 10 10 rfl c R s (barC (entS 10 s) c) (fun W g => ask10_c c R (entS 10 s) rfl _ W g (askUnquoted_c c R _ (by simp [entS]) ⟨by simp [entS], by simp [entS], by simp [entS]⟩ W g)) w h
  have HW := Lib.hid h
  unfold wanC
  clear h
  by_cases q1 : blB c = true
  · rw [if_pos q1]
    rw [q1] at hl
    clear q1 e34 e39 e62 h9 HD hlt hi
    go_enter Tryz.func45, Tryz.ntmps45
    go_wp2_with (go_at_call 79; refine (hl _).mono ?_; rintro e w' ⟨rfl, rfl⟩)
    go_end0
    exact To.ok (Keeps.refl R w) HW.out
  · rw [if_neg q1]
    rw [Bool.eq_false_iff.2 q1] at hl
    by_cases q2 : c = 34 ∨ c = 39
    · rw [if_pos q2]
      clear q1 e62 hlt hi
      by_cases q34 : c = 34
      · rw [decide_eq_true q34] at e34
        clear q2 q34 e39
        go_enter Tryz.func45, Tryz.ntmps45
        go_wp2_with (go_at_call 79; refine (hl _).mono ?_; rintro e w' ⟨rfl, rfl⟩)
        refine h9.mono ?_
        rintro e w1 ⟨rfl, hw1, hk1⟩
        obtain ⟨⟨d8, d3, y3⟩, q⟩ := HD.out _ hw1
        have KQ := Lib.hid (To.ok (hk1.trans q.2) q.1)
        clear hw1 hk1 q h9
        go_wp2_with fail
        go_end0
        exact KQ.out
      · rw [decide_eq_false q34] at e34
        have q39 : c = 39 := q2.elim (fun g => absurd g q34) id
        rw [decide_eq_true q39] at e39
        clear q2 q34 q39
        go_enter Tryz.func45, Tryz.ntmps45
        go_wp2_with (go_at_call 79; refine (hl _).mono ?_; rintro e w' ⟨rfl, rfl⟩)
        refine h9.mono ?_
        rintro e w1 ⟨rfl, hw1, hk1⟩
        obtain ⟨⟨d8, d3, y3⟩, q⟩ := HD.out _ hw1
        have KQ := Lib.hid (To.ok (hk1.trans q.2) q.1)
        clear hw1 hk1 q h9
        go_wp2_with fail
        go_end0
        exact KQ.out
    · rw [if_neg q2]
      rw [decide_eq_false (fun g => q2 (.inl g))] at e34
      rw [decide_eq_false (fun g => q2 (.inr g))] at e39
      by_cases q3 : c = 62
      · rw [if_pos q3]
        rw [decide_eq_true q3] at e62
        clear q1 q2 q3 h9 HD hi
        generalize endS s.e = res at hlt ⊢
        go_enter Tryz.func45, Tryz.ntmps45
        go_wp2_with (go_at_call 79; refine (hl _).mono ?_; rintro e w' ⟨rfl, rfl⟩)
        refine hlt.mono ?_
        intro e w2 h3
        clear hlt
        cases res with
        | error n =>
          obtain ⟨hk, rfl⟩ := h3
          exact ⟨rfl, To.err hk⟩
        | ok u =>
          obtain ⟨hk, rfl, hw⟩ := h3
          have K2 := Lib.hid (To.ok hk hw)
          clear hk hw
          go_wp2_with fail
          go_end0
          exact K2.out
      · rw [if_neg q3]
        rw [decide_eq_false q3] at e62
        clear q1 q2 q3 h9 HD hlt
        generalize barC (entS 10 s) c = res at hi ⊢
        go_enter Tryz.func45, Tryz.ntmps45
        go_wp2_with (go_at_call 79; refine (hl _).mono ?_; rintro e w' ⟨rfl, rfl⟩)
        refine hi.mono ?_
        intro e w2 h3
        clear hi
        cases res with
        | error n =>
          obtain ⟨hk, rfl⟩ := h3
          exact ⟨rfl, To.err hk⟩
        | ok u =>
          obtain ⟨hk, rfl, hw⟩ := h3
          have K2 := Lib.hid (To.ok hk hw)
          clear hk hw
          go_wp2_with fail
          go_end0
          exact K2.out
end Go.Proofs.YtklpbkjplecdpaaGreat.Scw
