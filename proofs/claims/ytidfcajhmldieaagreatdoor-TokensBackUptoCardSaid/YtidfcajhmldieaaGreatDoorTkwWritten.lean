/-
  Contract of written: what is asked of all tokens, and their octets; or a fault.
-/
import Derived.Test.YtidfcajhmldieaaGreatDoorTkwWrite
namespace Go.Proofs.YtidfcajhmldieaaGreatDoor.Tkw
open Go.RowKit Go.Proofs.YtidfcajhmldieaaGreatDoor.Oct Go.Proofs.YtidfcajhmldieaaGreatDoor.Utf Go.Proofs.YtidfcajhmldieaaGreatDoor.Tok Go.Proofs.YtidfcajhmldieaaGreatDoor.Crf

theorem write_c (t : Tk) (va : Value) (B b : Nat) (l : List UInt8) (w : World) (h : Has B b l w) (hl : l.length ≤ 65536) (hk : t.k = 1 ∨ t.k = 2 ∨ t.k = 3 ∨ t.k = 4) (hf : Fits t)
    (hT : ∀ W, Below B w W → Tabs W) (hA : ∀ W, Below B w W → AtIn W va t.a) :
    Calls Tryz.prog 23 #[tkV t va, putV b] w (PutTo B b l (writeT t) w) := by
  obtain ⟨k, n, x, al, c⟩ := t
  obtain ⟨p, cap, hva, _⟩ := hA w (Below.refl _ _)
  simp only at hk
  rcases hk with rfl | rfl | rfl | rfl
  · exact write_1 n x al va c B b l w h hl hf hT hA
  · exact write_2 n x va ⟨_, _, _, hva⟩ c B b l w h hl hf.n
  · exact write_3 n x va ⟨_, _, _, hva⟩ c B b l w h hl hf.x hT
  · exact write_4 n x va ⟨_, _, _, hva⟩ c B b l w h hl hf.x
theorem mayL_of : ∀ (ts : List Tk), (∀ k (h : k < ts.length), ¬ (ts[k].k = 1 ∧ 1 ≤ Tab.elemN ts[k].n ∧ Tab.elemN ts[k].n ≤ 3)) → (∀ k (h : k + 1 < ts.length), ts[k + 1].k = 3 → ts[k].k ≠ 3) → mayL ts = true
  | [], _, _ => rfl
  | t :: l, h1, h2 => by
    have ih := mayL_of l (fun k h => h1 (k + 1) (by simpa using h)) (fun k h => h2 (k + 1) (by simpa using h))
    unfold mayL
    have h10 : ¬ (t.k = 1 ∧ 1 ≤ Tab.elemN t.n ∧ Tab.elemN t.n ≤ 3) := h1 0 (by simp)
    rw [ih, decide_eq_false h10, Bool.and_true, Bool.not_false, Bool.true_and, Bool.not_eq_true', Bool.and_eq_false_iff]
    cases l with
    | nil => exact .inr rfl
    | cons u l =>
      by_cases hu : u.k = 3
      · exact .inl (decide_eq_false (show ¬ t.k = 3 from h2 0 (by simp) hu))
      · exact .inr (decide_eq_false hu)
theorem check_kind {t : Tk} (h : checkT t = 0) : t.k = 1 ∨ t.k = 2 ∨ t.k = 3 ∨ t.k = 4 := by
  rcases check_cases h with h | h | h | h
  · exact .inl h.1
  · exact .inr (.inl h.1)
  · exact .inr (.inr (.inl h.1))
  · exact .inr (.inr (.inr h.1))
theorem take_stepT (ts : List Tk) (k : Nat) (hk : k < ts.length) : (ts.take (k + 1)).flatMap writeT = (ts.take k).flatMap writeT ++ writeT ts[k] := by
  rw [List.take_add_one, List.getElem?_eq_getElem hk, List.flatMap_append]
  simp
/-- What written answers. -/
def WroteTo (ts : List Tk) (e : Ending) : Prop :=
  (e = .returned (.string (S (ts.flatMap writeT))) ∧ (∀ k (h : k < ts.length), checkT ts[k] = 0) ∧ mayL ts = true ∧ (ts.flatMap writeT).length ≤ 65536) ∨ ∃ n, e = Tkc.Fault n ∧ n ≠ 0
theorem demandY (n : Int) (w : World) : Calls Tryz.prog 18 #[.bool true, .int .i64 n] w fun e w' => e = .returned (.tuple #[]) ∧ w = w' := (Tkc.demand_yes n w).mono fun _ _ ⟨h1, h2⟩ => ⟨h1, h2.symm⟩
theorem demandN (n : Int) (w : World) : Calls Tryz.prog 18 #[.bool false, .int .i64 n] w fun e w' => e = Tkc.Fault n ∧ w = w' := (Tkc.demand_no n w).mono fun _ _ ⟨h1, h2⟩ => ⟨h1, h2.symm⟩
set_option maxHeartbeats 1000000 in
set_option maxRecDepth 100000 in
theorem written_c (ts : List Tk) (p : Option Addr) (cap : Nat) (w : World) (hin : ∀ W, Below w.heap.size w W → TkIn W (.slice p ts.length cap) ts) (hcap : ts.length ≤ cap) (hn : ts.length ≤ 2147483648) (hf : ∀ k (h : k < ts.length), Fits ts[k]) (hT : Tabs w) (hM : Tkc.MaxAt w) :
    Calls Tryz.prog 11 #[.slice p ts.length cap] w fun e w' => WroteTo ts e ∧ Below w.heap.size w w' := by
  have HI : Hid (∀ W, Below w.heap.size w W → 0 < ts.length → ∃ b o, p = some ⟨b, o, none⟩ ∧ ∀ i (h : i < ts.length), ∃ va, AtIn W va ts[i].a ∧ W.cell? ⟨b, o + i * 5, none⟩ = some (.int .i64 ts[i].k) ∧ W.cell? ⟨b, o + i * 5 + 1, none⟩ = some (.string (S ts[i].n)) ∧ W.cell? ⟨b, o + i * 5 + 2, none⟩ = some (.string (S ts[i].x)) ∧ W.cell? ⟨b, o + i * 5 + 3, none⟩ = some va ∧ W.cell? ⟨b, o + i * 5 + 4, none⟩ = some (.bool ts[i].c)) := fun W hW => by
    obtain ⟨p', cap', h1, h2⟩ := hin W hW
    injection h1 with e1 _ _
    subst e1
    exact h2
  have HF := Lib.hid hf
  have HTM := Lib.hid (And.intro hT hM)
  obtain ⟨n, hnn⟩ : ∃ n, n = ts.length := ⟨_, rfl⟩
  have HN := Lib.hid hnn
  have hni : (n : Int) ≤ 2147483648 := by omega
  have hci : (n : Int) ≤ (cap : Int) := by omega
  rw [← hnn]
  clear hin hcap hn hf hT hM hnn
  go_enter Tryz.func11, Tryz.ntmps11
  go_wp2_with fail
  go_loopw [12] (fun i wr => ∃ k : Nat, k ≤ n ∧ i = .int .i64 k ∧ Hid (Below w.heap.size w wr) ∧ Hid (∀ j (h : j < ts.length), j < k → checkT ts[j] = 0)) (fun i _ => n - (intOf i).toNat)
  case atStart => exact ⟨0, Nat.zero_le _, rfl, Below.refl _ _, fun j _ h => absurd h (Nat.not_lt_zero _)⟩
  case round =>
    obtain ⟨k, hk, rfl, hbel, hch⟩ := hrel
    have i0 : (0 : Int) ≤ (k : Int) := by omega
    by_cases hlt : k < n
    · have hlt2 : k < ts.length := by have := HN.out; omega
      have i1 : (k : Int) < (n : Int) := by omega
      obtain ⟨bb, oo, rfl, hcs⟩ := HI.out wr hbel.out (by omega)
      obtain ⟨va, hva, c0, c1, c2, c3, c4⟩ := hcs k hlt2
      have hft := HF.out k hlt2
      clear hcs
      obtain ⟨t, htx⟩ : ∃ t, t = ts[k] := ⟨_, rfl⟩
      have HX := Lib.hid htx
      rw [← htx] at hva c0 c1 c2 c4 hft
      clear htx
      have hbA := tkW_below wr t.k (S t.n) (S t.x) va t.c
      have hB0 := hbel.out.trans (hbA.mono hbel.out.size)
      have hchk := check_c t va _ (atIn_up hva hbA) hft (HTM.out.1.kept hB0) (HTM.out.2.kept hB0)
      have HB := Lib.hid hB0
      obtain ⟨pa, la, rfl, _⟩ := hva
      obtain ⟨tk, tn, tx, ta, tc⟩ := t
      clear hft hbA hB0
      simp only at c0 c1 c2 c3 c4 hchk HB
      go_wp2_with fail
      refine hchk.mono ?_
      clear hchk
      rintro e1 w1 ⟨⟨ne, rfl, hne⟩, hb1⟩
      have H1 := Lib.hid (And.intro hne (HB.out.trans (hb1.mono HB.out.size)))
      clear hne hb1 HB
      by_cases hz : ne = 0
      · subst hz
        have HNX : Hid (∀ j (h : j < ts.length), j < k + 1 → checkT ts[j] = 0) := fun j h hj => by
          rcases Nat.lt_or_ge j k with h2 | h2
          · exact hch.out j h h2
          · obtain rfl : j = k := by omega
            rw [← HX.out]
            exact H1.out.1 rfl
        go_wp2_with (go_at_call 18; refine (demandY _ _).mono ?_; rintro e2 w2 ⟨rfl, rfl⟩)
        go_roundw
        case rel => exact ⟨k + 1, by omega, by go_num, H1.out.2, HNX⟩
        case measure => simp [intOf]; omega
      · have hq : (ne == 0) = false := by rw [beq_eq_false_iff_ne]; exact hz
        have HZ := Lib.hid hz
        clear hz
        go_wp2_with (go_at_call 18; refine (demandN _ _).mono ?_; rintro e2 w2 ⟨rfl, rfl⟩)
        exact ⟨rfl, .inr ⟨_, rfl, HZ.out⟩, H1.out.2⟩
    · have i1 : ¬ ((k : Int) < (n : Int)) := by omega
      have HCH : Hid (∀ j (h : j < ts.length), checkT ts[j] = 0) := fun j h => hch.out j h (by have := HN.out; omega)
      have H0 : Hid (PutOk wr.heap.size wr.heap.size [] [] (wr.alloc (.cells #[.pointer none, .slice none 0 0] 51)) (wr.alloc (.cells #[.pointer none, .slice none 0 0] 51))) :=
        PutOk.quiet (has_fresh wr) (by decide) (Below.refl _ _)
      have HB0 : Hid (Below wr.heap.size wr (wr.alloc (.cells #[.pointer none, .slice none 0 0] 51))) := (Below.refl _ wr).alloc (Nat.le_refl _) _
      obtain ⟨V, hV⟩ : ∃ V, V = wr := ⟨_, rfl⟩
      rw [← hV] at hbel H0 HB0 ⊢
      clear hV hch
      clear wr
      have eg := enter_put
      go_wp2_with fail
      clear i1 i0 hlt hk
      obtain ⟨B, hBB⟩ : ∃ B, B = V.heap.size := ⟨_, rfl⟩
      obtain ⟨V0, hV0⟩ : ∃ V0, V0 = V.alloc (.cells #[.pointer none, .slice none 0 0] 51) := ⟨_, rfl⟩
      have HBB : Hid (w.heap.size ≤ B ∧ Below B V V0) := ⟨by rw [hBB]; exact hbel.out.size, by rw [hBB, hV0]; exact HB0.out⟩
      rw [← hBB, ← hV0] at H0
      rw [← hBB, ← hV0]
      clear hBB hV0 HB0
      go_loopw [26] (fun i wr => ∃ k : Nat, k ≤ n ∧ i = .int .i64 k ∧ Hid (PutOk B B [] ((ts.take k).flatMap writeT) V0 wr) ∧ Hid (∀ j (h : j < ts.length), j < k → ¬ (ts[j].k = 1 ∧ 1 ≤ Tab.elemN ts[j].n ∧ Tab.elemN ts[j].n ≤ 3)) ∧ Hid (∀ j (h : j + 1 < ts.length), j + 1 < k → ts[j + 1].k = 3 → ts[j].k ≠ 3)) (fun i _ => n - (intOf i).toNat)
      case atStart => exact ⟨0, Nat.zero_le _, rfl, H0, fun j _ h => absurd h (Nat.not_lt_zero _), fun j _ h => absurd h (Nat.not_lt_zero _)⟩
      case round =>
        clear H0
        obtain ⟨k, hk, rfl, hok, hr1, hr2⟩ := hrel
        have i0 : (0 : Int) ≤ (k : Int) := by omega
        have HLO : Hid (∀ W, Below B wr W → Below w.heap.size w W) := fun W hW => (hbel.out.trans ((HBB.out.2.trans (hok.out.below.trans hW)).mono HBB.out.1))
        by_cases hlt : k < n
        · have hlt2 : k < ts.length := by have := HN.out; omega
          have i1 : (k : Int) < (n : Int) := by omega
          have i2 : (k : Int) ≤ (cap : Int) := by omega
          have hBw : B ≤ wr.heap.size := by have := has_lt hok.out.has; omega
          obtain ⟨bb, oo, rfl, hcs⟩ := HI.out wr (HLO.out wr (Below.refl _ _)) (by omega)
          obtain ⟨va, hva, c0, c1, c2, c3, c4⟩ := hcs k hlt2
          have hft := HF.out k hlt2
          obtain ⟨pk, hpk, hpc⟩ : ∃ pk : Int, (∀ j (hj : j < ts.length), k = j + 1 → pk = ts[j].k) ∧ (∀ j, k = j + 1 → wr.cell? ⟨bb, oo + j * 5, none⟩ = some (.int .i64 pk)) := by
            cases k with
            | zero => exact ⟨0, fun j _ h => by omega, fun j h => by omega⟩
            | succ j =>
              refine ⟨ts[j].k, fun i hi h => ?_, fun i h => ?_⟩
              · obtain rfl : i = j := by omega
                rfl
              · obtain rfl : i = j := by omega
                obtain ⟨_, _, c0', _⟩ := hcs i (by omega)
                exact c0'
          have HINA : Hid (∀ W, Below B wr W → AtIn W va ts[k].a) := fun W hW => by
            obtain ⟨bb', oo', hp', hcs'⟩ := HI.out W (HLO.out W hW) (by omega)
            injection hp' with hp'
            injection hp' with e1 e2 _
            subst e1
            subst e2
            obtain ⟨va', hva', _, _, _, c3', _⟩ := hcs' k hlt2
            have c3b : W.cell? ⟨bb, oo + k * 5 + 3, none⟩ = some va := by
              have hin0 := HI.out w (Below.refl _ _) (by omega)
              obtain ⟨b0, o0, hp0, hcs0⟩ := hin0
              injection hp0 with hp0
              injection hp0 with e1 e2 _
              subst e1
              subst e2
              obtain ⟨va0, _, _, _, _, c30, _⟩ := hcs0 k hlt2
              have d1 := some_keep c30 (HLO.out wr (Below.refl _ _))
              have d2 := some_keep c30 (HLO.out W hW)
              rw [c3] at d1
              rw [d2]
              exact d1.symm
            rw [c3b] at c3'
            injection c3' with c3'
            rw [c3']
            exact hva'
          clear hcs
          obtain ⟨t, htx⟩ : ∃ t, t = ts[k] := ⟨_, rfl⟩
          have HX := Lib.hid htx
          have hst := take_stepT ts k hlt2
          have hkk := check_kind (HCH.out k hlt2)
          rw [← htx] at hva c0 c1 c2 c4 hft HINA hst hkk
          have HST := Lib.hid hst
          have HKF := Lib.hid (And.intro hkk hft)
          clear htx hst hkk hft
          have hbA : Below wr.heap.size wr (tkW wr t.k (S t.n) (S t.x) va t.c).drew := (tkW_below wr t.k (S t.n) (S t.x) va t.c).trans (Below.refl _ _).drew
          have hboxA : (tkW wr t.k (S t.n) (S t.x) va t.c).drew.heap[wr.heap.size]? = some (.cells #[.int .i64 t.k, .string (S t.n), .string (S t.x), va, .bool t.c] 34 (0, 0)) := heap_alloc_new wr _
          have hmix := mixes_c t va k (by omega) (some ⟨bb, oo, none⟩) cap pk _ (atIn_up hva hbA) (fun j hj => ⟨bb, oo, rfl, some_keep (hpc j hj) hbA⟩)
          have HBA := Lib.hid (And.intro hbA hboxA)
          have HPK := Lib.hid hpk
          clear hpc hpk hbA hboxA hBw
          obtain ⟨pa, ca, rfl, _⟩ := hva
          obtain ⟨tk, tn, tx, ta, tc⟩ := t
          simp only at c0 c1 c2 c3 c4 hmix HBA HINA
          obtain ⟨la, hla⟩ : ∃ la, la = ta.length := ⟨_, rfl⟩
          rw [← hla] at c3 hmix HBA HINA
          have HLA := Lib.hid hla
          clear hla
          have k0 : (tkW wr tk (S tn) (S tx) (.slice pa la ca) tc).drew.cell? ⟨wr.heap.size, 0, none⟩ = some (.int .i64 tk) ∧ (tkW wr tk (S tn) (S tx) (.slice pa la ca) tc).drew.cell? ⟨wr.heap.size, 1, none⟩ = some (.string (S tn)) ∧ (tkW wr tk (S tn) (S tx) (.slice pa la ca) tc).drew.cell? ⟨wr.heap.size, 2, none⟩ = some (.string (S tx)) ∧ (tkW wr tk (S tn) (S tx) (.slice pa la ca) tc).drew.cell? ⟨wr.heap.size, 3, none⟩ = some (.slice pa la ca) ∧ (tkW wr tk (S tn) (S tx) (.slice pa la ca) tc).drew.cell? ⟨wr.heap.size, 4, none⟩ = some (.bool tc) := ⟨(cell_of_row _ _ 0 _ _ _ HBA.out.2).trans rfl, (cell_of_row _ _ 1 _ _ _ HBA.out.2).trans rfl, (cell_of_row _ _ 2 _ _ _ HBA.out.2).trans rfl, (cell_of_row _ _ 3 _ _ _ HBA.out.2).trans rfl, (cell_of_row _ _ 4 _ _ _ HBA.out.2).trans rfl⟩
          go_wp2_with fail
          clear c0 c1 c2 c3 c4
          refine wp_region_held_drew (S := (fun w' => w'.cell? ⟨wr.heap.size, 0, none⟩ = some (.int .i64 tk) ∧ w'.cell? ⟨wr.heap.size, 1, none⟩ = some (.string (S tn)) ∧ w'.cell? ⟨wr.heap.size, 2, none⟩ = some (.string (S tx)) ∧ w'.cell? ⟨wr.heap.size, 3, none⟩ = some (.slice pa la ca) ∧ w'.cell? ⟨wr.heap.size, 4, none⟩ = some (.bool tc))) (by kernel_rfl) k0 (fun hHeld => ?_)
          refine wpAnyH_take (i := 0) (v := ?_) rfl (by kernel_rfl) (by kernel_rfl) (by kernel_rfl) (fun _ _ _ h => h) (Or.inl ⟨by kernel_rfl, ?_⟩) (by assumption) ?_
          rotate_left
          · intro w hSw
            try dsimp only at hSw
            obtain ⟨hS0, hS1, hS2, hS3, hS4⟩ := hSw
            go_simp
            try with_reducible rfl
          (try simp only [List.getElem_toArray]); (try simp only [List.getElem_cons_succ]); (try simp only [List.getElem_cons_zero]); (try simp only [Act.put]); (try simp only [List.setIfInBounds_toArray]); (try simp only [List.set_cons_succ]); (try simp only [List.set_cons_zero])
          refine wpAnyH_take (i := 1) (v := ?_) rfl (by kernel_rfl) (by kernel_rfl) (by kernel_rfl) (fun _ _ _ h => h) (Or.inl ⟨by kernel_rfl, ?_⟩) (by assumption) ?_
          rotate_left
          · intro w hSw
            try dsimp only at hSw
            obtain ⟨hS0, hS1, hS2, hS3, hS4⟩ := hSw
            go_simp
            try with_reducible rfl
          (try simp only [List.getElem_toArray]); (try simp only [List.getElem_cons_succ]); (try simp only [List.getElem_cons_zero]); (try simp only [Act.put]); (try simp only [List.setIfInBounds_toArray]); (try simp only [List.set_cons_succ]); (try simp only [List.set_cons_zero])
          refine wpAnyH_take (i := 2) (v := ?_) rfl (by kernel_rfl) (by kernel_rfl) (by kernel_rfl) (fun _ _ _ h => h) (Or.inl ⟨by kernel_rfl, ?_⟩) (by assumption) ?_
          rotate_left
          · intro w hSw
            try dsimp only at hSw
            obtain ⟨hS0, hS1, hS2, hS3, hS4⟩ := hSw
            go_simp
            try with_reducible rfl
          (try simp only [List.getElem_toArray]); (try simp only [List.getElem_cons_succ]); (try simp only [List.getElem_cons_zero]); (try simp only [Act.put]); (try simp only [List.setIfInBounds_toArray]); (try simp only [List.set_cons_succ]); (try simp only [List.set_cons_zero])
          refine wpAnyH_take (i := 3) (v := ?_) rfl (by kernel_rfl) (by kernel_rfl) (by kernel_rfl) (fun _ _ _ h => h) (Or.inl ⟨by kernel_rfl, ?_⟩) (by assumption) ?_
          rotate_left
          · intro w hSw
            try dsimp only at hSw
            obtain ⟨hS0, hS1, hS2, hS3, hS4⟩ := hSw
            go_simp
            try with_reducible rfl
          (try simp only [List.getElem_toArray]); (try simp only [List.getElem_cons_succ]); (try simp only [List.getElem_cons_zero]); (try simp only [Act.put]); (try simp only [List.setIfInBounds_toArray]); (try simp only [List.set_cons_succ]); (try simp only [List.set_cons_zero])
          refine wpAnyH_ready (rs := [4]) (by kernel_rfl) (by simp) ?_
          refine AllReadyH.cons rfl (fun K hK => ?_) AllReadyH.nil
          go_simp
          refine hmix.mono ?_
          clear hmix
          rintro e3 w3 ⟨⟨bq, rfl, hbq⟩, hb3⟩
          have hb4 : Below wr.heap.size wr w3 := HBA.out.1.trans (hb3.mono HBA.out.1.size)
          have hbx3 := (hb3.block _ (Array.getElem?_eq_some_iff.1 HBA.out.2).1).trans HBA.out.2
          have k1 : w3.cell? ⟨wr.heap.size, 0, none⟩ = some (.int .i64 tk) ∧ w3.cell? ⟨wr.heap.size, 1, none⟩ = some (.string (S tn)) ∧ w3.cell? ⟨wr.heap.size, 2, none⟩ = some (.string (S tx)) ∧ w3.cell? ⟨wr.heap.size, 3, none⟩ = some (.slice pa la ca) ∧ w3.cell? ⟨wr.heap.size, 4, none⟩ = some (.bool tc) := ⟨(cell_of_row _ _ 0 _ _ _ hbx3).trans rfl, (cell_of_row _ _ 1 _ _ _ hbx3).trans rfl, (cell_of_row _ _ 2 _ _ _ hbx3).trans rfl, (cell_of_row _ _ 3 _ _ _ hbx3).trans rfl, (cell_of_row _ _ 4 _ _ _ hbx3).trans rfl⟩
          have H3 := Lib.hid (And.intro hbq (hok.out.later hb4))
          have HUP : Hid (∀ W, Below B w3 W → Below B wr W) := fun W hW => (hb4.mono (by have := has_lt hok.out.has; omega)).trans hW
          clear hbq hb3 hb4 hbx3
          refine hK.out _ _ k1 (fun hHeld => ?_)
          clear hK K
          (try simp only [List.getElem_toArray]); (try simp only [List.getElem_cons_succ]); (try simp only [List.getElem_cons_zero]); (try simp only [Act.put]); (try simp only [List.setIfInBounds_toArray]); (try simp only [List.set_cons_succ]); (try simp only [List.set_cons_zero])
          cases bq with
          | true =>
            refine wpAnyH_take (i := 5) (v := ?_) rfl (by kernel_rfl) (by kernel_rfl) (by kernel_rfl) (fun _ _ _ h => h) (Or.inl ⟨by kernel_rfl, ?_⟩) (by assumption) ?_
            rotate_left
            · intro w hSw
              try dsimp only at hSw
              obtain ⟨hS0, hS1, hS2, hS3, hS4⟩ := hSw
              go_simp
              try with_reducible rfl
            (try simp only [List.getElem_toArray]); (try simp only [List.getElem_cons_succ]); (try simp only [List.getElem_cons_zero]); (try simp only [Act.put]); (try simp only [List.setIfInBounds_toArray]); (try simp only [List.set_cons_succ]); (try simp only [List.set_cons_zero])
            refine wpAnyH_ready (rs := [6]) (by kernel_rfl) (by simp) ?_
            refine AllReadyH.cons rfl (fun K hK => ?_) AllReadyH.nil
            go_simp
            refine (demandN _ _).mono ?_
            rintro e4 w4 ⟨rfl, rfl⟩
            exact ⟨rfl, .inr ⟨_, rfl, by decide⟩, HLO.out _ (HUP.out _ (Below.refl _ _))⟩
          | false =>
            refine wpAnyH_take (i := 5) (v := ?_) rfl (by kernel_rfl) (by kernel_rfl) (by kernel_rfl) (fun _ _ _ h => h) (Or.inl ⟨by kernel_rfl, ?_⟩) (by assumption) ?_
            rotate_left
            · intro w hSw
              try dsimp only at hSw
              obtain ⟨hS0, hS1, hS2, hS3, hS4⟩ := hSw
              go_simp
              try with_reducible rfl
            (try simp only [List.getElem_toArray]); (try simp only [List.getElem_cons_succ]); (try simp only [List.getElem_cons_zero]); (try simp only [Act.put]); (try simp only [List.setIfInBounds_toArray]); (try simp only [List.set_cons_succ]); (try simp only [List.set_cons_zero])
            refine wpAnyH_ready (rs := [6]) (by kernel_rfl) (by simp) ?_
            refine AllReadyH.cons rfl (fun K hK => ?_) AllReadyH.nil
            go_simp
            refine (demandY _ _).mono ?_
            rintro e4 w4 ⟨rfl, rfl⟩
            refine hK.out _ _ k1 (fun hHeld => ?_)
            clear hK K
            (try simp only [List.getElem_toArray]); (try simp only [List.getElem_cons_succ]); (try simp only [List.getElem_cons_zero]); (try simp only [Act.put]); (try simp only [List.setIfInBounds_toArray]); (try simp only [List.set_cons_succ]); (try simp only [List.set_cons_zero])
            refine wpAnyH_done (by kernel_rfl) ?_ _
            have hcl := H3.out.1 (by trivial)
            have hw := write_c ⟨tk, tn, tx, ta, tc⟩ (.slice pa la ca) B B ([] ++ (ts.take k).flatMap writeT) w3 H3.out.2.has (by rw [List.nil_append]; have h := H3.out.2.len; simpa using h) HKF.out.1 HKF.out.2 (fun W hW => HTM.out.1.kept (HLO.out W (HUP.out W hW))) (fun W hW => HINA.out W (HUP.out W hW))
            have HCL := Lib.hid hcl
            clear hcl
            obtain ⟨d0, d1, d2, d3, d4⟩ := k1
            go_wp2_with fail
            refine hw.mono ?_
            clear hw
            rintro e5 w5 (⟨rfl, hok5⟩ | ⟨rfl, hbel5⟩)
            · have HNX : Hid (PutOk B B [] ((ts.take (k + 1)).flatMap writeT) V0 w5) := by
                show PutOk _ _ _ _ _ _
                rw [HST.out]
                exact H3.out.2.trans hok5
              have HR1 : Hid (∀ j (h : j < ts.length), j < k + 1 → ¬ (ts[j].k = 1 ∧ 1 ≤ Tab.elemN ts[j].n ∧ Tab.elemN ts[j].n ≤ 3)) := fun j h hj => by
                rcases Nat.lt_or_ge j k with h2 | h2
                · exact hr1.out j h h2
                · obtain rfl : j = k := by omega
                  rw [← HX.out]
                  exact HCL.out.1
              have HR2 : Hid (∀ j (h : j + 1 < ts.length), j + 1 < k + 1 → ts[j + 1].k = 3 → ts[j].k ≠ 3) := fun j h hj h3 => by
                rcases Nat.lt_or_ge (j + 1) k with h2 | h2
                · exact hr2.out j h h2 h3
                · have hkj : k = j + 1 := by omega
                  subst hkj
                  have hp := HPK.out j (by omega) rfl
                  rw [← hp]
                  rw [← HX.out] at h3
                  exact HCL.out.2 h3 (by omega)
              clear hok5 d0 d1 d2 d3 d4
              go_wp2_with fail
              go_roundw
              case rel => exact ⟨k + 1, by omega, by go_num, HNX, HR1, HR2⟩
              case measure => simp [intOf]; omega
            · exact ⟨rfl, .inr ⟨_, rfl, by decide⟩, HLO.out _ (HUP.out _ hbel5)⟩
        · have i1 : ¬ ((k : Int) < (n : Int)) := by omega
          have hall : ts.take k = ts := List.take_of_length_le (by have := HN.out; omega)
          rw [hall] at hok
          have HS := Lib.hid (fun W (h : Has B B (ts.flatMap writeT) W) => Tryz.Builder_String_any B B (ts.flatMap writeT) W h (by have := has_lt h; omega))
          have HM : Hid (mayL ts = true) := mayL_of ts (fun j h => hr1.out j h (by have := HN.out; omega)) (fun j h => hr2.out j h (by have := HN.out; omega))
          have hlen := hok.out.len
          have HLEN : Hid ((ts.flatMap writeT).length ≤ 65536) := by
            show _ ≤ _
            simpa using hlen
          have hst := HS.out wr hok.out.has
          have es := enter_string
          clear hall hr1 hr2 hlen
          go_wp2_with (go_at_fn 24; refine hst.mono ?_; rintro e3 w3 ⟨rfl, h3⟩)
          go_ret
          exact ⟨.inl ⟨rfl, HCH.out, HM.out, HLEN.out⟩, HLO.out _ h3⟩
end Go.Proofs.YtidfcajhmldieaaGreatDoor.Tkw
