/-
  Part 25: TkcAll, TkcLoop, TkcCaught.
-/
import Derived.Test.YtidfcajhmldieaaGreatDoorBackBaseP24
import Derived.Test.YtidfcajhmldieaaGreatDoorBackBaseP19
import Derived.Defers
import Derived.Recover
/-
  Contracts of begun and all of package tokens.
-/
namespace Go.Proofs.YtidfcajhmldieaaGreatDoor.Tkc
open Go.RowKit Go.Proofs.YtidfcajhmldieaaGreatDoor.Oct Go.Proofs.YtidfcajhmldieaaGreatDoor.Utf Go.Proofs.YtidfcajhmldieaaGreatDoor.Crf Go.Proofs.YtidfcajhmldieaaGreatDoor.Tab Go.Proofs.YtidfcajhmldieaaGreatDoor.Tok

theorem drop2 {l : List UInt8} {k : Nat} (h1 : k + 1 < l.length) : l.drop k = l[k] :: l[k + 1] :: l.drop (k + 2) := by
  rw [List.drop_eq_getElem_cons (by omega), List.drop_eq_getElem_cons h1]
theorem op_true {l : List UInt8} {k : Nat} (hk : k < l.length) (h0 : l[k] = 60) (h1 : k + 1 < l.length) (hc : letB l[k + 1] = true ∨ l[k + 1] = 33 ∨ l[k + 1] = 63 ∨ (l[k + 1] = 47 ∧ k + 2 < l.length)) : opens l[k] (l.drop (k + 1)) = true := by
  rw [List.drop_eq_getElem_cons h1, h0]
  show (letB l[k + 1] || l[k + 1] == 33 || l[k + 1] == 63 || (l[k + 1] == 47 && !(l.drop (k + 1 + 1)).isEmpty)) = true
  rcases hc with h | h | h | ⟨h, h2⟩
  · rw [h]; rfl
  · rw [h]; cases letB 33 <;> rfl
  · rw [h]; cases letB 63 <;> rfl
  · rw [h, List.drop_eq_getElem_cons h2]; cases letB 47 <;> rfl
theorem op_cases {l : List UInt8} {k : Nat} (hk : k < l.length) (h : opens l[k] (l.drop (k + 1)) = true) : l[k] = 60 ∧ ∃ h1 : k + 1 < l.length, letB l[k + 1] = true ∨ l[k + 1] = 33 ∨ l[k + 1] = 63 ∨ (l[k + 1] = 47 ∧ k + 2 < l.length) := by
  unfold opens at h
  rw [Bool.and_eq_true, beq_iff_eq] at h
  refine ⟨h.1, ?_⟩
  by_cases h1 : k + 1 < l.length
  · have h2 := h.2
    rw [List.drop_eq_getElem_cons h1] at h2
    simp only [Bool.or_eq_true, Bool.and_eq_true, beq_iff_eq, Bool.not_eq_true'] at h2
    refine ⟨h1, ?_⟩
    rcases h2 with ((h3 | h3) | h3) | ⟨h3, h4⟩
    · exact .inl h3
    · exact .inr (.inl h3)
    · exact .inr (.inr (.inl h3))
    · refine .inr (.inr (.inr ⟨h3, ?_⟩))
      by_cases h5 : k + 2 < l.length
      · exact h5
      · rw [List.drop_eq_nil_of_le (by omega)] at h4
        cases h4
  · have h2 := h.2
    rw [List.drop_eq_nil_of_le (by omega)] at h2
    cases h2
theorem pre_two {l : List UInt8} {k : Nat} {c : UInt8} (hk : k < l.length) (h0 : l[k] = 60) (h1 : k + 1 < l.length) (hc : l[k + 1] = c) : Lib.hasPrefix (l.drop k) [60, c] = true := by
  rw [drop2 h1, h0, hc]
  unfold Lib.hasPrefix
  simp [List.isPrefixOf]
/-- What begun leaves. -/
def BegunTo (R : Nat) (l : List UInt8) (k : Nat) (hk : k < l.length) (w : World) (e : Ending) (w' : World) : Prop :=
  Below w.heap.size w w' ∧ ((opens l[k] (l.drop (k + 1)) = false ∧ e = .returned .nilFunc) ∨ (opens l[k] (l.drop (k + 1)) = true ∧ ∃ g, Reads R l k g ∧ e = .returned (.func (.func g) #[.pointer (some ⟨R, 0, none⟩)] #[])))
set_option maxHeartbeats 4000000 in
set_option maxRecDepth 100000 in
theorem begun_c (R : Nat) (l : List UInt8) (hl : l.length ≤ 65536) (k : Nat) (hk : k < l.length) (v : Value) (w : World) (h : Bx R l k v w) :
    Calls Tryz.prog 26 #[.pointer (some ⟨R, 0, none⟩)] w (BegunTo R l k hk w) := by
  have hsz : ((S l).size : Int) = (l.length : Int) := by rw [size_S]
  have hsz2 : (S l).size = l.length := size_S l
  have c0 : w.cell? ⟨R, 0, none⟩ = some (.string (S l)) := (h.cell 0).trans rfl
  have c1 : w.cell? ⟨R, 1, none⟩ = some (.int .i64 (k : Int)) := (h.cell 1).trans rfl
  have hb0 : Below w.heap.size w (w.alloc (.cells #[.string ⟨#[]⟩] 9)) := (Below.refl _ w).alloc (Nat.le_refl _) _
  have d0 : (w.alloc (.cells #[.string ⟨#[]⟩] 9)).cell? ⟨R, 0, none⟩ = some (.string (S l)) := ((h.keep hb0).cell 0).trans rfl
  have d1 : (w.alloc (.cells #[.string ⟨#[]⟩] 9)).cell? ⟨R, 1, none⟩ = some (.int .i64 (k : Int)) := ((h.keep hb0).cell 1).trans rfl
  have i0 : (0 : Int) ≤ (k : Int) := by omega
  have i1 : (k : Int) ≤ (l.length : Int) := by omega
  have i4 : k ≤ l.length := by omega
  have hcut := (cutFrom (S l) k).trans (by rw [list_S] : S ((S l).data.toList.drop k) = S (l.drop k))
  rw [hsz2] at hcut
  have ho := fun p W => opens_c (l.drop k) p W
  have hbg := fun p b W (h : W.cell? ⟨b, 0, none⟩ = some (.string (S (l.drop k)))) => begins_c (l.drop k) p b W h
  have eb := enter_begins
  have HP := Lib.hid (fun (p : List UInt8) (i : Nat) (c : UInt8) (h : Lib.hasPrefix (l.drop k) p = true) (hc : p[i]? = some c) => pre_at h hc)
  obtain ⟨X, hX⟩ : ∃ X, X = S (l.drop k) := ⟨_, rfl⟩
  rw [← hX] at hcut ho hbg
  have HX := Lib.hid hX
  clear hX h hb0
  generalize S l = L at *
  have x0 : (w.alloc (.cells #[.string X] 9)).cell? ⟨w.heap.size, 0, none⟩ = some (.string X) := (cell_of_row _ _ 0 _ _ _ (heap_alloc_new w _)).trans rfl
  have HB := Lib.hid ((Below.refl w.heap.size w).alloc (Nat.le_refl _) (.cells #[.string X] 9))
  go_enter Tryz.func26, Tryz.ntmps26
  go_wp2
  go_region
  have HB1 : Hid (Below w.heap.size w (w.alloc (.cells #[.string X] 9)).drew) := HB.out.drew
  have y0 : (w.alloc (.cells #[.string X] 9)).drew.cell? ⟨w.heap.size, 0, none⟩ = some (.string X) := x0
  clear x0 d0 d1 c0 c1
  generalize (w.alloc (.cells #[.string X] 9)).drew = W at HB1 y0 ⊢
  cases h1 : opensB (l.drop k) [60] with
  | true =>
    obtain ⟨hp, hk1, hlt⟩ := opensB_at h1
    obtain ⟨_, q0⟩ := HP.out [60] 0 60 hp rfl
    go_wp2_with (first | (go_at_call 36; refine (ho _ _).mono ?_; rintro e1 W1 ⟨rfl, rfl⟩) | (go_at_fn 34; refine (hbg _ _ _ y0).mono ?_; rintro e1 W1 ⟨rfl, rfl⟩))
    go_ret
    exact ⟨HB1.out, .inr ⟨op_true hk q0 hk1 (.inl hlt), _, reads_start hl hk1 hlt, rfl⟩⟩
  | false =>
  cases h2 : opensB (l.drop k) [60, 47] with
  | true =>
    obtain ⟨hp, hk1, hlt⟩ := opensB_at h2
    obtain ⟨_, q0⟩ := HP.out [60, 47] 0 60 hp rfl
    obtain ⟨hk2, q1⟩ := HP.out [60, 47] 1 47 hp rfl
    go_wp2_with (first | (go_at_call 36; refine (ho _ _).mono ?_; rintro e1 W1 ⟨rfl, rfl⟩) | (go_at_fn 34; refine (hbg _ _ _ y0).mono ?_; rintro e1 W1 ⟨rfl, rfl⟩))
    go_ret
    exact ⟨HB1.out, .inr ⟨op_true hk q0 hk2 (.inr (.inr (.inr ⟨q1, hk1⟩))), _, reads_end hl hk1 q1 hlt, rfl⟩⟩
  | false =>
  cases h3 : Lib.hasPrefix (l.drop k) [60, 33, 45, 45] with
  | true =>
    obtain ⟨_, q0⟩ := HP.out _ 0 60 h3 rfl
    obtain ⟨hk2, q1⟩ := HP.out _ 1 33 h3 rfl
    obtain ⟨hk3, _⟩ := HP.out _ 3 45 h3 rfl
    go_wp2_with (first | (go_at_call 36; refine (ho _ _).mono ?_; rintro e1 W1 ⟨rfl, rfl⟩) | (go_at_fn 34; refine (hbg _ _ _ y0).mono ?_; rintro e1 W1 ⟨rfl, rfl⟩))
    go_ret
    exact ⟨HB1.out, .inr ⟨op_true hk q0 hk2 (.inr (.inl q1)), _, reads_com hl hk3 h3, rfl⟩⟩
  | false =>
  cases h4 : Lib.hasPrefix (l.drop k) [60, 33] with
  | true =>
    obtain ⟨_, q0⟩ := HP.out _ 0 60 h4 rfl
    obtain ⟨hk2, q1⟩ := HP.out _ 1 33 h4 rfl
    have hno : [45, 45].isPrefixOf (l.drop (k + 2)) = false := by
      cases hq : [45, 45].isPrefixOf (l.drop (k + 2)) with
      | false => rfl
      | true =>
        rw [drop2 hk2, show l[k] = 60 from q0, q1] at h3
        unfold Lib.hasPrefix at h3
        simp [List.isPrefixOf] at h3
        rw [h3] at hq
        cases hq
    go_wp2_with (first | (go_at_call 36; refine (ho _ _).mono ?_; rintro e1 W1 ⟨rfl, rfl⟩) | (go_at_fn 34; refine (hbg _ _ _ y0).mono ?_; rintro e1 W1 ⟨rfl, rfl⟩))
    go_ret
    exact ⟨HB1.out, .inr ⟨op_true hk q0 hk2 (.inr (.inl q1)), _, reads_bog hl hk2 q0 (.inl ⟨q1, hno⟩), rfl⟩⟩
  | false =>
  cases h5 : Lib.hasPrefix (l.drop k) [60, 63] with
  | true =>
    obtain ⟨_, q0⟩ := HP.out _ 0 60 h5 rfl
    obtain ⟨hk2, q1⟩ := HP.out _ 1 63 h5 rfl
    go_wp2_with (first | (go_at_call 36; refine (ho _ _).mono ?_; rintro e1 W1 ⟨rfl, rfl⟩) | (go_at_fn 34; refine (hbg _ _ _ y0).mono ?_; rintro e1 W1 ⟨rfl, rfl⟩))
    go_ret
    exact ⟨HB1.out, .inr ⟨op_true hk q0 hk2 (.inr (.inr (.inl q1))), _, reads_bog hl hk2 q0 (.inr (.inl q1)), rfl⟩⟩
  | false =>
  have hlist : X.toList = l.drop k := by rw [HX.out, ByteArray.toList_eq, list_S]
  cases h6 : Lib.hasPrefix (l.drop k) [60, 47] with
  | true =>
    obtain ⟨_, q0⟩ := HP.out _ 0 60 h6 rfl
    obtain ⟨hk2, q1⟩ := HP.out _ 1 47 h6 rfl
    by_cases h7 : k + 2 < l.length
    · have hne : (X.toList == [60, 47]) = false := by
        rw [beq_eq_false_iff_ne, hlist]
        intro e
        have := congrArg List.length e
        rw [List.length_drop] at this
        simp at this
        omega
      have hlt := opensB_no h2 h6 h7
      clear hlist
      go_wp2_with (first | (go_at_call 36; refine (ho _ _).mono ?_; rintro e1 W1 ⟨rfl, rfl⟩) | (go_at_fn 34; refine (hbg _ _ _ y0).mono ?_; rintro e1 W1 ⟨rfl, rfl⟩))
      go_ret
      exact ⟨HB1.out, .inr ⟨op_true hk q0 hk2 (.inr (.inr (.inr ⟨q1, h7⟩))), _, reads_bog hl hk2 q0 (.inr (.inr ⟨q1, h7, hlt⟩)), rfl⟩⟩
    · have hne : (X.toList == [60, 47]) = true := by
        rw [beq_iff_eq, hlist, drop2 hk2, List.drop_eq_nil_of_le (by omega), show l[k] = 60 from q0, q1]
      have hop : opens l[k] (l.drop (k + 1)) = false := by
        cases ho : opens l[k] (l.drop (k + 1)) with
        | false => rfl
        | true =>
          exfalso
          obtain ⟨_, _, hc⟩ := op_cases hk ho
          have hl47 : letB 47 = false := by decide
          rw [q1] at hc
          rcases hc with h | h | h | ⟨_, h⟩
          · rw [hl47] at h; cases h
          · exact absurd h (by decide)
          · exact absurd h (by decide)
          · exact h7 h
      clear hlist
      go_wp2_with (first | (go_at_call 36; refine (ho _ _).mono ?_; rintro e1 W1 ⟨rfl, rfl⟩) | (go_at_fn 34; refine (hbg _ _ _ y0).mono ?_; rintro e1 W1 ⟨rfl, rfl⟩))
      go_ret
      exact ⟨HB1.out, .inl ⟨hop, rfl⟩⟩
  | false =>
    have hop : opens l[k] (l.drop (k + 1)) = false := by
      cases ho : opens l[k] (l.drop (k + 1)) with
      | false => rfl
      | true =>
        exfalso
        obtain ⟨q0, hk1, hc⟩ := op_cases hk ho
        rcases hc with h | h | h | ⟨h, _⟩
        · have hp : Lib.hasPrefix (l.drop k) [60] = true := by
            rw [drop2 hk1, q0]
            unfold Lib.hasPrefix
            simp [List.isPrefixOf]
          have h9 : letB l[k + 1] = false := opensB_no h1 hp hk1
          rw [h] at h9
          cases h9
        · rw [pre_two hk q0 hk1 h] at h4; cases h4
        · rw [pre_two hk q0 hk1 h] at h5; cases h5
        · rw [pre_two hk q0 hk1 h] at h6; cases h6
    clear hlist
    go_wp2_with (first | (go_at_call 36; refine (ho _ _).mono ?_; rintro e1 W1 ⟨rfl, rfl⟩) | (go_at_fn 34; refine (hbg _ _ _ y0).mono ?_; rintro e1 W1 ⟨rfl, rfl⟩))
    go_ret
    exact ⟨HB1.out, .inl ⟨hop, rfl⟩⟩
end Go.Proofs.YtidfcajhmldieaaGreatDoor.Tkc

/-
  Contract of all of package tokens: the whole text read.
-/
namespace Go.Proofs.YtidfcajhmldieaaGreatDoor.Tkc
open Go.RowKit Go.Proofs.YtidfcajhmldieaaGreatDoor.Oct Go.Proofs.YtidfcajhmldieaaGreatDoor.Utf Go.Proofs.YtidfcajhmldieaaGreatDoor.Crf Go.Proofs.YtidfcajhmldieaaGreatDoor.Tab Go.Proofs.YtidfcajhmldieaaGreatDoor.Tok

theorem eql_fn (w : World) (g : Nat) (first cap : Array Value) : (binOp .eql 1 (.func (.func g) first cap) .nilFunc).run Tryz.prog w = .ok (.bool false) w := by
  have h : Tryz.prog.underlying 1 = some (.func #[] #[] false) := Tryz.underlying1
  have hd : ∀ d : Nat, (Op.equalIn (d + 1) 1 (.func (.func g) first cap) .nilFunc).run Tryz.prog w = .ok false w := fun d => by
    simp [Op.equalIn, run_underlying h]
  simp only [binOp]
  simp [Op.equal, Op.maxDepth, hd 9999]
theorem eql_nofn (w : World) : (binOp .eql 1 .nilFunc .nilFunc).run Tryz.prog w = .ok (.bool true) w := by
  have h : Tryz.prog.underlying 1 = some (.func #[] #[] false) := Tryz.underlying1
  have hd : ∀ d : Nat, (Op.equalIn (d + 1) 1 .nilFunc .nilFunc).run Tryz.prog w = .ok true w := fun d => by
    simp [Op.equalIn, run_underlying h]
  simp only [binOp]
  simp [Op.equal, Op.maxDepth, hd 9999]
/-- What all leaves: the tokens are too many, or they are told. -/
inductive AllTo (R : Nat) (l : List UInt8) (w : World) (e : Ending) (w' : World) : Prop
  | many (he : e = Fault 3) (hn : 4096 < (tokL l).length) (hb : Below R w w')
  | done (he : e = .returned (.tuple #[])) (k : Nat) (v : Value) (ps : List (Tk × Value)) (h : RdT R l k v ps w') (hn : ps.length ≤ 4096) (hd : ps.map Prod.fst = tokL l) (hb : Below R w w')
theorem grown_q {w w' : World} {q : Nat} (h : w' = w.drewN q) : Below w.heap.size w w' := h ▸ Oct.below_drewN (Below.refl _ w) q
set_option maxHeartbeats 8000000 in
set_option maxRecDepth 100000 in
theorem all_c (R : Nat) (l : List UInt8) (hl : l.length ≤ 65536) (w : World) (h : RdT R l 0 (.slice none 0 0) [] w) (hM : MaxAt w) (hRM : 0 < R) :
    Calls Tryz.prog 14 #[.pointer (some ⟨R, 0, none⟩)] w (AllTo R l w) := by
  have hsz : ((S l).size : Int) = (l.length : Int) := by rw [size_S]
  have HX : Hid (∀ j v W, Bx R l j v W → W.cell? ⟨R, 0, none⟩ = some (.string (S l)) ∧ W.cell? ⟨R, 1, none⟩ = some (.int .i64 (j : Int)) ∧ W.frozen? ⟨R, 1, none⟩ = false) := fun j v W h => ⟨(h.cell 0).trans rfl, (h.cell 1).trans rfl, h.froz 1⟩
  have HM : Hid (∀ W, Below R w W → MaxAt W) := fun W hW => by
    obtain ⟨m, hm⟩ := hM
    exact ⟨m, (hW.cell (p := ⟨0, 0, none⟩) hRM).trans hm⟩
  have H0 := Lib.hid h
  have hlow := h.low
  clear h hM hRM
  generalize S l = L at *
  go_enter Tryz.func14, Tryz.ntmps14
  go_wp2_with fail
  go_loopw [2] (fun m wr => ∃ (f k : Nat) (v : Value) (ps : List (Tk × Value)), m = .int .i64 (f : Int) ∧ f ≤ k ∧ k ≤ l.length ∧ ps.length ≤ 4096 ∧ Hid (RdT R l k v ps wr) ∧ Hid (DataMid l f k (ps.map Prod.fst)) ∧ Hid (Below R w wr)) (fun _ wr => l.length - atOf R wr)
  case atStart => exact ⟨0, 0, _, [], rfl, Nat.le_refl _, Nat.zero_le _, Nat.zero_le _, H0.out, data_start l, Below.refl R w⟩
  case round =>
    clear H0
    obtain ⟨f, k, v, ps, rfl, hf, hkl, hn, hT, hD, hB⟩ := hrel
    obtain ⟨x0, x1, z1⟩ := HX.out _ _ _ hT.out.box
    have hAt := Lib.hid (hT.out.box.atOf)
    have i0 : (0 : Int) ≤ (k : Int) := by omega
    have i1 : (k : Int) ≤ (l.length : Int) := by omega
    have i2 : (l.length : Int) ≤ 65536 := by omega
    have hcl1 : (cut l f k).length ≤ 4398046511104 := Nat.le_trans (cut_len_le l f k) (by omega)
    have hsi := fun W (h : Bx R l k v W) => since_c R l k f v W h hf hkl
    have hde := fun W => decode_c (cut l f k) hcl1 W
    have htl := fun W (h : RdT R l k v ps W) => tellText_c R l k v ps W h (decL' (cut l f k)) hn
    by_cases hk : k < l.length
    · have hd : decide ((k : Int) < (l.length : Int)) = true := decide_eq_true (by omega)
      go_wp2_with fail
      go_quiet (fail)
      have T1 := hT.out.grow (Oct.below_drewN (Below.refl _ wr) nq)
      have HT1 := Lib.hid (And.intro T1 (hB.out.trans ((Oct.below_drewN (Below.refl _ wr) nq).mono hT.out.low)))
      have hbe := begun_c R l hl k hk v _ T1.box
      clear T1 x0 x1 z1
      generalize wr.drewN nq = w1 at HT1 hbe ⊢
      go_wp2_with fail
      refine hbe.mono ?_
      clear hbe
      rintro e2 w2 ⟨hb2, (⟨hop, rfl⟩ | ⟨hop, g, ⟨eg, hread⟩, rfl⟩)⟩
      · have T2 := HT1.out.1.grow hb2
        have HT2 := Lib.hid (And.intro T2 (HT1.out.2.trans (hb2.mono HT1.out.1.low)))
        obtain ⟨y0, y1, z2⟩ := HX.out _ _ _ T2.box
        have HD2 := Lib.hid (data_go hk hf hop hD.out)
        have hq := eql_nofn w2
        clear T2 hb2 hop
        go_wp2_with fail
        go_roundw
        case rel => exact ⟨f, k + 1, v, ps, rfl, by omega, by omega, hn, HT2.out.1.keep (Keeps.set _ _) (HT2.out.1.box.at_ (k + 1)), HD2.out, HT2.out.2.trans ((Keeps.set w2 _).below HT2.out.1.low)⟩
        case measure =>
          have e1 := hAt.out
          have e2 := (HT2.out.1.box.at_ (k + 1)).atOf
          show l.length - atOf R _ < l.length - atOf R _
          rw [e1]
          have e3 : atOf R (w2.setCell ⟨R, 1, none⟩ (.int .i64 ((k : Int) + 1))) = k + 1 := e2
          first | (rw [e3]; omega) | (simp only [e3]; omega) | (rw [e2]; omega)
      · have HT2 := Lib.hid (And.intro (HT1.out.1.grow hb2) (HT1.out.2.trans (hb2.mono HT1.out.1.low)))
        have hopen := data_open hk hop hD.out
        have HO : Hid (OpenAt l k ((ps ++ txP (decL' (cut l f k))).map Prod.fst)) := by
          show OpenAt _ _ _
          rw [List.map_append, txP_fst]
          exact hopen
        have HRd := Lib.hid hread
        have hq := eql_fn w2 g #[.pointer (some ⟨R, 0, none⟩)] #[]
        clear hb2 hop hopen hread
        go_wp2_with (first
          | (go_at_call 29; refine (hsi _ HT2.out.1.box).mono ?_; rintro e3 w3 ⟨rfl, m3, hw3⟩; have HT3 := Lib.hid (And.intro (HT2.out.1.grow (grown_q hw3)) (HT2.out.2.trans ((grown_q hw3).mono HT2.out.1.low))); clear hw3)
          | (go_at_call 28; refine (hde _).mono ?_; rintro e4 w4 ⟨rfl, h4⟩; have HT4 := Lib.hid (And.intro (HT3.out.1.grow h4) (HT3.out.2.trans (h4.mono HT3.out.1.low))); clear h4))
        refine (htl _ HT4.out.1).mono ?_
        intro e5 w5 ht
        cases ht with
        | many he hn5 hb5 =>
          subst he
          refine ⟨rfl, .many rfl ?_ (HT4.out.2.trans hb5)⟩
          have := data_len HO.out
          rw [List.length_map] at this
          exact Nat.lt_of_lt_of_le hn5 this
        | done he hn5 v5 h5 hm5 =>
          subst he
          have hb5 := HT4.out.2.trans (hm5.below HT4.out.1.low (own_ge HT4.out.1.out))
          have hrd := HRd.out w5 v5 _ h5 hn5 HO.out (HM.out w5 hb5)
          have H5 := Lib.hid (And.intro h5 hb5)
          clear h5 hm5 hb5
          go_wp2_with (go_at_fn g; fail)
          refine hrd.mono ?_
          clear hrd
          intro e6 w6 hw6
          cases hw6 with
          | many he hn6 hb6 =>
            subst he
            exact ⟨rfl, .many rfl hn6 (H5.out.2.trans hb6)⟩
          | done he k6 v6 ps6 h6 hk6 hk60 hn6 hd6 hb6 =>
            subst he
            obtain ⟨u0, u1, u2⟩ := HX.out _ _ _ h6.box
            have H6 := Lib.hid (And.intro h6 (And.intro hd6 (H5.out.2.trans hb6)))
            clear h6 hd6 hb6
            go_wp2_with fail
            go_roundw
            case rel => exact ⟨k6, k6, v6, ps6, rfl, Nat.le_refl _, hk6, hn6, H6.out.1, H6.out.2.1, H6.out.2.2⟩
            case measure =>
              have e1 := hAt.out
              have e2 := H6.out.1.box.atOf
              show l.length - atOf R _ < l.length - atOf R _
              rw [e1, e2]
              omega
    · have hd : decide ((k : Int) < (l.length : Int)) = false := decide_eq_false (by omega)
      have hend := data_end hk hD.out
      have HE : Hid ((ps ++ txP (decL' (cut l f k))).map Prod.fst = tokL l) := by
        show _ = _
        rw [List.map_append, txP_fst]
        exact hend.symm
      clear hend
      go_wp2_with fail
      go_quiet (fail)
      have HT2 := Lib.hid (And.intro (hT.out.grow (Oct.below_drewN (Below.refl _ wr) nq)) (hB.out.trans ((Oct.below_drewN (Below.refl _ wr) nq).mono hT.out.low)))
      clear x0 x1 z1
      generalize wr.drewN nq = w2 at HT2 ⊢
      go_wp2_with (first
        | (go_at_call 29; refine (hsi _ HT2.out.1.box).mono ?_; rintro e3 w3 ⟨rfl, m3, hw3⟩; have HT3 := Lib.hid (And.intro (HT2.out.1.grow (grown_q hw3)) (HT2.out.2.trans ((grown_q hw3).mono HT2.out.1.low))); clear hw3)
        | (go_at_call 28; refine (hde _).mono ?_; rintro e4 w4 ⟨rfl, h4⟩; have HT4 := Lib.hid (And.intro (HT3.out.1.grow h4) (HT3.out.2.trans (h4.mono HT3.out.1.low))); clear h4))
      refine (htl _ HT4.out.1).mono ?_
      intro e5 w5 ht
      cases ht with
      | many he hn5 hb5 =>
        subst he
        refine ⟨rfl, .many rfl ?_ (HT4.out.2.trans hb5)⟩
        rw [← HE.out, List.length_map]
        exact hn5
      | done he hn5 v5 h5 hm5 =>
        subst he
        have H5 := Lib.hid (And.intro h5 (HT4.out.2.trans (hm5.below HT4.out.1.low (own_ge HT4.out.1.out))))
        clear h5 hm5
        go_wp2_with fail
        go_end0
        exact .done rfl k v5 _ H5.out.1 hn5 HE.out H5.out.2
end Go.Proofs.YtidfcajhmldieaaGreatDoor.Tkc

/-
  Contracts of faults.Caught at one of its instances, over whatever closure is handed in.
-/
namespace Go.Proofs.YtidfcajhmldieaaGreatDoor.Tkc
open Go.RowKit Go.Proofs.YtidfcajhmldieaaGreatDoor.Oct

theorem assert_fault (x : Value) (xT : TypeId) (w : World) : (Instr.typeAssert (.iface 44 x) xT 44 true).run Tryz.prog w = .ok (.tuple #[x, .bool true]) w := by kernel_rfl
theorem assert_nil (xT : TypeId) (w : World) : (Instr.typeAssert .nilIface xT 44 true).run Tryz.prog w = .ok (.tuple #[.agg #[.int .i64 0], .bool false]) w := by kernel_rfl

set_option maxHeartbeats 4000000 in
set_option maxRecDepth 100000 in
theorem catch_none (r : Nat) (w : World) :
    CallsD Tryz.prog 25 #[.pointer (some ⟨r, 0, none⟩)] .returning w fun e u' w' =>
      e = .returned (.tuple #[]) ∧ u' = .returning ∧ Below w.heap.size w w' := by
  have hta := assert_nil
  refine callsD_of_wpS Tryz.func25 rfl fun c₀ cs hu => ?_
  apply wpS_seq
  apply wpS_region
  simp [wpOpsS, go_sem, recoverD, hu, Tryz.ntmps25, Exit.thenS]
  refine wpS_of_wp ?_
  simp only [List.replicate, Array.replicate, List.setIfInBounds_toArray, List.set_cons_succ, List.set_cons_zero, List.append_toArray, List.cons_append, List.nil_append]
  go_wp2_with fail
  simp only [bodyPostS]
  exact ⟨trivial, .returning, by cases c₀; simp_all, .tuple #[], by simp [results, Tryz.results25], rfl, rfl, (Below.refl _ w).alloc (Nat.le_refl _) _⟩

set_option maxHeartbeats 400000 in
set_option maxRecDepth 100000 in
theorem catch_fault (r : Nat) (n x : Int) (w : World) (hx : w.cell? ⟨r, 0, none⟩ = some (.int .i64 x)) (hz : w.frozen? ⟨r, 0, none⟩ = false) (hr : r < w.heap.size) :
    CallsD Tryz.prog 25 #[.pointer (some ⟨r, 0, none⟩)] (.panicking [{ v := faultV n, recovered := false }]) w fun e u' w' =>
      e = .returned (.tuple #[]) ∧ u' = .panicking [{ v := faultV n, recovered := true }] ∧ w' = (w.setCell ⟨r, 0, none⟩ (.int .i64 n)).alloc (.cells #[.int .i64 n] 44) := by
  have hb := (Below.refl w.heap.size w).alloc (Nat.le_refl _) (.cells #[.int .i64 n] 44)
  have hx1 := (hb.cell (p := ⟨r, 0, none⟩) hr).trans hx
  have hz1 := (hb.frozen (p := ⟨r, 0, none⟩) hr).trans hz
  have hnc : (w.alloc (.cells #[.int .i64 n] 44)).cell? ⟨w.heap.size, 0, none⟩ = some (.int .i64 n) := cell_of_row _ w.heap.size 0 _ _ _ (heap_alloc_new w _)
  clear hb
  have hta := assert_fault (.agg #[.int .i64 n])
  refine callsD_of_wpS Tryz.func25 rfl fun c₀ cs hu => ?_
  replace hu : c₀.mode = .panicking [{ v := .iface 44 (.agg #[.int .i64 n]), recovered := false }] := hu
  apply wpS_seq
  apply wpS_region
  simp [wpOpsS, go_sem, recoverD, hu, Tryz.ntmps25, Exit.thenS]
  refine wpS_of_wp ?_
  simp only [List.replicate, Array.replicate, List.setIfInBounds_toArray, List.set_cons_succ, List.set_cons_zero, List.append_toArray, List.cons_append, List.nil_append]
  go_wp2_with fail
  show bodyPostS _ _ _ _ _ _ _ _ _
  simp only [bodyPostS]
  exact ⟨trivial, .panicking [{ v := faultV n, recovered := true }], by cases c₀; simp_all, .tuple #[], by simp [results, Tryz.results25], rfl, rfl, (by first | trivial | rfl)⟩

/-- The error's box. -/
abbrev errBox (w : World) : World := w.alloc (.cells #[.int .i64 0] 24)
/-- The world behind the closure's, with the error's box written. -/
theorem caught_fin {w W X : World} {n : Int} (hb : Below (errBox w).heap.size (errBox w) W) (hX : Below W.heap.size (W.setCell ⟨w.heap.size, 0, none⟩ (.int .i64 n)) X) :
    Below w.heap.size w X ∧ X.cell? ⟨w.heap.size, 0, none⟩ = some (.int .i64 n) ∧ ∀ b, w.heap.size + 1 ≤ b → b < W.heap.size → X.heap[b]? = W.heap[b]? := by
  have hsz : (errBox w).heap.size = w.heap.size + 1 := Array.size_push _
  have hlt : w.heap.size < W.heap.size := by have := hb.size; omega
  have hW : Below w.heap.size w W := ((Below.refl _ w).alloc (Nat.le_refl _) _).trans (hb.mono (by omega))
  have hbox : W.heap[w.heap.size]? = some (.cells #[.int .i64 0] 24 (0, 0)) := (hb.block _ (by omega)).trans (heap_alloc_new w _)
  have hset := heap_setCell_same W w.heap.size 0 _ _ (.int .i64 n) hbox
  refine ⟨(hW.setCell (p := ⟨w.heap.size, 0, none⟩) (Nat.le_refl _) _).trans (hX.mono (Nat.le_of_lt hlt)), cell_of_row X w.heap.size 0 _ _ _ ((hX.block _ hlt).trans hset), fun b h1 h2 => (hX.block b h2).trans (heap_setCell_other _ _ _ _ (by simp; omega))⟩

set_option maxHeartbeats 400000 in
set_option maxRecDepth 100000 in
theorem caught_any (g : Nat) (lb : Array Value) (w : World) (F : Int → World → Prop) (V : Value → World → Prop) (eg : ∀ args w, (callFunc g args).run Tryz.prog w = .ok (.enter g args) w)
    (hc : Calls Tryz.prog g lb (errBox w) fun e W => Below (errBox w).heap.size (errBox w) W ∧ ((∃ n, e = Fault n ∧ F n W) ∨ ∃ v, e = .returned v ∧ V v W)) :
    Calls Tryz.prog 12 #[.func (.func g) #[] lb] w fun e w' => ∃ W, Below w.heap.size w w' ∧ (∀ b, w.heap.size + 1 ≤ b → b < W.heap.size → w'.heap[b]? = W.heap[b]?) ∧
      ((∃ n, e = .returned (.tuple #[.slice none 0 0, .int .i64 n]) ∧ F n W) ∨ ∃ v, e = .returned (.tuple #[v, .int .i64 0]) ∧ V v W) := by
  have hmf : ∀ (fn : Fn) (first cap : Array Value) (w : World), (Instr.makeFunc fn first cap).run Tryz.prog w = .ok (.func fn first cap) w := fun _ _ _ _ => rfl
  have hsz : (errBox w).heap.size = w.heap.size + 1 := Array.size_push _
  have HC := Lib.hid hc
  clear hc
  go_enter_defers Tryz.func12, Tryz.ntmps12
  have HF : Hid (∀ W, Below (errBox w).heap.size (errBox w) W → W.cell? ⟨w.heap.size, 0, none⟩ = some (.int .i64 0) ∧ W.frozen? ⟨w.heap.size, 0, none⟩ = false ∧ w.heap.size < W.heap.size) := fun W hb => by
    have hbox : W.heap[w.heap.size]? = some (.cells #[.int .i64 0] 24 (0, 0)) := (hb.block _ (by omega)).trans (heap_alloc_new w _)
    exact ⟨(cell_of_row W w.heap.size 0 _ _ _ hbox).trans rfl, frozen_of_row W w.heap.size 0 _ _ hbox, (Array.getElem?_eq_some_iff.1 hbox).1⟩
  go_wp2_with (go_at_fn g; refine HC.out.mono ?_; rintro e1 W1 ⟨hb, (⟨n, rfl, hF⟩ | ⟨v, rfl, hV⟩)⟩ <;> obtain ⟨xc, xz, xl⟩ := HF.out W1 hb)
  · refine leaves_cons (f := 25) (args := #[.pointer (some ⟨w.heap.size, 0, none⟩)]) (by simp) (by simp [go_sem]) ?_
    refine (catch_fault w.heap.size n 0 W1 xc xz xl).mono ?_
    rintro e u' w'' ⟨rfl, rfl, hw''⟩
    obtain ⟨f1, f2, f3⟩ := caught_fin hb (n := n) (X := w'') (by rw [hw'']; exact (by simpa using (Below.refl (W1.setCell ⟨w.heap.size, 0, none⟩ (.int .i64 n)).heap.size (W1.setCell ⟨w.heap.size, 0, none⟩ (.int .i64 n))).alloc (Nat.le_refl _) (.cells #[.int .i64 n] 44)))
    clear hw''
    simp [Leaves, settle, results, Tryz.results12, go_sem, f2]
    exact ⟨f1, W1, f3, .inl hF⟩
  · refine leaves_cons (f := 25) (args := #[.pointer (some ⟨w.heap.size, 0, none⟩)]) (by simp) (by simp [go_sem]) ?_
    refine (catch_none w.heap.size _).mono ?_
    rintro e u' w'' ⟨rfl, rfl, hw''⟩
    obtain ⟨f1, f2, f3⟩ := caught_fin hb (n := 0) (X := w'') (by simpa using hw'')
    clear hw''
    simp [Leaves, settle, results, Tryz.results12, go_sem, f2]
    exact ⟨f1, W1, f3, .inr hV⟩
end Go.Proofs.YtidfcajhmldieaaGreatDoor.Tkc
