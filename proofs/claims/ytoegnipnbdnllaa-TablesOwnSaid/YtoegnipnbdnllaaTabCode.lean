/-
  Contracts of package tables: specials, Element, Elements, Attribute, Void, and of the closures that they look by.
-/
import Derived.Test.YtoegnipnbdnllaaTabPage
import Derived.Test.YtoegnipnbdnllaaShelf
import Derived.OwnWalk
import Derived.ProofKit
namespace Go.Proofs.Ytoegnipnbdnllaa.Tab
open Go.RowKit Go.Proofs.Ytoegnipnbdnllaa.Oct

/-! ### The row of elements -/
/-- The elements of 1 to 4 as they lie in a block: two cells each, a name and a kind. -/
def Specs (g : Nat) (w : World) : Prop := ∀ j, (h : j < elsL.length) → w.cell? ⟨g, j * 2, none⟩ = some (.string (S elsL[j])) ∧ w.cell? ⟨g, j * 2 + 1, none⟩ = some (.int .i64 (codeN j : Nat))
theorem Specs.kept {g : Nat} {w w' : World} (h : Specs g w) (hb : Below w.heap.size w w') : Specs g w' := fun j hj =>
  ⟨(hb.cell (World.block_lt_of_cell? w _ (h j hj).1)).trans (h j hj).1, (hb.cell (World.block_lt_of_cell? w _ (h j hj).2)).trans (h j hj).2⟩
abbrev specA : Array Value := (((List.range 10).zip elsL).flatMap fun p => [Value.string (S p.2), Value.int .i64 (codeN p.1 : Nat)]).toArray
theorem laid_specs (w : World) : Specs w.heap.size (w.alloc (.cells specA 35)) := by
  have hh : (w.alloc (.cells specA 35)).heap[w.heap.size]? = some (.cells specA 35 (0, 0)) := heap_alloc_new w _
  have hall : ∀ j : Fin 10, specA[j.val * 2]? = some (.string (S elsL[j.val])) ∧ specA[j.val * 2 + 1]? = some (.int .i64 (codeN j.val : Nat)) := by
    intro ⟨j, hj⟩
    have : j = 0 ∨ j = 1 ∨ j = 2 ∨ j = 3 ∨ j = 4 ∨ j = 5 ∨ j = 6 ∨ j = 7 ∨ j = 8 ∨ j = 9 := by omega
    rcases this with rfl | rfl | rfl | rfl | rfl | rfl | rfl | rfl | rfl | rfl <;> exact ⟨rfl, rfl⟩
  intro j h
  have hj := hall ⟨j, h⟩
  unfold World.cell?
  rw [hh]
  exact ⟨by simpa using hj.1, by simpa using hj.2⟩
theorem specials_c (w : World) :
    Calls Try.prog 16 #[] w fun e w' => ∃ g, e = .returned (.slice (some ⟨g, 0, none⟩) 10 10) ∧ Specs g w' ∧ Below w.heap.size w w' := by
  go_enter Try.func16, Try.ntmps16
  go_wp2_with fail
  go_ret
  exact ⟨_, rfl, laid_specs w, (Below.refl _ w).alloc (Nat.le_refl _) _⟩

/-! ### Element -/
theorem same_name (x s : List UInt8) (c : Int) (b : Nat) (w : World) (hb : w.cell? ⟨b, 0, none⟩ = some (.string (S s))) (hlt : b < w.heap.size) :
    Calls Try.prog 18 #[.agg #[.string (S x), .int .i64 c], .pointer (some ⟨b, 0, none⟩)] w fun e w' => e = .returned (.bool (decide (x = s))) ∧ Below w.heap.size w w' := by
  have he := eqT x s
  generalize decide (x = s) = ans at he ⊢
  generalize S x = X at he ⊢
  generalize S s = T at he hb
  have hb2 : (w.alloc (.cells #[.string X, .int .i64 c] 35)).cell? ⟨b, 0, none⟩ = some (.string T) := by rw [World.cell?_alloc_past _ _ _ hlt]; exact hb
  go_enter Try.func18, Try.ntmps18
  go_wp2_with fail
  go_ret
  exact ⟨rfl, (Below.refl _ w).alloc (Nat.le_refl _) _⟩
theorem enter_same : ∀ args w, (callFunc 18 args).run Try.prog w = .ok (.enter 18 args) w := enters_of Try.func18 (by kernel_rfl) rfl
def placeI (s : List UInt8) : Int := match placeL s elsL with
  | some k => (k : Nat)
  | none => -1
set_option maxHeartbeats 2000000 in
theorem index_c (s : List UInt8) (g b : Nat) (w : World) (hs : Specs g w) (hb : w.cell? ⟨b, 0, none⟩ = some (.string (S s))) :
    Calls Try.prog 17 #[.slice (some ⟨g, 0, none⟩) 10 10, .func (.func 18) #[] #[.pointer (some ⟨b, 0, none⟩)]] w
      fun e w' => e = .returned (.int .i64 (placeI s)) ∧ Below w.heap.size w w' := by
  have hlt := World.block_lt_of_cell? w _ hb
  have eg := enter_same
  have HS := Lib.hid hs
  have HC := Lib.hid (fun (W : World) (h : Below w.heap.size w W) (x : List UInt8) (c : Int) => same_name x s c b W ((h.cell hlt).trans hb) (Nat.lt_of_lt_of_le hlt h.size))
  have HP : Hid (∀ k, (hk : k < elsL.length) → (∀ j, (h : j < elsL.length) → j < k → elsL[j] ≠ s) → elsL[k] = s → placeI s = (k : Nat)) := fun k hk hn he => by
    unfold placeI
    rw [place_some hk hn he]
  have HQ : Hid ((∀ k, (h : k < elsL.length) → elsL[k] ≠ s) → placeI s = -1) := fun h => by
    unfold placeI
    rw [place_none h]
  generalize placeI s = ans at HP HQ ⊢
  clear hs hb hlt
  go_enter Try.func17, Try.ntmps17
  go_wp2
  go_loopw [5, 8] (fun _ i wr => ∃ k : Nat, k ≤ 10 ∧ i = .int .i64 k ∧ Hid (Below w.heap.size w wr) ∧ Hid (∀ j, (h : j < elsL.length) → j < k → elsL[j] ≠ s)) (fun _ i _ => 10 - (intOf i).toNat)
  case atStart => exact ⟨0, Nat.zero_le _, rfl, Below.refl _ _, fun j _ h => absurd h (by omega)⟩
  case round =>
    obtain ⟨k, hk, rfl, hbel, hno⟩ := hrel
    by_cases hlt : k < 10
    · have hlt2 : k < elsL.length := hlt
      obtain ⟨c1, c2⟩ := (HS.out.kept hbel.out) k hlt2
      have hcall := HC.out wr hbel.out elsL[k] (codeN k : Nat)
      have hp := HP.out k hlt2 hno.out
      have i0 : (0 : Int) ≤ (k : Int) := by omega
      have i1 : (k : Int) < 10 := by omega
      generalize (codeN k : Int) = c at c2 hcall
      obtain ⟨x, hx⟩ : ∃ x, x = elsL[k] := ⟨_, rfl⟩
      rw [← hx] at c1 hcall hp
      have HX := Lib.hid hx
      clear hx
      by_cases hq : x = s
      · have HR := Lib.hid (hp hq)
        rw [decide_eq_true hq] at hcall
        clear hq hp
        generalize S x = X at c1 hcall
        go_wp2_with (go_at_fn 18; refine hcall.mono ?_; rintro e w' ⟨rfl, hb'⟩)
        go_ret
        exact ⟨ret_int (by rw [HR.out]), hbel.out.trans (hb'.mono hbel.out.size)⟩
      · have HN : Hid (∀ j, (h : j < elsL.length) → j < k + 1 → elsL[j] ≠ s) := fun j h hj => by
          rcases Nat.lt_or_ge j k with h2 | h2
          · exact hno.out j h h2
          · obtain rfl : j = k := by omega
            rw [← HX.out]; exact hq
        rw [decide_eq_false hq] at hcall
        clear hq hp
        generalize S x = X at c1 hcall
        go_wp2_with (go_at_fn 18; refine hcall.mono ?_; rintro e w' ⟨rfl, hb'⟩)
        go_roundw
        case rel => exact ⟨k + 1, by omega, by go_num, hbel.out.trans (hb'.mono hbel.out.size), HN⟩
        case measure => simp [intOf]; omega
    · have HR := Lib.hid (HQ.out fun j h => hno.out j h (by have : j < 10 := h; omega))
      go_wp2
      go_ret
      exact ⟨ret_int (by rw [HR.out]), hbel.out⟩

theorem place_lt {s : List UInt8} : ∀ {l : List (List UInt8)} {k : Nat}, placeL s l = some k → k < l.length
  | [], k, h => by cases h
  | x :: r, k, h => by
    unfold placeL at h
    split at h
    · cases h; simp
    · cases hp : placeL s r with
      | none => rw [hp] at h; cases h
      | some m =>
        rw [hp] at h
        cases h
        have := place_lt hp
        simp only [List.length_cons]
        omega
set_option maxHeartbeats 1000000 in
theorem element_c (s : List UInt8) (w : World) :
    Calls Try.prog 6 #[.string (S s)] w fun e w' => e = .returned (.int .i64 (elemN s : Nat)) ∧ Below w.heap.size w w' := by
  have hx := fun g b W => index_c s g b W
  have E0 : Hid (placeL s elsL = none → placeI s = -1 ∧ elemN s = 0) := fun h => by unfold placeI elemN; rw [h]; exact ⟨rfl, rfl⟩
  have E1 : Hid (∀ k, placeL s elsL = some k → placeI s = (k : Nat) ∧ elemN s = codeN k ∧ k < 10) := fun k h => by
    have hl : k < elsL.length := place_lt h
    unfold placeI elemN
    rw [h]
    exact ⟨rfl, rfl, hl⟩
  generalize elemN s = ans at E0 E1 ⊢
  generalize placeI s = at0 at E0 E1 hx
  generalize placeL s elsL = pl at E0 E1
  generalize S s = T at hx ⊢
  have hc0 : (w.alloc (.cells #[.string T] 9)).cell? ⟨w.heap.size, 0, none⟩ = some (.string T) := by simp
  have HC0 := Lib.hid hc0
  clear hc0
  go_enter Try.func6, Try.ntmps6
  go_wp2_with fail
  refine (specials_c _).mono ?_
  rintro e w1 ⟨g, rfl, hs, hb1⟩
  have hcell : w1.cell? ⟨w.heap.size, 0, none⟩ = some (.string T) := (hb1.cell (by simp)).trans HC0.out
  have HB1 : Hid (Below w.heap.size w w1) := ((Below.refl _ w).alloc (Nat.le_refl _) _).trans (hb1.mono (by simp))
  have hcall := hx g w.heap.size w1 hs hcell
  have HS := Lib.hid hs
  clear hs hb1 hx HC0 hcell
  go_wp2_with fail
  refine hcall.mono ?_
  rintro e w2 ⟨rfl, hb2⟩
  have HS2 := Lib.hid (HS.out.kept hb2)
  have HB2 : Hid (Below w.heap.size w w2) := HB1.out.trans (hb2.mono HB1.out.size)
  clear hb2 hcall HS HB1
  cases pl with
  | none =>
    obtain ⟨rfl, rfl⟩ := E0.out rfl
    clear E0 E1
    go_wp2_with fail
    go_ret
    exact ⟨rfl, HB2.out⟩
  | some k =>
    obtain ⟨rfl, rfl, hk⟩ := E1.out k rfl
    clear E0 E1
    have c2 := (HS2.out k hk).2
    have i0 : (0 : Int) ≤ (k : Int) := by omega
    have i1 : (k : Int) < 10 := by omega
    have i2 : ¬ (k : Int) < 0 := by omega
    generalize hcd : (codeN k : Int) = c at c2
    have HD := Lib.hid hcd
    clear hcd
    go_wp2_with fail
    go_ret
    exact ⟨ret_int HD.out.symm, HB2.out⟩

/-! ### Void -/
set_option maxHeartbeats 2000000 in
theorem void_c (s : List UInt8) (w : World) :
    Calls Try.prog 10 #[.string (S s)] w fun e w' => e = .returned (.bool (voidB s)) ∧ w = w' := by
  have h0 := eqTL s [97, 114, 101, 97]
  have h1 := eqTL s [98, 97, 115, 101]
  have h2 := eqTL s [98, 114]
  have h3 := eqTL s [99, 111, 108]
  have h4 := eqTL s [101, 109, 98, 101, 100]
  have h5 := eqTL s [104, 114]
  have h6 := eqTL s [105, 109, 103]
  have h7 := eqTL s [105, 110, 112, 117, 116]
  have h8 := eqTL s [108, 105, 110, 107]
  have h9 := eqTL s [109, 101, 116, 97]
  have h10 := eqTL s [112, 97, 114, 97, 109]
  have h11 := eqTL s [115, 111, 117, 114, 99, 101]
  have h12 := eqTL s [116, 114, 97, 99, 107]
  have h13 := eqTL s [119, 98, 114]
  have E : Hid (voidB s = (decide (s = [97, 114, 101, 97]) || decide (s = [98, 97, 115, 101]) || decide (s = [98, 114]) || decide (s = [99, 111, 108]) || decide (s = [101, 109, 98, 101, 100]) || decide (s = [104, 114]) || decide (s = [105, 109, 103])
    || decide (s = [105, 110, 112, 117, 116]) || decide (s = [108, 105, 110, 107]) || decide (s = [109, 101, 116, 97]) || decide (s = [112, 97, 114, 97, 109]) || decide (s = [115, 111, 117, 114, 99, 101]) || decide (s = [116, 114, 97, 99, 107]) || decide (s = [119, 98, 114]))) := by
    show _ = _
    rw [Bool.eq_iff_iff]
    unfold voidB inL voidsL
    simp only [Bool.or_eq_true, decide_eq_true_eq, List.mem_cons, List.not_mem_nil, or_false, or_assoc]
  generalize voidB s = ans at E ⊢
  generalize decide (s = [97, 114, 101, 97]) = b0 at h0 E
  generalize decide (s = [98, 97, 115, 101]) = b1 at h1 E
  generalize decide (s = [98, 114]) = b2 at h2 E
  generalize decide (s = [99, 111, 108]) = b3 at h3 E
  generalize decide (s = [101, 109, 98, 101, 100]) = b4 at h4 E
  generalize decide (s = [104, 114]) = b5 at h5 E
  generalize decide (s = [105, 109, 103]) = b6 at h6 E
  generalize decide (s = [105, 110, 112, 117, 116]) = b7 at h7 E
  generalize decide (s = [108, 105, 110, 107]) = b8 at h8 E
  generalize decide (s = [109, 101, 116, 97]) = b9 at h9 E
  generalize decide (s = [112, 97, 114, 97, 109]) = b10 at h10 E
  generalize decide (s = [115, 111, 117, 114, 99, 101]) = b11 at h11 E
  generalize decide (s = [116, 114, 97, 99, 107]) = b12 at h12 E
  generalize decide (s = [119, 98, 114]) = b13 at h13 E
  generalize S s = T at *
  go_enter Try.func10, Try.ntmps10
  go_wp2_with fail
  all_goals go_ret
  all_goals refine ⟨ret_bool ?_, rfl⟩
  all_goals (have E2 := E.out; clear E; simp_all)

/-! ### Attribute -/
theorem is_c (ls : List (List UInt8)) (hl : ls.length ≤ 1000) (s : List UInt8) (g cap b : Nat) (w : World) (ht : Texts g ls w) (hb : w.cell? ⟨b, 0, none⟩ = some (.string (S s))) :
    Calls Try.prog 19 #[.slice (some ⟨g, 0, none⟩) ls.length cap, .pointer (some ⟨b, 0, none⟩)] w fun e w' => e = .returned (.bool (inL ls s)) ∧ w = w' := by
  have hc := Try.slices_Contains_string g 0 ls.length cap (ls.map S) (S s) w (by simp) (by omega) (fun j hj => by
    have hj2 : j < ls.length := by simpa using hj
    rw [Nat.zero_add, ht j hj2, List.getD_eq_getElem?_getD, List.getElem?_map, List.getElem?_eq_getElem hj2]
    rfl)
  have e : Lib.containsS ((ls.map S).take ls.length) (S s) = inL ls s := by
    rw [List.take_of_length_le (by simp), Bool.eq_iff_iff, Lib.containsS_iff]
    unfold inL
    rw [decide_eq_true_eq, List.mem_map]
    constructor
    · rintro ⟨x, hx, hxs⟩
      have : x = s := by
        have h2 := congrArg (fun t : ByteArray => t.data.toList) hxs
        simpa using h2
      exact this ▸ hx
    · exact fun h => ⟨s, h, rfl⟩
  rw [e] at hc
  generalize inL ls s = ans at hc ⊢
  generalize S s = T at hc hb
  clear ht e hl
  generalize ls.length = n at hc ⊢
  go_enter Try.func19, Try.ntmps19
  go_wp2_with (go_at_call 20; refine hc.mono ?_; rintro e w' ⟨rfl, rfl⟩)
  go_ret
  exact ⟨rfl, rfl⟩
theorem begins_c (p s : List UInt8) (b : Nat) (w : World) (hb : w.cell? ⟨b, 0, none⟩ = some (.string (S s))) :
    Calls Try.prog 21 #[.string (S p), .pointer (some ⟨b, 0, none⟩)] w fun e w' => e = .returned (.bool (preL p s)) ∧ w = w' := by
  have hc := Try.strings_HasPrefix (S s) (S p) w
  have e : Lib.hasPrefix (S s).data.toList (S p).data.toList = preL p s := by
    rw [list_S, list_S]
    unfold Lib.hasPrefix preL
    rw [Bool.eq_iff_iff, List.isPrefixOf_iff_prefix, decide_eq_true_eq]
  rw [e] at hc
  generalize preL p s = ans at hc ⊢
  generalize S s = T at hc hb
  generalize S p = P at hc ⊢
  clear e
  go_enter Try.func21, Try.ntmps21
  go_wp2_with (go_at_call 22; refine hc.mono ?_; rintro e w' ⟨rfl, rfl⟩)
  go_ret
  exact ⟨rfl, rfl⟩
theorem enter_is : ∀ args w, (callFunc 19 args).run Try.prog w = .ok (.enter 19 args) w := enters_of Try.func19 (by kernel_rfl) rfl
theorem enter_begins : ∀ args w, (callFunc 21 args).run Try.prog w = .ok (.enter 21 args) w := enters_of Try.func21 (by kernel_rfl) rfl
/-- The closure asked of a list that was laid for it: the world behind is one in which the box still reads the same. -/
theorem asked_c (ls : List (List UInt8)) (hl : ls.length ≤ 1000) (s : List UInt8) (b n : Nat) (w W : World) (hw : Hid (Below w.heap.size w W)) (hb : Hid (W.cell? ⟨b, 0, none⟩ = some (.string (S s)))) (hn : W.heap.size = n) :
    Calls Try.prog 19 #[.slice (some ⟨n, 0, none⟩) ls.length ls.length, .pointer (some ⟨b, 0, none⟩)] (W.alloc (.cells (ls.map (fun l => Value.string (S l))).toArray 9))
      fun e w' => e = .returned (.bool (inL ls s)) ∧ Hid (Below w.heap.size w w') ∧ Hid (w'.cell? ⟨b, 0, none⟩ = some (.string (S s))) := by
  subst hn
  have hlt := World.block_lt_of_cell? W _ hb.out
  refine (is_c ls hl s W.heap.size ls.length b _ (laid_texts ls W) (by rw [World.cell?_alloc_past _ _ _ hlt]; exact hb.out)).mono ?_
  rintro e w' ⟨rfl, rfl⟩
  exact ⟨rfl, hw.out.trans ((Below.refl _ W).alloc (Nat.le_refl _) _ |>.mono hw.out.size), by show _ = _; rw [World.cell?_alloc_past _ _ _ hlt]; exact hb.out⟩
abbrev noneL : List (List UInt8) := [] :: nosL
set_option maxHeartbeats 4000000 in
set_option maxRecDepth 100000 in
theorem attribute_c (elem attr : List UInt8) (w : World) :
    Calls Try.prog 8 #[.string (S elem), .string (S attr)] w fun e w' => e = .returned (.int .i64 (attrN elem attr : Nat)) ∧ Below w.heap.size w w' := by
  have E : Hid (attrN elem attr = if inL urlsL attr = true ∨ (inL [dataL] attr = true ∧ decide (elem = objectL) = true) then 1 else if preL onL attr = true then 2 else if inL [styleL] attr = true then 3
    else if inL noneL attr = true ∨ preL xmlnsL attr = true then 4 else 0) := by
    show _ = _
    unfold attrN inL noneL nosL
    simp only [decide_eq_true_eq, List.mem_cons, List.not_mem_nil, or_false, or_assoc]
  have e3 : ((S elem).toList == [111, 98, 106, 101, 99, 116]) = decide (elem = objectL) := eqTL elem objectL
  have hc0 : Hid ((w.alloc (.cells #[.string (S attr)] 9)).cell? ⟨w.heap.size, 0, none⟩ = some (.string (S attr))) := by show _ = _; simp
  have hw0 : Hid (Below w.heap.size w (w.alloc (.cells #[.string (S attr)] 9))) := (Below.refl _ w).alloc (Nat.le_refl _) _
  have q1 := asked_c urlsL (by decide) attr w.heap.size (w.heap.size + 1) w _ hw0 hc0 (by simp)
  have q2 := fun W h1 h2 => asked_c [dataL] (by decide) attr w.heap.size W.heap.size w W h1 h2 rfl
  have q5 := fun W h1 h2 => asked_c [styleL] (by decide) attr w.heap.size W.heap.size w W h1 h2 rfl
  have q6 := fun W h1 h2 => asked_c noneL (by decide) attr w.heap.size W.heap.size w W h1 h2 rfl
  have p4 := fun W h => begins_c onL attr w.heap.size W h
  have p7 := fun W h => begins_c xmlnsL attr w.heap.size W h
  have ei := enter_is
  have eb := enter_begins
  generalize inL urlsL attr = b1 at q1 E
  generalize inL [dataL] attr = b2 at q2 E
  generalize decide (elem = objectL) = b3 at e3 E
  generalize preL onL attr = b4 at p4 E
  generalize inL [styleL] attr = b5 at q5 E
  generalize inL noneL attr = b6 at q6 E
  generalize preL xmlnsL attr = b7 at p7 E
  generalize attrN elem attr = ans at E ⊢
  generalize S elem = U at e3 ⊢
  generalize S attr = T at q1 q2 q5 q6 p4 p7 hc0 hw0 ⊢
  have Q2 := Lib.hid q2
  have Q5 := Lib.hid q5
  have Q6 := Lib.hid q6
  have P4 := Lib.hid p4
  have P7 := Lib.hid p7
  clear q2 q5 q6 p4 p7 hc0 hw0
  go_enter Try.func8, Try.ntmps8
  have q := q1
  clear q1
  cases b1 with
  | true =>
    go_wp2_with (go_at_fn 19; refine q.mono ?_; rintro e w1 ⟨rfl, HB, HC⟩; clear q)
    go_ret
    exact ⟨ret_int (by rw [E.out]; rfl), HB.out⟩
  | false =>
    go_wp2_with (go_at_fn 19; refine q.mono ?_; rintro e w1 ⟨rfl, HB, HC⟩; clear q)
    have q := Q2.out w1 HB HC
    cases b2 with
    | false =>
      go_wp2_with (go_at_fn 19; refine q.mono ?_; rintro e w2 ⟨rfl, HB2, HC2⟩; clear q)
      have q := P4.out w2 HC2.out
      cases b4 with
      | true =>
        go_wp2_with (go_at_fn 21; refine q.mono ?_; rintro e v ⟨rfl, rfl⟩; clear q)
        go_ret
        exact ⟨ret_int (by rw [E.out]; rfl), HB2.out⟩
      | false =>
        go_wp2_with (go_at_fn 21; refine q.mono ?_; rintro e v ⟨rfl, rfl⟩; clear q)
        have q := Q5.out w2 HB2 HC2
        cases b5 with
        | true =>
          go_wp2_with (go_at_fn 19; refine q.mono ?_; rintro e w5 ⟨rfl, HB5, HC5⟩; clear q)
          go_ret
          exact ⟨ret_int (by rw [E.out]; rfl), HB5.out⟩
        | false =>
          go_wp2_with (go_at_fn 19; refine q.mono ?_; rintro e w5 ⟨rfl, HB5, HC5⟩; clear q)
          have q := Q6.out w5 HB5 HC5
          cases b6 with
          | true =>
            go_wp2_with (go_at_fn 19; refine q.mono ?_; rintro e w6 ⟨rfl, HB6, HC6⟩; clear q)
            go_ret
            exact ⟨ret_int (by rw [E.out]; rfl), HB6.out⟩
          | false =>
            go_wp2_with (go_at_fn 19; refine q.mono ?_; rintro e w6 ⟨rfl, HB6, HC6⟩; clear q)
            have q := P7.out w6 HC6.out
            cases b7 with
            | true =>
              go_wp2_with (go_at_fn 21; refine q.mono ?_; rintro e v ⟨rfl, rfl⟩; clear q)
              go_ret
              exact ⟨ret_int (by rw [E.out]; rfl), HB6.out⟩
            | false =>
              go_wp2_with (go_at_fn 21; refine q.mono ?_; rintro e v ⟨rfl, rfl⟩; clear q)
              go_ret
              exact ⟨ret_int (by rw [E.out]; rfl), HB6.out⟩
    | true =>
      cases b3 with
      | true =>
        go_wp2_with (go_at_fn 19; refine q.mono ?_; rintro e w2 ⟨rfl, HB2, HC2⟩; clear q)
        go_ret
        exact ⟨ret_int (by rw [E.out]; rfl), HB2.out⟩
      | false =>
        go_wp2_with (go_at_fn 19; refine q.mono ?_; rintro e w2 ⟨rfl, HB2, HC2⟩; clear q)
        have q := P4.out w2 HC2.out
        cases b4 with
        | true =>
          go_wp2_with (go_at_fn 21; refine q.mono ?_; rintro e v ⟨rfl, rfl⟩; clear q)
          go_ret
          exact ⟨ret_int (by rw [E.out]; rfl), HB2.out⟩
        | false =>
          go_wp2_with (go_at_fn 21; refine q.mono ?_; rintro e v ⟨rfl, rfl⟩; clear q)
          have q := Q5.out w2 HB2 HC2
          cases b5 with
          | true =>
            go_wp2_with (go_at_fn 19; refine q.mono ?_; rintro e w5 ⟨rfl, HB5, HC5⟩; clear q)
            go_ret
            exact ⟨ret_int (by rw [E.out]; rfl), HB5.out⟩
          | false =>
            go_wp2_with (go_at_fn 19; refine q.mono ?_; rintro e w5 ⟨rfl, HB5, HC5⟩; clear q)
            have q := Q6.out w5 HB5 HC5
            cases b6 with
            | true =>
              go_wp2_with (go_at_fn 19; refine q.mono ?_; rintro e w6 ⟨rfl, HB6, HC6⟩; clear q)
              go_ret
              exact ⟨ret_int (by rw [E.out]; rfl), HB6.out⟩
            | false =>
              go_wp2_with (go_at_fn 19; refine q.mono ?_; rintro e w6 ⟨rfl, HB6, HC6⟩; clear q)
              have q := P7.out w6 HC6.out
              cases b7 with
              | true =>
                go_wp2_with (go_at_fn 21; refine q.mono ?_; rintro e v ⟨rfl, rfl⟩; clear q)
                go_ret
                exact ⟨ret_int (by rw [E.out]; rfl), HB6.out⟩
              | false =>
                go_wp2_with (go_at_fn 21; refine q.mono ?_; rintro e v ⟨rfl, rfl⟩; clear q)
                go_ret
                exact ⟨ret_int (by rw [E.out]; rfl), HB6.out⟩
end Go.Proofs.Ytoegnipnbdnllaa.Tab
