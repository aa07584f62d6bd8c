/-
  Part 23: TkcRaw.
-/
import Derived.Test.YtidfcajhmldieaaGreatDoorBackBaseP17
import Derived.Test.YtidfcajhmldieaaGreatDoorBackBaseP22
/-
  Contracts of ends and rawText of package tokens.
-/
namespace Go.Proofs.YtidfcajhmldieaaGreatDoor.Tkc
open Go.RowKit Go.Proofs.YtidfcajhmldieaaGreatDoor.Oct Go.Proofs.YtidfcajhmldieaaGreatDoor.Utf Go.Proofs.YtidfcajhmldieaaGreatDoor.Crf Go.Proofs.YtidfcajhmldieaaGreatDoor.Tab Go.Proofs.YtidfcajhmldieaaGreatDoor.Tok

theorem pre_starts (s p : List UInt8) : (p.map low).isPrefixOf (s.map low) = startsB s p := by
  unfold startsB
  rw [Bool.eq_iff_iff, List.isPrefixOf_iff_prefix, Bool.and_eq_true, beq_iff_eq, decide_eq_true_eq, List.prefix_iff_eq_take]
  constructor
  · intro h
    have hl := congrArg List.length h
    rw [List.length_take, List.length_map, List.length_map] at hl
    refine ⟨by omega, ?_⟩
    rw [List.length_map] at h
    exact h.symm
  · rintro ⟨h1, h2⟩
    rw [List.length_map]
    exact h2.symm
def endsB (x p : List UInt8) : Bool := startsB x p && match x[p.length]? with
  | some c => !inNm c
  | none => false
theorem nm_not (c : UInt8) : (!inNm c) = (blB c || c == 47 || c == 62) := by
  unfold inNm
  cases blB c <;> cases (c == 47) <;> cases (c == 62) <;> rfl
theorem hits_ends (nm x : List UInt8) : hits nm x = endsB x (60 :: 47 :: nm) := by
  unfold hits endsB
  rw [pre_starts]
  congr 1
  have e : (60 :: 47 :: nm).length = 2 + nm.length := by simp; omega
  rw [e]
  by_cases h : 2 + nm.length < x.length
  · rw [List.drop_eq_getElem_cons h, List.getElem?_eq_getElem h]
    exact (nm_not _).symm
  · rw [List.drop_eq_nil_of_le (by omega), List.getElem?_eq_none (by omega)]
set_option maxHeartbeats 2000000 in
theorem ends_c (x p : List UInt8) (hp : p.length ≤ 65536) (w : World) :
    Calls Tryz.prog 85 #[.string (S x), .string (S p)] w fun e w' => e = .returned (.bool (endsB x p)) ∧ Below w.heap.size w w' := by
  have hst := fun w => starts_c (S x) (S p) w (by rw [size_S]; omega)
  rw [list_S, list_S] at hst
  have hsx : ((S x).size : Int) = (x.length : Int) := by rw [size_S]
  have hsp : ((S p).size : Int) = (p.length : Int) := by rw [size_S]
  have i0 : (0 : Int) ≤ (p.length : Int) := by omega
  unfold endsB
  cases hq : startsB x p with
  | false =>
    rw [hq] at hst
    show Calls _ _ _ _ fun e w' => e = .returned (.bool false) ∧ _
    generalize S x = X at *
    generalize S p = P at *
    go_enter Tryz.func85, Tryz.ntmps85
    go_wp2_with (go_at_call 100; refine (hst _).mono ?_; rintro e w1 ⟨rfl, h1⟩)
    go_ret
    exact ⟨rfl, h1⟩
  | true =>
    rw [hq] at hst
    by_cases hl : p.length < x.length
    · rw [List.getElem?_eq_getElem hl]
      obtain ⟨c, hcc⟩ : ∃ c, c = x[p.length] := ⟨_, rfl⟩
      show Calls _ _ _ _ fun e w' => e = .returned (.bool (true && !inNm x[p.length])) ∧ _
      rw [← hcc]
      obtain ⟨X, hX⟩ : ∃ X, X = S x := ⟨_, rfl⟩
      have hat : ∀ h : p.length < X.size, X[p.length]'h = c := by subst hX; intro _; rw [hcc]; exact at_T x p.length hl
      have i1 : (p.length : Int) < (x.length : Int) := by omega
      have i2 : p.length < X.size := by rw [hX, size_S]; exact hl
      have hd : decide ((p.length : Int) < (x.length : Int)) = true := decide_eq_true i1
      have hbyte : ((c.toNat : Int)) ≤ 255 := by have := c.toNat_lt; omega
      have hc := nm_c c
      rw [← hX] at hst hsx ⊢
      clear hX hcc hq
      generalize inNm c = b at hc ⊢
      generalize S p = P at *
      go_enter Tryz.func85, Tryz.ntmps85
      go_wp2_with (first
        | (go_at_call 100; refine (hst _).mono ?_; rintro e w1 ⟨rfl, h1⟩)
        | (go_at_call 79; refine (hc _).mono ?_; rintro e w2 ⟨rfl, rfl⟩))
      go_ret
      exact ⟨rfl, h1⟩
    · rw [List.getElem?_eq_none (by omega)]
      show Calls _ _ _ _ fun e w' => e = .returned (.bool false) ∧ _
      have hd : decide ((p.length : Int) < (x.length : Int)) = false := decide_eq_false (by omega)
      have hd2 : ¬ ((p.length : Int) < (x.length : Int)) := by omega
      generalize S x = X at *
      generalize S p = P at *
      go_enter Tryz.func85, Tryz.ntmps85
      go_wp2_with (go_at_call 100; refine (hst _).mono ?_; rintro e w1 ⟨rfl, h1⟩)
      go_ret
      exact ⟨rfl, h1⟩
theorem place_at {s : List UInt8} : ∀ {l : List (List UInt8)} {k : Nat}, placeL s l = some k → l[k]? = some s
  | [], k, h => by cases h
  | x :: r, k, h => by
    unfold placeL at h
    split at h
    · rename_i e
      cases h
      rw [e]
      rfl
    · cases hp : placeL s r with
      | none => rw [hp] at h; cases h
      | some m =>
        rw [hp] at h
        cases h
        show r[m]? = some s
        exact place_at hp
theorem raw_name {nm : List UInt8} (h : 1 ≤ elemN nm ∧ elemN nm ≤ 3) : (∀ c ∈ nm, letB c = true ∧ low c = c) ∧ nm ≠ [] ∧ nm.length ≤ 8 := by
  unfold elemN at h
  cases hp : placeL nm elsL with
  | none => rw [hp] at h; exact absurd h.1 (by decide)
  | some k =>
    rw [hp] at h
    have hk := place_lt hp
    have ha := place_at hp
    have hall : ∀ i : Fin 10, 1 ≤ codeN i.val ∧ codeN i.val ≤ 3 → (∀ c ∈ elsL.getD i.val [], letB c = true ∧ low c = c) ∧ elsL.getD i.val [] ≠ [] ∧ (elsL.getD i.val []).length ≤ 8 := by decide +kernel
    have := hall ⟨k, hk⟩ h
    rw [List.getD_eq_getElem?_getD, ha] at this
    exact this
theorem grown_of' {w w' : World} {q : Nat} (h : w' = w.drewN q) : Below w.heap.size w w' := h ▸ Oct.below_drewN (Below.refl _ w) q
set_option maxHeartbeats 8000000 in
set_option maxRecDepth 100000 in
theorem rawText_c (R : Nat) (l : List UInt8) (hl : l.length ≤ 65536) (k : Nat) (hk : k ≤ l.length) (hk1 : 1 ≤ k) (v : Value) (ps : List (Tk × Value)) (w : World) (h : RdT R l k v ps w) (hn : ps.length ≤ 4096) (nm : List UInt8) (hnm : 1 ≤ elemN nm ∧ elemN nm ≤ 3)
    (hr : RawAt l k k (ps.map Prod.fst) nm (elemN nm)) :
    Calls Tryz.prog 57 #[.pointer (some ⟨R, 0, none⟩), .string (S nm)] w (Went R l (k - 1) w) := by
  obtain ⟨hlet, hne, hlen8⟩ := raw_name hnm
  have hlow := h.low
  have hsn : (S nm).size ≤ 8 := by rw [size_S]; exact hlen8
  have e1 : (⟨#[60, 47]⟩ : ByteArray) ++ S nm = S (60 :: 47 :: nm) := S_append [60, 47] nm
  have hcc : ¬ (9223372036854775807 < 2 + (S nm).size) := by omega
  have hcc2 : ((S nm).size : Int) ≤ 140737488351232 := by omega
  have hsz : ((S l).size : Int) = (l.length : Int) := by rw [size_S]
  have hsz2 : (S l).size = l.length := size_S l
  have hex := fun j W => ends_c (l.drop j) (60 :: 47 :: nm) (by rw [List.length_cons, List.length_cons]; omega) W
  have hcut := fun j => (cutFrom (S l) j).trans (by rw [list_S] : S ((S l).data.toList.drop j) = S (l.drop j))
  have HX : Hid (∀ j v W, Bx R l j v W → W.cell? ⟨R, 0, none⟩ = some (.string (S l)) ∧ W.cell? ⟨R, 1, none⟩ = some (.int .i64 (j : Int)) ∧ W.frozen? ⟨R, 1, none⟩ = false) := fun j v W h => ⟨(h.cell 0).trans rfl, (h.cell 1).trans rfl, h.froz 1⟩
  obtain ⟨c0, c1, -⟩ := HX.out _ _ _ h.box
  have H0 := Lib.hid (And.intro hr h)
  have HM := Lib.hid (And.intro hlet hne)
  have HC := Lib.hid (And.intro hcut hex)
  obtain ⟨N, hN⟩ : ∃ N, N = S nm := ⟨_, rfl⟩
  obtain ⟨P, hP⟩ : ∃ P, P = S (60 :: 47 :: nm) := ⟨_, rfl⟩
  obtain ⟨L, hL⟩ : ∃ L, L = S l := ⟨_, rfl⟩
  obtain ⟨ev, hev⟩ : ∃ ev : Int, ev = ((elemN nm : Nat) : Int) := ⟨_, rfl⟩
  have HEv := Lib.hid hev
  have HEl : Hid (∀ w, Calls Tryz.prog 50 #[.string N] w fun e w' => e = .returned (.int .i64 ev) ∧ Below w.heap.size w w') := fun w => by rw [hN, hev]; exact element_c nm w
  have HCut : Hid (∀ j, L.extract j L.size = S (l.drop j)) := fun j => by rw [hL]; exact hcut j
  have HEx : Hid (∀ j W, Calls Tryz.prog 85 #[.string (S (l.drop j)), .string P] W fun e w' => e = .returned (.bool (endsB (l.drop j) (60 :: 47 :: nm))) ∧ Below W.heap.size W w') := fun j W => by rw [hP]; exact hex j W
  rw [← hN, ← hP] at e1
  rw [← hN] at hcc hcc2 hsn ⊢
  rw [← hL] at hsz hsz2 HX c0
  clear hev hL hN hP hcut hex HC hr h
  go_enter Tryz.func57, Tryz.ntmps57
  go_wp2_with fail
  go_loopw [] (fun wr => ∃ j : Nat, k ≤ j ∧ j ≤ l.length ∧ Hid (RawAt l k j (ps.map Prod.fst) nm (elemN nm)) ∧ Hid (RdT R l j v ps wr) ∧ Hid (Keeps R w wr)) (fun wr => l.length - atOf R wr)
  case atStart => exact ⟨k, Nat.le_refl _, hk, H0.out.1, H0.out.2, Keeps.refl R w⟩
  case round =>
    clear H0 c0 c1
    obtain ⟨j, hkj, hjl, hA, hT, hB⟩ := hrel
    obtain ⟨x0, x1, z1⟩ := HX.out _ _ _ hT.out.box
    have hAt := Lib.hid (hT.out.box.atOf)
    have i0 : (0 : Int) ≤ (j : Int) := by omega
    have i1 : (j : Int) ≤ (l.length : Int) := by omega
    have i2 : (l.length : Int) ≤ 65536 := by omega
    by_cases hj : j < l.length
    · have i3 : (j : Int) < (l.length : Int) := by omega
      have hd : decide ((j : Int) < (l.length : Int)) = true := decide_eq_true i3
      have hen := HEx.out j
      rw [← hits_ends, ← HCut.out j, hsz2] at hen
      have k0 : wr.drew.cell? ⟨R, 0, none⟩ = some (.string L) ∧ wr.drew.cell? ⟨R, 1, none⟩ = some (.int .i64 (j : Int)) := ⟨x0, x1⟩
      cases hh : hits nm (l.drop j) with
      | false =>
        rw [hh] at hen
        go_wp2_with fail
        refine wp_region_held_drew (S := (fun w' => w'.cell? ⟨R, 0, none⟩ = some (.string L) ∧ w'.cell? ⟨R, 1, none⟩ = some (.int .i64 (j : Int)))) (by kernel_rfl) k0 (fun hHeld => ?_)
        refine wpAnyH_take (i := 0) (v := ?_) rfl (by kernel_rfl) (by kernel_rfl) (by kernel_rfl) (fun _ _ _ h => h) (Or.inl ⟨by kernel_rfl, ?_⟩) (by assumption) ?_
        rotate_left
        · intro w hSw
          try dsimp only at hSw
          obtain ⟨hS0, hS1⟩ := hSw
          go_simp
          try with_reducible rfl
        (try simp only [List.getElem_toArray]); (try simp only [List.getElem_cons_succ]); (try simp only [List.getElem_cons_zero]); (try simp only [Act.put]); (try simp only [List.setIfInBounds_toArray]); (try simp only [List.set_cons_succ]); (try simp only [List.set_cons_zero])
        refine wpAnyH_take (i := 1) (v := ?_) rfl (by kernel_rfl) (by kernel_rfl) (by kernel_rfl) (fun _ _ _ h => h) (Or.inl ⟨by kernel_rfl, ?_⟩) (by assumption) ?_
        rotate_left
        · intro w hSw
          try dsimp only at hSw
          obtain ⟨hS0, hS1⟩ := hSw
          go_simp
          try with_reducible rfl
        (try simp only [List.getElem_toArray]); (try simp only [List.getElem_cons_succ]); (try simp only [List.getElem_cons_zero]); (try simp only [Act.put]); (try simp only [List.setIfInBounds_toArray]); (try simp only [List.set_cons_succ]); (try simp only [List.set_cons_zero])
        refine wpAnyH_take (i := 2) (v := ?_) rfl (by kernel_rfl) (by kernel_rfl) (by kernel_rfl) (fun _ _ _ h => h) (Or.inl ⟨by kernel_rfl, ?_⟩) (by assumption) ?_
        rotate_left
        · intro w hSw
          try dsimp only at hSw
          obtain ⟨hS0, hS1⟩ := hSw
          go_simp
          try with_reducible rfl
        (try simp only [List.getElem_toArray]); (try simp only [List.getElem_cons_succ]); (try simp only [List.getElem_cons_zero]); (try simp only [Act.put]); (try simp only [List.setIfInBounds_toArray]); (try simp only [List.set_cons_succ]); (try simp only [List.set_cons_zero])
        refine wpAnyH_take (i := 3) (v := ?_) rfl (by kernel_rfl) (by kernel_rfl) (by kernel_rfl) (fun _ _ _ h => h) (Or.inl ⟨by kernel_rfl, ?_⟩) (by assumption) ?_
        rotate_left
        · intro w hSw
          try dsimp only at hSw
          obtain ⟨hS0, hS1⟩ := hSw
          go_simp
          try with_reducible rfl
        (try simp only [List.getElem_toArray]); (try simp only [List.getElem_cons_succ]); (try simp only [List.getElem_cons_zero]); (try simp only [Act.put]); (try simp only [List.setIfInBounds_toArray]); (try simp only [List.set_cons_succ]); (try simp only [List.set_cons_zero])
        refine wpAnyH_take (i := 4) (v := ?_) rfl (by kernel_rfl) (by kernel_rfl) (by kernel_rfl) (fun _ _ _ h => h) (Or.inl ⟨by kernel_rfl, ?_⟩) (by assumption) ?_
        rotate_left
        · intro w hSw
          try dsimp only at hSw
          obtain ⟨hS0, hS1⟩ := hSw
          go_simp
          try with_reducible rfl
        (try simp only [List.getElem_toArray]); (try simp only [List.getElem_cons_succ]); (try simp only [List.getElem_cons_zero]); (try simp only [Act.put]); (try simp only [List.setIfInBounds_toArray]); (try simp only [List.set_cons_succ]); (try simp only [List.set_cons_zero])
        refine wpAnyH_take (i := 5) (v := ?_) rfl (by kernel_rfl) (by kernel_rfl) (by kernel_rfl) (fun _ _ _ h => h) (Or.inl ⟨by kernel_rfl, ?_⟩) (by assumption) ?_
        rotate_left
        · intro w hSw
          try dsimp only at hSw
          obtain ⟨hS0, hS1⟩ := hSw
          go_simp
          try with_reducible rfl
        (try simp only [List.getElem_toArray]); (try simp only [List.getElem_cons_succ]); (try simp only [List.getElem_cons_zero]); (try simp only [Act.put]); (try simp only [List.setIfInBounds_toArray]); (try simp only [List.set_cons_succ]); (try simp only [List.set_cons_zero])
        refine wpAnyH_take (i := 6) (v := ?_) rfl (by kernel_rfl) (by kernel_rfl) (by kernel_rfl) (fun _ _ _ h => h) (Or.inl ⟨by kernel_rfl, ?_⟩) (by assumption) ?_
        rotate_left
        · intro w hSw
          try dsimp only at hSw
          obtain ⟨hS0, hS1⟩ := hSw
          go_simp
          try with_reducible rfl
        (try simp only [List.getElem_toArray]); (try simp only [List.getElem_cons_succ]); (try simp only [List.getElem_cons_zero]); (try simp only [Act.put]); (try simp only [List.setIfInBounds_toArray]); (try simp only [List.set_cons_succ]); (try simp only [List.set_cons_zero])
        refine wpAnyH_take (i := 7) (v := ?_) rfl (by kernel_rfl) (by kernel_rfl) (by kernel_rfl) (fun _ _ _ h => h) (Or.inl ⟨by kernel_rfl, ?_⟩) (by assumption) ?_
        rotate_left
        · intro w hSw
          try dsimp only at hSw
          obtain ⟨hS0, hS1⟩ := hSw
          go_simp
          try with_reducible rfl
        (try simp only [List.getElem_toArray]); (try simp only [List.getElem_cons_succ]); (try simp only [List.getElem_cons_zero]); (try simp only [Act.put]); (try simp only [List.setIfInBounds_toArray]); (try simp only [List.set_cons_succ]); (try simp only [List.set_cons_zero])
        refine wpAnyH_take (i := 8) (v := ?_) rfl (by kernel_rfl) (by kernel_rfl) (by kernel_rfl) (fun _ _ _ h => h) (Or.inl ⟨by kernel_rfl, ?_⟩) (by assumption) ?_
        rotate_left
        · intro w hSw
          try dsimp only at hSw
          obtain ⟨hS0, hS1⟩ := hSw
          go_simp
          try with_reducible rfl
        (try simp only [List.getElem_toArray]); (try simp only [List.getElem_cons_succ]); (try simp only [List.getElem_cons_zero]); (try simp only [Act.put]); (try simp only [List.setIfInBounds_toArray]); (try simp only [List.set_cons_succ]); (try simp only [List.set_cons_zero])
        refine wpAnyH_take (i := 9) (v := ?_) rfl (by kernel_rfl) (by kernel_rfl) (by kernel_rfl) (fun _ _ _ h => h) (Or.inl ⟨by kernel_rfl, ?_⟩) (by assumption) ?_
        rotate_left
        · intro w hSw
          try dsimp only at hSw
          obtain ⟨hS0, hS1⟩ := hSw
          go_simp
          try with_reducible rfl
        (try simp only [List.getElem_toArray]); (try simp only [List.getElem_cons_succ]); (try simp only [List.getElem_cons_zero]); (try simp only [Act.put]); (try simp only [List.setIfInBounds_toArray]); (try simp only [List.set_cons_succ]); (try simp only [List.set_cons_zero])
        refine wpAnyH_take (i := 10) (v := ?_) rfl (by kernel_rfl) (by kernel_rfl) (by kernel_rfl) (fun _ _ _ h => h) (Or.inl ⟨by kernel_rfl, ?_⟩) (by assumption) ?_
        rotate_left
        · intro w hSw
          try dsimp only at hSw
          obtain ⟨hS0, hS1⟩ := hSw
          go_simp
          try with_reducible rfl
        (try simp only [List.getElem_toArray]); (try simp only [List.getElem_cons_succ]); (try simp only [List.getElem_cons_zero]); (try simp only [Act.put]); (try simp only [List.setIfInBounds_toArray]); (try simp only [List.set_cons_succ]); (try simp only [List.set_cons_zero])
        refine wpAnyH_take (i := 11) (v := ?_) rfl (by kernel_rfl) (by kernel_rfl) (by kernel_rfl) (fun _ _ _ h => h) (Or.inl ⟨by kernel_rfl, ?_⟩) (by assumption) ?_
        rotate_left
        · intro w hSw
          try dsimp only at hSw
          obtain ⟨hS0, hS1⟩ := hSw
          go_simp
          try with_reducible rfl
        (try simp only [List.getElem_toArray]); (try simp only [List.getElem_cons_succ]); (try simp only [List.getElem_cons_zero]); (try simp only [Act.put]); (try simp only [List.setIfInBounds_toArray]); (try simp only [List.set_cons_succ]); (try simp only [List.set_cons_zero])
        refine wpAnyH_take (i := 12) (v := ?_) rfl (by kernel_rfl) (by kernel_rfl) (by kernel_rfl) (fun _ _ _ h => h) (Or.inl ⟨by kernel_rfl, ?_⟩) (by assumption) ?_
        rotate_left
        · intro w hSw
          try dsimp only at hSw
          obtain ⟨hS0, hS1⟩ := hSw
          go_simp
          try with_reducible rfl
        (try simp only [List.getElem_toArray]); (try simp only [List.getElem_cons_succ]); (try simp only [List.getElem_cons_zero]); (try simp only [Act.put]); (try simp only [List.setIfInBounds_toArray]); (try simp only [List.set_cons_succ]); (try simp only [List.set_cons_zero])
        refine wpAnyH_take (i := 13) (v := ?_) rfl (by kernel_rfl) (by kernel_rfl) (by kernel_rfl) (fun _ _ _ h => h) (Or.inl ⟨by kernel_rfl, ?_⟩) (by assumption) ?_
        rotate_left
        · intro w hSw
          try dsimp only at hSw
          obtain ⟨hS0, hS1⟩ := hSw
          go_simp
          try with_reducible rfl
        (try simp only [List.getElem_toArray]); (try simp only [List.getElem_cons_succ]); (try simp only [List.getElem_cons_zero]); (try simp only [Act.put]); (try simp only [List.setIfInBounds_toArray]); (try simp only [List.set_cons_succ]); (try simp only [List.set_cons_zero])
        refine wpAnyH_take (i := 14) (v := ?_) rfl (by kernel_rfl) (by kernel_rfl) (by kernel_rfl) (fun _ _ _ h => h) (Or.inl ⟨by kernel_rfl, ?_⟩) (by assumption) ?_
        rotate_left
        · intro w hSw
          try dsimp only at hSw
          obtain ⟨hS0, hS1⟩ := hSw
          go_simp
          try with_reducible rfl
        (try simp only [List.getElem_toArray]); (try simp only [List.getElem_cons_succ]); (try simp only [List.getElem_cons_zero]); (try simp only [Act.put]); (try simp only [List.setIfInBounds_toArray]); (try simp only [List.set_cons_succ]); (try simp only [List.set_cons_zero])
        refine wpAnyH_take (i := 15) (v := ?_) rfl (by kernel_rfl) (by kernel_rfl) (by kernel_rfl) (fun _ _ _ h => h) (Or.inl ⟨by kernel_rfl, ?_⟩) (by assumption) ?_
        rotate_left
        · intro w hSw
          try dsimp only at hSw
          obtain ⟨hS0, hS1⟩ := hSw
          go_simp
          try with_reducible rfl
        (try simp only [List.getElem_toArray]); (try simp only [List.getElem_cons_succ]); (try simp only [List.getElem_cons_zero]); (try simp only [Act.put]); (try simp only [List.setIfInBounds_toArray]); (try simp only [List.set_cons_succ]); (try simp only [List.set_cons_zero])
        refine wpAnyH_take (i := 16) (v := ?_) rfl (by kernel_rfl) (by kernel_rfl) (by kernel_rfl) (fun _ _ _ h => h) (Or.inl ⟨by kernel_rfl, ?_⟩) (by assumption) ?_
        rotate_left
        · intro w hSw
          try dsimp only at hSw
          obtain ⟨hS0, hS1⟩ := hSw
          go_simp
          try with_reducible rfl
        (try simp only [List.getElem_toArray]); (try simp only [List.getElem_cons_succ]); (try simp only [List.getElem_cons_zero]); (try simp only [Act.put]); (try simp only [List.setIfInBounds_toArray]); (try simp only [List.set_cons_succ]); (try simp only [List.set_cons_zero])
        refine wpAnyH_take (i := 17) (v := ?_) rfl (by kernel_rfl) (by kernel_rfl) (by kernel_rfl) (fun _ _ _ h => h) (Or.inl ⟨by kernel_rfl, ?_⟩) (by assumption) ?_
        rotate_left
        · intro w hSw
          try dsimp only at hSw
          obtain ⟨hS0, hS1⟩ := hSw
          go_simp
          try with_reducible rfl
        (try simp only [List.getElem_toArray]); (try simp only [List.getElem_cons_succ]); (try simp only [List.getElem_cons_zero]); (try simp only [Act.put]); (try simp only [List.setIfInBounds_toArray]); (try simp only [List.set_cons_succ]); (try simp only [List.set_cons_zero])
        refine wpAnyH_take (i := 18) (v := ?_) rfl (by kernel_rfl) (by kernel_rfl) (by kernel_rfl) (fun _ _ _ h => h) (Or.inl ⟨by kernel_rfl, ?_⟩) (by assumption) ?_
        rotate_left
        · intro w hSw
          try dsimp only at hSw
          obtain ⟨hS0, hS1⟩ := hSw
          go_simp
          try with_reducible rfl
        (try simp only [List.getElem_toArray]); (try simp only [List.getElem_cons_succ]); (try simp only [List.getElem_cons_zero]); (try simp only [Act.put]); (try simp only [List.setIfInBounds_toArray]); (try simp only [List.set_cons_succ]); (try simp only [List.set_cons_zero])
        refine wpAnyH_take (i := 19) (v := ?_) rfl (by kernel_rfl) (by kernel_rfl) (by kernel_rfl) (fun _ _ _ h => h) (Or.inl ⟨by kernel_rfl, ?_⟩) (by assumption) ?_
        rotate_left
        · intro w hSw
          try dsimp only at hSw
          obtain ⟨hS0, hS1⟩ := hSw
          go_simp
          try with_reducible rfl
        (try simp only [List.getElem_toArray]); (try simp only [List.getElem_cons_succ]); (try simp only [List.getElem_cons_zero]); (try simp only [Act.put]); (try simp only [List.setIfInBounds_toArray]); (try simp only [List.set_cons_succ]); (try simp only [List.set_cons_zero])
        refine wpAnyH_take (i := 20) (v := ?_) rfl (by kernel_rfl) (by kernel_rfl) (by kernel_rfl) (fun _ _ _ h => h) (Or.inl ⟨by kernel_rfl, ?_⟩) (by assumption) ?_
        rotate_left
        · intro w hSw
          try dsimp only at hSw
          obtain ⟨hS0, hS1⟩ := hSw
          go_simp
          try with_reducible rfl
        (try simp only [List.getElem_toArray]); (try simp only [List.getElem_cons_succ]); (try simp only [List.getElem_cons_zero]); (try simp only [Act.put]); (try simp only [List.setIfInBounds_toArray]); (try simp only [List.set_cons_succ]); (try simp only [List.set_cons_zero])
        refine wpAnyH_ready (rs := [21]) (by kernel_rfl) (by simp) ?_
        refine AllReadyH.cons rfl (fun K hK => ?_) AllReadyH.nil
        go_simp
        refine (hen _).mono ?_
        rintro e w1 ⟨rfl, hb0⟩
        have hb1 : Below wr.heap.size wr w1 := ⟨hb0.os, hb0.tape, hb0.output, hb0.size, hb0.block⟩
        have T1 := hT.out.grow hb1
        have d01 := HX.out _ _ _ T1.box
        have HT1 := Lib.hid (And.intro T1 (hB.out.trans (Keeps.of hb1)))
        refine hK.out _ _ ⟨d01.1, d01.2.1⟩ (fun hHeld2 => ?_)
        clear hK K hHeld hb0 hb1 T1
        (try simp only [List.getElem_toArray]); (try simp only [List.getElem_cons_succ]); (try simp only [List.getElem_cons_zero]); (try simp only [Act.put]); (try simp only [List.setIfInBounds_toArray]); (try simp only [List.set_cons_succ]); (try simp only [List.set_cons_zero])
        refine wpAnyH_take (i := 22) (v := ?_) rfl (by kernel_rfl) (by kernel_rfl) (by kernel_rfl) (fun _ _ _ h => h) (Or.inl ⟨by kernel_rfl, ?_⟩) (by assumption) ?_
        rotate_left
        · intro w hSw
          try dsimp only at hSw
          obtain ⟨hS0, hS1⟩ := hSw
          go_simp
          try with_reducible rfl
        (try simp only [List.getElem_toArray]); (try simp only [List.getElem_cons_succ]); (try simp only [List.getElem_cons_zero]); (try simp only [Act.put]); (try simp only [List.setIfInBounds_toArray]); (try simp only [List.set_cons_succ]); (try simp only [List.set_cons_zero])
        refine wpAnyH_take (i := 23) (v := ?_) rfl (by kernel_rfl) (by kernel_rfl) (by kernel_rfl) (fun _ _ _ h => h) (Or.inl ⟨by kernel_rfl, ?_⟩) (by assumption) ?_
        rotate_left
        · intro w hSw
          try dsimp only at hSw
          obtain ⟨hS0, hS1⟩ := hSw
          go_simp
          try with_reducible rfl
        (try simp only [List.getElem_toArray]); (try simp only [List.getElem_cons_succ]); (try simp only [List.getElem_cons_zero]); (try simp only [Act.put]); (try simp only [List.setIfInBounds_toArray]); (try simp only [List.set_cons_succ]); (try simp only [List.set_cons_zero])
        refine wpAnyH_done (by kernel_rfl) ?_ _
        have y1 := d01.2.1
        have y2 := d01.2.2
        go_wp2_with fail
        go_roundw
        case rel => exact ⟨j + 1, by omega, by omega, raw_go hj hkj hh hA.out, HT1.out.1.keep (Keeps.set _ _) (HT1.out.1.box.at_ (j + 1)), HT1.out.2.trans (Keeps.set _ _)⟩
        case measure =>
          have e1 := hAt.out
          have e2 := (HT1.out.1.box.at_ (j + 1)).atOf
          show l.length - atOf R _ < l.length - atOf R _
          rw [e1]
          have e3 : atOf R (w1.setCell ⟨R, 1, none⟩ (.int .i64 ((j : Int) + 1))) = j + 1 := e2
          first | (rw [e3]; omega) | (simp only [e3]; omega) | (rw [e2]; omega)
      | true =>
        rw [hh] at hen
        go_wp2_with fail
        refine wp_region_held_drew (S := (fun w' => w'.cell? ⟨R, 0, none⟩ = some (.string L) ∧ w'.cell? ⟨R, 1, none⟩ = some (.int .i64 (j : Int)))) (by kernel_rfl) k0 (fun hHeld => ?_)
        refine wpAnyH_take (i := 0) (v := ?_) rfl (by kernel_rfl) (by kernel_rfl) (by kernel_rfl) (fun _ _ _ h => h) (Or.inl ⟨by kernel_rfl, ?_⟩) (by assumption) ?_
        rotate_left
        · intro w hSw
          try dsimp only at hSw
          obtain ⟨hS0, hS1⟩ := hSw
          go_simp
          try with_reducible rfl
        (try simp only [List.getElem_toArray]); (try simp only [List.getElem_cons_succ]); (try simp only [List.getElem_cons_zero]); (try simp only [Act.put]); (try simp only [List.setIfInBounds_toArray]); (try simp only [List.set_cons_succ]); (try simp only [List.set_cons_zero])
        refine wpAnyH_take (i := 1) (v := ?_) rfl (by kernel_rfl) (by kernel_rfl) (by kernel_rfl) (fun _ _ _ h => h) (Or.inl ⟨by kernel_rfl, ?_⟩) (by assumption) ?_
        rotate_left
        · intro w hSw
          try dsimp only at hSw
          obtain ⟨hS0, hS1⟩ := hSw
          go_simp
          try with_reducible rfl
        (try simp only [List.getElem_toArray]); (try simp only [List.getElem_cons_succ]); (try simp only [List.getElem_cons_zero]); (try simp only [Act.put]); (try simp only [List.setIfInBounds_toArray]); (try simp only [List.set_cons_succ]); (try simp only [List.set_cons_zero])
        refine wpAnyH_take (i := 2) (v := ?_) rfl (by kernel_rfl) (by kernel_rfl) (by kernel_rfl) (fun _ _ _ h => h) (Or.inl ⟨by kernel_rfl, ?_⟩) (by assumption) ?_
        rotate_left
        · intro w hSw
          try dsimp only at hSw
          obtain ⟨hS0, hS1⟩ := hSw
          go_simp
          try with_reducible rfl
        (try simp only [List.getElem_toArray]); (try simp only [List.getElem_cons_succ]); (try simp only [List.getElem_cons_zero]); (try simp only [Act.put]); (try simp only [List.setIfInBounds_toArray]); (try simp only [List.set_cons_succ]); (try simp only [List.set_cons_zero])
        refine wpAnyH_take (i := 3) (v := ?_) rfl (by kernel_rfl) (by kernel_rfl) (by kernel_rfl) (fun _ _ _ h => h) (Or.inl ⟨by kernel_rfl, ?_⟩) (by assumption) ?_
        rotate_left
        · intro w hSw
          try dsimp only at hSw
          obtain ⟨hS0, hS1⟩ := hSw
          go_simp
          try with_reducible rfl
        (try simp only [List.getElem_toArray]); (try simp only [List.getElem_cons_succ]); (try simp only [List.getElem_cons_zero]); (try simp only [Act.put]); (try simp only [List.setIfInBounds_toArray]); (try simp only [List.set_cons_succ]); (try simp only [List.set_cons_zero])
        refine wpAnyH_take (i := 4) (v := ?_) rfl (by kernel_rfl) (by kernel_rfl) (by kernel_rfl) (fun _ _ _ h => h) (Or.inl ⟨by kernel_rfl, ?_⟩) (by assumption) ?_
        rotate_left
        · intro w hSw
          try dsimp only at hSw
          obtain ⟨hS0, hS1⟩ := hSw
          go_simp
          try with_reducible rfl
        (try simp only [List.getElem_toArray]); (try simp only [List.getElem_cons_succ]); (try simp only [List.getElem_cons_zero]); (try simp only [Act.put]); (try simp only [List.setIfInBounds_toArray]); (try simp only [List.set_cons_succ]); (try simp only [List.set_cons_zero])
        refine wpAnyH_take (i := 5) (v := ?_) rfl (by kernel_rfl) (by kernel_rfl) (by kernel_rfl) (fun _ _ _ h => h) (Or.inl ⟨by kernel_rfl, ?_⟩) (by assumption) ?_
        rotate_left
        · intro w hSw
          try dsimp only at hSw
          obtain ⟨hS0, hS1⟩ := hSw
          go_simp
          try with_reducible rfl
        (try simp only [List.getElem_toArray]); (try simp only [List.getElem_cons_succ]); (try simp only [List.getElem_cons_zero]); (try simp only [Act.put]); (try simp only [List.setIfInBounds_toArray]); (try simp only [List.set_cons_succ]); (try simp only [List.set_cons_zero])
        refine wpAnyH_take (i := 6) (v := ?_) rfl (by kernel_rfl) (by kernel_rfl) (by kernel_rfl) (fun _ _ _ h => h) (Or.inl ⟨by kernel_rfl, ?_⟩) (by assumption) ?_
        rotate_left
        · intro w hSw
          try dsimp only at hSw
          obtain ⟨hS0, hS1⟩ := hSw
          go_simp
          try with_reducible rfl
        (try simp only [List.getElem_toArray]); (try simp only [List.getElem_cons_succ]); (try simp only [List.getElem_cons_zero]); (try simp only [Act.put]); (try simp only [List.setIfInBounds_toArray]); (try simp only [List.set_cons_succ]); (try simp only [List.set_cons_zero])
        refine wpAnyH_take (i := 7) (v := ?_) rfl (by kernel_rfl) (by kernel_rfl) (by kernel_rfl) (fun _ _ _ h => h) (Or.inl ⟨by kernel_rfl, ?_⟩) (by assumption) ?_
        rotate_left
        · intro w hSw
          try dsimp only at hSw
          obtain ⟨hS0, hS1⟩ := hSw
          go_simp
          try with_reducible rfl
        (try simp only [List.getElem_toArray]); (try simp only [List.getElem_cons_succ]); (try simp only [List.getElem_cons_zero]); (try simp only [Act.put]); (try simp only [List.setIfInBounds_toArray]); (try simp only [List.set_cons_succ]); (try simp only [List.set_cons_zero])
        refine wpAnyH_take (i := 8) (v := ?_) rfl (by kernel_rfl) (by kernel_rfl) (by kernel_rfl) (fun _ _ _ h => h) (Or.inl ⟨by kernel_rfl, ?_⟩) (by assumption) ?_
        rotate_left
        · intro w hSw
          try dsimp only at hSw
          obtain ⟨hS0, hS1⟩ := hSw
          go_simp
          try with_reducible rfl
        (try simp only [List.getElem_toArray]); (try simp only [List.getElem_cons_succ]); (try simp only [List.getElem_cons_zero]); (try simp only [Act.put]); (try simp only [List.setIfInBounds_toArray]); (try simp only [List.set_cons_succ]); (try simp only [List.set_cons_zero])
        refine wpAnyH_take (i := 9) (v := ?_) rfl (by kernel_rfl) (by kernel_rfl) (by kernel_rfl) (fun _ _ _ h => h) (Or.inl ⟨by kernel_rfl, ?_⟩) (by assumption) ?_
        rotate_left
        · intro w hSw
          try dsimp only at hSw
          obtain ⟨hS0, hS1⟩ := hSw
          go_simp
          try with_reducible rfl
        (try simp only [List.getElem_toArray]); (try simp only [List.getElem_cons_succ]); (try simp only [List.getElem_cons_zero]); (try simp only [Act.put]); (try simp only [List.setIfInBounds_toArray]); (try simp only [List.set_cons_succ]); (try simp only [List.set_cons_zero])
        refine wpAnyH_take (i := 10) (v := ?_) rfl (by kernel_rfl) (by kernel_rfl) (by kernel_rfl) (fun _ _ _ h => h) (Or.inl ⟨by kernel_rfl, ?_⟩) (by assumption) ?_
        rotate_left
        · intro w hSw
          try dsimp only at hSw
          obtain ⟨hS0, hS1⟩ := hSw
          go_simp
          try with_reducible rfl
        (try simp only [List.getElem_toArray]); (try simp only [List.getElem_cons_succ]); (try simp only [List.getElem_cons_zero]); (try simp only [Act.put]); (try simp only [List.setIfInBounds_toArray]); (try simp only [List.set_cons_succ]); (try simp only [List.set_cons_zero])
        refine wpAnyH_take (i := 11) (v := ?_) rfl (by kernel_rfl) (by kernel_rfl) (by kernel_rfl) (fun _ _ _ h => h) (Or.inl ⟨by kernel_rfl, ?_⟩) (by assumption) ?_
        rotate_left
        · intro w hSw
          try dsimp only at hSw
          obtain ⟨hS0, hS1⟩ := hSw
          go_simp
          try with_reducible rfl
        (try simp only [List.getElem_toArray]); (try simp only [List.getElem_cons_succ]); (try simp only [List.getElem_cons_zero]); (try simp only [Act.put]); (try simp only [List.setIfInBounds_toArray]); (try simp only [List.set_cons_succ]); (try simp only [List.set_cons_zero])
        refine wpAnyH_take (i := 12) (v := ?_) rfl (by kernel_rfl) (by kernel_rfl) (by kernel_rfl) (fun _ _ _ h => h) (Or.inl ⟨by kernel_rfl, ?_⟩) (by assumption) ?_
        rotate_left
        · intro w hSw
          try dsimp only at hSw
          obtain ⟨hS0, hS1⟩ := hSw
          go_simp
          try with_reducible rfl
        (try simp only [List.getElem_toArray]); (try simp only [List.getElem_cons_succ]); (try simp only [List.getElem_cons_zero]); (try simp only [Act.put]); (try simp only [List.setIfInBounds_toArray]); (try simp only [List.set_cons_succ]); (try simp only [List.set_cons_zero])
        refine wpAnyH_take (i := 13) (v := ?_) rfl (by kernel_rfl) (by kernel_rfl) (by kernel_rfl) (fun _ _ _ h => h) (Or.inl ⟨by kernel_rfl, ?_⟩) (by assumption) ?_
        rotate_left
        · intro w hSw
          try dsimp only at hSw
          obtain ⟨hS0, hS1⟩ := hSw
          go_simp
          try with_reducible rfl
        (try simp only [List.getElem_toArray]); (try simp only [List.getElem_cons_succ]); (try simp only [List.getElem_cons_zero]); (try simp only [Act.put]); (try simp only [List.setIfInBounds_toArray]); (try simp only [List.set_cons_succ]); (try simp only [List.set_cons_zero])
        refine wpAnyH_take (i := 14) (v := ?_) rfl (by kernel_rfl) (by kernel_rfl) (by kernel_rfl) (fun _ _ _ h => h) (Or.inl ⟨by kernel_rfl, ?_⟩) (by assumption) ?_
        rotate_left
        · intro w hSw
          try dsimp only at hSw
          obtain ⟨hS0, hS1⟩ := hSw
          go_simp
          try with_reducible rfl
        (try simp only [List.getElem_toArray]); (try simp only [List.getElem_cons_succ]); (try simp only [List.getElem_cons_zero]); (try simp only [Act.put]); (try simp only [List.setIfInBounds_toArray]); (try simp only [List.set_cons_succ]); (try simp only [List.set_cons_zero])
        refine wpAnyH_take (i := 15) (v := ?_) rfl (by kernel_rfl) (by kernel_rfl) (by kernel_rfl) (fun _ _ _ h => h) (Or.inl ⟨by kernel_rfl, ?_⟩) (by assumption) ?_
        rotate_left
        · intro w hSw
          try dsimp only at hSw
          obtain ⟨hS0, hS1⟩ := hSw
          go_simp
          try with_reducible rfl
        (try simp only [List.getElem_toArray]); (try simp only [List.getElem_cons_succ]); (try simp only [List.getElem_cons_zero]); (try simp only [Act.put]); (try simp only [List.setIfInBounds_toArray]); (try simp only [List.set_cons_succ]); (try simp only [List.set_cons_zero])
        refine wpAnyH_take (i := 16) (v := ?_) rfl (by kernel_rfl) (by kernel_rfl) (by kernel_rfl) (fun _ _ _ h => h) (Or.inl ⟨by kernel_rfl, ?_⟩) (by assumption) ?_
        rotate_left
        · intro w hSw
          try dsimp only at hSw
          obtain ⟨hS0, hS1⟩ := hSw
          go_simp
          try with_reducible rfl
        (try simp only [List.getElem_toArray]); (try simp only [List.getElem_cons_succ]); (try simp only [List.getElem_cons_zero]); (try simp only [Act.put]); (try simp only [List.setIfInBounds_toArray]); (try simp only [List.set_cons_succ]); (try simp only [List.set_cons_zero])
        refine wpAnyH_take (i := 17) (v := ?_) rfl (by kernel_rfl) (by kernel_rfl) (by kernel_rfl) (fun _ _ _ h => h) (Or.inl ⟨by kernel_rfl, ?_⟩) (by assumption) ?_
        rotate_left
        · intro w hSw
          try dsimp only at hSw
          obtain ⟨hS0, hS1⟩ := hSw
          go_simp
          try with_reducible rfl
        (try simp only [List.getElem_toArray]); (try simp only [List.getElem_cons_succ]); (try simp only [List.getElem_cons_zero]); (try simp only [Act.put]); (try simp only [List.setIfInBounds_toArray]); (try simp only [List.set_cons_succ]); (try simp only [List.set_cons_zero])
        refine wpAnyH_take (i := 18) (v := ?_) rfl (by kernel_rfl) (by kernel_rfl) (by kernel_rfl) (fun _ _ _ h => h) (Or.inl ⟨by kernel_rfl, ?_⟩) (by assumption) ?_
        rotate_left
        · intro w hSw
          try dsimp only at hSw
          obtain ⟨hS0, hS1⟩ := hSw
          go_simp
          try with_reducible rfl
        (try simp only [List.getElem_toArray]); (try simp only [List.getElem_cons_succ]); (try simp only [List.getElem_cons_zero]); (try simp only [Act.put]); (try simp only [List.setIfInBounds_toArray]); (try simp only [List.set_cons_succ]); (try simp only [List.set_cons_zero])
        refine wpAnyH_take (i := 19) (v := ?_) rfl (by kernel_rfl) (by kernel_rfl) (by kernel_rfl) (fun _ _ _ h => h) (Or.inl ⟨by kernel_rfl, ?_⟩) (by assumption) ?_
        rotate_left
        · intro w hSw
          try dsimp only at hSw
          obtain ⟨hS0, hS1⟩ := hSw
          go_simp
          try with_reducible rfl
        (try simp only [List.getElem_toArray]); (try simp only [List.getElem_cons_succ]); (try simp only [List.getElem_cons_zero]); (try simp only [Act.put]); (try simp only [List.setIfInBounds_toArray]); (try simp only [List.set_cons_succ]); (try simp only [List.set_cons_zero])
        refine wpAnyH_take (i := 20) (v := ?_) rfl (by kernel_rfl) (by kernel_rfl) (by kernel_rfl) (fun _ _ _ h => h) (Or.inl ⟨by kernel_rfl, ?_⟩) (by assumption) ?_
        rotate_left
        · intro w hSw
          try dsimp only at hSw
          obtain ⟨hS0, hS1⟩ := hSw
          go_simp
          try with_reducible rfl
        (try simp only [List.getElem_toArray]); (try simp only [List.getElem_cons_succ]); (try simp only [List.getElem_cons_zero]); (try simp only [Act.put]); (try simp only [List.setIfInBounds_toArray]); (try simp only [List.set_cons_succ]); (try simp only [List.set_cons_zero])
        refine wpAnyH_ready (rs := [21]) (by kernel_rfl) (by simp) ?_
        refine AllReadyH.cons rfl (fun K hK => ?_) AllReadyH.nil
        go_simp
        refine (hen _).mono ?_
        rintro e w1 ⟨rfl, hb0⟩
        have hb1 : Below wr.heap.size wr w1 := ⟨hb0.os, hb0.tape, hb0.output, hb0.size, hb0.block⟩
        have T1 := hT.out.grow hb1
        have d01 := HX.out _ _ _ T1.box
        have HT1 := Lib.hid (And.intro T1 (hB.out.trans (Keeps.of hb1)))
        refine hK.out _ _ ⟨d01.1, d01.2.1⟩ (fun hHeld2 => ?_)
        clear hK K hHeld hb0 hb1 T1
        (try simp only [List.getElem_toArray]); (try simp only [List.getElem_cons_succ]); (try simp only [List.getElem_cons_zero]); (try simp only [Act.put]); (try simp only [List.setIfInBounds_toArray]); (try simp only [List.set_cons_succ]); (try simp only [List.set_cons_zero])
        refine wpAnyH_take (i := 22) (v := ?_) rfl (by kernel_rfl) (by kernel_rfl) (by kernel_rfl) (fun _ _ _ h => h) (Or.inl ⟨by kernel_rfl, ?_⟩) (by assumption) ?_
        rotate_left
        · intro w hSw
          try dsimp only at hSw
          obtain ⟨hS0, hS1⟩ := hSw
          go_simp
          try with_reducible rfl
        (try simp only [List.getElem_toArray]); (try simp only [List.getElem_cons_succ]); (try simp only [List.getElem_cons_zero]); (try simp only [Act.put]); (try simp only [List.setIfInBounds_toArray]); (try simp only [List.set_cons_succ]); (try simp only [List.set_cons_zero])
        refine wpAnyH_take (i := 23) (v := ?_) rfl (by kernel_rfl) (by kernel_rfl) (by kernel_rfl) (fun _ _ _ h => h) (Or.inl ⟨by kernel_rfl, ?_⟩) (by assumption) ?_
        rotate_left
        · intro w hSw
          try dsimp only at hSw
          obtain ⟨hS0, hS1⟩ := hSw
          go_simp
          try with_reducible rfl
        (try simp only [List.getElem_toArray]); (try simp only [List.getElem_cons_succ]); (try simp only [List.getElem_cons_zero]); (try simp only [Act.put]); (try simp only [List.setIfInBounds_toArray]); (try simp only [List.set_cons_succ]); (try simp only [List.set_cons_zero])
        refine wpAnyH_done (by kernel_rfl) ?_ _
        have HFIN := raw_hit HM.out.1 HM.out.2 hh hA.out
        have hfin : Hid (DataMid l j j ((ps ++ txP (rawX (elemN nm) (cut l k j))).map Prod.fst)) := by
          show DataMid _ _ _ _
          rw [List.map_append, txP_fst]
          exact HFIN
        have hlen : Hid ((ps ++ txP (rawX (elemN nm) (cut l k j))).length ≤ (tokL l).length) := by
          show _ ≤ _
          have h := mid_len hfin.out
          rw [List.length_map] at h
          exact h
        have hsi := fun W (h : Bx R l j v W) => since_c R l j k v W h hkj hjl
        have hel := HEl.out
        have hcl1 : (cut l k j).length ≤ 65536 := Nat.le_trans (cut_len_le l k j) hl
        by_cases h1 : elemN nm = 1
        · have hx : rawX (elemN nm) (cut l k j) = decL' (cut l k j) := by unfold rawX; rw [h1]; rfl
          rw [hx] at hfin hlen
          have hso := fun W => decode_c (cut l k j) (Nat.le_trans hcl1 (by decide)) W
          have htl := fun W (h : RdT R l j v ps W) => tellText_c R l j v ps W h (decL' (cut l k j)) hn
          have h1b : (ev == 1) = true := by rw [beq_iff_eq, HEv.out]; omega
          generalize S (decL' (cut l k j)) = Y at hso htl
          generalize S (cut l k j) = C at hsi hso
          go_wp2_with (first
            | (go_at_call 29; refine (hsi _ HT1.out.1.box).mono ?_; rintro e2 w2 ⟨rfl, m2, hw2⟩; have HT2 := Lib.hid (And.intro (HT1.out.1.grow (grown_of' hw2)) (HT1.out.2.trans (Keeps.of (grown_of' hw2)))); clear hw2)
            | (go_at_call 50; refine (hel _).mono ?_; rintro e3 w3 ⟨rfl, h3⟩; have HT3 := Lib.hid (And.intro (HT2.out.1.grow h3) (HT2.out.2.trans (Keeps.of h3))); clear h3)
            | (go_at_call 28; refine (hso _).mono ?_; rintro e4 w4 ⟨rfl, h4⟩; have HT4 := Lib.hid (And.intro (HT3.out.1.grow h4) (HT3.out.2.trans (Keeps.of h4))); clear h4))
          refine (htl _ HT4.out.1).mono ?_
          intro e5 w5 ht
          cases ht with
          | many he hn5 hb5 =>
            subst he
            exact ⟨rfl, .many rfl (Nat.lt_of_lt_of_le hn5 hlen.out) ((HT4.out.2.below hlow).trans hb5)⟩
          | done he hn5 v5 h5 hm5 =>
            subst he
            have HF5 := Lib.hid (And.intro h5 ((HT4.out.2.below hlow).trans (hm5.below HT4.out.1.low (own_ge HT4.out.1.out))))
            clear h5 hm5
            go_wp2_with fail
            go_end0
            exact .done rfl j v5 _ HF5.out.1 hjl (by omega) hn5 hfin.out HF5.out.2
        · have hx : rawX (elemN nm) (cut l k j) = cut l k j := by unfold rawX; rw [if_neg (by simpa using h1)]
          rw [hx] at hfin hlen
          have hso := fun W => tclone_c (S (cut l k j)) W (by rw [size_S]; omega)
          have htl := fun W (h : RdT R l j v ps W) => tellText_c R l j v ps W h (cut l k j) hn
          have h1b : (ev == 1) = false := by rw [beq_eq_false_iff_ne, HEv.out]; omega
          generalize S (cut l k j) = C at hsi hso htl
          go_wp2_with (first
            | (go_at_call 29; refine (hsi _ HT1.out.1.box).mono ?_; rintro e2 w2 ⟨rfl, m2, hw2⟩; have HT2 := Lib.hid (And.intro (HT1.out.1.grow (grown_of' hw2)) (HT1.out.2.trans (Keeps.of (grown_of' hw2)))); clear hw2)
            | (go_at_call 50; refine (hel _).mono ?_; rintro e3 w3 ⟨rfl, h3⟩; have HT3 := Lib.hid (And.intro (HT2.out.1.grow h3) (HT2.out.2.trans (Keeps.of h3))); clear h3)
            | (go_at_call 59; refine (hso _).mono ?_; rintro e4 w4 ⟨rfl, h4⟩; have HT4 := Lib.hid (And.intro (HT3.out.1.grow h4) (HT3.out.2.trans (Keeps.of h4))); clear h4))
          refine (htl _ HT4.out.1).mono ?_
          intro e5 w5 ht
          cases ht with
          | many he hn5 hb5 =>
            subst he
            exact ⟨rfl, .many rfl (Nat.lt_of_lt_of_le hn5 hlen.out) ((HT4.out.2.below hlow).trans hb5)⟩
          | done he hn5 v5 h5 hm5 =>
            subst he
            have HF5 := Lib.hid (And.intro h5 ((HT4.out.2.below hlow).trans (hm5.below HT4.out.1.low (own_ge HT4.out.1.out))))
            clear h5 hm5
            go_wp2_with fail
            go_end0
            exact .done rfl j v5 _ HF5.out.1 hjl (by omega) hn5 hfin.out HF5.out.2
    · have hd : decide ((j : Int) < (l.length : Int)) = false := decide_eq_false (by omega)
      have hje : j = l.length := by omega
      have HFIN : DataMid l j j (ps.map Prod.fst ++ tx (rawX (elemN nm) (cut l k j))) := by
        have h := data_none (raw_end hj hA.out)
        exact (by rw [hje] at h ⊢; exact h)
      go_wp2_with fail
      go_quiet (fail)
      have HT1 := Lib.hid (And.intro (hT.out.grow (Oct.below_drewN (Below.refl _ wr) nq)) (hB.out.trans (Keeps.of (Oct.below_drewN (Below.refl _ wr) nq))))
      generalize wr.drewN nq = w1 at HT1 ⊢
      have hfin : Hid (DataMid l j j ((ps ++ txP (rawX (elemN nm) (cut l k j))).map Prod.fst)) := by
        show DataMid _ _ _ _
        rw [List.map_append, txP_fst]
        exact HFIN
      have hlen : Hid ((ps ++ txP (rawX (elemN nm) (cut l k j))).length ≤ (tokL l).length) := by
        show _ ≤ _
        have h := mid_len hfin.out
        rw [List.length_map] at h
        exact h
      have hsi := fun W (h : Bx R l j v W) => since_c R l j k v W h hkj hjl
      have hel := HEl.out
      have hcl1 : (cut l k j).length ≤ 65536 := Nat.le_trans (cut_len_le l k j) hl
      by_cases h1 : elemN nm = 1
      · have hx : rawX (elemN nm) (cut l k j) = decL' (cut l k j) := by unfold rawX; rw [h1]; rfl
        rw [hx] at hfin hlen
        have hso := fun W => decode_c (cut l k j) (Nat.le_trans hcl1 (by decide)) W
        have htl := fun W (h : RdT R l j v ps W) => tellText_c R l j v ps W h (decL' (cut l k j)) hn
        have h1b : (ev == 1) = true := by rw [beq_iff_eq, HEv.out]; omega
        generalize S (decL' (cut l k j)) = Y at hso htl
        generalize S (cut l k j) = C at hsi hso
        go_wp2_with (first
          | (go_at_call 29; refine (hsi _ HT1.out.1.box).mono ?_; rintro e2 w2 ⟨rfl, m2, hw2⟩; have HT2 := Lib.hid (And.intro (HT1.out.1.grow (grown_of' hw2)) (HT1.out.2.trans (Keeps.of (grown_of' hw2)))); clear hw2)
          | (go_at_call 50; refine (hel _).mono ?_; rintro e3 w3 ⟨rfl, h3⟩; have HT3 := Lib.hid (And.intro (HT2.out.1.grow h3) (HT2.out.2.trans (Keeps.of h3))); clear h3)
          | (go_at_call 28; refine (hso _).mono ?_; rintro e4 w4 ⟨rfl, h4⟩; have HT4 := Lib.hid (And.intro (HT3.out.1.grow h4) (HT3.out.2.trans (Keeps.of h4))); clear h4))
        refine (htl _ HT4.out.1).mono ?_
        intro e5 w5 ht
        cases ht with
        | many he hn5 hb5 =>
          subst he
          exact ⟨rfl, .many rfl (Nat.lt_of_lt_of_le hn5 hlen.out) ((HT4.out.2.below hlow).trans hb5)⟩
        | done he hn5 v5 h5 hm5 =>
          subst he
          have HF5 := Lib.hid (And.intro h5 ((HT4.out.2.below hlow).trans (hm5.below HT4.out.1.low (own_ge HT4.out.1.out))))
          clear h5 hm5
          go_wp2_with fail
          go_end0
          exact .done rfl j v5 _ HF5.out.1 hjl (by omega) hn5 hfin.out HF5.out.2
      · have hx : rawX (elemN nm) (cut l k j) = cut l k j := by unfold rawX; rw [if_neg (by simpa using h1)]
        rw [hx] at hfin hlen
        have hso := fun W => tclone_c (S (cut l k j)) W (by rw [size_S]; omega)
        have htl := fun W (h : RdT R l j v ps W) => tellText_c R l j v ps W h (cut l k j) hn
        have h1b : (ev == 1) = false := by rw [beq_eq_false_iff_ne, HEv.out]; omega
        generalize S (cut l k j) = C at hsi hso htl
        go_wp2_with (first
          | (go_at_call 29; refine (hsi _ HT1.out.1.box).mono ?_; rintro e2 w2 ⟨rfl, m2, hw2⟩; have HT2 := Lib.hid (And.intro (HT1.out.1.grow (grown_of' hw2)) (HT1.out.2.trans (Keeps.of (grown_of' hw2)))); clear hw2)
          | (go_at_call 50; refine (hel _).mono ?_; rintro e3 w3 ⟨rfl, h3⟩; have HT3 := Lib.hid (And.intro (HT2.out.1.grow h3) (HT2.out.2.trans (Keeps.of h3))); clear h3)
          | (go_at_call 59; refine (hso _).mono ?_; rintro e4 w4 ⟨rfl, h4⟩; have HT4 := Lib.hid (And.intro (HT3.out.1.grow h4) (HT3.out.2.trans (Keeps.of h4))); clear h4))
        refine (htl _ HT4.out.1).mono ?_
        intro e5 w5 ht
        cases ht with
        | many he hn5 hb5 =>
          subst he
          exact ⟨rfl, .many rfl (Nat.lt_of_lt_of_le hn5 hlen.out) ((HT4.out.2.below hlow).trans hb5)⟩
        | done he hn5 v5 h5 hm5 =>
          subst he
          have HF5 := Lib.hid (And.intro h5 ((HT4.out.2.below hlow).trans (hm5.below HT4.out.1.low (own_ge HT4.out.1.out))))
          clear h5 hm5
          go_wp2_with fail
          go_end0
          exact .done rfl j v5 _ HF5.out.1 hjl (by omega) hn5 hfin.out HF5.out.2
end Go.Proofs.YtidfcajhmldieaaGreatDoor.Tkc
