/-
  Part 12: RdBegin0, RdBegin, RdChar.
-/
import Derived.Test.YtganmmkdcaphfaaGreatDoorJsBaseP10
import Derived.Test.YtganmmkdcaphfaaGreatDoorJsBaseP6
import Derived.Test.YtganmmkdcaphfaaGreatDoorJsBaseP9
/-
  A list or a record begins (what holds in memory).
-/
namespace Go.Proofs.YtganmmkdcaphfaaGreatDoor.Rd
open Go.RowKit Go.Proofs.YtganmmkdcaphfaaGreatDoor.Oct Go.Proofs.YtganmmkdcaphfaaGreatDoor.Val

/-- One that has just begun. -/
abbrev fresh0 (k : Int) : Fr := ⟨k, [], []⟩
abbrev new5 (k : Int) : E5 := (.int .i64 k, .int .i64 0, .string ⟨#[]⟩, .slice none 0 0, .slice none 0 0)

theorem push_done {N : Nat} {tag : Nat → Nat} {w W wB Z : World} {R : Nat} {s : List UInt8} {fs : List Fr} {k : Int} (hk : k = 5 ∨ k = 6) {deep : Nat} {ov : Value} {es : List E5} (hkw : Kp tag tag w W) (h : RdAt N tag W R s fs deep ov es) {o : Obj} {g cap : Nat}
    (hg : (W.alloc o).grownBy wB ov.ownBlock) (hat : ov.ownBlock = some g ∨ g = W.heap.size + 1) (hlt : g < wB.heap.size)
    (hZ1 : ∀ b, b ≠ g → b ≠ R → Z.heap[b]? = wB.heap[b]?) (hZs : SameF Z wB)
    (hZg : Z.ownsRow N 25 5 (.slice (some ⟨g, 0, none⟩) (fs.length + 1) cap) (fs.length + 1) (flat (es ++ [new5 k])))
    (hZR : Rd R (S s) (.slice (some ⟨g, 0, none⟩) (fs.length + 1) cap) (.int .i64 deep) Z) :
    ∃ tag', RdAt N tag' Z R s (fs ++ [fresh0 k]) deep (.slice (some ⟨g, 0, none⟩) (fs.length + 1) cap) (es ++ [new5 k]) ∧ Kp tag tag' w Z := by
  have hsz : W.heap.size + 1 ≤ wB.heap.size := by have := hg.size; simp at this; exact this
  have hgm : W.heap.size ≤ g ∨ tag g = 3 := by
    rcases hat with h1 | h1
    · exact .inr (h.omark _ h1)
    · exact .inl (by omega)
  have hgN : N ≤ g := by
    rcases hat with h1 | h1
    · exact (own_lt h.own h1).1
    · have := h.size; omega
  have hne : ∀ b, b < W.heap.size → tag b ≠ 3 → b ≠ g := fun b hb ht e => by
    subst e
    rcases hgm with h1 | h1
    · omega
    · exact ht h1
  have hRg : R ≠ g := hne R h.rd.lt (by rw [h.rmark]; omega)
  have hW : ∀ b, b < W.heap.size → tag b ≠ 3 → tag b ≠ 2 → Z.heap[b]? = W.heap[b]? := fun b hb h3 h2 => by
    rw [hZ1 b (hne b hb h3) (fun e => h2 (by rw [e]; exact h.rmark)), hg.block b (by simp; omega) (fun e => h3 (h.omark b e.symm)), Go.heap_alloc_old _ _ hb]
  have hT : ∀ b, b < W.heap.size → tag b ≠ 3 → (if b = g then 3 else tag b) = tag b := fun b hb h3 => if_neg (hne b hb h3)
  have hs := hZs.1
  have hNR : N ≤ R := by
    rcases Nat.lt_or_ge R N with h1 | h1
    · have := h.out R (.inl h1); rw [h.rmark] at this; omega
    · exact h1
  refine ⟨fun b => if b = g then 3 else tag b, ⟨hZR, ?_, ?_, ?_, ?_, ?_, ?_, ?_⟩, ?_⟩
  · have e1 : (fs ++ [fresh0 k]).length = fs.length + 1 := by simp
    rw [e1]; exact hZg
  · simp [h.len]
  · intro i h1 h2
    rcases Nat.lt_or_ge i fs.length with hi | hi
    · have hie : i < es.length := by rw [h.len]; exact hi
      have e1 : (es ++ [new5 k])[i]'h1 = es[i] := List.getElem_append_left hie
      have e2 : (fs ++ [fresh0 k])[i]'h2 = fs[i] := List.getElem_append_left hi
      obtain ⟨L2, K2, ys2, hf2⟩ := h.frs i hie hi
      rw [e1, e2]
      exact ⟨L2, K2, ys2, hf2.frame fun b hb ht => ⟨hW b hb (by omega) (by omega), hT b hb (by omega)⟩⟩
    · have hie : i = fs.length := by simp at h2; omega
      have e1 : (es ++ [new5 k])[i]'h1 = new5 k := by
        rw [List.getElem_append_right (by rw [h.len]; omega)]; simp
      have e2 : (fs ++ [fresh0 k])[i]'h2 = fresh0 k := by
        rw [List.getElem_append_right hi]; simp
      rw [e1, e2]
      refine ⟨.slice none 0 0, .slice none 0 0, [], ⟨rfl, hk, ⟨rfl, .inl ⟨rfl, rfl⟩⟩, rfl, fun j j1 => absurd j1 (by simp), fun b hb => (by cases hb), ⟨rfl, .inl ⟨rfl, rfl⟩⟩, fun b hb => (by cases hb), fun t ht => (by cases ht)⟩⟩
  · show (if R = g then 3 else tag R) = 2
    rw [if_neg hRg]; exact h.rmark
  · intro b hb
    injection hb with hb
    have hb' : b = g := hb.symm
    show (if b = g then 3 else tag b) = 3
    rw [if_pos hb']
  · intro b hb
    have hbg : b ≠ g := by rintro rfl; omega
    show (if b = g then _ else _) = 1
    rw [if_neg hbg]
    exact h.out b (by omega)
  · have := h.size; omega
  · refine hkw.trans ⟨hZs.2.1.trans hg.os, hZs.2.2.1.trans hg.tape, hZs.2.2.2.trans hg.output, by omega, fun b hb ht => ⟨hW b hb (by omega) (by omega), hT b hb (by omega)⟩⟩

theorem RdAt.deeper {N : Nat} {tag : Nat → Nat} {w : World} {R : Nat} {s : List UInt8} {fs : List Fr} {deep : Nat} {ov : Value} {es : List E5} (h : RdAt N tag w R s fs deep ov es) (d : Nat) : RdAt N tag (w.setCell ⟨R, 2, none⟩ (.int .i64 d)) R s fs d ov es := by
  have hb : ∀ b, b ≠ R → (w.setCell ⟨R, 2, none⟩ (.int .i64 d)).heap[b]? = w.heap[b]? := fun b hb => heap_setCell_other _ _ _ _ (by simpa using hb)
  have hs : (w.setCell ⟨R, 2, none⟩ (.int .i64 d)).heap.size = w.heap.size := by simp [World.setCell]
  refine ⟨?_, own_at h.own fun k hk => hb k (fun e => by have := h.omark k hk; rw [e, h.rmark] at this; omega), h.len, fun i h1 h2 => ?_, h.rmark, h.omark, fun b hb => h.out b (by omega), by have := h.size; omega⟩
  · have e := heap_setCell_same w R 2 _ _ (.int .i64 (d : Int)) h.rd
    exact e
  · obtain ⟨L, K, ys, hf⟩ := h.frs i h1 h2
    exact ⟨L, K, ys, hf.frame fun b hl ht => ⟨hb b (fun e => by rw [e, h.rmark] at ht; omega), rfl⟩⟩
end Go.Proofs.YtganmmkdcaphfaaGreatDoor.Rd

/-
  Contract of the reader's begin.
-/
namespace Go.Proofs.YtganmmkdcaphfaaGreatDoor.Rd
open Go.RowKit Go.Proofs.YtganmmkdcaphfaaGreatDoor.Oct Go.Proofs.YtganmmkdcaphfaaGreatDoor.Val

theorem begin_facts {N : Nat} {tag : Nat → Nat} {W wB : World} {R : Nat} {s : List UInt8} {fs : List Fr} {deep : Nat} {ov : Value} {es : List E5} (h : RdAt N tag W R s fs deep ov es) {o : Obj} {g cap : Nat}
    (hown : wB.ownsRow N 25 5 (.slice (some ⟨g, 0, none⟩) (fs.length + 1) cap) (fs.length + 1) (flat es ++ cells5 zero5)) (hg : (W.alloc o).grownBy wB ov.ownBlock) (hat : ov.ownBlock = some g ∨ g = W.heap.size + 1) :
    (wB.cell? ⟨g, fs.length * 5, none⟩ = some (.int .i64 0) ∧ wB.cell? ⟨g, fs.length * 5 + 1, none⟩ = some (.int .i64 0) ∧ wB.cell? ⟨g, fs.length * 5 + 2, none⟩ = some (.string ⟨#[]⟩) ∧ wB.cell? ⟨g, fs.length * 5 + 3, none⟩ = some (.slice none 0 0) ∧ wB.cell? ⟨g, fs.length * 5 + 4, none⟩ = some (.slice none 0 0)) ∧
    (wB.frozen? ⟨g, fs.length * 5, none⟩ = false ∧ wB.frozen? ⟨g, fs.length * 5 + 1, none⟩ = false ∧ wB.frozen? ⟨g, fs.length * 5 + 2, none⟩ = false ∧ wB.frozen? ⟨g, fs.length * 5 + 3, none⟩ = false ∧ wB.frozen? ⟨g, fs.length * 5 + 4, none⟩ = false) ∧
    Rd R (S s) ov (.int .i64 deep) wB ∧ ¬ g = R ∧ ¬ R = g := by
  have hl : (flat es).length = fs.length * 5 := by rw [flat_len, h.len]
  have hc : ∀ i, i < 5 → wB.cell? ⟨g, fs.length * 5 + i, none⟩ = (cells5 zero5)[i]? := fun i hi => by
    rw [hown.cellAt (fs.length * 5 + i) (by omega), List.getElem?_append_right (by omega), hl]
    congr 1
    omega
  have hz : ∀ i, wB.frozen? ⟨g, i, none⟩ = false := fun i => hown.frozenAt i
  have hR := h.rd.lt
  have hne : g ≠ R := by
    rintro rfl
    rcases hat with h1 | h1
    · have := h.omark _ h1; rw [h.rmark] at this; omega
    · omega
  refine ⟨⟨hc 0 (by omega), hc 1 (by omega), hc 2 (by omega), hc 3 (by omega), hc 4 (by omega)⟩, ⟨hz _, hz _, hz _, hz _, hz _⟩, ?_, hne, Ne.symm hne⟩
  unfold Rd
  rw [hg.block R (by simp; omega) (fun e => by have := h.omark R e.symm; rw [h.rmark] at this; omega), Go.heap_alloc_old _ _ hR]
  exact h.rd

theorem begin_fin {N : Nat} {tag : Nat → Nat} {w W wB : World} {R : Nat} {s : List UInt8} {fs : List Fr} {k : Int} (hk : k = 5 ∨ k = 6) {deep : Nat} {ov : Value} {es : List E5} (hkw : Kp tag tag w W) (h : RdAt N tag W R s fs deep ov es) {o : Obj} {g cap : Nat}
    (hown : wB.ownsRow N 25 5 (.slice (some ⟨g, 0, none⟩) (fs.length + 1) cap) (fs.length + 1) (flat es ++ cells5 zero5)) (hg : (W.alloc o).grownBy wB ov.ownBlock) (hat : ov.ownBlock = some g ∨ g = W.heap.size + 1) (hlt : g < wB.heap.size)
    (Z : World) (hZ : Z = (((((wB.setCell ⟨g, fs.length * 5, none⟩ (.int .i64 k)).setCell ⟨g, fs.length * 5 + 1, none⟩ (.int .i64 0)).setCell ⟨g, fs.length * 5 + 2, none⟩ (.string ⟨#[]⟩)).setCell ⟨g, fs.length * 5 + 3, none⟩ (.slice none 0 0)).setCell ⟨g, fs.length * 5 + 4, none⟩ (.slice none 0 0)).setCell ⟨R, 1, none⟩ (.slice (some ⟨g, 0, none⟩) (fs.length + 1) cap) ∨
      Z = (((((wB.setCell ⟨R, 1, none⟩ (.slice (some ⟨g, 0, none⟩) (fs.length + 1) cap)).setCell ⟨g, fs.length * 5, none⟩ (.int .i64 k)).setCell ⟨g, fs.length * 5 + 1, none⟩ (.int .i64 0)).setCell ⟨g, fs.length * 5 + 2, none⟩ (.string ⟨#[]⟩)).setCell ⟨g, fs.length * 5 + 3, none⟩ (.slice none 0 0)).setCell ⟨g, fs.length * 5 + 4, none⟩ (.slice none 0 0)) :
    ∃ tag', RdAt N tag' Z R s (fs ++ [fresh0 k]) deep (.slice (some ⟨g, 0, none⟩) (fs.length + 1) cap) (es ++ [new5 k]) ∧ Kp tag tag' w Z := by
  obtain ⟨_, _, hR, hne, _⟩ := begin_facts h hown hg hat
  have hr : ∀ {X : World}, X.ownsRow N 25 5 (.slice (some ⟨g, 0, none⟩) (fs.length + 1) cap) (fs.length + 1) (flat es ++ cells5 zero5) → (at5 X g (fs.length * 5) (.int .i64 k) (.int .i64 0) (.string ⟨#[]⟩) (.slice none 0 0) (.slice none 0 0)).ownsRow N 25 5 (.slice (some ⟨g, 0, none⟩) (fs.length + 1) cap) (fs.length + 1) (flat (es ++ [new5 k])) := fun hX => last_row h.len hX _ _ _ _ _
  have so : ∀ (X : World) (v : Value) (b : Nat), b ≠ R → (X.setCell ⟨R, 1, none⟩ v).heap[b]? = X.heap[b]? := fun X v b h => heap_setCell_other X _ b v (by simpa using h)
  have hZ' : Z = (at5 wB g (fs.length * 5) (.int .i64 k) (.int .i64 0) (.string ⟨#[]⟩) (.slice none 0 0) (.slice none 0 0)).setCell ⟨R, 1, none⟩ (.slice (some ⟨g, 0, none⟩) (fs.length + 1) cap) ∨ Z = at5 (wB.setCell ⟨R, 1, none⟩ (.slice (some ⟨g, 0, none⟩) (fs.length + 1) cap)) g (fs.length * 5) (.int .i64 k) (.int .i64 0) (.string ⟨#[]⟩) (.slice none 0 0) (.slice none 0 0) := by
    unfold at5; exact hZ
  clear hZ
  rcases hZ' with rfl | rfl
  · refine push_done hk hkw h hg hat hlt (fun b h1 h2 => (so _ _ _ h2).trans (at5_other _ _ _ _ _ _ h1)) ((set_frame _ _ _).trans (at5_frame _ _ _ _ _ _ _ _)) (own_at (hr hown) fun k hk => so _ _ _ ?_) ?_
    · injection hk with hk
      have : k = g := hk.symm
      rw [this]; exact hne
    · refine Rd.set1 (ov := ov) ?_ _
      unfold Rd
      rw [at5_other _ _ _ _ _ _ (Ne.symm hne)]
      exact hR
  · refine push_done hk hkw h hg hat hlt (fun b h1 h2 => (at5_other _ _ _ _ _ _ h1).trans (so _ _ _ h2)) ((at5_frame _ _ _ _ _ _ _ _).trans (set_frame _ _ _)) (hr (own_at hown fun k hk => so _ _ _ ?_)) ?_
    · injection hk with hk
      have : k = g := hk.symm
      rw [this]; exact hne
    · unfold Rd
      rw [at5_other _ _ _ _ _ _ (Ne.symm hne)]
      exact hR.set1 _
end Go.Proofs.YtganmmkdcaphfaaGreatDoor.Rd

/-
  Contract of the reader's char.
-/
namespace Go.Proofs.YtganmmkdcaphfaaGreatDoor.Rd
open Go.RowKit Go.Proofs.YtganmmkdcaphfaaGreatDoor.Oct Go.Proofs.YtganmmkdcaphfaaGreatDoor.Utf Go.Proofs.YtganmmkdcaphfaaGreatDoor.Num
open Go.Lib (encodeRune)

theorem unit_lt {l t : List UInt8} {n : Nat} (h : unitP l = some (n, t)) : n < 65536 := by
  unfold unitP at h
  split at h
  · unfold takeP at h
    by_cases h4 : 4 ≤ (l.drop 2).length
    · rw [if_pos h4] at h
      simp only at h
      split at h
      · injection h with h
        injection h with h1 h2
        rw [← h1]
        unfold unhexL
        have hl : ((l.drop 2).take 4).length = 4 := by rw [List.length_take]; omega
        have := valL_lt ((l.drop 2).take 4)
        rw [hl] at this
        repeat' split
        all_goals simp
        omega
      · cases h
    · rw [if_neg h4] at h
      cases h
  · cases h

/-- What Encode tells of a number. -/
def encP (c : Int) (t : List UInt8) : Option (List UInt8 × List UInt8) := if charB c then some (encodeRune c, t) else none
/-- What char reads. -/
def charP (l : List UInt8) : Option (List UInt8 × List UInt8) :=
  if Lib.hasPrefix l [92, 117] then
    match unitP l with
    | none => none
    | some (c, t) =>
      if 55296 ≤ c ∧ c ≤ 56319 then
        match unitP t with
        | none => none
        | some (d, t2) => encP (65536 + ((c : Int) - 55296) * 1024 + d - 56320) t2
      else encP c t
  else takeP 1 l

theorem hasPrefix_S (s p : List UInt8) (w : World) : Calls Tryz.prog 20 #[.string (S s), .string (S p)] w fun e w' => e = .returned (.bool (Lib.hasPrefix s p)) ∧ w' = w := Tryz.strings_HasPrefix (S s) (S p) w

theorem char_plain (R : Nat) (l : List UInt8) (ov dv : Value) (w : World) (h : Rd R (S l) ov dv w) (hp : Lib.hasPrefix l [92, 117] = false) :
    Calls Tryz.prog 83 #[.pointer (some ⟨R, 0, none⟩)] w (Reads R ov dv w (asS (takeP 1 l))) := by
  have ht := take_c R 1 (S l) ov dv w h
  simp only at ht
  have c0 := h.cell0
  have hh := hasPrefix_S l [92, 117] w
  rw [hp] at hh
  clear h hp
  cases hk : takeP 1 l with
  | none =>
    rw [hk] at ht
    go_enter Tryz.func83, Tryz.ntmps83
    go_wp2_with (first
      | (go_at_call 20; refine hh.mono ?_; rintro e w1 ⟨rfl, rfl⟩)
      | (go_at_call 99; refine ht.mono ?_; rintro e w2 ⟨rfl, h3⟩))
    exact ⟨rfl, rfl, h3⟩
  | some q =>
    obtain ⟨a, t⟩ := q
    rw [hk] at ht
    go_enter Tryz.func83, Tryz.ntmps83
    go_wp2_with (first
      | (go_at_call 20; refine hh.mono ?_; rintro e w1 ⟨rfl, rfl⟩)
      | (go_at_call 99; refine ht.mono ?_; rintro e w2 ⟨rfl, h3, h4⟩))
    go_ret
    exact ⟨rfl, h3, h4⟩

/-- What Encode leaves. -/
theorem encode_all (c : Int) (w : World) : Calls Tryz.prog 102 #[.int .i64 c] w fun e w' => ∃ (s : List UInt8) (r : Bool), encP c = (fun t => if r then some (s, t) else none) ∧ e = .returned (.tuple #[.string (S s), .int .i64 (if r then 0 else 4)]) ∧ Below w.heap.size w w' := by
  cases h : charB c with
  | true => exact (encode_yes c w h).mono fun e w' ⟨h1, h2⟩ => ⟨_, true, by funext t; unfold encP; rw [h], h1, h2⟩
  | false => exact (encode_no c w h).mono fun e w' ⟨h1, h2⟩ => ⟨[], false, by funext t; unfold encP; rw [h]; rfl, h1, h2⟩

theorem within_is (n : Int) {b : Bool} (h : betweenB n 55296 56319 = b) (w : World) : Calls Tryz.prog 101 #[.int .i64 n, .int .i64 55296, .int .i64 56319] w fun e w' => e = .returned (.bool b) ∧ w' = w :=
  (Num.within_c n 55296 56319 w).mono fun _ _ ⟨h1, h2⟩ => ⟨by rw [h1, h], h2.symm⟩

theorem char_unit (R : Nat) (l : List UInt8) (ov dv : Value) (w : World) (h : Rd R (S l) ov dv w) (hp : Lib.hasPrefix l [92, 117] = true) :
    Calls Tryz.prog 83 #[.pointer (some ⟨R, 0, none⟩)] w (Reads R ov dv w (asS (charP l))) := by
  have ht := unit_c R (S l) ov dv w h
  simp only at ht
  have c0 := h.cell0
  have hh := hasPrefix_S l [92, 117] w
  rw [hp] at hh
  unfold charP
  rw [hp]
  simp only [if_true]
  clear h hp
  cases hk : unitP l with
  | none =>
    rw [hk] at ht
    go_enter Tryz.func83, Tryz.ntmps83
    go_wp2_with (first
      | (go_at_call 20; refine hh.mono ?_; rintro e w1 ⟨rfl, rfl⟩)
      | (go_at_call 100; refine ht.mono ?_; rintro e w2 ⟨rfl, h3⟩))
    exact ⟨rfl, rfl, h3⟩
  | some q =>
    obtain ⟨c, t⟩ := q
    have hclt := unit_lt hk
    rw [hk] at ht
    simp only
    clear hk
    by_cases hc : 55296 ≤ c ∧ c ≤ 56319
    · rw [if_pos hc]
      have hw : betweenB (c : Int) 55296 56319 = true := by unfold betweenB; simp; omega
      have hu := fun w1 (h1 : Rd R (S t) ov dv w1) => unit_c R _ ov dv w1 h1
      simp only at hu
      have hw := fun w => within_is (c : Int) hw w
      cases hk2 : unitP t with
      | none =>
        rw [hk2] at hu
        go_enter Tryz.func83, Tryz.ntmps83
        go_wp2_with (first
          | (go_at_call 20; refine hh.mono ?_; rintro e w1 ⟨rfl, rfl⟩)
          | (go_at_call 100; refine ht.mono ?_; rintro e w2 ⟨rfl, h1, h2⟩; have HX := Lib.hid (And.intro h1 h2); clear h1 h2)
          | (go_at_call 101; refine (hw _).mono ?_; rintro e w3 ⟨rfl, rfl⟩)
          | (go_at_call 100; refine (hu _ HX.out.1).mono ?_; rintro e w4 ⟨rfl, h3⟩))
        exact ⟨rfl, rfl, HX.out.2.trans h3⟩
      | some q =>
        obtain ⟨d, t2⟩ := q
        have hdlt := unit_lt hk2
        rw [hk2] at hu
        simp only
        clear hk2
        have he := fun w => encode_all (65536 + ((c : Int) - 55296) * 1024 + d - 56320) w
        generalize encP (65536 + ((c : Int) - 55296) * 1024 + d - 56320) = f at he ⊢
        obtain ⟨hc1, hc2⟩ := hc
        go_enter Tryz.func83, Tryz.ntmps83
        go_wp2_with (first
          | (go_at_call 20; refine hh.mono ?_; rintro e w1 ⟨rfl, rfl⟩)
          | (go_at_call 100; refine ht.mono ?_; rintro e w2 ⟨rfl, h1, h2⟩; have HX := Lib.hid (And.intro h1 h2); clear h1 h2)
          | (go_at_call 101; refine (hw _).mono ?_; rintro e w3 ⟨rfl, rfl⟩)
          | (go_at_call 100; refine (hu _ HX.out.1).mono ?_; rintro e w4 ⟨rfl, h3, h4⟩; have HY := Lib.hid (And.intro h3 h4); clear h3 h4))
        go_at_call 102
        refine (he _).mono ?_
        rintro e w5 ⟨a, r, rfl, rfl, h5⟩
        cases r with
        | true =>
          simp only [if_true]
          go_wp2_with (go_at_call 57; refine (demand_yes _ _).mono ?_; rintro e w6 ⟨rfl, rfl⟩)
          go_ret
          exact ⟨rfl, HY.out.1.keep h5, (HX.out.2.trans HY.out.2).trans (Save.of h5)⟩
        | false =>
          simp only [Bool.false_eq_true, if_false]
          go_wp2_with (go_at_call 57; refine (demand_no _ _).mono ?_; rintro e w6 ⟨rfl, rfl⟩)
          exact ⟨rfl, rfl, (HX.out.2.trans HY.out.2).trans (Save.of h5)⟩
    · rw [if_neg hc]
      have hw : betweenB (c : Int) 55296 56319 = false := by unfold betweenB; simp; omega
      have hw := fun w => within_is (c : Int) hw w
      have he := fun w => encode_all (c : Int) w
      generalize encP (c : Int) = f at he ⊢
      clear hc
      · go_enter Tryz.func83, Tryz.ntmps83
        go_wp2_with (first
          | (go_at_call 20; refine hh.mono ?_; rintro e w1 ⟨rfl, rfl⟩)
          | (go_at_call 100; refine ht.mono ?_; rintro e w2 ⟨rfl, h1, h2⟩; have HX := Lib.hid (And.intro h1 h2); clear h1 h2)
          | (go_at_call 101; refine (hw _).mono ?_; rintro e w3 ⟨rfl, rfl⟩))
        go_at_call 102
        refine (he _).mono ?_
        rintro e w5 ⟨a, r, rfl, rfl, h5⟩
        cases r with
        | true =>
          simp only [if_true]
          go_wp2_with (go_at_call 57; refine (demand_yes _ _).mono ?_; rintro e w6 ⟨rfl, rfl⟩)
          go_ret
          exact ⟨rfl, HX.out.1.keep h5, HX.out.2.trans (Save.of h5)⟩
        | false =>
          simp only [Bool.false_eq_true, if_false]
          go_wp2_with (go_at_call 57; refine (demand_no _ _).mono ?_; rintro e w6 ⟨rfl, rfl⟩)
          exact ⟨rfl, rfl, HX.out.2.trans (Save.of h5)⟩

theorem char_c (R : Nat) (l : List UInt8) (ov dv : Value) (w : World) (h : Rd R (S l) ov dv w) :
    Calls Tryz.prog 83 #[.pointer (some ⟨R, 0, none⟩)] w (Reads R ov dv w (asS (charP l))) := by
  cases hp : Lib.hasPrefix l [92, 117] with
  | true => exact char_unit R l ov dv w h hp
  | false =>
    unfold charP
    rw [hp]
    exact char_plain R l ov dv w h hp
end Go.Proofs.YtganmmkdcaphfaaGreatDoor.Rd
