/-
  Part 19: TkcTagW.
-/
import Derived.Test.YtidfcajhmldieaaGreatDoorBackBaseP18
import Derived.Deep.RegionHeld3
/-
  A tag on its way in memory: the boxes that the function tag lays, and its attributes' list; contracts of lower and of the closure that puts a value.
-/
namespace Go.Proofs.YtidfcajhmldieaaGreatDoor.Tkc
open Go.RowKit Go.Proofs.YtidfcajhmldieaaGreatDoor.Oct Go.Proofs.YtidfcajhmldieaaGreatDoor.Utf Go.Proofs.YtidfcajhmldieaaGreatDoor.Crf Go.Proofs.YtidfcajhmldieaaGreatDoor.Tab Go.Proofs.YtidfcajhmldieaaGreatDoor.Tok

abbrev zeroT : Array Value := #[.int .i64 0, .string ⟨#[]⟩, .string ⟨#[]⟩, .slice none 0 0, .bool false]
abbrev tagC (nm : List UInt8) (va : Value) (cl : Bool) : Array Value := #[.int .i64 0, .string (S nm), .string ⟨#[]⟩, va, .bool cl]
/-- The tag on its way: nm its name, al its attributes, va their list, f where what is read began, qs the quote. -/
structure TagW (R : Nat) (l : List UInt8) (vo : Value) (w0 : World) (k : Nat) (nm : List UInt8) (cl : Bool) (va : Value) (al : List At) (f : Nat) (qs : List UInt8) (w : World) : Prop where
  box : Bx R l k vo w
  b1 : w.heap[w0.heap.size]? = some (.cells #[.pointer (some ⟨R, 0, none⟩)] 60 (0, 0))
  b2 : w.heap[w0.heap.size + 1]? = some (.cells zeroT 34 (0, 0))
  b4 : w.heap[w0.heap.size + 2]? = some (.cells (tagC nm va cl) 34 (0, 0))
  b5 : w.heap[w0.heap.size + 3]? = some (.cells #[.int .i64 (f : Int)] 3 (0, 0))
  b6 : w.heap[w0.heap.size + 4]? = some (.cells #[.string (S qs)] 9 (0, 0))
  att : AtR (w0.heap.size + 5) w va al
  keeps : Keeps R w0 w
  low : R < w0.heap.size
section
variable {R : Nat} {l : List UInt8} {vo : Value} {w0 : World} {k : Nat} {nm : List UInt8} {cl : Bool} {va : Value} {al : List At} {f : Nat} {qs : List UInt8} {w : World}
theorem TagW.size (h : TagW R l vo w0 k nm cl va al f qs w) : w0.heap.size + 4 < w.heap.size := (Array.getElem?_eq_some_iff.1 h.b6).1
theorem TagW.keep {w' : World} {j : Nat} (h : TagW R l vo w0 k nm cl va al f qs w) (hk : Keeps R w w') (hb : Bx R l j vo w') : TagW R l vo w0 j nm cl va al f qs w' := by
  have hs := h.size
  have hR := h.low
  exact { box := hb, b1 := (hk.block _ (by omega) (by omega)).trans h.b1, b2 := (hk.block _ (by omega) (by omega)).trans h.b2, b4 := (hk.block _ (by omega) (by omega)).trans h.b4, b5 := (hk.block _ (by omega) (by omega)).trans h.b5, b6 := (hk.block _ (by omega) (by omega)).trans h.b6, att := own_same h.att fun b hb he => hk.block b (own_lt h.att b he) (by omega), keeps := h.keeps.trans hk, low := hR }
theorem TagW.grow {w' : World} (h : TagW R l vo w0 k nm cl va al f qs w) (hb : Below w.heap.size w w') : TagW R l vo w0 k nm cl va al f qs w' := h.keep (Keeps.of hb) (h.box.keep hb)
theorem TagW.c1 (h : TagW R l vo w0 k nm cl va al f qs w) : w.cell? ⟨w0.heap.size, 0, none⟩ = some (.pointer (some ⟨R, 0, none⟩)) := (cell_of_row w _ 0 _ _ _ h.b1).trans rfl
theorem TagW.c2 (h : TagW R l vo w0 k nm cl va al f qs w) (i : Nat) : w.cell? ⟨w0.heap.size + 1, i, none⟩ = zeroT[i]? := cell_of_row w _ i _ _ _ h.b2
theorem TagW.c4 (h : TagW R l vo w0 k nm cl va al f qs w) (i : Nat) : w.cell? ⟨w0.heap.size + 2, i, none⟩ = (tagC nm va cl)[i]? := cell_of_row w _ i _ _ _ h.b4
theorem TagW.cv (h : TagW R l vo w0 k nm cl va al f qs w) : w.cell? ⟨w0.heap.size + 2, 3, none⟩ = some va := (h.c4 3).trans rfl
theorem TagW.cn (h : TagW R l vo w0 k nm cl va al f qs w) : w.cell? ⟨w0.heap.size + 2, 1, none⟩ = some (.string (S nm)) := (h.c4 1).trans rfl
theorem TagW.cc (h : TagW R l vo w0 k nm cl va al f qs w) : w.cell? ⟨w0.heap.size + 2, 4, none⟩ = some (.bool cl) := (h.c4 4).trans rfl
theorem TagW.ck (h : TagW R l vo w0 k nm cl va al f qs w) : w.cell? ⟨w0.heap.size + 2, 0, none⟩ = some (.int .i64 0) := (h.c4 0).trans rfl
theorem TagW.cx (h : TagW R l vo w0 k nm cl va al f qs w) : w.cell? ⟨w0.heap.size + 2, 2, none⟩ = some (.string ⟨#[]⟩) := (h.c4 2).trans rfl
theorem TagW.c5 (h : TagW R l vo w0 k nm cl va al f qs w) : w.cell? ⟨w0.heap.size + 3, 0, none⟩ = some (.int .i64 (f : Int)) := (cell_of_row w _ 0 _ _ _ h.b5).trans rfl
theorem TagW.c6 (h : TagW R l vo w0 k nm cl va al f qs w) : w.cell? ⟨w0.heap.size + 4, 0, none⟩ = some (.string (S qs)) := (cell_of_row w _ 0 _ _ _ h.b6).trans rfl
theorem TagW.z2 (h : TagW R l vo w0 k nm cl va al f qs w) (i : Nat) : w.frozen? ⟨w0.heap.size + 1, i, none⟩ = false := frozen_of_row w _ i _ _ h.b2
theorem TagW.z4 (h : TagW R l vo w0 k nm cl va al f qs w) (i : Nat) : w.frozen? ⟨w0.heap.size + 2, i, none⟩ = false := frozen_of_row w _ i _ _ h.b4
theorem TagW.z5 (h : TagW R l vo w0 k nm cl va al f qs w) : w.frozen? ⟨w0.heap.size + 3, 0, none⟩ = false := frozen_of_row w _ 0 _ _ h.b5
theorem TagW.z6 (h : TagW R l vo w0 k nm cl va al f qs w) : w.frozen? ⟨w0.heap.size + 4, 0, none⟩ = false := frozen_of_row w _ 0 _ _ h.b6
theorem Keeps.high {R : Nat} {a w : World} (h : Keeps R a w) {b i : Nat} (hb : a.heap.size ≤ b) (v : Value) : Keeps R a (w.setCell ⟨b, i, none⟩ v) :=
  ⟨h.os, h.tape, h.output, by simp [World.setCell]; exact h.size, fun k hk hR => (heap_setCell_other _ _ _ _ (by simp; omega)).trans (h.block k hk hR)⟩
theorem set_oth {w : World} {b i c : Nat} {v : Value} {o : Option Obj} (hc : c ≠ b) (h : w.heap[c]? = o) : (w.setCell ⟨b, i, none⟩ v).heap[c]? = o := (heap_setCell_other _ _ _ _ (by simpa using hc)).trans h
/-- A box of the tag's is written, its list is not. -/
theorem TagW.setF (h : TagW R l vo w0 k nm cl va al f qs w) (g : Nat) : TagW R l vo w0 k nm cl va al g qs (w.setCell ⟨w0.heap.size + 3, 0, none⟩ (.int .i64 (g : Int))) where
  box := set_oth (by have := h.low; omega) h.box
  b1 := set_oth (by omega) h.b1
  b2 := set_oth (by omega) h.b2
  b4 := set_oth (by omega) h.b4
  b5 := heap_setCell_same _ _ 0 _ _ _ h.b5
  b6 := set_oth (by omega) h.b6
  att := own_same h.att fun b hb _ => set_oth (by omega) rfl
  keeps := h.keeps.high (by omega) _
  low := h.low
theorem TagW.setQ (h : TagW R l vo w0 k nm cl va al f qs w) (q : List UInt8) : TagW R l vo w0 k nm cl va al f q (w.setCell ⟨w0.heap.size + 4, 0, none⟩ (.string (S q))) where
  box := set_oth (by have := h.low; omega) h.box
  b1 := set_oth (by omega) h.b1
  b2 := set_oth (by omega) h.b2
  b4 := set_oth (by omega) h.b4
  b5 := set_oth (by omega) h.b5
  b6 := heap_setCell_same _ _ 0 _ _ _ h.b6
  att := own_same h.att fun b hb _ => set_oth (by omega) rfl
  keeps := h.keeps.high (by omega) _
  low := h.low
theorem TagW.setN (h : TagW R l vo w0 k nm cl va al f qs w) (n : List UInt8) : TagW R l vo w0 k n cl va al f qs (w.setCell ⟨w0.heap.size + 2, 1, none⟩ (.string (S n))) where
  box := set_oth (by have := h.low; omega) h.box
  b1 := set_oth (by omega) h.b1
  b2 := set_oth (by omega) h.b2
  b4 := heap_setCell_same _ _ 1 _ _ _ h.b4
  b5 := set_oth (by omega) h.b5
  b6 := set_oth (by omega) h.b6
  att := own_same h.att fun b hb _ => set_oth (by omega) rfl
  keeps := h.keeps.high (by omega) _
  low := h.low
theorem TagW.setC (h : TagW R l vo w0 k nm cl va al f qs w) (b : Bool) : TagW R l vo w0 k nm b va al f qs (w.setCell ⟨w0.heap.size + 2, 4, none⟩ (.bool b)) where
  box := set_oth (by have := h.low; omega) h.box
  b1 := set_oth (by omega) h.b1
  b2 := set_oth (by omega) h.b2
  b4 := heap_setCell_same _ _ 4 _ _ _ h.b4
  b5 := set_oth (by omega) h.b5
  b6 := set_oth (by omega) h.b6
  att := own_same h.att fun b hb _ => set_oth (by omega) rfl
  keeps := h.keeps.high (by omega) _
  low := h.low
theorem own_form' {w : World} {base n size : Nat} {e : TypeId} {v : Value} {xs : List Value} (h : w.ownsRow base e size v n xs) : ∃ p c, v = .slice p n c := by
  rcases h.2 with ⟨rfl, h0⟩ | ⟨g, cap, cur, rfl, _⟩
  · exact ⟨none, 0, by rw [h0]⟩
  · exact ⟨_, _, rfl⟩
theorem flat_len (al : List At) : (al.flatMap atCs).length = al.length * 2 := by
  induction al with
  | nil => rfl
  | cons a al ih =>
    rw [List.flatMap_cons, List.length_append, ih]
    show 2 + al.length * 2 = (al.length + 1) * 2
    omega
theorem flat_last (al : List At) (a : At) (v : List UInt8) : ((al ++ [a]).flatMap atCs).set (al.length * 2 + 1) (.string (S v)) = (al ++ [(⟨a.n, v⟩ : At)]).flatMap atCs := by
  have hl : (al.flatMap atCs).length = al.length * 2 := flat_len al
  rw [List.flatMap_append, List.flatMap_append, List.set_append_right _ _ (by omega), hl, Nat.add_sub_cancel_left]
  rfl
/-- The last attribute's value is put. -/
theorem TagW.setV {a : At} {g n cap : Nat} (h : TagW R l vo w0 k nm cl (.slice (some ⟨g, 0, none⟩) n cap) (al ++ [a]) f qs w) (v : List UInt8) : TagW R l vo w0 k nm cl (.slice (some ⟨g, 0, none⟩) n cap) (al ++ [⟨a.n, v⟩]) f qs (w.setCell ⟨g, al.length * 2 + 1, none⟩ (.string (S v))) := by
  have hg : w0.heap.size + 5 ≤ g := own_ge h.att g rfl
  exact {
    box := set_oth (by have := h.low; omega) h.box
    b1 := set_oth (by omega) h.b1
    b2 := set_oth (by omega) h.b2
    b4 := set_oth (by omega) h.b4
    b5 := set_oth (by omega) h.b5
    b6 := set_oth (by omega) h.b6
    att := by
      have hs := h.att
      unfold AtR at hs ⊢
      have e : n = (al ++ [a]).length := by
        obtain ⟨p, c, e⟩ := own_form' hs
        injection e
      subst e
      have hq := (World.ownsRow.stored hs (al.length * 2 + 1) (.string (S v))).1
      rw [flat_last] at hq
      have hn : (al ++ [⟨a.n, v⟩] : List At).length = (al ++ [a]).length := by simp
      rw [hn]
      exact hq
    keeps := h.keeps.high (by omega) _
    low := h.low }
/-- An attribute is put to the tag. -/
theorem TagW.push {w3 : World} {v' : Value} (h : TagW R l vo w0 k nm cl va al f qs w) (a : At) (o : Obj) (hown : w3.ownsRow (w0.heap.size + 5) 65 2 v' (al.length + 1) (al.flatMap atCs ++ atCs a)) (hg : (w.alloc o).grownBy w3 va.ownBlock) :
    TagW R l vo w0 k nm cl v' (al ++ [a]) f qs (w3.setCell ⟨w0.heap.size + 2, 3, none⟩ v') ∧ w3.cell? ⟨w0.heap.size + 2, 3, none⟩ = some va ∧ w3.frozen? ⟨w0.heap.size + 2, 3, none⟩ = false := by
  have hal : Below w.heap.size w (w.alloc o) := (Below.refl _ w).alloc (Nat.le_refl _) _
  have ha := h.grow hal
  have hsz := ha.size
  have hlow := ha.low
  have hge : ∀ k, va.ownBlock = some k → w0.heap.size + 5 ≤ k := fun k hk => own_ge ha.att k hk
  have hsame : ∀ k, k < w0.heap.size + 5 → w3.heap[k]? = (w.alloc o).heap[k]? := fun k hk => hg.block k (by omega) (fun e => by have := hge k e.symm; omega)
  have b4 : w3.heap[w0.heap.size + 2]? = some (.cells (tagC nm va cl) 34 (0, 0)) := (hsame _ (by omega)).trans ha.b4
  refine ⟨?_, (cell_of_row _ _ 3 _ _ _ b4).trans rfl, frozen_of_row _ _ 3 _ _ b4⟩
  exact {
    box := set_oth (by omega) ((hsame _ (by omega)).trans ha.box)
    b1 := set_oth (by omega) ((hsame _ (by omega)).trans ha.b1)
    b2 := set_oth (by omega) ((hsame _ (by omega)).trans ha.b2)
    b4 := heap_setCell_same _ _ 3 _ _ _ b4
    b5 := set_oth (by omega) ((hsame _ (by omega)).trans ha.b5)
    b6 := set_oth (by omega) ((hsame _ (by omega)).trans ha.b6)
    att := by
      show World.ownsRow _ _ _ _ _ _ _
      rw [List.length_append, List.length_singleton, List.flatMap_append]
      refine own_same (w := w3) ?_ fun b hb _ => set_oth (by omega) rfl
      simpa using hown
    keeps := Keeps.high ⟨hg.os.trans ha.keeps.os, hg.tape.trans ha.keeps.tape, hg.output.trans ha.keeps.output, Nat.le_trans ha.keeps.size hg.size, fun k hk hR => (hsame k (by omega)).trans (ha.keeps.block k hk hR)⟩ (by omega) _
    low := hlow }
end
/-! ### The letters small -/
theorem lower_c (x : List UInt8) (hx : x.length ≤ 65536) (w : World) :
    Calls Tryz.prog 80 #[.string (S x)] w fun e w' => e = .returned (.string (S (x.map low))) ∧ Below w.heap.size w w' := by
  have hs : (S x).size ≤ 281474976710656 := by rw [size_S]; omega
  have hl := fun w => Oct.lower_c (S x) w hs
  rw [list_S] at hl
  have hc := fun w => tclone_c (S (x.map low)) w (by rw [size_S, List.length_map]; omega)
  clear hs
  generalize S (x.map low) = Y at *
  generalize S x = X at *
  go_enter Tryz.func80, Tryz.ntmps80
  go_wp2_with (first
    | (go_at_call 99; refine (hl _).mono ?_; rintro e w1 ⟨rfl, h1⟩; have H1 := Lib.hid h1; clear h1)
    | (go_at_call 59; refine (hc _).mono ?_; rintro e w2 ⟨rfl, h2⟩; have H2 := Lib.hid (H1.out.trans (h2.mono H1.out.size)); clear h2))
  go_ret
  exact ⟨rfl, H2.out⟩

theorem grown_of {w w' : World} {q : Nat} (h : w' = w.drewN q) : Below w.heap.size w w' := h ▸ Oct.below_drewN (Below.refl _ w) q
/-! ### A value is put -/
theorem info_at : (Tryz.prog.info? 65).map (fun i => (i.zero, i.size, i.bytes)) = some (some (.agg #[.string ⟨#[]⟩, .string ⟨#[]⟩]), 2, 32) := by kernel_rfl
set_option maxHeartbeats 4000000 in
set_option maxRecDepth 100000 in
theorem putv_c (R : Nat) (l : List UInt8) (hl : l.length ≤ 65536) (vo : Value) (w0 : World) (k : Nat) (hk : k ≤ l.length) (nm : List UInt8) (cl : Bool) (va : Value) (al : List At) (hal : al.length ≤ 65536) (a : At) (f : Nat) (hf : f ≤ k) (qs : List UInt8) (w : World)
    (h : TagW R l vo w0 k nm cl va (al ++ [a]) f qs w) :
    Calls Tryz.prog 77 #[.pointer (some ⟨w0.heap.size, 0, none⟩), .pointer (some ⟨w0.heap.size + 3, 0, none⟩), .pointer (some ⟨w0.heap.size + 2, 0, none⟩)] w fun e w' =>
      e = .returned (.tuple #[]) ∧ TagW R l vo w0 k nm cl va (al ++ [⟨a.n, decL' (cut l f k)⟩]) f qs w' := by
  have hatt := h.att
  obtain ⟨p, c, hva⟩ := own_form' hatt
  obtain ⟨g, hg⟩ : ∃ g, va = .slice (some ⟨g, 0, none⟩) (al.length + 1) c := by
    rcases hatt.2 with ⟨_, h0⟩ | ⟨g, cap, cur, e, _⟩
    · simp at h0
    · rw [e] at hva
      injection hva with h1 h2 h3
      subst h3
      exact ⟨g, by rw [e]; simp⟩
  subst hg
  clear hva hatt
  have hlen : (cut l f k).length ≤ 4398046511104 := Nat.le_trans (cut_len_le l f k) (by omega)
  have hS : Hid (∀ W, TagW R l vo w0 k nm cl (.slice (some ⟨g, 0, none⟩) (al.length + 1) c) (al ++ [a]) f qs W → Calls Tryz.prog 29 #[.pointer (some ⟨R, 0, none⟩), .int .i64 (f : Int)] W fun e w' => e = .returned (.string (S (cut l f k))) ∧ ∃ m, w' = W.drewN m) := fun W hW => since_c R l k f vo W hW.box hf hk
  have hD : Hid (∀ W, Calls Tryz.prog 28 #[.string (S (cut l f k))] W fun e w' => e = .returned (.string (S (decL' (cut l f k)))) ∧ Below W.heap.size W w') := fun W => decode_c (cut l f k) hlen W
  have HV : Hid (∀ W, TagW R l vo w0 k nm cl (.slice (some ⟨g, 0, none⟩) (al.length + 1) c) (al ++ [a]) f qs W → TagW R l vo w0 k nm cl (.slice (some ⟨g, 0, none⟩) (al.length + 1) c) (al ++ [⟨a.n, decL' (cut l f k)⟩]) f qs (W.setCell ⟨g, al.length * 2 + 1, none⟩ (.string (S (decL' (cut l f k)))))) := fun W hW => hW.setV _
  have HZ : Hid (∀ W, TagW R l vo w0 k nm cl (.slice (some ⟨g, 0, none⟩) (al.length + 1) c) (al ++ [a]) f qs W → W.frozen? ⟨g, al.length * 2 + 1, none⟩ = false ∧ ∃ u, W.cell? ⟨g, al.length * 2 + 1, none⟩ = some u) := fun W hW => by
    have ha := hW.att
    unfold AtR at ha
    rw [List.length_append, List.length_singleton] at ha
    refine ⟨World.ownsRow.frozenAt ha _, (.string (S a.v)), ?_⟩
    rw [World.ownsRow.cellAt ha _ (by omega), List.flatMap_append, List.getElem?_append_right (by rw [flat_len]; omega), flat_len, Nat.add_sub_cancel_left]
    rfl
  generalize S (decL' (cut l f k)) = D at hD HV
  generalize S (cut l f k) = C at hS hD
  have hd0 := h.grow (Below.refl _ w).drew
  have o1 := hd0.c1
  have o4 := hd0.cv
  have o5 := hd0.c5
  have H0 := Lib.hid hd0
  have x1 := h.c1
  have x4 := h.cv
  have x5 := h.c5
  have i0 : (al.length : Int) ≤ 65536 := by omega
  have i1 : (0 : Int) ≤ (al.length : Int) := by omega
  generalize al.length = m at *
  have i2 : (m : Int) < (m : Int) + 1 := by omega
  have i3 : (m : Int) < ((m + 1 : Nat) : Int) := by omega
  have i4 : IntKind.i64.wrap (m : Int) = (m : Int) := by rw [IntKind.wrap_i64]; omega
  clear hd0 h hlen
  go_enter Tryz.func77, Tryz.ntmps77
  go_wp2_with fail
  go_region_held3 (fun w' => w'.cell? ⟨w0.heap.size, 0, none⟩ = some (.pointer (some ⟨R, 0, none⟩)) ∧ w'.cell? ⟨w0.heap.size + 2, 3, none⟩ = some (.slice (some ⟨g, 0, none⟩) (m + 1) c) ∧ w'.cell? ⟨w0.heap.size + 3, 0, none⟩ = some (.int .i64 (f : Int)))
    (first | with_reducible exact ⟨o1, o4, o5⟩ | with_reducible exact ⟨a1, a4, a5⟩ | with_reducible exact ⟨b1, b4, b5⟩ | with_reducible exact ⟨d1, d4, d5⟩)
    (first
      | (go_at_call 29; refine (hS.out _ H0.out).mono ?_; rintro e wA ⟨rfl, q, hwA⟩; have hA := H0.out.grow (grown_of hwA); clear hwA; have a1 := hA.c1; have a4 := hA.cv; have a5 := hA.c5; have HA := Lib.hid hA; clear hA)
      | (go_at_call 28; refine (hD.out _).mono ?_; rintro e wB ⟨rfl, hB⟩; have hT := HA.out.grow hB; have b1 := hT.c1; have b4 := hT.cv; have b5 := hT.c5; obtain ⟨fz, u, hu⟩ := HZ.out _ hT; have hU := HV.out _ hT; have d1 := hU.c1; have d4 := hU.cv; have d5 := hU.c5; have HU := Lib.hid hU; clear hT hB hU))
  go_wp2_with fail
  go_end0
  exact ⟨rfl, HU.out⟩
end Go.Proofs.YtidfcajhmldieaaGreatDoor.Tkc
