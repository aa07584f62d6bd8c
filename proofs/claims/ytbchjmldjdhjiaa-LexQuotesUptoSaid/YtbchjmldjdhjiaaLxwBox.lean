/-
  The cutter of package lex in memory, the pieces it has told; contracts of rest, seeText.
-/
import Derived.Test.YtbchjmldjdhjiaaLxwEnd
import Derived.Maps.AppendAt
import Derived.Deep.AppendLies
import Derived.Deep.RegionLaw
import Derived.Deep.RegionWith
import Derived.Deep.RegionHeld3
namespace Go.Proofs.Ytbchjmldjdhjiaa.Lxw
open Go.RowKit Go.Proofs.Ytbchjmldjdhjiaa.Oct Go.Proofs.Ytbchjmldjdhjiaa.Lex

/-! ### Rows of one's own -/
theorem own_lt {w : World} {base n size : Nat} {e : TypeId} {v : Value} {xs : List Value} (h : w.ownsRow base e size v n xs) : ∀ k, v.ownBlock = some k → k < w.heap.size := fun k hk => (h.lt k hk).2
theorem own_ge {w : World} {base n size : Nat} {e : TypeId} {v : Value} {xs : List Value} (h : w.ownsRow base e size v n xs) : ∀ k, v.ownBlock = some k → base ≤ k := fun k hk => (h.lt k hk).1
/-- A row stays where its block does. -/
theorem own_same {w w' : World} {base n size : Nat} {e : TypeId} {v : Value} {xs : List Value} (h : w.ownsRow base e size v n xs) (hs : ∀ k, base ≤ k → v.ownBlock = some k → w'.heap[k]? = w.heap[k]?) : w'.ownsRow base e size v n xs := by
  refine ⟨h.1, ?_⟩
  rcases h.2 with hn | ⟨g, cap, cur, rfl, hb, hg, rest⟩
  · exact .inl hn
  · exact .inr ⟨g, cap, cur, rfl, hb, by rw [hs g hb rfl]; exact hg, rest⟩
theorem own_set {w : World} {R B i : Nat} {x : Value} {n size : Nat} {e : TypeId} {v : Value} {xs : List Value} (hR : R < B) (h : w.ownsRow B e size v n xs) : (w.setCell ⟨R, i, none⟩ x).ownsRow B e size v n xs :=
  own_same h fun k hk _ => heap_setCell_other _ _ _ _ (by simp; omega)
theorem own_less {w : World} {base b2 n size : Nat} {e : TypeId} {v : Value} {xs : List Value} (h : w.ownsRow base e size v n xs) (hb : b2 ≤ base) : w.ownsRow b2 e size v n xs := by
  refine ⟨h.1, ?_⟩
  rcases h.2 with hn | ⟨g, cap, cur, rfl, hg, rest⟩
  · exact .inl hn
  · exact .inr ⟨g, cap, cur, rfl, Nat.le_trans hb hg, rest⟩
theorem own_shape {w : World} {base n size : Nat} {e : TypeId} {v : Value} {xs : List Value} (h : w.ownsRow base e size v n xs) : ∃ p c, v = .slice p n c := by
  rcases h.2 with ⟨rfl, h0⟩ | ⟨g, cap, cur, rfl, _⟩
  · exact ⟨none, 0, by rw [h0]⟩
  · exact ⟨_, _, rfl⟩
/-- All that lay below B lies as it lay, but for the block R. -/
structure Kp (R B : Nat) (w w' : World) : Prop where
  os : w'.os = w.os
  tape : w'.tape = w.tape
  output : w'.output = w.output
  size : w.heap.size ≤ w'.heap.size
  block : ∀ k, k < B → k ≠ R → w'.heap[k]? = w.heap[k]?
theorem Kp.refl (R B : Nat) (w : World) : Kp R B w w := ⟨rfl, rfl, rfl, Nat.le_refl _, fun _ _ _ => rfl⟩
theorem Kp.trans {R B : Nat} {a b c : World} (h : Kp R B a b) (k : Kp R B b c) : Kp R B a c :=
  ⟨k.os.trans h.os, k.tape.trans h.tape, k.output.trans h.output, Nat.le_trans h.size k.size, fun i hi hR => (k.block i hi hR).trans (h.block i hi hR)⟩
theorem kp_of {R B : Nat} {w w' : World} (h : Below w.heap.size w w') (hB : B ≤ w.heap.size) : Kp R B w w' := ⟨h.os, h.tape, h.output, h.size, fun k hk _ => h.block k (by omega)⟩
theorem Kp.drew {R B : Nat} {a w : World} (h : Kp R B a w) : Kp R B a w.drew := ⟨h.os, h.tape, h.output, h.size, h.block⟩
theorem kp_set {R B i : Nat} {a w : World} (v : Value) (h : Kp R B a w) : Kp R B a (w.setCell ⟨R, i, none⟩ v) :=
  ⟨h.os, h.tape, h.output, by simp [World.setCell]; exact h.size, fun k hk hR => (heap_setCell_other _ _ _ _ (by simpa using hR)).trans (h.block k hk hR)⟩
theorem Kp.below {R B : Nat} {w w' : World} (h : Kp R B w w') (hR : R ≤ B) : Below R w w' := ⟨h.os, h.tape, h.output, h.size, fun k hk => h.block k (by omega) (by omega)⟩
/-- The new cells, as an append of a list's literal asks for them. -/
theorem push_cells {w : World} {T : TypeId} {cs : List Value} (j : Nat) (u : Value) (h : cs[j]? = some u) : (w.alloc (.cells cs.toArray T)).cell? ((⟨w.heap.size, 0, none⟩ : Addr).add j) = some u := by
  have e : (⟨w.heap.size, 0, none⟩ : Addr).add j = ⟨w.heap.size, j, none⟩ := by simp [Addr.add]; omega
  rw [e]
  exact (cell_of_row _ _ j _ _ _ (heap_alloc_new w _)).trans (by simpa using h)
theorem grown_q {w w' : World} {q : Nat} (h : w' = w.drewN q) : Below w.heap.size w w' := h ▸ Oct.below_drewN (Below.refl _ w) q

/-! ### The cutter -/
/-- A piece's cells; a list of pieces in memory. -/
abbrev itCs (i : It) : List Value := [.int .i64 (i.k : Int), .string (S i.x), .int .i64 (i.p : Int)]
def ItR (base : Nat) (w : World) (v : Value) (its : List It) : Prop := w.ownsRow base 34 3 v its.length (its.flatMap itCs)
/-- The cutter's box. -/
abbrev boxC (l : List UInt8) (k : Nat) (t : List UInt8) (p : Nat) (v : Value) : Array Value := #[.string (S l), .int .i64 (k : Int), .string (S t), .int .i64 (p : Int), v]
structure Ct (R B : Nat) (l : List UInt8) (k : Nat) (t : List UInt8) (p : Nat) (v : Value) (its : List It) (w : World) : Prop where
  box : w.heap[R]? = some (.cells (boxC l k t p v) 54 (0, 0))
  out : ItR B w v its
  hR : R < B
  low : B ≤ w.heap.size
section
variable {R B : Nat} {l : List UInt8} {k : Nat} {t : List UInt8} {p : Nat} {v : Value} {its : List It} {w : World}
theorem Ct.lt (h : Ct R B l k t p v its w) : R < w.heap.size := (Array.getElem?_eq_some_iff.1 h.box).1
theorem Ct.cell (h : Ct R B l k t p v its w) (i : Nat) : w.cell? ⟨R, i, none⟩ = (boxC l k t p v)[i]? := cell_of_row w R i _ _ _ h.box
theorem Ct.froz (h : Ct R B l k t p v its w) (i : Nat) : w.frozen? ⟨R, i, none⟩ = false := frozen_of_row w R i _ _ h.box
theorem Ct.keep {w' : World} (h : Ct R B l k t p v its w) (hb : Below w.heap.size w w') : Ct R B l k t p v its w' where
  box := (hb.block R h.lt).trans h.box
  out := own_same h.out fun b _ he => hb.block b (own_lt h.out b he)
  hR := h.hR
  low := Nat.le_trans h.low hb.size
theorem Ct.at_ (h : Ct R B l k t p v its w) (j : Nat) : Ct R B l j t p v its (w.setCell ⟨R, 1, none⟩ (.int .i64 (j : Int))) := ⟨heap_setCell_same w R 1 _ _ _ h.box, own_set h.hR h.out, h.hR, by simp [World.setCell]; exact h.low⟩
theorem Ct.text (h : Ct R B l k t p v its w) (t' : List UInt8) : Ct R B l k t' p v its (w.setCell ⟨R, 2, none⟩ (.string (S t'))) := ⟨heap_setCell_same w R 2 _ _ _ h.box, own_set h.hR h.out, h.hR, by simp [World.setCell]; exact h.low⟩
theorem Ct.place (h : Ct R B l k t p v its w) (p' : Nat) : Ct R B l k t p' v its (w.setCell ⟨R, 3, none⟩ (.int .i64 (p' : Int))) := ⟨heap_setCell_same w R 3 _ _ _ h.box, own_set h.hR h.out, h.hR, by simp [World.setCell]; exact h.low⟩
end
/-- What the cells of the box hold. -/
structure Cells (R : Nat) (l : List UInt8) (k : Nat) (t : List UInt8) (p : Nat) (v : Value) (w : World) : Prop where
  c0 : w.cell? ⟨R, 0, none⟩ = some (.string (S l))
  c1 : w.cell? ⟨R, 1, none⟩ = some (.int .i64 (k : Int))
  c2 : w.cell? ⟨R, 2, none⟩ = some (.string (S t))
  c3 : w.cell? ⟨R, 3, none⟩ = some (.int .i64 (p : Int))
  c4 : w.cell? ⟨R, 4, none⟩ = some v
  z1 : w.frozen? ⟨R, 1, none⟩ = false
  z2 : w.frozen? ⟨R, 2, none⟩ = false
  z3 : w.frozen? ⟨R, 3, none⟩ = false
  z4 : w.frozen? ⟨R, 4, none⟩ = false
theorem Ct.cells {R B : Nat} {l : List UInt8} {k : Nat} {t : List UInt8} {p : Nat} {v : Value} {its : List It} {w : World} (h : Ct R B l k t p v its w) : Cells R l k t p v w :=
  ⟨(h.cell 0).trans rfl, (h.cell 1).trans rfl, (h.cell 2).trans rfl, (h.cell 3).trans rfl, (h.cell 4).trans rfl, h.froz 1, h.froz 2, h.froz 3, h.froz 4⟩

set_option maxHeartbeats 1000000 in
theorem rest_c {R B : Nat} {l : List UInt8} {k : Nat} {t : List UInt8} {p : Nat} {v : Value} {its : List It} (hk : k ≤ l.length) (w : World) (h : Ct R B l k t p v its w) :
    Calls Try.prog 29 #[.pointer (some ⟨R, 0, none⟩)] w fun e w' => e = .returned (.string (S (l.drop k))) ∧ ∃ m, w' = w.drewN m := by
  have hsz : ((S l).size : Int) = (l.length : Int) := by rw [size_S]
  have hsn : (S l).size = l.length := size_S l
  obtain ⟨c0, c1, _, _, _, _, _, _, _⟩ := h.cells
  have hcut := cutFrom l k
  rw [← hcut]
  have i0 : (0 : Int) ≤ (k : Int) := by omega
  have i1 : (k : Int) ≤ (l.length : Int) := by omega
  clear hcut h
  generalize S l = L at *
  go_enter Try.func29, Try.ntmps29
  go_wp2
  go_quiet (fail)
  go_wp2
  go_ret
  exact ⟨rfl, _, rfl⟩

theorem cut_c (l : List UInt8) (hl : l.length ≤ 1048576) (w : World) (hM : MaxAt w) :
    Calls Try.prog 49 #[.string (S l), .string ⟨#[123, 123]⟩] w fun e w' => (∃ x b, e = .returned (.tuple #[.string (S (l.take (nextN l))), .string x, .bool b])) ∧ Below w.heap.size w w' := by
  obtain ⟨m, hm⟩ := hM
  have h := Try.strings_Cut (S l) (S [123, 123]) m w (by rw [size_S]; omega) hm
  rw [list_S, list_S, cut_next] at h
  exact h.mono fun _ _ ⟨h1, _, h2⟩ => ⟨⟨_, _, h1⟩, grown_q h2⟩
theorem rest_b {R B : Nat} {l : List UInt8} {k : Nat} {t : List UInt8} {p : Nat} {v : Value} {its : List It} (hk : k ≤ l.length) (w : World) (h : Ct R B l k t p v its w) :
    Calls Try.prog 29 #[.pointer (some ⟨R, 0, none⟩)] w fun e w' => e = .returned (.string (S (l.drop k))) ∧ Below w.heap.size w w' :=
  (rest_c hk w h).mono fun _ _ ⟨h1, _, h2⟩ => ⟨h1, grown_q h2⟩
theorem emptyB (t : List UInt8) : ((S t).toList == []) = t.isEmpty := by
  rw [ByteArray.toList_eq, list_S]
  cases t <;> rfl
set_option maxHeartbeats 2000000 in
set_option maxRecDepth 100000 in
theorem seeText_c {R B : Nat} {l : List UInt8} {k : Nat} {t : List UInt8} {p : Nat} {v : Value} {its : List It} (hl : l.length ≤ 16384) (hk : k ≤ l.length) (ht : t.length ≤ 16384) (b : Bool) (w : World) (h : Ct R B l k t p v its w) (hM : MaxAt w) :
    Calls Try.prog 27 #[.pointer (some ⟨R, 0, none⟩), .bool b] w fun e w' => e = .returned (.tuple #[]) ∧
      Ct R B l (k + nextN (l.drop k)) (gatherC ⟨t, p, b, its⟩ (l.drop k) (nextN (l.drop k)) k).t (gatherC ⟨t, p, b, its⟩ (l.drop k) (nextN (l.drop k)) k).p v its w' ∧ Kp R B w w' := by
  have hre := rest_b hk w h
  have hcu := fun W hW => cut_c (l.drop k) (by rw [List.length_drop]; omega) W hW
  have hn := next_le (l.drop k)
  rw [List.length_drop] at hn
  unfold gatherC
  simp only
  obtain ⟨x, hx⟩ : ∃ x, x = (l.drop k).take (nextN (l.drop k)) := ⟨_, rfl⟩
  have hxl : x.length = nextN (l.drop k) := by rw [hx, List.length_take, List.length_drop]; omega
  rw [← hx, ← hxl]
  rw [← hx] at hcu
  have hxn : x.length ≤ l.length - k := by omega
  have hah := fun W => ahead_c x (by omega) W
  have hsk := skip_le x
  have HX := Lib.hid (cutFrom x)
  have HW := Lib.hid h
  have HM := Lib.hid hM
  obtain ⟨a, ha⟩ : ∃ a : Nat, a = (if b = true then skipN x else 0) := ⟨_, rfl⟩
  rw [← ha]
  have hax : a ≤ x.length := by rw [ha]; split <;> omega
  obtain ⟨n, hn⟩ : ∃ n : Nat, n = k + a := ⟨_, rfl⟩
  have hni : (k : Int) + (a : Int) = (n : Int) := by omega
  obtain ⟨j, hj⟩ : ∃ j : Nat, j = k + x.length := ⟨_, rfl⟩
  have hji : (k : Int) + (x.length : Int) = (j : Int) := by omega
  have hcut := HX.out a
  obtain ⟨r, hr⟩ : ∃ r, r = x.drop a := ⟨_, rfl⟩
  have hrl : r.length = x.length - a := by rw [hr, List.length_drop]
  rw [← hr] at hcut ⊢
  have hap := S_append t r
  have zt : ((S t).size : Int) = (t.length : Int) := by rw [size_S]
  have zx : ((S x).size : Int) = (x.length : Int) := by rw [size_S]
  have zxn : (S x).size = x.length := size_S x
  have zr : ((S r).size : Int) = (r.length : Int) := by rw [size_S]
  have hji2 : (j : Int) ≤ 16384 := by omega
  have k0 : (0 : Int) ≤ (k : Int) := by omega
  have k1 : (k : Int) ≤ 16384 := by omega
  have k2 : (a : Int) ≤ (x.length : Int) := by omega
  have k3 : (0 : Int) ≤ (a : Int) := by omega
  have k4 : (x.length : Int) ≤ 16384 := by omega
  have k5 : (t.length : Int) ≤ 16384 := by omega
  have k6 : (r.length : Int) ≤ 16384 := by omega
  have hte : (S t).toList.isEmpty = t.isEmpty := by rw [ByteArray.toList_eq, list_S]
  rw [← hn, ← hj]
  generalize S (l.drop k) = D at hre hcu
  clear hxl hn hj hl hk ht hxn HX hsk hr hrl h hM hx
  cases b with
  | false =>
    by_cases hemp : t = []
    · have ha0 : a = 0 := ha
      subst ha0
      clear ha
      have he : t.isEmpty = true := by rw [hemp]; rfl
      rw [if_pos hemp]
      obtain rfl : n = k := by omega
      clear hemp
      go_enter Try.func27, Try.ntmps27
      go_wp2_with (go_at_call 29; refine hre.mono ?_; rintro e w1 ⟨rfl, hb1⟩)
      have h1 := HW.out.keep hb1
      refine (hcu w1 (HM.out.kept hb1)).mono ?_
      rintro e w2 ⟨⟨y, z, rfl⟩, hb2⟩
      have H2 := Lib.hid (And.intro (h1.keep hb2) ((kp_of (R := R) hb1 HW.out.low).trans (kp_of (R := R) hb2 h1.low)))
      obtain ⟨c0, c1, c2, c3, c4, z1, z2, z3, z4⟩ := H2.out.1.cells
      clear hb1 h1 hb2 hcu hre HM HW
      go_wp2_with fail
      have H3 := Lib.hid (And.intro (H2.out.1.place n) (kp_set (i := 3) (.int .i64 (n : Int)) H2.out.2))
      clear c0 c1 c2 c3 c4 z1 z2 z3 z4
      generalize World.setCell _ ⟨R, 3, none⟩ (.int .i64 (n : Int)) = w4 at H3 ⊢
      obtain ⟨c0, c1, c2, c3, c4, z1, z2, z3, z4⟩ := H3.out.1.cells
      go_region
      have H4 := Lib.hid (And.intro ((H3.out.1.text (t ++ r)).keep (Below.refl _ _).drew) (kp_set (i := 2) (.string (S (t ++ r))) H3.out.2).drew)
      clear c0 c1 c2 c3 c4 z1 z2 z3 z4
      generalize World.drew _ = w5 at H4 ⊢
      obtain ⟨c0, c1, c2, c3, c4, z1, z2, z3, z4⟩ := H4.out.1.cells
      go_wp2_with fail
      go_end0
      exact ⟨rfl, H4.out.1.at_ j, kp_set _ H4.out.2⟩
    · have ha0 : a = 0 := ha
      subst ha0
      clear ha
      have he : t.isEmpty = false := by cases t with | nil => exact absurd rfl hemp | cons c t => rfl
      rw [if_neg hemp]
      clear hemp
      go_enter Try.func27, Try.ntmps27
      go_wp2_with (go_at_call 29; refine hre.mono ?_; rintro e w1 ⟨rfl, hb1⟩)
      have h1 := HW.out.keep hb1
      refine (hcu w1 (HM.out.kept hb1)).mono ?_
      rintro e w2 ⟨⟨y, z, rfl⟩, hb2⟩
      have H2 := Lib.hid (And.intro (h1.keep hb2) ((kp_of (R := R) hb1 HW.out.low).trans (kp_of (R := R) hb2 h1.low)))
      obtain ⟨c0, c1, c2, c3, c4, z1, z2, z3, z4⟩ := H2.out.1.cells
      clear hb1 h1 hb2 hcu hre HM HW
      go_wp2_with fail
      have H3 := H2
      go_region
      have H4 := Lib.hid (And.intro ((H3.out.1.text (t ++ r)).keep (Below.refl _ _).drew) (kp_set (i := 2) (.string (S (t ++ r))) H3.out.2).drew)
      clear c0 c1 c2 c3 c4 z1 z2 z3 z4
      generalize World.drew _ = w5 at H4 ⊢
      obtain ⟨c0, c1, c2, c3, c4, z1, z2, z3, z4⟩ := H4.out.1.cells
      go_wp2_with fail
      go_end0
      exact ⟨rfl, H4.out.1.at_ j, kp_set _ H4.out.2⟩
  | true =>
    by_cases hemp : t = []
    · have ha0 : a = skipN x := ha
      rw [← ha0] at hah
      clear ha ha0
      have he : t.isEmpty = true := by rw [hemp]; rfl
      rw [if_pos hemp]
      clear hemp
      go_enter Try.func27, Try.ntmps27
      go_wp2_with (go_at_call 29; refine hre.mono ?_; rintro e w1 ⟨rfl, hb1⟩)
      have h1 := HW.out.keep hb1
      refine (hcu w1 (HM.out.kept hb1)).mono ?_
      rintro e w2 ⟨⟨y, z, rfl⟩, hb2⟩
      have H2 := Lib.hid (And.intro (h1.keep hb2) ((kp_of (R := R) hb1 HW.out.low).trans (kp_of (R := R) hb2 h1.low)))
      obtain ⟨c0, c1, c2, c3, c4, z1, z2, z3, z4⟩ := H2.out.1.cells
      clear hb1 h1 hb2 hcu hre HM HW
      go_wp2_with (go_at_call 38; refine (hah _).mono ?_; rintro e w3 ⟨rfl, rfl⟩)
      have H3 := Lib.hid (And.intro (H2.out.1.place n) (kp_set (i := 3) (.int .i64 (n : Int)) H2.out.2))
      clear c0 c1 c2 c3 c4 z1 z2 z3 z4
      generalize World.setCell _ ⟨R, 3, none⟩ (.int .i64 (n : Int)) = w4 at H3 ⊢
      obtain ⟨c0, c1, c2, c3, c4, z1, z2, z3, z4⟩ := H3.out.1.cells
      go_region
      have H4 := Lib.hid (And.intro ((H3.out.1.text (t ++ r)).keep (Below.refl _ _).drew) (kp_set (i := 2) (.string (S (t ++ r))) H3.out.2).drew)
      clear c0 c1 c2 c3 c4 z1 z2 z3 z4
      generalize World.drew _ = w5 at H4 ⊢
      obtain ⟨c0, c1, c2, c3, c4, z1, z2, z3, z4⟩ := H4.out.1.cells
      go_wp2_with fail
      go_end0
      exact ⟨rfl, H4.out.1.at_ j, kp_set _ H4.out.2⟩
    · have ha0 : a = skipN x := ha
      rw [← ha0] at hah
      clear ha ha0
      have he : t.isEmpty = false := by cases t with | nil => exact absurd rfl hemp | cons c t => rfl
      rw [if_neg hemp]
      clear hemp
      go_enter Try.func27, Try.ntmps27
      go_wp2_with (go_at_call 29; refine hre.mono ?_; rintro e w1 ⟨rfl, hb1⟩)
      have h1 := HW.out.keep hb1
      refine (hcu w1 (HM.out.kept hb1)).mono ?_
      rintro e w2 ⟨⟨y, z, rfl⟩, hb2⟩
      have H2 := Lib.hid (And.intro (h1.keep hb2) ((kp_of (R := R) hb1 HW.out.low).trans (kp_of (R := R) hb2 h1.low)))
      obtain ⟨c0, c1, c2, c3, c4, z1, z2, z3, z4⟩ := H2.out.1.cells
      clear hb1 h1 hb2 hcu hre HM HW
      go_wp2_with (go_at_call 38; refine (hah _).mono ?_; rintro e w3 ⟨rfl, rfl⟩)
      have H3 := H2
      go_region
      have H4 := Lib.hid (And.intro ((H3.out.1.text (t ++ r)).keep (Below.refl _ _).drew) (kp_set (i := 2) (.string (S (t ++ r))) H3.out.2).drew)
      clear c0 c1 c2 c3 c4 z1 z2 z3 z4
      generalize World.drew _ = w5 at H4 ⊢
      obtain ⟨c0, c1, c2, c3, c4, z1, z2, z3, z4⟩ := H4.out.1.cells
      go_wp2_with fail
      go_end0
      exact ⟨rfl, H4.out.1.at_ j, kp_set _ H4.out.2⟩
end Go.Proofs.Ytbchjmldjdhjiaa.Lxw
