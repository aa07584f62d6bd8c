/-
  Part 15: TokMem, TabPage, TabCode, TabElems, TkcBase.
-/
import Derived.Test.YtidfcajhmldieaaGreatDoorBackBaseP4
import Derived.Test.YtidfcajhmldieaaGreatDoorBackBaseP14
import Derived.Maps.AppendAt
import Derived.Deep.AppendLies
import Derived.Deep.RegionLaw
import Derived.Deep.RegionWith
import Derived.Test.YtidfcajhmldieaaGreatDoorProg
import Derived.Lib.Hide
import Derived.Deep.QuietTactic
import Derived.BigQuiet
import Derived.Lib.Strings
import Derived.Test.YtidfcajhmldieaaGreatDoorBackBaseP9
import Derived.OwnWalk
import Derived.ProofKit
import Derived.Deep.RegionHeld3
import Derived.Test.YtidfcajhmldieaaGreatDoorBackBaseP7
import Derived.Test.YtidfcajhmldieaaGreatDoorBackBaseP11
import Derived.Test.YtidfcajhmldieaaGreatDoorBackBaseP13
/-
  The page's reader of HTML in memory: its box, its lists, what keeps them apart; a list of tokens in memory.
-/
namespace Go.Proofs.YtidfcajhmldieaaGreatDoor.Tok
open Go.RowKit Go.Proofs.YtidfcajhmldieaaGreatDoor.Oct Go.Proofs.YtidfcajhmldieaaGreatDoor.Utf Go.Proofs.YtidfcajhmldieaaGreatDoor.Crf Go.Proofs.YtidfcajhmldieaaGreatDoor.Tab Go.Proofs.YtidfcajhmldieaaGreatDoor.Mem

theorem at_T (l : List UInt8) (k : Nat) (h : k < l.length) : (S l)[k]'(by rw [size_S]; exact h) = l[k] := by
  rw [ByteArray.getElem_eq_getElem_data]; simp
/-- An attribute's cells; a list of attributes in memory. -/
abbrev atCs (a : At) : List Value := [.string (S a.n), .string (S a.v)]
def AtR (base : Nat) (w : World) (v : Value) (al : List At) : Prop := w.ownsRow base 65 2 v al.length (al.flatMap atCs)
/-- A token's cells, its attributes' list given; a list of tokens in memory, each with its attributes' list. -/
abbrev tkCs (p : Tk × Value) : List Value := [.int .i64 p.1.k, .string (S p.1.n), .string (S p.1.x), p.2, .bool p.1.c]
def TkR (base : Nat) (w : World) (v : Value) (ps : List (Tk × Value)) : Prop := w.ownsRow base 34 5 v ps.length (ps.flatMap tkCs)
/-- Two lists lie apart. -/
def Sep (a b : Value) : Prop := ∀ k, a.ownBlock = some k → b.ownBlock ≠ some k
theorem sep_nil (a : Value) : Sep a (.slice none 0 0) := fun _ _ h => by cases h
theorem nil_sep (a : Value) : Sep (.slice none 0 0) a := fun _ h => by cases h
theorem Sep.symm {a b : Value} (h : Sep a b) : Sep b a := fun k h1 h2 => h k h2 h1
/-- What a row moves to lies apart, if it lay apart or is new. -/
theorem Sep.moved {w : World} {a b b' : Value} (h : Sep a b) (hlt : ∀ k, a.ownBlock = some k → k < w.heap.size) (hm : b'.ownBlock = b.ownBlock ∨ b'.ownBlock = some w.heap.size) : Sep a b' := fun k hk hb => by
  rcases hm with hm | hm
  · exact h k hk (by rw [← hm]; exact hb)
  · rw [hm] at hb
    have := hlt k hk
    injection hb with hb
    omega
theorem own_lt {w : World} {base n size : Nat} {e : TypeId} {v : Value} {xs : List Value} (h : w.ownsRow base e size v n xs) : ∀ k, v.ownBlock = some k → k < w.heap.size := fun k hk => (h.lt k hk).2
theorem own_ge {w : World} {base n size : Nat} {e : TypeId} {v : Value} {xs : List Value} (h : w.ownsRow base e size v n xs) : ∀ k, v.ownBlock = some k → base ≤ k := fun k hk => (h.lt k hk).1
/-- A row stays where its block does. -/
theorem own_same {w w' : World} {base n size : Nat} {e : TypeId} {v : Value} {xs : List Value} (h : w.ownsRow base e size v n xs) (hs : ∀ k, base ≤ k → v.ownBlock = some k → w'.heap[k]? = w.heap[k]?) : w'.ownsRow base e size v n xs := by
  refine ⟨h.1, ?_⟩
  rcases h.2 with hn | ⟨g, cap, cur, rfl, hb, hg, rest⟩
  · exact .inl hn
  · exact .inr ⟨g, cap, cur, rfl, hb, by rw [hs g hb rfl]; exact hg, rest⟩
theorem own_grown {w w' : World} {base n size : Nat} {e : TypeId} {v b : Value} {xs : List Value} (h : w.ownsRow base e size v n xs) (hg : w.grownBy w' b.ownBlock) (hs : Sep v b) : w'.ownsRow base e size v n xs :=
  own_same h fun k _ hk => hg.block k (own_lt h k hk) (fun e => hs k hk e.symm)
theorem own_set {w : World} {R i : Nat} {x : Value} {n size : Nat} {e : TypeId} {v : Value} {xs : List Value} (h : w.ownsRow (R + 1) e size v n xs) : (w.setCell ⟨R, i, none⟩ x).ownsRow (R + 1) e size v n xs :=
  own_same h fun k hk _ => heap_setCell_other _ _ _ _ (by simp; omega)

/-- The reader's box. -/
abbrev boxC (l : List UInt8) (vo vt va : Value) (r : Rd) : Array Value :=
  #[.string (S l), vo, .int .i64 (r.st : Int), vt, .int .i64 r.tg.k, .string (S r.tg.n), .string (S r.tg.x), va, .bool r.tg.c, .string (S r.av.n), .string (S r.av.v), .int .u8 (r.q.toNat : Int), .string (S r.rw), .int .i64 (r.kd : Int)]
section
variable {R : Nat} {l : List UInt8} {r : Rd} {vo vt va : Value} {ps : List (Tk × Value)} {w : World}
end
theorem below_set {R i : Nat} {a w : World} (v : Value) (h : Below R a w) : Below R a (w.setCell ⟨R, i, none⟩ v) :=
  ⟨h.os, h.tape, h.output, by simp [World.setCell]; exact h.size, fun k hk => (heap_setCell_other _ _ _ _ (by simp; omega)).trans (h.block k hk)⟩
/-- The new cells, as an append of a list's literal asks for them. -/
theorem push_cells {w : World} {T : TypeId} {cs : List Value} (j : Nat) (u : Value) (h : cs[j]? = some u) : (w.alloc (.cells cs.toArray T)).cell? ((⟨w.heap.size, 0, none⟩ : Addr).add j) = some u := by
  have e : (⟨w.heap.size, 0, none⟩ : Addr).add j = ⟨w.heap.size, j, none⟩ := by simp [Addr.add]; omega
  rw [e]
  exact (cell_of_row _ _ j _ _ _ (heap_alloc_new w _)).trans (by simpa using h)
theorem own_one {w : World} {base n size : Nat} {e : TypeId} {v : Value} {xs : List Value} (h : w.ownsRow base e size v n xs) : v.oneCell' = true := by
  rcases h.2 with ⟨rfl, _⟩ | ⟨g, cap, cur, rfl, _⟩ <;> rfl
theorem own_slice {w : World} {base n size : Nat} {e : TypeId} {v : Value} {xs : List Value} (h : w.ownsRow base e size v n xs) : ∃ p j c, v = .slice p j c := by
  rcases h.2 with ⟨rfl, _⟩ | ⟨g, cap, cur, rfl, _⟩
  · exact ⟨_, _, _, rfl⟩
  · exact ⟨_, _, _, rfl⟩
theorem push_tok {p : Tk × Value} (h : p.2.oneCell' = true) : ∀ u ∈ tkCs p, u.oneCell' = true := by
  intro u hu
  simp only [List.mem_cons, List.not_mem_nil, or_false] at hu
  rcases hu with rfl | rfl | rfl | rfl | rfl
  · rfl
  · rfl
  · rfl
  · exact h
  · rfl
theorem info_tok : (Tryz.prog.info? 34).map (fun i => (i.zero, i.size, i.bytes)) = some (some (.agg #[.int .i64 0, .string ⟨#[]⟩, .string ⟨#[]⟩, .slice none 0 0, .bool false]), 5, 72) := by kernel_rfl
theorem info_att : (Tryz.prog.info? 65).map (fun i => (i.zero, i.size, i.bytes)) = some (some (.agg #[.string ⟨#[]⟩, .string ⟨#[]⟩]), 2, 32) := by kernel_rfl
theorem box_set {w : World} {R : Nat} {c : Array Value} {T : TypeId} (i : Nat) (x : Value) (h : w.heap[R]? = some (.cells c T (0, 0))) : (w.setCell ⟨R, i, none⟩ x).heap[R]? = some (.cells (c.setIfInBounds i x) T (0, 0)) := heap_setCell_same w R i _ _ x h
/-- The world behind a tag that was told: its list, and the tag on its way anew. -/
abbrev clearTag (R : Nat) (w : World) : World :=
  ((((w.setCell ⟨R, 4, none⟩ (.int .i64 0)).setCell ⟨R, 5, none⟩ (.string ⟨#[]⟩)).setCell ⟨R, 6, none⟩ (.string ⟨#[]⟩)).setCell ⟨R, 7, none⟩ (.slice none 0 0)).setCell ⟨R, 8, none⟩ (.bool false)
theorem grown_drew {w w' : World} {b : Option Nat} (h : w.drew.grownBy w' b) : w.grownBy w' b := ⟨h.os, h.tape, h.output, h.size, h.block⟩
theorem push_att {a : At} : ∀ u ∈ atCs a, u.oneCell' = true := by
  intro u hu
  simp only [List.mem_cons, List.not_mem_nil, or_false] at hu
  rcases hu with rfl | rfl <;> rfl
end Go.Proofs.YtidfcajhmldieaaGreatDoor.Tok

/-
  Contracts of the page's Elements, Element, Attribute and Void.
-/
namespace Go.Proofs.YtidfcajhmldieaaGreatDoor.Tab
open Go.RowKit Go.Proofs.YtidfcajhmldieaaGreatDoor.Oct

theorem eqT (a b : List UInt8) : ((S a).toList == (S b).toList) = decide (a = b) := by
  rw [ByteArray.toList_eq, ByteArray.toList_eq, list_S, list_S, Bool.eq_iff_iff]
  simp
theorem eqTL (a b : List UInt8) : ((S a).toList == b) = decide (a = b) := by
  rw [ByteArray.toList_eq, list_S, Bool.eq_iff_iff]
  simp
/-- A list of texts that lies in a block. -/
def Texts (g : Nat) (ls : List (List UInt8)) (w : World) : Prop := ∀ j, (h : j < ls.length) → w.cell? ⟨g, j, none⟩ = some (.string (S ls[j]))

theorem laid_texts (ls : List (List UInt8)) (w : World) : Texts w.heap.size ls (w.alloc (.cells (ls.map (fun l => Value.string (S l))).toArray 9)) := by
  intro j h
  have hh : (w.alloc (.cells (ls.map (fun l => Value.string (S l))).toArray 9)).heap[w.heap.size]? = some (.cells (ls.map (fun l => Value.string (S l))).toArray 9 (0, 0)) := heap_alloc_new w _
  unfold World.cell?
  rw [hh]
  simp [h]

end Go.Proofs.YtidfcajhmldieaaGreatDoor.Tab

/-
  Contracts of package tables: specials, Element, Elements, Attribute, Void, and of the closures that they look by.
-/
namespace Go.Proofs.YtidfcajhmldieaaGreatDoor.Tab
open Go.RowKit Go.Proofs.YtidfcajhmldieaaGreatDoor.Oct

/-! ### The row of elements -/
/-- The elements of 1 to 4 as they lie in a block: two cells each, a name and a kind. -/
def Specs (g : Nat) (w : World) : Prop := ∀ j, (h : j < elsL.length) → w.cell? ⟨g, j * 2, none⟩ = some (.string (S elsL[j])) ∧ w.cell? ⟨g, j * 2 + 1, none⟩ = some (.int .i64 (codeN j : Nat))
theorem Specs.kept {g : Nat} {w w' : World} (h : Specs g w) (hb : Below w.heap.size w w') : Specs g w' := fun j hj =>
  ⟨(hb.cell (World.block_lt_of_cell? w _ (h j hj).1)).trans (h j hj).1, (hb.cell (World.block_lt_of_cell? w _ (h j hj).2)).trans (h j hj).2⟩
abbrev specA : Array Value := (((List.range 10).zip elsL).flatMap fun p => [Value.string (S p.2), Value.int .i64 (codeN p.1 : Nat)]).toArray
theorem laid_specs (w : World) : Specs w.heap.size (w.alloc (.cells specA 91)) := by
  have hh : (w.alloc (.cells specA 91)).heap[w.heap.size]? = some (.cells specA 91 (0, 0)) := heap_alloc_new w _
  have hall : ∀ j : Fin 10, specA[j.val * 2]? = some (.string (S elsL[j.val])) ∧ specA[j.val * 2 + 1]? = some (.int .i64 (codeN j.val : Nat)) := by
    intro ⟨j, hj⟩
    have : j = 0 ∨ j = 1 ∨ j = 2 ∨ j = 3 ∨ j = 4 ∨ j = 5 ∨ j = 6 ∨ j = 7 ∨ j = 8 ∨ j = 9 := by omega
    rcases this with rfl | rfl | rfl | rfl | rfl | rfl | rfl | rfl | rfl | rfl <;> exact ⟨rfl, rfl⟩
  intro j h
  have hj := hall ⟨j, h⟩
  unfold World.cell?
  rw [hh]
  exact ⟨by simpa using hj.1, by simpa using hj.2⟩
theorem specials_c (w : World) :
    Calls Tryz.prog 68 #[] w fun e w' => ∃ g, e = .returned (.slice (some ⟨g, 0, none⟩) 10 10) ∧ Specs g w' ∧ Below w.heap.size w w' := by
  go_enter Tryz.func68, Tryz.ntmps68
  go_wp2_with fail
  go_ret
  exact ⟨_, rfl, laid_specs w, (Below.refl _ w).alloc (Nat.le_refl _) _⟩

/-! ### Element -/
theorem same_name (x s : List UInt8) (c : Int) (b : Nat) (w : World) (hb : w.cell? ⟨b, 0, none⟩ = some (.string (S s))) (hlt : b < w.heap.size) :
    Calls Tryz.prog 70 #[.agg #[.string (S x), .int .i64 c], .pointer (some ⟨b, 0, none⟩)] w fun e w' => e = .returned (.bool (decide (x = s))) ∧ Below w.heap.size w w' := by
  have he := eqT x s
  generalize decide (x = s) = ans at he ⊢
  generalize S x = X at he ⊢
  generalize S s = T at he hb
  have hb2 : (w.alloc (.cells #[.string X, .int .i64 c] 91)).cell? ⟨b, 0, none⟩ = some (.string T) := by rw [World.cell?_alloc_past _ _ _ hlt]; exact hb
  go_enter Tryz.func70, Tryz.ntmps70
  go_wp2_with fail
  go_ret
  exact ⟨rfl, (Below.refl _ w).alloc (Nat.le_refl _) _⟩
theorem enter_same : ∀ args w, (callFunc 70 args).run Tryz.prog w = .ok (.enter 70 args) w := enters_of Tryz.func70 (by kernel_rfl) rfl
def placeI (s : List UInt8) : Int := match placeL s elsL with
  | some k => (k : Nat)
  | none => -1
set_option maxHeartbeats 2000000 in
theorem index_c (s : List UInt8) (g b : Nat) (w : World) (hs : Specs g w) (hb : w.cell? ⟨b, 0, none⟩ = some (.string (S s))) :
    Calls Tryz.prog 69 #[.slice (some ⟨g, 0, none⟩) 10 10, .func (.func 70) #[] #[.pointer (some ⟨b, 0, none⟩)]] w
      fun e w' => e = .returned (.int .i64 (placeI s)) ∧ Below w.heap.size w w' := by
  have hlt := World.block_lt_of_cell? w _ hb
  have eg := enter_same
  have HS := Lib.hid hs
  have HC := Lib.hid (fun (W : World) (h : Below w.heap.size w W) (x : List UInt8) (c : Int) => same_name x s c b W ((h.cell hlt).trans hb) (Nat.lt_of_lt_of_le hlt h.size))
  have HP : Hid (∀ k, (hk : k < elsL.length) → (∀ j, (h : j < elsL.length) → j < k → elsL[j] ≠ s) → elsL[k] = s → placeI s = (k : Nat)) := fun k hk hn he => by
    unfold placeI
    rw [place_some hk hn he]
  have HQ : Hid ((∀ k, (h : k < elsL.length) → elsL[k] ≠ s) → placeI s = -1) := fun h => by
    unfold placeI
    rw [place_none h]
  generalize placeI s = ans at HP HQ ⊢
  clear hs hb hlt
  go_enter Tryz.func69, Tryz.ntmps69
  go_wp2
  go_loopw [5, 8] (fun _ i wr => ∃ k : Nat, k ≤ 10 ∧ i = .int .i64 k ∧ Hid (Below w.heap.size w wr) ∧ Hid (∀ j, (h : j < elsL.length) → j < k → elsL[j] ≠ s)) (fun _ i _ => 10 - (intOf i).toNat)
  case atStart => exact ⟨0, Nat.zero_le _, rfl, Below.refl _ _, fun j _ h => absurd h (by omega)⟩
  case round =>
    obtain ⟨k, hk, rfl, hbel, hno⟩ := hrel
    by_cases hlt : k < 10
    · have hlt2 : k < elsL.length := hlt
      obtain ⟨c1, c2⟩ := (HS.out.kept hbel.out) k hlt2
      have hcall := HC.out wr hbel.out elsL[k] (codeN k : Nat)
      have hp := HP.out k hlt2 hno.out
      have i0 : (0 : Int) ≤ (k : Int) := by omega
      have i1 : (k : Int) < 10 := by omega
      generalize (codeN k : Int) = c at c2 hcall
      obtain ⟨x, hx⟩ : ∃ x, x = elsL[k] := ⟨_, rfl⟩
      rw [← hx] at c1 hcall hp
      have HX := Lib.hid hx
      clear hx
      by_cases hq : x = s
      · have HR := Lib.hid (hp hq)
        rw [decide_eq_true hq] at hcall
        clear hq hp
        generalize S x = X at c1 hcall
        go_wp2_with (go_at_fn 70; refine hcall.mono ?_; rintro e w' ⟨rfl, hb'⟩)
        go_ret
        exact ⟨ret_int (by rw [HR.out]), hbel.out.trans (hb'.mono hbel.out.size)⟩
      · have HN : Hid (∀ j, (h : j < elsL.length) → j < k + 1 → elsL[j] ≠ s) := fun j h hj => by
          rcases Nat.lt_or_ge j k with h2 | h2
          · exact hno.out j h h2
          · obtain rfl : j = k := by omega
            rw [← HX.out]; exact hq
        rw [decide_eq_false hq] at hcall
        clear hq hp
        generalize S x = X at c1 hcall
        go_wp2_with (go_at_fn 70; refine hcall.mono ?_; rintro e w' ⟨rfl, hb'⟩)
        go_roundw
        case rel => exact ⟨k + 1, by omega, by go_num, hbel.out.trans (hb'.mono hbel.out.size), HN⟩
        case measure => simp [intOf]; omega
    · have HR := Lib.hid (HQ.out fun j h => hno.out j h (by have : j < 10 := h; omega))
      go_wp2
      go_ret
      exact ⟨ret_int (by rw [HR.out]), hbel.out⟩

theorem place_lt {s : List UInt8} : ∀ {l : List (List UInt8)} {k : Nat}, placeL s l = some k → k < l.length
  | [], k, h => by cases h
  | x :: r, k, h => by
    unfold placeL at h
    split at h
    · cases h; simp
    · cases hp : placeL s r with
      | none => rw [hp] at h; cases h
      | some m =>
        rw [hp] at h
        cases h
        have := place_lt hp
        simp only [List.length_cons]
        omega
set_option maxHeartbeats 1000000 in
theorem element_c (s : List UInt8) (w : World) :
    Calls Tryz.prog 50 #[.string (S s)] w fun e w' => e = .returned (.int .i64 (elemN s : Nat)) ∧ Below w.heap.size w w' := by
  have hx := fun g b W => index_c s g b W
  have E0 : Hid (placeL s elsL = none → placeI s = -1 ∧ elemN s = 0) := fun h => by unfold placeI elemN; rw [h]; exact ⟨rfl, rfl⟩
  have E1 : Hid (∀ k, placeL s elsL = some k → placeI s = (k : Nat) ∧ elemN s = codeN k ∧ k < 10) := fun k h => by
    have hl : k < elsL.length := place_lt h
    unfold placeI elemN
    rw [h]
    exact ⟨rfl, rfl, hl⟩
  generalize elemN s = ans at E0 E1 ⊢
  generalize placeI s = at0 at E0 E1 hx
  generalize placeL s elsL = pl at E0 E1
  generalize S s = T at hx ⊢
  have hc0 : (w.alloc (.cells #[.string T] 9)).cell? ⟨w.heap.size, 0, none⟩ = some (.string T) := by simp
  have HC0 := Lib.hid hc0
  clear hc0
  go_enter Tryz.func50, Tryz.ntmps50
  go_wp2_with fail
  refine (specials_c _).mono ?_
  rintro e w1 ⟨g, rfl, hs, hb1⟩
  have hcell : w1.cell? ⟨w.heap.size, 0, none⟩ = some (.string T) := (hb1.cell (by simp)).trans HC0.out
  have HB1 : Hid (Below w.heap.size w w1) := ((Below.refl _ w).alloc (Nat.le_refl _) _).trans (hb1.mono (by simp))
  have hcall := hx g w.heap.size w1 hs hcell
  have HS := Lib.hid hs
  clear hs hb1 hx HC0 hcell
  go_wp2_with fail
  refine hcall.mono ?_
  rintro e w2 ⟨rfl, hb2⟩
  have HS2 := Lib.hid (HS.out.kept hb2)
  have HB2 : Hid (Below w.heap.size w w2) := HB1.out.trans (hb2.mono HB1.out.size)
  clear hb2 hcall HS HB1
  cases pl with
  | none =>
    obtain ⟨rfl, rfl⟩ := E0.out rfl
    clear E0 E1
    go_wp2_with fail
    go_ret
    exact ⟨rfl, HB2.out⟩
  | some k =>
    obtain ⟨rfl, rfl, hk⟩ := E1.out k rfl
    clear E0 E1
    have c2 := (HS2.out k hk).2
    have i0 : (0 : Int) ≤ (k : Int) := by omega
    have i1 : (k : Int) < 10 := by omega
    have i2 : ¬ (k : Int) < 0 := by omega
    generalize hcd : (codeN k : Int) = c at c2
    have HD := Lib.hid hcd
    clear hcd
    go_wp2_with fail
    go_ret
    exact ⟨ret_int HD.out.symm, HB2.out⟩

/-! ### Void -/
/-! ### Attribute -/
abbrev noneL : List (List UInt8) := [] :: nosL
end Go.Proofs.YtidfcajhmldieaaGreatDoor.Tab

/-
  Contract of tables.Elements: the ten names, in a list of the call's own.
-/
namespace Go.Proofs.YtidfcajhmldieaaGreatDoor.Tab
open Go.RowKit Go.Proofs.YtidfcajhmldieaaGreatDoor.Oct

theorem info_text : (Tryz.prog.info? 9).map (fun i => (i.zero, i.size, i.bytes)) = some (some (.string ⟨#[]⟩), 1, 16) := by kernel_rfl
theorem tclone_c (s : ByteArray) (w : World) (hs : s.size ≤ 140737488351232) :
    Calls Tryz.prog 59 #[.string s] w fun e w' => e = .returned (.string s) ∧ Below w.heap.size w w' := by
  go_enter Tryz.func59, Tryz.ntmps59
  go_wp2_with (go_at_call 87; refine (Tryz.stringslite_Clone s _ (by omega)).mono ?_; rintro e w1 ⟨rfl, hb⟩)
  go_ret
  exact ⟨rfl, hb⟩
theorem own_kept {w w' : World} {base n size : Nat} {e : TypeId} {v : Value} {xs : List Value} (h : w.ownsRow base e size v n xs) (hb : Below w.heap.size w w') : w'.ownsRow base e size v n xs := by
  refine h.kept (row := none) ⟨hb.os, hb.tape, hb.output, hb.size, fun k hk _ => hb.block k hk⟩ ?_
  rcases h.2 with ⟨rfl, _⟩ | ⟨g, cap, cur, rfl, _⟩
  · exact .inl rfl
  · exact .inr (by simp [Value.ownBlock])
/-- The cells behind k rounds. -/
def namesAt (ks : List (List UInt8)) (k : Nat) : List Value := (ks.take k).map (fun l => Value.string (S l)) ++ List.replicate (ks.length - k) (Value.string ⟨#[]⟩)
theorem namesAt_zero (ks : List (List UInt8)) : namesAt ks 0 = List.replicate ks.length (Value.string ⟨#[]⟩) := by simp [namesAt]
theorem namesAt_succ (ks : List (List UInt8)) (k : Nat) (h : k < ks.length) : (namesAt ks k).set k (Value.string (S ks[k])) = namesAt ks (k + 1) := by
  unfold namesAt
  have e : ks.length - k = (ks.length - (k + 1)) + 1 := by omega
  rw [e, List.replicate_succ, List.set_append_right _ _ (by simp; omega)]
  have e2 : k - ((ks.take k).map (fun l => Value.string (S l))).length = 0 := by simp; omega
  rw [e2, List.set_cons_zero, List.take_succ_eq_append_getElem h, List.map_append, List.map_singleton, List.append_assoc, List.singleton_append]
theorem namesAt_at (ks : List (List UInt8)) (k : Nat) (h : k < ks.length) : (namesAt ks k)[k]? = some (Value.string ⟨#[]⟩) := by
  unfold namesAt
  rw [List.getElem?_append_right (by simp; omega), List.getElem?_replicate, if_pos (by simp; omega)]
theorem namesAt_full (ks : List (List UInt8)) (j : Nat) (h : j < ks.length) : (namesAt ks ks.length)[j]? = some (Value.string (S ks[j])) := by
  simp [namesAt, h]

end Go.Proofs.YtidfcajhmldieaaGreatDoor.Tab

/-
  The reader of package tokens in memory, and contracts of the calls that ask it: what it passes, takes, has read; the octets that are asked for.
-/
namespace Go.Proofs.YtidfcajhmldieaaGreatDoor.Tkc
open Go.RowKit Go.Proofs.YtidfcajhmldieaaGreatDoor.Oct Go.Proofs.YtidfcajhmldieaaGreatDoor.Utf Go.Proofs.YtidfcajhmldieaaGreatDoor.Crf Go.Proofs.YtidfcajhmldieaaGreatDoor.Tab Go.Proofs.YtidfcajhmldieaaGreatDoor.Tok

/-- What the reader panics with. -/
abbrev faultV (n : Int) : Value := .iface 44 (.agg #[.int .i64 n])
abbrev Fault (n : Int) : Ending := .panicked [{ v := faultV n, recovered := false }]
/-- The reader's box. -/
abbrev boxT (l : List UInt8) (k : Nat) (vo : Value) : Array Value := #[.string (S l), .int .i64 (k : Int), vo]
def Bx (R : Nat) (l : List UInt8) (k : Nat) (vo : Value) (w : World) : Prop := w.heap[R]? = some (.cells (boxT l k vo) 40 (0, 0))
/-- All that lay in w lies as it lay, but for the block R. -/
structure Keeps (R : Nat) (w w' : World) : Prop where
  os : w'.os = w.os
  tape : w'.tape = w.tape
  output : w'.output = w.output
  size : w.heap.size ≤ w'.heap.size
  block : ∀ k, k < w.heap.size → k ≠ R → w'.heap[k]? = w.heap[k]?
theorem Keeps.refl (R : Nat) (w : World) : Keeps R w w := ⟨rfl, rfl, rfl, Nat.le_refl _, fun _ _ _ => rfl⟩
theorem Keeps.trans {R : Nat} {a b c : World} (h : Keeps R a b) (k : Keeps R b c) : Keeps R a c :=
  ⟨k.os.trans h.os, k.tape.trans h.tape, k.output.trans h.output, Nat.le_trans h.size k.size, fun i hi hR => (k.block i (Nat.lt_of_lt_of_le hi h.size) hR).trans (h.block i hi hR)⟩
theorem Keeps.of {R : Nat} {w w' : World} (h : Below w.heap.size w w') : Keeps R w w' := ⟨h.os, h.tape, h.output, h.size, fun k hk _ => h.block k hk⟩
theorem Keeps.set {R i : Nat} (w : World) (v : Value) : Keeps R w (w.setCell ⟨R, i, none⟩ v) :=
  ⟨rfl, rfl, rfl, by simp [World.setCell], fun k _ hR => heap_setCell_other _ _ _ _ (by simpa using hR)⟩
theorem Keeps.drew {R : Nat} {a w : World} (h : Keeps R a w) : Keeps R a w.drew := ⟨h.os, h.tape, h.output, h.size, h.block⟩
theorem Keeps.drewN {R : Nat} {a w : World} (h : Keeps R a w) (n : Nat) : Keeps R a (w.drewN n) := h.trans (.of (Oct.below_drewN (Below.refl _ w) n))
theorem Keeps.below {R : Nat} {w w' : World} (h : Keeps R w w') (hR : R ≤ w.heap.size) : Below R w w' := ⟨h.os, h.tape, h.output, h.size, fun k hk => h.block k (by omega) (by omega)⟩
section
variable {R : Nat} {l : List UInt8} {k : Nat} {vo : Value} {w : World}
theorem Bx.lt (h : Bx R l k vo w) : R < w.heap.size := (Array.getElem?_eq_some_iff.1 h).1
theorem Bx.cell (h : Bx R l k vo w) (i : Nat) : w.cell? ⟨R, i, none⟩ = (boxT l k vo)[i]? := cell_of_row w R i _ _ _ h
theorem Bx.froz (h : Bx R l k vo w) (i : Nat) : w.frozen? ⟨R, i, none⟩ = false := frozen_of_row w R i _ _ h
theorem Bx.at_ (h : Bx R l k vo w) (j : Nat) : Bx R l j vo (w.setCell ⟨R, 1, none⟩ (.int .i64 (j : Int))) := heap_setCell_same w R 1 _ _ _ h
theorem Bx.out (h : Bx R l k vo w) (v : Value) : Bx R l k v (w.setCell ⟨R, 2, none⟩ v) := heap_setCell_same w R 2 _ _ _ h
theorem Bx.keep {w' : World} (h : Bx R l k vo w) (hb : Below w.heap.size w w') : Bx R l k vo w' := (hb.block R h.lt).trans h
theorem Bx.drewN (h : Bx R l k vo w) (n : Nat) : Bx R l k vo (w.drewN n) := h.keep (Oct.below_drewN (Below.refl _ w) n)
end

theorem demand_yes (n : Int) (w : World) : Calls Tryz.prog 18 #[.bool true, .int .i64 n] w fun e w' => e = .returned (.tuple #[]) ∧ w' = w := by
  go_enter Tryz.func18, Tryz.ntmps18
  go_wp2
  go_end0
  exact ⟨rfl, rfl⟩
theorem demand_no (n : Int) (w : World) : Calls Tryz.prog 18 #[.bool false, .int .i64 n] w fun e w' => e = Fault n ∧ w' = w := by
  go_enter Tryz.func18, Tryz.ntmps18
  go_wp2
  exact ⟨rfl, rfl, rfl⟩

/-! ### Octets that are asked for -/
theorem one_of (s : ByteArray) (c : Int) (w : World) :
    Calls Tryz.prog 98 #[.int .u8 c, .string s] w fun e w' => e = .returned (.bool (decide (0 ≤ Lib.indexByte s.data.toList c.toNat.toUInt8))) ∧ w = w' := by
  have h := Tryz.strings_IndexByte s c w
  generalize Lib.indexByte s.data.toList c.toNat.toUInt8 = i at h ⊢
  go_enter Tryz.func98, Tryz.ntmps98
  go_wp2_with (go_at_call 107; refine h.mono ?_; rintro e w' ⟨rfl, rfl⟩)
  go_ret
  exact ⟨rfl, rfl⟩
theorem one_two : ∀ x : Fin 256, decide (0 ≤ Lib.indexByte [47, 62] (UInt8.ofNat x.val)) = (UInt8.ofNat x.val == 47 || UInt8.ofNat x.val == 62) := by decide +kernel
theorem one_end : ∀ x : Fin 256, decide (0 ≤ Lib.indexByte [62] (UInt8.ofNat x.val)) = (UInt8.ofNat x.val == 62) := by decide +kernel
theorem one_eq : ∀ x : Fin 256, decide (0 ≤ Lib.indexByte [61] (UInt8.ofNat x.val)) = (UInt8.ofNat x.val == 61) := by decide +kernel
theorem oct_eq (c : UInt8) : (c.toNat : Int).toNat.toUInt8 = c := by simp
theorem two_c (c : UInt8) (w : World) : Calls Tryz.prog 98 #[.int .u8 (c.toNat : Int), .string ⟨#[47, 62]⟩] w fun e w' => e = .returned (.bool (c == 47 || c == 62)) ∧ w = w' := by
  have h := one_of ⟨#[47, 62]⟩ (c.toNat : Int) w
  have e := one_two ⟨c.toNat, c.toNat_lt⟩
  simp only [UInt8.ofNat_toNat] at e
  rw [oct_eq] at h
  rw [← e]
  exact h
theorem end_c (c : UInt8) (w : World) : Calls Tryz.prog 98 #[.int .u8 (c.toNat : Int), .string ⟨#[62]⟩] w fun e w' => e = .returned (.bool (c == 62)) ∧ w = w' := by
  have h := one_of ⟨#[62]⟩ (c.toNat : Int) w
  have e := one_end ⟨c.toNat, c.toNat_lt⟩
  simp only [UInt8.ofNat_toNat] at e
  rw [oct_eq] at h
  rw [← e]
  exact h
theorem eq_c (c : UInt8) (w : World) : Calls Tryz.prog 98 #[.int .u8 (c.toNat : Int), .string ⟨#[61]⟩] w fun e w' => e = .returned (.bool (c == 61)) ∧ w = w' := by
  have h := one_of ⟨#[61]⟩ (c.toNat : Int) w
  have e := one_eq ⟨c.toNat, c.toNat_lt⟩
  simp only [UInt8.ofNat_toNat] at e
  rw [oct_eq] at h
  rw [← e]
  exact h
theorem nm_c (c : UInt8) (w : World) : Calls Tryz.prog 79 #[.int .u8 (c.toNat : Int)] w fun e w' => e = .returned (.bool (inNm c)) ∧ w = w' := by
  have hb : ∀ w, Calls Tryz.prog 81 #[.int .u8 (c.toNat : Int)] w fun e w' => e = .returned (.bool (blB c)) ∧ w = w' := fun w => blank_c (c.toNat : Int) w
  have ho := two_c c
  unfold inNm
  generalize (c == 47 || c == 62) = x at ho ⊢
  generalize blB c = b at hb ⊢
  generalize (c.toNat : Int) = n at *
  cases b <;> cases x
  all_goals go_enter Tryz.func79, Tryz.ntmps79
  all_goals go_wp2_with (first
    | (go_at_call 81; refine (hb _).mono ?_; rintro e w' ⟨rfl, rfl⟩)
    | (go_at_call 98; refine (ho _).mono ?_; rintro e w' ⟨rfl, rfl⟩))
  all_goals go_ret
  all_goals exact ⟨rfl, rfl⟩
theorem bare_c (c : UInt8) (w : World) : Calls Tryz.prog 84 #[.int .u8 (c.toNat : Int)] w fun e w' => e = .returned (.bool (inBare c)) ∧ w = w' := by
  have hb : ∀ w, Calls Tryz.prog 81 #[.int .u8 (c.toNat : Int)] w fun e w' => e = .returned (.bool (blB c)) ∧ w = w' := fun w => blank_c (c.toNat : Int) w
  have ho := end_c c
  unfold inBare
  generalize (c == 62) = x at ho ⊢
  generalize blB c = b at hb ⊢
  generalize (c.toNat : Int) = n at *
  cases b <;> cases x
  all_goals go_enter Tryz.func84, Tryz.ntmps84
  all_goals go_wp2_with (first
    | (go_at_call 81; refine (hb _).mono ?_; rintro e w' ⟨rfl, rfl⟩)
    | (go_at_call 98; refine (ho _).mono ?_; rintro e w' ⟨rfl, rfl⟩))
  all_goals go_ret
  all_goals exact ⟨rfl, rfl⟩
theorem at_c (c : UInt8) (w : World) : Calls Tryz.prog 83 #[.int .u8 (c.toNat : Int)] w fun e w' => e = .returned (.bool (inAt c)) ∧ w = w' := by
  have hb := nm_c c
  have ho := eq_c c
  unfold inAt
  generalize (c == 61) = x at ho ⊢
  generalize inNm c = b at hb ⊢
  generalize (c.toNat : Int) = n at *
  cases b <;> cases x
  all_goals go_enter Tryz.func83, Tryz.ntmps83
  all_goals go_wp2_with (first
    | (go_at_call 79; refine (hb _).mono ?_; rintro e w' ⟨rfl, rfl⟩)
    | (go_at_call 98; refine (ho _).mono ?_; rintro e w' ⟨rfl, rfl⟩))
  all_goals go_ret
  all_goals exact ⟨rfl, rfl⟩
theorem quote_c (c q : UInt8) (b : Nat) (w : World) (hq : w.cell? ⟨b, 0, none⟩ = some (.string (S [q]))) : Calls Tryz.prog 76 #[.int .u8 (c.toNat : Int), .pointer (some ⟨b, 0, none⟩)] w fun e w' => e = .returned (.bool (!(c == q))) ∧ w = w' := by
  have E : Hid ((!(c == q)) = (((c.toNat : Int)) != ((q.toNat : Int)))) := by
    show _ = _
    rw [Bool.eq_iff_iff]
    simp only [bne_iff_ne, ne_eq, Int.natCast_inj, UInt8.toNat_inj, Bool.not_eq_true', beq_eq_false_iff_ne]
  go_enter Tryz.func76, Tryz.ntmps76
  go_wp2
  go_ret
  exact ⟨ret_bool E.out.symm, rfl⟩
theorem enter_nm : ∀ args w, (callFunc 79 args).run Tryz.prog w = .ok (.enter 79 args) w := enters_of Tryz.func79 (by kernel_rfl) rfl
theorem enter_bare : ∀ args w, (callFunc 84 args).run Tryz.prog w = .ok (.enter 84 args) w := enters_of Tryz.func84 (by kernel_rfl) rfl
theorem enter_at : ∀ args w, (callFunc 83 args).run Tryz.prog w = .ok (.enter 83 args) w := enters_of Tryz.func83 (by kernel_rfl) rfl
theorem enter_blank : ∀ args w, (callFunc 81 args).run Tryz.prog w = .ok (.enter 81 args) w := enters_of Tryz.func81 (by kernel_rfl) rfl
theorem enter_quote : ∀ args w, (callFunc 76 args).run Tryz.prog w = .ok (.enter 76 args) w := enters_of Tryz.func76 (by kernel_rfl) rfl
end Go.Proofs.YtidfcajhmldieaaGreatDoor.Tkc
