/-
  Part 17: TokMem, TabPage.
-/
import Derived.Test.YtidfcajhmldieaaGreatOwnBaseP4
import Derived.Test.YtidfcajhmldieaaGreatOwnBaseP16
import Derived.Maps.AppendAt
import Derived.Deep.AppendLies
import Derived.Deep.RegionLaw
import Derived.Deep.RegionWith
import Derived.Test.YtidfcajhmldieaaGreatProg
import Derived.Lib.Hide
import Derived.Deep.QuietTactic
import Derived.BigQuiet
import Derived.Lib.Strings
/-
  The page's reader of HTML in memory: its box, its lists, what keeps them apart; a list of tokens in memory.
-/
namespace Go.Proofs.YtidfcajhmldieaaGreat.Tok
open Go.RowKit Go.Proofs.YtidfcajhmldieaaGreat.Oct Go.Proofs.YtidfcajhmldieaaGreat.Utf Go.Proofs.YtidfcajhmldieaaGreat.Crf Go.Proofs.YtidfcajhmldieaaGreat.Tab Go.Proofs.YtidfcajhmldieaaGreat.Mem

theorem at_T (l : List UInt8) (k : Nat) (h : k < l.length) : (S l)[k]'(by rw [size_S]; exact h) = l[k] := by
  rw [ByteArray.getElem_eq_getElem_data]; simp
/-- An attribute's cells; a list of attributes in memory. -/
abbrev atCs (a : At) : List Value := [.string (S a.n), .string (S a.v)]
def AtR (base : Nat) (w : World) (v : Value) (al : List At) : Prop := w.ownsRow base 31 2 v al.length (al.flatMap atCs)
/-- A token's cells, its attributes' list given; a list of tokens in memory, each with its attributes' list. -/
abbrev tkCs (p : Tk × Value) : List Value := [.int .i64 p.1.k, .string (S p.1.n), .string (S p.1.x), p.2, .bool p.1.c]
def TkR (base : Nat) (w : World) (v : Value) (ps : List (Tk × Value)) : Prop := w.ownsRow base 29 5 v ps.length (ps.flatMap tkCs)
/-- Two lists lie apart. -/
def Sep (a b : Value) : Prop := ∀ k, a.ownBlock = some k → b.ownBlock ≠ some k
theorem sep_nil (a : Value) : Sep a (.slice none 0 0) := fun _ _ h => by cases h
theorem nil_sep (a : Value) : Sep (.slice none 0 0) a := fun _ h => by cases h
theorem Sep.symm {a b : Value} (h : Sep a b) : Sep b a := fun k h1 h2 => h k h2 h1
/-- What a row moves to lies apart, if it lay apart or is new. -/
theorem Sep.moved {w : World} {a b b' : Value} (h : Sep a b) (hlt : ∀ k, a.ownBlock = some k → k < w.heap.size) (hm : b'.ownBlock = b.ownBlock ∨ b'.ownBlock = some w.heap.size) : Sep a b' := fun k hk hb => by
  rcases hm with hm | hm
  · exact h k hk (by rw [← hm]; exact hb)
  · rw [hm] at hb
    have := hlt k hk
    injection hb with hb
    omega
theorem own_lt {w : World} {base n size : Nat} {e : TypeId} {v : Value} {xs : List Value} (h : w.ownsRow base e size v n xs) : ∀ k, v.ownBlock = some k → k < w.heap.size := fun k hk => (h.lt k hk).2
theorem own_ge {w : World} {base n size : Nat} {e : TypeId} {v : Value} {xs : List Value} (h : w.ownsRow base e size v n xs) : ∀ k, v.ownBlock = some k → base ≤ k := fun k hk => (h.lt k hk).1
/-- A row stays where its block does. -/
theorem own_same {w w' : World} {base n size : Nat} {e : TypeId} {v : Value} {xs : List Value} (h : w.ownsRow base e size v n xs) (hs : ∀ k, base ≤ k → v.ownBlock = some k → w'.heap[k]? = w.heap[k]?) : w'.ownsRow base e size v n xs := by
  refine ⟨h.1, ?_⟩
  rcases h.2 with hn | ⟨g, cap, cur, rfl, hb, hg, rest⟩
  · exact .inl hn
  · exact .inr ⟨g, cap, cur, rfl, hb, by rw [hs g hb rfl]; exact hg, rest⟩
theorem own_grown {w w' : World} {base n size : Nat} {e : TypeId} {v b : Value} {xs : List Value} (h : w.ownsRow base e size v n xs) (hg : w.grownBy w' b.ownBlock) (hs : Sep v b) : w'.ownsRow base e size v n xs :=
  own_same h fun k _ hk => hg.block k (own_lt h k hk) (fun e => hs k hk e.symm)
theorem own_set {w : World} {R i : Nat} {x : Value} {n size : Nat} {e : TypeId} {v : Value} {xs : List Value} (h : w.ownsRow (R + 1) e size v n xs) : (w.setCell ⟨R, i, none⟩ x).ownsRow (R + 1) e size v n xs :=
  own_same h fun k hk _ => heap_setCell_other _ _ _ _ (by simp; omega)

/-- The reader's box. -/
abbrev boxC (l : List UInt8) (vo vt va : Value) (r : Rd) : Array Value :=
  #[.string (S l), vo, .int .i64 (r.st : Int), vt, .int .i64 r.tg.k, .string (S r.tg.n), .string (S r.tg.x), va, .bool r.tg.c, .string (S r.av.n), .string (S r.av.v), .int .u8 (r.q.toNat : Int), .string (S r.rw), .int .i64 (r.kd : Int)]
/-- The reader in memory: vo, vt, va are its lists of tokens, of octets, of attributes. -/
structure RdW (R : Nat) (l : List UInt8) (r : Rd) (vo vt va : Value) (ps : List (Tk × Value)) (w : World) : Prop where
  box : w.heap[R]? = some (.cells (boxC l vo vt va r) 44 (0, 0))
  out : TkR (R + 1) w vo ps
  outs : r.out = ps.map Prod.fst
  txt : w.ownsRow (R + 1) 5 1 vt r.tx.length (r.tx.map bv)
  att : AtR (R + 1) w va r.tg.a
  ats : ∀ p ∈ ps, AtR (R + 1) w p.2 p.1.a
  s1 : Sep vo vt
  s2 : Sep vo va
  s3 : Sep vt va
  s4 : ∀ p ∈ ps, Sep p.2 vo ∧ Sep p.2 vt ∧ Sep p.2 va
def RdM (R : Nat) (l : List UInt8) (r : Rd) (w : World) : Prop := ∃ vo vt va ps, RdW R l r vo vt va ps w

section
variable {R : Nat} {l : List UInt8} {r : Rd} {vo vt va : Value} {ps : List (Tk × Value)} {w : World}
theorem RdW.lt (h : RdW R l r vo vt va ps w) : R < w.heap.size := (Array.getElem?_eq_some_iff.1 h.box).1
theorem RdW.cell (h : RdW R l r vo vt va ps w) (i : Nat) : w.cell? ⟨R, i, none⟩ = (boxC l vo vt va r)[i]? := cell_of_row w R i _ _ _ h.box
theorem RdW.froz (h : RdW R l r vo vt va ps w) (i : Nat) : w.frozen? ⟨R, i, none⟩ = false := frozen_of_row w R i _ _ h.box
theorem RdW.keep {w' : World} (h : RdW R l r vo vt va ps w) (hb : Below w.heap.size w w') : RdW R l r vo vt va ps w' :=
  { h with
    box := by rw [hb.block R h.lt]; exact h.box
    out := own_same h.out fun k _ hk => hb.block k (own_lt h.out k hk)
    txt := own_same h.txt fun k _ hk => hb.block k (own_lt h.txt k hk)
    att := own_same h.att fun k _ hk => hb.block k (own_lt h.att k hk)
    ats := fun p hp => own_same (h.ats p hp) fun k _ hk => hb.block k (own_lt (h.ats p hp) k hk) }
end
/-- A cell of the box is written that holds no list. -/
theorem RdW.seti {R : Nat} {l : List UInt8} {r r' : Rd} {vo vt va : Value} {ps : List (Tk × Value)} {w : World} (h : RdW R l r vo vt va ps w) (i : Nat) (x : Value)
    (hb : (boxC l vo vt va r).setIfInBounds i x = boxC l vo vt va r') (h1 : r'.out = r.out) (h2 : r'.tx = r.tx) (h3 : r'.tg.a = r.tg.a) : RdW R l r' vo vt va ps (w.setCell ⟨R, i, none⟩ x) where
  box := by
    have e := heap_setCell_same w R i _ _ x h.box
    rw [e]
    exact congrArg some (congrArg (fun c => Obj.cells c _ (0, 0)) hb)
  out := own_set h.out
  outs := h1.trans h.outs
  txt := by rw [h2]; exact own_set h.txt
  att := by rw [h3]; exact own_set h.att
  ats := fun p hp => own_set (h.ats p hp)
  s1 := h.s1
  s2 := h.s2
  s3 := h.s3
  s4 := h.s4
theorem below_set {R i : Nat} {a w : World} (v : Value) (h : Below R a w) : Below R a (w.setCell ⟨R, i, none⟩ v) :=
  ⟨h.os, h.tape, h.output, by simp [World.setCell]; exact h.size, fun k hk => (heap_setCell_other _ _ _ _ (by simp; omega)).trans (h.block k hk)⟩
/-- The new cells, as an append of a list's literal asks for them. -/
theorem push_cells {w : World} {T : TypeId} {cs : List Value} (j : Nat) (u : Value) (h : cs[j]? = some u) : (w.alloc (.cells cs.toArray T)).cell? ((⟨w.heap.size, 0, none⟩ : Addr).add j) = some u := by
  have e : (⟨w.heap.size, 0, none⟩ : Addr).add j = ⟨w.heap.size, j, none⟩ := by simp [Addr.add]; omega
  rw [e]
  exact (cell_of_row _ _ j _ _ _ (heap_alloc_new w _)).trans (by simpa using h)
theorem own_one {w : World} {base n size : Nat} {e : TypeId} {v : Value} {xs : List Value} (h : w.ownsRow base e size v n xs) : v.oneCell' = true := by
  rcases h.2 with ⟨rfl, _⟩ | ⟨g, cap, cur, rfl, _⟩ <;> rfl
theorem own_slice {w : World} {base n size : Nat} {e : TypeId} {v : Value} {xs : List Value} (h : w.ownsRow base e size v n xs) : ∃ p j c, v = .slice p j c := by
  rcases h.2 with ⟨rfl, _⟩ | ⟨g, cap, cur, rfl, _⟩
  · exact ⟨_, _, _, rfl⟩
  · exact ⟨_, _, _, rfl⟩
theorem push_tok {p : Tk × Value} (h : p.2.oneCell' = true) : ∀ u ∈ tkCs p, u.oneCell' = true := by
  intro u hu
  simp only [List.mem_cons, List.not_mem_nil, or_false] at hu
  rcases hu with rfl | rfl | rfl | rfl | rfl
  · rfl
  · rfl
  · rfl
  · exact h
  · rfl
theorem info_tok : (Tryz.prog.info? 29).map (fun i => (i.zero, i.size, i.bytes)) = some (some (.agg #[.int .i64 0, .string ⟨#[]⟩, .string ⟨#[]⟩, .slice none 0 0, .bool false]), 5, 72) := by kernel_rfl
theorem info_att : (Tryz.prog.info? 31).map (fun i => (i.zero, i.size, i.bytes)) = some (some (.agg #[.string ⟨#[]⟩, .string ⟨#[]⟩]), 2, 32) := by kernel_rfl
/-- A token is put to what was told. -/
theorem RdW.push {R : Nat} {l : List UInt8} {r : Rd} {vo vt va v' : Value} {ps : List (Tk × Value)} {w w3 : World} (h : RdW R l r vo vt va ps w) (p : Tk × Value) (hp : AtR (R + 1) w p.2 p.1.a) (hs : Sep p.2 vo ∧ Sep p.2 vt ∧ Sep p.2 va)
    (o : Obj) (hown : w3.ownsRow (R + 1) 29 5 v' (ps.length + 1) (ps.flatMap tkCs ++ tkCs p)) (hg : (w.alloc o).grownBy w3 vo.ownBlock) (hat0 : v'.ownBlock = vo.ownBlock ∨ v'.ownBlock = some (w.heap.size + 1)) :
    RdW R l { r with out := r.out ++ [p.1] } v' vt va (ps ++ [p]) (w3.setCell ⟨R, 1, none⟩ v') ∧ Below R w (w3.setCell ⟨R, 1, none⟩ v') ∧ w3.cell? ⟨R, 1, none⟩ = some vo ∧ w3.frozen? ⟨R, 1, none⟩ = false := by
  have hat : v'.ownBlock = vo.ownBlock ∨ v'.ownBlock = some (w.alloc o).heap.size := by simpa using hat0
  have hal : Below w.heap.size w (w.alloc o) := (Below.refl _ w).alloc (Nat.le_refl _) _
  have ha := h.keep hal
  have hlt := ha.lt
  have hne : some R ≠ vo.ownBlock := fun e => by have := own_ge h.out R e.symm; omega
  have hb : w3.heap[R]? = (w.alloc o).heap[R]? := hg.block R hlt hne
  refine ⟨?_, ?_, (cell_of_row w3 R 1 _ _ _ (hb.trans ha.box)).trans rfl, frozen_of_row w3 R 1 _ _ (hb.trans ha.box)⟩
  · constructor
    · have e := heap_setCell_same w3 R 1 _ _ v' (hb.trans ha.box)
      exact e
    · show World.ownsRow _ _ _ _ _ _ _
      rw [List.length_append, List.length_singleton, List.flatMap_append]
      refine own_set ?_
      simpa using hown
    · rw [List.map_append, ← h.outs]; rfl
    · exact own_set (own_grown ha.txt hg h.s1.symm)
    · exact own_set (own_grown ha.att hg h.s2.symm)
    · intro q hq
      rcases List.mem_append.1 hq with hq | hq
      · exact own_set (own_grown (ha.ats q hq) hg (h.s4 q hq).1)
      · rw [List.mem_singleton] at hq
        subst hq
        exact own_set (own_grown (own_same hp fun k _ hk => hal.block k (own_lt hp k hk)) hg hs.1)
    · exact (h.s1.symm.moved (own_lt ha.txt) hat).symm
    · exact (h.s2.symm.moved (own_lt ha.att) hat).symm
    · exact h.s3
    · intro q hq
      rcases List.mem_append.1 hq with hq | hq
      · exact ⟨(h.s4 q hq).1.moved (own_lt (ha.ats q hq)) hat, (h.s4 q hq).2⟩
      · rw [List.mem_singleton] at hq
        subst hq
        exact ⟨hs.1.moved (own_lt (own_same hp fun k _ hk => hal.block k (own_lt hp k hk))) hat, hs.2⟩
  · have hR : R ≤ w.heap.size := Nat.le_of_lt h.lt
    refine below_set _ (Below.grown (hal.mono hR) hg (Nat.le_of_lt hlt) ?_)
    intro k hk
    have := own_ge h.out k hk
    omega
/-- An attribute is put to the tag on its way. -/
theorem RdW.pushA {R : Nat} {l : List UInt8} {r : Rd} {vo vt va v' : Value} {ps : List (Tk × Value)} {w w3 : World} (h : RdW R l r vo vt va ps w) (a : At)
    (o : Obj) (hown : w3.ownsRow (R + 1) 31 2 v' (r.tg.a.length + 1) (r.tg.a.flatMap atCs ++ atCs a)) (hg : (w.alloc o).grownBy w3 va.ownBlock) (hat0 : v'.ownBlock = va.ownBlock ∨ v'.ownBlock = some (w.heap.size + 1)) :
    RdW R l { r with tg := { r.tg with a := r.tg.a ++ [a] } } vo vt v' ps (w3.setCell ⟨R, 7, none⟩ v') ∧ Below R w (w3.setCell ⟨R, 7, none⟩ v') ∧ w3.cell? ⟨R, 7, none⟩ = some va ∧ w3.frozen? ⟨R, 7, none⟩ = false := by
  have hat : v'.ownBlock = va.ownBlock ∨ v'.ownBlock = some (w.alloc o).heap.size := by simpa using hat0
  have hal : Below w.heap.size w (w.alloc o) := (Below.refl _ w).alloc (Nat.le_refl _) _
  have ha := h.keep hal
  have hlt := ha.lt
  have hne : some R ≠ va.ownBlock := fun e => by have := own_ge h.att R e.symm; omega
  have hb : w3.heap[R]? = (w.alloc o).heap[R]? := hg.block R hlt hne
  refine ⟨?_, ?_, (cell_of_row w3 R 7 _ _ _ (hb.trans ha.box)).trans rfl, frozen_of_row w3 R 7 _ _ (hb.trans ha.box)⟩
  · constructor
    · have e := heap_setCell_same w3 R 7 _ _ v' (hb.trans ha.box)
      exact e
    · exact own_set (own_grown ha.out hg h.s2)
    · exact h.outs
    · exact own_set (own_grown ha.txt hg h.s3)
    · show World.ownsRow _ _ _ _ _ _ _
      rw [List.length_append, List.length_singleton, List.flatMap_append]
      refine own_set ?_
      simpa using hown
    · intro q hq
      exact own_set (own_grown (ha.ats q hq) hg (h.s4 q hq).2.2)
    · exact h.s1
    · exact h.s2.moved (own_lt ha.out) hat
    · exact h.s3.moved (own_lt ha.txt) hat
    · intro q hq
      exact ⟨(h.s4 q hq).1, (h.s4 q hq).2.1, (h.s4 q hq).2.2.moved (own_lt (ha.ats q hq)) hat⟩
  · have hR : R ≤ w.heap.size := Nat.le_of_lt h.lt
    refine below_set _ (Below.grown (hal.mono hR) hg (Nat.le_of_lt hlt) ?_)
    intro k hk
    have := own_ge h.att k hk
    omega
theorem box_set {w : World} {R : Nat} {c : Array Value} {T : TypeId} (i : Nat) (x : Value) (h : w.heap[R]? = some (.cells c T (0, 0))) : (w.setCell ⟨R, i, none⟩ x).heap[R]? = some (.cells (c.setIfInBounds i x) T (0, 0)) := heap_setCell_same w R i _ _ x h
/-- The world behind a tag that was told: its list, and the tag on its way anew. -/
abbrev clearTag (R : Nat) (w : World) : World :=
  ((((w.setCell ⟨R, 4, none⟩ (.int .i64 0)).setCell ⟨R, 5, none⟩ (.string ⟨#[]⟩)).setCell ⟨R, 6, none⟩ (.string ⟨#[]⟩)).setCell ⟨R, 7, none⟩ (.slice none 0 0)).setCell ⟨R, 8, none⟩ (.bool false)
theorem RdW.tell {R N : Nat} {l : List UInt8} {r : Rd} {vo vt va v' : Value} {ps : List (Tk × Value)} {w w3 : World} (h : RdW R l r vo vt va ps w) (p : Tk × Value) (hp : AtR (R + 1) w p.2 p.1.a) (hs : Sep p.2 vo ∧ Sep p.2 vt)
    (o : Obj) (hown : w3.ownsRow (R + 1) 29 5 v' (ps.length + 1) (ps.flatMap tkCs ++ tkCs p)) (hg : (w.alloc o).grownBy w3 vo.ownBlock) (hat0 : v'.ownBlock = vo.ownBlock ∨ v'.ownBlock = some (w.heap.size + 1))
    (hN : N < w.heap.size) (hNR : N ≠ R) (hNo : vo.ownBlock ≠ some N) :
    RdW R l { r with out := r.out ++ [p.1], tg := noTk } v' vt (.slice none 0 0) (ps ++ [p]) (clearTag R (w3.setCell ⟨R, 1, none⟩ v')) ∧ Below R w (clearTag R (w3.setCell ⟨R, 1, none⟩ v')) ∧ (w3.heap[R]? = some (.cells (boxC l vo vt va r) 44 (0, 0))) ∧ w3.heap[N]? = w.heap[N]? ∧ (clearTag R (w3.setCell ⟨R, 1, none⟩ v')).heap[N]? = w.heap[N]? := by
  have hat : v'.ownBlock = vo.ownBlock ∨ v'.ownBlock = some (w.alloc o).heap.size := by simpa using hat0
  have hal : Below w.heap.size w (w.alloc o) := (Below.refl _ w).alloc (Nat.le_refl _) _
  have ha := h.keep hal
  have hlt := ha.lt
  have hne : some R ≠ vo.ownBlock := fun e => by have := own_ge h.out R e.symm; omega
  have hb : w3.heap[R]? = (w.alloc o).heap[R]? := hg.block R hlt hne
  have hNN : w3.heap[N]? = w.heap[N]? := (hg.block N (by simp; omega) (fun e => hNo e.symm)).trans (hal.block N hN)
  have hoth : ∀ (x : World) (i : Nat) (y : Value), (x.setCell ⟨R, i, none⟩ y).heap[N]? = x.heap[N]? := fun x i y => heap_setCell_other _ _ _ _ (by simpa using hNR)
  refine ⟨?_, ?_, hb.trans ha.box, hNN, by unfold clearTag; rw [hoth, hoth, hoth, hoth, hoth, hoth]; exact hNN⟩
  · constructor
    · have e := box_set 8 (.bool false) (box_set 7 (.slice none 0 0) (box_set 6 (.string ⟨#[]⟩) (box_set 5 (.string ⟨#[]⟩) (box_set 4 (.int .i64 0) (box_set 1 v' (hb.trans ha.box))))))
      exact e
    · show World.ownsRow _ _ _ _ _ _ _
      rw [List.length_append, List.length_singleton, List.flatMap_append]
      refine own_set (own_set (own_set (own_set (own_set (own_set ?_)))))
      simpa using hown
    · rw [List.map_append, ← h.outs]; rfl
    · exact own_set (own_set (own_set (own_set (own_set (own_set (own_grown ha.txt hg h.s1.symm))))))
    · exact World.ownsRow_nil _ _ _ _
    · intro q hq
      refine own_set (own_set (own_set (own_set (own_set (own_set ?_)))))
      rcases List.mem_append.1 hq with hq | hq
      · exact own_grown (ha.ats q hq) hg (h.s4 q hq).1
      · rw [List.mem_singleton] at hq
        subst hq
        exact own_grown (own_same hp fun k _ hk => hal.block k (own_lt hp k hk)) hg hs.1
    · exact (h.s1.symm.moved (own_lt ha.txt) hat).symm
    · exact sep_nil _
    · exact sep_nil _
    · intro q hq
      rcases List.mem_append.1 hq with hq | hq
      · exact ⟨(h.s4 q hq).1.moved (own_lt (ha.ats q hq)) hat, (h.s4 q hq).2.1, sep_nil _⟩
      · rw [List.mem_singleton] at hq
        subst hq
        exact ⟨hs.1.moved (own_lt (own_same hp fun k _ hk => hal.block k (own_lt hp k hk))) hat, hs.2, sep_nil _⟩
  · have hR : R ≤ w.heap.size := Nat.le_of_lt h.lt
    refine below_set _ (below_set _ (below_set _ (below_set _ (below_set _ (below_set _ (Below.grown (hal.mono hR) hg (Nat.le_of_lt hlt) ?_))))))
    intro k hk
    have := own_ge h.out k hk
    omega
/-- An octet is put to the text. -/
theorem RdW.pushT {R : Nat} {l : List UInt8} {r : Rd} {vo vt va v' : Value} {ps : List (Tk × Value)} {w w3 : World} (h : RdW R l r vo vt va ps w) (c : UInt8)
    (o : Obj) (hown : w3.ownsRow (R + 1) 5 1 v' (r.tx.length + 1) (r.tx.map bv ++ [bv c])) (hg : (w.alloc o).grownBy w3 vt.ownBlock) (hat0 : v'.ownBlock = vt.ownBlock ∨ v'.ownBlock = some (w.heap.size + 1)) :
    RdW R l (addT c r) vo v' va ps (w3.setCell ⟨R, 3, none⟩ v') ∧ Below R w (w3.setCell ⟨R, 3, none⟩ v') ∧ w3.cell? ⟨R, 3, none⟩ = some vt ∧ w3.frozen? ⟨R, 3, none⟩ = false := by
  have hat : v'.ownBlock = vt.ownBlock ∨ v'.ownBlock = some (w.alloc o).heap.size := by simpa using hat0
  have hal : Below w.heap.size w (w.alloc o) := (Below.refl _ w).alloc (Nat.le_refl _) _
  have ha := h.keep hal
  have hlt := ha.lt
  have hne : some R ≠ vt.ownBlock := fun e => by have := own_ge h.txt R e.symm; omega
  have hb : w3.heap[R]? = (w.alloc o).heap[R]? := hg.block R hlt hne
  refine ⟨?_, ?_, (cell_of_row w3 R 3 _ _ _ (hb.trans ha.box)).trans rfl, frozen_of_row w3 R 3 _ _ (hb.trans ha.box)⟩
  · constructor
    · have e := heap_setCell_same w3 R 3 _ _ v' (hb.trans ha.box)
      exact e
    · exact own_set (own_grown ha.out hg h.s1)
    · exact h.outs
    · show World.ownsRow _ _ _ _ _ (r.tx ++ [c]).length ((r.tx ++ [c]).map bv)
      rw [List.length_append, List.length_singleton, List.map_append]
      exact own_set hown
    · exact own_set (own_grown ha.att hg h.s3.symm)
    · intro q hq
      exact own_set (own_grown (ha.ats q hq) hg (h.s4 q hq).2.1)
    · exact h.s1.moved (own_lt ha.out) hat
    · exact h.s2
    · exact (h.s3.symm.moved (own_lt ha.att) hat).symm
    · intro q hq
      exact ⟨(h.s4 q hq).1, (h.s4 q hq).2.1.moved (own_lt (ha.ats q hq)) hat, (h.s4 q hq).2.2⟩
  · have hR : R ≤ w.heap.size := Nat.le_of_lt h.lt
    refine below_set _ (Below.grown (hal.mono hR) hg (Nat.le_of_lt hlt) ?_)
    intro k hk
    have := own_ge h.txt k hk
    omega
theorem grown_drew {w w' : World} {b : Option Nat} (h : w.drew.grownBy w' b) : w.grownBy w' b := ⟨h.os, h.tape, h.output, h.size, h.block⟩
theorem push_att {a : At} : ∀ u ∈ atCs a, u.oneCell' = true := by
  intro u hu
  simp only [List.mem_cons, List.not_mem_nil, or_false] at hu
  rcases hu with rfl | rfl <;> rfl
/-- The text is cleared. -/
theorem RdW.clear {R : Nat} {l : List UInt8} {r : Rd} {vo vt va : Value} {ps : List (Tk × Value)} {w : World} (h : RdW R l r vo vt va ps w) : RdW R l { r with tx := [] } vo (.slice none 0 0) va ps (w.setCell ⟨R, 3, none⟩ (.slice none 0 0)) where
  box := heap_setCell_same w R 3 _ _ _ h.box
  out := own_set h.out
  outs := h.outs
  txt := World.ownsRow_nil _ _ _ _
  att := own_set h.att
  ats := fun p hp => own_set (h.ats p hp)
  s1 := sep_nil _
  s2 := h.s2
  s3 := nil_sep _
  s4 := fun p hp => ⟨(h.s4 p hp).1, sep_nil _, (h.s4 p hp).2.2⟩
end Go.Proofs.YtidfcajhmldieaaGreat.Tok

/-
  Contracts of the page's Elements, Element, Attribute and Void.
-/
namespace Go.Proofs.YtidfcajhmldieaaGreat.Tab
open Go.RowKit Go.Proofs.YtidfcajhmldieaaGreat.Oct

theorem eqT (a b : List UInt8) : ((S a).toList == (S b).toList) = decide (a = b) := by
  rw [ByteArray.toList_eq, ByteArray.toList_eq, list_S, list_S, Bool.eq_iff_iff]
  simp
theorem eqTL (a b : List UInt8) : ((S a).toList == b) = decide (a = b) := by
  rw [ByteArray.toList_eq, list_S, Bool.eq_iff_iff]
  simp
/-- A list of texts that lies in a block. -/
def Texts (g : Nat) (ls : List (List UInt8)) (w : World) : Prop := ∀ j, (h : j < ls.length) → w.cell? ⟨g, j, none⟩ = some (.string (S ls[j]))

theorem laid_texts (ls : List (List UInt8)) (w : World) : Texts w.heap.size ls (w.alloc (.cells (ls.map (fun l => Value.string (S l))).toArray 9)) := by
  intro j h
  have hh : (w.alloc (.cells (ls.map (fun l => Value.string (S l))).toArray 9)).heap[w.heap.size]? = some (.cells (ls.map (fun l => Value.string (S l))).toArray 9 (0, 0)) := heap_alloc_new w _
  unfold World.cell?
  rw [hh]
  simp [h]

theorem rElements_c (w : World) :
    Calls Tryz.prog 55 #[] w fun e w' => e = .returned (.slice (some ⟨w.heap.size, 0, none⟩) 10 10) ∧ Texts w.heap.size elsL w' ∧ Below w.heap.size w w' := by
  go_enter Tryz.func55, Tryz.ntmps55
  go_wp2_with fail
  go_ret
  exact ⟨rfl, laid_texts elsL w, (Below.refl _ w).alloc (Nat.le_refl _) _⟩

set_option maxHeartbeats 1000000 in
theorem rElement_c (s : List UInt8) (w : World) :
    Calls Tryz.prog 42 #[.string (S s)] w fun e w' => e = .returned (.int .i64 (elemN s : Nat)) ∧ Below w.heap.size w w' := by
  have hel := rElements_c w
  have HE := Lib.hid (fun a => eqT a s)
  have HP : Hid (∀ k, (hk : k < elsL.length) → (∀ j, (h : j < elsL.length) → j < k → elsL[j] ≠ s) → elsL[k] = s → elemN s = codeN k) := fun k hk hn he => by
    unfold elemN
    rw [place_some hk hn he]
  have HQ : Hid ((∀ k, (h : k < elsL.length) → elsL[k] ≠ s) → elemN s = 0) := fun h => by
    unfold elemN
    rw [place_none h]
  generalize elemN s = ans at HP HQ ⊢
  generalize S s = T at HE
  go_enter Tryz.func42, Tryz.ntmps42
  go_wp2_with fail
  refine hel.mono ?_
  rintro e w1 ⟨rfl, ht, hb1⟩
  have H := Lib.hid ht
  have HB := Lib.hid hb1
  clear ht hb1 hel
  go_wp2_with fail
  go_loop [4] (fun i => ∃ k : Nat, k ≤ 10 ∧ i = .int .i64 k ∧ Hid (∀ j, (h : j < elsL.length) → j < k → elsL[j] ≠ s)) (fun i => 10 - (intOf i).toNat)
  case atStart => exact ⟨0, Nat.zero_le _, rfl, fun j _ h => absurd h (by omega)⟩
  case round =>
    obtain ⟨k, hk, rfl, hno⟩ := hrel
    by_cases hlt : k < 10
    · have hlt2 : k < elsL.length := hlt
      have hc := H.out k hlt2
      have he := HE.out elsL[k]
      have hp := HP.out k hlt2 hno.out
      have i0 : (0 : Int) ≤ (k : Int) := by omega
      have i1 : (k : Int) < 10 := by omega
      obtain ⟨x, hx⟩ : ∃ x, x = elsL[k] := ⟨_, rfl⟩
      rw [← hx] at hc he hp
      have HX := Lib.hid hx
      clear hx
      by_cases hq : x = s
      · have HR := Lib.hid (hp hq)
        rw [decide_eq_true hq] at he
        clear hq hp
        generalize S x = X at hc he
        go_wp2_with fail
        all_goals go_ret
        all_goals refine ⟨ret_int ?_, HB.out⟩
        all_goals (rw [HR.out]; unfold codeN; repeat' split)
        all_goals omega
      · have HN : Hid (∀ j, (h : j < elsL.length) → j < k + 1 → elsL[j] ≠ s) := fun j h hj => by
          rcases Nat.lt_or_ge j k with h2 | h2
          · exact hno.out j h h2
          · obtain rfl : j = k := by omega
            rw [← HX.out]; exact hq
        rw [decide_eq_false hq] at he
        clear hq hp
        generalize S x = X at hc he
        go_wp2_with fail
        go_round
        case rel => exact ⟨k + 1, by omega, by go_num, HN⟩
        case measure => simp [intOf]; omega
    · have HR := Lib.hid (HQ.out fun j h => hno.out j h (by have : j < 10 := h; omega))
      go_wp2_with fail
      go_ret
      exact ⟨ret_int (by rw [HR.out]; rfl), HB.out⟩

/-- Contract of the page's Begins. -/
theorem rpre_c (p l : List UInt8) (w : World) :
    Calls Tryz.prog 27 #[.string (S p), .string (S l)] w fun e w' => e = .returned (.bool (preL p l)) ∧ w = w' := by
  have z1 : ((S p).size : Int) = (p.length : Int) := by rw [size_S]
  have z2 : ((S l).size : Int) = (l.length : Int) := by rw [size_S]
  by_cases h : p.length ≤ l.length
  · have hcut : (S l).extract 0 p.length = S (l.take p.length) := by rw [Lib.extract_eq]; simp [S]
    have HE : Hid (preL p l = ((S (l.take p.length)).toList == (S p).toList)) := by
      show _ = _
      rw [eqT]
      unfold preL
      rw [Bool.eq_iff_iff, decide_eq_true_eq, decide_eq_true_eq, List.prefix_iff_eq_take]
      exact eq_comm
    generalize S (l.take p.length) = T at hcut HE
    generalize S p = P at z1 HE
    generalize S l = L at z2 hcut
    have h1 : (p.length : Int) ≤ (l.length : Int) := by omega
    have h2 : (0 : Int) ≤ (p.length : Int) := by omega
    go_enter Tryz.func27, Tryz.ntmps27
    go_wp2
    go_ret
    exact ⟨by rw [HE.out]; rfl, rfl⟩
  · have HE : Hid (preL p l = false) := decide_eq_false fun hp => h hp.length_le
    generalize S p = P at z1
    generalize S l = L at z2
    have h1 : decide ((p.length : Int) ≤ (l.length : Int)) = false := decide_eq_false (by omega)
    have h2 : decide (p.length ≤ l.length) = false := decide_eq_false h
    go_enter Tryz.func27, Tryz.ntmps27
    go_wp2
    go_ret
    exact ⟨by rw [HE.out]; rfl, rfl⟩

end Go.Proofs.YtidfcajhmldieaaGreat.Tab
