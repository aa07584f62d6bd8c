/-
  Part 29: TokMem, TokSame.
-/
import Derived.Test.YtklpbkjplecdpaaGreatSxBaseP2
import Derived.Test.YtklpbkjplecdpaaGreatSxBaseP28
import Derived.Maps.AppendAt
import Derived.Deep.AppendLies
import Derived.Deep.RegionLaw
import Derived.Deep.RegionWith
import Derived.Deep.RegionHeld3
/-
  The page's reader of HTML in memory: its box, its lists, what keeps them apart; a list of tokens in memory.
-/
namespace Go.Proofs.YtklpbkjplecdpaaGreat.Tok
open Go.RowKit Oct Utf Crf Tab Mem

theorem at_T (l : List UInt8) (k : Nat) (h : k < l.length) : (S l)[k]'(by rw [size_S]; exact h) = l[k] := by
  rw [ByteArray.getElem_eq_getElem_data]; simp
abbrev atCs (a : At) : List Value := [.string (S a.n), .string (S a.v)]
def AtR (base : Nat) (w : World) (v : Value) (al : List At) : Prop := w.ownsRow base 54 2 v al.length (al.flatMap atCs)
abbrev tkCs (p : Tk × Value) : List Value := [.int .i64 p.1.k, .string (S p.1.n), .string (S p.1.x), p.2, .bool p.1.c]
def TkR (base : Nat) (w : World) (v : Value) (ps : List (Tk × Value)) : Prop := w.ownsRow base 52 5 v ps.length (ps.flatMap tkCs)
def Sep (a b : Value) : Prop := ∀ k, a.ownBlock = some k → b.ownBlock ≠ some k
theorem sep_nil (a : Value) : Sep a (.slice none 0 0) := fun _ _ h => by cases h
theorem nil_sep (a : Value) : Sep (.slice none 0 0) a := fun _ h => by cases h
theorem Sep.symm {a b : Value} (h : Sep a b) : Sep b a := fun k h1 h2 => h k h2 h1
theorem Sep.moved {w : World} {a b b' : Value} (h : Sep a b) (hlt : ∀ k, a.ownBlock = some k → k < w.heap.size) (hm : b'.ownBlock = b.ownBlock ∨ b'.ownBlock = some w.heap.size) : Sep a b' := fun k hk hb => by
  rcases hm with hm | hm
  · exact h k hk (by rw [← hm]; exact hb)
  · rw [hm] at hb
    have := hlt k hk
    injection hb with hb
    omega
theorem own_lt {w : World} {base n size : Nat} {e : TypeId} {v : Value} {xs : List Value} (h : w.ownsRow base e size v n xs) : ∀ k, v.ownBlock = some k → k < w.heap.size := fun k hk => (h.lt k hk).2
theorem own_ge {w : World} {base n size : Nat} {e : TypeId} {v : Value} {xs : List Value} (h : w.ownsRow base e size v n xs) : ∀ k, v.ownBlock = some k → base ≤ k := fun k hk => (h.lt k hk).1
theorem own_same {w w' : World} {base n size : Nat} {e : TypeId} {v : Value} {xs : List Value} (h : w.ownsRow base e size v n xs) (hs : ∀ k, base ≤ k → v.ownBlock = some k → w'.heap[k]? = w.heap[k]?) : w'.ownsRow base e size v n xs := by
  refine ⟨h.1, ?_⟩
  rcases h.2 with hn | ⟨g, cap, cur, rfl, hb, hg, rest⟩
  · exact .inl hn
  · exact .inr ⟨g, cap, cur, rfl, hb, by rw [hs g hb rfl]; exact hg, rest⟩
theorem own_grown {w w' : World} {base n size : Nat} {e : TypeId} {v b : Value} {xs : List Value} (h : w.ownsRow base e size v n xs) (hg : w.grownBy w' b.ownBlock) (hs : Sep v b) : w'.ownsRow base e size v n xs :=
  own_same h fun k _ hk => hg.block k (own_lt h k hk) (fun e => hs k hk e.symm)
theorem own_set {w : World} {R i : Nat} {x : Value} {n size : Nat} {e : TypeId} {v : Value} {xs : List Value} (h : w.ownsRow (R + 1) e size v n xs) : (w.setCell ⟨R, i, none⟩ x).ownsRow (R + 1) e size v n xs :=
  own_same h fun k hk _ => heap_setCell_other _ _ _ _ (by simp; omega)

abbrev boxC (l : List UInt8) (vo vt va : Value) (r : Rd) : Array Value :=
  #[.string (S l), vo, .int .i64 (r.st : Int), vt, .int .i64 r.tg.k, .string (S r.tg.n), .string (S r.tg.x), va, .bool r.tg.c, .string (S r.av.n), .string (S r.av.v), .int .u8 (r.q.toNat : Int), .string (S r.rw), .int .i64 (r.kd : Int)]
structure RdW (R : Nat) (l : List UInt8) (r : Rd) (vo vt va : Value) (ps : List (Tk × Value)) (w : World) : Prop where
  box : w.heap[R]? = some (.cells (boxC l vo vt va r) 56 (0, 0))
  out : TkR (R + 1) w vo ps
  outs : r.out = ps.map Prod.fst
  txt : w.ownsRow (R + 1) 5 1 vt r.tx.length (r.tx.map Mem.bv)
  att : AtR (R + 1) w va r.tg.a
  ats : ∀ p ∈ ps, AtR (R + 1) w p.2 p.1.a
  s1 : Sep vo vt
  s2 : Sep vo va
  s3 : Sep vt va
  s4 : ∀ p ∈ ps, Sep p.2 vo ∧ Sep p.2 vt ∧ Sep p.2 va
def RdM (R : Nat) (l : List UInt8) (r : Rd) (w : World) : Prop := ∃ vo vt va ps, RdW R l r vo vt va ps w

section
variable {R : Nat} {l : List UInt8} {r : Rd} {vo vt va : Value} {ps : List (Tk × Value)} {w : World}
theorem RdW.lt (h : RdW R l r vo vt va ps w) : R < w.heap.size := (Array.getElem?_eq_some_iff.1 h.box).1
theorem RdW.cell (h : RdW R l r vo vt va ps w) (i : Nat) : w.cell? ⟨R, i, none⟩ = (boxC l vo vt va r)[i]? := cell_of_row w R i _ _ _ h.box
theorem RdW.froz (h : RdW R l r vo vt va ps w) (i : Nat) : w.frozen? ⟨R, i, none⟩ = false := frozen_of_row w R i _ _ h.box
theorem RdW.keep {w' : World} (h : RdW R l r vo vt va ps w) (hb : Below w.heap.size w w') : RdW R l r vo vt va ps w' :=
  { h with
    box := by rw [hb.block R h.lt]; exact h.box
    out := own_same h.out fun k _ hk => hb.block k (own_lt h.out k hk)
    txt := own_same h.txt fun k _ hk => hb.block k (own_lt h.txt k hk)
    att := own_same h.att fun k _ hk => hb.block k (own_lt h.att k hk)
    ats := fun p hp => own_same (h.ats p hp) fun k _ hk => hb.block k (own_lt (h.ats p hp) k hk) }
end
theorem RdW.seti {R : Nat} {l : List UInt8} {r r' : Rd} {vo vt va : Value} {ps : List (Tk × Value)} {w : World} (h : RdW R l r vo vt va ps w) (i : Nat) (x : Value)
    (hb : (boxC l vo vt va r).setIfInBounds i x = boxC l vo vt va r') (h1 : r'.out = r.out) (h2 : r'.tx = r.tx) (h3 : r'.tg.a = r.tg.a) : RdW R l r' vo vt va ps (w.setCell ⟨R, i, none⟩ x) where
  box := by
    have e := heap_setCell_same w R i _ _ x h.box
    rw [e]
    exact congrArg some (congrArg (fun c => Obj.cells c _ (0, 0)) hb)
  out := own_set h.out
  outs := h1.trans h.outs
  txt := by rw [h2]; exact own_set h.txt
  att := by rw [h3]; exact own_set h.att
  ats := fun p hp => own_set (h.ats p hp)
  s1 := h.s1
  s2 := h.s2
  s3 := h.s3
  s4 := h.s4
theorem below_set {R i : Nat} {a w : World} (v : Value) (h : Below R a w) : Below R a (w.setCell ⟨R, i, none⟩ v) :=
  ⟨h.os, h.tape, h.output, by simp [World.setCell]; exact h.size, fun k hk => (heap_setCell_other _ _ _ _ (by simp; omega)).trans (h.block k hk)⟩
theorem push_cells {w : World} {T : TypeId} {cs : List Value} (j : Nat) (u : Value) (h : cs[j]? = some u) : (w.alloc (.cells cs.toArray T)).cell? ((⟨w.heap.size, 0, none⟩ : Addr).add j) = some u := by
  have e : (⟨w.heap.size, 0, none⟩ : Addr).add j = ⟨w.heap.size, j, none⟩ := by simp [Addr.add]; omega
  rw [e]
  exact (cell_of_row _ _ j _ _ _ (heap_alloc_new w _)).trans (by simpa using h)
theorem own_one {w : World} {base n size : Nat} {e : TypeId} {v : Value} {xs : List Value} (h : w.ownsRow base e size v n xs) : v.oneCell' = true := by
  rcases h.2 with ⟨rfl, _⟩ | ⟨g, cap, cur, rfl, _⟩ <;> rfl
theorem own_slice {w : World} {base n size : Nat} {e : TypeId} {v : Value} {xs : List Value} (h : w.ownsRow base e size v n xs) : ∃ p j c, v = .slice p j c := by
  rcases h.2 with ⟨rfl, _⟩ | ⟨g, cap, cur, rfl, _⟩
  · exact ⟨_, _, _, rfl⟩
  · exact ⟨_, _, _, rfl⟩
theorem push_tok {p : Tk × Value} (h : p.2.oneCell' = true) : ∀ u ∈ tkCs p, u.oneCell' = true := by
  intro u hu
  simp only [List.mem_cons, List.not_mem_nil, or_false] at hu
  rcases hu with rfl | rfl | rfl | rfl | rfl
  · rfl
  · rfl
  · rfl
  · exact h
  · rfl
theorem info_tok : (Tryz.prog.info? 52).map (fun i => (i.zero, i.size, i.bytes)) = some (some (.agg #[.int .i64 0, .string ⟨#[]⟩, .string ⟨#[]⟩, .slice none 0 0, .bool false]), 5, 72) := by kernel_rfl
theorem info_att : (Tryz.prog.info? 54).map (fun i => (i.zero, i.size, i.bytes)) = some (some (.agg #[.string ⟨#[]⟩, .string ⟨#[]⟩]), 2, 32) := by kernel_rfl
theorem RdW.push {R : Nat} {l : List UInt8} {r : Rd} {vo vt va v' : Value} {ps : List (Tk × Value)} {w w3 : World} (h : RdW R l r vo vt va ps w) (p : Tk × Value) (hp : AtR (R + 1) w p.2 p.1.a) (hs : Sep p.2 vo ∧ Sep p.2 vt ∧ Sep p.2 va)
    (o : Obj) (hown : w3.ownsRow (R + 1) 52 5 v' (ps.length + 1) (ps.flatMap tkCs ++ tkCs p)) (hg : (w.alloc o).grownBy w3 vo.ownBlock) (hat0 : v'.ownBlock = vo.ownBlock ∨ v'.ownBlock = some (w.heap.size + 1)) :
    RdW R l { r with out := r.out ++ [p.1] } v' vt va (ps ++ [p]) (w3.setCell ⟨R, 1, none⟩ v') ∧ Below R w (w3.setCell ⟨R, 1, none⟩ v') ∧ w3.cell? ⟨R, 1, none⟩ = some vo ∧ w3.frozen? ⟨R, 1, none⟩ = false := by
  have hat : v'.ownBlock = vo.ownBlock ∨ v'.ownBlock = some (w.alloc o).heap.size := by simpa using hat0
  have hal : Below w.heap.size w (w.alloc o) := (Below.refl _ w).alloc (Nat.le_refl _) _
  have ha := h.keep hal
  have hlt := ha.lt
  have hne : some R ≠ vo.ownBlock := fun e => by have := own_ge h.out R e.symm; omega
  have hb : w3.heap[R]? = (w.alloc o).heap[R]? := hg.block R hlt hne
  refine ⟨?_, ?_, (cell_of_row w3 R 1 _ _ _ (hb.trans ha.box)).trans rfl, frozen_of_row w3 R 1 _ _ (hb.trans ha.box)⟩
  · constructor
    · have e := heap_setCell_same w3 R 1 _ _ v' (hb.trans ha.box)
      exact e
    · show World.ownsRow _ _ _ _ _ _ _
      rw [List.length_append, List.length_singleton, List.flatMap_append]
      refine own_set ?_
      simpa using hown
    · rw [List.map_append, ← h.outs]; rfl
    · exact own_set (own_grown ha.txt hg h.s1.symm)
    · exact own_set (own_grown ha.att hg h.s2.symm)
    · intro q hq
      rcases List.mem_append.1 hq with hq | hq
      · exact own_set (own_grown (ha.ats q hq) hg (h.s4 q hq).1)
      · rw [List.mem_singleton] at hq
        subst hq
        exact own_set (own_grown (own_same hp fun k _ hk => hal.block k (own_lt hp k hk)) hg hs.1)
    · exact (h.s1.symm.moved (own_lt ha.txt) hat).symm
    · exact (h.s2.symm.moved (own_lt ha.att) hat).symm
    · exact h.s3
    · intro q hq
      rcases List.mem_append.1 hq with hq | hq
      · exact ⟨(h.s4 q hq).1.moved (own_lt (ha.ats q hq)) hat, (h.s4 q hq).2⟩
      · rw [List.mem_singleton] at hq
        subst hq
        exact ⟨hs.1.moved (own_lt (own_same hp fun k _ hk => hal.block k (own_lt hp k hk))) hat, hs.2⟩
  · have hR : R ≤ w.heap.size := Nat.le_of_lt h.lt
    refine below_set _ (Below.grown (hal.mono hR) hg (Nat.le_of_lt hlt) ?_)
    intro k hk
    have := own_ge h.out k hk
    omega
theorem RdW.pushA {R : Nat} {l : List UInt8} {r : Rd} {vo vt va v' : Value} {ps : List (Tk × Value)} {w w3 : World} (h : RdW R l r vo vt va ps w) (a : At)
    (o : Obj) (hown : w3.ownsRow (R + 1) 54 2 v' (r.tg.a.length + 1) (r.tg.a.flatMap atCs ++ atCs a)) (hg : (w.alloc o).grownBy w3 va.ownBlock) (hat0 : v'.ownBlock = va.ownBlock ∨ v'.ownBlock = some (w.heap.size + 1)) :
    RdW R l { r with tg := { r.tg with a := r.tg.a ++ [a] } } vo vt v' ps (w3.setCell ⟨R, 7, none⟩ v') ∧ Below R w (w3.setCell ⟨R, 7, none⟩ v') ∧ w3.cell? ⟨R, 7, none⟩ = some va ∧ w3.frozen? ⟨R, 7, none⟩ = false := by
  have hat : v'.ownBlock = va.ownBlock ∨ v'.ownBlock = some (w.alloc o).heap.size := by simpa using hat0
  have hal : Below w.heap.size w (w.alloc o) := (Below.refl _ w).alloc (Nat.le_refl _) _
  have ha := h.keep hal
  have hlt := ha.lt
  have hne : some R ≠ va.ownBlock := fun e => by have := own_ge h.att R e.symm; omega
  have hb : w3.heap[R]? = (w.alloc o).heap[R]? := hg.block R hlt hne
  refine ⟨?_, ?_, (cell_of_row w3 R 7 _ _ _ (hb.trans ha.box)).trans rfl, frozen_of_row w3 R 7 _ _ (hb.trans ha.box)⟩
  · constructor
    · have e := heap_setCell_same w3 R 7 _ _ v' (hb.trans ha.box)
      exact e
    · exact own_set (own_grown ha.out hg h.s2)
    · exact h.outs
    · exact own_set (own_grown ha.txt hg h.s3)
    · show World.ownsRow _ _ _ _ _ _ _
      rw [List.length_append, List.length_singleton, List.flatMap_append]
      refine own_set ?_
      simpa using hown
    · intro q hq
      exact own_set (own_grown (ha.ats q hq) hg (h.s4 q hq).2.2)
    · exact h.s1
    · exact h.s2.moved (own_lt ha.out) hat
    · exact h.s3.moved (own_lt ha.txt) hat
    · intro q hq
      exact ⟨(h.s4 q hq).1, (h.s4 q hq).2.1, (h.s4 q hq).2.2.moved (own_lt (ha.ats q hq)) hat⟩
  · have hR : R ≤ w.heap.size := Nat.le_of_lt h.lt
    refine below_set _ (Below.grown (hal.mono hR) hg (Nat.le_of_lt hlt) ?_)
    intro k hk
    have := own_ge h.att k hk
    omega
theorem box_set {w : World} {R : Nat} {c : Array Value} {T : TypeId} (i : Nat) (x : Value) (h : w.heap[R]? = some (.cells c T (0, 0))) : (w.setCell ⟨R, i, none⟩ x).heap[R]? = some (.cells (c.setIfInBounds i x) T (0, 0)) := heap_setCell_same w R i _ _ x h
abbrev clearTag (R : Nat) (w : World) : World :=
  ((((w.setCell ⟨R, 4, none⟩ (.int .i64 0)).setCell ⟨R, 5, none⟩ (.string ⟨#[]⟩)).setCell ⟨R, 6, none⟩ (.string ⟨#[]⟩)).setCell ⟨R, 7, none⟩ (.slice none 0 0)).setCell ⟨R, 8, none⟩ (.bool false)
theorem RdW.tell {R N : Nat} {l : List UInt8} {r : Rd} {vo vt va v' : Value} {ps : List (Tk × Value)} {w w3 : World} (h : RdW R l r vo vt va ps w) (p : Tk × Value) (hp : AtR (R + 1) w p.2 p.1.a) (hs : Sep p.2 vo ∧ Sep p.2 vt)
    (o : Obj) (hown : w3.ownsRow (R + 1) 52 5 v' (ps.length + 1) (ps.flatMap tkCs ++ tkCs p)) (hg : (w.alloc o).grownBy w3 vo.ownBlock) (hat0 : v'.ownBlock = vo.ownBlock ∨ v'.ownBlock = some (w.heap.size + 1))
    (hN : N < w.heap.size) (hNR : N ≠ R) (hNo : vo.ownBlock ≠ some N) :
    RdW R l { r with out := r.out ++ [p.1], tg := noTk } v' vt (.slice none 0 0) (ps ++ [p]) (clearTag R (w3.setCell ⟨R, 1, none⟩ v')) ∧ Below R w (clearTag R (w3.setCell ⟨R, 1, none⟩ v')) ∧ (w3.heap[R]? = some (.cells (boxC l vo vt va r) 56 (0, 0))) ∧ w3.heap[N]? = w.heap[N]? ∧ (clearTag R (w3.setCell ⟨R, 1, none⟩ v')).heap[N]? = w.heap[N]? := by
  have hat : v'.ownBlock = vo.ownBlock ∨ v'.ownBlock = some (w.alloc o).heap.size := by simpa using hat0
  have hal : Below w.heap.size w (w.alloc o) := (Below.refl _ w).alloc (Nat.le_refl _) _
  have ha := h.keep hal
  have hlt := ha.lt
  have hne : some R ≠ vo.ownBlock := fun e => by have := own_ge h.out R e.symm; omega
  have hb : w3.heap[R]? = (w.alloc o).heap[R]? := hg.block R hlt hne
  have hNN : w3.heap[N]? = w.heap[N]? := (hg.block N (by simp; omega) (fun e => hNo e.symm)).trans (hal.block N hN)
  have hoth : ∀ (x : World) (i : Nat) (y : Value), (x.setCell ⟨R, i, none⟩ y).heap[N]? = x.heap[N]? := fun x i y => heap_setCell_other _ _ _ _ (by simpa using hNR)
  refine ⟨?_, ?_, hb.trans ha.box, hNN, by unfold clearTag; rw [hoth, hoth, hoth, hoth, hoth, hoth]; exact hNN⟩
  · constructor
    · have e := box_set 8 (.bool false) (box_set 7 (.slice none 0 0) (box_set 6 (.string ⟨#[]⟩) (box_set 5 (.string ⟨#[]⟩) (box_set 4 (.int .i64 0) (box_set 1 v' (hb.trans ha.box))))))
      exact e
    · show World.ownsRow _ _ _ _ _ _ _
      rw [List.length_append, List.length_singleton, List.flatMap_append]
      refine own_set (own_set (own_set (own_set (own_set (own_set ?_)))))
      simpa using hown
    · rw [List.map_append, ← h.outs]; rfl
    · exact own_set (own_set (own_set (own_set (own_set (own_set (own_grown ha.txt hg h.s1.symm))))))
    · exact World.ownsRow_nil _ _ _ _
    · intro q hq
      refine own_set (own_set (own_set (own_set (own_set (own_set ?_)))))
      rcases List.mem_append.1 hq with hq | hq
      · exact own_grown (ha.ats q hq) hg (h.s4 q hq).1
      · rw [List.mem_singleton] at hq
        subst hq
        exact own_grown (own_same hp fun k _ hk => hal.block k (own_lt hp k hk)) hg hs.1
    · exact (h.s1.symm.moved (own_lt ha.txt) hat).symm
    · exact sep_nil _
    · exact sep_nil _
    · intro q hq
      rcases List.mem_append.1 hq with hq | hq
      · exact ⟨(h.s4 q hq).1.moved (own_lt (ha.ats q hq)) hat, (h.s4 q hq).2.1, sep_nil _⟩
      · rw [List.mem_singleton] at hq
        subst hq
        exact ⟨hs.1.moved (own_lt (own_same hp fun k _ hk => hal.block k (own_lt hp k hk))) hat, hs.2, sep_nil _⟩
  · have hR : R ≤ w.heap.size := Nat.le_of_lt h.lt
    refine below_set _ (below_set _ (below_set _ (below_set _ (below_set _ (below_set _ (Below.grown (hal.mono hR) hg (Nat.le_of_lt hlt) ?_))))))
    intro k hk
    have := own_ge h.out k hk
    omega
theorem RdW.pushT {R : Nat} {l : List UInt8} {r : Rd} {vo vt va v' : Value} {ps : List (Tk × Value)} {w w3 : World} (h : RdW R l r vo vt va ps w) (c : UInt8)
    (o : Obj) (hown : w3.ownsRow (R + 1) 5 1 v' (r.tx.length + 1) (r.tx.map Mem.bv ++ [Mem.bv c])) (hg : (w.alloc o).grownBy w3 vt.ownBlock) (hat0 : v'.ownBlock = vt.ownBlock ∨ v'.ownBlock = some (w.heap.size + 1)) :
    RdW R l (addT c r) vo v' va ps (w3.setCell ⟨R, 3, none⟩ v') ∧ Below R w (w3.setCell ⟨R, 3, none⟩ v') ∧ w3.cell? ⟨R, 3, none⟩ = some vt ∧ w3.frozen? ⟨R, 3, none⟩ = false := by
  have hat : v'.ownBlock = vt.ownBlock ∨ v'.ownBlock = some (w.alloc o).heap.size := by simpa using hat0
  have hal : Below w.heap.size w (w.alloc o) := (Below.refl _ w).alloc (Nat.le_refl _) _
  have ha := h.keep hal
  have hlt := ha.lt
  have hne : some R ≠ vt.ownBlock := fun e => by have := own_ge h.txt R e.symm; omega
  have hb : w3.heap[R]? = (w.alloc o).heap[R]? := hg.block R hlt hne
  refine ⟨?_, ?_, (cell_of_row w3 R 3 _ _ _ (hb.trans ha.box)).trans rfl, frozen_of_row w3 R 3 _ _ (hb.trans ha.box)⟩
  · constructor
    · have e := heap_setCell_same w3 R 3 _ _ v' (hb.trans ha.box)
      exact e
    · exact own_set (own_grown ha.out hg h.s1)
    · exact h.outs
    · show World.ownsRow _ _ _ _ _ (r.tx ++ [c]).length ((r.tx ++ [c]).map Mem.bv)
      rw [List.length_append, List.length_singleton, List.map_append]
      exact own_set hown
    · exact own_set (own_grown ha.att hg h.s3.symm)
    · intro q hq
      exact own_set (own_grown (ha.ats q hq) hg (h.s4 q hq).2.1)
    · exact h.s1.moved (own_lt ha.out) hat
    · exact h.s2
    · exact (h.s3.symm.moved (own_lt ha.att) hat).symm
    · intro q hq
      exact ⟨(h.s4 q hq).1, (h.s4 q hq).2.1.moved (own_lt (ha.ats q hq)) hat, (h.s4 q hq).2.2⟩
  · have hR : R ≤ w.heap.size := Nat.le_of_lt h.lt
    refine below_set _ (Below.grown (hal.mono hR) hg (Nat.le_of_lt hlt) ?_)
    intro k hk
    have := own_ge h.txt k hk
    omega
theorem grown_drew {w w' : World} {b : Option Nat} (h : w.drew.grownBy w' b) : w.grownBy w' b := ⟨h.os, h.tape, h.output, h.size, h.block⟩
theorem push_att {a : At} : ∀ u ∈ atCs a, u.oneCell' = true := by
  intro u hu
  simp only [List.mem_cons, List.not_mem_nil, or_false] at hu
  rcases hu with rfl | rfl <;> rfl
theorem RdW.clear {R : Nat} {l : List UInt8} {r : Rd} {vo vt va : Value} {ps : List (Tk × Value)} {w : World} (h : RdW R l r vo vt va ps w) : RdW R l { r with tx := [] } vo (.slice none 0 0) va ps (w.setCell ⟨R, 3, none⟩ (.slice none 0 0)) where
  box := heap_setCell_same w R 3 _ _ _ h.box
  out := own_set h.out
  outs := h.outs
  txt := World.ownsRow_nil _ _ _ _
  att := own_set h.att
  ats := fun p hp => own_set (h.ats p hp)
  s1 := sep_nil _
  s2 := h.s2
  s3 := nil_sep _
  s4 := fun p hp => ⟨(h.s4 p hp).1, sep_nil _, (h.s4 p hp).2.2⟩
end Go.Proofs.YtklpbkjplecdpaaGreat.Tok

/-
  Contracts of the page's Same and SameAll: lists of tokens in memory, held against one another.
-/
namespace Go.Proofs.YtklpbkjplecdpaaGreat.Tok
open Go.RowKit Oct Utf Crf Tab Mem

def AtIn (w : World) (v : Value) (al : List At) : Prop := ∃ p cap, v = .slice p al.length cap ∧ (0 < al.length → ∃ b o, p = some ⟨b, o, none⟩ ∧
  ∀ i (h : i < al.length), w.cell? ⟨b, o + i * 2, none⟩ = some (.string (S al[i].n)) ∧ w.cell? ⟨b, o + i * 2 + 1, none⟩ = some (.string (S al[i].v)))
def TkIn (w : World) (v : Value) (ts : List Tk) : Prop := ∃ p cap, v = .slice p ts.length cap ∧ (0 < ts.length → ∃ b o, p = some ⟨b, o, none⟩ ∧
  ∀ i (h : i < ts.length), ∃ va, AtIn w va ts[i].a ∧ w.cell? ⟨b, o + i * 5, none⟩ = some (.int .i64 ts[i].k) ∧ w.cell? ⟨b, o + i * 5 + 1, none⟩ = some (.string (S ts[i].n)) ∧ w.cell? ⟨b, o + i * 5 + 2, none⟩ = some (.string (S ts[i].x)) ∧ w.cell? ⟨b, o + i * 5 + 3, none⟩ = some va ∧ w.cell? ⟨b, o + i * 5 + 4, none⟩ = some (.bool ts[i].c))
theorem eqT (a b : List UInt8) : ((S a).toList == (S b).toList) = decide (a = b) := by
  rw [ByteArray.toList_eq, ByteArray.toList_eq, list_S, list_S]
  by_cases h : a = b
  · rw [h]; simp
  · rw [decide_eq_false h, beq_eq_false_iff_ne]; exact h
theorem some_keep {w W : World} {a : Addr} {v : Value} (h : w.cell? a = some v) (hb : Below w.heap.size w W) : W.cell? a = some v := by
  rw [hb.cell (World.block_lt_of_cell? w a h)]
  exact h
theorem drewT {B : Nat} {a w : World} (h : Below B a w) (q : Nat) : Below B a (w.drewN q) := ⟨h.os, h.tape, h.output, h.size, h.block⟩
abbrev tkV (t : Tk) (va : Value) : Value := .agg #[.int .i64 t.k, .string (S t.n), .string (S t.x), va, .bool t.c]
abbrev twoW (w : World) (k k' : Int) (n n' x x' : List UInt8) (va vb : Value) (c c' : Bool) : World :=
  (w.alloc (.cells #[.int .i64 k, .string (S n), .string (S x), va, .bool c] 52)).alloc (.cells #[.int .i64 k', .string (S n'), .string (S x'), vb, .bool c'] 52)
theorem two_below (w : World) (k k' : Int) (n n' x x' : List UInt8) (va vb : Value) (c c' : Bool) : Below w.heap.size w (twoW w k k' n n' x x' va vb c c') :=
  ((Below.refl _ w).alloc (Nat.le_refl _) _).alloc (by simp) _
theorem two_cells {w W : World} {k k' : Int} {n n' x x' : List UInt8} {va vb : Value} {c c' : Bool} (hb : Below (twoW w k k' n n' x x' va vb c c').heap.size (twoW w k k' n n' x x' va vb c c') W) :
    W.cell? ⟨w.heap.size, 3, none⟩ = some va ∧ W.cell? ⟨w.heap.size + 1, 3, none⟩ = some vb := by
  constructor
  · refine some_keep ?_ hb
    simp
  · refine some_keep ?_ hb
    simp

set_option maxHeartbeats 4000000 in
set_option maxRecDepth 100000 in
theorem same_k (k k' : Int) (n n' x x' : List UInt8) (al bl : List At) (c c' : Bool) (va vb : Value) (w : World) (ha : AtIn w va al) (hb : AtIn w vb bl) (h : ¬ k = k') :
    Calls Tryz.prog 29 #[tkV ⟨k, n, x, al, c⟩ va, tkV ⟨k', n', x', bl, c'⟩ vb] w fun e w' => e = .returned (.bool false) ∧ Below w.heap.size w w' := by
  obtain ⟨pa, ca, rfl, ha⟩ := ha
  obtain ⟨pb, cb, rfl, hb⟩ := hb
  clear ha hb
  have hq : (k == k') = false := by rw [beq_eq_false_iff_ne]; exact h
  go_enter Tryz.func29, Tryz.ntmps29
  go_wp2_with fail
  go_ret
  exact ⟨rfl, two_below _ _ _ _ _ _ _ _ _ _ _⟩
set_option maxHeartbeats 4000000 in
set_option maxRecDepth 100000 in
theorem same_n (k k' : Int) (n n' x x' : List UInt8) (al bl : List At) (c c' : Bool) (va vb : Value) (w : World) (ha : AtIn w va al) (hb : AtIn w vb bl) (hk : k = k') (h : ¬ n = n') :
    Calls Tryz.prog 29 #[tkV ⟨k, n, x, al, c⟩ va, tkV ⟨k', n', x', bl, c'⟩ vb] w fun e w' => e = .returned (.bool false) ∧ Below w.heap.size w w' := by
  obtain ⟨pa, ca, rfl, ha⟩ := ha
  obtain ⟨pb, cb, rfl, hb⟩ := hb
  clear ha hb
  subst hk
  have hq : (n == n') = false := by rw [beq_eq_false_iff_ne]; exact h
  go_enter Tryz.func29, Tryz.ntmps29
  go_wp2_with fail
  go_ret
  exact ⟨rfl, two_below _ _ _ _ _ _ _ _ _ _ _⟩
set_option maxHeartbeats 4000000 in
set_option maxRecDepth 100000 in
theorem same_x (k k' : Int) (n n' x x' : List UInt8) (al bl : List At) (c c' : Bool) (va vb : Value) (w : World) (ha : AtIn w va al) (hb : AtIn w vb bl) (hk : k = k') (hn : n = n') (h : ¬ x = x') :
    Calls Tryz.prog 29 #[tkV ⟨k, n, x, al, c⟩ va, tkV ⟨k', n', x', bl, c'⟩ vb] w fun e w' => e = .returned (.bool false) ∧ Below w.heap.size w w' := by
  obtain ⟨pa, ca, rfl, ha⟩ := ha
  obtain ⟨pb, cb, rfl, hb⟩ := hb
  clear ha hb
  subst hk
  subst hn
  have hq : (x == x') = false := by rw [beq_eq_false_iff_ne]; exact h
  go_enter Tryz.func29, Tryz.ntmps29
  go_wp2_with fail
  go_ret
  exact ⟨rfl, two_below _ _ _ _ _ _ _ _ _ _ _⟩
set_option maxHeartbeats 4000000 in
set_option maxRecDepth 100000 in
theorem same_c (k k' : Int) (n n' x x' : List UInt8) (al bl : List At) (c c' : Bool) (va vb : Value) (w : World) (ha : AtIn w va al) (hb : AtIn w vb bl) (hk : k = k') (hn : n = n') (hx : x = x') (h : ¬ c = c') :
    Calls Tryz.prog 29 #[tkV ⟨k, n, x, al, c⟩ va, tkV ⟨k', n', x', bl, c'⟩ vb] w fun e w' => e = .returned (.bool false) ∧ Below w.heap.size w w' := by
  obtain ⟨pa, ca, rfl, ha⟩ := ha
  obtain ⟨pb, cb, rfl, hb⟩ := hb
  clear ha hb
  subst hk
  subst hn
  subst hx
  have hq : (c == c') = false := by rw [beq_eq_false_iff_ne]; exact h
  go_enter Tryz.func29, Tryz.ntmps29
  go_wp2_with fail
  go_ret
  exact ⟨rfl, two_below _ _ _ _ _ _ _ _ _ _ _⟩
set_option maxHeartbeats 4000000 in
set_option maxRecDepth 100000 in
theorem same_l (k k' : Int) (n n' x x' : List UInt8) (al bl : List At) (c c' : Bool) (va vb : Value) (w : World) (ha : AtIn w va al) (hb : AtIn w vb bl) (hk : k = k') (hn : n = n') (hx : x = x') (hc : c = c') (hl : ¬ al.length = bl.length) :
    Calls Tryz.prog 29 #[tkV ⟨k, n, x, al, c⟩ va, tkV ⟨k', n', x', bl, c'⟩ vb] w fun e w' => e = .returned (.bool false) ∧ Below w.heap.size w w' := by
  obtain ⟨pa, ca, rfl, ha⟩ := ha
  obtain ⟨pb, cb, rfl, hb⟩ := hb
  clear ha hb
  subst hk
  subst hn
  subst hx
  subst hc
  have h : ¬ ((al.length : Int) = (bl.length : Int)) := by omega
  have hq : ((al.length : Int) == (bl.length : Int)) = false := by rw [beq_eq_false_iff_ne]; exact h
  go_enter Tryz.func29, Tryz.ntmps29
  go_wp2_with fail
  go_ret
  exact ⟨rfl, two_below _ _ _ _ _ _ _ _ _ _ _⟩
set_option maxHeartbeats 4000000 in
set_option maxRecDepth 100000 in
theorem same_rest (k : Int) (n x : List UInt8) (al bl : List At) (c : Bool) (va vb : Value) (w : World) (ha : AtIn w va al) (hb : AtIn w vb bl) (hl : al.length = bl.length) (hs : al.length ≤ 9223372036854775807) :
    Calls Tryz.prog 29 #[tkV ⟨k, n, x, al, c⟩ va, tkV ⟨k, n, x, bl, c⟩ vb] w fun e w' => e = .returned (.bool (decide (al = bl))) ∧ Below w.heap.size w w' := by
  obtain ⟨pa, ca, rfl, ha⟩ := ha
  obtain ⟨pb, cb, rfl, hb⟩ := hb
  obtain ⟨N, hN⟩ : ∃ N, al.length = N := ⟨_, rfl⟩
  have hM : bl.length = N := by omega
  have HN := Lib.hid (And.intro hN hM)
  have hs2 : (N : Int) ≤ 9223372036854775807 := by omega
  have hcells : ∀ W, Below (twoW w k k n n x x (.slice pa N ca) (.slice pb N cb) c c).heap.size (twoW w k k n n x x (.slice pa N ca) (.slice pb N cb) c c) W → Below w.heap.size w W ∧ W.cell? ⟨w.heap.size, 3, none⟩ = some (.slice pa N ca) ∧ W.cell? ⟨w.heap.size + 1, 3, none⟩ = some (.slice pb N cb) := fun W h =>
    ⟨(two_below _ _ _ _ _ _ _ _ _ _ _).trans (h.mono (two_below _ _ _ _ _ _ _ _ _ _ _).size), two_cells h⟩
  have HC := Lib.hid hcells
  have HA := Lib.hid ha
  have HBB := Lib.hid hb
  clear ha hb hl hs hcells
  rw [hN, hM]
  clear hN hM
  go_enter Tryz.func29, Tryz.ntmps29
  go_wp2_with fail
  go_loopw [5] (fun i wr => ∃ j : Nat, j ≤ N ∧ i = .int .i64 j ∧ Hid (∀ q (h1 : q < al.length) (h2 : q < bl.length), q < j → al[q] = bl[q]) ∧ Hid (Below (twoW w k k n n x x (.slice pa N ca) (.slice pb N cb) c c).heap.size (twoW w k k n n x x (.slice pa N ca) (.slice pb N cb) c c) wr)) (fun i _ => N - (intOf i).toNat)
  case atStart => exact ⟨0, Nat.zero_le _, rfl, fun q _ _ h => absurd h (Nat.not_lt_zero _), Below.refl _ _⟩
  case round =>
    obtain ⟨j, hj, rfl, heq, hbw⟩ := hrel
    obtain ⟨b0, d0, d1⟩ := HC.out wr hbw.out
    by_cases hlt : j < N
    · have h1 : j < al.length := by have := HN.out; omega
      have h2 : j < bl.length := by have := HN.out; omega
      obtain ⟨ba, oa, rfl, hca⟩ := HA.out (by omega)
      obtain ⟨bb, ob, rfl, hcb⟩ := HBB.out (by omega)
      have y0 := some_keep (hca j h1).1 b0
      have y1 := some_keep (hca j h1).2 b0
      have z0 := some_keep (hcb j h2).1 b0
      have z1 := some_keep (hcb j h2).2 b0
      have i0 : (0 : Int) ≤ (j : Int) := by omega
      have i1 : (j : Int) < (N : Int) := by omega
      have hnx : Hid (al[j] = bl[j] → ∀ q (h1 : q < al.length) (h2 : q < bl.length), q < j + 1 → al[q] = bl[q]) := fun e q g1 g2 hq => by
        rcases Nat.lt_or_ge q j with h | h
        · exact heq.out q g1 g2 h
        · obtain rfl : q = j := by omega
          exact e
      clear hca hcb b0
      by_cases hE : al[j] = bl[j]
      · have HNX := Lib.hid (hnx.out hE)
        rw [← hE] at z0 z1
        clear hnx hE
        generalize al[j] = a at *
        go_wp2_with fail
        go_quiet (fail)
        rename_i nq _
        have HB2 := Lib.hid (drewT hbw.out nq)
        generalize wr.drewN nq = wd at HB2
        go_wp2_with fail
        go_roundw
        case rel => exact ⟨j + 1, by omega, by go_num, HNX, HB2⟩
        case measure => simp [intOf]; omega
      · have hD : decide (al = bl) = false := decide_eq_false (fun e => hE (by subst e; rfl))
        have HD := Lib.hid hD
        clear hnx hD
        generalize al[j] = a at *
        generalize bl[j] = b at *
        have hE2 : ¬ a.n = b.n ∨ (a.n = b.n ∧ ¬ a.v = b.v) := by
          by_cases h1 : a.n = b.n
          · exact .inr ⟨h1, fun e2 => hE (by cases a; cases b; cases h1; cases e2; rfl)⟩
          · exact .inl h1
        clear hE
        obtain ⟨an, av⟩ := a
        obtain ⟨bn, Mem.bv⟩ := b
        rcases hE2 with h | ⟨h0, h⟩
        · have h : ¬ an = bn := h
          have hq : (an == bn) = false := by rw [beq_eq_false_iff_ne]; exact h
          go_wp2_with fail
          go_quiet (fail)
          rename_i nq _
          have HB2 := Lib.hid (drewT hbw.out nq)
          generalize wr.drewN nq = wd at HB2
          go_wp2_with fail
          go_ret
          exact ⟨ret_bool HD.out.symm, (HC.out _ HB2.out).1⟩
        · have h0 : an = bn := h0
          have h : ¬ av = Mem.bv := h
          have hq : (av == Mem.bv) = false := by rw [beq_eq_false_iff_ne]; exact h
          subst h0
          go_wp2_with fail
          go_quiet (fail)
          rename_i nq _
          have HB2 := Lib.hid (drewT hbw.out nq)
          generalize wr.drewN nq = wd at HB2
          go_wp2_with fail
          go_ret
          exact ⟨ret_bool HD.out.symm, (HC.out _ HB2.out).1⟩
    · have hje : j = N := by omega
      have hab : al = bl := List.ext_getElem (by have := HN.out; omega) (fun q g1 g2 => heq.out q g1 g2 (by have := HN.out; omega))
      have HD : Hid (decide (al = bl) = true) := decide_eq_true hab
      clear hab
      subst hje
      go_wp2_with fail
      go_ret
      exact ⟨ret_bool HD.out.symm, b0⟩
theorem rsame_c (a b : Tk) (va vb : Value) (w : World) (ha : AtIn w va a.a) (hb : AtIn w vb b.a) (hs : a.a.length ≤ 9223372036854775807) :
    Calls Tryz.prog 29 #[tkV a va, tkV b vb] w fun e w' => e = .returned (.bool (decide (a = b))) ∧ Below w.heap.size w w' := by
  obtain ⟨k, n, x, al, c⟩ := a
  obtain ⟨k', n', x', bl, c'⟩ := b
  have hne : ∀ {P : Prop} [Decidable P], ¬ P → decide P = false := fun h => decide_eq_false h
  by_cases hk : k = k'
  · by_cases hn : n = n'
    · by_cases hx : x = x'
      · by_cases hc : c = c'
        · by_cases hl : al.length = bl.length
          · subst hk; subst hn; subst hx; subst hc
            have h := same_rest k n x al bl c va vb w ha hb hl hs
            have e : decide ((⟨k, n, x, al, c⟩ : Tk) = ⟨k, n, x, bl, c⟩) = decide (al = bl) := by
              rw [Bool.eq_iff_iff]; simp
            rw [e]
            exact h
          · rw [hne (fun e => hl (by injection e with _ _ _ e _; rw [e]))]
            exact same_l k k' n n' x x' al bl c c' va vb w ha hb hk hn hx hc hl
        · rw [hne (fun e => hc (by injection e))]
          exact same_c k k' n n' x x' al bl c c' va vb w ha hb hk hn hx hc
      · rw [hne (fun e => hx (by injection e))]
        exact same_x k k' n n' x x' al bl c c' va vb w ha hb hk hn hx
    · rw [hne (fun e => hn (by injection e))]
      exact same_n k k' n n' x x' al bl c c' va vb w ha hb hk hn
  · rw [hne (fun e => hk (by injection e))]
    exact same_k k k' n n' x x' al bl c c' va vb w ha hb hk

theorem atIn_keep {w W : World} {v : Value} {al : List At} (h : AtIn w v al) (hb : Below w.heap.size w W) : AtIn W v al := by
  obtain ⟨p, cap, h1, h2⟩ := h
  refine ⟨p, cap, h1, fun hl => ?_⟩
  obtain ⟨b, o, h3, h4⟩ := h2 hl
  exact ⟨b, o, h3, fun i hi => ⟨some_keep (h4 i hi).1 hb, some_keep (h4 i hi).2 hb⟩⟩
set_option maxHeartbeats 4000000 in
set_option maxRecDepth 100000 in
theorem all_rest (ts us : List Tk) (va vb : Value) (w : World) (ha : TkIn w va ts) (hb : TkIn w vb us) (hl : ts.length = us.length) (hs : ts.length ≤ 9223372036854775807) (hm : ∀ t ∈ ts, t.a.length ≤ 9223372036854775807) :
    Calls Tryz.prog 15 #[va, vb] w fun e w' => e = .returned (.bool (decide (ts = us))) ∧ Below w.heap.size w w' := by
  obtain ⟨pa, ca, rfl, ha⟩ := ha
  obtain ⟨pb, cb, rfl, hb⟩ := hb
  obtain ⟨N, hN⟩ : ∃ N, ts.length = N := ⟨_, rfl⟩
  have hM : us.length = N := by omega
  have HN := Lib.hid (And.intro hN hM)
  have hs2 : (N : Int) ≤ 9223372036854775807 := by omega
  have HA := Lib.hid ha
  have HBB := Lib.hid hb
  have HS := Lib.hid hm
  clear ha hb hl hs hm
  rw [hN, hM]
  clear hN hM
  go_enter Tryz.func15, Tryz.ntmps15
  go_wp2_with fail
  go_loopw [5] (fun i wr => ∃ j : Nat, j ≤ N ∧ i = .int .i64 j ∧ Hid (∀ q (h1 : q < ts.length) (h2 : q < us.length), q < j → ts[q] = us[q]) ∧ Hid (Below w.heap.size w wr)) (fun i _ => N - (intOf i).toNat)
  case atStart => exact ⟨0, Nat.zero_le _, rfl, fun q _ _ h => absurd h (Nat.not_lt_zero _), Below.refl _ _⟩
  case round =>
    obtain ⟨j, hj, rfl, heq, hbw⟩ := hrel
    by_cases hlt : j < N
    · have h1 : j < ts.length := by have := HN.out; omega
      have h2 : j < us.length := by have := HN.out; omega
      obtain ⟨ba, oa, rfl, hca⟩ := HA.out (by omega)
      obtain ⟨bb, ob, rfl, hcb⟩ := HBB.out (by omega)
      obtain ⟨va, hva, x0, x1, x2, x3, x4⟩ := hca j h1
      obtain ⟨vb, hvb, z0, z1, z2, z3, z4⟩ := hcb j h2
      have b0 : Below w.heap.size w wr.drew := hbw.out.drew
      have hsz := HS.out ts[j] (List.getElem_mem h1)
      have y0 := some_keep x0 b0
      have y1 := some_keep x1 b0
      have y2 := some_keep x2 b0
      have y3 := some_keep x3 b0
      have y4 := some_keep x4 b0
      have y5 := some_keep z0 b0
      have y6 := some_keep z1 b0
      have y7 := some_keep z2 b0
      have y8 := some_keep z3 b0
      have y9 := some_keep z4 b0
      have i0 : (0 : Int) ≤ (j : Int) := by omega
      have i1 : (j : Int) < (N : Int) := by omega
      have hnx : Hid (ts[j] = us[j] → ∀ q (h1 : q < ts.length) (h2 : q < us.length), q < j + 1 → ts[q] = us[q]) := fun e q g1 g2 hq => by
        rcases Nat.lt_or_ge q j with h | h
        · exact heq.out q g1 g2 h
        · obtain rfl : q = j := by omega
          exact e
      have hcall := rsame_c ts[j] us[j] va vb wr.drew (atIn_keep hva b0) (atIn_keep hvb b0) hsz
      have HDF := Lib.hid (fun (hE : ¬ ts[j] = us[j]) => (decide_eq_false (fun e => hE (by subst e; rfl)) : decide (ts = us) = false))
      clear hca hcb x0 x1 x2 x3 x4 z0 z1 z2 z3 z4 hva hvb hsz
      by_cases hE : ts[j] = us[j]
      · have HNX := Lib.hid (hnx.out hE)
        rw [decide_eq_true hE] at hcall
        clear hnx hE HDF
        generalize ts[j] = a at *
        generalize us[j] = b at *
        obtain ⟨ak, an, ax, aa, ac⟩ := a
        obtain ⟨bk, bn, bx, bl, bc⟩ := b
        go_wp2_with fail
        go_region_held3 (fun w' => w'.cell? ⟨ba, oa + j * 5, none⟩ = some (.int .i64 ak) ∧ w'.cell? ⟨ba, oa + j * 5 + 1, none⟩ = some (.string (S an)) ∧ w'.cell? ⟨ba, oa + j * 5 + 2, none⟩ = some (.string (S ax)) ∧ w'.cell? ⟨ba, oa + j * 5 + 3, none⟩ = some va ∧ w'.cell? ⟨ba, oa + j * 5 + 4, none⟩ = some (.bool ac) ∧ w'.cell? ⟨bb, ob + j * 5, none⟩ = some (.int .i64 bk) ∧ w'.cell? ⟨bb, ob + j * 5 + 1, none⟩ = some (.string (S bn)) ∧ w'.cell? ⟨bb, ob + j * 5 + 2, none⟩ = some (.string (S bx)) ∧ w'.cell? ⟨bb, ob + j * 5 + 3, none⟩ = some vb ∧ w'.cell? ⟨bb, ob + j * 5 + 4, none⟩ = some (.bool bc))
          (first | with_reducible exact ⟨y0, y1, y2, y3, y4, y5, y6, y7, y8, y9⟩ | with_reducible exact ⟨u0, u1, u2, u3, u4, u5, u6, u7, u8, u9⟩)
          (first
            | (go_at_call 29; refine hcall.mono ?_; rintro e w1 ⟨rfl, hb1⟩; have u0 := some_keep y0 hb1; have u1 := some_keep y1 hb1; have u2 := some_keep y2 hb1; have u3 := some_keep y3 hb1; have u4 := some_keep y4 hb1; have u5 := some_keep y5 hb1; have u6 := some_keep y6 hb1; have u7 := some_keep y7 hb1; have u8 := some_keep y8 hb1; have u9 := some_keep y9 hb1; have HB2 := Lib.hid (b0.trans (hb1.mono b0.size)); clear hb1))
        go_wp2_with fail
        go_roundw
        case rel => exact ⟨j + 1, by omega, by go_num, HNX, HB2⟩
        case measure => simp [intOf]; omega
      · have HD := Lib.hid (HDF.out hE)
        rw [decide_eq_false hE] at hcall
        clear hnx hE HDF
        generalize ts[j] = a at *
        generalize us[j] = b at *
        obtain ⟨ak, an, ax, aa, ac⟩ := a
        obtain ⟨bk, bn, bx, bl, bc⟩ := b
        go_wp2_with fail
        go_region_held3 (fun w' => w'.cell? ⟨ba, oa + j * 5, none⟩ = some (.int .i64 ak) ∧ w'.cell? ⟨ba, oa + j * 5 + 1, none⟩ = some (.string (S an)) ∧ w'.cell? ⟨ba, oa + j * 5 + 2, none⟩ = some (.string (S ax)) ∧ w'.cell? ⟨ba, oa + j * 5 + 3, none⟩ = some va ∧ w'.cell? ⟨ba, oa + j * 5 + 4, none⟩ = some (.bool ac) ∧ w'.cell? ⟨bb, ob + j * 5, none⟩ = some (.int .i64 bk) ∧ w'.cell? ⟨bb, ob + j * 5 + 1, none⟩ = some (.string (S bn)) ∧ w'.cell? ⟨bb, ob + j * 5 + 2, none⟩ = some (.string (S bx)) ∧ w'.cell? ⟨bb, ob + j * 5 + 3, none⟩ = some vb ∧ w'.cell? ⟨bb, ob + j * 5 + 4, none⟩ = some (.bool bc))
          (first | with_reducible exact ⟨y0, y1, y2, y3, y4, y5, y6, y7, y8, y9⟩ | with_reducible exact ⟨u0, u1, u2, u3, u4, u5, u6, u7, u8, u9⟩)
          (first
            | (go_at_call 29; refine hcall.mono ?_; rintro e w1 ⟨rfl, hb1⟩; have u0 := some_keep y0 hb1; have u1 := some_keep y1 hb1; have u2 := some_keep y2 hb1; have u3 := some_keep y3 hb1; have u4 := some_keep y4 hb1; have u5 := some_keep y5 hb1; have u6 := some_keep y6 hb1; have u7 := some_keep y7 hb1; have u8 := some_keep y8 hb1; have u9 := some_keep y9 hb1; have HB2 := Lib.hid (b0.trans (hb1.mono b0.size)); clear hb1))
        go_wp2_with fail
        go_ret
        exact ⟨ret_bool HD.out.symm, HB2.out⟩
    · have hje : j = N := by omega
      have hab : ts = us := List.ext_getElem (by have := HN.out; omega) (fun q g1 g2 => heq.out q g1 g2 (by have := HN.out; omega))
      have HD : Hid (decide (ts = us) = true) := decide_eq_true hab
      clear hab
      subst hje
      go_wp2_with fail
      go_ret
      exact ⟨ret_bool HD.out.symm, hbw.out⟩
set_option maxRecDepth 100000 in
theorem all_len (ts us : List Tk) (va vb : Value) (w : World) (ha : TkIn w va ts) (hb : TkIn w vb us) (hl : ¬ ts.length = us.length) :
    Calls Tryz.prog 15 #[va, vb] w fun e w' => e = .returned (.bool false) ∧ Below w.heap.size w w' := by
  obtain ⟨pa, ca, rfl, _⟩ := ha
  obtain ⟨pb, cb, rfl, _⟩ := hb
  have h : ¬ ((ts.length : Int) = (us.length : Int)) := by omega
  clear hl
  go_enter Tryz.func15, Tryz.ntmps15
  go_wp2_with fail
  go_ret
  exact ⟨rfl, Below.refl _ _⟩
theorem rsameAll_c (ts us : List Tk) (va vb : Value) (w : World) (ha : TkIn w va ts) (hb : TkIn w vb us) (hs : ts.length ≤ 9223372036854775807) (hm : ∀ t ∈ ts, t.a.length ≤ 9223372036854775807) :
    Calls Tryz.prog 15 #[va, vb] w fun e w' => e = .returned (.bool (decide (ts = us))) ∧ Below w.heap.size w w' := by
  by_cases hl : ts.length = us.length
  · exact all_rest ts us va vb w ha hb hl hs hm
  · rw [decide_eq_false (fun e => hl (by rw [e]))]
    exact all_len ts us va vb w ha hb hl
end Go.Proofs.YtklpbkjplecdpaaGreat.Tok
