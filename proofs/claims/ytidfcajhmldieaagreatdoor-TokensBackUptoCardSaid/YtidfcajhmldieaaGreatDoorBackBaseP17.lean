/-
  Part 17: TkcRead, TkcTell, TkcOut.
-/
import Derived.Test.YtidfcajhmldieaaGreatDoorBackBaseP15
import Derived.Test.YtidfcajhmldieaaGreatDoorBackBaseP16
import Derived.Deep.RegionHeld3
/-
  Contracts of the reader of package tokens: since, passes, takes.
-/
namespace Go.Proofs.YtidfcajhmldieaaGreatDoor.Tkc
open Go.RowKit Go.Proofs.YtidfcajhmldieaaGreatDoor.Oct Go.Proofs.YtidfcajhmldieaaGreatDoor.Utf Go.Proofs.YtidfcajhmldieaaGreatDoor.Crf Go.Proofs.YtidfcajhmldieaaGreatDoor.Tab Go.Proofs.YtidfcajhmldieaaGreatDoor.Tok

theorem cut_ext (l : List UInt8) (f k : Nat) : (S l).extract f k = S (cut l f k) := by
  apply ByteArray.ext
  apply Array.toList_inj.1
  simp [cut, List.drop_take]
theorem cut_len {l : List UInt8} {f k : Nat} (hk : k ≤ l.length) : (cut l f k).length = k - f := by
  unfold cut
  rw [List.length_drop, List.length_take]
  omega
theorem cut_len_le (l : List UInt8) (f k : Nat) : (cut l f k).length ≤ l.length := by
  unfold cut
  rw [List.length_drop, List.length_take]
  omega

set_option maxHeartbeats 1000000 in
theorem since_c (R : Nat) (l : List UInt8) (k f : Nat) (vo : Value) (w : World) (h : Bx R l k vo w) (hf : f ≤ k) (hk : k ≤ l.length) :
    Calls Tryz.prog 29 #[.pointer (some ⟨R, 0, none⟩), .int .i64 (f : Int)] w fun e w' => e = .returned (.string (S (cut l f k))) ∧ ∃ m, w' = w.drewN m := by
  have hsz : ((S l).size : Int) = (l.length : Int) := by rw [size_S]
  have c0 : w.cell? ⟨R, 0, none⟩ = some (.string (S l)) := (h.cell 0).trans rfl
  have c1 : w.cell? ⟨R, 1, none⟩ = some (.int .i64 (k : Int)) := (h.cell 1).trans rfl
  have hcut := Lib.hid (cut_ext l f k)
  have i0 : (0 : Int) ≤ (f : Int) := by omega
  have i1 : (f : Int) ≤ (k : Int) := by omega
  have i2 : (k : Int) ≤ (l.length : Int) := by omega
  have i3 : (0 : Int) ≤ (k : Int) := by omega
  have i4 : f ≤ k := hf
  have i5 : k ≤ l.length := hk
  generalize S l = L at *
  clear h hf hk
  go_enter Tryz.func29, Tryz.ntmps29
  go_wp2
  go_quiet (fail)
  go_wp2
  go_ret
  exact ⟨by rw [← hcut.out]; rfl, _, rfl⟩

/-- Is there an octet, and is it wanted. -/
def passB (p : UInt8 → Bool) (l : List UInt8) (k : Nat) : Bool := match l[k]? with
  | some c => p c
  | none => false
/-- What is asked of a function value that tells of an octet whether it is wanted: it leaves memory alone. -/
def Asks (g : Nat) (lb : Array Value) (p : UInt8 → Bool) (w : World) : Prop :=
  ∀ (c : UInt8) (n : Nat), Calls Tryz.prog g (#[.int .u8 (c.toNat : Int)] ++ lb) (w.drewN n) fun e w' => e = .returned (.bool (p c)) ∧ w.drewN n = w'
/-- What passes leaves. -/
def Passes (R : Nat) (l : List UInt8) (k : Nat) (vo : Value) (w : World) (b : Bool) (e : Ending) (w' : World) : Prop :=
  e = .returned (.bool b) ∧ Bx R l (if b then k + 1 else k) vo w' ∧ Keeps R w w'

set_option maxHeartbeats 2000000 in
theorem passes_c (R : Nat) (l : List UInt8) (k : Nat) (vo : Value) (w : World) (h : Bx R l k vo w) (hl : l.length ≤ 65536) (hk0 : k ≤ l.length) (g : Nat) (lb : Array Value) (p : UInt8 → Bool)
    (eg : ∀ args w, (callFunc g args).run Tryz.prog w = .ok (.enter g args) w) (hp : Asks g lb p w) :
    Calls Tryz.prog 78 #[.pointer (some ⟨R, 0, none⟩), .func (.func g) #[] lb] w (Passes R l k vo w (passB p l k)) := by
  have hsz : ((S l).size : Int) = (l.length : Int) := by rw [size_S]
  have c0 : w.cell? ⟨R, 0, none⟩ = some (.string (S l)) := (h.cell 0).trans rfl
  have c1 : w.cell? ⟨R, 1, none⟩ = some (.int .i64 (k : Int)) := (h.cell 1).trans rfl
  have i0 : (0 : Int) ≤ (k : Int) := by omega
  have i3 : (k : Int) ≤ 65536 := by omega
  have HW := Lib.hid h
  by_cases hk : k < l.length
  · have hb : passB p l k = p l[k] := by unfold passB; rw [List.getElem?_eq_getElem hk]
    rw [hb]
    obtain ⟨c, hcc⟩ : ∃ c, c = l[k] := ⟨_, rfl⟩
    rw [← hcc]
    obtain ⟨L, hL⟩ : ∃ L, L = S l := ⟨_, rfl⟩
    have hat : ∀ h : k < L.size, L[k]'h = c := by subst hL; intro _; rw [hcc]; exact at_T l k hk
    have hc := fun n => hp c n
    have hbyte : ((c.toNat : Int)) ≤ 255 := by have := c.toNat_lt; omega
    have i1 : (k : Int) < (l.length : Int) := by omega
    have i2 : k < (S l).size := by rw [size_S]; exact hk
    have hd : decide ((k : Int) < (l.length : Int)) = true := decide_eq_true i1
    rw [← hL] at hsz c0 i2
    clear hb hp h hL hcc
    generalize p c = b at hc ⊢
    cases b with
    | true =>
      have z1 : ∀ n, (w.drewN n).frozen? ⟨R, 1, none⟩ = false := fun n => (HW.out.drewN n).froz 1
      go_enter Tryz.func78, Tryz.ntmps78
      go_wp2
      go_quiet ((go_at_fn g; exact quiet_same (hc _)))
      have z2 := z1 nq
      go_wp2
      go_ret
      exact ⟨rfl, (HW.out.drewN _).at_ (k + 1), ((Keeps.refl R w).drewN _).trans (Keeps.set _ _)⟩
    | false =>
      go_enter Tryz.func78, Tryz.ntmps78
      go_wp2
      go_quiet ((go_at_fn g; exact quiet_same (hc _)))
      go_wp2
      go_ret
      exact ⟨rfl, HW.out.drewN _, (Keeps.refl R w).drewN _⟩
  · have hb : passB p l k = false := by unfold passB; rw [List.getElem?_eq_none (by omega)]
    rw [hb]
    have hd : decide ((k : Int) < (l.length : Int)) = false := decide_eq_false (by omega)
    clear hb hp h
    generalize S l = L at *
    go_enter Tryz.func78, Tryz.ntmps78
    go_wp2
    go_quiet (fail)
    go_wp2
    go_ret
    exact ⟨rfl, HW.out.drewN _, (Keeps.refl R w).drewN _⟩

theorem hasPrefix_le {s p : List UInt8} (h : Lib.hasPrefix s p = true) : p.length ≤ s.length := by
  unfold Lib.hasPrefix at h
  exact (List.isPrefixOf_iff_prefix.1 h).length_le
/-- Does the text stand here. -/
def takeB (sign l : List UInt8) (k : Nat) : Bool := Lib.hasPrefix (l.drop k) sign
theorem take_len {sign l : List UInt8} {k : Nat} (h : takeB sign l k = true) : k + sign.length ≤ l.length ∨ sign = [] := by
  unfold takeB at h
  have := hasPrefix_le h
  rw [List.length_drop] at this
  by_cases e : sign = []
  · exact .inr e
  · have : 0 < sign.length := List.length_pos_iff.2 e
    exact .inl (by omega)
set_option maxHeartbeats 2000000 in
theorem takes_c (R : Nat) (l sign : List UInt8) (k : Nat) (vo : Value) (w : World) (h : Bx R l k vo w) (hl : l.length ≤ 65536) (hk : k ≤ l.length) (hs : sign.length ≤ 65536) :
    Calls Tryz.prog 82 #[.pointer (some ⟨R, 0, none⟩), .string (S sign)] w fun e w' => e = .returned (.bool (takeB sign l k)) ∧ Bx R l (if takeB sign l k then k + sign.length else k) vo w' ∧ Keeps R w w' := by
  have hsz : ((S l).size : Int) = (l.length : Int) := by rw [size_S]
  have hss : ((S sign).size : Int) = (sign.length : Int) := by rw [size_S]
  have c0 : w.cell? ⟨R, 0, none⟩ = some (.string (S l)) := (h.cell 0).trans rfl
  have c1 : w.cell? ⟨R, 1, none⟩ = some (.int .i64 (k : Int)) := (h.cell 1).trans rfl
  have i0 : (0 : Int) ≤ (k : Int) := by omega
  have i1 : (k : Int) ≤ (l.length : Int) := by omega
  have i2 : (k : Int) ≤ 65536 := by omega
  have i3 : (sign.length : Int) ≤ 65536 := by omega
  have i4 : k ≤ l.length := hk
  have HW := Lib.hid h
  have hcut := (cutFrom (S l) k).trans (by rw [list_S] : S ((S l).data.toList.drop k) = S (l.drop k))
  have hc := fun n => Tryz.strings_HasPrefix (S (l.drop k)) (S sign) (w.drewN n)
  rw [list_S, list_S, ← hcut] at hc
  have hsz2 : (S l).size = l.length := size_S l
  unfold takeB
  generalize Lib.hasPrefix (l.drop k) sign = b at hc ⊢
  have z1 : ∀ n, (w.drewN n).frozen? ⟨R, 1, none⟩ = false := fun n => (HW.out.drewN n).froz 1
  clear h hcut hl hk hs
  rw [hsz2] at hc
  generalize S l = L at *
  generalize S sign = P at *
  cases b with
  | true =>
    go_enter Tryz.func82, Tryz.ntmps82
    go_wp2
    go_quiet ((go_at_call 35; exact Calls.quiet_of_same (hc _)))
    have z2 := z1 nq
    go_wp2
    go_ret
    exact ⟨rfl, (HW.out.drewN _).at_ (k + sign.length), ((Keeps.refl R w).drewN _).trans (Keeps.set _ _)⟩
  | false =>
    go_enter Tryz.func82, Tryz.ntmps82
    go_wp2
    go_quiet ((go_at_call 35; exact Calls.quiet_of_same (hc _)))
    go_wp2
    go_ret
    exact ⟨rfl, HW.out.drewN _, (Keeps.refl R w).drewN _⟩
end Go.Proofs.YtidfcajhmldieaaGreatDoor.Tkc

/-
  What the reader of package tokens has told, in memory; contracts of tell and tellText.
-/
namespace Go.Proofs.YtidfcajhmldieaaGreatDoor.Tkc
open Go.RowKit Go.Proofs.YtidfcajhmldieaaGreatDoor.Oct Go.Proofs.YtidfcajhmldieaaGreatDoor.Utf Go.Proofs.YtidfcajhmldieaaGreatDoor.Crf Go.Proofs.YtidfcajhmldieaaGreatDoor.Tab Go.Proofs.YtidfcajhmldieaaGreatDoor.Tok

/-- The reader with what it has told. -/
structure RdT (R : Nat) (l : List UInt8) (k : Nat) (v : Value) (ps : List (Tk × Value)) (w : World) : Prop where
  box : Bx R l k v w
  out : TkR (R + 1) w v ps
  ats : ∀ p ∈ ps, AtR (R + 1) w p.2 p.1.a
  sep : ∀ p ∈ ps, Sep p.2 v
/-- All that lay in w lies as it lay, but for the reader's box and the row of what was told. -/
structure Mv (R : Nat) (v : Value) (w w' : World) : Prop where
  os : w'.os = w.os
  tape : w'.tape = w.tape
  output : w'.output = w.output
  size : w.heap.size ≤ w'.heap.size
  block : ∀ N, N < w.heap.size → N ≠ R → v.ownBlock ≠ some N → w'.heap[N]? = w.heap[N]?
section
variable {R : Nat} {l : List UInt8} {k : Nat} {v : Value} {ps : List (Tk × Value)} {w : World}
theorem Mv.of {w' : World} (h : Keeps R w w') : Mv R v w w' := ⟨h.os, h.tape, h.output, h.size, fun N hN hR _ => h.block N hN hR⟩
theorem Mv.below {w' : World} (h : Mv R v w w') (hR : R ≤ w.heap.size) (hv : ∀ g, v.ownBlock = some g → R + 1 ≤ g) : Below R w w' :=
  ⟨h.os, h.tape, h.output, h.size, fun N hN => h.block N (by omega) (by omega) (fun e => by have := hv N e; omega)⟩
theorem Mv.after {W X : World} (hb : Below w.heap.size w W) (hm : Mv R v W X) : Mv R v w X :=
  ⟨hm.os.trans hb.os, hm.tape.trans hb.tape, hm.output.trans hb.output, Nat.le_trans hb.size hm.size, fun N hN hR hv => (hm.block N (Nat.lt_of_lt_of_le hN hb.size) hR hv).trans (hb.block N hN)⟩
theorem RdT.keep {w' : World} {j : Nat} (h : RdT R l k v ps w) (hk : Keeps R w w') (hb : Bx R l j v w') : RdT R l j v ps w' where
  box := hb
  out := own_same h.out fun b hb he => hk.block b (own_lt h.out b he) (by omega)
  ats := fun p hp => own_same (h.ats p hp) fun b hb he => hk.block b (own_lt (h.ats p hp) b he) (by omega)
  sep := h.sep
theorem RdT.grow {w' : World} (h : RdT R l k v ps w) (hb : Below w.heap.size w w') : RdT R l k v ps w' := h.keep (Keeps.of hb) (h.box.keep hb)
theorem RdT.low (h : RdT R l k v ps w) : R ≤ w.heap.size := Nat.le_of_lt h.box.lt
theorem RdT.push {w3 : World} {v' : Value} (h : RdT R l k v ps w) (p : Tk × Value) (hp : AtR (R + 1) w p.2 p.1.a) (hs : Sep p.2 v) (o : Obj)
    (hown : w3.ownsRow (R + 1) 34 5 v' (ps.length + 1) (ps.flatMap tkCs ++ tkCs p)) (hg : (w.alloc o).grownBy w3 v.ownBlock) (hat0 : v'.ownBlock = v.ownBlock ∨ v'.ownBlock = some (w.heap.size + 1)) :
    RdT R l k v' (ps ++ [p]) (w3.setCell ⟨R, 2, none⟩ v') ∧ Mv R v w (w3.setCell ⟨R, 2, none⟩ v') ∧ w3.cell? ⟨R, 2, none⟩ = some v ∧ w3.frozen? ⟨R, 2, none⟩ = false := by
  have hat : v'.ownBlock = v.ownBlock ∨ v'.ownBlock = some (w.alloc o).heap.size := by simpa using hat0
  have hal : Below w.heap.size w (w.alloc o) := (Below.refl _ w).alloc (Nat.le_refl _) _
  have ha := h.grow hal
  have hlt := ha.box.lt
  have hne : some R ≠ v.ownBlock := fun e => by have := own_ge h.out R e.symm; omega
  have hb : w3.heap[R]? = (w.alloc o).heap[R]? := hg.block R hlt hne
  refine ⟨?_, ?_, (cell_of_row w3 R 2 _ _ _ (hb.trans ha.box)).trans rfl, frozen_of_row w3 R 2 _ _ (hb.trans ha.box)⟩
  · constructor
    · exact heap_setCell_same w3 R 2 _ _ v' (hb.trans ha.box)
    · show World.ownsRow _ _ _ _ _ _ _
      rw [List.length_append, List.length_singleton, List.flatMap_append]
      refine own_set ?_
      simpa using hown
    · intro q hq
      rcases List.mem_append.1 hq with hq | hq
      · exact own_set (own_grown (ha.ats q hq) hg (h.sep q hq))
      · rw [List.mem_singleton] at hq
        subst hq
        exact own_set (own_grown (own_same hp fun k _ hk => hal.block k (own_lt hp k hk)) hg hs)
    · intro q hq
      rcases List.mem_append.1 hq with hq | hq
      · exact (h.sep q hq).moved (own_lt (ha.ats q hq)) hat
      · rw [List.mem_singleton] at hq
        subst hq
        exact hs.moved (own_lt (own_same hp fun k _ hk => hal.block k (own_lt hp k hk))) hat
  · refine ⟨hg.os.trans hal.os, hg.tape.trans hal.tape, hg.output.trans hal.output, by simp [World.setCell]; exact Nat.le_trans hal.size hg.size, fun N hN hR hv => ?_⟩
    rw [heap_setCell_other _ _ _ _ (by simpa using hR), hg.block N (Nat.lt_of_lt_of_le hN hal.size) (fun e => hv e.symm), hal.block N hN]
end
theorem own_shape {w : World} {base n size : Nat} {e : TypeId} {v : Value} {xs : List Value} (h : w.ownsRow base e size v n xs) : ∃ p c, v = .slice p n c := by
  rcases h.2 with ⟨rfl, h0⟩ | ⟨g, cap, cur, rfl, _⟩
  · exact ⟨none, 0, by rw [h0]⟩
  · exact ⟨_, _, rfl⟩
/-- What tell leaves. -/
inductive Told (R : Nat) (l : List UInt8) (k : Nat) (v : Value) (ps qs : List (Tk × Value)) (w : World) (e : Ending) (w' : World) : Prop
  | many (he : e = Fault 3) (hn : 4096 < qs.length) (hb : Below R w w')
  | done (he : e = .returned (.tuple #[])) (hn : qs.length ≤ 4096) (v' : Value) (h : RdT R l k v' qs w') (hm : Mv R v w w')
set_option maxHeartbeats 4000000 in
set_option maxRecDepth 100000 in
theorem tell_c (R : Nat) (l : List UInt8) (k : Nat) (v : Value) (ps : List (Tk × Value)) (w : World) (h : RdT R l k v ps w) (t : Tk) (va : Value) (hp : AtR (R + 1) w va t.a) (hs : Sep va v) (hn : ps.length ≤ 4096) :
    Calls Tryz.prog 41 #[.pointer (some ⟨R, 0, none⟩), .agg #[.int .i64 t.k, .string (S t.n), .string (S t.x), va, .bool t.c]] w (Told R l k v ps (ps ++ [(t, va)]) w) := by
  have hba : Below w.heap.size w (w.alloc (.cells #[.int .i64 t.k, .string (S t.n), .string (S t.x), va, .bool t.c] 34)) := (Below.refl _ w).alloc (Nat.le_refl _) _
  have hT := h.grow hba
  have hp' : AtR (R + 1) (w.alloc (.cells #[.int .i64 t.k, .string (S t.n), .string (S t.x), va, .bool t.c] 34)) va t.a := own_same hp fun k _ hk => hba.block k (own_lt hp k hk)
  have hlow := h.low
  have hRlt := h.box.lt
  have hge := own_ge h.out
  obtain ⟨vp, vc, rfl⟩ := own_shape h.out
  obtain ⟨ap, aj, ac, rfl⟩ := own_slice hp
  have HM : Hid (Below R w (w.alloc (.cells #[.int .i64 t.k, .string (S t.n), .string (S t.x), .slice ap aj ac, .bool t.c] 34))) := hba.mono hlow
  have HB := Lib.hid hba
  have x2 : _ = some (Value.slice vp ps.length vc) := (hT.box.cell 2).trans rfl
  have hlen : (ps ++ [(t, Value.slice ap aj ac)]).length = ps.length + 1 := by simp
  have HT := Lib.hid (And.intro hT hp')
  clear h hT hp hp' hba
  by_cases hlt : ps.length < 4096
  · have hd : decide ((ps.length : Int) < 4096) = true := decide_eq_true (by omega)
    obtain ⟨i0, hi, hz0, hz1, hz2⟩ := info_parts info_tok
    have HOne := Lib.hid (push_tok (p := (t, Value.slice ap aj ac)) rfl)
    have hR1 : R + 1 ≤ w.heap.size := hRlt
    have hsz1 : (w.alloc (.cells #[.int .i64 t.k, .string (S t.n), .string (S t.x), .slice ap aj ac, .bool t.c] 34)).heap.size = w.heap.size + 1 := Array.size_push _
    go_enter Tryz.func41, Tryz.ntmps41
    go_wp2_with (go_at_call 18; refine (demand_yes _ _).mono ?_; rintro e6 W6 ⟨rfl, rfl⟩)
    have c0 : (w.alloc (.cells #[.int .i64 t.k, .string (S t.n), .string (S t.x), .slice ap aj ac, .bool t.c] 34)).cell? ⟨w.heap.size, 0, none⟩ = some (.int .i64 t.k) := (cell_of_row _ _ 0 _ _ _ (heap_alloc_new w _)).trans rfl
    have c1 : (w.alloc (.cells #[.int .i64 t.k, .string (S t.n), .string (S t.x), .slice ap aj ac, .bool t.c] 34)).cell? ⟨w.heap.size, 1, none⟩ = some (.string (S t.n)) := (cell_of_row _ _ 1 _ _ _ (heap_alloc_new w _)).trans rfl
    have c2 : (w.alloc (.cells #[.int .i64 t.k, .string (S t.n), .string (S t.x), .slice ap aj ac, .bool t.c] 34)).cell? ⟨w.heap.size, 2, none⟩ = some (.string (S t.x)) := (cell_of_row _ _ 2 _ _ _ (heap_alloc_new w _)).trans rfl
    have c3 : (w.alloc (.cells #[.int .i64 t.k, .string (S t.n), .string (S t.x), .slice ap aj ac, .bool t.c] 34)).cell? ⟨w.heap.size, 3, none⟩ = some (.slice ap aj ac) := (cell_of_row _ _ 3 _ _ _ (heap_alloc_new w _)).trans rfl
    have c4 : (w.alloc (.cells #[.int .i64 t.k, .string (S t.n), .string (S t.x), .slice ap aj ac, .bool t.c] 34)).cell? ⟨w.heap.size, 4, none⟩ = some (.bool t.c) := (cell_of_row _ _ 4 _ _ _ (heap_alloc_new w _)).trans rfl
    generalize hW : w.alloc (.cells #[.int .i64 t.k, .string (S t.n), .string (S t.x), .slice ap aj ac, .bool t.c] 34) = W at *
    have HW := Lib.hid hW
    clear hW
    have x3 := ((HT.out.1.grow ((Below.refl _ W).alloc (Nat.le_refl _) (.cells (tkCs (t, .slice ap aj ac)).toArray 34))).box.cell 2).trans rfl
    go_region_law (first
      | (refine step_append_lies _ rfl (.tmp 15) (.tmp 17) 22 rfl (R + 1) 34 i0 _ 5 72 Tryz.underlying22 hi hz0 hz1 hz2 rfl (by omega) (.slice vp ps.length vc) ps.length (ps.flatMap tkCs) (by simp [Act.eval]) (HT.out.1.out.alloc _) ⟨W.heap.size, 0, none⟩ 1 1 (tkCs (t, .slice ap aj ac)) (by simp [Act.eval]) rfl (push_cells (cs := tkCs (t, .slice ap aj ac))) HOne.out (by omega) (by unfold maxLen; omega) (by omega) (by simp; omega) (W.heap.size + 1) (by simp) ?_; intro g cp wB hownB hgB hatB hltB; obtain ⟨p1, p2, p3, p4⟩ := HT.out.1.push (t, .slice ap aj ac) HT.out.2 hs _ hownB (grown_drew hgB) (hatB.imp Eq.symm (congrArg some)); have HP := Lib.hid (And.intro p1 p2); clear p1 p2 hownB hgB hatB hltB))
    all_goals go_wp2_with fail
    all_goals go_end0
    all_goals exact .done rfl (by rw [hlen]; omega) _ HP.out.1 (Mv.after HB.out HP.out.2)
  · have hd : decide ((ps.length : Int) < 4096) = false := decide_eq_false (by omega)
    go_enter Tryz.func41, Tryz.ntmps41
    go_wp2_with (go_at_call 18; refine (demand_no _ _).mono ?_; rintro e6 W6 ⟨rfl, rfl⟩)
    exact ⟨rfl, .many rfl (by rw [hlen]; omega) HM.out⟩
/-- The tokens of a text that is told. -/
abbrev txP (x : List UInt8) : List (Tk × Value) := if x = [] then [] else [(txTk x, .slice none 0 0)]
theorem txP_fst (x : List UInt8) : (txP x).map Prod.fst = tx x := by
  unfold txP tx
  split <;> rfl
set_option maxRecDepth 100000 in
theorem tellText_c (R : Nat) (l : List UInt8) (k : Nat) (v : Value) (ps : List (Tk × Value)) (w : World) (h : RdT R l k v ps w) (x : List UInt8) (hn : ps.length ≤ 4096) :
    Calls Tryz.prog 27 #[.pointer (some ⟨R, 0, none⟩), .string (S x)] w (Told R l k v ps (ps ++ txP x) w) := by
  by_cases hx : x = []
  · subst hx
    have e : ps ++ txP [] = ps := by show ps ++ [] = ps; rw [List.append_nil]
    rw [e]
    go_enter Tryz.func27, Tryz.ntmps27
    go_wp2_with fail
    go_end0
    exact .done rfl hn v h (Mv.of (Keeps.refl R w))
  · have e : txP x = [(txTk x, .slice none 0 0)] := if_neg hx
    rw [e]
    have hne : ((S x).toList == []) = false := by
      rw [beq_eq_false_iff_ne]
      intro e
      apply hx
      rw [ByteArray.toList_eq, list_S] at e
      exact e
    have hc := tell_c R l k v ps w h (txTk x) (.slice none 0 0) (World.ownsRow_nil _ _ _ _) (nil_sep _) hn
    clear e hx h
    have hc2 : Calls Tryz.prog 41 #[.pointer (some ⟨R, 0, none⟩), .agg #[.int .i64 3, .string ⟨#[]⟩, .string (S x), .slice none 0 0, .bool false]] w (Told R l k v ps (ps ++ [(txTk x, .slice none 0 0)]) w) := hc
    clear hc
    generalize S x = X at *
    go_enter Tryz.func27, Tryz.ntmps27
    go_wp2_with fail
    refine hc2.mono ?_
    intro e1 w1 ht
    cases ht with
    | many he hn hb => subst he; exact ⟨rfl, .many rfl hn hb⟩
    | done he hn v' h hm =>
      subst he
      go_wp2_with fail
      go_end0
      exact .done rfl hn v' h hm
end Go.Proofs.YtidfcajhmldieaaGreatDoor.Tkc

/-
  Contracts of the reader of package tokens outside of tags: what is no markup, remarks.
-/
namespace Go.Proofs.YtidfcajhmldieaaGreatDoor.Tkc
open Go.RowKit Go.Proofs.YtidfcajhmldieaaGreatDoor.Oct Go.Proofs.YtidfcajhmldieaaGreatDoor.Utf Go.Proofs.YtidfcajhmldieaaGreatDoor.Crf Go.Proofs.YtidfcajhmldieaaGreatDoor.Tab Go.Proofs.YtidfcajhmldieaaGreatDoor.Tok

/-- The library's variable that strings.Cut reads holds some number. -/
def MaxAt (w : World) : Prop := ∃ m, w.cell? ⟨0, 0, none⟩ = some (.int .i64 m)
theorem MaxAt.kept {w w' : World} (h : MaxAt w) (hb : Below w.heap.size w w') : MaxAt w' := by
  obtain ⟨m, hm⟩ := h
  exact ⟨m, (hb.cell (World.block_lt_of_cell? _ _ hm)).trans hm⟩
/-- What is read behind a place leaves. -/
inductive Went (R : Nat) (l : List UInt8) (k0 : Nat) (w : World) (e : Ending) (w' : World) : Prop
  | many (he : e = Fault 3) (hn : 4096 < (tokL l).length) (hb : Below R w w')
  | done (he : e = .returned (.tuple #[])) (k : Nat) (v : Value) (ps : List (Tk × Value)) (h : RdT R l k v ps w') (hk : k ≤ l.length) (hk0 : k0 < k) (hn : ps.length ≤ 4096) (hd : DataMid l k k (ps.map Prod.fst)) (hb : Below R w w')
theorem cut_q (x p : List UInt8) (w : World) (hx : x.length ≤ 65536) (hM : MaxAt w) (n : Nat) :
    Calls Tryz.prog 58 #[.string (S x), .string (S p)] (w.drewN n) fun e w' => e = .returned (.tuple #[.string (S (Lib.cut x p).1), .string (S (Lib.cut x p).2.1), .bool (Lib.cut x p).2.2]) ∧ ∃ m, w' = (w.drewN n).drewN m := by
  obtain ⟨m, hm⟩ := hM.kept (Oct.below_drewN (Below.refl _ w) n)
  have h := Tryz.strings_Cut (S x) (S p) m (w.drewN n) (by rw [size_S]; omega) hm
  rw [list_S, list_S] at h
  exact h
set_option maxHeartbeats 2000000 in
set_option maxRecDepth 100000 in
theorem bogus_c (R : Nat) (l : List UInt8) (hl : l.length ≤ 65536) (k : Nat) (hk : k + 1 < l.length) (v : Value) (ps : List (Tk × Value)) (w : World) (h : RdT R l k v ps w) (hn : ps.length ≤ 4096) (hM : MaxAt w) (h0 : l[k] = 60)
    (hc : l[k + 1] = 33 ∧ [45, 45].isPrefixOf (l.drop (k + 2)) = false ∨ l[k + 1] = 63 ∨ (l[k + 1] = 47 ∧ ∃ h2 : k + 2 < l.length, letB l[k + 2] = false)) (ho : OpenAt l k (ps.map Prod.fst)) :
    Calls Tryz.prog 40 #[.pointer (some ⟨R, 0, none⟩)] w (Went R l k w) := by
  have hd := bog_end hk h0 hc ho
  have hq := cut_q (l.drop k) [62] w (by rw [List.length_drop]; omega) hM
  have hle : (Lib.cut (l.drop k) [62]).2.1.length < l.length - k := by
    have e : l.drop k = 60 :: l.drop (k + 1) := by rw [List.drop_eq_getElem_cons (by omega), h0]
    rw [e, cut_skip _ _ (by decide)]
    have := (cut_le (l.drop (k + 1)) [62]).1
    rw [List.length_drop] at this
    omega
  generalize (Lib.cut (l.drop k) [62]).1 = C at hq
  generalize (Lib.cut (l.drop k) [62]).2.2 = B at hq
  generalize (Lib.cut (l.drop k) [62]).2.1 = Z at hq hd hle
  have hsz : ((S l).size : Int) = (l.length : Int) := by rw [size_S]
  have hsZ : ((S Z).size : Int) = (Z.length : Int) := by rw [size_S]
  have hj : (l.length : Int) - (Z.length : Int) = ((l.length - Z.length : Nat) : Int) := by omega
  have c0 : w.cell? ⟨R, 0, none⟩ = some (.string (S l)) := (h.box.cell 0).trans rfl
  have c1 : w.cell? ⟨R, 1, none⟩ = some (.int .i64 (k : Int)) := (h.box.cell 1).trans rfl
  have i0 : (0 : Int) ≤ (k : Int) := by omega
  have i1 : (k : Int) ≤ (l.length : Int) := by omega
  have i2 : (l.length : Int) ≤ 65536 := by omega
  have i3 : (Z.length : Int) ≤ 65536 := by omega
  have i4 : k ≤ l.length := by omega
  have hcut := (cutFrom (S l) k).trans (by rw [list_S] : S ((S l).data.toList.drop k) = S (l.drop k))
  rw [← hcut] at hq
  have hsz2 : (S l).size = l.length := size_S l
  rw [hsz2] at hq
  have HW := Lib.hid h
  have hD := Lib.hid hd
  have HX : Hid (∀ j v W, Bx R l j v W → W.cell? ⟨R, 0, none⟩ = some (.string (S l)) ∧ W.cell? ⟨R, 1, none⟩ = some (.int .i64 (j : Int)) ∧ W.frozen? ⟨R, 1, none⟩ = false) := fun j v W h => ⟨(h.cell 0).trans rfl, (h.cell 1).trans rfl, h.froz 1⟩
  clear h0 hc ho hM hcut hd h
  generalize S l = L at *
  generalize S Z = ZS at *
  generalize S C = CS at *
  go_enter Tryz.func40, Tryz.ntmps40
  go_wp2
  go_quiet ((go_at_call 58; exact Calls.quiet_of (hq _)))
  have T := HW.out.grow (Oct.below_drewN (Below.refl _ w) nq)
  have hb1 : Below R w (w.drewN nq) := (Oct.below_drewN (Below.refl _ w) nq).mono HW.out.low
  have HB1 := Lib.hid hb1
  generalize w.drewN nq = W at T HB1 ⊢
  obtain ⟨x0, x1, z1⟩ := HX.out _ _ _ T.box
  have HT := Lib.hid T
  clear T c0 c1 hb1
  go_wp2
  go_end0
  exact .done rfl (l.length - Z.length) v ps (HT.out.keep (Keeps.set _ _) (HT.out.box.at_ _)) (by omega) (by omega) hn hD.out (HB1.out.trans ((Keeps.set W _).below HT.out.low))
set_option maxHeartbeats 2000000 in
set_option maxRecDepth 100000 in
theorem comment_c (R : Nat) (l : List UInt8) (hl : l.length ≤ 65536) (k : Nat) (hk : k + 3 < l.length) (v : Value) (ps : List (Tk × Value)) (w : World) (h : RdT R l k v ps w) (hn : ps.length ≤ 4096) (hM : MaxAt w)
    (hp : [60, 33, 45, 45].isPrefixOf (l.drop k) = true) (ho : OpenAt l k (ps.map Prod.fst)) :
    Calls Tryz.prog 39 #[.pointer (some ⟨R, 0, none⟩)] w (Went R l k w) := by
  have hd := com_end hp ho
  have hq := cut_q (l.drop (k + 4)) [45, 45, 62] w (by rw [List.length_drop]; omega) hM
  have hle := (cut_le (l.drop (k + 4)) [45, 45, 62]).1
  rw [List.length_drop] at hle
  have hcl := fun W => tclone_c (S (Lib.cut (l.drop (k + 4)) [45, 45, 62]).1) W (by
    rw [size_S]
    unfold Lib.cut
    split
    · show ((l.drop (k + 4)).take _).length ≤ _
      rw [List.length_take, List.length_drop]
      omega
    · show (l.drop (k + 4)).length ≤ _
      rw [List.length_drop]
      omega)
  generalize (Lib.cut (l.drop (k + 4)) [45, 45, 62]).1 = C at hq hd hcl
  generalize (Lib.cut (l.drop (k + 4)) [45, 45, 62]).2.2 = B at hq
  generalize (Lib.cut (l.drop (k + 4)) [45, 45, 62]).2.1 = Z at hq hd hle
  have htl : Hid (∀ W, RdT R l (l.length - Z.length) v ps W → Calls Tryz.prog 41 #[.pointer (some ⟨R, 0, none⟩), .agg #[.int .i64 4, .string ⟨#[]⟩, .string (S C), .slice none 0 0, .bool false]] W (Told R l (l.length - Z.length) v ps (ps ++ [(⟨4, [], C, [], false⟩, .slice none 0 0)]) W)) := fun W hW =>
    tell_c R l (l.length - Z.length) v ps W hW ⟨4, [], C, [], false⟩ (.slice none 0 0) (World.ownsRow_nil _ _ _ _) (nil_sep _) hn
  have hsz : ((S l).size : Int) = (l.length : Int) := by rw [size_S]
  have hsZ : ((S Z).size : Int) = (Z.length : Int) := by rw [size_S]
  have hj : (l.length : Int) - (Z.length : Int) = ((l.length - Z.length : Nat) : Int) := by omega
  have c0 : w.cell? ⟨R, 0, none⟩ = some (.string (S l)) := (h.box.cell 0).trans rfl
  have c1 : w.cell? ⟨R, 1, none⟩ = some (.int .i64 (k : Int)) := (h.box.cell 1).trans rfl
  have i0 : (0 : Int) ≤ (k : Int) + 4 := by omega
  have i1 : (k : Int) + 4 ≤ (l.length : Int) := by omega
  have i2 : (l.length : Int) ≤ 65536 := by omega
  have i3 : (Z.length : Int) ≤ 65536 := by omega
  have i4 : k + 4 ≤ l.length := by omega
  have i5 : ((k : Int) + 4).toNat = k + 4 := by omega
  have i6 : (0 : Int) ≤ (k : Int) := by omega
  have i7 : IntKind.i64.wrap ((k : Int) + 4) = (k : Int) + 4 := by rw [IntKind.wrap_i64]; omega
  have hcut := (cutFrom (S l) (k + 4)).trans (by rw [list_S] : S ((S l).data.toList.drop (k + 4)) = S (l.drop (k + 4)))
  rw [← hcut] at hq
  have hsz2 : (S l).size = l.length := size_S l
  rw [hsz2] at hq
  have HW := Lib.hid h
  have hD := Lib.hid hd
  have HX : Hid (∀ j v W, Bx R l j v W → W.cell? ⟨R, 0, none⟩ = some (.string (S l)) ∧ W.cell? ⟨R, 1, none⟩ = some (.int .i64 (j : Int)) ∧ W.frozen? ⟨R, 1, none⟩ = false) := fun j v W h => ⟨(h.cell 0).trans rfl, (h.cell 1).trans rfl, h.froz 1⟩
  clear ho hM hcut hd h hp
  generalize S l = L at *
  generalize S Z = ZS at *
  generalize S C = CS at *
  go_enter Tryz.func39, Tryz.ntmps39
  go_wp2
  go_quiet ((go_at_call 58; exact Calls.quiet_of (hq _)))
  have T := HW.out.grow (Oct.below_drewN (Below.refl _ w) nq)
  have hb1 : Below R w (w.drewN nq) := (Oct.below_drewN (Below.refl _ w) nq).mono HW.out.low
  have HB1 := Lib.hid hb1
  generalize w.drewN nq = W at T HB1 ⊢
  obtain ⟨x0, x1, z1⟩ := HX.out _ _ _ T.box
  have HT := Lib.hid (And.intro (T.keep (Keeps.set _ _) (T.box.at_ (l.length - Z.length))) (HB1.out.trans ((Keeps.set (R := R) (i := 1) W (.int .i64 ((l.length - Z.length : Nat) : Int))).below T.low)))
  clear T c0 c1 hb1
  go_wp2_with (go_at_call 59; refine (hcl _).mono ?_; rintro e2 w2 ⟨rfl, h2⟩)
  have hlow := HT.out.1.low
  have T2 := HT.out.1.grow h2
  have HB2 := Lib.hid (HT.out.2.trans (h2.mono hlow))
  have HL := Lib.hid (And.intro (own_ge T2.out) T2.low)
  refine (htl.out w2 T2).mono ?_
  intro e3 w3 ht
  cases ht with
  | many he hn3 hb3 =>
    subst he
    refine ⟨rfl, .many rfl ?_ (HB2.out.trans hb3)⟩
    have := mid_len hD.out
    rw [List.length_append] at this hn3
    rw [List.length_map] at this
    exact Nat.lt_of_lt_of_le hn3 this
  | done he hn3 v3 h3 hm3 =>
    subst he
    go_wp2_with fail
    go_end0
    exact .done rfl (l.length - Z.length) v3 _ h3 (by omega) (by omega) hn3 (by rw [List.map_append]; exact hD.out) (HB2.out.trans (hm3.below HL.out.2 HL.out.1))
end Go.Proofs.YtidfcajhmldieaaGreatDoor.Tkc
