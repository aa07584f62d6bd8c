/-
  Part 6: CrfPgDec, TokMem, TabPage, TabCode, TabElems, TkcBase, TkcPlain2, TkcRead, TkcTell.
-/
import Derived.Test.YtidfcajhmldieaaTokPlainAllP5
import Derived.Test.YtidfcajhmldieaaTokPlainAllP1
import Derived.Maps.AppendAt
import Derived.Deep.AppendLies
import Derived.Deep.RegionLaw
import Derived.Deep.RegionWith
import Derived.Test.YtidfcajhmldieaaProg
import Derived.Lib.Hide
import Derived.Deep.QuietTactic
import Derived.BigQuiet
import Derived.Lib.Strings
import Derived.Test.YtidfcajhmldieaaTokPlainAllP3
import Derived.OwnWalk
import Derived.ProofKit
import Derived.Deep.RegionHeld3
import Derived.Test.YtidfcajhmldieaaTokPlainAllP2
import Derived.Test.YtidfcajhmldieaaTokPlainAllP4
import Derived.Lib.IndexMore
/-
  Contract of the page's Decode.
-/
namespace Go.Proofs.Ytidfcajhmldieaa.Crf
open Go.RowKit Go.Proofs.Ytidfcajhmldieaa.Oct Go.Proofs.Ytidfcajhmldieaa.Num Go.Proofs.Ytidfcajhmldieaa.Utf Go.Proofs.Ytidfcajhmldieaa.Mem
open Go.Lib (encodeRune)

set_option maxHeartbeats 2000000 in
set_option maxRecDepth 100000 in
/-- Contract of the page's Decode. -/
theorem rDecode_c (l : List UInt8) (hl : l.length ≤ 134217728) (w : World) :
    Calls Try.prog 14 #[.string (S l)] w fun e w' => e = .returned (.string (S (decL' l))) ∧ Below w.heap.size w w' := by
  obtain ⟨i0, hi, hz0, hz1, hz2⟩ := info_parts Mem.info_u8
  have HX := Lib.hid (fun k (h : k < (S l).size) => (by
    have h' : k < l.length := by rw [← size_S]; exact h
    exact ⟨h', rfl⟩ : ∃ h' : k < l.length, (S l)[k]'h = l[k]'h'))
  have hsz : (S l).size = l.length := size_S l
  have hszi : ((S l).size : Int) = (l.length : Int) := by rw [size_S]
  have HFrom := Lib.hid (fun k => (cutFrom (S l) k).trans (by rw [list_S] : S ((S l).data.toList.drop k) = S (l.drop k)))
  have HOne := Lib.hid (fun k w => rOne_c (l.drop k) (by rw [List.length_drop]; omega) w)
  generalize S l = s at HX hsz hszi HFrom
  have HFrom := Lib.hid (fun k => (by rw [← hsz]; exact HFrom.out k : s.extract k l.length = S (l.drop k)))
  go_enter Try.func14, Try.ntmps14
  go_wp2_with fail
  go_loopw [3, 4] (fun b i wr => ∃ t : Nat, t ≤ l.length ∧ i = .int .i64 t ∧ ∃ o, o.length ≤ 4 * t ∧ Hid (o ++ decL' (l.drop t) = decL' l) ∧ Hid (Row w.heap.size b o wr) ∧ Hid (Below w.heap.size w wr)) (fun _ i _ => l.length - (intOf i).toNat)
  case atStart => exact ⟨0, Nat.zero_le _, rfl, [], by simp, rfl, World.ownsRow_nil _ _ _ _, Below.refl _ _⟩
  case round =>
    obtain ⟨t, ht, rfl, o, hol, ho, hrow, hb⟩ := hrel
    by_cases hlt : t < l.length
    · have hks : t < s.size := by omega
      obtain ⟨h', hx⟩ := HX.out t hks
      have hf := HFrom.out t
      have hone := HOne.out t wr
      rw [← hf] at hone
      have j0 : (0 : Int) ≤ (t : Int) := by omega
      have j1 : (t : Int) < (l.length : Int) := by omega
      have j2 : (t : Int) ≤ (l.length : Int) := by omega
      obtain ⟨m, hm⟩ : ∃ m, m = o.length := ⟨_, rfl⟩
      have hrow' : wr.ownsRow w.heap.size 5 1 u3 m (o.map Mem.bv) := by rw [hm]; exact hrow.out
      have HR := Lib.hid hrow'
      have hml : m ≤ 536870912 := by omega
      have HM := Lib.hid hm
      have hxn : s[t].toNat = l[t].toNat := by rw [hx]
      have hxu : s[t].toNat < 256 := s[t].toNat_lt
      have hlen := one_len (l.drop t)
      have hsl := one_slen (l.drop t)
      rw [List.length_drop] at hlen
      have HolT := Lib.hid hol
      clear hrow' hrow hm hf
      by_cases hz : (oneL (l.drop t)).2 = 0
      · have HN : Hid ((o ++ [l[t]]) ++ decL' (l.drop (t + 1)) = decL' l) := by
          show _ = _
          rw [← ho.out, List.append_assoc]
          congr 1
          have e : l.drop t = l[t] :: l.drop (t + 1) := List.drop_eq_getElem_cons hlt
          rw [e] at hz ⊢
          rw [dec_plain _ _ hz]
          rfl
        rw [one_zero hz] at hone
        have hpc : (s[t].toNat : Int) = (l[t].toNat : Int) := by rw [hxn]
        have HPC := Lib.hid hpc
        clear hxn hx hpc hz hlen hsl
        generalize l[t] = c at HN HPC
        go_wp2_with fail
        refine hone.mono ?_
        rintro e w2 ⟨rfl, hb2⟩
        have HR2 := Lib.hid (own_kept HR.out hb2)
        have HB2 := Lib.hid (hb.out.trans (hb2.mono hb.out.size))
        have hB : w.heap.size ≤ w2.heap.size := HB2.out.size
        clear hb2 hone
        go_wp2_with (at_builtin; refine wpList_append_own _ rfl _ _ 39 rfl w.heap.size 5 i0 (.int .u8 0) 1 1 Try.underlying39 hi hz0 hz1 hz2 rfl (by decide) _ _ _ rfl (HR2.out.alloc _) ⟨w2.heap.size, 0, none⟩ 1 1 [Mem.bv c] rfl rfl (push_cell HPC.out) push_one (by unfold maxLen; omega) (by omega) (by simp; omega) ?_)
        intro v' w3 hown hg _
        have HO2 : Hid (Row w.heap.size v' (o ++ [c]) w3) := by
          show Row _ _ _ _
          refine Row.more ?_
          rw [← HM.out]
          exact hown
        have HB3 : Hid (Below w.heap.size w w3) := (HB2.out.alloc hB _).grown hg (by simp; omega) (own_base HR2.out)
        clear hown hg
        go_wp2_with fail
        go_roundw
        case rel => exact ⟨t + 1, by omega, by go_num, o ++ [c], by rw [List.length_append, List.length_singleton]; have := HolT.out; omega, HN, HO2, HB3⟩
        case measure => simp [intOf]; omega
      · have HN : Hid ((o ++ (oneL (l.drop t)).1) ++ decL' (l.drop (t + (oneL (l.drop t)).2)) = decL' l) := by
          show _ = _
          rw [← ho.out, List.append_assoc]
          congr 1
          rw [dec_ref _ hz, List.drop_drop]
        have hzp : 0 < (oneL (l.drop t)).2 := by omega
        have hzb : (((oneL (l.drop t)).2 : Int) == 0) = false := by simp; exact hz
        clear hxn hx hz
        generalize (oneL (l.drop t)).1 = st at hone HN hsl
        generalize (oneL (l.drop t)).2 = n at hone HN hlen hzp hzb
        have HC := Lib.hid (cells_S st)
        have hstz : (S st).size ≤ 4 := by rw [size_S]; exact hsl
        have HSl := Lib.hid hsl
        clear hsl
        generalize S st = T at hone HC hstz
        go_wp2_with fail
        refine hone.mono ?_
        rintro e w2 ⟨rfl, hb2⟩
        have HR2 := Lib.hid (own_kept HR.out hb2)
        have HB2 := Lib.hid (hb.out.trans (hb2.mono hb.out.size))
        have hB : w.heap.size ≤ w2.heap.size := HB2.out.size
        clear hb2 hone
        go_wp2_with (at_builtin; refine Lib.wpList_append_own_string _ rfl _ _ 39 9 rfl w.heap.size 5 i0 Try.underlying39 Try.underlying9 hi hz0 hz1 hz2 _ m _ rfl HR2.out T rfl (by unfold maxLen; omega) (by omega) hB ?_)
        intro v' w3 hown hg _
        have HO2 : Hid (Row w.heap.size v' (o ++ st) w3) := by
          show Row _ _ _ _
          refine Row.more ?_
          rw [← HC.out.1, ← HC.out.2, ← HM.out]
          exact hown
        have HB3 : Hid (Below w.heap.size w w3) := HB2.out.grown hg hB (own_base HR2.out)
        clear hown hg
        go_wp2_with fail
        go_roundw
        case rel => exact ⟨t + n, by omega, by go_num, o ++ st, by rw [List.length_append]; have := HolT.out; have := HSl.out; omega, HN, HO2, HB3⟩
        case measure => simp [intOf]; omega
    · have hkl : t = l.length := by omega
      subst hkl
      have hd : o = decL' l := by
        have := ho.out
        rw [List.drop_length, dec_nil', List.append_nil] at this
        exact this
      have hcv := conv_own hrow.out
      rw [hd] at hcv
      clear hd
      go_wp2_with fail
      go_ret
      exact ⟨rfl, hb.out⟩

end Go.Proofs.Ytidfcajhmldieaa.Crf

/-
  The page's reader of HTML in memory: its box, its lists, what keeps them apart; a list of tokens in memory.
-/
namespace Go.Proofs.Ytidfcajhmldieaa.Tok
open Go.RowKit Go.Proofs.Ytidfcajhmldieaa.Oct Go.Proofs.Ytidfcajhmldieaa.Utf Go.Proofs.Ytidfcajhmldieaa.Crf Go.Proofs.Ytidfcajhmldieaa.Tab Go.Proofs.Ytidfcajhmldieaa.Mem

theorem at_T (l : List UInt8) (k : Nat) (h : k < l.length) : (S l)[k]'(by rw [size_S]; exact h) = l[k] := by
  rw [ByteArray.getElem_eq_getElem_data]; simp
/-- An attribute's cells; a list of attributes in memory. -/
abbrev atCs (a : At) : List Value := [.string (S a.n), .string (S a.v)]
def AtR (base : Nat) (w : World) (v : Value) (al : List At) : Prop := w.ownsRow base 34 2 v al.length (al.flatMap atCs)
/-- A token's cells, its attributes' list given; a list of tokens in memory, each with its attributes' list. -/
abbrev tkCs (p : Tk × Value) : List Value := [.int .i64 p.1.k, .string (S p.1.n), .string (S p.1.x), p.2, .bool p.1.c]
def TkR (base : Nat) (w : World) (v : Value) (ps : List (Tk × Value)) : Prop := w.ownsRow base 31 5 v ps.length (ps.flatMap tkCs)
/-- Two lists lie apart. -/
def Sep (a b : Value) : Prop := ∀ k, a.ownBlock = some k → b.ownBlock ≠ some k
theorem sep_nil (a : Value) : Sep a (.slice none 0 0) := fun _ _ h => by cases h
theorem nil_sep (a : Value) : Sep (.slice none 0 0) a := fun _ h => by cases h
theorem Sep.symm {a b : Value} (h : Sep a b) : Sep b a := fun k h1 h2 => h k h2 h1
/-- What a row moves to lies apart, if it lay apart or is new. -/
theorem Sep.moved {w : World} {a b b' : Value} (h : Sep a b) (hlt : ∀ k, a.ownBlock = some k → k < w.heap.size) (hm : b'.ownBlock = b.ownBlock ∨ b'.ownBlock = some w.heap.size) : Sep a b' := fun k hk hb => by
  rcases hm with hm | hm
  · exact h k hk (by rw [← hm]; exact hb)
  · rw [hm] at hb
    have := hlt k hk
    injection hb with hb
    omega
theorem own_lt {w : World} {base n size : Nat} {e : TypeId} {v : Value} {xs : List Value} (h : w.ownsRow base e size v n xs) : ∀ k, v.ownBlock = some k → k < w.heap.size := fun k hk => (h.lt k hk).2
theorem own_ge {w : World} {base n size : Nat} {e : TypeId} {v : Value} {xs : List Value} (h : w.ownsRow base e size v n xs) : ∀ k, v.ownBlock = some k → base ≤ k := fun k hk => (h.lt k hk).1
/-- A row stays where its block does. -/
theorem own_same {w w' : World} {base n size : Nat} {e : TypeId} {v : Value} {xs : List Value} (h : w.ownsRow base e size v n xs) (hs : ∀ k, base ≤ k → v.ownBlock = some k → w'.heap[k]? = w.heap[k]?) : w'.ownsRow base e size v n xs := by
  refine ⟨h.1, ?_⟩
  rcases h.2 with hn | ⟨g, cap, cur, rfl, hb, hg, rest⟩
  · exact .inl hn
  · exact .inr ⟨g, cap, cur, rfl, hb, by rw [hs g hb rfl]; exact hg, rest⟩
theorem own_grown {w w' : World} {base n size : Nat} {e : TypeId} {v b : Value} {xs : List Value} (h : w.ownsRow base e size v n xs) (hg : w.grownBy w' b.ownBlock) (hs : Sep v b) : w'.ownsRow base e size v n xs :=
  own_same h fun k _ hk => hg.block k (own_lt h k hk) (fun e => hs k hk e.symm)
theorem own_set {w : World} {R i : Nat} {x : Value} {n size : Nat} {e : TypeId} {v : Value} {xs : List Value} (h : w.ownsRow (R + 1) e size v n xs) : (w.setCell ⟨R, i, none⟩ x).ownsRow (R + 1) e size v n xs :=
  own_same h fun k hk _ => heap_setCell_other _ _ _ _ (by simp; omega)

/-- The reader's box. -/
abbrev boxC (l : List UInt8) (vo vt va : Value) (r : Rd) : Array Value :=
  #[.string (S l), vo, .int .i64 (r.st : Int), vt, .int .i64 r.tg.k, .string (S r.tg.n), .string (S r.tg.x), va, .bool r.tg.c, .string (S r.av.n), .string (S r.av.v), .int .u8 (r.q.toNat : Int), .string (S r.rw), .int .i64 (r.kd : Int)]
section
variable {R : Nat} {l : List UInt8} {r : Rd} {vo vt va : Value} {ps : List (Tk × Value)} {w : World}
end
theorem below_set {R i : Nat} {a w : World} (v : Value) (h : Below R a w) : Below R a (w.setCell ⟨R, i, none⟩ v) :=
  ⟨h.os, h.tape, h.output, by simp [World.setCell]; exact h.size, fun k hk => (heap_setCell_other _ _ _ _ (by simp; omega)).trans (h.block k hk)⟩
/-- The new cells, as an append of a list's literal asks for them. -/
theorem push_cells {w : World} {T : TypeId} {cs : List Value} (j : Nat) (u : Value) (h : cs[j]? = some u) : (w.alloc (.cells cs.toArray T)).cell? ((⟨w.heap.size, 0, none⟩ : Addr).add j) = some u := by
  have e : (⟨w.heap.size, 0, none⟩ : Addr).add j = ⟨w.heap.size, j, none⟩ := by simp [Addr.add]; omega
  rw [e]
  exact (cell_of_row _ _ j _ _ _ (heap_alloc_new w _)).trans (by simpa using h)
theorem own_one {w : World} {base n size : Nat} {e : TypeId} {v : Value} {xs : List Value} (h : w.ownsRow base e size v n xs) : v.oneCell' = true := by
  rcases h.2 with ⟨rfl, _⟩ | ⟨g, cap, cur, rfl, _⟩ <;> rfl
theorem own_slice {w : World} {base n size : Nat} {e : TypeId} {v : Value} {xs : List Value} (h : w.ownsRow base e size v n xs) : ∃ p j c, v = .slice p j c := by
  rcases h.2 with ⟨rfl, _⟩ | ⟨g, cap, cur, rfl, _⟩
  · exact ⟨_, _, _, rfl⟩
  · exact ⟨_, _, _, rfl⟩
theorem push_tok {p : Tk × Value} (h : p.2.oneCell' = true) : ∀ u ∈ tkCs p, u.oneCell' = true := by
  intro u hu
  simp only [List.mem_cons, List.not_mem_nil, or_false] at hu
  rcases hu with rfl | rfl | rfl | rfl | rfl
  · rfl
  · rfl
  · rfl
  · exact h
  · rfl
theorem info_tok : (Try.prog.info? 31).map (fun i => (i.zero, i.size, i.bytes)) = some (some (.agg #[.int .i64 0, .string ⟨#[]⟩, .string ⟨#[]⟩, .slice none 0 0, .bool false]), 5, 72) := by kernel_rfl
theorem info_att : (Try.prog.info? 34).map (fun i => (i.zero, i.size, i.bytes)) = some (some (.agg #[.string ⟨#[]⟩, .string ⟨#[]⟩]), 2, 32) := by kernel_rfl
theorem box_set {w : World} {R : Nat} {c : Array Value} {T : TypeId} (i : Nat) (x : Value) (h : w.heap[R]? = some (.cells c T (0, 0))) : (w.setCell ⟨R, i, none⟩ x).heap[R]? = some (.cells (c.setIfInBounds i x) T (0, 0)) := heap_setCell_same w R i _ _ x h
/-- The world behind a tag that was told: its list, and the tag on its way anew. -/
abbrev clearTag (R : Nat) (w : World) : World :=
  ((((w.setCell ⟨R, 4, none⟩ (.int .i64 0)).setCell ⟨R, 5, none⟩ (.string ⟨#[]⟩)).setCell ⟨R, 6, none⟩ (.string ⟨#[]⟩)).setCell ⟨R, 7, none⟩ (.slice none 0 0)).setCell ⟨R, 8, none⟩ (.bool false)
theorem grown_drew {w w' : World} {b : Option Nat} (h : w.drew.grownBy w' b) : w.grownBy w' b := ⟨h.os, h.tape, h.output, h.size, h.block⟩
theorem push_att {a : At} : ∀ u ∈ atCs a, u.oneCell' = true := by
  intro u hu
  simp only [List.mem_cons, List.not_mem_nil, or_false] at hu
  rcases hu with rfl | rfl <;> rfl
end Go.Proofs.Ytidfcajhmldieaa.Tok

/-
  Contracts of the page's Elements, Element, Attribute and Void.
-/
namespace Go.Proofs.Ytidfcajhmldieaa.Tab
open Go.RowKit Go.Proofs.Ytidfcajhmldieaa.Oct

theorem eqT (a b : List UInt8) : ((S a).toList == (S b).toList) = decide (a = b) := by
  rw [ByteArray.toList_eq, ByteArray.toList_eq, list_S, list_S, Bool.eq_iff_iff]
  simp
theorem eqTL (a b : List UInt8) : ((S a).toList == b) = decide (a = b) := by
  rw [ByteArray.toList_eq, list_S, Bool.eq_iff_iff]
  simp
/-- A list of texts that lies in a block. -/
def Texts (g : Nat) (ls : List (List UInt8)) (w : World) : Prop := ∀ j, (h : j < ls.length) → w.cell? ⟨g, j, none⟩ = some (.string (S ls[j]))

theorem laid_texts (ls : List (List UInt8)) (w : World) : Texts w.heap.size ls (w.alloc (.cells (ls.map (fun l => Value.string (S l))).toArray 9)) := by
  intro j h
  have hh : (w.alloc (.cells (ls.map (fun l => Value.string (S l))).toArray 9)).heap[w.heap.size]? = some (.cells (ls.map (fun l => Value.string (S l))).toArray 9 (0, 0)) := heap_alloc_new w _
  unfold World.cell?
  rw [hh]
  simp [h]

/-- Contract of the page's Begins. -/
theorem rpre_c (p l : List UInt8) (w : World) :
    Calls Try.prog 13 #[.string (S p), .string (S l)] w fun e w' => e = .returned (.bool (preL p l)) ∧ w = w' := by
  have z1 : ((S p).size : Int) = (p.length : Int) := by rw [size_S]
  have z2 : ((S l).size : Int) = (l.length : Int) := by rw [size_S]
  by_cases h : p.length ≤ l.length
  · have hcut : (S l).extract 0 p.length = S (l.take p.length) := by rw [Lib.extract_eq]; simp [S]
    have HE : Hid (preL p l = ((S (l.take p.length)).toList == (S p).toList)) := by
      show _ = _
      rw [eqT]
      unfold preL
      rw [Bool.eq_iff_iff, decide_eq_true_eq, decide_eq_true_eq, List.prefix_iff_eq_take]
      exact eq_comm
    generalize S (l.take p.length) = T at hcut HE
    generalize S p = P at z1 HE
    generalize S l = L at z2 hcut
    have h1 : (p.length : Int) ≤ (l.length : Int) := by omega
    have h2 : (0 : Int) ≤ (p.length : Int) := by omega
    go_enter Try.func13, Try.ntmps13
    go_wp2
    go_ret
    exact ⟨by rw [HE.out]; rfl, rfl⟩
  · have HE : Hid (preL p l = false) := decide_eq_false fun hp => h hp.length_le
    generalize S p = P at z1
    generalize S l = L at z2
    have h1 : decide ((p.length : Int) ≤ (l.length : Int)) = false := decide_eq_false (by omega)
    have h2 : decide (p.length ≤ l.length) = false := decide_eq_false h
    go_enter Try.func13, Try.ntmps13
    go_wp2
    go_ret
    exact ⟨by rw [HE.out]; rfl, rfl⟩

end Go.Proofs.Ytidfcajhmldieaa.Tab

/-
  Contracts of package tables: specials, Element, Elements, Attribute, Void, and of the closures that they look by.
-/
namespace Go.Proofs.Ytidfcajhmldieaa.Tab
open Go.RowKit Go.Proofs.Ytidfcajhmldieaa.Oct

/-! ### The row of elements -/
/-- The elements of 1 to 4 as they lie in a block: two cells each, a name and a kind. -/
def Specs (g : Nat) (w : World) : Prop := ∀ j, (h : j < elsL.length) → w.cell? ⟨g, j * 2, none⟩ = some (.string (S elsL[j])) ∧ w.cell? ⟨g, j * 2 + 1, none⟩ = some (.int .i64 (codeN j : Nat))
theorem Specs.kept {g : Nat} {w w' : World} (h : Specs g w) (hb : Below w.heap.size w w') : Specs g w' := fun j hj =>
  ⟨(hb.cell (World.block_lt_of_cell? w _ (h j hj).1)).trans (h j hj).1, (hb.cell (World.block_lt_of_cell? w _ (h j hj).2)).trans (h j hj).2⟩
abbrev specA : Array Value := (((List.range 10).zip elsL).flatMap fun p => [Value.string (S p.2), Value.int .i64 (codeN p.1 : Nat)]).toArray
theorem laid_specs (w : World) : Specs w.heap.size (w.alloc (.cells specA 94)) := by
  have hh : (w.alloc (.cells specA 94)).heap[w.heap.size]? = some (.cells specA 94 (0, 0)) := heap_alloc_new w _
  have hall : ∀ j : Fin 10, specA[j.val * 2]? = some (.string (S elsL[j.val])) ∧ specA[j.val * 2 + 1]? = some (.int .i64 (codeN j.val : Nat)) := by
    intro ⟨j, hj⟩
    have : j = 0 ∨ j = 1 ∨ j = 2 ∨ j = 3 ∨ j = 4 ∨ j = 5 ∨ j = 6 ∨ j = 7 ∨ j = 8 ∨ j = 9 := by omega
    rcases this with rfl | rfl | rfl | rfl | rfl | rfl | rfl | rfl | rfl | rfl <;> exact ⟨rfl, rfl⟩
  intro j h
  have hj := hall ⟨j, h⟩
  unfold World.cell?
  rw [hh]
  exact ⟨by simpa using hj.1, by simpa using hj.2⟩
theorem specials_c (w : World) :
    Calls Try.prog 77 #[] w fun e w' => ∃ g, e = .returned (.slice (some ⟨g, 0, none⟩) 10 10) ∧ Specs g w' ∧ Below w.heap.size w w' := by
  go_enter Try.func77, Try.ntmps77
  go_wp2_with fail
  go_ret
  exact ⟨_, rfl, laid_specs w, (Below.refl _ w).alloc (Nat.le_refl _) _⟩

/-! ### Element -/
theorem same_name (x s : List UInt8) (c : Int) (b : Nat) (w : World) (hb : w.cell? ⟨b, 0, none⟩ = some (.string (S s))) (hlt : b < w.heap.size) :
    Calls Try.prog 79 #[.agg #[.string (S x), .int .i64 c], .pointer (some ⟨b, 0, none⟩)] w fun e w' => e = .returned (.bool (decide (x = s))) ∧ Below w.heap.size w w' := by
  have he := eqT x s
  generalize decide (x = s) = ans at he ⊢
  generalize S x = X at he ⊢
  generalize S s = T at he hb
  have hb2 : (w.alloc (.cells #[.string X, .int .i64 c] 94)).cell? ⟨b, 0, none⟩ = some (.string T) := by rw [World.cell?_alloc_past _ _ _ hlt]; exact hb
  go_enter Try.func79, Try.ntmps79
  go_wp2_with fail
  go_ret
  exact ⟨rfl, (Below.refl _ w).alloc (Nat.le_refl _) _⟩
theorem enter_same : ∀ args w, (callFunc 79 args).run Try.prog w = .ok (.enter 79 args) w := enters_of Try.func79 (by kernel_rfl) rfl
def placeI (s : List UInt8) : Int := match placeL s elsL with
  | some k => (k : Nat)
  | none => -1
set_option maxHeartbeats 2000000 in
theorem index_c (s : List UInt8) (g b : Nat) (w : World) (hs : Specs g w) (hb : w.cell? ⟨b, 0, none⟩ = some (.string (S s))) :
    Calls Try.prog 78 #[.slice (some ⟨g, 0, none⟩) 10 10, .func (.func 79) #[] #[.pointer (some ⟨b, 0, none⟩)]] w
      fun e w' => e = .returned (.int .i64 (placeI s)) ∧ Below w.heap.size w w' := by
  have hlt := World.block_lt_of_cell? w _ hb
  have eg := enter_same
  have HS := Lib.hid hs
  have HC := Lib.hid (fun (W : World) (h : Below w.heap.size w W) (x : List UInt8) (c : Int) => same_name x s c b W ((h.cell hlt).trans hb) (Nat.lt_of_lt_of_le hlt h.size))
  have HP : Hid (∀ k, (hk : k < elsL.length) → (∀ j, (h : j < elsL.length) → j < k → elsL[j] ≠ s) → elsL[k] = s → placeI s = (k : Nat)) := fun k hk hn he => by
    unfold placeI
    rw [place_some hk hn he]
  have HQ : Hid ((∀ k, (h : k < elsL.length) → elsL[k] ≠ s) → placeI s = -1) := fun h => by
    unfold placeI
    rw [place_none h]
  generalize placeI s = ans at HP HQ ⊢
  clear hs hb hlt
  go_enter Try.func78, Try.ntmps78
  go_wp2
  go_loopw [5, 8] (fun _ i wr => ∃ k : Nat, k ≤ 10 ∧ i = .int .i64 k ∧ Hid (Below w.heap.size w wr) ∧ Hid (∀ j, (h : j < elsL.length) → j < k → elsL[j] ≠ s)) (fun _ i _ => 10 - (intOf i).toNat)
  case atStart => exact ⟨0, Nat.zero_le _, rfl, Below.refl _ _, fun j _ h => absurd h (by omega)⟩
  case round =>
    obtain ⟨k, hk, rfl, hbel, hno⟩ := hrel
    by_cases hlt : k < 10
    · have hlt2 : k < elsL.length := hlt
      obtain ⟨c1, c2⟩ := (HS.out.kept hbel.out) k hlt2
      have hcall := HC.out wr hbel.out elsL[k] (codeN k : Nat)
      have hp := HP.out k hlt2 hno.out
      have i0 : (0 : Int) ≤ (k : Int) := by omega
      have i1 : (k : Int) < 10 := by omega
      generalize (codeN k : Int) = c at c2 hcall
      obtain ⟨x, hx⟩ : ∃ x, x = elsL[k] := ⟨_, rfl⟩
      rw [← hx] at c1 hcall hp
      have HX := Lib.hid hx
      clear hx
      by_cases hq : x = s
      · have HR := Lib.hid (hp hq)
        rw [decide_eq_true hq] at hcall
        clear hq hp
        generalize S x = X at c1 hcall
        go_wp2_with (go_at_fn 79; refine hcall.mono ?_; rintro e w' ⟨rfl, hb'⟩)
        go_ret
        exact ⟨ret_int (by rw [HR.out]), hbel.out.trans (hb'.mono hbel.out.size)⟩
      · have HN : Hid (∀ j, (h : j < elsL.length) → j < k + 1 → elsL[j] ≠ s) := fun j h hj => by
          rcases Nat.lt_or_ge j k with h2 | h2
          · exact hno.out j h h2
          · obtain rfl : j = k := by omega
            rw [← HX.out]; exact hq
        rw [decide_eq_false hq] at hcall
        clear hq hp
        generalize S x = X at c1 hcall
        go_wp2_with (go_at_fn 79; refine hcall.mono ?_; rintro e w' ⟨rfl, hb'⟩)
        go_roundw
        case rel => exact ⟨k + 1, by omega, by go_num, hbel.out.trans (hb'.mono hbel.out.size), HN⟩
        case measure => simp [intOf]; omega
    · have HR := Lib.hid (HQ.out fun j h => hno.out j h (by have : j < 10 := h; omega))
      go_wp2
      go_ret
      exact ⟨ret_int (by rw [HR.out]), hbel.out⟩

theorem place_lt {s : List UInt8} : ∀ {l : List (List UInt8)} {k : Nat}, placeL s l = some k → k < l.length
  | [], k, h => by cases h
  | x :: r, k, h => by
    unfold placeL at h
    split at h
    · cases h; simp
    · cases hp : placeL s r with
      | none => rw [hp] at h; cases h
      | some m =>
        rw [hp] at h
        cases h
        have := place_lt hp
        simp only [List.length_cons]
        omega
set_option maxHeartbeats 1000000 in
theorem element_c (s : List UInt8) (w : World) :
    Calls Try.prog 67 #[.string (S s)] w fun e w' => e = .returned (.int .i64 (elemN s : Nat)) ∧ Below w.heap.size w w' := by
  have hx := fun g b W => index_c s g b W
  have E0 : Hid (placeL s elsL = none → placeI s = -1 ∧ elemN s = 0) := fun h => by unfold placeI elemN; rw [h]; exact ⟨rfl, rfl⟩
  have E1 : Hid (∀ k, placeL s elsL = some k → placeI s = (k : Nat) ∧ elemN s = codeN k ∧ k < 10) := fun k h => by
    have hl : k < elsL.length := place_lt h
    unfold placeI elemN
    rw [h]
    exact ⟨rfl, rfl, hl⟩
  generalize elemN s = ans at E0 E1 ⊢
  generalize placeI s = at0 at E0 E1 hx
  generalize placeL s elsL = pl at E0 E1
  generalize S s = T at hx ⊢
  have hc0 : (w.alloc (.cells #[.string T] 9)).cell? ⟨w.heap.size, 0, none⟩ = some (.string T) := by simp
  have HC0 := Lib.hid hc0
  clear hc0
  go_enter Try.func67, Try.ntmps67
  go_wp2_with fail
  refine (specials_c _).mono ?_
  rintro e w1 ⟨g, rfl, hs, hb1⟩
  have hcell : w1.cell? ⟨w.heap.size, 0, none⟩ = some (.string T) := (hb1.cell (by simp)).trans HC0.out
  have HB1 : Hid (Below w.heap.size w w1) := ((Below.refl _ w).alloc (Nat.le_refl _) _).trans (hb1.mono (by simp))
  have hcall := hx g w.heap.size w1 hs hcell
  have HS := Lib.hid hs
  clear hs hb1 hx HC0 hcell
  go_wp2_with fail
  refine hcall.mono ?_
  rintro e w2 ⟨rfl, hb2⟩
  have HS2 := Lib.hid (HS.out.kept hb2)
  have HB2 : Hid (Below w.heap.size w w2) := HB1.out.trans (hb2.mono HB1.out.size)
  clear hb2 hcall HS HB1
  cases pl with
  | none =>
    obtain ⟨rfl, rfl⟩ := E0.out rfl
    clear E0 E1
    go_wp2_with fail
    go_ret
    exact ⟨rfl, HB2.out⟩
  | some k =>
    obtain ⟨rfl, rfl, hk⟩ := E1.out k rfl
    clear E0 E1
    have c2 := (HS2.out k hk).2
    have i0 : (0 : Int) ≤ (k : Int) := by omega
    have i1 : (k : Int) < 10 := by omega
    have i2 : ¬ (k : Int) < 0 := by omega
    generalize hcd : (codeN k : Int) = c at c2
    have HD := Lib.hid hcd
    clear hcd
    go_wp2_with fail
    go_ret
    exact ⟨ret_int HD.out.symm, HB2.out⟩

/-! ### Void -/
/-! ### Attribute -/
abbrev noneL : List (List UInt8) := [] :: nosL
end Go.Proofs.Ytidfcajhmldieaa.Tab

/-
  Contract of tables.Elements: the ten names, in a list of the call's own.
-/
namespace Go.Proofs.Ytidfcajhmldieaa.Tab
open Go.RowKit Go.Proofs.Ytidfcajhmldieaa.Oct

theorem info_text : (Try.prog.info? 9).map (fun i => (i.zero, i.size, i.bytes)) = some (some (.string ⟨#[]⟩), 1, 16) := by kernel_rfl
theorem tclone_c (s : ByteArray) (w : World) (hs : s.size ≤ 140737488351232) :
    Calls Try.prog 51 #[.string s] w fun e w' => e = .returned (.string s) ∧ Below w.heap.size w w' := by
  go_enter Try.func51, Try.ntmps51
  go_wp2_with (go_at_call 70; refine (Try.stringslite_Clone s _ (by omega)).mono ?_; rintro e w1 ⟨rfl, hb⟩)
  go_ret
  exact ⟨rfl, hb⟩
theorem own_kept {w w' : World} {base n size : Nat} {e : TypeId} {v : Value} {xs : List Value} (h : w.ownsRow base e size v n xs) (hb : Below w.heap.size w w') : w'.ownsRow base e size v n xs := by
  refine h.kept (row := none) ⟨hb.os, hb.tape, hb.output, hb.size, fun k hk _ => hb.block k hk⟩ ?_
  rcases h.2 with ⟨rfl, _⟩ | ⟨g, cap, cur, rfl, _⟩
  · exact .inl rfl
  · exact .inr (by simp [Value.ownBlock])
/-- The cells behind k rounds. -/
def namesAt (ks : List (List UInt8)) (k : Nat) : List Value := (ks.take k).map (fun l => Value.string (S l)) ++ List.replicate (ks.length - k) (Value.string ⟨#[]⟩)
theorem namesAt_zero (ks : List (List UInt8)) : namesAt ks 0 = List.replicate ks.length (Value.string ⟨#[]⟩) := by simp [namesAt]
theorem namesAt_succ (ks : List (List UInt8)) (k : Nat) (h : k < ks.length) : (namesAt ks k).set k (Value.string (S ks[k])) = namesAt ks (k + 1) := by
  unfold namesAt
  have e : ks.length - k = (ks.length - (k + 1)) + 1 := by omega
  rw [e, List.replicate_succ, List.set_append_right _ _ (by simp; omega)]
  have e2 : k - ((ks.take k).map (fun l => Value.string (S l))).length = 0 := by simp; omega
  rw [e2, List.set_cons_zero, List.take_succ_eq_append_getElem h, List.map_append, List.map_singleton, List.append_assoc, List.singleton_append]
theorem namesAt_at (ks : List (List UInt8)) (k : Nat) (h : k < ks.length) : (namesAt ks k)[k]? = some (Value.string ⟨#[]⟩) := by
  unfold namesAt
  rw [List.getElem?_append_right (by simp; omega), List.getElem?_replicate, if_pos (by simp; omega)]
theorem namesAt_full (ks : List (List UInt8)) (j : Nat) (h : j < ks.length) : (namesAt ks ks.length)[j]? = some (Value.string (S ks[j])) := by
  simp [namesAt, h]

end Go.Proofs.Ytidfcajhmldieaa.Tab

/-
  The reader of package tokens in memory, and contracts of the calls that ask it: what it passes, takes, has read; the octets that are asked for.
-/
namespace Go.Proofs.Ytidfcajhmldieaa.Tkc
open Go.RowKit Go.Proofs.Ytidfcajhmldieaa.Oct Go.Proofs.Ytidfcajhmldieaa.Utf Go.Proofs.Ytidfcajhmldieaa.Crf Go.Proofs.Ytidfcajhmldieaa.Tab Go.Proofs.Ytidfcajhmldieaa.Tok

/-- What the reader panics with. -/
abbrev faultV (n : Int) : Value := .iface 50 (.agg #[.int .i64 n])
abbrev Fault (n : Int) : Ending := .panicked [{ v := faultV n, recovered := false }]
/-- The reader's box. -/
abbrev boxT (l : List UInt8) (k : Nat) (vo : Value) : Array Value := #[.string (S l), .int .i64 (k : Int), vo]
def Bx (R : Nat) (l : List UInt8) (k : Nat) (vo : Value) (w : World) : Prop := w.heap[R]? = some (.cells (boxT l k vo) 42 (0, 0))
/-- All that lay in w lies as it lay, but for the block R. -/
structure Keeps (R : Nat) (w w' : World) : Prop where
  os : w'.os = w.os
  tape : w'.tape = w.tape
  output : w'.output = w.output
  size : w.heap.size ≤ w'.heap.size
  block : ∀ k, k < w.heap.size → k ≠ R → w'.heap[k]? = w.heap[k]?
theorem Keeps.refl (R : Nat) (w : World) : Keeps R w w := ⟨rfl, rfl, rfl, Nat.le_refl _, fun _ _ _ => rfl⟩
theorem Keeps.trans {R : Nat} {a b c : World} (h : Keeps R a b) (k : Keeps R b c) : Keeps R a c :=
  ⟨k.os.trans h.os, k.tape.trans h.tape, k.output.trans h.output, Nat.le_trans h.size k.size, fun i hi hR => (k.block i (Nat.lt_of_lt_of_le hi h.size) hR).trans (h.block i hi hR)⟩
theorem Keeps.of {R : Nat} {w w' : World} (h : Below w.heap.size w w') : Keeps R w w' := ⟨h.os, h.tape, h.output, h.size, fun k hk _ => h.block k hk⟩
theorem Keeps.set {R i : Nat} (w : World) (v : Value) : Keeps R w (w.setCell ⟨R, i, none⟩ v) :=
  ⟨rfl, rfl, rfl, by simp [World.setCell], fun k _ hR => heap_setCell_other _ _ _ _ (by simpa using hR)⟩
theorem Keeps.drew {R : Nat} {a w : World} (h : Keeps R a w) : Keeps R a w.drew := ⟨h.os, h.tape, h.output, h.size, h.block⟩
theorem Keeps.drewN {R : Nat} {a w : World} (h : Keeps R a w) (n : Nat) : Keeps R a (w.drewN n) := h.trans (.of (Oct.below_drewN (Below.refl _ w) n))
theorem Keeps.below {R : Nat} {w w' : World} (h : Keeps R w w') (hR : R ≤ w.heap.size) : Below R w w' := ⟨h.os, h.tape, h.output, h.size, fun k hk => h.block k (by omega) (by omega)⟩
section
variable {R : Nat} {l : List UInt8} {k : Nat} {vo : Value} {w : World}
theorem Bx.lt (h : Bx R l k vo w) : R < w.heap.size := (Array.getElem?_eq_some_iff.1 h).1
theorem Bx.cell (h : Bx R l k vo w) (i : Nat) : w.cell? ⟨R, i, none⟩ = (boxT l k vo)[i]? := cell_of_row w R i _ _ _ h
theorem Bx.froz (h : Bx R l k vo w) (i : Nat) : w.frozen? ⟨R, i, none⟩ = false := frozen_of_row w R i _ _ h
theorem Bx.at_ (h : Bx R l k vo w) (j : Nat) : Bx R l j vo (w.setCell ⟨R, 1, none⟩ (.int .i64 (j : Int))) := heap_setCell_same w R 1 _ _ _ h
theorem Bx.out (h : Bx R l k vo w) (v : Value) : Bx R l k v (w.setCell ⟨R, 2, none⟩ v) := heap_setCell_same w R 2 _ _ _ h
theorem Bx.keep {w' : World} (h : Bx R l k vo w) (hb : Below w.heap.size w w') : Bx R l k vo w' := (hb.block R h.lt).trans h
theorem Bx.drewN (h : Bx R l k vo w) (n : Nat) : Bx R l k vo (w.drewN n) := h.keep (Oct.below_drewN (Below.refl _ w) n)
end

theorem demand_yes (n : Int) (w : World) : Calls Try.prog 52 #[.bool true, .int .i64 n] w fun e w' => e = .returned (.tuple #[]) ∧ w' = w := by
  go_enter Try.func52, Try.ntmps52
  go_wp2
  go_end0
  exact ⟨rfl, rfl⟩
theorem demand_no (n : Int) (w : World) : Calls Try.prog 52 #[.bool false, .int .i64 n] w fun e w' => e = Fault n ∧ w' = w := by
  go_enter Try.func52, Try.ntmps52
  go_wp2
  exact ⟨rfl, rfl, rfl⟩

/-! ### Octets that are asked for -/
theorem one_of (s : ByteArray) (c : Int) (w : World) :
    Calls Try.prog 75 #[.int .u8 c, .string s] w fun e w' => e = .returned (.bool (decide (0 ≤ Lib.indexByte s.data.toList c.toNat.toUInt8))) ∧ w = w' := by
  have h := Try.strings_IndexByte s c w
  generalize Lib.indexByte s.data.toList c.toNat.toUInt8 = i at h ⊢
  go_enter Try.func75, Try.ntmps75
  go_wp2_with (go_at_call 84; refine h.mono ?_; rintro e w' ⟨rfl, rfl⟩)
  go_ret
  exact ⟨rfl, rfl⟩
theorem one_two : ∀ x : Fin 256, decide (0 ≤ Lib.indexByte [47, 62] (UInt8.ofNat x.val)) = (UInt8.ofNat x.val == 47 || UInt8.ofNat x.val == 62) := by decide +kernel
theorem one_end : ∀ x : Fin 256, decide (0 ≤ Lib.indexByte [62] (UInt8.ofNat x.val)) = (UInt8.ofNat x.val == 62) := by decide +kernel
theorem one_eq : ∀ x : Fin 256, decide (0 ≤ Lib.indexByte [61] (UInt8.ofNat x.val)) = (UInt8.ofNat x.val == 61) := by decide +kernel
theorem oct_eq (c : UInt8) : (c.toNat : Int).toNat.toUInt8 = c := by simp
theorem two_c (c : UInt8) (w : World) : Calls Try.prog 75 #[.int .u8 (c.toNat : Int), .string ⟨#[47, 62]⟩] w fun e w' => e = .returned (.bool (c == 47 || c == 62)) ∧ w = w' := by
  have h := one_of ⟨#[47, 62]⟩ (c.toNat : Int) w
  have e := one_two ⟨c.toNat, c.toNat_lt⟩
  simp only [UInt8.ofNat_toNat] at e
  rw [oct_eq] at h
  rw [← e]
  exact h
theorem end_c (c : UInt8) (w : World) : Calls Try.prog 75 #[.int .u8 (c.toNat : Int), .string ⟨#[62]⟩] w fun e w' => e = .returned (.bool (c == 62)) ∧ w = w' := by
  have h := one_of ⟨#[62]⟩ (c.toNat : Int) w
  have e := one_end ⟨c.toNat, c.toNat_lt⟩
  simp only [UInt8.ofNat_toNat] at e
  rw [oct_eq] at h
  rw [← e]
  exact h
theorem eq_c (c : UInt8) (w : World) : Calls Try.prog 75 #[.int .u8 (c.toNat : Int), .string ⟨#[61]⟩] w fun e w' => e = .returned (.bool (c == 61)) ∧ w = w' := by
  have h := one_of ⟨#[61]⟩ (c.toNat : Int) w
  have e := one_eq ⟨c.toNat, c.toNat_lt⟩
  simp only [UInt8.ofNat_toNat] at e
  rw [oct_eq] at h
  rw [← e]
  exact h
theorem nm_c (c : UInt8) (w : World) : Calls Try.prog 61 #[.int .u8 (c.toNat : Int)] w fun e w' => e = .returned (.bool (inNm c)) ∧ w = w' := by
  have hb : ∀ w, Calls Try.prog 63 #[.int .u8 (c.toNat : Int)] w fun e w' => e = .returned (.bool (blB c)) ∧ w = w' := fun w => blank_c (c.toNat : Int) w
  have ho := two_c c
  unfold inNm
  generalize (c == 47 || c == 62) = x at ho ⊢
  generalize blB c = b at hb ⊢
  generalize (c.toNat : Int) = n at *
  cases b <;> cases x
  all_goals go_enter Try.func61, Try.ntmps61
  all_goals go_wp2_with (first
    | (go_at_call 63; refine (hb _).mono ?_; rintro e w' ⟨rfl, rfl⟩)
    | (go_at_call 75; refine (ho _).mono ?_; rintro e w' ⟨rfl, rfl⟩))
  all_goals go_ret
  all_goals exact ⟨rfl, rfl⟩
theorem bare_c (c : UInt8) (w : World) : Calls Try.prog 66 #[.int .u8 (c.toNat : Int)] w fun e w' => e = .returned (.bool (inBare c)) ∧ w = w' := by
  have hb : ∀ w, Calls Try.prog 63 #[.int .u8 (c.toNat : Int)] w fun e w' => e = .returned (.bool (blB c)) ∧ w = w' := fun w => blank_c (c.toNat : Int) w
  have ho := end_c c
  unfold inBare
  generalize (c == 62) = x at ho ⊢
  generalize blB c = b at hb ⊢
  generalize (c.toNat : Int) = n at *
  cases b <;> cases x
  all_goals go_enter Try.func66, Try.ntmps66
  all_goals go_wp2_with (first
    | (go_at_call 63; refine (hb _).mono ?_; rintro e w' ⟨rfl, rfl⟩)
    | (go_at_call 75; refine (ho _).mono ?_; rintro e w' ⟨rfl, rfl⟩))
  all_goals go_ret
  all_goals exact ⟨rfl, rfl⟩
theorem at_c (c : UInt8) (w : World) : Calls Try.prog 65 #[.int .u8 (c.toNat : Int)] w fun e w' => e = .returned (.bool (inAt c)) ∧ w = w' := by
  have hb := nm_c c
  have ho := eq_c c
  unfold inAt
  generalize (c == 61) = x at ho ⊢
  generalize inNm c = b at hb ⊢
  generalize (c.toNat : Int) = n at *
  cases b <;> cases x
  all_goals go_enter Try.func65, Try.ntmps65
  all_goals go_wp2_with (first
    | (go_at_call 61; refine (hb _).mono ?_; rintro e w' ⟨rfl, rfl⟩)
    | (go_at_call 75; refine (ho _).mono ?_; rintro e w' ⟨rfl, rfl⟩))
  all_goals go_ret
  all_goals exact ⟨rfl, rfl⟩
theorem quote_c (c q : UInt8) (b : Nat) (w : World) (hq : w.cell? ⟨b, 0, none⟩ = some (.string (S [q]))) : Calls Try.prog 58 #[.int .u8 (c.toNat : Int), .pointer (some ⟨b, 0, none⟩)] w fun e w' => e = .returned (.bool (!(c == q))) ∧ w = w' := by
  have E : Hid ((!(c == q)) = (((c.toNat : Int)) != ((q.toNat : Int)))) := by
    show _ = _
    rw [Bool.eq_iff_iff]
    simp only [bne_iff_ne, ne_eq, Int.natCast_inj, UInt8.toNat_inj, Bool.not_eq_true', beq_eq_false_iff_ne]
  go_enter Try.func58, Try.ntmps58
  go_wp2
  go_ret
  exact ⟨ret_bool E.out.symm, rfl⟩
theorem enter_nm : ∀ args w, (callFunc 61 args).run Try.prog w = .ok (.enter 61 args) w := enters_of Try.func61 (by kernel_rfl) rfl
theorem enter_bare : ∀ args w, (callFunc 66 args).run Try.prog w = .ok (.enter 66 args) w := enters_of Try.func66 (by kernel_rfl) rfl
theorem enter_at : ∀ args w, (callFunc 65 args).run Try.prog w = .ok (.enter 65 args) w := enters_of Try.func65 (by kernel_rfl) rfl
theorem enter_blank : ∀ args w, (callFunc 63 args).run Try.prog w = .ok (.enter 63 args) w := enters_of Try.func63 (by kernel_rfl) rfl
theorem enter_quote : ∀ args w, (callFunc 58 args).run Try.prog w = .ok (.enter 58 args) w := enters_of Try.func58 (by kernel_rfl) rfl
end Go.Proofs.Ytidfcajhmldieaa.Tkc

/-
  What the reader's plain machine does outside of tags, as the code of package tokens asks for it: data, what opens there, remarks, what is no markup, raw text.
-/
namespace Go.Proofs.Ytidfcajhmldieaa.Tkc
open Go.Proofs.Ytidfcajhmldieaa.Oct Go.Proofs.Ytidfcajhmldieaa.Utf Go.Proofs.Ytidfcajhmldieaa.Crf Go.Proofs.Ytidfcajhmldieaa.Tab Go.Proofs.Ytidfcajhmldieaa.Tok

/-- The octets from the place f up to the place k. -/
def cut (l : List UInt8) (f k : Nat) : List UInt8 := (l.take k).drop f
theorem cut_nil (l : List UInt8) (k : Nat) : cut l k k = [] := by
  unfold cut
  rw [List.drop_take, Nat.sub_self, List.take_zero]
theorem cut_succ {l : List UInt8} {f k : Nat} (hk : k < l.length) (hf : f ≤ k) : cut l f (k + 1) = cut l f k ++ [l[k]] := by
  unfold cut
  rw [List.take_succ_eq_append_getElem hk, List.drop_append_of_le_length (by rw [List.length_take]; omega)]
/-- A text that is told, if it is not empty. -/
def tx (x : List UInt8) : List Tk := if x = [] then [] else [txTk x]
theorem text_tx (d : Bool) (r : Rd) (x : List UInt8) (h : (if d then decL' r.tx else r.tx) = x) : (textR d r).out = r.out ++ tx x := by
  rw [text_out d r x h]
  unfold tx
  split <;> simp
theorem step_bogus (c : UInt8) (t : List UInt8) (r : Rd) (h0 : r.st = 13) : stepR c t r = bogusR c r := by
  unfold stepR outR
  rw [h0]
  rfl
/-- In data, from f on a text is on its way. -/
def DataMid (l : List UInt8) (f k : Nat) (out : List Tk) : Prop := ∃ r, tokL l = LL l k r ∧ r.st = 0 ∧ r.tx = cut l f k ∧ r.out = out
/-- At k something opens, of which the first octet was read. -/
def OpenAt (l : List UInt8) (k : Nat) (out : List Tk) : Prop := ∃ r, tokL l = LL l (k + 1) r ∧ r.st = 1 ∧ r.tx = [] ∧ r.out = out
def RawAt (l : List UInt8) (f k : Nat) (out : List Tk) (nm : List UInt8) (kd : Nat) : Prop := ∃ r, tokL l = LL l k r ∧ r.st = 15 ∧ r.tx = cut l f k ∧ r.out = out ∧ r.rw = nm ∧ r.kd = kd
theorem data_start (l : List UInt8) : DataMid l 0 0 [] := ⟨rd0, rfl, rfl, (cut_nil l 0).symm, rfl⟩
section
variable {l : List UInt8} {f k : Nat} {out : List Tk}
theorem data_at (h : DataMid l k k out) : ∃ r, tokL l = LL l k r ∧ r.st = 0 ∧ r.tx = [] ∧ r.out = out := by
  obtain ⟨r, e, s, x, o⟩ := h
  exact ⟨r, e, s, by rw [x, cut_nil], o⟩
theorem data_go (hk : k < l.length) (hf : f ≤ k) (ho : opens l[k] (l.drop (k + 1)) = false) (h : DataMid l f k out) : DataMid l f (k + 1) out := by
  obtain ⟨r, e, s, x, o⟩ := h
  refine ⟨addT l[k] r, e.trans (ll_step hk ?_), s, ?_, o⟩
  · rw [step_data _ _ _ s]
    unfold dataR
    rw [ho]
    rfl
  · show r.tx ++ [l[k]] = _
    rw [x, cut_succ hk hf]
theorem data_open (hk : k < l.length) (ho : opens l[k] (l.drop (k + 1)) = true) (h : DataMid l f k out) : OpenAt l k (out ++ tx (decL' (cut l f k))) := by
  obtain ⟨r, e, s, x, o⟩ := h
  refine ⟨goR 1 (textR true r), e.trans (ll_step hk ?_), rfl, (text_facts true r).2.1, ?_⟩
  · rw [step_data _ _ _ s]
    unfold dataR
    rw [ho]
    rfl
  · show (textR true r).out = _
    rw [text_tx true r (decL' (cut l f k)) (by rw [x]; rfl), o]
theorem data_end (hk : ¬ k < l.length) (h : DataMid l f k out) : tokL l = out ++ tx (decL' (cut l f k)) := by
  obtain ⟨r, e, s, x, o⟩ := h
  rw [e, ll_end hk]
  unfold lastR
  rw [if_pos s, text_tx true r (decL' (cut l f k)) (by rw [x]; rfl), o]
theorem data_len (h : OpenAt l k out) : out.length ≤ (tokL l).length := by
  obtain ⟨r, e, s, x, o⟩ := h
  rw [e, ← o]
  exact ll_out _ _ _
theorem mid_len (h : DataMid l f k out) : out.length ≤ (tokL l).length := by
  obtain ⟨r, e, s, x, o⟩ := h
  rw [e, ← o]
  exact ll_out _ _ _
theorem raw_len {nm : List UInt8} {kd : Nat} (h : RawAt l f k out nm kd) : out.length ≤ (tokL l).length := by
  obtain ⟨r, e, s, x, o, _⟩ := h
  rw [e, ← o]
  exact ll_out _ _ _
theorem data_none (h : tokL l = out) : DataMid l l.length l.length out := by
  refine ⟨{ rd0 with out := out }, ?_, rfl, (cut_nil l _).symm, rfl⟩
  rw [ll_end (by omega)]
  unfold lastR
  rw [if_pos rfl, text_tx true _ [] rfl]
  show _ = out ++ []
  rw [List.append_nil, h]
/-! ### Tags -/
theorem open_start (hk : k + 1 < l.length) (hb : letB l[k + 1] = true) (h : OpenAt l k out) : ∃ r, tokL l = LL l (k + 1) r ∧ r.st = 3 ∧ r.tg = ⟨1, [], [], [], false⟩ ∧ r.out = out ∧ r.tx = [] := by
  obtain ⟨r, e, s, x, o⟩ := h
  have hn : ∀ c : Fin 256, letB (UInt8.ofNat c.val) = true → UInt8.ofNat c.val ≠ 47 ∧ UInt8.ofNat c.val ≠ 33 ∧ UInt8.ofNat c.val ≠ 63 := by decide +kernel
  have hc := hn ⟨l[k + 1].toNat, l[k + 1].toNat_lt⟩
  simp only [UInt8.ofNat_toNat] at hc
  obtain ⟨h1, h2, h3⟩ := hc hb
  refine ⟨{ r with st := 3, tg := { noTk with k := 1 } }, e.trans (ll_step (n := 0) hk ?_), rfl, rfl, o, x⟩
  rw [step_open _ _ _ s]
  unfold openR
  rw [if_neg h1, if_neg h2, if_neg h3]
theorem open_slash (hk : k + 1 < l.length) (hc : l[k + 1] = 47) (h : OpenAt l k out) : ∃ r, tokL l = LL l (k + 2) r ∧ r.st = 2 ∧ r.out = out ∧ r.tx = [] := by
  obtain ⟨r, e, s, x, o⟩ := h
  refine ⟨goR 2 r, e.trans (ll_step (n := 1) hk ?_), rfl, o, x⟩
  rw [step_open _ _ _ s]
  unfold openR
  rw [if_pos hc]
theorem open_endTag (hk : k + 2 < l.length) (hc : l[k + 1] = 47) (hb : letB l[k + 2] = true) (h : OpenAt l k out) : ∃ r, tokL l = LL l (k + 2) r ∧ r.st = 3 ∧ r.tg = ⟨2, [], [], [], false⟩ ∧ r.out = out ∧ r.tx = [] := by
  obtain ⟨r, e, s, o, x⟩ := open_slash (by omega) hc h
  refine ⟨{ r with st := 3, tg := { noTk with k := 2 } }, e.trans (ll_step (n := 0) hk ?_), rfl, rfl, o, x⟩
  rw [step_endOpen _ _ _ s]
  unfold endOpenR
  rw [if_pos hb]
theorem end_start {r0 : Rd} {k1 : Nat} {n : List UInt8} {al : List At} {cl : Bool} (e0 : tokL l = LL l k1 r0) (ho : r0.out = out) (hx : r0.tx = []) (h : TagEnd l k1 r0 1 k n al cl) :
    if 1 ≤ elemN n ∧ elemN n ≤ 3 then RawAt l k k (out ++ [⟨1, n, [], al, cl⟩]) n (elemN n) else DataMid l k k (out ++ [⟨1, n, [], al, cl⟩]) := by
  obtain ⟨r, e, g, o, x⟩ := h
  have ht : toldT r.tg = ⟨1, n, [], al, cl⟩ := by
    rw [g]
    rfl
  have hr : rawK (toldT r.tg) = decide (1 ≤ elemN n ∧ elemN n ≤ 3) := by
    rw [ht]
    unfold rawK
    simp
  by_cases hw : 1 ≤ elemN n ∧ elemN n ≤ 3
  · rw [if_pos hw]
    have he : endR r = { r with out := r.out ++ [toldT r.tg], tg := noTk, st := 15, rw := (toldT r.tg).n, kd := elemN (toldT r.tg).n } := by
      unfold endR
      rw [hr, decide_eq_true hw]
      rfl
    refine ⟨endR r, e0.trans e, by rw [he], ?_, ?_, ?_, ?_⟩
    · rw [he, cut_nil]; show r.tx = []; rw [x, hx]
    · rw [he]; show r.out ++ [toldT r.tg] = _; rw [ht, o, ho]
    · rw [he]; show (toldT r.tg).n = n; rw [ht]
    · rw [he]; show elemN (toldT r.tg).n = _; rw [ht]
  · rw [if_neg hw]
    have he : endR r = { r with out := r.out ++ [toldT r.tg], tg := noTk, st := 0 } := by
      unfold endR
      rw [hr, decide_eq_false hw]
      rfl
    refine ⟨endR r, e0.trans e, by rw [he], ?_, ?_⟩
    · rw [he, cut_nil]; show r.tx = []; rw [x, hx]
    · rw [he]; show r.out ++ [toldT r.tg] = _; rw [ht, o, ho]
theorem end_end {r0 : Rd} {k1 : Nat} {n : List UInt8} {al : List At} {cl : Bool} (e0 : tokL l = LL l k1 r0) (ho : r0.out = out) (hx : r0.tx = []) (h : TagEnd l k1 r0 2 k n al cl) : DataMid l k k (out ++ [⟨2, n, [], [], false⟩]) := by
  obtain ⟨r, e, g, o, x⟩ := h
  have ht : toldT r.tg = ⟨2, n, [], [], false⟩ := by
    rw [g]
    rfl
  have he : endR r = { r with out := r.out ++ [toldT r.tg], tg := noTk, st := 0 } := by
    unfold endR
    rw [ht]
    rfl
  refine ⟨endR r, e0.trans e, by rw [he], ?_, ?_⟩
  · rw [he, cut_nil]; show r.tx = []; rw [x, hx]
  · rw [he]; show r.out ++ [toldT r.tg] = _; rw [ht, o, ho]
/-! ### Raw text -/
variable {nm : List UInt8} {kd : Nat}
def rawX (kd : Nat) (x : List UInt8) : List UInt8 := if (kd == 1) = true then decL' x else x
theorem raw_go (hk : k < l.length) (hf : f ≤ k) (hh : hits nm (l.drop k) = false) (h : RawAt l f k out nm kd) : RawAt l f (k + 1) out nm kd := by
  obtain ⟨r, e, s, x, o, w, d⟩ := h
  refine ⟨addT l[k] r, e.trans (ll_step hk ?_), s, ?_, o, w, d⟩
  · rw [step_raw _ _ _ s]
    unfold rawR
    rw [← List.drop_eq_getElem_cons hk, w, hh]
    rfl
  · show r.tx ++ [l[k]] = _
    rw [x, cut_succ hk hf]
theorem raw_end (hk : ¬ k < l.length) (h : RawAt l f k out nm kd) : tokL l = out ++ tx (rawX kd (cut l f k)) := by
  obtain ⟨r, e, s, x, o, w, d⟩ := h
  rw [e, ll_end hk]
  unfold lastR
  rw [if_neg (by omega), if_pos s, text_tx _ r (rawX kd (cut l f k)) (by rw [x, d]; rfl), o]
theorem letters_in : ∀ c : Fin 256, letB (low (UInt8.ofNat c.val)) = true → inNm (UInt8.ofNat c.val) = true ∧ letB (UInt8.ofNat c.val) = true := by decide +kernel
theorem letter_in {c : UInt8} (h : letB (low c) = true) : inNm c = true ∧ letB c = true := by
  have := letters_in ⟨c.toNat, c.toNat_lt⟩
  simp only [UInt8.ofNat_toNat] at this
  exact this h
theorem run_names (p : List UInt8) : ∀ (t : List UInt8) (r : Rd), r.st = 3 → (∀ c ∈ p, inNm c = true) → runR (p ++ t) r = runR t { r with tg := { r.tg with n := r.tg.n ++ p.map low } } := by
  induction p with
  | nil => intro t r _ _; simp
  | cons c p ih =>
    intro t r s h
    obtain ⟨c1, c2, c3⟩ := in_nm (h c (by simp))
    rw [List.cons_append, run_cons, step_name _ _ _ s]
    unfold tnameR again
    rw [c1, if_neg (by simp), if_neg c2, if_neg c3]
    show runR (p ++ t) ({ r with tg := { r.tg with n := r.tg.n ++ [low c] } } : Rd) = _
    rw [ih t ({ r with tg := { r.tg with n := r.tg.n ++ [low c] } } : Rd) s (fun d hd => h d (by simp [hd]))]
    simp
theorem raw_hit (hl : ∀ c ∈ nm, letB c = true ∧ low c = c) (hne : nm ≠ []) (hh : hits nm (l.drop k) = true) (h : RawAt l f k out nm kd) : DataMid l k k (out ++ tx (rawX kd (cut l f k))) := by
  obtain ⟨r, e, s, x, o, w, d⟩ := h
  have ho : (textR (r.kd == 1) r).out = out ++ tx (rawX kd (cut l f k)) := by rw [text_tx _ r (rawX kd (cut l f k)) (by rw [x, d]; rfl), o]
  have hx := (text_facts (r.kd == 1) r).2.1
  refine ⟨{ textR (r.kd == 1) r with st := 0 }, ?_, rfl, by rw [cut_nil]; exact hx, ho⟩
  rw [e]
  have hlow : nm.map low = nm := by
    conv => rhs; rw [← List.map_id nm]
    exact List.map_congr_left fun c hc => (hl c hc).2
  have hpre : (60 :: 47 :: nm) <+: (l.drop k).map low := by
    unfold hits at hh
    rw [Bool.and_eq_true] at hh
    have := List.isPrefixOf_iff_prefix.1 hh.1
    rw [List.map_cons, List.map_cons, hlow] at this
    exact this
  have hm : ∀ c : Fin 256, (low (UInt8.ofNat c.val) = 60 → UInt8.ofNat c.val = 60) ∧ (low (UInt8.ofNat c.val) = 47 → UInt8.ofNat c.val = 47) := by decide +kernel
  have hm2 : ∀ c : UInt8, (low c = 60 → c = 60) ∧ (low c = 47 → c = 47) := fun c => by
    have := hm ⟨c.toNat, c.toNat_lt⟩
    simp only [UInt8.ofNat_toNat] at this
    exact this
  obtain ⟨z, hz⟩ := hpre
  unfold LL
  match hd : l.drop k, hz with
  | [], hz => simp at hz
  | [_], hz => simp at hz
  | a :: b :: y, hz =>
    rw [List.map_cons, List.map_cons, List.cons_append, List.cons_append] at hz
    injection hz with h1 hz
    injection hz with h2 hz
    have ha := (hm2 a).1 h1.symm
    have hb := (hm2 b).2 h2.symm
    subst ha hb
    obtain ⟨p, q, rfl, hp, hq⟩ : ∃ p q, y = p ++ q ∧ p.map low = nm ∧ q.map low = z := by
      refine ⟨y.take nm.length, y.drop nm.length, (List.take_append_drop _ _).symm, ?_, ?_⟩
      · rw [List.map_take, ← hz, List.take_left]
      · rw [List.map_drop, ← hz, List.drop_left]
    have hpl : p.length = nm.length := by rw [← hp, List.length_map]
    have hin : ∀ c ∈ p, inNm c = true ∧ letB c = true := fun c hc => letter_in (by
      have : low c ∈ nm := by rw [← hp]; exact List.mem_map.2 ⟨c, hc, rfl⟩
      exact (hl _ this).1)
    congr 1
    -- the raw text's end, at once
    have e1 : runR (60 :: 47 :: (p ++ q)) r = runR q { textR (r.kd == 1) r with st := 3, tg := { noTk with k := 2, n := p.map low } } := by
      rw [run_cons, step_raw _ _ _ s]
      unfold rawR
      rw [w]
      rw [hd] at hh
      rw [hh, if_pos rfl]
      show runR ((60 :: 47 :: (p ++ q)).drop (2 + nm.length)) _ = _
      rw [Nat.add_comm 2, show nm.length + 2 = nm.length + 1 + 1 from rfl, List.drop_succ_cons, List.drop_succ_cons, ← hpl, List.drop_left]
      show runR q { textR (r.kd == 1) r with st := 3, tg := { noTk with k := 2, n := ((p ++ q).take p.length).map low } } = _
      rw [List.take_left]
    -- as in data
    obtain ⟨c, p', hc⟩ := List.exists_cons_of_ne_nil (show p ≠ [] by rintro rfl; exact hne (by rw [← hp]; rfl))
    have hlc : letB c = true := (hin c (by rw [hc]; simp)).2
    rw [e1]
    generalize textR (r.kd == 1) r = R at hx
    have e2 : runR (60 :: 47 :: (p ++ q)) ({ R with st := 0 } : Rd) = runR (47 :: (p ++ q)) ({ R with st := 1 } : Rd) := by
      rw [run_cons, step_data _ _ _ rfl]
      unfold dataR
      have hop : opens 60 (47 :: (p ++ q)) = true := by
        unfold opens
        rw [hc]
        rfl
      rw [hop]
      show runR (47 :: (p ++ q)) (goR 1 (textR true { R with st := 0 })) = _
      congr 1
      obtain ⟨ro, rs, rx, rg, ra, rq, rw', rd⟩ := R
      have hx' : rx = [] := hx
      subst hx'
      rfl
    have e3 : runR (47 :: (p ++ q)) ({ R with st := 1 } : Rd) = runR (p ++ q) ({ R with st := 2 } : Rd) := by
      rw [run_cons, step_open _ _ _ rfl]
      rfl
    have e4 : runR (p ++ q) ({ R with st := 2 } : Rd) = runR (p ++ q) ({ R with st := 3, tg := { noTk with k := 2 } } : Rd) := by
      conv => lhs; rw [hc, List.cons_append, run_cons, step_endOpen _ _ _ rfl]
      unfold endOpenR
      rw [if_pos hlc, hc]
      rfl
    rw [e2, e3, e4, run_names p q _ rfl (fun c hc => (hin c hc).1)]
    rfl
/-! ### Remarks, and what is no markup -/
theorem open_com (hd : [60, 33, 45, 45].isPrefixOf (l.drop k) = true) (h : OpenAt l k out) : ∃ r, tokL l = LL l (k + 4) r ∧ r.st = 14 ∧ r.tx = [] ∧ r.out = out := by
  obtain ⟨r, e, s, x, o⟩ := h
  have hp := List.isPrefixOf_iff_prefix.1 hd
  obtain ⟨z, hz⟩ := hp
  have d1 : l.drop (k + 1) = 33 :: 45 :: 45 :: z := by rw [← List.drop_drop, ← hz]; rfl
  have d4 : l.drop (k + 4) = z := by rw [← List.drop_drop, ← hz]; rfl
  refine ⟨goR 14 (goR 12 r), e.trans ?_, rfl, x, o⟩
  unfold LL
  rw [d1, d4, run_cons, step_open _ _ _ s]
  show lastR (runR (45 :: 45 :: z) (goR 12 r)) = _
  rw [run_cons, step_bang _ _ _ rfl]
  rfl
theorem com_cut {x : List UInt8} {i : Nat} (h1 : Lib.occAt x [45, 45, 62] i = true) (h2 : Lib.NoOcc x [45, 45, 62] i) (hi : i ≤ x.length) (r : Rd) (s : r.st = 14) (htx : r.tx = []) :
    runR x r = runR (x.drop (i + 3)) { r with out := r.out ++ [⟨4, [], x.take i, [], false⟩], tx := [], st := 0 } := by
  have e := run_comment (x.take i) (x.drop i) r s (fun j hj => by
    rw [List.take_append_drop]
    exact h2 j (by rw [List.length_take] at hj; omega))
  rw [List.take_append_drop] at e
  rw [e]
  unfold Lib.occAt at h1
  obtain ⟨z, hz⟩ := List.isPrefixOf_iff_prefix.1 h1
  have d3 : x.drop (i + 3) = z := by rw [← List.drop_drop, ← hz]; rfl
  rw [d3, ← hz]
  show runR (45 :: 45 :: 62 :: z) _ = _
  rw [run_cons, step_comment 45 (45 :: 62 :: z) ({ r with tx := r.tx ++ x.take i } : Rd) s]
  unfold commentR
  rw [if_pos (by rfl)]
  show runR z _ = _
  congr 1
  show ({ r with out := r.out ++ [⟨4, [], r.tx ++ x.take i, [], false⟩], tx := [], st := 0 } : Rd) = _
  rw [htx, List.nil_append]
/-- Where a remark's text ends, and where what follows begins. -/
theorem com_end (hd : [60, 33, 45, 45].isPrefixOf (l.drop k) = true) (h : OpenAt l k out) :
    DataMid l (l.length - (Lib.cut (l.drop (k + 4)) [45, 45, 62]).2.1.length) (l.length - (Lib.cut (l.drop (k + 4)) [45, 45, 62]).2.1.length) (out ++ [⟨4, [], (Lib.cut (l.drop (k + 4)) [45, 45, 62]).1, [], false⟩]) := by
  obtain ⟨r, e, s, x, o⟩ := open_com hd h
  unfold Lib.cut
  rcases Lib.index_spec (l.drop (k + 4)) [45, 45, 62] with ⟨hi, hno⟩ | ⟨i, hi, hle, hocc, hno⟩
  · rw [hi, if_neg (by decide)]
    show DataMid l (l.length - 0) (l.length - 0) (out ++ [⟨4, [], l.drop (k + 4), [], false⟩])
    rw [Nat.sub_zero]
    refine data_none ?_
    have e2 := run_comment (l.drop (k + 4)) [] r s (fun j hj => by rw [List.append_nil]; exact hno j (Nat.le_of_lt hj))
    rw [List.append_nil] at e2
    rw [e]
    unfold LL
    rw [e2, run_nil]
    unfold lastR
    rw [if_neg (by rw [s]; decide), if_neg (by rw [s]; decide), if_pos s]
    show r.out ++ [⟨4, [], r.tx ++ l.drop (k + 4), [], false⟩] = _
    rw [x, List.nil_append, o]
  · have hroom := Lib.index_room (l.drop (k + 4)) [45, 45, 62] (by rw [hi]; omega)
    rw [hi, if_pos (by omega)]
    rw [hi] at hroom
    rw [List.length_drop] at hroom
    have h3 : ([45, 45, 62] : List UInt8).length = 3 := rfl
    rw [h3] at hroom ⊢
    rw [Int.toNat_natCast]
    have hp : l.length - ((l.drop (k + 4)).drop (i + 3)).length = k + 4 + (i + 3) := by
      rw [List.length_drop, List.length_drop]
      omega
    show DataMid l (l.length - ((l.drop (k + 4)).drop (i + 3)).length) (l.length - ((l.drop (k + 4)).drop (i + 3)).length) (out ++ [⟨4, [], (l.drop (k + 4)).take i, [], false⟩])
    rw [hp]
    refine ⟨{ r with out := r.out ++ [⟨4, [], (l.drop (k + 4)).take i, [], false⟩], tx := [], st := 0 }, ?_, rfl, (cut_nil l _).symm, ?_⟩
    · rw [e]
      unfold LL
      rw [com_cut hocc hno hle r s x, List.drop_drop]
    · show r.out ++ _ = _
      rw [o]
theorem run_bogus (p : List UInt8) : ∀ (t : List UInt8) (r : Rd), r.st = 13 → (∀ c ∈ p, c ≠ 62) → runR (p ++ t) r = runR t r := by
  induction p with
  | nil => intro t r _ _; rfl
  | cons c p ih =>
    intro t r s h
    rw [List.cons_append, run_cons, step_bogus _ _ _ s]
    unfold bogusR
    rw [if_neg (h c (by simp))]
    exact ih t r s (fun d hd => h d (by simp [hd]))
/-- What begins as markup and is none, up to its end. -/
theorem bog_run (x : List UInt8) (r : Rd) (s : r.st = 13) (htx : r.tx = []) : ∃ r', lastR (runR x r) = lastR (runR (Lib.cut x [62]).2.1 r') ∧ r'.st = 0 ∧ r'.tx = [] ∧ r'.out = r.out := by
  have hne : ∀ (y : List UInt8) (n : Nat), (∀ j, j < n → Lib.occAt y [62] j = false) → ∀ c ∈ y.take n, c ≠ 62 := by
    intro y n hn c hc
    obtain ⟨j, hj, rfl⟩ := List.getElem_of_mem hc
    have hjn : j < n := by rw [List.length_take] at hj; omega
    have hjl : j < y.length := by rw [List.length_take] at hj; omega
    have := hn j hjn
    unfold Lib.occAt at this
    rw [List.drop_eq_getElem_cons hjl] at this
    rw [List.getElem_take]
    intro e
    rw [e] at this
    simp [List.isPrefixOf] at this
  unfold Lib.cut
  rcases Lib.index_spec x [62] with ⟨hi, hno⟩ | ⟨i, hi, hle, hocc, hno⟩
  · rw [hi, if_neg (by decide)]
    refine ⟨{ r with st := 0 }, ?_, rfl, htx, rfl⟩
    have e := run_bogus x [] r s (fun c hc => by
      have := hne x (x.length) (fun j hj => hno j (Nat.le_of_lt hj)) c (by rw [List.take_length]; exact hc)
      exact this)
    rw [List.append_nil] at e
    rw [e, run_nil, run_nil, last_tag (by omega)]
    unfold lastR
    rw [if_pos rfl, text_tx true _ [] (by show decL' r.tx = []; rw [htx]; rfl)]
    show _ = r.out ++ []
    rw [List.append_nil]
  · rw [hi, if_pos (by omega), Int.toNat_natCast]
    refine ⟨goR 0 r, ?_, rfl, htx, rfl⟩
    have e := run_bogus (x.take i) (x.drop i) r s (hne x i hno)
    rw [List.take_append_drop] at e
    rw [e]
    unfold Lib.occAt at hocc
    obtain ⟨z, hz⟩ := List.isPrefixOf_iff_prefix.1 hocc
    have d1 : x.drop (i + 1) = z := by rw [← List.drop_drop, ← hz]; rfl
    show _ = lastR (runR (x.drop (i + 1)) (goR 0 r))
    rw [d1, ← hz]
    show lastR (runR (62 :: z) r) = _
    rw [run_cons, step_bogus _ _ _ s]
    rfl
theorem cut_skip (a : UInt8) (x : List UInt8) (h : a ≠ 62) : (Lib.cut (a :: x) [62]).2.1 = (Lib.cut x [62]).2.1 := by
  unfold Lib.cut
  have hb : ([62] : List UInt8).isPrefixOf (a :: x) = false := by
    simp [List.isPrefixOf]
    exact fun e => h e.symm
  have hge := Lib.index_ge x [62]
  have e : Lib.index (a :: x) [62] = if Lib.index x [62] == -1 then -1 else Lib.index x [62] + 1 := by
    conv => lhs; unfold Lib.index
    rw [hb]
    rfl
  by_cases h1 : Lib.index x [62] = -1
  · rw [e, h1]; rfl
  · have e2 : Lib.index (a :: x) [62] = Lib.index x [62] + 1 := by rw [e, if_neg (by simpa using h1)]
    rw [e2, if_pos (by omega), if_pos (by omega)]
    have : (Lib.index x [62] + 1).toNat = (Lib.index x [62]).toNat + 1 := by omega
    show (a :: x).drop ((Lib.index x [62] + 1).toNat + 1) = x.drop ((Lib.index x [62]).toNat + 1)
    rw [this, List.drop_succ_cons]
theorem cut_le (x s : List UInt8) : (Lib.cut x s).2.1.length ≤ x.length ∧ (Lib.cut x s).2.1 = x.drop (x.length - (Lib.cut x s).2.1.length) := by
  unfold Lib.cut
  split
  · constructor
    · show (x.drop _).length ≤ _
      rw [List.length_drop]; omega
    · show x.drop ((Lib.index x s).toNat + s.length) = x.drop (x.length - (x.drop ((Lib.index x s).toNat + s.length)).length)
      rw [List.length_drop]
      by_cases h : (Lib.index x s).toNat + s.length ≤ x.length
      · congr 1
        omega
      · rw [List.drop_eq_nil_of_le (by omega), List.drop_eq_nil_of_le (by omega)]
  · refine ⟨Nat.zero_le _, ?_⟩
    show [] = x.drop (x.length - 0)
    rw [Nat.sub_zero, List.drop_length]
/-- A second octet behind which nothing else begins. -/
theorem bog_end (hk : k + 1 < l.length) (h0 : l[k] = 60) (hc : l[k + 1] = 33 ∧ [45, 45].isPrefixOf (l.drop (k + 2)) = false ∨ l[k + 1] = 63 ∨ (l[k + 1] = 47 ∧ ∃ h2 : k + 2 < l.length, letB l[k + 2] = false)) (h : OpenAt l k out) :
    DataMid l (l.length - (Lib.cut (l.drop k) [62]).2.1.length) (l.length - (Lib.cut (l.drop k) [62]).2.1.length) out := by
  have d0 : l.drop k = l[k] :: l[k + 1] :: l.drop (k + 2) := by rw [List.drop_eq_getElem_cons (by omega), List.drop_eq_getElem_cons hk]
  have hsk : (Lib.cut (l.drop k) [62]).2.1 = (Lib.cut (l.drop (k + 2)) [62]).2.1 := by
    rw [d0, cut_skip _ _ (by rw [h0]; decide), cut_skip]
    rcases hc with ⟨h, _⟩ | h | ⟨h, _⟩ <;> rw [h] <;> decide
  have fin : ∀ r, tokL l = LL l (k + 2) r → r.st = 13 → r.tx = [] → r.out = out → DataMid l (l.length - (Lib.cut (l.drop k) [62]).2.1.length) (l.length - (Lib.cut (l.drop k) [62]).2.1.length) out := by
    intro r e s x o
    rw [hsk]
    obtain ⟨r', e', s', x', o'⟩ := bog_run (l.drop (k + 2)) r s x
    obtain ⟨c1, c2⟩ := cut_le (l.drop (k + 2)) [62]
    rw [List.length_drop] at c1 c2
    refine ⟨r', ?_, s', by rw [x', cut_nil], by rw [o', o]⟩
    rw [e]
    unfold LL
    rw [e']
    generalize (Lib.cut (l.drop (k + 2)) [62]).2.1 = Z at c1 c2 ⊢
    rw [List.drop_drop, show k + 2 + (l.length - (k + 2) - Z.length) = l.length - Z.length by omega] at c2
    rw [← c2]
  rcases hc with ⟨hc, hn⟩ | hc | ⟨hc, h2, hb⟩
  · obtain ⟨r, e, s, x, o⟩ := h
    have e1 : tokL l = LL l (k + 2) (goR 12 r) := e.trans (ll_step (n := 1) hk (by
      rw [step_open _ _ _ s]
      unfold openR
      rw [if_neg (by rw [hc]; decide), if_pos hc]))
    by_cases h3 : k + 2 < l.length
    · refine fin (goR 13 (goR 12 r)) (e1.trans (ll_step (n := 0) h3 ?_)) rfl x o
      rw [step_bang _ _ _ rfl, ← List.drop_eq_getElem_cons h3]
      unfold bangR
      rw [hn]
      rfl
    · refine fin (goR 13 (goR 12 r)) ?_ rfl x o
      rw [e1, ll_end h3, ll_end h3, last_tag (by show 1 ≤ 12 ∧ 12 ≤ 13; omega), last_tag (by show 1 ≤ 13 ∧ 13 ≤ 13; omega)]
      rfl
  · obtain ⟨r, e, s, x, o⟩ := h
    refine fin (goR 13 r) (e.trans (ll_step (n := 1) hk ?_)) rfl x o
    rw [step_open _ _ _ s]
    unfold openR
    rw [if_neg (by rw [hc]; decide), if_neg (by rw [hc]; decide), if_pos hc]
  · obtain ⟨r, e, s, o, x⟩ := open_slash hk hc h
    by_cases h62 : l[k + 2] = 62
    · have e1 : tokL l = LL l (k + 3) (goR 0 r) := e.trans (ll_step (n := 1) h2 (by
        rw [step_endOpen _ _ _ s]
        unfold endOpenR
        rw [if_neg (by rw [hb]; simp), if_pos h62]))
      have hcut : (Lib.cut (l.drop k) [62]).2.1 = l.drop (k + 3) := by
        rw [hsk, List.drop_eq_getElem_cons h2, h62]
        unfold Lib.cut
        have hi : Lib.index (62 :: l.drop (k + 3)) [62] = 0 := by
          unfold Lib.index
          rw [if_pos (by simp [List.isPrefixOf])]
        rw [hi]
        rfl
      have hp : l.length - (Lib.cut (l.drop k) [62]).2.1.length = k + 3 := by
        rw [hcut, List.length_drop]
        omega
      rw [hp]
      exact ⟨goR 0 r, e1, rfl, by rw [cut_nil]; exact x, o⟩
    · refine fin (goR 13 r) (e.trans (ll_step (n := 0) h2 ?_)) rfl x o
      rw [step_endOpen _ _ _ s]
      unfold endOpenR
      rw [if_neg (by rw [hb]; simp), if_neg h62]
end
end Go.Proofs.Ytidfcajhmldieaa.Tkc

/-
  Contracts of the reader of package tokens: since, passes, takes.
-/
namespace Go.Proofs.Ytidfcajhmldieaa.Tkc
open Go.RowKit Go.Proofs.Ytidfcajhmldieaa.Oct Go.Proofs.Ytidfcajhmldieaa.Utf Go.Proofs.Ytidfcajhmldieaa.Crf Go.Proofs.Ytidfcajhmldieaa.Tab Go.Proofs.Ytidfcajhmldieaa.Tok

theorem cut_ext (l : List UInt8) (f k : Nat) : (S l).extract f k = S (cut l f k) := by
  apply ByteArray.ext
  apply Array.toList_inj.1
  simp [cut, List.drop_take]
theorem cut_len {l : List UInt8} {f k : Nat} (hk : k ≤ l.length) : (cut l f k).length = k - f := by
  unfold cut
  rw [List.length_drop, List.length_take]
  omega
theorem cut_len_le (l : List UInt8) (f k : Nat) : (cut l f k).length ≤ l.length := by
  unfold cut
  rw [List.length_drop, List.length_take]
  omega

set_option maxHeartbeats 1000000 in
theorem since_c (R : Nat) (l : List UInt8) (k f : Nat) (vo : Value) (w : World) (h : Bx R l k vo w) (hf : f ≤ k) (hk : k ≤ l.length) :
    Calls Try.prog 25 #[.pointer (some ⟨R, 0, none⟩), .int .i64 (f : Int)] w fun e w' => e = .returned (.string (S (cut l f k))) ∧ ∃ m, w' = w.drewN m := by
  have hsz : ((S l).size : Int) = (l.length : Int) := by rw [size_S]
  have c0 : w.cell? ⟨R, 0, none⟩ = some (.string (S l)) := (h.cell 0).trans rfl
  have c1 : w.cell? ⟨R, 1, none⟩ = some (.int .i64 (k : Int)) := (h.cell 1).trans rfl
  have hcut := Lib.hid (cut_ext l f k)
  have i0 : (0 : Int) ≤ (f : Int) := by omega
  have i1 : (f : Int) ≤ (k : Int) := by omega
  have i2 : (k : Int) ≤ (l.length : Int) := by omega
  have i3 : (0 : Int) ≤ (k : Int) := by omega
  have i4 : f ≤ k := hf
  have i5 : k ≤ l.length := hk
  generalize S l = L at *
  clear h hf hk
  go_enter Try.func25, Try.ntmps25
  go_wp2
  go_quiet (fail)
  go_wp2
  go_ret
  exact ⟨by rw [← hcut.out]; rfl, _, rfl⟩

/-- Is there an octet, and is it wanted. -/
def passB (p : UInt8 → Bool) (l : List UInt8) (k : Nat) : Bool := match l[k]? with
  | some c => p c
  | none => false
/-- What is asked of a function value that tells of an octet whether it is wanted: it leaves memory alone. -/
def Asks (g : Nat) (lb : Array Value) (p : UInt8 → Bool) (w : World) : Prop :=
  ∀ (c : UInt8) (n : Nat), Calls Try.prog g (#[.int .u8 (c.toNat : Int)] ++ lb) (w.drewN n) fun e w' => e = .returned (.bool (p c)) ∧ w.drewN n = w'
/-- What passes leaves. -/
def Passes (R : Nat) (l : List UInt8) (k : Nat) (vo : Value) (w : World) (b : Bool) (e : Ending) (w' : World) : Prop :=
  e = .returned (.bool b) ∧ Bx R l (if b then k + 1 else k) vo w' ∧ Keeps R w w'

set_option maxHeartbeats 2000000 in
theorem passes_c (R : Nat) (l : List UInt8) (k : Nat) (vo : Value) (w : World) (h : Bx R l k vo w) (hl : l.length ≤ 65536) (hk0 : k ≤ l.length) (g : Nat) (lb : Array Value) (p : UInt8 → Bool)
    (eg : ∀ args w, (callFunc g args).run Try.prog w = .ok (.enter g args) w) (hp : Asks g lb p w) :
    Calls Try.prog 60 #[.pointer (some ⟨R, 0, none⟩), .func (.func g) #[] lb] w (Passes R l k vo w (passB p l k)) := by
  have hsz : ((S l).size : Int) = (l.length : Int) := by rw [size_S]
  have c0 : w.cell? ⟨R, 0, none⟩ = some (.string (S l)) := (h.cell 0).trans rfl
  have c1 : w.cell? ⟨R, 1, none⟩ = some (.int .i64 (k : Int)) := (h.cell 1).trans rfl
  have i0 : (0 : Int) ≤ (k : Int) := by omega
  have i3 : (k : Int) ≤ 65536 := by omega
  have HW := Lib.hid h
  by_cases hk : k < l.length
  · have hb : passB p l k = p l[k] := by unfold passB; rw [List.getElem?_eq_getElem hk]
    rw [hb]
    obtain ⟨c, hcc⟩ : ∃ c, c = l[k] := ⟨_, rfl⟩
    rw [← hcc]
    obtain ⟨L, hL⟩ : ∃ L, L = S l := ⟨_, rfl⟩
    have hat : ∀ h : k < L.size, L[k]'h = c := by subst hL; intro _; rw [hcc]; exact at_T l k hk
    have hc := fun n => hp c n
    have hbyte : ((c.toNat : Int)) ≤ 255 := by have := c.toNat_lt; omega
    have i1 : (k : Int) < (l.length : Int) := by omega
    have i2 : k < (S l).size := by rw [size_S]; exact hk
    have hd : decide ((k : Int) < (l.length : Int)) = true := decide_eq_true i1
    rw [← hL] at hsz c0 i2
    clear hb hp h hL hcc
    generalize p c = b at hc ⊢
    cases b with
    | true =>
      have z1 : ∀ n, (w.drewN n).frozen? ⟨R, 1, none⟩ = false := fun n => (HW.out.drewN n).froz 1
      go_enter Try.func60, Try.ntmps60
      go_wp2
      go_quiet ((go_at_fn g; exact quiet_same (hc _)))
      have z2 := z1 nq
      go_wp2
      go_ret
      exact ⟨rfl, (HW.out.drewN _).at_ (k + 1), ((Keeps.refl R w).drewN _).trans (Keeps.set _ _)⟩
    | false =>
      go_enter Try.func60, Try.ntmps60
      go_wp2
      go_quiet ((go_at_fn g; exact quiet_same (hc _)))
      go_wp2
      go_ret
      exact ⟨rfl, HW.out.drewN _, (Keeps.refl R w).drewN _⟩
  · have hb : passB p l k = false := by unfold passB; rw [List.getElem?_eq_none (by omega)]
    rw [hb]
    have hd : decide ((k : Int) < (l.length : Int)) = false := decide_eq_false (by omega)
    clear hb hp h
    generalize S l = L at *
    go_enter Try.func60, Try.ntmps60
    go_wp2
    go_quiet (fail)
    go_wp2
    go_ret
    exact ⟨rfl, HW.out.drewN _, (Keeps.refl R w).drewN _⟩

theorem hasPrefix_le {s p : List UInt8} (h : Lib.hasPrefix s p = true) : p.length ≤ s.length := by
  unfold Lib.hasPrefix at h
  exact (List.isPrefixOf_iff_prefix.1 h).length_le
/-- Does the text stand here. -/
def takeB (sign l : List UInt8) (k : Nat) : Bool := Lib.hasPrefix (l.drop k) sign
theorem take_len {sign l : List UInt8} {k : Nat} (h : takeB sign l k = true) : k + sign.length ≤ l.length ∨ sign = [] := by
  unfold takeB at h
  have := hasPrefix_le h
  rw [List.length_drop] at this
  by_cases e : sign = []
  · exact .inr e
  · have : 0 < sign.length := List.length_pos_iff.2 e
    exact .inl (by omega)
set_option maxHeartbeats 2000000 in
theorem takes_c (R : Nat) (l sign : List UInt8) (k : Nat) (vo : Value) (w : World) (h : Bx R l k vo w) (hl : l.length ≤ 65536) (hk : k ≤ l.length) (hs : sign.length ≤ 65536) :
    Calls Try.prog 64 #[.pointer (some ⟨R, 0, none⟩), .string (S sign)] w fun e w' => e = .returned (.bool (takeB sign l k)) ∧ Bx R l (if takeB sign l k then k + sign.length else k) vo w' ∧ Keeps R w w' := by
  have hsz : ((S l).size : Int) = (l.length : Int) := by rw [size_S]
  have hss : ((S sign).size : Int) = (sign.length : Int) := by rw [size_S]
  have c0 : w.cell? ⟨R, 0, none⟩ = some (.string (S l)) := (h.cell 0).trans rfl
  have c1 : w.cell? ⟨R, 1, none⟩ = some (.int .i64 (k : Int)) := (h.cell 1).trans rfl
  have i0 : (0 : Int) ≤ (k : Int) := by omega
  have i1 : (k : Int) ≤ (l.length : Int) := by omega
  have i2 : (k : Int) ≤ 65536 := by omega
  have i3 : (sign.length : Int) ≤ 65536 := by omega
  have i4 : k ≤ l.length := hk
  have HW := Lib.hid h
  have hcut := (cutFrom (S l) k).trans (by rw [list_S] : S ((S l).data.toList.drop k) = S (l.drop k))
  have hc := fun n => Try.strings_HasPrefix (S (l.drop k)) (S sign) (w.drewN n)
  rw [list_S, list_S, ← hcut] at hc
  have hsz2 : (S l).size = l.length := size_S l
  unfold takeB
  generalize Lib.hasPrefix (l.drop k) sign = b at hc ⊢
  have z1 : ∀ n, (w.drewN n).frozen? ⟨R, 1, none⟩ = false := fun n => (HW.out.drewN n).froz 1
  clear h hcut hl hk hs
  rw [hsz2] at hc
  generalize S l = L at *
  generalize S sign = P at *
  cases b with
  | true =>
    go_enter Try.func64, Try.ntmps64
    go_wp2
    go_quiet ((go_at_call 30; exact Calls.quiet_of_same (hc _)))
    have z2 := z1 nq
    go_wp2
    go_ret
    exact ⟨rfl, (HW.out.drewN _).at_ (k + sign.length), ((Keeps.refl R w).drewN _).trans (Keeps.set _ _)⟩
  | false =>
    go_enter Try.func64, Try.ntmps64
    go_wp2
    go_quiet ((go_at_call 30; exact Calls.quiet_of_same (hc _)))
    go_wp2
    go_ret
    exact ⟨rfl, HW.out.drewN _, (Keeps.refl R w).drewN _⟩
end Go.Proofs.Ytidfcajhmldieaa.Tkc

/-
  What the reader of package tokens has told, in memory; contracts of tell and tellText.
-/
namespace Go.Proofs.Ytidfcajhmldieaa.Tkc
open Go.RowKit Go.Proofs.Ytidfcajhmldieaa.Oct Go.Proofs.Ytidfcajhmldieaa.Utf Go.Proofs.Ytidfcajhmldieaa.Crf Go.Proofs.Ytidfcajhmldieaa.Tab Go.Proofs.Ytidfcajhmldieaa.Tok

/-- The reader with what it has told. -/
structure RdT (R : Nat) (l : List UInt8) (k : Nat) (v : Value) (ps : List (Tk × Value)) (w : World) : Prop where
  box : Bx R l k v w
  out : TkR (R + 1) w v ps
  ats : ∀ p ∈ ps, AtR (R + 1) w p.2 p.1.a
  sep : ∀ p ∈ ps, Sep p.2 v
/-- All that lay in w lies as it lay, but for the reader's box and the row of what was told. -/
structure Mv (R : Nat) (v : Value) (w w' : World) : Prop where
  os : w'.os = w.os
  tape : w'.tape = w.tape
  output : w'.output = w.output
  size : w.heap.size ≤ w'.heap.size
  block : ∀ N, N < w.heap.size → N ≠ R → v.ownBlock ≠ some N → w'.heap[N]? = w.heap[N]?
section
variable {R : Nat} {l : List UInt8} {k : Nat} {v : Value} {ps : List (Tk × Value)} {w : World}
theorem Mv.of {w' : World} (h : Keeps R w w') : Mv R v w w' := ⟨h.os, h.tape, h.output, h.size, fun N hN hR _ => h.block N hN hR⟩
theorem Mv.below {w' : World} (h : Mv R v w w') (hR : R ≤ w.heap.size) (hv : ∀ g, v.ownBlock = some g → R + 1 ≤ g) : Below R w w' :=
  ⟨h.os, h.tape, h.output, h.size, fun N hN => h.block N (by omega) (by omega) (fun e => by have := hv N e; omega)⟩
theorem Mv.after {W X : World} (hb : Below w.heap.size w W) (hm : Mv R v W X) : Mv R v w X :=
  ⟨hm.os.trans hb.os, hm.tape.trans hb.tape, hm.output.trans hb.output, Nat.le_trans hb.size hm.size, fun N hN hR hv => (hm.block N (Nat.lt_of_lt_of_le hN hb.size) hR hv).trans (hb.block N hN)⟩
theorem RdT.keep {w' : World} {j : Nat} (h : RdT R l k v ps w) (hk : Keeps R w w') (hb : Bx R l j v w') : RdT R l j v ps w' where
  box := hb
  out := own_same h.out fun b hb he => hk.block b (own_lt h.out b he) (by omega)
  ats := fun p hp => own_same (h.ats p hp) fun b hb he => hk.block b (own_lt (h.ats p hp) b he) (by omega)
  sep := h.sep
theorem RdT.grow {w' : World} (h : RdT R l k v ps w) (hb : Below w.heap.size w w') : RdT R l k v ps w' := h.keep (Keeps.of hb) (h.box.keep hb)
theorem RdT.low (h : RdT R l k v ps w) : R ≤ w.heap.size := Nat.le_of_lt h.box.lt
theorem RdT.push {w3 : World} {v' : Value} (h : RdT R l k v ps w) (p : Tk × Value) (hp : AtR (R + 1) w p.2 p.1.a) (hs : Sep p.2 v) (o : Obj)
    (hown : w3.ownsRow (R + 1) 31 5 v' (ps.length + 1) (ps.flatMap tkCs ++ tkCs p)) (hg : (w.alloc o).grownBy w3 v.ownBlock) (hat0 : v'.ownBlock = v.ownBlock ∨ v'.ownBlock = some (w.heap.size + 1)) :
    RdT R l k v' (ps ++ [p]) (w3.setCell ⟨R, 2, none⟩ v') ∧ Mv R v w (w3.setCell ⟨R, 2, none⟩ v') ∧ w3.cell? ⟨R, 2, none⟩ = some v ∧ w3.frozen? ⟨R, 2, none⟩ = false := by
  have hat : v'.ownBlock = v.ownBlock ∨ v'.ownBlock = some (w.alloc o).heap.size := by simpa using hat0
  have hal : Below w.heap.size w (w.alloc o) := (Below.refl _ w).alloc (Nat.le_refl _) _
  have ha := h.grow hal
  have hlt := ha.box.lt
  have hne : some R ≠ v.ownBlock := fun e => by have := own_ge h.out R e.symm; omega
  have hb : w3.heap[R]? = (w.alloc o).heap[R]? := hg.block R hlt hne
  refine ⟨?_, ?_, (cell_of_row w3 R 2 _ _ _ (hb.trans ha.box)).trans rfl, frozen_of_row w3 R 2 _ _ (hb.trans ha.box)⟩
  · constructor
    · exact heap_setCell_same w3 R 2 _ _ v' (hb.trans ha.box)
    · show World.ownsRow _ _ _ _ _ _ _
      rw [List.length_append, List.length_singleton, List.flatMap_append]
      refine own_set ?_
      simpa using hown
    · intro q hq
      rcases List.mem_append.1 hq with hq | hq
      · exact own_set (own_grown (ha.ats q hq) hg (h.sep q hq))
      · rw [List.mem_singleton] at hq
        subst hq
        exact own_set (own_grown (own_same hp fun k _ hk => hal.block k (own_lt hp k hk)) hg hs)
    · intro q hq
      rcases List.mem_append.1 hq with hq | hq
      · exact (h.sep q hq).moved (own_lt (ha.ats q hq)) hat
      · rw [List.mem_singleton] at hq
        subst hq
        exact hs.moved (own_lt (own_same hp fun k _ hk => hal.block k (own_lt hp k hk))) hat
  · refine ⟨hg.os.trans hal.os, hg.tape.trans hal.tape, hg.output.trans hal.output, by simp [World.setCell]; exact Nat.le_trans hal.size hg.size, fun N hN hR hv => ?_⟩
    rw [heap_setCell_other _ _ _ _ (by simpa using hR), hg.block N (Nat.lt_of_lt_of_le hN hal.size) (fun e => hv e.symm), hal.block N hN]
end
theorem own_shape {w : World} {base n size : Nat} {e : TypeId} {v : Value} {xs : List Value} (h : w.ownsRow base e size v n xs) : ∃ p c, v = .slice p n c := by
  rcases h.2 with ⟨rfl, h0⟩ | ⟨g, cap, cur, rfl, _⟩
  · exact ⟨none, 0, by rw [h0]⟩
  · exact ⟨_, _, rfl⟩
/-- What tell leaves. -/
inductive Told (R : Nat) (l : List UInt8) (k : Nat) (v : Value) (ps qs : List (Tk × Value)) (w : World) (e : Ending) (w' : World) : Prop
  | many (he : e = Fault 3) (hn : 4096 < qs.length) (hb : Below R w w')
  | done (he : e = .returned (.tuple #[])) (hn : qs.length ≤ 4096) (v' : Value) (h : RdT R l k v' qs w') (hm : Mv R v w w')
set_option maxHeartbeats 4000000 in
set_option maxRecDepth 100000 in
theorem tell_c (R : Nat) (l : List UInt8) (k : Nat) (v : Value) (ps : List (Tk × Value)) (w : World) (h : RdT R l k v ps w) (t : Tk) (va : Value) (hp : AtR (R + 1) w va t.a) (hs : Sep va v) (hn : ps.length ≤ 4096) :
    Calls Try.prog 36 #[.pointer (some ⟨R, 0, none⟩), .agg #[.int .i64 t.k, .string (S t.n), .string (S t.x), va, .bool t.c]] w (Told R l k v ps (ps ++ [(t, va)]) w) := by
  have hba : Below w.heap.size w (w.alloc (.cells #[.int .i64 t.k, .string (S t.n), .string (S t.x), va, .bool t.c] 31)) := (Below.refl _ w).alloc (Nat.le_refl _) _
  have hT := h.grow hba
  have hp' : AtR (R + 1) (w.alloc (.cells #[.int .i64 t.k, .string (S t.n), .string (S t.x), va, .bool t.c] 31)) va t.a := own_same hp fun k _ hk => hba.block k (own_lt hp k hk)
  have hlow := h.low
  have hRlt := h.box.lt
  have hge := own_ge h.out
  obtain ⟨vp, vc, rfl⟩ := own_shape h.out
  obtain ⟨ap, aj, ac, rfl⟩ := own_slice hp
  have HM : Hid (Below R w (w.alloc (.cells #[.int .i64 t.k, .string (S t.n), .string (S t.x), .slice ap aj ac, .bool t.c] 31))) := hba.mono hlow
  have HB := Lib.hid hba
  have x2 : _ = some (Value.slice vp ps.length vc) := (hT.box.cell 2).trans rfl
  have hlen : (ps ++ [(t, Value.slice ap aj ac)]).length = ps.length + 1 := by simp
  have HT := Lib.hid (And.intro hT hp')
  clear h hT hp hp' hba
  by_cases hlt : ps.length < 4096
  · have hd : decide ((ps.length : Int) < 4096) = true := decide_eq_true (by omega)
    obtain ⟨i0, hi, hz0, hz1, hz2⟩ := info_parts info_tok
    have HOne := Lib.hid (push_tok (p := (t, Value.slice ap aj ac)) rfl)
    have hR1 : R + 1 ≤ w.heap.size := hRlt
    have hsz1 : (w.alloc (.cells #[.int .i64 t.k, .string (S t.n), .string (S t.x), .slice ap aj ac, .bool t.c] 31)).heap.size = w.heap.size + 1 := Array.size_push _
    go_enter Try.func36, Try.ntmps36
    go_wp2_with (go_at_call 52; refine (demand_yes _ _).mono ?_; rintro e6 W6 ⟨rfl, rfl⟩)
    have c0 : (w.alloc (.cells #[.int .i64 t.k, .string (S t.n), .string (S t.x), .slice ap aj ac, .bool t.c] 31)).cell? ⟨w.heap.size, 0, none⟩ = some (.int .i64 t.k) := (cell_of_row _ _ 0 _ _ _ (heap_alloc_new w _)).trans rfl
    have c1 : (w.alloc (.cells #[.int .i64 t.k, .string (S t.n), .string (S t.x), .slice ap aj ac, .bool t.c] 31)).cell? ⟨w.heap.size, 1, none⟩ = some (.string (S t.n)) := (cell_of_row _ _ 1 _ _ _ (heap_alloc_new w _)).trans rfl
    have c2 : (w.alloc (.cells #[.int .i64 t.k, .string (S t.n), .string (S t.x), .slice ap aj ac, .bool t.c] 31)).cell? ⟨w.heap.size, 2, none⟩ = some (.string (S t.x)) := (cell_of_row _ _ 2 _ _ _ (heap_alloc_new w _)).trans rfl
    have c3 : (w.alloc (.cells #[.int .i64 t.k, .string (S t.n), .string (S t.x), .slice ap aj ac, .bool t.c] 31)).cell? ⟨w.heap.size, 3, none⟩ = some (.slice ap aj ac) := (cell_of_row _ _ 3 _ _ _ (heap_alloc_new w _)).trans rfl
    have c4 : (w.alloc (.cells #[.int .i64 t.k, .string (S t.n), .string (S t.x), .slice ap aj ac, .bool t.c] 31)).cell? ⟨w.heap.size, 4, none⟩ = some (.bool t.c) := (cell_of_row _ _ 4 _ _ _ (heap_alloc_new w _)).trans rfl
    generalize hW : w.alloc (.cells #[.int .i64 t.k, .string (S t.n), .string (S t.x), .slice ap aj ac, .bool t.c] 31) = W at *
    have HW := Lib.hid hW
    clear hW
    have x3 := ((HT.out.1.grow ((Below.refl _ W).alloc (Nat.le_refl _) (.cells (tkCs (t, .slice ap aj ac)).toArray 31))).box.cell 2).trans rfl
    go_region_law (first
      | (refine step_append_lies _ rfl (.tmp 15) (.tmp 17) 24 rfl (R + 1) 31 i0 _ 5 72 Try.underlying24 hi hz0 hz1 hz2 rfl (by omega) (.slice vp ps.length vc) ps.length (ps.flatMap tkCs) (by simp [Act.eval]) (HT.out.1.out.alloc _) ⟨W.heap.size, 0, none⟩ 1 1 (tkCs (t, .slice ap aj ac)) (by simp [Act.eval]) rfl (push_cells (cs := tkCs (t, .slice ap aj ac))) HOne.out (by omega) (by unfold maxLen; omega) (by omega) (by simp; omega) (W.heap.size + 1) (by simp) ?_; intro g cp wB hownB hgB hatB hltB; obtain ⟨p1, p2, p3, p4⟩ := HT.out.1.push (t, .slice ap aj ac) HT.out.2 hs _ hownB (grown_drew hgB) (hatB.imp Eq.symm (congrArg some)); have HP := Lib.hid (And.intro p1 p2); clear p1 p2 hownB hgB hatB hltB))
    all_goals go_wp2_with fail
    all_goals go_end0
    all_goals exact .done rfl (by rw [hlen]; omega) _ HP.out.1 (Mv.after HB.out HP.out.2)
  · have hd : decide ((ps.length : Int) < 4096) = false := decide_eq_false (by omega)
    go_enter Try.func36, Try.ntmps36
    go_wp2_with (go_at_call 52; refine (demand_no _ _).mono ?_; rintro e6 W6 ⟨rfl, rfl⟩)
    exact ⟨rfl, .many rfl (by rw [hlen]; omega) HM.out⟩
/-- The tokens of a text that is told. -/
abbrev txP (x : List UInt8) : List (Tk × Value) := if x = [] then [] else [(txTk x, .slice none 0 0)]
theorem txP_fst (x : List UInt8) : (txP x).map Prod.fst = tx x := by
  unfold txP tx
  split <;> rfl
set_option maxRecDepth 100000 in
theorem tellText_c (R : Nat) (l : List UInt8) (k : Nat) (v : Value) (ps : List (Tk × Value)) (w : World) (h : RdT R l k v ps w) (x : List UInt8) (hn : ps.length ≤ 4096) :
    Calls Try.prog 23 #[.pointer (some ⟨R, 0, none⟩), .string (S x)] w (Told R l k v ps (ps ++ txP x) w) := by
  by_cases hx : x = []
  · subst hx
    have e : ps ++ txP [] = ps := by show ps ++ [] = ps; rw [List.append_nil]
    rw [e]
    go_enter Try.func23, Try.ntmps23
    go_wp2_with fail
    go_end0
    exact .done rfl hn v h (Mv.of (Keeps.refl R w))
  · have e : txP x = [(txTk x, .slice none 0 0)] := if_neg hx
    rw [e]
    have hne : ((S x).toList == []) = false := by
      rw [beq_eq_false_iff_ne]
      intro e
      apply hx
      rw [ByteArray.toList_eq, list_S] at e
      exact e
    have hc := tell_c R l k v ps w h (txTk x) (.slice none 0 0) (World.ownsRow_nil _ _ _ _) (nil_sep _) hn
    clear e hx h
    have hc2 : Calls Try.prog 36 #[.pointer (some ⟨R, 0, none⟩), .agg #[.int .i64 3, .string ⟨#[]⟩, .string (S x), .slice none 0 0, .bool false]] w (Told R l k v ps (ps ++ [(txTk x, .slice none 0 0)]) w) := hc
    clear hc
    generalize S x = X at *
    go_enter Try.func23, Try.ntmps23
    go_wp2_with fail
    refine hc2.mono ?_
    intro e1 w1 ht
    cases ht with
    | many he hn hb => subst he; exact ⟨rfl, .many rfl hn hb⟩
    | done he hn v' h hm =>
      subst he
      go_wp2_with fail
      go_end0
      exact .done rfl hn v' h hm
end Go.Proofs.Ytidfcajhmldieaa.Tkc
