/-
  Part 34: TokCom, PgName, RefNames.
-/
import Derived.Test.YtklpbkjplecdpaaGreatSxBaseP33
import Derived.Test.YtklpbkjplecdpaaGreatSxBaseP5
import Derived.Lib.Hide
import Derived.Test.YtklpbkjplecdpaaGreatSxBaseP12
/-
  Contracts of the page's reader's outside at the end of a remark.
-/
namespace Go.Proofs.YtklpbkjplecdpaaGreat.Tok
open Go.RowKit Oct Utf Crf Tab Mem

set_option maxHeartbeats 2000000 in
set_option maxRecDepth 100000 in
theorem comment_yes (R : Nat) (l : List UInt8) (hl : l.length ≤ 65536) (r : Rd) (i : Nat) (hi : i < l.length) (w : World) (h : RdM R l r w) (hz : Sz r) (hst : r.st = 14) (hq : [45, 45, 62].isPrefixOf (l.drop i) = true) :
    Calls Tryz.prog 27 #[.pointer (some ⟨R, 0, none⟩), .int .i64 (i : Int)] w fun e w' => e = .returned (.int .i64 3) ∧ RdM R l { r with out := r.out ++ [⟨4, [], r.tx, [], false⟩], tx := [], st := 0 } w' ∧ Below R w w' := by
  have hsz : ((S l).size : Int) = (l.length : Int) := by rw [size_S]
  have hx := at_T l i hi
  have j0 : (0 : Int) ≤ (i : Int) := by omega
  have j1 : (i : Int) < (l.length : Int) := by omega
  have jl : (l.length : Int) ≤ 65536 := by omega
  obtain ⟨vo, vt, va, ps, h⟩ := h
  have c0 : w.cell? ⟨R, 0, none⟩ = some (.string (S l)) := (h.cell 0).trans rfl
  have c2 : w.cell? ⟨R, 2, none⟩ = some (.int .i64 14) := (h.cell 2).trans (by show some (Value.int .i64 (r.st : Int)) = _; rw [hst]; rfl)
  have HS := Lib.hid hst
  clear hst
  have z2 := h.froz 2
  have hRw : R ≤ w.heap.size := Nat.le_of_lt h.lt
  have hRlt : R < w.heap.size := h.lt
  have j2 : (i : Int) ≤ (l.length : Int) := by omega
  have hf : (S l).extract i l.length = S (l.drop i) := by have := Crf.cutFrom (S l) i; rw [size_S, list_S] at this; exact this
  have hbg := fun w => Crf.rbegins_c [45, 45, 62] (l.drop i) w
  have hq2 : Lib.hasPrefix (l.drop i) [45, 45, 62] = true := hq
  rw [← hf] at hbg
  simp only [hq2] at hbg
  clear hq hq2 hf
  obtain ⟨i0, hi0, hz0, hz1, hz2⟩ := info_parts info_tok
  have ho : ps.length ≤ 134217728 := by have h1 := congrArg List.length h.outs; rw [List.length_map] at h1; have h2 := hz.1; omega
  have c1 : w.cell? ⟨R, 1, none⟩ = some vo := (h.cell 1).trans rfl
  have c3 : w.cell? ⟨R, 3, none⟩ = some vt := (h.cell 3).trans rfl
  have hcv := Mem.conv_own h.txt
  have HW := Lib.hid h
  have hR1 : R + 1 ≤ w.heap.size := h.lt
  have HCell : Hid (∀ (w : World) (X : ByteArray), X = S r.tx → ∀ j u, (tkCs (⟨4, [], r.tx, [], false⟩, .slice none 0 0))[j]? = some u → (w.alloc (.cells #[.int .i64 4, .string ⟨#[]⟩, .string X, .slice none 0 0, .bool false] 52)).cell? ((⟨w.heap.size, 0, none⟩ : Addr).add j) = some u) := fun w X hX j u hj => by
    subst hX
    exact push_cells (cs := tkCs (⟨4, [], r.tx, [], false⟩, .slice none 0 0)) j u hj
  clear h
  have hcd : (convert 49 9 vt).run Tryz.prog w.drew = .ok (.string (S r.tx)) w.drew := Mem.conv_own (w := w.drew) HW.out.txt
  have hRWW : R < w.heap.size := hR1
  generalize l[i] = c at *
  go_enter Tryz.func27, Tryz.ntmps27
  go_wp2_with (first | (go_at_call 58; refine (hbg _).mono ?_; rintro e w' ⟨rfl, rfl⟩))
  go_region_law (first
    | (refine step_append_lies _ rfl (.tmp 155) (.tmp 162) 32 rfl (R + 1) 52 i0 _ 5 72 Tryz.underlying32 hi0 hz0 hz1 hz2 rfl (by omega) vo ps.length (ps.flatMap tkCs) (by simp [Act.eval]) (HW.out.out.alloc _) ⟨w.heap.size, 0, none⟩ 1 1 (tkCs (⟨4, [], r.tx, [], false⟩, .slice none 0 0)) (by simp [Act.eval]) rfl (push_cells (cs := tkCs (⟨4, [], r.tx, [], false⟩, .slice none 0 0))) (push_tok rfl) (by omega) (by unfold maxLen; omega) (by omega) (by simp; omega) (w.heap.size + 1) (by simp) ?_; intro g cp wB hownB hgB hatB hltB; obtain ⟨p1, p2, p3, p4⟩ := HW.out.push (⟨4, [], r.tx, [], false⟩, .slice none 0 0) (World.ownsRow_nil _ _ _ _) ⟨nil_sep _, nil_sep _, nil_sep _⟩ _ hownB (grown_drew hgB) (hatB.imp Eq.symm (congrArg some)); have HP := Lib.hid (And.intro p1 p2); clear p1 p2 hownB hgB hatB hltB))
  all_goals
    have d3 : _ = some vt := (HP.out.1.cell 3).trans rfl
    have d2 : _ = some (Value.int .i64 14) := (HP.out.1.cell 2).trans (by show some (Value.int .i64 (r.st : Int)) = _; rw [HS.out]; rfl)
    have x3 := HP.out.1.froz 3
    have x2 := HP.out.1.froz 2
    go_wp2_with fail
    go_ret
    exact ⟨rfl, ⟨_, _, _, _, HP.out.1.clear.seti (r' := { r with out := r.out ++ [⟨4, [], r.tx, [], false⟩], tx := [], st := 0 }) 2 _ rfl rfl rfl rfl⟩, below_set _ (below_set _ HP.out.2)⟩
end Go.Proofs.YtklpbkjplecdpaaGreat.Tok

/-
  Contract of the page's Name: is it a name?; it changes nothing.
-/
namespace Go.Proofs.YtklpbkjplecdpaaGreat.Oct
open Go.RowKit

def okAt (s : ByteArray) (k : Nat) : Bool := nameI ((at' s k).toNat : Int) && (k != 0 || !digitI ((at' s k).toNat : Int))

def beginsB (p s : List UInt8) : Bool := decide (p.length ≤ s.length) && (s.take p.length == p)
end Go.Proofs.YtklpbkjplecdpaaGreat.Oct

/-
  Contracts of the page's answers on names, on how a text begins, and on trimmed texts.
-/
namespace Go.Proofs.YtklpbkjplecdpaaGreat.Oct
open Go.RowKit

theorem rbegins_c (p s : ByteArray) (w : World) :
    Calls Tryz.prog 58 #[.string p, .string s] w fun e w' => e = .returned (.bool (beginsB p.data.toList s.data.toList)) ∧ w = w' := by
  by_cases hl : p.size ≤ s.size
  · have hx : Hid (beginsB p.data.toList s.data.toList = ((s.extract 0 p.size).toList == p.toList)) := by
      show _ = _
      unfold beginsB
      rw [size_list, size_list, decide_eq_true hl, Bool.true_and, ByteArray.toList_eq, ByteArray.toList_eq, Lib.extract_data, List.drop_zero, Nat.sub_zero]
    go_enter Tryz.func58, Tryz.ntmps58
    go_wp2
    go_ret
    exact ⟨ret_bool hx.out.symm, rfl⟩
  · have hl' : decide ((p.size : Int) ≤ (s.size : Int)) = false := by simp; omega
    have hx : Hid (beginsB p.data.toList s.data.toList = false) := by
      show _ = _
      unfold beginsB
      rw [size_list, size_list, decide_eq_false hl, Bool.false_and]
    go_enter Tryz.func58, Tryz.ntmps58
    go_wp2
    go_ret
    exact ⟨ret_bool hx.out.symm, rfl⟩

theorem starts_begins (s p : List UInt8) : beginsB (p.map low) (s.map low) = startsB s p := by
  unfold beginsB startsB
  simp only [List.length_map]

theorem rstarts_c (s p : ByteArray) (w : World) (hs : s.size ≤ 140737488351232) (hp : p.size ≤ 140737488351232) :
    Calls Tryz.prog 59 #[.string s, .string p] w fun e w' => e = .returned (.bool (startsB s.data.toList p.data.toList)) ∧ Below w.heap.size w w' := by
  have h1 := fun w => rlower_c p w hp
  have h2 := fun w => rlower_c s w hs
  have h3 := fun w => rbegins_c (S (p.data.toList.map low)) (S (s.data.toList.map low)) w
  have hx : Hid (beginsB (S (p.data.toList.map low)).data.toList (S (s.data.toList.map low)).data.toList = startsB s.data.toList p.data.toList) := by
    show _ = _
    rw [list_S, list_S, starts_begins]
  generalize beginsB (S (p.data.toList.map low)).data.toList (S (s.data.toList.map low)).data.toList = r at h3 hx
  generalize S (p.data.toList.map low) = x at h1 h3
  generalize S (s.data.toList.map low) = y at h2 h3
  go_enter Tryz.func59, Tryz.ntmps59
  go_wp2_with fail
  refine (h1 w).mono ?_
  rintro e w1 ⟨rfl, hb1⟩
  go_wp2_with fail
  refine (h2 w1).mono ?_
  rintro e w2 ⟨rfl, hb2⟩
  go_wp2_with fail
  refine (h3 w2).mono ?_
  rintro e w3 ⟨rfl, rfl⟩
  go_wp2_with fail
  go_ret
  exact ⟨ret_bool hx.out, hb1.trans (hb2.mono hb1.size)⟩

end Go.Proofs.YtklpbkjplecdpaaGreat.Oct
