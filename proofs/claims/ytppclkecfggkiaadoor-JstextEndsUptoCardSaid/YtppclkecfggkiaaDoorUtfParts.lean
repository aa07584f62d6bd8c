/-
  Contracts of utf.parts and of the iterator that it hands out: the parts of the text, from the left.
-/
import Derived.Test.YtppclkecfggkiaaDoorUtfLeaves
import Derived.RangeFuncNested
import Derived.RangeFuncBound
import Derived.RangeFuncCalls
import Derived.RangeFuncLeaves
import Derived.Shelf.Abstract
import Derived.Shelf.RegionOpen
import Derived.OwnWalkIn
import Derived.TacticsInMore
import Derived.LoopNIn
import Derived.LoopIn
namespace Go.Proofs.YtppclkecfggkiaaDoor.Utf
open Go.RowKit Go.Proofs.YtppclkecfggkiaaDoor.Oct Go.Proofs.YtppclkecfggkiaaDoor.Mem
open Go.Lib (encodeRune)

attribute [local go_sem] Oper.semAt_some

/-- A part of a text: a character, or -1. -/
abbrev Part := { c : Int // c = -1 ∨ isChar c }
abbrev vals (l : List Part) : List Int := l.map (·.1)

/-- What the iterator reads between two rounds: the text, in the box B, and Go's own tables. -/
def Reads (B : Nat) (s : ByteArray) (W : World) : Prop := W.cell? ⟨B, 0, none⟩ = some (.string s) ∧ Tabs W
def KeepsReads (B : Nat) (s : ByteArray) (W W' : World) : Prop := Reads B s W → Reads B s W'

theorem Reads.kept {B : Nat} {s : ByteArray} {W W' : World} (h : Reads B s W) (hb : Kept W W') : Reads B s W' := ⟨kept_cell hb h.1, h.2.kept hb⟩
theorem Reads.turned {B : Nat} {s : ByteArray} {W W' : World} {row : Option Nat} (h : Reads B s W) (hg : W.grownBy W' row) (hr : ∀ r, row = some r → ∃ o : Obj, W.heap[r]? = some o ∧ o.isCells = false) : Reads B s W' :=
  ⟨cell_kept h.1 hg hr, fun c hc => cell_kept (h.2.1 c hc) hg hr, fun i hi => ⟨cell_kept (h.2.2 i hi).1 hg hr, cell_kept (h.2.2 i hi).2 hg hr⟩⟩
theorem keepsReads_t {B : Nat} {s : ByteArray} {X Y Z : World} (h : KeepsReads B s X Y) (k : KeepsReads B s Y Z) : KeepsReads B s X Z := fun x => k (h x)
theorem keepsReads_b {B : Nat} {s : ByteArray} {w : World} (W : World) (l : Nat) (o o' : Obj) (_ : w.heap.size ≤ l) (h : W.heap[l]? = some o) (hc : o.isCells = false) (_ : o.isWalk = false) : KeepsReads B s W (W.putObj l o') :=
  fun x => x.turned (grownBy_putObj' W l o') (fun r e => by cases e; exact ⟨o, h, hc⟩)
theorem kept_grown {W W' : World} (h : Kept W W') : W.grownBy W' none := ⟨h.os, h.tape, h.output, h.size, fun k hk _ => h.block k hk⟩

set_option maxRecDepth 100000 in
set_option maxHeartbeats 2000000 in
theorem parts1_stops (n : Nat) (hn : 1 ≤ n) (B : Nat) (s : ByteArray) (hs : s.size ≤ 4611686018427387904) (w : World) (hR : Reads B s w) :
    SeqStopsK Fence.wide n Tryd.prog 54 #[.pointer (some ⟨B, 0, none⟩)] (fun x : Part => #[Value.int .i64 x.1]) (KeepsReads B s) (fun xs => vals xs = parts s.data.toList) (fun pre => vals pre <+: parts s.data.toList) s.size w :=
  fun l J Jx W hW hJ hJx hY h0 => by
  have hR0 := hR.kept hW
  clear hR hJx
  refine callsIn_of_wp Tryd.func54 rfl trivial ?_ rfl
  simp only [Tryd.ntmps54, List.size_toArray, List.length_cons, List.length_nil, Nat.reduceAdd, Nat.reduceSub, Array.replicate_succ, Array.replicate_zero, List.push_toArray, List.append_toArray, List.nil_append, List.cons_append]
  gi_wp2
  gi_loopw [3, 4, 5] (fun i _ _ wr => ∃ (a : Nat) (pre : List Part), a ≤ s.size ∧ i = .int .i64 a ∧ Hid (vals pre ++ parts (s.data.toList.drop a) = parts s.data.toList) ∧ Hid (pre.length ≤ a) ∧ Hid (J pre wr) ∧ Hid (Reads B s wr))
    (fun i _ _ _ => s.size - (intOf i).toNat)
  case atStart => exact ⟨0, [], Nat.zero_le _, rfl, by show _ = _; simp, Nat.le_refl _, h0, hR0⟩
  case round =>
    obtain ⟨a, pre, ha, rfl, hpre, hlen, hJs, hRs⟩ := hrel
    clear h0 hR0
    have hcell : wr.cell? ⟨B, 0, none⟩ = some (.string s) := hRs.out.1
    by_cases hlt : a < s.size
    · have hd := decode_c (s.extract a s.size) wr hRs.out.2
      rw [cut_list] at hd
      have hne : s.data.toList.drop a ≠ [] := by
        intro e; have := congrArg List.length e; rw [List.length_drop, size_list] at this; simp at this; omega
      have hw := dec_width _ hne
      rw [List.length_drop, size_list] at hw
      have hc := dec_char _ hne
      have hst : Hid (parts (s.data.toList.drop a) = (dec (s.data.toList.drop a)).1 :: parts (s.data.toList.drop (a + (dec (s.data.toList.drop a)).2))) := by
        show _ = _
        rw [parts_step _ hne, List.drop_drop]
      clear hne
      generalize dec (s.data.toList.drop a) = d at hd hw hc hst
      obtain ⟨c, k⟩ := d
      simp only at hd hw hc
      have hst' : Hid (parts (s.data.toList.drop a) = c :: parts (s.data.toList.drop (a + k))) := hst
      clear hst
      have HC := Lib.hid hc
      clear hc
      gi_wp2_with fail
      refine ⟨trivial, ?_⟩
      refine (callsIn_wide.2 hd).mono ?_
      rintro e w1 ⟨rfl, hb⟩
      obtain ⟨fn, tmps, assign, body, hy, hRd⟩ := hY pre ⟨c, HC.out⟩ w1 (hJ pre wr w1 none hJs.out (kept_grown hb) (fun r e => by cases e)) (by have := hlen.out; omega)
      have hR1 := Lib.hid (hRs.out.kept hb)
      have hcell1 : w1.cell? ⟨B, 0, none⟩ = some (.string s) := hR1.out.1
      clear hcell hb hd
      dsimp only at hy
      gi_wp2
      refine hRd.mono ?_
      rintro e W3 (⟨rfl, hJ3, hk3⟩ | ⟨rfl, hJx3⟩)
      · have hR3 := Lib.hid (hk3 hR1.out)
        have HJ3 := Lib.hid hJ3
        clear hJ3 hk3 hy hcell1
        gi_wp2
        go_roundw
        case rel =>
          refine ⟨a + k, pre ++ [⟨c, HC.out⟩], by omega, by go_num, ?_, ?_, HJ3, hR3⟩
          · show _ = _
            rw [← hpre.out, hst'.out]; simp
          · show _ ≤ _
            have := hlen.out; simp; omega
        case measure => simp [intOf]; omega
      · gi_wp2
        refine bodyPost_ret (results_none rfl _ _ _) rfl ?_
        refine ⟨⟨_, rfl⟩, .inr ⟨_, ⟨parts (s.data.toList.drop (a + k)), ?_⟩, hJx3⟩⟩
        rw [← hpre.out, hst'.out]; simp
    · gi_wp2
      go_end0
      refine ⟨⟨_, rfl⟩, .inl ⟨pre, ?_, hJs.out⟩⟩
      rw [← hpre.out, List.drop_eq_nil_of_le (by rw [size_list]; omega), parts_nil, List.append_nil]

set_option maxHeartbeats 1000000 in
/-- utf.parts: the text is boxed; the function value holds the box. -/
theorem parts_c (n : Nat) (s : ByteArray) (w : World) :
    CallsIn Fence.wide n Tryd.prog 42 #[.string s] w fun e w' => e = .returned (.func (.func 54) #[] #[.pointer (some ⟨w.heap.size, 0, none⟩)]) ∧ w' = w.alloc (.cells #[.string s] 9) := by
  refine callsIn_of_wp Tryd.func42 rfl trivial ?_ rfl
  simp only [Tryd.ntmps42, List.size_toArray, List.length_cons, List.length_nil, Nat.reduceAdd, Nat.reduceSub, Array.replicate_succ, Array.replicate_zero, List.push_toArray, List.append_toArray, List.nil_append, List.cons_append]
  gi_wp2
  go_ret
  exact ⟨rfl, rfl⟩
end Go.Proofs.YtppclkecfggkiaaDoor.Utf
