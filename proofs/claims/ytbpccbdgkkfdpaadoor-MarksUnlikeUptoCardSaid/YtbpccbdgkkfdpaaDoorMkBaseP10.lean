/-
  Part 10: UtfParts, UtfEach, UtfCalls, UtfRepair, PctCalls.
-/
import Derived.Test.YtbpccbdgkkfdpaaDoorMkBaseP9
import Derived.RangeFuncNested
import Derived.RangeFuncBound
import Derived.RangeFuncCalls
import Derived.RangeFuncLeaves
import Derived.Shelf.Abstract
import Derived.Shelf.RegionOpen
import Derived.OwnWalkIn
import Derived.TacticsInMore
import Derived.LoopNIn
import Derived.LoopIn
import Derived.Maps.AppendAt
/-
  Contracts of utf.parts and of the iterator that it hands out: the parts of the text, from the left.
-/
namespace Go.Proofs.YtbpccbdgkkfdpaaDoor.Utf
open Go.RowKit Go.Proofs.YtbpccbdgkkfdpaaDoor.Oct Go.Proofs.YtbpccbdgkkfdpaaDoor.Mem
open Go.Lib (encodeRune)

attribute [local go_sem] Oper.semAt_some

/-- A part of a text: a character, or -1. -/
abbrev Part := { c : Int // c = -1 ∨ isChar c }
abbrev vals (l : List Part) : List Int := l.map (·.1)

/-- What the iterator reads between two rounds: the text, in the box B, and Go's own tables. -/
def Reads (B : Nat) (s : ByteArray) (W : World) : Prop := W.cell? ⟨B, 0, none⟩ = some (.string s) ∧ Tabs W
def KeepsReads (B : Nat) (s : ByteArray) (W W' : World) : Prop := Reads B s W → Reads B s W'

theorem Reads.kept {B : Nat} {s : ByteArray} {W W' : World} (h : Reads B s W) (hb : Kept W W') : Reads B s W' := ⟨kept_cell hb h.1, h.2.kept hb⟩
theorem Reads.turned {B : Nat} {s : ByteArray} {W W' : World} {row : Option Nat} (h : Reads B s W) (hg : W.grownBy W' row) (hr : ∀ r, row = some r → ∃ o : Obj, W.heap[r]? = some o ∧ o.isCells = false) : Reads B s W' :=
  ⟨cell_kept h.1 hg hr, fun c hc => cell_kept (h.2.1 c hc) hg hr, fun i hi => ⟨cell_kept (h.2.2 i hi).1 hg hr, cell_kept (h.2.2 i hi).2 hg hr⟩⟩
theorem keepsReads_t {B : Nat} {s : ByteArray} {X Y Z : World} (h : KeepsReads B s X Y) (k : KeepsReads B s Y Z) : KeepsReads B s X Z := fun x => k (h x)
theorem keepsReads_b {B : Nat} {s : ByteArray} {w : World} (W : World) (l : Nat) (o o' : Obj) (_ : w.heap.size ≤ l) (h : W.heap[l]? = some o) (hc : o.isCells = false) (_ : o.isWalk = false) : KeepsReads B s W (W.putObj l o') :=
  fun x => x.turned (grownBy_putObj' W l o') (fun r e => by cases e; exact ⟨o, h, hc⟩)
theorem kept_grown {W W' : World} (h : Kept W W') : W.grownBy W' none := ⟨h.os, h.tape, h.output, h.size, fun k hk _ => h.block k hk⟩

set_option maxRecDepth 100000 in
set_option maxHeartbeats 2000000 in
theorem parts1_stops (n : Nat) (hn : 1 ≤ n) (B : Nat) (s : ByteArray) (hs : s.size ≤ 4611686018427387904) (w : World) (hR : Reads B s w) :
    SeqStopsK Fence.wide n Tryd.prog 81 #[.pointer (some ⟨B, 0, none⟩)] (fun x : Part => #[Value.int .i64 x.1]) (KeepsReads B s) (fun xs => vals xs = parts s.data.toList) (fun pre => vals pre <+: parts s.data.toList) s.size w :=
  fun l J Jx W hW hJ hJx hY h0 => by
  have hR0 := hR.kept hW
  clear hR hJx
  refine callsIn_of_wp Tryd.func81 rfl trivial ?_ rfl
  simp only [Tryd.ntmps81, List.size_toArray, List.length_cons, List.length_nil, Nat.reduceAdd, Nat.reduceSub, Array.replicate_succ, Array.replicate_zero, List.push_toArray, List.append_toArray, List.nil_append, List.cons_append]
  gi_wp2
  gi_loopw [3, 4, 5] (fun i _ _ wr => ∃ (a : Nat) (pre : List Part), a ≤ s.size ∧ i = .int .i64 a ∧ Hid (vals pre ++ parts (s.data.toList.drop a) = parts s.data.toList) ∧ Hid (pre.length ≤ a) ∧ Hid (J pre wr) ∧ Hid (Reads B s wr))
    (fun i _ _ _ => s.size - (intOf i).toNat)
  case atStart => exact ⟨0, [], Nat.zero_le _, rfl, by show _ = _; simp, Nat.le_refl _, h0, hR0⟩
  case round =>
    obtain ⟨a, pre, ha, rfl, hpre, hlen, hJs, hRs⟩ := hrel
    clear h0 hR0
    have hcell : wr.cell? ⟨B, 0, none⟩ = some (.string s) := hRs.out.1
    by_cases hlt : a < s.size
    · have hd := decode_c (s.extract a s.size) wr hRs.out.2
      rw [cut_list] at hd
      have hne : s.data.toList.drop a ≠ [] := by
        intro e; have := congrArg List.length e; rw [List.length_drop, size_list] at this; simp at this; omega
      have hw := dec_width _ hne
      rw [List.length_drop, size_list] at hw
      have hc := dec_char _ hne
      have hst : Hid (parts (s.data.toList.drop a) = (dec (s.data.toList.drop a)).1 :: parts (s.data.toList.drop (a + (dec (s.data.toList.drop a)).2))) := by
        show _ = _
        rw [parts_step _ hne, List.drop_drop]
      clear hne
      generalize dec (s.data.toList.drop a) = d at hd hw hc hst
      obtain ⟨c, k⟩ := d
      simp only at hd hw hc
      have hst' : Hid (parts (s.data.toList.drop a) = c :: parts (s.data.toList.drop (a + k))) := hst
      clear hst
      have HC := Lib.hid hc
      clear hc
      gi_wp2_with fail
      refine ⟨trivial, ?_⟩
      refine (callsIn_wide.2 hd).mono ?_
      rintro e w1 ⟨rfl, hb⟩
      obtain ⟨fn, tmps, assign, body, hy, hRd⟩ := hY pre ⟨c, HC.out⟩ w1 (hJ pre wr w1 none hJs.out (kept_grown hb) (fun r e => by cases e)) (by have := hlen.out; omega)
      have hR1 := Lib.hid (hRs.out.kept hb)
      have hcell1 : w1.cell? ⟨B, 0, none⟩ = some (.string s) := hR1.out.1
      clear hcell hb hd
      dsimp only at hy
      gi_wp2
      refine hRd.mono ?_
      rintro e W3 (⟨rfl, hJ3, hk3⟩ | ⟨rfl, hJx3⟩)
      · have hR3 := Lib.hid (hk3 hR1.out)
        have HJ3 := Lib.hid hJ3
        clear hJ3 hk3 hy hcell1
        gi_wp2
        go_roundw
        case rel =>
          refine ⟨a + k, pre ++ [⟨c, HC.out⟩], by omega, by go_num, ?_, ?_, HJ3, hR3⟩
          · show _ = _
            rw [← hpre.out, hst'.out]; simp
          · show _ ≤ _
            have := hlen.out; simp; omega
        case measure => simp [intOf]; omega
      · gi_wp2
        refine bodyPost_ret (results_none rfl _ _ _) rfl ?_
        refine ⟨⟨_, rfl⟩, .inr ⟨_, ⟨parts (s.data.toList.drop (a + k)), ?_⟩, hJx3⟩⟩
        rw [← hpre.out, hst'.out]; simp
    · gi_wp2
      go_end0
      refine ⟨⟨_, rfl⟩, .inl ⟨pre, ?_, hJs.out⟩⟩
      rw [← hpre.out, List.drop_eq_nil_of_le (by rw [size_list]; omega), parts_nil, List.append_nil]

set_option maxHeartbeats 1000000 in
/-- utf.parts: the text is boxed; the function value holds the box. -/
theorem parts_c (n : Nat) (s : ByteArray) (w : World) :
    CallsIn Fence.wide n Tryd.prog 65 #[.string s] w fun e w' => e = .returned (.func (.func 81) #[] #[.pointer (some ⟨w.heap.size, 0, none⟩)]) ∧ w' = w.alloc (.cells #[.string s] 9) := by
  refine callsIn_of_wp Tryd.func65 rfl trivial ?_ rfl
  simp only [Tryd.ntmps65, List.size_toArray, List.length_cons, List.length_nil, Nat.reduceAdd, Nat.reduceSub, Array.replicate_succ, Array.replicate_zero, List.push_toArray, List.append_toArray, List.nil_append, List.cons_append]
  gi_wp2
  go_ret
  exact ⟨rfl, rfl⟩
end Go.Proofs.YtbpccbdgkkfdpaaDoor.Utf

/-
  Contracts of utf.eachRepaired, at whatever function value that is handed in and whatever it makes of memory of its own, and of utf.anyPart, at a function value that changes nothing.
-/
namespace Go.Proofs.YtbpccbdgkkfdpaaDoor.Utf
open Go.RowKit Go.Proofs.YtbpccbdgkkfdpaaDoor.Oct Go.Proofs.YtbpccbdgkkfdpaaDoor.Mem
open Go.Lib (encodeRune)

attribute [local go_sem] Oper.semAt_some

theorem enter_parts1 : ∀ args w, (callFunc 81 args).run Tryd.prog w = .ok (.enter 81 args) w := enters_of Tryd.func81 (by kernel_rfl) rfl

/-- The world in which eachRepaired begins its loop: the function value and the text in boxes of their own. -/
abbrev eachWorld (w : World) (dov : Value) (s : ByteArray) : World := (w.alloc (.cells #[dov] 61)).alloc (.cells #[.string s] 9)

set_option maxRecDepth 100000 in
set_option maxHeartbeats 4000000 in
theorem each_c (s : ByteArray) (hs : s.size ≤ 4611686018427387904) (g : Nat) (lb : Array Value) (w : World) (J : List Int → World → Prop)
    (eg : ∀ args w, (callFunc g args).run Tryd.prog w = .ok (.enter g args) w)
    (hQ : ∀ pre W, J pre W → W.cell? ⟨w.heap.size, 0, none⟩ = some (.func (.func g) #[] lb) ∧ Reads (w.heap.size + 1) s W)
    (hown : OwnFrom (w.heap.size + 2) J)
    (h0 : J [] (eachWorld w (.func (.func g) #[] lb) s))
    (hdo : ∀ pre c W, J pre W → isChar c → c ≠ 0 → pre.length < s.size → Calls Tryd.prog g (#[.int .i64 c] ++ lb) W fun e W' => (∃ v, e = .returned v) ∧ J (pre ++ [c]) W' ∧ KeepsOthers W W') :
    Calls Tryd.prog 49 #[.string s, .func (.func g) #[] lb] w fun e W' => (∃ v, e = .returned v) ∧ J (chars s.data.toList) W' := by
  refine (callsIn_wide (n := 3)).1 ?_
  refine callsIn_of_wp_marks Tryd.func49 rfl trivial ?_ rfl
  simp only [Tryd.ntmps49, List.size_toArray, List.length_cons, List.length_nil, Nat.reduceAdd, Nat.reduceSub, Array.replicate_succ, Array.replicate_zero, List.push_toArray, List.append_toArray, List.nil_append, List.cons_append]
  gi_wp2_with fail
  refine ⟨trivial, ?_⟩
  refine (parts_c _ s _).mono ?_
  rintro e w' ⟨rfl, rfl⟩
  gi_wp2
  have hR0 : Reads (w.heap.size + 1) s (eachWorld w (.func (.func g) #[] lb) s) := (hQ _ _ h0).2
  refine wpIn_rangeFunc_ownF rfl (by omega) (gf := 81) (lb := #[.pointer (some ⟨w.heap.size + 1, 0, none⟩)]) rfl trivial enter_parts1
    (parts1_stops _ (by omega) (w.heap.size + 1) s hs _ hR0) keepsReads_t keepsReads_b (Below.refl _ _) (fun _ => rfl)
    (fun pre W => J ((vals pre).map fix) W)
    (fun _ _ _ => False)
    (fun p X Y row hp hg hr => hown _ X Y row hp hg (fun r e => by have := hr r e; simp at this; exact this))
    (fun _ _ _ _ _ hs _ _ => hs)
    h0
    (fun x => { tmps := #[.string s, .func (.func g) #[] lb, undef, .pointer (some ⟨w.heap.size, 0, none⟩), .int .i64 x.1, .string s, .func (.func 81) #[] #[.pointer (some ⟨w.heap.size + 1, 0, none⟩)], .int .i64 x.1, undef, undef, undef, undef, undef, undef, undef, undef, undef], defers := [] }) ?assign ?body ?done ?stop
  case assign =>
    intro l x W K hK
    gi_wp2
    exact hK
  case body =>
    rintro l pre ⟨c, hc⟩ W hJ hlen
    have hcell : W.cell? ⟨w.heap.size, 0, none⟩ = some (.func (.func g) #[] lb) := (hQ _ _ hJ).1
    have hf := fix_char hc
    have hcall := hdo _ (fix c) W hJ hf.1 hf.2 (by simpa using hlen)
    have hJ3 : ∀ W', J ((vals pre).map fix ++ [fix c]) W' → J ((vals (pre ++ [⟨c, hc⟩])).map fix) W' := fun W' h => by simpa using h
    have HJ3 := Lib.hid hJ3
    have HQ := Lib.hid hQ
    clear hJ3 hf hQ hown h0 hdo hR0
    by_cases h1 : c = -1
    · subst h1
      have e1 : fix (-1) = 65533 := by decide
      rw [e1] at hcall HJ3
      clear e1
      gi_wp2_with fail
      refine ⟨trivial, (CallsIn.inRound l (callsIn_wide.2 hcall)).mono ?_⟩
      rintro e W' ⟨⟨v, rfl⟩, hJ', hk'⟩
      clear hcall hcell
      gi_wp2
      exact ⟨hk', fun _ => (HQ.out _ _ hJ').2, HJ3.out _ hJ'⟩
    · by_cases h2 : c = 0
      · subst h2
        have e1 : fix 0 = 65533 := by decide
        rw [e1] at hcall HJ3
        clear e1 h1
        gi_wp2_with fail
        refine ⟨trivial, (CallsIn.inRound l (callsIn_wide.2 hcall)).mono ?_⟩
        rintro e W' ⟨⟨v, rfl⟩, hJ', hk'⟩
        clear hcall hcell
        gi_wp2
        exact ⟨hk', fun _ => (HQ.out _ _ hJ').2, HJ3.out _ hJ'⟩
      · have e1 : fix c = c := by unfold fix; rw [if_neg (by omega)]
        rw [e1] at hcall HJ3
        have b1 : (c == -1) = false := by simpa using h1
        have b2 : (c == 0) = false := by simpa using h2
        clear e1 h1 h2
        gi_wp2_with fail
        refine ⟨trivial, (CallsIn.inRound l (callsIn_wide.2 hcall)).mono ?_⟩
        rintro e W' ⟨⟨v, rfl⟩, hJ', hk'⟩
        clear hcall hcell
        gi_wp2
        exact ⟨hk', fun _ => (HQ.out _ _ hJ').2, HJ3.out _ hJ'⟩
  case done =>
    rintro D ys W hD hS hJ hK
    gi_wp2
    refine ⟨by simp, .inl ⟨_, _, rfl, run_takeDeferred hK, ?_⟩⟩
    refine ⟨_, results_none rfl _ _ _, ⟨_, rfl⟩, ?_⟩
    have hJ' : J (chars s.data.toList) W := by unfold chars; rw [← hS]; exact hJ
    exact hown.putObj _ hJ' (by simp at hD; omega) hK rfl
  case stop =>
    rintro D c pre W _ _ h _
    exact h.elim

/-- What is asked of a function value that tells of a part whether it is wanted: it changes nothing. -/
def Asks (g : Nat) (lb : Array Value) (p : Int → Bool) : Prop :=
  ∀ (c : Int) (W : World), Calls Tryd.prog g (#[.int .i64 c] ++ lb) W fun e w' => e = .returned (.bool (p c)) ∧ W = w'

end Go.Proofs.YtbpccbdgkkfdpaaDoor.Utf

/-
  Contracts of utf.Valid, Count, Repair, Chars.
-/
namespace Go.Proofs.YtbpccbdgkkfdpaaDoor.Utf
open Go.RowKit Go.Proofs.YtbpccbdgkkfdpaaDoor.Oct Go.Proofs.YtbpccbdgkkfdpaaDoor.Mem
open Go.Lib (encodeRune)

/-! ### Valid -/
theorem valid_any (l : List UInt8) : (!(parts l).any (fun c => c == -1)) = valid l := by
  unfold valid
  rw [Bool.eq_iff_iff]
  simp

/-! ### Count -/
theorem each_boxes (w : World) (dov : Value) (s : ByteArray) :
    Boxed (eachWorld w dov s) w.heap.size 61 dov ∧ Boxed (eachWorld w dov s) (w.heap.size + 1) 9 (.string s) ∧ Kept w (eachWorld w dov s) := by
  refine ⟨(Boxed.new w _ _).alloc _, ?_, ((Below.refl _ w).alloc (Nat.le_refl _) _).alloc (by simp) _⟩
  have := Boxed.new (w.alloc (.cells #[dov] 61)) 9 (.string s)
  rwa [World.size_alloc] at this

theorem tabs_own {β : Type} (B : Nat) : OwnFrom B (fun (_ : β) W => Tabs W) := fun _ _ _ _ hs hg hr =>
  ⟨fun c hc => cell_kept (hs.1 c hc) hg (fun r e => (hr r e).2), fun i hi => ⟨cell_kept (hs.2 i hi).1 hg (fun r e => (hr r e).2), cell_kept (hs.2 i hi).2 hg (fun r e => (hr r e).2)⟩⟩

theorem Tabs.below {B : Nat} {w W : World} (h : Tabs w) (hB : w.heap.size ≤ B) (hb : Below B w W) : Tabs W := h.kept (hb.mono hB)

/-- What holds between two rounds of Count. -/
def CountAt (w : World) (b : Nat) (dov : Value) (s : ByteArray) (pre : List Int) (W : World) : Prop :=
  Boxed W b 3 (.int .i64 (pre.length : Int)) ∧ Boxed W (b + 1) 61 dov ∧ Boxed W (b + 2) 9 (.string s) ∧ Tabs W ∧ Kept w W

end Go.Proofs.YtbpccbdgkkfdpaaDoor.Utf

/-
  Contracts of utf.Repair and utf.Chars.
-/
namespace Go.Proofs.YtbpccbdgkkfdpaaDoor.Utf
open Go.RowKit Go.Proofs.YtbpccbdgkkfdpaaDoor.Oct Go.Proofs.YtbpccbdgkkfdpaaDoor.Mem
open Go.Lib (encodeRune)

/-! ### Repair -/
theorem enter_repair1 : ∀ args w, (callFunc 50 args).run Tryd.prog w = .ok (.enter 50 args) w := enters_of Tryd.func50 (by kernel_rfl) rfl

/-- Another box than the slice's, of another type than its cells, lies as it lay. -/
theorem other_box {W w1 : World} {n₀ B k : Nat} {t e : TypeId} {v v' u : Value} {n size : Nat} {xs : List Value} {tmp : Obj} (h : Boxed W k t u) (hte : t ≠ e) (hkB : k ≠ B) (hrow : W.ownsRow n₀ e size v n xs) (hgrow : (W.alloc tmp).grownBy w1 v.ownBlock) :
    Boxed (w1.setCell ⟨B, 0, none⟩ v') k t u := ((h.alloc tmp).kept hgrow (h.not_row hte hrow)).other hkB _

set_option maxHeartbeats 1000000 in
theorem repair1_c (c : Int) (hc0 : 0 ≤ c) (hc1 : c ≤ 1114111) (base b n : Nat) (v : Value) (l : List UInt8) (W : World) (hb : Boxed W b 54 v) (hrow : W.ownsRow base 5 1 v n (l.map bv)) (hn : n + 4 ≤ 140737488355328) (hbase : base ≤ W.heap.size) (hbb : base ≤ b) :
    Calls Tryd.prog 50 #[.int .i64 c, .pointer (some ⟨b, 0, none⟩)] W fun e W' => (∃ u, e = .returned u) ∧ ∃ v', Boxed W' b 54 v' ∧ W'.ownsRow base 5 1 v' (n + (encodeRune c).length) ((l ++ encodeRune c).map bv) ∧ KeepsOthers W W' ∧ Below base W W' ∧
      ∀ k t u, t ≠ 5 → k ≠ b → Boxed W k t u → Boxed W' k t u := by
  have ha := Tryd.utf8_AppendRune_plain base v n (l.map bv) c (by omega) (by omega) W hrow hn hbase
  rw [runeCells_eq, List.length_map, ← List.map_append] at ha
  obtain ⟨m, hm⟩ : ∃ m, n + (encodeRune c).length = m + 1 := ⟨n + (encodeRune c).length - 1, by have := enc_len c; omega⟩
  rw [hm] at ha ⊢
  have hcell := hb.cell
  have HB := Lib.hid hb
  have HR := Lib.hid hrow
  clear hm hb hrow
  go_enter Tryd.func50, Tryd.ntmps50
  go_wp2_with fail
  refine ha.mono ?_
  rintro e w1 ⟨v', rfl, hown, o, hg⟩
  clear ha hcell
  obtain ⟨g', cap', rfl⟩ := ownsRow_succ hown
  obtain ⟨hv1, hv2, hr2, hk2, hb2⟩ := HB.out.appended (by decide) HR.out hbase hbb hown hg
  have hoth := Lib.hid (fun k t u (ht : t ≠ 5) (hk : k ≠ b) (hx : Boxed W k t u) => other_box (v' := .slice (some ⟨g', 0, none⟩) (m + 1) cap') hx ht hk HR.out hg)
  have hc1' := hv1.cell
  have hf1' := hv1.frozen
  have H := Lib.hid (And.intro hv2 (And.intro hr2 (And.intro hk2 hb2)))
  clear hv1 hv2 hr2 hk2 hb2 hown hg
  go_wp2
  go_end0
  exact ⟨⟨_, rfl⟩, _, H.out.1, H.out.2.1, H.out.2.2.1, H.out.2.2.2, hoth.out⟩

/-- What holds between two rounds of Repair. -/
def RepairAt (w : World) (b : Nat) (dov : Value) (s : ByteArray) (pre : List Int) (W : World) : Prop :=
  (∃ v, Boxed W b 54 v ∧ W.ownsRow w.heap.size 5 1 v (encs pre).length ((encs pre).map bv) ∧ True) ∧ Boxed W (b + 1) 61 dov ∧ Boxed W (b + 2) 9 (.string s) ∧ Tabs W ∧ Kept w W

set_option maxHeartbeats 1000000 in
theorem repair_each (s : ByteArray) (hs : s.size ≤ 17592186044416) (w w0 : World) (hT : Tabs w) (hk0 : Kept w w0) (v0 : Value) (hown : w0.ownsRow w.heap.size 5 1 v0 0 []) :
    Calls Tryd.prog 49 #[.string s, .func (.func 50) #[] #[.pointer (some ⟨w0.heap.size, 0, none⟩)]] (w0.alloc (.cells #[v0] 54)) fun e W' => (∃ v, e = .returned v) ∧
      RepairAt w w0.heap.size (.func (.func 50) #[] #[.pointer (some ⟨w0.heap.size, 0, none⟩)]) s (chars s.data.toList) W' := by
  obtain ⟨w1, hw1⟩ : ∃ w1, w1 = w0.alloc (.cells #[v0] 54) := ⟨_, rfl⟩
  have hsz : w1.heap.size = w0.heap.size + 1 := by rw [hw1]; simp
  have hk1 : Kept w w1 := kept_trans hk0 (by rw [hw1]; exact (Below.refl _ w0).alloc (Nat.le_refl _) _)
  have hx := each_boxes w1 (.func (.func 50) #[] #[.pointer (some ⟨w0.heap.size, 0, none⟩)]) s
  rw [hsz] at hx
  rw [← hw1]
  refine each_c s (by omega) 50 #[.pointer (some ⟨w0.heap.size, 0, none⟩)] w1 _ enter_repair1 ?_ ?_ ?_ ?_
  · intro pre W h
    rw [hsz]; exact ⟨h.2.1.cell, h.2.2.1.cell, h.2.2.2.1⟩
  · rw [hsz]
    exact OwnFrom.and (Own.from (holdsRow_own _ _ _ _ _ (fun pre : List Int => (encs pre).length) (fun pre => (encs pre).map bv) (fun _ _ => True)) _) (OwnFrom.and (Own.from (boxed_own _ _ (fun _ => _)) _) (OwnFrom.and (Own.from (boxed_own _ _ (fun _ => _)) _) (OwnFrom.and (tabs_own _) (ownFrom_below (Nat.le_refl _) (by have := hk0.size; omega)))))
  · refine ⟨⟨v0, ?_, ?_, trivial⟩, hx.1, hx.2.1, hT.kept (kept_trans hk1 hx.2.2), kept_trans hk1 hx.2.2⟩
    · rw [hw1]
      exact ((Boxed.new w0 _ _).alloc _).alloc _
    · rw [hw1]
      exact ((hown.alloc _).alloc _).alloc _
  · rintro pre c W ⟨⟨v, hv, hr, _⟩, h2, h3, h4, h5⟩ hc h0 hlen
    have hel := encs_len pre
    have hcr : 0 ≤ c ∧ c ≤ 1114111 := by unfold isChar at hc; omega
    refine (repair1_c c hcr.1 hcr.2 w.heap.size w0.heap.size (encs pre).length v (encs pre) W hv hr (by omega) h5.size (hk0.size)).mono ?_
    rintro e W' ⟨he, v', hv', hr', hko, hbl, hoth⟩
    refine ⟨he, ⟨⟨v', hv', ?_, trivial⟩, hoth _ _ _ (by decide) (by omega) h2, hoth _ _ _ (by decide) (by omega) h3, hT.kept (Below.trans h5 hbl), Below.trans h5 hbl⟩, hko⟩
    rw [encs_snoc, List.length_append]; exact hr'

set_option maxHeartbeats 1000000 in
theorem repair_c (s : ByteArray) (hs : s.size ≤ 17592186044416) (w : World) (hT : Tabs w) :
    Calls Tryd.prog 28 #[.string s] w fun e w' => e = .returned (.string (S (rep s.data.toList))) ∧ Kept w w' := by
  obtain ⟨i0, hi, hz0, hz1, hz2⟩ := info_parts Go.Proofs.YtbpccbdgkkfdpaaDoor.Mem.info_u8
  go_enter Tryd.func28, Tryd.ntmps28
  go_wp2_with (at_make; refine wpList_make_own _ rfl _ _ 54 rfl w.heap.size 5 i0 (.int .u8 0) 1 Tryd.underlying54 hi hz0 hz1 _ _ _ s.size rfl rfl rfl (by rw [hz2]; omega) (by unfold maxLen; omega) (Nat.le_refl _) ?_; intro w0 hown hgrow)
  refine (repair_each s hs w w0 hT ((Below.refl _ w).grown hgrow (Nat.le_refl _) (fun k hk => by cases hk)) _ hown).mono ?_
  rintro e w2 ⟨⟨u, rfl⟩, ⟨v, hv, hr, _⟩, h2, h3, h4, h5⟩
  have hcell := hv.cell
  have hcv := conv_own hr
  have H5 := Lib.hid h5
  have e1 : encs (chars s.data.toList) = rep s.data.toList := rfl
  rw [e1] at hcv
  clear hv hr h2 h3 h4 h5 hown hgrow hi hz0 hz1 hz2 e1
  go_wp2
  go_ret
  exact ⟨rfl, H5.out⟩

/-! ### Chars -/
end Go.Proofs.YtbpccbdgkkfdpaaDoor.Utf

/-
  Contracts of Encode, Normal and Decode of package percent.
-/
namespace Go.Proofs.YtbpccbdgkkfdpaaDoor.Pct
open Go.RowKit Go.Proofs.YtbpccbdgkkfdpaaDoor.Oct Go.Proofs.YtbpccbdgkkfdpaaDoor.Build Go.Proofs.YtbpccbdgkkfdpaaDoor.Utf

theorem enter_enc : ∀ args w, (callFunc 30 args).run Tryd.prog w = .ok (.enter 30 args) w := enters_of Tryd.func30 (by kernel_rfl) rfl
theorem enter_dec : ∀ args w, (callFunc 45 args).run Tryd.prog w = .ok (.enter 45 args) w := enters_of Tryd.func45 (by kernel_rfl) rfl

theorem enc1_c (l : List UInt8) (k b : Nat) (w : World) (hk : k < l.length) (hc : w.cell? ⟨b, 0, none⟩ = some (.string (S l))) :
    Calls Tryd.prog 30 #[.int .i64 (k : Int), .pointer (some ⟨b, 0, none⟩)] w fun e w' => e = .returned (.bool (encP (l.drop k))) ∧ Below w.heap.size w w' := by
  have hsz : ((S l).size : Int) = (l.length : Int) := by rw [size_S]
  have h1 := at_S l k hk
  have E : Hid (encP (l.drop k) = unrI (l[k].toNat : Int)) := by
    show _ = _
    rw [List.drop_eq_getElem_cons hk]
    rfl
  have hb : (l[k].toNat : Int) ≤ 255 := by have := l[k].toNat_lt; omega
  generalize l[k] = c at h1 E hb
  have hu := fun w => unreserved_c (c.toNat : Int) w (by omega) hb
  have i0 : (0 : Int) ≤ (k : Int) := by omega
  have i1 : (k : Int) < (l.length : Int) := by omega
  go_enter Tryd.func30, Tryd.ntmps30
  go_wp2_with (go_at_call 31; refine (hu _).mono ?_; rintro e w' ⟨rfl, rfl⟩)
  go_ret
  exact ⟨ret_bool (by rw [E.out]), Below.refl _ _⟩

/-- A text, repaired, is not much longer. -/
theorem rep_len (s : ByteArray) : (rep s.data.toList).length ≤ 4 * s.size := by
  have h1 := encs_len (chars s.data.toList)
  have h2 := chars_len s.data.toList
  rw [size_list] at h2
  unfold rep
  omega

set_option maxHeartbeats 4000000 in
set_option maxRecDepth 100000 in
theorem encode_c (s : ByteArray) (hs : s.size ≤ 1099511627776) (w : World) (hT : Tabs w) :
    Calls Tryd.prog 15 #[.string s] w fun e w' => e = .returned (.string (S (encL (rep s.data.toList)))) ∧ Below w.heap.size w w' := by
  have hrep := repair_c s (by omega) w hT
  have hrl := rep_len s
  generalize rep s.data.toList = r at hrep hrl
  have hrl2 : r.length ≤ 4398046511104 := by omega
  clear hrl
  have henc := Lib.hid (fun (W : World) (b : Nat) (hc : W.cell? ⟨b, 0, none⟩ = some (.string (S r))) (hb : b < W.heap.size) => encoded_c r hrl2 encP 30 #[.pointer (some ⟨b, 0, none⟩)] W enter_enc
    (fun k W' hk hbl => enc1_c r k b W' hk (by rw [hbl.cell hb]; exact hc)))
  go_enter Tryd.func15, Tryd.ntmps15
  go_wp2_with fail
  refine hrep.mono ?_
  rintro e w1 ⟨rfl, hb1⟩
  have hc1 : (w1.alloc (.cells #[.string (S r)] 9)).cell? ⟨w1.heap.size, 0, none⟩ = some (.string (S r)) := by simp
  have HE := Lib.hid (henc.out (w1.alloc (.cells #[.string (S r)] 9)) w1.heap.size hc1 (by simp))
  have HB1 := Lib.hid (And.intro (Below.alloc hb1 hb1.size (.cells #[.string (S r)] 9)) (Below.alloc hb1 hb1.size (.cells #[.string (S r)] 9)).size)
  clear hrep hT hb1 henc
  go_wp2_with (go_at_call 29; refine HE.out.mono ?_; rintro e w2 ⟨rfl, hb2⟩)
  go_ret
  exact ⟨rfl, HB1.out.1.trans (hb2.mono HB1.out.2)⟩

theorem dec1_c (o : List UInt8) (c : UInt8) (w W : World) (h : Has w.heap.size w.heap.size o W ∧ Below w.heap.size w W) (hl : o.length ≤ 4398046511104) :
    Calls Tryd.prog 45 #[.int .u8 (c.toNat : Int), .pointer (some ⟨w.heap.size, 0, none⟩)] W fun e W' => (∃ v, e = .returned v) ∧ (Has w.heap.size w.heap.size (o ++ [c]) W' ∧ Below w.heap.size w W') := by
  have hp := Lib.hid (byte_c w.heap.size w.heap.size o c W h.1 (by omega))
  have e1 := enter_byte
  have HB := Lib.hid h.2
  clear h
  go_enter Tryd.func45, Tryd.ntmps45
  go_wp2_with (go_at_fn 46; refine hp.out.mono ?_; rintro e w3 ⟨rfl, h3, h4⟩)
  go_end0
  exact ⟨⟨_, rfl⟩, h3, HB.out.trans h4⟩

theorem each_dec (l : List UInt8) (hl : l.length ≤ 4398046511104) (w : World) :
    Calls Tryd.prog 44 #[.string (S l), .func (.func 45) #[] #[.pointer (some ⟨w.heap.size, 0, none⟩)]] (w.alloc (.cells #[.pointer none, .slice none 0 0] 60)) fun e W' =>
      e = .returned (.int .i64 ((tellL l).2 : Int)) ∧ Has w.heap.size w.heap.size (tellL l).1 W' ∧ Below w.heap.size w W' :=
  each_c l hl 45 #[.pointer (some ⟨w.heap.size, 0, none⟩)] _ (fun o W => Has w.heap.size w.heap.size o W ∧ Below w.heap.size w W) enter_dec
    ⟨has_fresh w, (Below.refl _ w).alloc (Nat.le_refl _) _⟩
    (fun o W W' h hb => ⟨has_below h.1 hb, h.2.trans (hb.mono h.2.size)⟩)
    (fun o c W h hlt => dec1_c o c w W h (by omega))

/-- A text decoded: its octets, the place where that ended, and the error. -/
theorem decode_yes (l : List UInt8) (hl : l.length ≤ 4398046511104) (h : (tellL l).2 = l.length) (w : World) :
    Calls Tryd.prog 23 #[.string (S l)] w fun e w' => e = .returned (.tuple #[.string (S (tellL l).1), .int .i64 (l.length : Int), .int .i64 0]) ∧ Below w.heap.size w w' := by
  have hsz : ((S l).size : Int) = (l.length : Int) := by rw [size_S]
  have he := each_dec l hl w
  rw [h] at he
  have HS := Lib.hid (fun W (h : Has w.heap.size w.heap.size (tellL l).1 W) => Tryd.Builder_String_any w.heap.size w.heap.size (tellL l).1 W h (Nat.le_of_lt (has_lt h).2))
  have e3 := enter_string
  clear h hl
  go_enter Tryd.func23, Tryd.ntmps23
  go_wp2_with fail
  refine he.mono ?_
  rintro e w1 ⟨rfl, h1, hb1⟩
  have H1 := Lib.hid h1
  have HB1 := Lib.hid hb1
  clear he h1 hb1
  go_wp2_with (go_at_fn 34; refine (HS.out _ H1.out).mono ?_; rintro e w3 ⟨rfl, h3⟩)
  go_ret3
  exact ⟨rfl, HB1.out.trans h3⟩
theorem decode_no (l : List UInt8) (hl : l.length ≤ 4398046511104) (h : (tellL l).2 < l.length) (w : World) :
    Calls Tryd.prog 23 #[.string (S l)] w fun e w' => e = .returned (.tuple #[.string ⟨#[]⟩, .int .i64 ((tellL l).2 : Int), .int .i64 33]) ∧ Below w.heap.size w w' := by
  have hsz : ((S l).size : Int) = (l.length : Int) := by rw [size_S]
  have he := each_dec l hl w
  have hi : ((tellL l).2 : Int) < (l.length : Int) := by omega
  clear h hl
  generalize ((tellL l).2 : Int) = at0 at he hi
  go_enter Tryd.func23, Tryd.ntmps23
  go_wp2_with fail
  refine he.mono ?_
  rintro e w1 ⟨rfl, h1, hb1⟩
  have HB1 := Lib.hid hb1
  clear he h1 hb1
  go_wp2_with fail
  go_ret3
  exact ⟨rfl, HB1.out⟩
end Go.Proofs.YtbpccbdgkkfdpaaDoor.Pct
