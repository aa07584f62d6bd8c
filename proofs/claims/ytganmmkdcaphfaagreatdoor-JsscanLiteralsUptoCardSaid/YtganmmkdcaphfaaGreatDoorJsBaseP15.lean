/-
  Part 15: TlChar, UtfParts, UtfEach, UtfCalls.
-/
import Derived.Test.YtganmmkdcaphfaaGreatDoorJsBaseP14
import Derived.Test.YtganmmkdcaphfaaGreatDoorJsBaseP7
import Derived.Test.YtganmmkdcaphfaaGreatDoorJsBaseP9
import Derived.RangeFuncNested
import Derived.RangeFuncBound
import Derived.RangeFuncCalls
import Derived.RangeFuncLeaves
import Derived.Shelf.Abstract
import Derived.Shelf.RegionOpen
import Derived.OwnWalkIn
import Derived.TacticsInMore
import Derived.LoopNIn
import Derived.LoopIn
/-
  Contracts of literal's put closure, bare, tellUnit and tellChar: a character, put into a builder.
-/
namespace Go.Proofs.YtganmmkdcaphfaaGreatDoor.Tl
open Go.RowKit Go.Proofs.YtganmmkdcaphfaaGreatDoor.Oct Go.Proofs.YtganmmkdcaphfaaGreatDoor.Utf Go.Proofs.YtganmmkdcaphfaaGreatDoor.Build Go.Proofs.YtganmmkdcaphfaaGreatDoor.Val Go.Proofs.YtganmmkdcaphfaaGreatDoor.Lit
open Go.Lib (encodeRune)

theorem enter_put : ∀ args w, (callFunc 96 args).run Tryz.prog w = .ok (.enter 96 args) w := enters_of Tryz.func96 (by kernel_rfl) rfl
/-- The function value that puts a text into the builder in block b. -/
abbrev putG (b : Nat) : Value := .func (.func 96) #[] #[.pointer (some ⟨b, 0, none⟩)]

set_option maxHeartbeats 1000000 in
theorem put_c (B b : Nat) (l t : List UInt8) (w : World) (h : Has B b l w) (hlen : l.length + t.length ≤ 140737488355328) (hBw : B ≤ w.heap.size) :
    Calls Tryz.prog 96 #[.string (S t), .pointer (some ⟨b, 0, none⟩)] w (Put B b (l ++ t) w) := by
  have e30 := enter_write
  have hc := write_c B b (Lib.byteCells l) (S t) w h (by rw [Lib.byteCells_length, size_S]; exact hlen) hBw
  rw [Lib.strCells_eq, ← Lib.byteCells_append] at hc
  clear h
  go_enter Tryz.func96, Tryz.ntmps96
  go_wp2_with (go_at_fn 97; refine hc.mono ?_; rintro e w1 ⟨rfl, h1, h2, h3⟩)
  go_end0
  exact ⟨rfl, h1, h2, h3⟩

theorem hexI_c (n : Nat) (hn : n < 65536) (w : World) : Calls Tryz.prog 140 #[.int .i64 (n : Int), .int .i64 4] w fun e w' => e = .returned (.string (S (hexL n 4))) ∧ Below w.heap.size w w' := by
  have h := hex_c (n : Int) 4 w
  have e1 : u64 (n : Int) = n := by unfold u64; omega
  have e2 : clamp 4 = 4 := by decide
  rw [e1, e2] at h
  exact h

set_option maxHeartbeats 1000000 in
theorem tellUnit_c (B b : Nat) (l : List UInt8) (n : Nat) (hn : n < 65536) (w : World) (h : Has B b l w) (hlen : l.length + 6 ≤ 140737488355328) (hBw : B ≤ w.heap.size) :
    Calls Tryz.prog 131 #[.int .i64 (n : Int), putG b] w (Put B b (l ++ escL n) w) := by
  have e9 := enter_put
  have hc := put_c B b l [92, 117] w h (by simp; omega) hBw
  have hh := hexI_c n hn
  have HC := Lib.hid (fun w1 (h1 : Has B b (l ++ [92, 117]) w1) (hB : B ≤ w1.heap.size) => put_c B b (l ++ [92, 117]) (hexL n 4) w1 h1 (by simp [hexL_length]; omega) hB)
  have e3 : Hid (l ++ escL n = (l ++ [92, 117]) ++ hexL n 4) := by show _ = _; simp [escL]
  have HB := Lib.hid hBw
  clear h hBw
  go_enter Tryz.func131, Tryz.ntmps131
  go_wp2_with (first
    | (go_at_call 140; refine (hh _).mono ?_; rintro e w2 ⟨rfl, h2⟩; have H2 := Lib.hid h2; clear h2; have hc2 := HC.out w2 (has_below H1.out.1 H2.out) (Nat.le_trans HB.out (Nat.le_trans H1.out.2.1.size H2.out.size)))
    | (go_at_fn 96; refine hc2.mono ?_; rintro e w3 h3; obtain rfl := h3.1)
    | (go_at_fn 96; refine hc.mono ?_; rintro e w1 ⟨rfl, h1⟩; have H1 := Lib.hid h1; clear h1))
  go_end0
  rw [e3.out]
  exact ⟨rfl, h3.2.1, (H1.out.2.1.trans (H2.out.mono (Nat.le_trans HB.out H1.out.2.1.size))).trans h3.2.2.1, (H1.out.2.2.below H2.out).trans h3.2.2.2⟩

theorem signs_at : ∀ k : Fin 128, decide (0 ≤ Lib.indexByte [32, 95, 46, 44] (k.val).toUInt8) = (k.val == 32 || k.val == 95 || k.val == 46 || k.val == 44) := by decide +kernel

set_option maxHeartbeats 2000000 in
theorem bare_c (c : Int) (w : World) (h0 : 0 ≤ c) (h1 : c ≤ 1114111) : Calls Tryz.prog 130 #[.int .i64 c] w fun e w' => e = .returned (.bool (bareB c)) ∧ w' = w := by
  by_cases h128 : c ≤ 127
  · have hu : IntKind.u8.wrap c = c := by rw [IntKind.wrap_u8]; omega
    have hl := letter_c c w h0 (by omega)
    have hd := Num.within_c c 48 57 w
    have hx := Tryz.strings_IndexByte (S [32, 95, 46, 44]) c w
    have hs := signs_at ⟨c.toNat, by omega⟩
    simp only at hs hx
    obtain ⟨q, hq⟩ : ∃ q, Lib.indexByte [32, 95, 46, 44] c.toNat.toUInt8 = q := ⟨_, rfl⟩
    rw [hq] at hs hx
    clear hq
    have hgt : ¬ 127 < c := by omega
    cases el : letterI c with
    | true =>
      rw [el] at hl
      have F : Hid (bareB c = true) := by show _ = _; simp [letterI] at el; simp [bareB]; omega
      clear el hs
      go_enter Tryz.func130, Tryz.ntmps130
      go_wp2_with (go_at_call 60; refine hl.mono ?_; rintro e w' ⟨rfl, rfl⟩)
      go_ret
      exact ⟨by rw [F.out]; rfl, rfl⟩
    | false =>
      rw [el] at hl
      cases ed : Num.betweenB c 48 57 with
      | true =>
        rw [ed] at hd
        have F : Hid (bareB c = true) := by show _ = _; simp [Num.betweenB] at ed; simp [bareB]; omega
        clear el ed hs
        go_enter Tryz.func130, Tryz.ntmps130
        go_wp2_with (first | (go_at_call 60; refine hl.mono ?_; rintro e w' ⟨rfl, rfl⟩) | (go_at_call 101; refine hd.mono ?_; rintro e w' ⟨rfl, rfl⟩))
        go_ret
        exact ⟨by rw [F.out]; rfl, rfl⟩
      | false =>
        rw [ed] at hd
        have F : Hid (bareB c = decide (0 ≤ q)) := by
          show _ = _
          rw [hs]
          simp [Num.betweenB] at ed; simp [letterI] at el
          rw [Bool.eq_iff_iff]; simp [bareB]; omega
        clear el ed hs
        go_enter Tryz.func130, Tryz.ntmps130
        go_wp2_with (first | (go_at_call 60; refine hl.mono ?_; rintro e w' ⟨rfl, rfl⟩) | (go_at_call 101; refine hd.mono ?_; rintro e w' ⟨rfl, rfl⟩) | (go_at_call 132; refine hx.mono ?_; rintro e w' ⟨rfl, rfl⟩))
        go_ret
        exact ⟨by rw [F.out]; rfl, rfl⟩
  · have F : Hid (bareB c = false) := by show _ = _; simp [bareB]; omega
    have hd : 127 < c := by omega
    go_enter Tryz.func130, Tryz.ntmps130
    go_wp2
    go_ret
    exact ⟨by rw [F.out]; rfl, rfl⟩

theorem encode_ascii : ∀ k : Fin 128, Utf8.encode (k.val : Int) = S [(k.val).toUInt8] := by decide +kernel
theorem bare_lt {c : Int} (h : bareB c = true) : 0 ≤ c ∧ c < 128 := by simp [bareB] at h; omega
theorem bare_text {c : Int} (h : bareB c = true) : Utf8.encode c = S [c.toNat.toUInt8] := by
  obtain ⟨h0, h1⟩ := bare_lt h
  obtain ⟨k, rfl⟩ : ∃ k : Fin 128, c = (k.val : Int) := ⟨⟨c.toNat, by omega⟩, by show c = ((c.toNat : Nat) : Int); omega⟩
  exact encode_ascii k
theorem tellUnit_i (B b : Nat) (l : List UInt8) (m : Int) (n : Nat) (hm : m = (n : Int)) (hn : n < 65536) (w : World) (h : Has B b l w) (hlen : l.length + 6 ≤ 140737488355328) (hBw : B ≤ w.heap.size) :
    Calls Tryz.prog 131 #[.int .i64 m, putG b] w (Put B b (l ++ escL n) w) := by
  rw [hm]; exact tellUnit_c B b l n hn w h hlen hBw

set_option maxHeartbeats 1000000 in
theorem tellChar_c (B b : Nat) (l : List UInt8) (c : Int) (h0 : 0 ≤ c) (h1 : c ≤ 1114111) (w : World) (h : Has B b l w) (hlen : l.length + 12 ≤ 140737488355328) (hBw : B ≤ w.heap.size) :
    Calls Tryz.prog 118 #[.int .i64 c, putG b] w (Put B b (l ++ charL c) w) := by
  have e9 := enter_put
  have hb := fun w => bare_c c w h0 h1
  unfold charL
  cases hq : bareB c with
  | true =>
    rw [hq] at hb
    simp only [if_true]
    have hc := put_c B b l [c.toNat.toUInt8] w h (by simp; omega) hBw
    rw [← bare_text hq] at hc
    clear h hBw
    go_enter Tryz.func118, Tryz.ntmps118
    go_wp2_with (first
      | (go_at_call 130; refine (hb _).mono ?_; rintro e w2 ⟨rfl, rfl⟩)
      | (go_at_fn 96; refine hc.mono ?_; rintro e w3 h3; obtain rfl := h3.1))
    go_end0
    exact h3
  | false =>
    rw [hq] at hb
    simp only [Bool.false_eq_true, if_false]
    by_cases h6 : 65536 ≤ c
    · rw [if_pos h6]
      obtain ⟨x, hx⟩ : ∃ x : Nat, c - 65536 = (x : Int) := ⟨(c - 65536).toNat, by omega⟩
      have hx2 : x < 1048576 := by omega
      have e1 : (c - 65536).toNat = x := by omega
      rw [e1]
      clear e1
      have hm := bits_mask .i64 62 (by decide) (fun n h0 h1 => by rw [IntKind.wrap_i64]; omega) 10 (by decide) (x : Int) (by omega) (by omega)
      have e2 : ((2 : Int) ^ 10 - 1) = 1023 := by decide
      rw [e2] at hm
      have HT := Lib.hid (fun w1 (h1 : Has B b (l ++ escL (55296 + x / 1024)) w1) (hB : B ≤ w1.heap.size) (m : Int) (hm : m = ((56320 + x % 1024 : Nat) : Int)) => tellUnit_i B b (l ++ escL (55296 + x / 1024)) m (56320 + x % 1024) hm (by omega) w1 h1 (by simp [escL_len]; omega) hB)
      have HT0 := Lib.hid (fun (m : Int) (hm : m = ((55296 + x / 1024 : Nat) : Int)) => tellUnit_i B b l m (55296 + x / 1024) hm (by omega) w h (by omega) hBw)
      have HB := Lib.hid hBw
      clear h hBw
      have e3 : (2 : Int) ^ 10 = 1024 := by decide
      rw [e3] at hm
      clear e2 e3
      go_enter Tryz.func118, Tryz.ntmps118
      go_wp2_with (first
        | (go_at_call 130; refine (hb _).mono ?_; rintro e w2 ⟨rfl, rfl⟩)
        | (go_at_call 131; refine (HT.out w3 H3.out.2.1 (Nat.le_trans HB.out H3.out.2.2.1.size) _ (by omega)).mono ?_; rintro e w4 h4; obtain rfl := h4.1)
        | (go_at_call 131; refine (HT0.out _ (by omega)).mono ?_; rintro e w3 h3; obtain rfl := h3.1; have H3 := Lib.hid h3; clear h3))
      go_end0
      rw [← List.append_assoc]
      exact ⟨rfl, h4.2.1, H3.out.2.2.1.trans h4.2.2.1, H3.out.2.2.2.trans h4.2.2.2⟩
    · rw [if_neg h6]
      have HT0 := Lib.hid (fun (m : Int) (hm : m = ((c.toNat : Nat) : Int)) => tellUnit_i B b l m c.toNat hm (by omega) w h (by omega) hBw)
      clear h hBw
      go_enter Tryz.func118, Tryz.ntmps118
      go_wp2_with (first
        | (go_at_call 130; refine (hb _).mono ?_; rintro e w2 ⟨rfl, rfl⟩)
        | (go_at_call 131; refine (HT0.out _ (by omega)).mono ?_; rintro e w3 h3; obtain rfl := h3.1))
      go_end0
      exact h3
end Go.Proofs.YtganmmkdcaphfaaGreatDoor.Tl

/-
  Contracts of utf.parts and of the iterator that it hands out: the parts of the text, from the left.
-/
namespace Go.Proofs.YtganmmkdcaphfaaGreatDoor.Utf
open Go.RowKit Go.Proofs.YtganmmkdcaphfaaGreatDoor.Oct Go.Proofs.YtganmmkdcaphfaaGreatDoor.Mem
open Go.Lib (encodeRune)

attribute [local go_sem] Oper.semAt_some

/-- A part of a text: a character, or -1. -/
abbrev Part := { c : Int // c = -1 ∨ isChar c }
abbrev vals (l : List Part) : List Int := l.map (·.1)

/-- What the iterator reads between two rounds: the text, in the box B, and Go's own tables. -/
def Reads (B : Nat) (s : ByteArray) (W : World) : Prop := W.cell? ⟨B, 0, none⟩ = some (.string s) ∧ Tabs W
def KeepsReads (B : Nat) (s : ByteArray) (W W' : World) : Prop := Reads B s W → Reads B s W'

theorem Reads.kept {B : Nat} {s : ByteArray} {W W' : World} (h : Reads B s W) (hb : Kept W W') : Reads B s W' := ⟨kept_cell hb h.1, h.2.kept hb⟩
theorem Reads.turned {B : Nat} {s : ByteArray} {W W' : World} {row : Option Nat} (h : Reads B s W) (hg : W.grownBy W' row) (hr : ∀ r, row = some r → ∃ o : Obj, W.heap[r]? = some o ∧ o.isCells = false) : Reads B s W' :=
  ⟨cell_kept h.1 hg hr, fun c hc => cell_kept (h.2.1 c hc) hg hr, fun i hi => ⟨cell_kept (h.2.2 i hi).1 hg hr, cell_kept (h.2.2 i hi).2 hg hr⟩⟩
theorem keepsReads_t {B : Nat} {s : ByteArray} {X Y Z : World} (h : KeepsReads B s X Y) (k : KeepsReads B s Y Z) : KeepsReads B s X Z := fun x => k (h x)
theorem keepsReads_b {B : Nat} {s : ByteArray} {w : World} (W : World) (l : Nat) (o o' : Obj) (_ : w.heap.size ≤ l) (h : W.heap[l]? = some o) (hc : o.isCells = false) (_ : o.isWalk = false) : KeepsReads B s W (W.putObj l o') :=
  fun x => x.turned (grownBy_putObj' W l o') (fun r e => by cases e; exact ⟨o, h, hc⟩)
theorem kept_grown {W W' : World} (h : Kept W W') : W.grownBy W' none := ⟨h.os, h.tape, h.output, h.size, fun k hk _ => h.block k hk⟩

set_option maxRecDepth 100000 in
set_option maxHeartbeats 2000000 in
theorem parts1_stops (n : Nat) (hn : 1 ≤ n) (B : Nat) (s : ByteArray) (hs : s.size ≤ 4611686018427387904) (w : World) (hR : Reads B s w) :
    SeqStopsK Fence.wide n Tryz.prog 142 #[.pointer (some ⟨B, 0, none⟩)] (fun x : Part => #[Value.int .i64 x.1]) (KeepsReads B s) (fun xs => vals xs = parts s.data.toList) (fun pre => vals pre <+: parts s.data.toList) s.size w :=
  fun l J Jx W hW hJ hJx hY h0 => by
  have hR0 := hR.kept hW
  clear hR hJx
  refine callsIn_of_wp Tryz.func142 rfl trivial ?_ rfl
  simp only [Tryz.ntmps142, List.size_toArray, List.length_cons, List.length_nil, Nat.reduceAdd, Nat.reduceSub, Array.replicate_succ, Array.replicate_zero, List.push_toArray, List.append_toArray, List.nil_append, List.cons_append]
  gi_wp2
  gi_loopw [3, 4, 5] (fun i _ _ wr => ∃ (a : Nat) (pre : List Part), a ≤ s.size ∧ i = .int .i64 a ∧ Hid (vals pre ++ parts (s.data.toList.drop a) = parts s.data.toList) ∧ Hid (pre.length ≤ a) ∧ Hid (J pre wr) ∧ Hid (Reads B s wr))
    (fun i _ _ _ => s.size - (intOf i).toNat)
  case atStart => exact ⟨0, [], Nat.zero_le _, rfl, by show _ = _; simp, Nat.le_refl _, h0, hR0⟩
  case round =>
    obtain ⟨a, pre, ha, rfl, hpre, hlen, hJs, hRs⟩ := hrel
    clear h0 hR0
    have hcell : wr.cell? ⟨B, 0, none⟩ = some (.string s) := hRs.out.1
    by_cases hlt : a < s.size
    · have hd := decode_c (s.extract a s.size) wr hRs.out.2
      rw [cut_list] at hd
      have hne : s.data.toList.drop a ≠ [] := by
        intro e; have := congrArg List.length e; rw [List.length_drop, size_list] at this; simp at this; omega
      have hw := dec_width _ hne
      rw [List.length_drop, size_list] at hw
      have hc := dec_char _ hne
      have hst : Hid (parts (s.data.toList.drop a) = (dec (s.data.toList.drop a)).1 :: parts (s.data.toList.drop (a + (dec (s.data.toList.drop a)).2))) := by
        show _ = _
        rw [parts_step _ hne, List.drop_drop]
      clear hne
      generalize dec (s.data.toList.drop a) = d at hd hw hc hst
      obtain ⟨c, k⟩ := d
      simp only at hd hw hc
      have hst' : Hid (parts (s.data.toList.drop a) = c :: parts (s.data.toList.drop (a + k))) := hst
      clear hst
      have HC := Lib.hid hc
      clear hc
      gi_wp2_with fail
      refine ⟨trivial, ?_⟩
      refine (callsIn_wide.2 hd).mono ?_
      rintro e w1 ⟨rfl, hb⟩
      obtain ⟨fn, tmps, assign, body, hy, hRd⟩ := hY pre ⟨c, HC.out⟩ w1 (hJ pre wr w1 none hJs.out (kept_grown hb) (fun r e => by cases e)) (by have := hlen.out; omega)
      have hR1 := Lib.hid (hRs.out.kept hb)
      have hcell1 : w1.cell? ⟨B, 0, none⟩ = some (.string s) := hR1.out.1
      clear hcell hb hd
      dsimp only at hy
      gi_wp2
      refine hRd.mono ?_
      rintro e W3 (⟨rfl, hJ3, hk3⟩ | ⟨rfl, hJx3⟩)
      · have hR3 := Lib.hid (hk3 hR1.out)
        have HJ3 := Lib.hid hJ3
        clear hJ3 hk3 hy hcell1
        gi_wp2
        go_roundw
        case rel =>
          refine ⟨a + k, pre ++ [⟨c, HC.out⟩], by omega, by go_num, ?_, ?_, HJ3, hR3⟩
          · show _ = _
            rw [← hpre.out, hst'.out]; simp
          · show _ ≤ _
            have := hlen.out; simp; omega
        case measure => simp [intOf]; omega
      · gi_wp2
        refine bodyPost_ret (results_none rfl _ _ _) rfl ?_
        refine ⟨⟨_, rfl⟩, .inr ⟨_, ⟨parts (s.data.toList.drop (a + k)), ?_⟩, hJx3⟩⟩
        rw [← hpre.out, hst'.out]; simp
    · gi_wp2
      go_end0
      refine ⟨⟨_, rfl⟩, .inl ⟨pre, ?_, hJs.out⟩⟩
      rw [← hpre.out, List.drop_eq_nil_of_le (by rw [size_list]; omega), parts_nil, List.append_nil]

set_option maxHeartbeats 1000000 in
/-- utf.parts: the text is boxed; the function value holds the box. -/
theorem parts_c (n : Nat) (s : ByteArray) (w : World) :
    CallsIn Fence.wide n Tryz.prog 139 #[.string s] w fun e w' => e = .returned (.func (.func 142) #[] #[.pointer (some ⟨w.heap.size, 0, none⟩)]) ∧ w' = w.alloc (.cells #[.string s] 9) := by
  refine callsIn_of_wp Tryz.func139 rfl trivial ?_ rfl
  simp only [Tryz.ntmps139, List.size_toArray, List.length_cons, List.length_nil, Nat.reduceAdd, Nat.reduceSub, Array.replicate_succ, Array.replicate_zero, List.push_toArray, List.append_toArray, List.nil_append, List.cons_append]
  gi_wp2
  go_ret
  exact ⟨rfl, rfl⟩
end Go.Proofs.YtganmmkdcaphfaaGreatDoor.Utf

/-
  Contracts of utf.eachRepaired, at whatever function value that is handed in and whatever it makes of memory of its own, and of utf.anyPart, at a function value that changes nothing.
-/
namespace Go.Proofs.YtganmmkdcaphfaaGreatDoor.Utf
open Go.RowKit Go.Proofs.YtganmmkdcaphfaaGreatDoor.Oct Go.Proofs.YtganmmkdcaphfaaGreatDoor.Mem
open Go.Lib (encodeRune)

attribute [local go_sem] Oper.semAt_some

theorem enter_parts1 : ∀ args w, (callFunc 142 args).run Tryz.prog w = .ok (.enter 142 args) w := enters_of Tryz.func142 (by kernel_rfl) rfl

/-- The world in which eachRepaired begins its loop: the function value and the text in boxes of their own. -/
abbrev eachWorld (w : World) (dov : Value) (s : ByteArray) : World := (w.alloc (.cells #[dov] 118)).alloc (.cells #[.string s] 9)

set_option maxRecDepth 100000 in
set_option maxHeartbeats 4000000 in
theorem each_c (s : ByteArray) (hs : s.size ≤ 4611686018427387904) (g : Nat) (lb : Array Value) (w : World) (J : List Int → World → Prop)
    (eg : ∀ args w, (callFunc g args).run Tryz.prog w = .ok (.enter g args) w)
    (hQ : ∀ pre W, J pre W → W.cell? ⟨w.heap.size, 0, none⟩ = some (.func (.func g) #[] lb) ∧ Reads (w.heap.size + 1) s W)
    (hown : OwnFrom (w.heap.size + 2) J)
    (h0 : J [] (eachWorld w (.func (.func g) #[] lb) s))
    (hdo : ∀ pre c W, J pre W → isChar c → c ≠ 0 → pre.length < s.size → Calls Tryz.prog g (#[.int .i64 c] ++ lb) W fun e W' => (∃ v, e = .returned v) ∧ J (pre ++ [c]) W' ∧ KeepsOthers W W') :
    Calls Tryz.prog 128 #[.string s, .func (.func g) #[] lb] w fun e W' => (∃ v, e = .returned v) ∧ J (chars s.data.toList) W' := by
  refine (callsIn_wide (n := 3)).1 ?_
  refine callsIn_of_wp_marks Tryz.func128 rfl trivial ?_ rfl
  simp only [Tryz.ntmps128, List.size_toArray, List.length_cons, List.length_nil, Nat.reduceAdd, Nat.reduceSub, Array.replicate_succ, Array.replicate_zero, List.push_toArray, List.append_toArray, List.nil_append, List.cons_append]
  gi_wp2_with fail
  refine ⟨trivial, ?_⟩
  refine (parts_c _ s _).mono ?_
  rintro e w' ⟨rfl, rfl⟩
  gi_wp2
  have hR0 : Reads (w.heap.size + 1) s (eachWorld w (.func (.func g) #[] lb) s) := (hQ _ _ h0).2
  refine wpIn_rangeFunc_ownF rfl (by omega) (gf := 142) (lb := #[.pointer (some ⟨w.heap.size + 1, 0, none⟩)]) rfl trivial enter_parts1
    (parts1_stops _ (by omega) (w.heap.size + 1) s hs _ hR0) keepsReads_t keepsReads_b (Below.refl _ _) (fun _ => rfl)
    (fun pre W => J ((vals pre).map fix) W)
    (fun _ _ _ => False)
    (fun p X Y row hp hg hr => hown _ X Y row hp hg (fun r e => by have := hr r e; simp at this; exact this))
    (fun _ _ _ _ _ hs _ _ => hs)
    h0
    (fun x => { tmps := #[.string s, .func (.func g) #[] lb, undef, .pointer (some ⟨w.heap.size, 0, none⟩), .int .i64 x.1, .string s, .func (.func 142) #[] #[.pointer (some ⟨w.heap.size + 1, 0, none⟩)], .int .i64 x.1, undef, undef, undef, undef, undef, undef, undef, undef, undef], defers := [] }) ?assign ?body ?done ?stop
  case assign =>
    intro l x W K hK
    gi_wp2
    exact hK
  case body =>
    rintro l pre ⟨c, hc⟩ W hJ hlen
    have hcell : W.cell? ⟨w.heap.size, 0, none⟩ = some (.func (.func g) #[] lb) := (hQ _ _ hJ).1
    have hf := fix_char hc
    have hcall := hdo _ (fix c) W hJ hf.1 hf.2 (by simpa using hlen)
    have hJ3 : ∀ W', J ((vals pre).map fix ++ [fix c]) W' → J ((vals (pre ++ [⟨c, hc⟩])).map fix) W' := fun W' h => by simpa using h
    have HJ3 := Lib.hid hJ3
    have HQ := Lib.hid hQ
    clear hJ3 hf hQ hown h0 hdo hR0
    by_cases h1 : c = -1
    · subst h1
      have e1 : fix (-1) = 65533 := by decide
      rw [e1] at hcall HJ3
      clear e1
      gi_wp2_with fail
      refine ⟨trivial, (CallsIn.inRound l (callsIn_wide.2 hcall)).mono ?_⟩
      rintro e W' ⟨⟨v, rfl⟩, hJ', hk'⟩
      clear hcall hcell
      gi_wp2
      exact ⟨hk', fun _ => (HQ.out _ _ hJ').2, HJ3.out _ hJ'⟩
    · by_cases h2 : c = 0
      · subst h2
        have e1 : fix 0 = 65533 := by decide
        rw [e1] at hcall HJ3
        clear e1 h1
        gi_wp2_with fail
        refine ⟨trivial, (CallsIn.inRound l (callsIn_wide.2 hcall)).mono ?_⟩
        rintro e W' ⟨⟨v, rfl⟩, hJ', hk'⟩
        clear hcall hcell
        gi_wp2
        exact ⟨hk', fun _ => (HQ.out _ _ hJ').2, HJ3.out _ hJ'⟩
      · have e1 : fix c = c := by unfold fix; rw [if_neg (by omega)]
        rw [e1] at hcall HJ3
        have b1 : (c == -1) = false := by simpa using h1
        have b2 : (c == 0) = false := by simpa using h2
        clear e1 h1 h2
        gi_wp2_with fail
        refine ⟨trivial, (CallsIn.inRound l (callsIn_wide.2 hcall)).mono ?_⟩
        rintro e W' ⟨⟨v, rfl⟩, hJ', hk'⟩
        clear hcall hcell
        gi_wp2
        exact ⟨hk', fun _ => (HQ.out _ _ hJ').2, HJ3.out _ hJ'⟩
  case done =>
    rintro D ys W hD hS hJ hK
    gi_wp2
    refine ⟨by simp, .inl ⟨_, _, rfl, run_takeDeferred hK, ?_⟩⟩
    refine ⟨_, results_none rfl _ _ _, ⟨_, rfl⟩, ?_⟩
    have hJ' : J (chars s.data.toList) W := by unfold chars; rw [← hS]; exact hJ
    exact hown.putObj _ hJ' (by simp at hD; omega) hK rfl
  case stop =>
    rintro D c pre W _ _ h _
    exact h.elim

/-- What is asked of a function value that tells of a part whether it is wanted: it changes nothing. -/
def Asks (g : Nat) (lb : Array Value) (p : Int → Bool) : Prop :=
  ∀ (c : Int) (W : World), Calls Tryz.prog g (#[.int .i64 c] ++ lb) W fun e w' => e = .returned (.bool (p c)) ∧ W = w'

end Go.Proofs.YtganmmkdcaphfaaGreatDoor.Utf

/-
  Contracts of utf.Valid, Count, Repair, Chars.
-/
namespace Go.Proofs.YtganmmkdcaphfaaGreatDoor.Utf
open Go.RowKit Go.Proofs.YtganmmkdcaphfaaGreatDoor.Oct Go.Proofs.YtganmmkdcaphfaaGreatDoor.Mem
open Go.Lib (encodeRune)

/-! ### Valid -/
theorem valid_any (l : List UInt8) : (!(parts l).any (fun c => c == -1)) = valid l := by
  unfold valid
  rw [Bool.eq_iff_iff]
  simp

/-! ### Count -/
theorem each_boxes (w : World) (dov : Value) (s : ByteArray) :
    Boxed (eachWorld w dov s) w.heap.size 118 dov ∧ Boxed (eachWorld w dov s) (w.heap.size + 1) 9 (.string s) ∧ Kept w (eachWorld w dov s) := by
  refine ⟨(Boxed.new w _ _).alloc _, ?_, ((Below.refl _ w).alloc (Nat.le_refl _) _).alloc (by simp) _⟩
  have := Boxed.new (w.alloc (.cells #[dov] 118)) 9 (.string s)
  rwa [World.size_alloc] at this

theorem tabs_own {β : Type} (B : Nat) : OwnFrom B (fun (_ : β) W => Tabs W) := fun _ _ _ _ hs hg hr =>
  ⟨fun c hc => cell_kept (hs.1 c hc) hg (fun r e => (hr r e).2), fun i hi => ⟨cell_kept (hs.2 i hi).1 hg (fun r e => (hr r e).2), cell_kept (hs.2 i hi).2 hg (fun r e => (hr r e).2)⟩⟩

theorem Tabs.below {B : Nat} {w W : World} (h : Tabs w) (hB : w.heap.size ≤ B) (hb : Below B w W) : Tabs W := h.kept (hb.mono hB)

/-- What holds between two rounds of Count. -/
def CountAt (w : World) (b : Nat) (dov : Value) (s : ByteArray) (pre : List Int) (W : World) : Prop :=
  Boxed W b 3 (.int .i64 (pre.length : Int)) ∧ Boxed W (b + 1) 118 dov ∧ Boxed W (b + 2) 9 (.string s) ∧ Tabs W ∧ Kept w W

end Go.Proofs.YtganmmkdcaphfaaGreatDoor.Utf
