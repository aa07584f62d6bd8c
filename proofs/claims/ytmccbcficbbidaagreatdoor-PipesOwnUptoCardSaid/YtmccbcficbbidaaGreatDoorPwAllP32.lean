/-
  Part 32: PwPrint, PwPut.
-/
import Derived.Test.YtmccbcficbbidaaGreatDoorPwAllP4
import Derived.Test.YtmccbcficbbidaaGreatDoorPwAllP13
import Derived.Test.YtmccbcficbbidaaGreatDoorPwAllP12
import Derived.Test.YtmccbcficbbidaaGreatDoorPwAllP31
import Derived.BigQuiet
import Derived.Lib.OthersKept
/-
  Contracts of package pipes: Print.
-/
namespace Go.Proofs.YtmccbcficbbidaaGreatDoor.Pw
open Go.RowKit Go.Proofs.YtmccbcficbbidaaGreatDoor.Oct Go.Proofs.YtmccbcficbbidaaGreatDoor.Lex Go.Proofs.YtmccbcficbbidaaGreatDoor.Lxw Go.Proofs.YtmccbcficbbidaaGreatDoor.Num Go.Proofs.YtmccbcficbbidaaGreatDoor.Pip

/-! ### The builder -/
theorem wstr_c (b : Nat) (l t : List UInt8) (w : World) (h : Has b l w) (hlen : l.length + t.length ≤ 140737488355328) :
    Calls Tryz.prog 32 #[.pointer (some ⟨b, 0, none⟩), .string (S t)] w fun e w' => e = .returned (.tuple #[.int .i64 (S t).size, .nilIface]) ∧ Has b (l ++ t) w' ∧ Below b w w' := by
  have hb := has_lt h
  have hc := Build.write_c b b (Lib.byteCells l) (S t) w h (by rw [Lib.byteCells_length, size_S]; omega) (by omega)
  rw [Lib.strCells_eq, ← Lib.byteCells_append, list_S] at hc
  exact hc.mono fun e w' ⟨h1, h2, h3, _⟩ => ⟨h1, h2, h3⟩
theorem blen_c (b : Nat) (l : List UInt8) (w : World) (h : Has b l w) :
    Calls Tryz.prog 30 #[.pointer (some ⟨b, 0, none⟩)] w fun e w' => e = .returned (.int .i64 (l.length : Int)) ∧ w = w' := by
  have h1 := Tryz.Builder_Len b b (Lib.byteCells l) w h
  rw [Lib.byteCells_length] at h1
  exact h1.mono fun e w' ⟨h1, h2⟩ => ⟨h1, h2.symm⟩
theorem bstr_c (b : Nat) (l : List UInt8) (w : World) (h : Has b l w) :
    Calls Tryz.prog 34 #[.pointer (some ⟨b, 0, none⟩)] w fun e w' => e = .returned (.string (S l)) ∧ Below b w w' :=
  Tryz.Builder_String_any b b l w h (Nat.le_of_lt (has_lt h))
/-- What puts a word, behind those that stand. -/
def PutOf (b : Nat) (l t : List UInt8) (w : World) (e : Ending) (w' : World) : Prop := e = .returned (.tuple #[]) ∧ Has b (putS l t) w' ∧ Below b w w'
set_option maxHeartbeats 1000000 in
set_option maxRecDepth 100000 in
theorem put_c (b : Nat) (l t : List UInt8) (w : World) (h : Has b l w) (hl : l.length ≤ 4194304) (ht : t.length ≤ 4194304) :
    Calls Tryz.prog 29 #[.string (S t), .pointer (some ⟨b, 0, none⟩)] w (PutOf b l t w) := by
  have hlen := blen_c b l w h
  have hq := eqN t
  have hbt := byte_c b l 32 w h (by omega)
  replace hbt : Calls Tryz.prog 31 #[.pointer (some ⟨b, 0, none⟩), .int .u8 32] w fun e w' => e = .returned .nilIface ∧ Has b (l ++ [32]) w' ∧ Below b w w' := hbt
  have HWs := Lib.hid (fun (m : List UInt8) W (hm : Has b m W) (h1 : m.length ≤ 4194305) => wstr_c b m t W hm (by omega))
  have l60 : (l.length : Int) ≤ 4194304 := by omega
  have l0 : (0 : Int) ≤ (l.length : Int) := by omega
  have hsz : ((S t).size : Int) = (t.length : Int) := by rw [size_S]
  by_cases hle : l = []
  · have HP : Hid (putS l t = l ++ t) := by
      show _ = _
      rw [hle, put_first]; rfl
    have hw := HWs.out l w h (by omega)
    have hn : l.length = 0 := by rw [hle]; rfl
    rw [hn] at hlen l60 l0
    have HB : Hid (Has b (putS l t) w → True) := fun _ => trivial
    clear hbt hle hn h
    generalize S t = T at *
    go_enter Tryz.func29, Tryz.ntmps29
    go_wp2_with (first
      | (go_at_call 30; refine hlen.mono ?_; rintro e1 w1 ⟨rfl, rfl⟩)
      | (go_at_call 32; refine hw.mono ?_; rintro e3 w3 ⟨rfl, h3, b3⟩; have H3 := Lib.hid (And.intro h3 b3); clear h3 b3))
    go_end0
    exact ⟨rfl, by rw [HP.out]; exact H3.out.1, H3.out.2⟩
  · have hln : 0 < l.length := List.length_pos_iff.2 hle
    have d1 : decide ((0 : Int) < (l.length : Int)) = true := decide_eq_true (by omega)
    have d2 : decide (0 < l.length) = true := decide_eq_true hln
    by_cases hte : t = []
    · rw [decide_eq_true hte] at hq
      have HP : Hid (putS l t = l ++ t) := by
        show _ = _
        rw [hte, put_nil, List.append_nil]
      have hw := HWs.out l w h (by omega)
      clear hbt hle h hte
      generalize S t = T at *
      go_enter Tryz.func29, Tryz.ntmps29
      go_wp2_with (first
        | (go_at_call 30; refine hlen.mono ?_; rintro e1 w1 ⟨rfl, rfl⟩)
        | (go_at_call 32; refine hw.mono ?_; rintro e3 w3 ⟨rfl, h3, b3⟩; have H3 := Lib.hid (And.intro h3 b3); clear h3 b3))
      go_end0
      exact ⟨rfl, by rw [HP.out]; exact H3.out.1, H3.out.2⟩
    · rw [decide_eq_false hte] at hq
      have HP : Hid (putS l t = (l ++ [32]) ++ t) := by
        show _ = _
        rw [put_next hle hte]; simp
      have HL : Hid ((l ++ [32]).length ≤ 4194305) := by show _ ≤ _; simp; omega
      clear hle h hte
      generalize S t = T at *
      go_enter Tryz.func29, Tryz.ntmps29
      go_wp2_with (first
        | (go_at_call 30; refine hlen.mono ?_; rintro e1 w1 ⟨rfl, rfl⟩)
        | (go_at_call 31; refine hbt.mono ?_; clear hbt; rintro e2 w2 ⟨rfl, h2, b2⟩; have hw := HWs.out _ w2 h2 HL.out; have H2 := Lib.hid b2; clear h2 b2)
        | (go_at_call 32; refine hw.mono ?_; rintro e3 w3 ⟨rfl, h3, b3⟩; have H3 := Lib.hid (And.intro h3 b3); clear h3 b3))
      go_end0
      exact ⟨rfl, by rw [HP.out]; exact H3.out.1, H2.out.trans H3.out.2⟩

/-! ### A path -/
set_option maxHeartbeats 1000000 in
set_option maxRecDepth 100000 in
theorem fieldsOf_c {v : Value} {ns : List (List UInt8)} (hs : (pathL ns).length ≤ 4194304) (w : World) (hv : PathIn w v ns) :
    Calls Tryz.prog 48 #[v] w fun e w' => e = .returned (.string (S (pathL ns))) ∧ Below w.heap.size w w' := by
  obtain ⟨pa, ca, rfl, ha⟩ := hv
  obtain ⟨n, hn⟩ : ∃ n, n = ns.length := ⟨_, rfl⟩
  have HA := Lib.hid ha
  have HN := Lib.hid hn
  have hle : ∀ (l : List (List UInt8)), l.length ≤ (pathL l).length := fun l => by
    induction l with
    | nil => simp
    | cons a t ih => rw [path_cons, List.length_cons, List.length_cons, List.length_append]; omega
  have hn60 : n ≤ 4194304 := by rw [hn]; exact Nat.le_trans (hle ns) hs
  have n60 : (n : Int) ≤ 4194304 := by omega
  have HSz : Hid (∀ i (h : i < ns.length), pathL (ns.take (i + 1)) = (pathL (ns.take i) ++ [46]) ++ ns[i] ∧ (pathL (ns.take i)).length + 1 + ns[i].length ≤ 4194304) := fun i h => by
    have e : pathL (ns.take (i + 1)) = (pathL (ns.take i) ++ [46]) ++ ns[i] := by
      unfold pathL
      rw [List.take_succ_eq_append_getElem h, List.flatMap_append]
      simp
    refine ⟨e, ?_⟩
    have h2 : (pathL (ns.take (i + 1))).length ≤ (pathL ns).length := by
      conv => rhs; rw [← List.take_append_drop (i + 1) ns]
      unfold pathL
      rw [List.flatMap_append, List.length_append]
      omega
    rw [e, List.length_append, List.length_append, List.length_singleton] at h2
    omega
  rw [← hn]
  have HF : Hid (Has w.heap.size (pathL (ns.take 0)) (w.alloc (.cells #[.pointer none, .slice none 0 0] 60)) ∧ Below w.heap.size w (w.alloc (.cells #[.pointer none, .slice none 0 0] 60))) := ⟨has_fresh w, (Below.refl _ w).alloc (Nat.le_refl _) _⟩
  clear ha hn hs hle
  go_enter Tryz.func48, Tryz.ntmps48
  go_wp2_with fail
  go_loopw [8] (fun iv wr => ∃ i : Nat, i ≤ n ∧ iv = .int .i64 i ∧ Hid (Has w.heap.size (pathL (ns.take i)) wr ∧ Below w.heap.size w wr)) (fun iv _ => n - (intOf iv).toNat)
  case atStart => exact ⟨0, Nat.zero_le _, rfl, HF.out⟩
  case round =>
    clear HF
    obtain ⟨i, hi, rfl, hW⟩ := hrel
    have i0 : (0 : Int) ≤ (i : Int) := by omega
    by_cases hlt : i < n
    · have hd : decide ((i : Int) < (n : Int)) = true := decide_eq_true (by omega)
      have hd2 : decide (i < n) = true := decide_eq_true hlt
      have i2 : (i : Int) < (n : Int) := by omega
      have h1 : i < ns.length := by rw [← HN.out]; exact hlt
      obtain ⟨b1, o1, rfl, hat1⟩ := HA.out (by omega)
      have s0 := some_up (hat1 i h1) hW.out.2
      obtain ⟨he, hz⟩ := HSz.out i h1
      have HE := Lib.hid he
      have hw1 := wstr_c w.heap.size (pathL (ns.take i)) [46] wr hW.out.1 (by simp; omega)
      replace hw1 : Calls Tryz.prog 32 #[.pointer (some ⟨w.heap.size, 0, none⟩), .string ⟨#[46]⟩] wr fun e w' => e = .returned (.tuple #[.int .i64 1, .nilIface]) ∧ Has w.heap.size (pathL (ns.take i) ++ [46]) w' ∧ Below w.heap.size wr w' := hw1
      have HW2 : Hid (∀ W, Has w.heap.size (pathL (ns.take i) ++ [46]) W → Calls Tryz.prog 32 #[.pointer (some ⟨w.heap.size, 0, none⟩), .string (S ns[i])] W fun e w' => e = .returned (.tuple #[.int .i64 (S ns[i]).size, .nilIface]) ∧ Has w.heap.size (pathL (ns.take (i + 1))) w' ∧ Below w.heap.size W w') := fun W h => by
        have := wstr_c w.heap.size (pathL (ns.take i) ++ [46]) ns[i] W h (by rw [List.length_append, List.length_singleton]; omega)
        rwa [← he] at this
      clear he hz
      generalize S ns[i] = s at *
      clear hat1
      go_wp2_with (first
        | (go_at_call 32; refine hw1.mono ?_; clear hw1; rintro e2 w2 ⟨rfl, h2, b2⟩; have hw2 := HW2.out w2 h2; have H2 := Lib.hid b2; clear h2 b2)
        | (go_at_call 32; refine hw2.mono ?_; clear hw2; rintro e3 w3 ⟨rfl, h3, b3⟩; have H3 := Lib.hid (And.intro h3 ((hW.out.2.trans H2.out).trans b3)); clear h3 b3))
      go_roundw
      case rel => exact ⟨i + 1, by omega, by go_num, H3.out⟩
      case measure => simp [intOf]; omega
    · obtain rfl : i = n := by omega
      have hd : decide ((i : Int) < (i : Int)) = false := decide_eq_false (by omega)
      have hs := bstr_c w.heap.size (pathL ns) wr (by have := hW.out.1; rwa [HN.out, List.take_length] at this)
      have HB := Lib.hid hW.out.2
      clear hW
      go_wp2_with fail
      refine hs.mono ?_
      clear hs
      rintro e w1 ⟨rfl, hb1⟩
      have HB1 := Lib.hid (HB.out.trans hb1)
      clear hb1
      go_wp2_with fail
      go_ret
      exact ⟨rfl, HB1.out⟩

/-! ### A word -/
/-- What can be printed of an argument. -/
structure PrA (a : Ar) : Prop where
  path : (pathL a.p).length ≤ 4194304
  name : a.n.length ≤ 4194304
  text : a.x.length ≤ 1048576
  low : -9223372036854775808 ≤ a.i
  high : a.i ≤ 9223372036854775807
theorem wordG_one (n : List UInt8) (p : List (List UInt8)) (i : Int) (x : List UInt8) : wordG ⟨1, n, p, i, x⟩ = if p = [] then [46] else pathL p := rfl
theorem wordG_two (n : List UInt8) (p : List (List UInt8)) (i : Int) (x : List UInt8) : wordG ⟨2, n, p, i, x⟩ = 36 :: (n ++ pathL p) := rfl
theorem wordG_else {k : Int} (n : List UInt8) (p : List (List UInt8)) (i : Int) (x : List UInt8) (h : ¬ (1 ≤ k ∧ k ≤ 4)) : wordG ⟨k, n, p, i, x⟩ = (if k = 5 then cTrue else if k = 6 then cFalse else if k = 7 then cNil else []) := by
  unfold wordG
  rw [if_neg (by simp only; omega), if_neg (by simp only; omega), if_neg (by simp only; omega), if_neg (by simp only; omega)]
set_option maxHeartbeats 2000000 in
set_option maxRecDepth 100000 in
theorem wordOf_c {va : Value} {a : Ar} (hs : PrA a) (w : World) (ha : PathIn w va a.p) :
    Calls Tryz.prog 33 #[arV a va] w fun e w' => e = .returned (.string (S (wordG a))) ∧ Below w.heap.size w w' := by
  obtain ⟨k, n, p, i, x⟩ := a
  obtain ⟨s1, s2, s3, s4, s5⟩ := hs
  simp only at s1 s2 s3 s4 s5 ha
  have hb0 : Below w.heap.size w (w.alloc (.cells (arC ⟨k, n, p, i, x⟩ va).toArray 44)) := (Below.refl _ w).alloc (Nat.le_refl _) _
  have HFi : Hid (∀ W, Below w.heap.size w W → Calls Tryz.prog 48 #[va] W fun e w' => e = .returned (.string (S (pathL p))) ∧ Below W.heap.size W w') := fun W h => fieldsOf_c s1 W (ha.up h)
  have HNu : Hid (∀ W, Calls Tryz.prog 49 #[.int .i64 i] W fun e w' => e = .returned (.string (S (printL i))) ∧ Below W.heap.size W w') := fun W => print_c i W s4 s5
  have HQu : Hid (∀ W, Calls Tryz.prog 50 #[.string (S x)] W fun e w' => e = .returned (.string (S (quoteQ x))) ∧ Below W.heap.size W w') := fun W => quote_c x s3 W
  have HCo : Hid (∀ W, Calls Tryz.prog 51 #[.int .i64 k] W fun e w' => e = .returned (.string (S (if k = 5 then cTrue else if k = 6 then cFalse else if k = 7 then cNil else []))) ∧ W = w') := fun W => constantOf_c k W
  obtain ⟨pa, ca, rfl, _⟩ := ha
  have HB0 : Hid (Below w.heap.size w (w.alloc (.cells #[.int .i64 k, .string (S n), .slice pa p.length ca, .int .i64 i, .string (S x)] 44))) := hb0
  obtain ⟨np, hnp⟩ : ∃ np, np = p.length := ⟨_, rfl⟩
  show Calls Tryz.prog 33 #[.agg #[.int .i64 k, .string (S n), .slice pa p.length ca, .int .i64 i, .string (S x)]] w _
  rw [← hnp] at HB0 HFi ⊢
  have HNp := Lib.hid hnp
  have HSz := Lib.hid (And.intro s1 s2)
  clear hnp hb0 s1 s2 s3 s4 s5
  by_cases hk1 : k = 1
  · subst hk1
    by_cases hp0 : np = 0
    · have HE : Hid (wordG ⟨1, n, p, i, x⟩ = [46]) := by
        show _ = _
        rw [wordG_one, if_pos (List.length_eq_zero_iff.1 (by rw [← HNp.out]; exact hp0))]
      subst hp0
      generalize wordG ⟨1, n, p, i, x⟩ = R at HE ⊢
      go_enter Tryz.func33, Tryz.ntmps33
      go_wp2_with fail
      go_ret
      exact ⟨by rw [HE.out]; rfl, HB0.out⟩
    · have HE : Hid (wordG ⟨1, n, p, i, x⟩ = pathL p) := by
        show _ = _
        rw [wordG_one, if_neg (fun h => hp0 (by rw [HNp.out, h]; rfl))]
      have p0 : ((np : Int) == 0) = false := by rw [beq_eq_false_iff_ne]; omega
      generalize wordG ⟨1, n, p, i, x⟩ = R at HE ⊢
      go_enter Tryz.func33, Tryz.ntmps33
      go_wp2_with fail
      refine (HFi.out _ HB0.out).mono ?_
      rintro e w1 ⟨rfl, hb1⟩
      have HB1 : Hid (Below w.heap.size w w1) := HB0.out.trans (hb1.mono HB0.out.size)
      clear hb1
      go_wp2_with fail
      go_ret
      exact ⟨by rw [HE.out]; rfl, HB1.out⟩
  · by_cases hk2 : k = 2
    · subst hk2
      have HE : Hid (S [36] ++ S n ++ S (pathL p) = S (wordG ⟨2, n, p, i, x⟩)) := by
        show _ = _
        rw [wordG_two, S_append, S_append]; rfl
      replace HE : Hid ((⟨#[36]⟩ : ByteArray) ++ S n ++ S (pathL p) = S (wordG ⟨2, n, p, i, x⟩)) := HE.out
      have HRw : Hid ((w.alloc (.cells #[.int .i64 2, .string (S n), .slice pa np ca, .int .i64 i, .string (S x)] 44)).heap[w.heap.size]? = some (.cells #[.int .i64 2, .string (S n), .slice pa np ca, .int .i64 i, .string (S x)] 44 (0, 0))) := heap_alloc_new w _
      have HG : Hid (∀ X W : World, Below X.heap.size X W → X.heap[w.heap.size]? = some (.cells #[.int .i64 2, .string (S n), .slice pa np ca, .int .i64 i, .string (S x)] 44 (0, 0)) → Below w.heap.size w X → W.cell? ⟨w.heap.size, 1, none⟩ = some (.string (S n)) ∧ W.cell? ⟨w.heap.size, 2, none⟩ = some (.slice pa np ca) ∧ Below w.heap.size w W) := fun X W h hX hwX => by
        have hr : W.heap[w.heap.size]? = some (.cells #[.int .i64 2, .string (S n), .slice pa np ca, .int .i64 i, .string (S x)] 44 (0, 0)) := by
          rw [h.block _ (Array.getElem?_eq_some_iff.1 hX).1]
          exact hX
        exact ⟨(cell_of_row W _ 1 _ _ _ hr).trans rfl, (cell_of_row W _ 2 _ _ _ hr).trans rfl, hwX.trans (h.mono hwX.size)⟩
      generalize S (wordG ⟨2, n, p, i, x⟩) = R at HE ⊢
      have c1 : ¬ 9223372036854775807 < 1 + n.length := by have := HSz.out; omega
      have c2 : ¬ 9223372036854775807 < 1 + n.length + (pathL p).length := by have := HSz.out; omega
      go_enter Tryz.func33, Tryz.ntmps33
      go_wp2_with fail
      go_region_with (go_at_call 48; refine (HFi.out _ (by first | exact HB0.out | exact HB0.out.drew)).mono ?_; rintro e w1 ⟨rfl, hb1⟩; obtain ⟨g1, g2, hb2⟩ := HG.out _ w1 hb1 HRw.out (by first | exact HB0.out | exact HB0.out.drew); have HB1 := Lib.hid hb2; clear hb1 hb2)
      all_goals go_wp2_with fail
      all_goals go_ret
      all_goals exact ⟨by rw [← HE.out]; rfl, by first | exact HB1.out | exact HB1.out.drew⟩
    · by_cases hk3 : k = 3
      · subst hk3
        have HE : Hid (wordG ⟨3, n, p, i, x⟩ = printL i) := rfl
        generalize wordG ⟨3, n, p, i, x⟩ = R at HE ⊢
        go_enter Tryz.func33, Tryz.ntmps33
        go_wp2_with fail
        refine (HNu.out _).mono ?_
        rintro e w1 ⟨rfl, hb1⟩
        have HB1 : Hid (Below w.heap.size w w1) := HB0.out.trans (hb1.mono HB0.out.size)
        clear hb1
        go_wp2_with fail
        go_ret
        exact ⟨by rw [HE.out]; rfl, HB1.out⟩
      · by_cases hk4 : k = 4
        · subst hk4
          have HE : Hid (wordG ⟨4, n, p, i, x⟩ = quoteQ x) := rfl
          generalize wordG ⟨4, n, p, i, x⟩ = R at HE ⊢
          go_enter Tryz.func33, Tryz.ntmps33
          go_wp2_with fail
          refine (HQu.out _).mono ?_
          rintro e w1 ⟨rfl, hb1⟩
          have HB1 : Hid (Below w.heap.size w w1) := HB0.out.trans (hb1.mono HB0.out.size)
          clear hb1
          go_wp2_with fail
          go_ret
          exact ⟨by rw [HE.out]; rfl, HB1.out⟩
        · have HE := Lib.hid (wordG_else (k := k) n p i x (by omega))
          have e1 : (k == 1) = false := by rw [beq_eq_false_iff_ne]; omega
          have e2 : (k == 2) = false := by rw [beq_eq_false_iff_ne]; omega
          have e3 : (k == 3) = false := by rw [beq_eq_false_iff_ne]; omega
          have e4 : (k == 4) = false := by rw [beq_eq_false_iff_ne]; omega
          generalize (if k = 5 then cTrue else if k = 6 then cFalse else if k = 7 then cNil else []) = R at *
          go_enter Tryz.func33, Tryz.ntmps33
          go_wp2_with fail
          refine (HCo.out _).mono ?_
          rintro e w1 ⟨rfl, rfl⟩
          go_wp2_with fail
          go_ret
          exact ⟨by rw [HE.out]; rfl, HB0.out⟩
end Go.Proofs.YtmccbcficbbidaaGreatDoor.Pw

/-
  Contract of package pipes: what puts a word; all other blocks than the builder's and rows of octets stay.
-/
namespace Go.Proofs.YtmccbcficbbidaaGreatDoor.Pw
open Go.RowKit Go.Proofs.YtmccbcficbbidaaGreatDoor.Oct Go.Proofs.YtmccbcficbbidaaGreatDoor.Lex Go.Proofs.YtmccbcficbbidaaGreatDoor.Lxw Go.Proofs.YtmccbcficbbidaaGreatDoor.Num Go.Proofs.YtmccbcficbbidaaGreatDoor.Build Go.Proofs.YtmccbcficbbidaaGreatDoor.Pip

theorem othersBelow {b : Nat} {w w1 w2 : World} (h : Others b w w1) (hb : Below w1.heap.size w1 w2) : Others b w w2 := fun k o hk hkb ho => by
  have h1 := h k o hk hkb ho
  have hlt : k < w1.heap.size := (Array.getElem?_eq_some_iff.1 h1).1
  rw [hb.block k hlt]
  exact h1
set_option maxHeartbeats 2000000 in
set_option maxRecDepth 100000 in
theorem puto_c (B b : Nat) (l : List Value) (c : Int) (w : World) (h : Is B b l w) (hlen : l.length + 1 ≤ 140737488355328) (hBw : B ≤ w.heap.size) :
    Calls Tryz.prog 31 #[.pointer (some ⟨b, 0, none⟩), .int .u8 c] w fun e w' => e = .returned .nilIface ∧ Is B b (l ++ [.int .u8 c]) w' ∧ Below B w w' ∧ Others b w w' := by
  obtain ⟨i0, hi, hz0, hz1, hz2⟩ := info_parts info_o
  have e42 : ∀ args w, (callFunc 47 args).run Tryz.prog w = .ok (.enter 47 args) w := enters_of Tryz.func47 (by kernel_rfl) rfl
  go_enter Tryz.func31, Tryz.ntmps31
  go_wp2_with (go_at_fn 47; refine (check_c B b l _ h).mono ?_)
  rintro e w1 ⟨rfl, h1, hb1, hk1⟩
  obtain ⟨hB, v, hbk, hown, hne⟩ := h1
  have c0 : w1.cell? ⟨b, 0, none⟩ = some (.pointer (some ⟨b, 0, none⟩)) := by rw [Lib.cell_of_heap hbk]; rfl
  have c1 : w1.cell? ⟨b, 1, none⟩ = some v := by rw [Lib.cell_of_heap hbk]; rfl
  go_wp2_with (at_builtin; refine wpList_append_own _ rfl _ _ 58 rfl B 5 i0 (.int .u8 0) 1 1 Tryz.underlying58 hi hz0 hz1 hz2 rfl (by decide) _ _ _ rfl (hown.alloc _) ⟨w1.heap.size, 0, none⟩ 1 1 [.int .u8 c] rfl rfl ?c1 ?c2 ?c3 ?c4 ?c5 ?_)
  case c1 =>
    intro j u hj
    match j, hj with
    | 0, hj => simp at hj; subst hj; simp [Addr.add]
  case c2 => intro u hu; simp at hu; subst hu; rfl
  case c3 => unfold maxLen; omega
  case c4 => omega
  case c5 => have := hb1.size; simp; omega
  intro v' w2 hown' hgrow _
  have hlt : b < w1.heap.size := (Array.getElem?_eq_some_iff.1 hbk).1
  have hb2 : w2.heap[b]? = some (.cells #[.pointer (some ⟨b, 0, none⟩), v] 60 (0, 0)) := by
    rw [hgrow.block b (by simp; omega) (fun e => hne e.symm), Lib.alloc_old w1 _ b hlt]
    exact hbk
  have d0 : w2.cell? ⟨b, 0, none⟩ = some (.pointer (some ⟨b, 0, none⟩)) := by rw [Lib.cell_of_heap hb2]; rfl
  have d1 : w2.cell? ⟨b, 1, none⟩ = some v := by rw [Lib.cell_of_heap hb2]; rfl
  have f1 : w2.frozen? ⟨b, 1, none⟩ = false := Lib.frozen_of_heap hb2 1
  have hrow : ∀ g, v.ownBlock = some g → ∃ c' fz, (w1.alloc (.cells #[.int .u8 c] 5)).heap[g]? = some (.cells c' 5 fz) := by
    intro g hg
    rcases hown.2 with ⟨hv, _⟩ | ⟨g', cap', cur, hv, _, hc, _⟩
    · rw [hv] at hg; cases hg
    · rw [hv] at hg; cases hg
      rw [Lib.alloc_old w1 _ g' ((Array.getElem?_eq_some_iff.1 hc).1)]
      exact ⟨_, _, hc⟩
  obtain ⟨g, cap, rfl⟩ : ∃ g cap, v' = .slice (some ⟨g, 0, none⟩) (l.length + 1) cap := by
    rcases hown'.2 with ⟨_, h0⟩ | ⟨g, cap, cur, hv, _⟩
    · omega
    · exact ⟨g, cap, hv⟩
  go_wp2
  go_ret
  refine ⟨rfl, ?_, ?_, ?_⟩
  · exact .inr (Lib.BuilderAt.put (T := 60) (e := 5) hB hb2 (bs' := l ++ [.int .u8 c]) (by simpa using hown') (by decide))
  · exact ((hb1.alloc (by have := hb1.size; omega) _).grown hgrow (by have := hb1.size; simp; omega) (fun k hk => (hown.lt k hk).1)).setCell (p := ⟨b, 1, none⟩) hB _
  · exact ((hk1.alloc _).grown hgrow hrow).setCell ⟨b, 1, none⟩ rfl _
theorem wbyteO_c (b : Nat) (l : List UInt8) (c : UInt8) (w : World) (h : Lxw.Has b l w) (hlen : l.length + 1 ≤ 140737488355328) :
    Calls Tryz.prog 31 #[.pointer (some ⟨b, 0, none⟩), .int .u8 (c.toNat : Int)] w fun e w' => e = .returned .nilIface ∧ Lxw.Has b (l ++ [c]) w' ∧ Below b w w' ∧ Others b w w' := by
  have hb := Lxw.has_lt h
  have hc := puto_c b b (Lib.byteCells l) (c.toNat : Int) w h (by rw [Lib.byteCells_length]; exact hlen) (by omega)
  refine hc.mono fun e w' ⟨h1, h2, h3⟩ => ⟨h1, ?_, h3⟩
  unfold Lxw.Has
  rw [Lib.byteCells_append]
  exact h2
theorem wstrO_c (b : Nat) (l t : List UInt8) (w : World) (h : Lxw.Has b l w) (hlen : l.length + t.length ≤ 140737488355328) :
    Calls Tryz.prog 32 #[.pointer (some ⟨b, 0, none⟩), .string (S t)] w fun e w' => e = .returned (.tuple #[.int .i64 (S t).size, .nilIface]) ∧ Lxw.Has b (l ++ t) w' ∧ Below b w w' ∧ Others b w w' := by
  have hb := Lxw.has_lt h
  have hc := Build.write_c b b (Lib.byteCells l) (S t) w h (by rw [Lib.byteCells_length, size_S]; omega) (by omega)
  rw [Lib.strCells_eq, ← Lib.byteCells_append, list_S] at hc
  exact hc
/-- A builder stays one where what lay before stays. -/
theorem has_up {b : Nat} {l : List UInt8} {W W' : World} (h : Lxw.Has b l W) (hb : ∀ k, k < W.heap.size → W'.heap[k]? = W.heap[k]?) : Lxw.Has b l W' := by
  have one : ∀ p, Lib.BuilderAt 60 5 b b p (Lib.byteCells l) W → Lib.BuilderAt 60 5 b b p (Lib.byteCells l) W' := fun p h => by
    have hlt := h.lt
    obtain ⟨h1, v, h2, h3, h4⟩ := h
    refine ⟨h1, v, by rw [hb b hlt]; exact h2, ?_, h4⟩
    refine own_same h3 fun k hk _ => ?_
    exact hb k (own_lt h3 k (by assumption))
  rcases h with h | h
  · exact .inl (one _ h)
  · exact .inr (one _ h)
/-- What puts a word, behind those that stand. -/
def PutO (b : Nat) (l t : List UInt8) (w : World) (e : Ending) (w' : World) : Prop := e = .returned (.tuple #[]) ∧ Lxw.Has b (putS l t) w' ∧ Below b w w' ∧ Others b w w'
set_option maxHeartbeats 1000000 in
set_option maxRecDepth 100000 in
theorem putO_c (b : Nat) (l t : List UInt8) (w : World) (h : Lxw.Has b l w) (hl : l.length ≤ 4194304) (ht : t.length ≤ 4194304) :
    Calls Tryz.prog 29 #[.string (S t), .pointer (some ⟨b, 0, none⟩)] w (PutO b l t w) := by
  have hlen := blen_c b l w h
  have hq := eqN t
  have hbt := wbyteO_c b l 32 w h (by omega)
  replace hbt : Calls Tryz.prog 31 #[.pointer (some ⟨b, 0, none⟩), .int .u8 32] w fun e w' => e = .returned .nilIface ∧ Lxw.Has b (l ++ [32]) w' ∧ Below b w w' ∧ Others b w w' := hbt
  have HWs := Lib.hid (fun (m : List UInt8) W (hm : Lxw.Has b m W) (h1 : m.length ≤ 4194305) => wstrO_c b m t W hm (by omega))
  have l60 : (l.length : Int) ≤ 4194304 := by omega
  have l0 : (0 : Int) ≤ (l.length : Int) := by omega
  have hsz : ((S t).size : Int) = (t.length : Int) := by rw [size_S]
  by_cases hle : l = []
  · have HP : Hid (putS l t = l ++ t) := by
      show _ = _
      rw [hle, put_first]; rfl
    have hw := HWs.out l w h (by omega)
    have hn : l.length = 0 := by rw [hle]; rfl
    rw [hn] at hlen l60 l0
    clear hbt hle hn h
    generalize S t = T at *
    go_enter Tryz.func29, Tryz.ntmps29
    go_wp2_with (first
      | (go_at_call 30; refine hlen.mono ?_; rintro e1 w1 ⟨rfl, rfl⟩)
      | (go_at_call 32; refine hw.mono ?_; rintro e3 w3 ⟨rfl, h3, b3, o3⟩; have H3 := Lib.hid (And.intro h3 (And.intro b3 o3)); clear h3 b3 o3))
    go_end0
    exact ⟨rfl, by rw [HP.out]; exact H3.out.1, H3.out.2⟩
  · have hln : 0 < l.length := List.length_pos_iff.2 hle
    have d1 : decide ((0 : Int) < (l.length : Int)) = true := decide_eq_true (by omega)
    have d2 : decide (0 < l.length) = true := decide_eq_true hln
    by_cases hte : t = []
    · rw [decide_eq_true hte] at hq
      have HP : Hid (putS l t = l ++ t) := by
        show _ = _
        rw [hte, put_nil, List.append_nil]
      have hw := HWs.out l w h (by omega)
      clear hbt hle h hte
      generalize S t = T at *
      go_enter Tryz.func29, Tryz.ntmps29
      go_wp2_with (first
        | (go_at_call 30; refine hlen.mono ?_; rintro e1 w1 ⟨rfl, rfl⟩)
        | (go_at_call 32; refine hw.mono ?_; rintro e3 w3 ⟨rfl, h3, b3, o3⟩; have H3 := Lib.hid (And.intro h3 (And.intro b3 o3)); clear h3 b3 o3))
      go_end0
      exact ⟨rfl, by rw [HP.out]; exact H3.out.1, H3.out.2⟩
    · rw [decide_eq_false hte] at hq
      have HP : Hid (putS l t = (l ++ [32]) ++ t) := by
        show _ = _
        rw [put_next hle hte]; simp
      have HL : Hid ((l ++ [32]).length ≤ 4194305) := by show _ ≤ _; simp; omega
      clear hle h hte
      generalize S t = T at *
      go_enter Tryz.func29, Tryz.ntmps29
      go_wp2_with (first
        | (go_at_call 30; refine hlen.mono ?_; rintro e1 w1 ⟨rfl, rfl⟩)
        | (go_at_call 31; refine hbt.mono ?_; clear hbt; rintro e2 w2 ⟨rfl, h2, b2, o2⟩; have hw := HWs.out _ w2 h2 HL.out; have H2 := Lib.hid (And.intro b2 o2); clear h2 b2 o2)
        | (go_at_call 32; refine hw.mono ?_; rintro e3 w3 ⟨rfl, h3, b3, o3⟩; have H3 := Lib.hid (And.intro h3 (And.intro b3 o3)); clear h3 b3 o3))
      go_end0
      exact ⟨rfl, by rw [HP.out]; exact H3.out.1, H2.out.1.trans H3.out.2.1, H2.out.2.trans H3.out.2.2⟩


/-! ### Print -/
/-- What can be printed of a pipeline. -/
structure PrC (cs : List Ca) : Prop where
  total : (printG cs).length ≤ 4194304
  len : cs.length ≤ 4194304
  each : ∀ c ∈ cs, c.n.length ≤ 4194304 ∧ c.as.length ≤ 4194304 ∧ ∀ a ∈ c.as, PrA a ∧ (wordG a).length ≤ 4194304
/-- The builder of Print holds these octets; what lay before the call stays. -/
def Pt (w : World) (o : List UInt8) (W : World) : Prop := Lxw.Has w.heap.size o W ∧ Below w.heap.size w W
theorem Pt.up {w W W' : World} {o : List UInt8} (h : Pt w o W) (hb : Below W.heap.size W W') : Pt w o W' := ⟨has_up h.1 fun k hk => hb.block k hk, h.2.trans (hb.mono h.2.size)⟩
theorem Pt.put {w W W' : World} {o o' : List UInt8} (h : Pt w o W) (h1 : Lxw.Has w.heap.size o' W') (h2 : Below w.heap.size W W') : Pt w o' W' := ⟨h1, h.2.trans h2⟩
/-- A copy of a call stays where only a builder is put into. -/
theorem copy_up {b x : Nat} {W W' : World} {xs : Array Value} (h : W.heap[x]? = some (.cells xs 41 (0, 0))) (hb : b < x) (ho : Others b W W') : W'.heap[x]? = some (.cells xs 41 (0, 0)) :=
  ho x _ h (by simp; omega) (by intro c fz e; simp at e)
set_option maxHeartbeats 4000000 in
set_option maxRecDepth 100000 in
theorem show_c {v : Value} {cs : List Ca} (hs : PrC cs) (w : World) (hv : CallIn w v cs) :
    Calls Tryz.prog 13 #[v] w fun e w' => e = .returned (.string (S (printG cs))) ∧ Below w.heap.size w w' := by
  obtain ⟨pa, ca, rfl, ha⟩ := hv
  obtain ⟨n, hn⟩ : ∃ n, n = cs.length := ⟨_, rfl⟩
  have HA := Lib.hid ha
  have HN := Lib.hid hn
  have hn60 : n ≤ 4194304 := by rw [hn]; exact hs.len
  have n60 : (n : Int) ≤ 4194304 := by omega
  have HZ := Lib.hid hs.each
  have HNx : Hid (∀ i (h : i < cs.length), outP cs (i + 1) = outA (outP cs i) i cs[i] cs[i].as.length ∧ ∀ j, (outA (outP cs i) i cs[i] j).length ≤ 4194304) := fun i h => ⟨outP_next cs i h, fun j => Nat.le_trans (outA_in cs i j h) hs.total⟩
  have HPut : Hid (∀ (l t : List UInt8) W, Lxw.Has w.heap.size l W → l.length ≤ 4194304 → t.length ≤ 4194304 → Calls Tryz.prog 29 #[.string (S t), .pointer (some ⟨w.heap.size, 0, none⟩)] W (PutO w.heap.size l t W)) := fun l t W h h1 h2 => putO_c w.heap.size l t W h h1 h2
  have HWord : Hid (∀ (a : Ar) (va : Value) W, PrA a → PathIn W va a.p → Calls Tryz.prog 33 #[arV a va] W fun e w' => e = .returned (.string (S (wordG a))) ∧ Below W.heap.size W w') := fun a va W h1 h2 => wordOf_c h1 W h2
  have HAll : Hid (outP cs n = printG cs) := by show _ = _; rw [hn]; exact outP_all cs
  generalize printG cs = ans at HAll ⊢
  rw [← hn]
  have HF : Hid (Pt w (outP cs 0) (w.alloc (.cells #[.pointer none, .slice none 0 0] 60))) := ⟨has_fresh w, (Below.refl _ w).alloc (Nat.le_refl _) _⟩
  clear ha hn hs
  go_enter Tryz.func13, Tryz.ntmps13
  go_wp2_with fail
  go_loopw [12] (fun iv wr => ∃ i : Nat, i ≤ n ∧ iv = .int .i64 i ∧ Hid (Pt w (outP cs i) wr)) (fun iv _ => n - (intOf iv).toNat)
  case atStart => exact ⟨0, Nat.zero_le _, rfl, HF.out⟩
  case round =>
    clear HF
    obtain ⟨i, hi, rfl, hW⟩ := hrel
    have i0 : (0 : Int) ≤ (i : Int) := by omega
    by_cases hlt : i < n
    · have hd : decide ((i : Int) < (n : Int)) = true := decide_eq_true (by omega)
      have hd2 : decide (i < n) = true := decide_eq_true hlt
      have i2 : (i : Int) < (n : Int) := by omega
      have hl1 : i < cs.length := by rw [← HN.out]; exact hlt
      obtain ⟨b1, o1, rfl, hat1⟩ := HA.out (by rw [← HN.out]; omega)
      obtain ⟨va, hc⟩ := hat1 i hl1
      have hzc := HZ.out cs[i] (List.getElem_mem hl1)
      have HNi := Lib.hid (HNx.out i hl1)
      generalize cs[i] = c at *
      have HCa := Lib.hid hc.args
      obtain ⟨pc, cc, rfl, hca⟩ := hc.args
      obtain ⟨_, q0, q1⟩ := hc.up hW.out.2
      obtain ⟨k, hk⟩ : ∃ k, k = c.as.length := ⟨_, rfl⟩
      have hk60 : k ≤ 4194304 := by rw [hk]; exact hzc.2.1
      rw [← hk] at q1 HCa HNi
      have HK1 := Lib.hid hk
      have HZc := Lib.hid hzc
      have HX : Hid (Pt w (outP cs i) (wr.alloc (.cells #[.string (S c.n), .slice pc k cc] 41)) ∧ (wr.alloc (.cells #[.string (S c.n), .slice pc k cc] 41)).heap[wr.heap.size]? = some (.cells #[.string (S c.n), .slice pc k cc] 41 (0, 0)) ∧ w.heap.size < wr.heap.size) :=
        ⟨hW.out.up ((Below.refl _ wr).alloc (Nat.le_refl _) _), heap_alloc_new wr _, has_lt hW.out.1⟩
      have HMid : Hid ((if 0 < i then putS (outP cs i) [124] else outP cs i).length ≤ 4194304) := Nat.le_trans (put_le _ c.n) (HNi.out.2 0)
      have HCa2 := Lib.hid hca
      clear hat1 hc hca hk hzc hW
      by_cases h0 : i = 0
      · subst h0
        simp only [Nat.zero_mul, Nat.add_zero] at q0 q1
        have hput := HPut.out (outP cs 0) c.n (wr.alloc (.cells #[.string (S c.n), .slice pc k cc] 41)) HX.out.1.1 HMid.out HZc.out.1
        have HXw := Lib.hid HX.out
        go_wp2_with fail
        refine hput.mono ?_
        clear hput q0 q1
        rintro e w2 ⟨rfl, h2, b2, o2⟩
        have H2 : Hid (Pt w (outA (outP cs 0) 0 c 0) w2 ∧ w2.heap[wr.heap.size]? = some (.cells #[.string (S c.n), .slice pc k cc] 41 (0, 0))) := ⟨HX.out.1.put h2 b2, copy_up HX.out.2.1 HX.out.2.2 o2⟩
        clear h2 b2 o2 HX HXw
        have g1 : w2.cell? ⟨wr.heap.size, 1, none⟩ = some (.slice pc k cc) := (cell_of_row w2 wr.heap.size 1 _ _ _ H2.out.2).trans rfl
        have HP0 := Lib.hid H2.out.1
        go_wp2_with fail
        clear g1 H2
        go_loopw [28] (fun jv w2 => ∃ j : Nat, j ≤ k ∧ jv = .int .i64 j ∧ Hid (Pt w (outA (outP cs 0) 0 c j) w2)) (fun jv _ => k - (intOf jv).toNat)
        case atStart => exact ⟨0, Nat.zero_le _, rfl, HP0.out⟩
        case round =>
          clear HP0
          obtain ⟨j, hj, rfl, hW2⟩ := hrel
          have j0 : (0 : Int) ≤ (j : Int) := by omega
          by_cases hjt : j < k
          · have jd : decide ((j : Int) < (k : Int)) = true := decide_eq_true (by omega)
            have jd2 : decide (j < k) = true := decide_eq_true hjt
            have j2 : (j : Int) < (k : Int) := by omega
            have hjl1 : j < c.as.length := by rw [← HK1.out]; exact hjt
            obtain ⟨b3, o3, rfl, hat3⟩ := HCa2.out (by omega)
            obtain ⟨va, hA⟩ := hat3 j hjl1
            obtain ⟨hza, hzw⟩ := HZc.out.2.2 c.as[j] (List.getElem_mem hjl1)
            have HOn := Lib.hid (outA_next (outP cs 0) 0 c j hjl1)
            generalize c.as[j] = x at *
            obtain ⟨px, cx, rfl, hpx⟩ := hA.path
            have hal : Below wr.heap.size wr (wr.alloc (.cells (arC x (.slice px x.p.length cx)).toArray 44)) := (Below.refl _ wr).alloc (Nat.le_refl _) _
            have HP1 := Lib.hid (hW2.out.up hal)
            have hcall := HWord.out x _ _ hza (hA.path.up HP1.out.2)
            obtain ⟨_, x0, x1, x2, x3, x4⟩ := hA.up hW2.out.2
            replace hcall : Calls Tryz.prog 33 #[.agg #[.int .i64 x.k, .string (S x.n), .slice px x.p.length cx, .int .i64 x.i, .string (S x.x)]] (wr.alloc (.cells #[.int .i64 x.k, .string (S x.n), .slice px x.p.length cx, .int .i64 x.i, .string (S x.x)] 44)) fun e w' => e = .returned (.string (S (wordG x))) ∧ Below (wr.alloc (.cells (arC x (.slice px x.p.length cx)).toArray 44)).heap.size (wr.alloc (.cells (arC x (.slice px x.p.length cx)).toArray 44)) w' := hcall
            have HLen := Lib.hid (And.intro (HNi.out.2 j) hzw)
            clear hat3 hA hpx hal hza hzw
            go_wp2_with fail
            refine hcall.mono ?_
            clear hcall x0 x1 x2 x3 x4
            rintro e w4 ⟨rfl, hb4⟩
            have HP4 := Lib.hid (HP1.out.up hb4)
            clear hb4
            have hput := HPut.out _ (wordG x) w4 HP4.out.1 HLen.out.1 HLen.out.2
            go_wp2_with fail
            refine hput.mono ?_
            clear hput
            rintro e w5 ⟨rfl, h5, b5, o5⟩
            have HP5 : Hid (Pt w (outA (outP cs 0) 0 c (j + 1)) w5) := by
              show Pt _ _ _
              rw [HOn.out]
              exact HP4.out.put h5 b5
            clear h5 b5 o5
            go_wp2_with fail
            go_roundw
            case rel => exact ⟨j + 1, by omega, by go_num, HP5.out⟩
            case measure => simp [intOf]; omega
          · obtain rfl : j = k := by omega
            have jd : decide ((j : Int) < (j : Int)) = false := decide_eq_false (by omega)
            have HP5 : Hid (Pt w (outP cs (0 + 1)) wr) := by
              show Pt _ _ _
              rw [HNi.out.1]
              exact hW2.out
            clear hW2
            go_wp2_with fail
            go_roundw
            case rel => exact ⟨0 + 1, by omega, by go_num, HP5.out⟩
            case measure => simp [intOf]; omega
      · have hp : 0 < i := by omega
        have hpd : decide ((0 : Int) < (i : Int)) = true := decide_eq_true (by omega)
        have hpd2 : decide (0 < i) = true := decide_eq_true hp
        have HM0 := HMid.out
        rw [if_pos hp] at HM0
        have HM1 := Lib.hid HM0
        have hpipe : Calls Tryz.prog 29 #[.string ⟨#[124]⟩, .pointer (some ⟨w.heap.size, 0, none⟩)] (wr.alloc (.cells #[.string (S c.n), .slice pc k cc] 41)) (PutO w.heap.size (outP cs i) [124] (wr.alloc (.cells #[.string (S c.n), .slice pc k cc] 41))) := HPut.out (outP cs i) [124] _ HX.out.1.1 (Nat.le_trans (put_le _ _) HM0) (by decide)
        clear HM0 HMid
        go_wp2_with fail
        refine hpipe.mono ?_
        clear hpipe q0 q1
        rintro e w1 ⟨rfl, h1, b1', o1'⟩
        have H1 : Hid (Pt w (putS (outP cs i) [124]) w1 ∧ w1.heap[wr.heap.size]? = some (.cells #[.string (S c.n), .slice pc k cc] 41 (0, 0)) ∧ w.heap.size < wr.heap.size) := ⟨HX.out.1.put h1 b1', copy_up HX.out.2.1 HX.out.2.2 o1', HX.out.2.2⟩
        clear h1 b1' o1' HX
        have f0 : w1.cell? ⟨wr.heap.size, 0, none⟩ = some (.string (S c.n)) := (cell_of_row w1 (wr.heap.size) 0 _ _ _ H1.out.2.1).trans rfl
        have hput := HPut.out _ c.n w1 H1.out.1.1 HM1.out HZc.out.1
        go_wp2_with fail
        refine hput.mono ?_
        clear hput f0
        rintro e w2 ⟨rfl, h2, b2, o2⟩
        have H2 : Hid (Pt w (outA (outP cs i) i c 0) w2 ∧ w2.heap[wr.heap.size]? = some (.cells #[.string (S c.n), .slice pc k cc] 41 (0, 0))) := ⟨by show Pt _ _ _; rw [outA_zero, if_pos hp]; exact H1.out.1.put h2 b2, copy_up H1.out.2.1 H1.out.2.2 o2⟩
        clear h2 b2 o2 H1
        have g1 : w2.cell? ⟨wr.heap.size, 1, none⟩ = some (.slice pc k cc) := (cell_of_row w2 wr.heap.size 1 _ _ _ H2.out.2).trans rfl
        have HP0 := Lib.hid H2.out.1
        go_wp2_with fail
        clear g1 H2
        go_loopw [28] (fun jv w2 => ∃ j : Nat, j ≤ k ∧ jv = .int .i64 j ∧ Hid (Pt w (outA (outP cs i) i c j) w2)) (fun jv _ => k - (intOf jv).toNat)
        case atStart => exact ⟨0, Nat.zero_le _, rfl, HP0.out⟩
        case round =>
          clear HP0
          obtain ⟨j, hj, rfl, hW2⟩ := hrel
          have j0 : (0 : Int) ≤ (j : Int) := by omega
          by_cases hjt : j < k
          · have jd : decide ((j : Int) < (k : Int)) = true := decide_eq_true (by omega)
            have jd2 : decide (j < k) = true := decide_eq_true hjt
            have j2 : (j : Int) < (k : Int) := by omega
            have hjl1 : j < c.as.length := by rw [← HK1.out]; exact hjt
            obtain ⟨b3, o3, rfl, hat3⟩ := HCa2.out (by omega)
            obtain ⟨va, hA⟩ := hat3 j hjl1
            obtain ⟨hza, hzw⟩ := HZc.out.2.2 c.as[j] (List.getElem_mem hjl1)
            have HOn := Lib.hid (outA_next (outP cs i) i c j hjl1)
            generalize c.as[j] = x at *
            obtain ⟨px, cx, rfl, hpx⟩ := hA.path
            have hal : Below wr.heap.size wr (wr.alloc (.cells (arC x (.slice px x.p.length cx)).toArray 44)) := (Below.refl _ wr).alloc (Nat.le_refl _) _
            have HP1 := Lib.hid (hW2.out.up hal)
            have hcall := HWord.out x _ _ hza (hA.path.up HP1.out.2)
            obtain ⟨_, x0, x1, x2, x3, x4⟩ := hA.up hW2.out.2
            replace hcall : Calls Tryz.prog 33 #[.agg #[.int .i64 x.k, .string (S x.n), .slice px x.p.length cx, .int .i64 x.i, .string (S x.x)]] (wr.alloc (.cells #[.int .i64 x.k, .string (S x.n), .slice px x.p.length cx, .int .i64 x.i, .string (S x.x)] 44)) fun e w' => e = .returned (.string (S (wordG x))) ∧ Below (wr.alloc (.cells (arC x (.slice px x.p.length cx)).toArray 44)).heap.size (wr.alloc (.cells (arC x (.slice px x.p.length cx)).toArray 44)) w' := hcall
            have HLen := Lib.hid (And.intro (HNi.out.2 j) hzw)
            clear hat3 hA hpx hal hza hzw
            go_wp2_with fail
            refine hcall.mono ?_
            clear hcall x0 x1 x2 x3 x4
            rintro e w4 ⟨rfl, hb4⟩
            have HP4 := Lib.hid (HP1.out.up hb4)
            clear hb4
            have hput := HPut.out _ (wordG x) w4 HP4.out.1 HLen.out.1 HLen.out.2
            go_wp2_with fail
            refine hput.mono ?_
            clear hput
            rintro e w5 ⟨rfl, h5, b5, o5⟩
            have HP5 : Hid (Pt w (outA (outP cs i) i c (j + 1)) w5) := by
              show Pt _ _ _
              rw [HOn.out]
              exact HP4.out.put h5 b5
            clear h5 b5 o5
            go_wp2_with fail
            go_roundw
            case rel => exact ⟨j + 1, by omega, by go_num, HP5.out⟩
            case measure => simp [intOf]; omega
          · obtain rfl : j = k := by omega
            have jd : decide ((j : Int) < (j : Int)) = false := decide_eq_false (by omega)
            have HP5 : Hid (Pt w (outP cs (i + 1)) wr) := by
              show Pt _ _ _
              rw [HNi.out.1]
              exact hW2.out
            clear hW2
            go_wp2_with fail
            go_roundw
            case rel => exact ⟨i + 1, by omega, by go_num, HP5.out⟩
            case measure => simp [intOf]; omega
    · obtain rfl : i = n := by omega
      have hd : decide ((i : Int) < (i : Int)) = false := decide_eq_false (by omega)
      have hst := bstr_c w.heap.size ans wr (by rw [← HAll.out]; exact hW.out.1)
      have HB := Lib.hid hW.out.2
      clear hW
      go_wp2_with fail
      refine hst.mono ?_
      clear hst
      rintro e w1 ⟨rfl, hb1⟩
      have HB1 := Lib.hid (HB.out.trans hb1)
      clear hb1
      go_wp2_with fail
      go_ret
      exact ⟨rfl, HB1.out⟩
end Go.Proofs.YtmccbcficbbidaaGreatDoor.Pw
