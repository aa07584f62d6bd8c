/-
  Part 7: OctFirst, OctMade, OctTexts, OctNames, OctLists, OctTrim, HexPure, OctHex.
-/
import Derived.Test.YtganmmkdcaphfaaGreatDoorJsBaseP6
import Derived.Test.YtganmmkdcaphfaaGreatDoorJsBaseP2
import Derived.Lib.Hide
import Derived.Deep.RegionWith
import Derived.Laws.IdiomStrings
import Derived.Lib.Bytealg
import Derived.Deep.QuietTactic
import Derived.BigQuiet
import Derived.Test.YtganmmkdcaphfaaGreatDoorJsBaseP1
/-
  Contracts of octets.first, none and made, at whatever function value that is handed in, and of digitValue.
-/
namespace Go.Proofs.YtganmmkdcaphfaaGreatDoor.Oct
open Go.RowKit

/-- The first place below n that is wanted, or n. -/
def firstOf (p : Nat → Bool) : Nat → Nat → Nat
  | _, 0 => 0
  | k, n + 1 => if p k then 0 else firstOf p (k + 1) n + 1

theorem firstOf_le (p : Nat → Bool) (k n : Nat) : firstOf p k n ≤ n := by
  induction n generalizing k with
  | zero => simp [firstOf]
  | succ n ih => have := ih (k + 1); unfold firstOf; split <;> omega

theorem firstOf_hit (p : Nat → Bool) (k n j : Nat) (hj : j < n) (hp : p (k + j) = true) (hn : ∀ i, i < j → p (k + i) = false) : firstOf p k n = j := by
  induction n generalizing k j with
  | zero => omega
  | succ n ih =>
    unfold firstOf
    cases j with
    | zero => rw [if_pos (by simpa using hp)]
    | succ j =>
      have h0 : p k = false := by simpa using hn 0 (by omega)
      rw [h0, if_neg (by simp), ih (k + 1) j (by omega) (by rw [← hp]; congr 1; omega) (fun i hi => by rw [← hn (i + 1) (by omega)]; congr 1; omega)]

theorem firstOf_miss (p : Nat → Bool) (k n : Nat) (hn : ∀ i, i < n → p (k + i) = false) : firstOf p k n = n := by
  induction n generalizing k with
  | zero => rfl
  | succ n ih =>
    unfold firstOf
    have h0 : p k = false := by simpa using hn 0 (by omega)
    rw [h0, if_neg (by simp), ih (k + 1) (fun i hi => by rw [← hn (i + 1) (by omega)]; congr 1; omega)]

/-- What is asked of a function value that tells of a place whether it is wanted: in every world in which all that lay in w lies unturned, and it leaves such a world again. -/
def Wants (g : Nat) (lb : Array Value) (p : Nat → Bool) (n : Nat) (w : World) : Prop :=
  ∀ (k : Nat) (W : World), k < n → Below w.heap.size w W → Calls Tryz.prog g (#[.int .i64 (k : Int)] ++ lb) W fun e w' => e = .returned (.bool (p k)) ∧ Below w.heap.size w w'

set_option maxHeartbeats 1000000 in
theorem first_c (n : Nat) (g : Nat) (lb : Array Value) (p : Nat → Bool) (w : World) (hn : n ≤ 9223372036854775807)
    (eg : ∀ args w, (callFunc g args).run Tryz.prog w = .ok (.enter g args) w) (hp : Wants g lb p n w) :
    Calls Tryz.prog 32 #[.int .i64 (n : Int), .func (.func g) #[] lb] w fun e w' => e = .returned (.int .i64 (firstOf p 0 n : Nat)) ∧ Below w.heap.size w w' := by
  go_enter Tryz.func32, Tryz.ntmps32
  go_wp2
  go_loopw [5, 7] (fun _ i wr => ∃ k : Nat, k ≤ n ∧ i = .int .i64 k ∧ Hid (∀ i, i < k → p i = false) ∧ Hid (Below w.heap.size w wr)) (fun _ i _ => n - (intOf i).toNat)
  case atStart => exact ⟨0, Nat.zero_le _, rfl, fun i hi => absurd hi (Nat.not_lt_zero _), Below.refl _ _⟩
  case round =>
    obtain ⟨k, hk, rfl, hno, hbel⟩ := hrel
    by_cases hlt : k < n
    · have hcall := hp k wr hlt hbel.out
      cases hq : p k with
      | true =>
        rw [hq] at hcall
        go_wp2_with (go_at_fn g; refine hcall.mono ?_; rintro e w' ⟨rfl, hb'⟩)
        go_ret
        exact ⟨ret_int (by rw [firstOf_hit p 0 n k hlt (by simpa using hq) (fun i hi => by simpa using hno.out i hi)]), hb'⟩
      | false =>
        rw [hq] at hcall
        go_wp2_with (go_at_fn g; refine hcall.mono ?_; rintro e w' ⟨rfl, hb'⟩)
        go_roundw
        case rel =>
          refine ⟨k + 1, by omega, by go_num, fun i hi => ?_, hb'⟩
          by_cases e : i = k
          · rw [e]; exact hq
          · exact hno.out i (by omega)
        case measure => simp [intOf]; omega
    · go_wp2
      go_ret
      have : k = n := by omega
      subst this
      exact ⟨ret_int (by rw [firstOf_miss p 0 k (fun i hi => by simpa using hno.out i hi)]), hbel.out⟩

end Go.Proofs.YtganmmkdcaphfaaGreatDoor.Oct

/-
  Contract of octets.made, at whatever function value that is handed in: the text of the octets that it tells of the places.
-/
namespace Go.Proofs.YtganmmkdcaphfaaGreatDoor.Oct
open Go.RowKit

theorem info_u8 : (Tryz.prog.info? 5).map (fun i => (i.zero, i.size, i.bytes)) = some (some (.int .u8 0), 1, 1) := by kernel_rfl

/-- What is asked of a function value that tells the octet of a place. -/
def Makes (g : Nat) (lb : Array Value) (f : Nat → UInt8) (n : Nat) (w : World) : Prop :=
  ∀ (k : Nat) (W : World), k < n → Below w.heap.size w W → Calls Tryz.prog g (#[.int .i64 (k : Int)] ++ lb) W fun e w' => e = .returned (.int .u8 ((f k).toNat : Int)) ∧ W = w'

/-- The cells behind k rounds. -/
def madeAt (f : Nat → UInt8) (n k : Nat) : List Value := (List.range k).map (fun j => Value.int .u8 ((f j).toNat : Int)) ++ List.replicate (n - k) (Value.int .u8 0)

theorem madeAt_zero (f : Nat → UInt8) (n : Nat) : madeAt f n 0 = List.replicate n (Value.int .u8 0) := by simp [madeAt]
theorem madeAt_succ (f : Nat → UInt8) (n k : Nat) (h : k < n) : (madeAt f n k).set k (Value.int .u8 ((f k).toNat : Int)) = madeAt f n (k + 1) := by
  unfold madeAt
  have e : n - k = (n - (k + 1)) + 1 := by omega
  rw [e, List.replicate_succ, List.set_append_right _ _ (by simp)]
  simp [List.range_succ]
theorem madeAt_at (f : Nat → UInt8) (n k : Nat) (h : k < n) : (madeAt f n k)[k]? = some (Value.int .u8 0) := by
  unfold madeAt
  rw [List.getElem?_append_right (by simp), List.length_map, List.length_range, Nat.sub_self, List.getElem?_replicate, if_pos (by omega)]
theorem madeAt_full (f : Nat → UInt8) (n j : Nat) (h : j < n) : (madeAt f n n)[j]? = some (Value.int .u8 ((f j).toNat : Int)) := by
  simp [madeAt, h]

set_option maxHeartbeats 1000000 in
theorem made_c (n : Nat) (g : Nat) (lb : Array Value) (f : Nat → UInt8) (w : World) (hn : n ≤ 281474976710656)
    (eg : ∀ args w, (callFunc g args).run Tryz.prog w = .ok (.enter g args) w) (hf : Makes g lb f n w) :
    Calls Tryz.prog 144 #[.int .i64 (n : Int), .func (.func g) #[] lb] w fun e w' => e = .returned (.string (S ((List.range n).map f))) ∧ Below w.heap.size w w' := by
  obtain ⟨i0, hi, hz0, hz1, hz2⟩ := info_parts info_u8
  go_enter Tryz.func144, Tryz.ntmps144
  go_wp2_with (at_make; refine wpList_make_full _ rfl _ _ 44 rfl w.heap.size 5 i0 (.int .u8 0) 1 Tryz.underlying44 hi hz0 hz1 .i64 .i64 (n : Int) (n : Int) n rfl rfl rfl rfl (by rw [hz2]; omega) (by unfold maxLen; omega) (Nat.le_refl _) ?_; intro w1 hown hgrow)
  go_loopw [6, 11] (fun _ i wr => ∃ k : Nat, k ≤ n ∧ i = .int .i64 k ∧ Hid (wr.ownsRow w.heap.size 5 1 (.slice (some ⟨w.heap.size, 0, none⟩) n n) n (madeAt f n k)) ∧ Hid (Below w.heap.size w wr)) (fun _ i _ => n - (intOf i).toNat)
  case atStart =>
    refine ⟨0, Nat.zero_le _, rfl, ?_, ?_⟩
    · rw [madeAt_zero, ← toList_madeCells_one]
      have h : w1.ownsRow w.heap.size 5 1 (.slice (some ⟨w.heap.size, 0, none⟩) n n) n (madeCells #[Value.int .u8 0] n).toList := by simpa [Value.cells] using hown
      exact h
    · exact (Below.refl _ w).grown hgrow (Nat.le_refl _) (fun k hk => by cases hk)
  case round =>
    obtain ⟨k, hk, rfl, hrow, hbel⟩ := hrel
    clear hown hgrow
    by_cases hlt : k < n
    · have hcall := hf k wr hlt hbel.out
      have hc : wr.cell? ⟨w.heap.size, k, none⟩ = (madeAt f n k)[k]? := hrow.out.cellAt k (by omega)
      have hfz : wr.frozen? ⟨w.heap.size, k, none⟩ = false := hrow.out.frozenAt k
      have hcv : (madeAt f n k)[k]? = some (.int .u8 0) := madeAt_at f n k hlt
      rw [hcv] at hc
      clear hcv
      go_wp2_with (go_at_fn g; refine hcall.mono ?_; rintro e w' ⟨rfl, rfl⟩)
      go_roundw
      case rel =>
        have st := hrow.out.stored k (Value.int .u8 ((f k).toNat : Int))
        exact ⟨k + 1, by omega, by go_num, by rw [← madeAt_succ f n k hlt]; exact st.1, hbel.out.setCell (by simp) _⟩
      case measure => simp [intOf]; omega
    · have hkn : k = n := by omega
      subst hkn
      have hcv : ((convert 44 9 (.slice (some ⟨w.heap.size, 0, none⟩) k k)).run Tryz.prog wr) = .ok (.string (S ((List.range k).map f))) wr := by
        have h := run_convert_bytes_back (P := Tryz.prog) wr 44 9 5 ⟨w.heap.size, 0, none⟩ k ((List.range k).map f) Tryz.underlying44 Tryz.underlying5 Tryz.underlying9 (fun j hj => by
          have hj' : j < k := by simpa using hj
          have h1 := hrow.out.cellAt j (by omega)
          rw [madeAt_full f k j hj'] at h1
          rw [Addr.add_lit, Nat.zero_add]
          simpa using h1)
        simpa using h
      go_wp2
      go_ret
      exact ⟨rfl, hbel.out⟩

end Go.Proofs.YtganmmkdcaphfaaGreatDoor.Oct

/-
  Contracts of octets.none, digitValue, Lower, Upper, Name, Starts, Trim.
-/
namespace Go.Proofs.YtganmmkdcaphfaaGreatDoor.Oct
open Go.RowKit

theorem none_c (n : Nat) (g : Nat) (lb : Array Value) (p : Nat → Bool) (w : World) (hn : n ≤ 9223372036854775807)
    (eg : ∀ args w, (callFunc g args).run Tryz.prog w = .ok (.enter g args) w) (hp : Wants g lb p n w) :
    Calls Tryz.prog 123 #[.int .i64 (n : Int), .func (.func g) #[] lb] w fun e w' => e = .returned (.bool (firstOf p 0 n == n)) ∧ Below w.heap.size w w' := by
  have hle := firstOf_le p 0 n
  go_enter Tryz.func123, Tryz.ntmps123
  go_wp2_with (go_at_call 32; refine (first_c n g lb p _ hn eg hp).mono ?_; rintro e w' ⟨rfl, hb'⟩)
  go_ret
  refine ⟨ret_bool ?_, hb'⟩
  rw [Bool.eq_iff_iff]; simp; omega

theorem digit_table : ∀ k : Fin 256, Lib.indexByte [48, 49, 50, 51, 52, 53, 54, 55, 56, 57, 97, 98, 99, 100, 101, 102] (lowI (k.val : Int)).toNat.toUInt8 = hexI (k.val : Int) := by decide +kernel

theorem digitValue_c (n : Int) (w : World) (h0 : 0 ≤ n) (h1 : n ≤ 255) :
    Calls Tryz.prog 125 #[.int .u8 n] w fun e w' => e = .returned (.int .i64 (hexI n)) ∧ w = w' := by
  have T : Lib.indexByte [48, 49, 50, 51, 52, 53, 54, 55, 56, 57, 97, 98, 99, 100, 101, 102] (lowI n).toNat.toUInt8 = hexI n := by
    have := digit_table ⟨n.toNat, by omega⟩
    rwa [show ((⟨n.toNat, by omega⟩ : Fin 256).val : Int) = n from Int.toNat_of_nonneg h0] at this
  have HT := Lib.hid T
  clear T
  go_enter Tryz.func125, Tryz.ntmps125
  go_wp2_with (first
    | (go_at_call 138; refine (small_c n _ h0 h1).mono ?_; rintro e w' ⟨rfl, rfl⟩)
    | (go_at_call 132; refine (Tryz.strings_IndexByte _ _ _).mono ?_; rintro e w' ⟨rfl, rfl⟩))
  go_ret
  exact ⟨ret_int HT.out, rfl⟩

end Go.Proofs.YtganmmkdcaphfaaGreatDoor.Oct

/-
  Contracts of octets.Name, Starts, Trim, as plain functions of lists of octets.
-/
namespace Go.Proofs.YtganmmkdcaphfaaGreatDoor.Oct
open Go.RowKit

theorem firstOf_all (p : Nat → Bool) (n : Nat) : (firstOf p 0 n == n) = (List.range n).all (fun k => !p k) := by
  rw [Bool.eq_iff_iff, List.all_eq_true]
  simp only [beq_iff_eq, List.mem_range, Bool.not_eq_true']
  constructor
  · intro h k hk
    rcases hq : p k with _ | _
    · rfl
    · exfalso
      -- the first place that is wanted is at most k
      have : ∀ (m k' : Nat), k' < m → ∀ a, p (a + k') = true → firstOf p a m < m := by
        intro m
        induction m with
        | zero => intro k' h'; omega
        | succ m ih =>
          intro k' h' a hp
          unfold firstOf
          split
          · omega
          · cases k' with
            | zero => simp_all
            | succ k' => have := ih k' (by omega) (a + 1) (by rw [← hp]; congr 1; omega); omega
      have := this n k hk 0 (by simpa using hq)
      omega
  · intro h
    exact firstOf_miss p 0 n (fun i hi => by simpa using h i hi)


theorem enter_trim1 : ∀ args w, (callFunc 33 args).run Tryz.prog w = .ok (.enter 33 args) w := enters_of Tryz.func33 (by kernel_rfl) rfl
theorem enter_trim2 : ∀ args w, (callFunc 35 args).run Tryz.prog w = .ok (.enter 35 args) w := enters_of Tryz.func35 (by kernel_rfl) rfl

theorem trim1_c (s : ByteArray) (k b : Nat) (w : World) (hk : k < s.size) (hc : w.cell? ⟨b, 0, none⟩ = some (.string s)) :
    Calls Tryz.prog 33 #[.int .i64 (k : Int), .pointer (some ⟨b, 0, none⟩)] w fun e w' => e = .returned (.bool (!blankI ((at' s k).toNat : Int))) ∧ w = w' := by
  have E : Hid ((at' s k) = s[k]) := (at_eq s k hk).symm
  go_enter Tryz.func33, Tryz.ntmps33
  go_wp2_with (go_at_call 34; refine (blank_c _ _).mono ?_; rintro e w' ⟨rfl, rfl⟩)
  go_ret
  exact ⟨ret_bool (by rw [E.out]), rfl⟩

theorem trim2_c (s : ByteArray) (k b : Nat) (w : World) (hk : k < s.size) (hs : s.size ≤ 9223372036854775807) (hc : w.cell? ⟨b, 0, none⟩ = some (.string s)) :
    Calls Tryz.prog 35 #[.int .i64 (k : Int), .pointer (some ⟨b, 0, none⟩)] w fun e w' => e = .returned (.bool (!blankI ((at' s (s.size - 1 - k)).toNat : Int))) ∧ w = w' := by
  have E : Hid ((at' s (s.size - 1 - k)) = s[s.size - 1 - k]) := (at_eq s (s.size - 1 - k) (by omega)).symm
  go_enter Tryz.func35, Tryz.ntmps35
  go_wp2_with (go_at_call 34; refine (blank_c _ _).mono ?_; rintro e w' ⟨rfl, rfl⟩)
  go_ret
  exact ⟨ret_bool (by rw [E.out]), rfl⟩

theorem quiet_same {P : Program} {f : FuncId} {args : Array Value} {w : World} {n : Nat} {v : Value}
    (h : Calls P f args (w.drewN n) fun e w' => e = .returned v ∧ w.drewN n = w') : Calls P f args (w.drewN n) fun e w'' => e = .returned v ∧ ∃ m, w'' = w.drewN m :=
  h.mono fun _ _ ⟨he, hm⟩ => ⟨he, n, hm.symm⟩

end Go.Proofs.YtganmmkdcaphfaaGreatDoor.Oct

/-
  Plain facts on lists of octets: trimmed texts; texts that begin with others, whatever their letters are.
-/
namespace Go.Proofs.YtganmmkdcaphfaaGreatDoor.Oct
open Go.RowKit

theorem below_drewN {B : Nat} {a w : World} (h : Below B a w) (q : Nat) : Below B a (w.drewN q) := ⟨h.os, h.tape, h.output, h.size, h.block⟩

/-- Does s begin with p, whatever its letters are? -/
def startsB (s p : List UInt8) : Bool := decide (p.length ≤ s.length) && ((s.map low).take p.length == p.map low)

theorem starts_none (s p : ByteArray) (h : p.size ≤ s.size) : (firstOf (fun k => low (at' s k) != low (at' p k)) 0 p.size == p.size) = startsB s.data.toList p.data.toList := by
  unfold startsB
  rw [size_list, size_list, decide_eq_true h, Bool.true_and, firstOf_all, Bool.eq_iff_iff, List.all_eq_true, beq_iff_eq]
  simp only [List.mem_range, bne, Bool.not_not, beq_iff_eq]
  have hs := size_list s
  have hp := size_list p
  constructor
  · intro H
    apply List.ext_getElem
    · simp only [List.length_take, List.length_map]; omega
    · intro i h1 h2
      have hi : i < p.size := by simp only [List.length_map] at h2; omega
      have := H i hi
      rw [← at_eq s i (by omega), ← at_eq p i hi] at this
      simp only [List.getElem_take, List.getElem_map, Array.getElem_toList]
      exact this
  · intro H k hk
    have e := congrArg (fun l => l[k]?) H
    simp only [List.getElem?_take_of_lt hk, List.getElem?_map] at e
    rw [List.getElem?_eq_getElem (by omega), List.getElem?_eq_getElem (by omega)] at e
    simp only [Option.map_some, Option.some.injEq, Array.getElem_toList] at e
    rw [← at_eq s k (by omega), ← at_eq p k hk]
    exact e

def bl (c : UInt8) : Bool := blankI (c.toNat : Int)
/-- Without blanks at both ends. -/
def trimL (l : List UInt8) : List UInt8 := ((l.dropWhile bl).reverse.dropWhile bl).reverse

theorem firstOf_takeWhile (p : Nat → Bool) (q : UInt8 → Bool) (l : List UInt8) (k : Nat) (h : ∀ i (hi : i < l.length), p (k + i) = !q l[i]) : firstOf p k l.length = (l.takeWhile q).length := by
  induction l generalizing k with
  | nil => rfl
  | cons c l ih =>
    have h0 : p k = !q c := h 0 (by simp)
    rw [List.length_cons, firstOf, h0]
    cases hq : q c with
    | true =>
      simp only [Bool.not_true, Bool.false_eq_true, if_false, List.takeWhile_cons, hq, if_true, List.length_cons]
      rw [ih (k + 1) (fun i hi => by have := h (i + 1) (by simp; omega); rw [← Nat.add_assoc, Nat.add_right_comm] at this; simpa using this)]
    | false => simp [hq]

theorem drop_takeWhile (q : UInt8 → Bool) (l : List UInt8) : l.drop (l.takeWhile q).length = l.dropWhile q := by
  induction l with
  | nil => rfl
  | cons c l ih =>
    cases hq : q c with
    | true => simp [hq, ih]
    | false => simp [hq]

theorem trim_ahead (s : ByteArray) : s.data.toList.drop (firstOf (fun k => !blankI ((at' s k).toNat : Int)) 0 s.size) = s.data.toList.dropWhile bl := by
  rw [← drop_takeWhile, ← size_list, firstOf_takeWhile _ bl _ 0 (fun i hi => by
    have hi' : i < s.size := by rw [← size_list]; exact hi
    rw [Nat.zero_add, ← at_eq s i hi', Array.getElem_toList]
    rfl)]

theorem trim_behind (s : ByteArray) : s.data.toList.take (s.size - firstOf (fun k => !blankI ((at' s (s.size - 1 - k)).toNat : Int)) 0 s.size) = (s.data.toList.reverse.dropWhile bl).reverse := by
  have e : firstOf (fun k => !blankI ((at' s (s.size - 1 - k)).toNat : Int)) 0 s.size = (s.data.toList.reverse.takeWhile bl).length := by
    rw [← firstOf_takeWhile (fun k => !blankI ((at' s (s.size - 1 - k)).toNat : Int)) bl s.data.toList.reverse 0 (fun i hi => by
      have hi' : i < s.size := by rw [← size_list]; simpa using hi
      rw [Nat.zero_add, ← at_eq s (s.size - 1 - i) (by omega), List.getElem_reverse, Array.getElem_toList]
      simp only [size_list]
      rfl), List.length_reverse, size_list]
  rw [e, ← drop_takeWhile, List.reverse_drop, List.reverse_reverse, List.length_reverse, size_list]

end Go.Proofs.YtganmmkdcaphfaaGreatDoor.Oct

/-
  Contracts of octets.Name, Starts and Trim: as plain functions of lists of octets.
-/
namespace Go.Proofs.YtganmmkdcaphfaaGreatDoor.Oct
open Go.RowKit

theorem name_none (s : ByteArray) : (firstOf (fun k => !nameI ((at' s k).toNat : Int)) 0 s.size == s.size) = s.data.toList.all (fun c => nameI (c.toNat : Int)) := by
  rw [firstOf_all, ← all_at]
  simp


theorem clone_c (s : ByteArray) (w : World) (hs : s.size ≤ 281474976710656) :
    Calls Tryz.prog 18 #[.string s] w fun e w' => e = .returned (.string s) ∧ Below w.heap.size w w' := by
  go_enter Tryz.func18, Tryz.ntmps18
  go_wp2_with (go_at_call 31; refine (Tryz.stringslite_Clone _ _ hs).mono ?_; rintro e w' ⟨rfl, hb⟩)
  go_ret
  exact ⟨rfl, hb⟩

set_option maxHeartbeats 1000000 in
theorem trim_c (s : ByteArray) (w : World) (hs : s.size ≤ 281474976710656) :
    Calls Tryz.prog 19 #[.string s] w fun e w' => e = .returned (.string (S (trimL s.data.toList))) ∧ Below w.heap.size w w' := by
  have h1 := first_c s.size 33 #[.pointer (some ⟨w.heap.size, 0, none⟩)] (fun k => !blankI ((at' s k).toNat : Int)) (w.alloc (.cells #[.string s] 9)) (by omega) enter_trim1
    (fun k W hk hb => (trim1_c s k w.heap.size W hk (by rw [hb.cell (by simp)]; simp)).mono fun _ _ ⟨he, hw⟩ => ⟨he, hw ▸ hb⟩)
  have ha : firstOf (fun k => !blankI ((at' s k).toNat : Int)) 0 s.size ≤ s.size := firstOf_le _ _ _
  have E1 := Lib.hid (trim_ahead s)
  generalize firstOf (fun k => !blankI ((at' s k).toNat : Int)) 0 s.size = a at h1 ha E1
  go_enter Tryz.func19, Tryz.ntmps19
  go_wp2_with fail
  refine h1.mono ?_
  rintro e w1 ⟨rfl, hb1⟩
  have hc1 : w1.cell? ⟨w.heap.size, 0, none⟩ = some (.string s) := by rw [hb1.cell (by simp)]; simp
  go_wp2_with fail
  obtain ⟨r, hr⟩ : ∃ r, r = s.extract a s.size := ⟨_, rfl⟩
  have hrd : r.data.toList = s.data.toList.dropWhile bl := by
    rw [hr, Lib.extract_data, List.take_of_length_le (by rw [List.length_drop, size_list]; exact Nat.le_refl _), E1.out]
  have hrs : r.size = s.size - a := by rw [← size_list, hr, Lib.extract_data, List.length_take, List.length_drop, size_list]; omega
  rw [← hr, ← hrs]
  have hrl : r.size ≤ 281474976710656 := by omega
  have hlt : w.heap.size + 1 ≤ w1.heap.size := by have := hb1.size; simpa using this
  have Hrd := Lib.hid hrd
  clear hr hrs hrd E1 h1
  have h2 := first_c r.size 35 #[.pointer (some ⟨w1.heap.size, 0, none⟩)] (fun k => !blankI ((at' r (r.size - 1 - k)).toNat : Int)) (w1.alloc (.cells #[.string r] 9)) (by omega) enter_trim2
    (fun k W hk hb => (trim2_c r k w1.heap.size W hk (by omega) (by rw [hb.cell (by simp)]; simp)).mono fun _ _ ⟨he, hw⟩ => ⟨he, hw ▸ hb⟩)
  have hbl : firstOf (fun k => !blankI ((at' r (r.size - 1 - k)).toNat : Int)) 0 r.size ≤ r.size := firstOf_le _ _ _
  have E2 := Lib.hid (trim_behind r)
  generalize firstOf (fun k => !blankI ((at' r (r.size - 1 - k)).toNat : Int)) 0 r.size = b at h2 hbl E2
  refine h2.mono ?_
  clear h2
  rintro e w2 ⟨rfl, hb2⟩
  have hc2 : w2.cell? ⟨w1.heap.size, 0, none⟩ = some (.string r) := by rw [hb2.cell (by simp)]; simp
  go_wp2_with fail
  have ht : r.extract 0 (r.size - b) = S (trimL s.data.toList) := by
    rw [← S_list (r.extract 0 (r.size - b)), Lib.extract_data, List.drop_zero, Nat.sub_zero, E2.out, Hrd.out]
    rfl
  have hts : (S (trimL s.data.toList)).size ≤ 281474976710656 := by
    rw [← ht, ← size_list, Lib.extract_data, List.length_take, List.length_drop, size_list]; omega
  rw [ht]
  clear ht E2 Hrd
  obtain ⟨y, hy⟩ : ∃ y, y = S (trimL s.data.toList) := ⟨_, rfl⟩
  rw [← hy] at hts ⊢
  have HY := Lib.hid hy
  clear hy
  refine (clone_c y w2 hts).mono ?_
  rintro e w3 ⟨rfl, hb3⟩
  go_wp2_with fail
  go_ret
  have hlt2 : w.heap.size ≤ w2.heap.size := by have := hb2.size; simp at this; omega
  refine ⟨congrArg (fun x => Ending.returned (.string x)) HY.out, ?_⟩
  exact (((((Below.refl _ w).alloc (Nat.le_refl _) _).trans (hb1.mono (by simp))).alloc (by omega) _).trans (hb2.mono (by simp; omega))).trans (hb3.mono hlt2)

end Go.Proofs.YtganmmkdcaphfaaGreatDoor.Oct

/-
  Plain facts on digits of base 16, with no program.
-/
namespace Go.Proofs.YtganmmkdcaphfaaGreatDoor.Oct
open Go.RowKit

/-- A number of 64 bits, in two's complement. -/
def u64 (n : Int) : Nat := (n % 18446744073709551616).toNat
theorem u64_lt (n : Int) : u64 n < 18446744073709551616 := by unfold u64; omega
theorem u64_wrap (n : Int) : IntKind.u64.wrap n = ((u64 n : Nat) : Int) := by rw [IntKind.wrap_u64]; unfold u64; omega

def hexDig (d : Nat) : UInt8 := at' ⟨#[48, 49, 50, 51, 52, 53, 54, 55, 56, 57, 97, 98, 99, 100, 101, 102]⟩ d
/-- The lowest digits of u. -/
def hexL (u size : Nat) : List UInt8 := (List.range size).map fun k => hexDig (u / 2 ^ (4 * (size - 1 - k)) % 16)
/-- A size as the nearest of 0 to 16. -/
def clamp (size : Int) : Nat := (min (max size 0) 16).toNat
theorem clamp_le (size : Int) : clamp size ≤ 16 := by unfold clamp; omega
theorem clamp_eq (size : Int) : min (max size 0) 16 = ((clamp size : Nat) : Int) := by unfold clamp; omega

theorem hexL_length (u n : Nat) : (hexL u n).length = n := by simp [hexL]
theorem hexL_cons (u k : Nat) : hexL u (k + 1) = hexDig (u / 16 ^ k % 16) :: hexL u k := by
  unfold hexL
  rw [List.range_succ_eq_map, List.map_cons, List.map_map]
  congr 1
  · have e : 2 ^ (4 * (k + 1 - 1 - 0)) = 16 ^ k := by
      rw [show k + 1 - 1 - 0 = k by omega, Nat.pow_mul]
    rw [e]
  · apply List.map_congr_left
    intro j hj
    simp only [Function.comp]
    rw [show k + 1 - 1 - (j + 1) = k - 1 - j by omega]

theorem digit_cut (d : Nat) (h : d < 16) : (⟨#[48, 49, 50, 51, 52, 53, 54, 55, 56, 57, 97, 98, 99, 100, 101, 102]⟩ : ByteArray).extract d (d + 1) = S [hexDig d] := by
  have : ∀ d : Fin 16, (⟨#[48, 49, 50, 51, 52, 53, 54, 55, 56, 57, 97, 98, 99, 100, 101, 102]⟩ : ByteArray).extract d.val (d.val + 1) = S [hexDig d.val] := by decide +kernel
  exact this ⟨d, h⟩
end Go.Proofs.YtganmmkdcaphfaaGreatDoor.Oct

/-
  Contract of octets.Hex: the lowest digits of base 16, in two's complement.
-/
namespace Go.Proofs.YtganmmkdcaphfaaGreatDoor.Oct
open Go.RowKit

theorem wraps_u64 (n : Int) (h₀ : 0 ≤ n) (h₁ : n < 2 ^ 64) : IntKind.u64.wrap n = n := by rw [IntKind.wrap_u64]; omega
theorem and15 (m e : Nat) (hm : m < 18446744073709551616) : bits .and .u64 ((m : Int) / 2 ^ e) 15 = ((m / 2 ^ e % 16 : Nat) : Int) := by
  have e1 : ((m : Int) / 2 ^ e) = ((m / 2 ^ e : Nat) : Int) := by simp
  have hle : m / 2 ^ e ≤ m := Nat.div_le_self _ _
  rw [e1]
  generalize m / 2 ^ e = x at hle
  have h := bits_mask .u64 64 (by decide) wraps_u64 4 (by decide) (x : Int) (by omega) (by omega)
  have e2 : ((2 : Int) ^ 4 - 1) = 15 := by decide
  rw [e2] at h
  rw [h]
  omega

theorem enter_hex : ∀ args w, (callFunc 145 args).run Tryz.prog w = .ok (.enter 145 args) w := enters_of Tryz.func145 (by kernel_rfl) rfl

theorem hex1_c (n : Int) (size k b b' : Nat) (w : World) (hk : k < size) (hs : size ≤ 16) (hc : w.cell? ⟨b, 0, none⟩ = some (.int .i64 (size : Int))) (hc' : w.cell? ⟨b', 0, none⟩ = some (.int .i64 n)) :
    Calls Tryz.prog 145 #[.int .i64 (k : Int), .pointer (some ⟨b, 0, none⟩), .pointer (some ⟨b', 0, none⟩)] w
      fun e w' => e = .returned (.int .u8 ((hexDig (u64 n / 2 ^ (4 * (size - 1 - k)) % 16)).toNat : Int)) ∧ w = w' := by
  have hu := u64_wrap n
  have ha := and15 (u64 n) (4 * (size - 1 - k)) (u64_lt n)
  have hd : u64 n / 2 ^ (4 * (size - 1 - k)) % 16 < 16 := Nat.mod_lt _ (by omega)
  generalize u64 n / 2 ^ (4 * (size - 1 - k)) % 16 = d at ha hd ⊢
  generalize u64 n = m at hu ha
  go_enter Tryz.func145, Tryz.ntmps145
  go_wp2_with fail
  go_ret
  exact ⟨ret_int (congrArg (fun c : UInt8 => (c.toNat : Int)) (at_eq ⟨#[48, 49, 50, 51, 52, 53, 54, 55, 56, 57, 97, 98, 99, 100, 101, 102]⟩ d hd)), rfl⟩

theorem hex_c (n size : Int) (w : World) :
    Calls Tryz.prog 140 #[.int .i64 n, .int .i64 size] w fun e w' => e = .returned (.string (S (hexL (u64 n) (clamp size)))) ∧ Below w.heap.size w w' := by
  have hcl := clamp_eq size
  have hle := clamp_le size
  have hm := made_c (clamp size) 145 #[.pointer (some ⟨w.heap.size + 1, 0, none⟩), .pointer (some ⟨w.heap.size, 0, none⟩)] (fun k => hexDig (u64 n / 2 ^ (4 * (clamp size - 1 - k)) % 16))
    ((w.alloc (.cells #[.int .i64 n] 3)).alloc (.cells #[.int .i64 (clamp size : Int)] 3)) (by omega) enter_hex
    (fun k W hk hb => hex1_c n (clamp size) k (w.heap.size + 1) w.heap.size W hk hle (by rw [hb.cell (by simp)]; simp) (by rw [hb.cell (by simp; omega)]; simp))
  have hr : Hid (hexL (u64 n) (clamp size) = List.map (fun k => hexDig (u64 n / 2 ^ (4 * (clamp size - 1 - k)) % 16)) (List.range (clamp size))) := rfl
  generalize List.map (fun k => hexDig (u64 n / 2 ^ (4 * (clamp size - 1 - k)) % 16)) (List.range (clamp size)) = r at hm hr
  generalize clamp size = c at hcl hle hm hr
  go_enter Tryz.func140, Tryz.ntmps140
  go_wp2_with fail
  refine hm.mono ?_
  rintro e w' ⟨rfl, hb⟩
  go_wp2_with fail
  go_ret
  exact ⟨by rw [hr.out]; rfl, (((Below.refl _ w).alloc (Nat.le_refl _) _).alloc (by simp) _).trans (hb.mono (by simp; omega))⟩

end Go.Proofs.YtganmmkdcaphfaaGreatDoor.Oct
