/-
  Part 3: OctMade, OctTexts, OctNames, OctLists, OctTrim, HexPure, OctHex, OctUnhex, UtfPure, Mem, UtfLeaves, NumPure, NumSize, RdLeaf, RdEnd.
-/
import Derived.Test.YtgfbednfiejlfaaGreatDoorLitCutsCardP2
import Derived.Laws.IdiomStrings
import Derived.Deep.QuietTactic
import Derived.BigQuiet
import Derived.Test.YtgfbednfiejlfaaGreatDoorLitCutsCardP1
import Derived.Lib.DecodeN
import Derived.Lib.RuneBytes
import Derived.Shelf.Unicode.DecodeSlow
import Derived.Test.YtgfbednfiejlfaaGreatDoorProg
import Derived.Lib.BufferRead
import Derived.Lib.Hide
import Derived.Deep.RegionHeld
import Derived.Lib.Small
/-
  Contract of octets.made, at whatever function value that is handed in: the text of the octets that it tells of the places.
-/
namespace Go.Proofs.YtgfbednfiejlfaaGreatDoor.Oct
open Go.RowKit

theorem info_u8 : (Tryz.prog.info? 5).map (fun i => (i.zero, i.size, i.bytes)) = some (some (.int .u8 0), 1, 1) := by kernel_rfl

/-- What is asked of a function value that tells the octet of a place. -/
def Makes (g : Nat) (lb : Array Value) (f : Nat → UInt8) (n : Nat) (w : World) : Prop :=
  ∀ (k : Nat) (W : World), k < n → Below w.heap.size w W → Calls Tryz.prog g (#[.int .i64 (k : Int)] ++ lb) W fun e w' => e = .returned (.int .u8 ((f k).toNat : Int)) ∧ W = w'

/-- The cells behind k rounds. -/
def madeAt (f : Nat → UInt8) (n k : Nat) : List Value := (List.range k).map (fun j => Value.int .u8 ((f j).toNat : Int)) ++ List.replicate (n - k) (Value.int .u8 0)

theorem madeAt_zero (f : Nat → UInt8) (n : Nat) : madeAt f n 0 = List.replicate n (Value.int .u8 0) := by simp [madeAt]
theorem madeAt_succ (f : Nat → UInt8) (n k : Nat) (h : k < n) : (madeAt f n k).set k (Value.int .u8 ((f k).toNat : Int)) = madeAt f n (k + 1) := by
  unfold madeAt
  have e : n - k = (n - (k + 1)) + 1 := by omega
  rw [e, List.replicate_succ, List.set_append_right _ _ (by simp)]
  simp [List.range_succ]
theorem madeAt_at (f : Nat → UInt8) (n k : Nat) (h : k < n) : (madeAt f n k)[k]? = some (Value.int .u8 0) := by
  unfold madeAt
  rw [List.getElem?_append_right (by simp), List.length_map, List.length_range, Nat.sub_self, List.getElem?_replicate, if_pos (by omega)]
theorem madeAt_full (f : Nat → UInt8) (n j : Nat) (h : j < n) : (madeAt f n n)[j]? = some (Value.int .u8 ((f j).toNat : Int)) := by
  simp [madeAt, h]

set_option maxHeartbeats 1000000 in
theorem made_c (n : Nat) (g : Nat) (lb : Array Value) (f : Nat → UInt8) (w : World) (hn : n ≤ 281474976710656)
    (eg : ∀ args w, (callFunc g args).run Tryz.prog w = .ok (.enter g args) w) (hf : Makes g lb f n w) :
    Calls Tryz.prog 93 #[.int .i64 (n : Int), .func (.func g) #[] lb] w fun e w' => e = .returned (.string (S ((List.range n).map f))) ∧ Below w.heap.size w w' := by
  obtain ⟨i0, hi, hz0, hz1, hz2⟩ := info_parts info_u8
  go_enter Tryz.func93, Tryz.ntmps93
  go_wp2_with (at_make; refine wpList_make_full _ rfl _ _ 59 rfl w.heap.size 5 i0 (.int .u8 0) 1 Tryz.underlying59 hi hz0 hz1 .i64 .i64 (n : Int) (n : Int) n rfl rfl rfl rfl (by rw [hz2]; omega) (by unfold maxLen; omega) (Nat.le_refl _) ?_; intro w1 hown hgrow)
  go_loopw [6, 11] (fun _ i wr => ∃ k : Nat, k ≤ n ∧ i = .int .i64 k ∧ Hid (wr.ownsRow w.heap.size 5 1 (.slice (some ⟨w.heap.size, 0, none⟩) n n) n (madeAt f n k)) ∧ Hid (Below w.heap.size w wr)) (fun _ i _ => n - (intOf i).toNat)
  case atStart =>
    refine ⟨0, Nat.zero_le _, rfl, ?_, ?_⟩
    · rw [madeAt_zero, ← toList_madeCells_one]
      have h : w1.ownsRow w.heap.size 5 1 (.slice (some ⟨w.heap.size, 0, none⟩) n n) n (madeCells #[Value.int .u8 0] n).toList := by simpa [Value.cells] using hown
      exact h
    · exact (Below.refl _ w).grown hgrow (Nat.le_refl _) (fun k hk => by cases hk)
  case round =>
    obtain ⟨k, hk, rfl, hrow, hbel⟩ := hrel
    clear hown hgrow
    by_cases hlt : k < n
    · have hcall := hf k wr hlt hbel.out
      have hc : wr.cell? ⟨w.heap.size, k, none⟩ = (madeAt f n k)[k]? := hrow.out.cellAt k (by omega)
      have hfz : wr.frozen? ⟨w.heap.size, k, none⟩ = false := hrow.out.frozenAt k
      have hcv : (madeAt f n k)[k]? = some (.int .u8 0) := madeAt_at f n k hlt
      rw [hcv] at hc
      clear hcv
      go_wp2_with (go_at_fn g; refine hcall.mono ?_; rintro e w' ⟨rfl, rfl⟩)
      go_roundw
      case rel =>
        have st := hrow.out.stored k (Value.int .u8 ((f k).toNat : Int))
        exact ⟨k + 1, by omega, by go_num, by rw [← madeAt_succ f n k hlt]; exact st.1, hbel.out.setCell (by simp) _⟩
      case measure => simp [intOf]; omega
    · have hkn : k = n := by omega
      subst hkn
      have hcv : ((convert 59 9 (.slice (some ⟨w.heap.size, 0, none⟩) k k)).run Tryz.prog wr) = .ok (.string (S ((List.range k).map f))) wr := by
        have h := run_convert_bytes_back (P := Tryz.prog) wr 59 9 5 ⟨w.heap.size, 0, none⟩ k ((List.range k).map f) Tryz.underlying59 Tryz.underlying5 Tryz.underlying9 (fun j hj => by
          have hj' : j < k := by simpa using hj
          have h1 := hrow.out.cellAt j (by omega)
          rw [madeAt_full f k j hj'] at h1
          rw [Addr.add_lit, Nat.zero_add]
          simpa using h1)
        simpa using h
      go_wp2
      go_ret
      exact ⟨rfl, hbel.out⟩

end Go.Proofs.YtgfbednfiejlfaaGreatDoor.Oct

/-
  Contracts of octets.none, digitValue, Lower, Upper, Name, Starts, Trim.
-/
namespace Go.Proofs.YtgfbednfiejlfaaGreatDoor.Oct
open Go.RowKit

theorem none_c (n : Nat) (g : Nat) (lb : Array Value) (p : Nat → Bool) (w : World) (hn : n ≤ 9223372036854775807)
    (eg : ∀ args w, (callFunc g args).run Tryz.prog w = .ok (.enter g args) w) (hp : Wants g lb p n w) :
    Calls Tryz.prog 117 #[.int .i64 (n : Int), .func (.func g) #[] lb] w fun e w' => e = .returned (.bool (firstOf p 0 n == n)) ∧ Below w.heap.size w w' := by
  have hle := firstOf_le p 0 n
  go_enter Tryz.func117, Tryz.ntmps117
  go_wp2_with (go_at_call 123; refine (first_c n g lb p _ hn eg hp).mono ?_; rintro e w' ⟨rfl, hb'⟩)
  go_ret
  refine ⟨ret_bool ?_, hb'⟩
  rw [Bool.eq_iff_iff]; simp; omega

theorem digit_table : ∀ k : Fin 256, Lib.indexByte [48, 49, 50, 51, 52, 53, 54, 55, 56, 57, 97, 98, 99, 100, 101, 102] (lowI (k.val : Int)).toNat.toUInt8 = hexI (k.val : Int) := by decide +kernel

theorem digitValue_c (n : Int) (w : World) (h0 : 0 ≤ n) (h1 : n ≤ 255) :
    Calls Tryz.prog 119 #[.int .u8 n] w fun e w' => e = .returned (.int .i64 (hexI n)) ∧ w = w' := by
  have T : Lib.indexByte [48, 49, 50, 51, 52, 53, 54, 55, 56, 57, 97, 98, 99, 100, 101, 102] (lowI n).toNat.toUInt8 = hexI n := by
    have := digit_table ⟨n.toNat, by omega⟩
    rwa [show ((⟨n.toNat, by omega⟩ : Fin 256).val : Int) = n from Int.toNat_of_nonneg h0] at this
  have HT := Lib.hid T
  clear T
  go_enter Tryz.func119, Tryz.ntmps119
  go_wp2_with (first
    | (go_at_call 124; refine (small_c n _ h0 h1).mono ?_; rintro e w' ⟨rfl, rfl⟩)
    | (go_at_call 77; refine (Tryz.strings_IndexByte _ _ _).mono ?_; rintro e w' ⟨rfl, rfl⟩))
  go_ret
  exact ⟨ret_int HT.out, rfl⟩

end Go.Proofs.YtgfbednfiejlfaaGreatDoor.Oct

/-
  Contracts of octets.Name, Starts, Trim, as plain functions of lists of octets.
-/
namespace Go.Proofs.YtgfbednfiejlfaaGreatDoor.Oct
open Go.RowKit

theorem firstOf_all (p : Nat → Bool) (n : Nat) : (firstOf p 0 n == n) = (List.range n).all (fun k => !p k) := by
  rw [Bool.eq_iff_iff, List.all_eq_true]
  simp only [beq_iff_eq, List.mem_range, Bool.not_eq_true']
  constructor
  · intro h k hk
    rcases hq : p k with _ | _
    · rfl
    · exfalso
      -- the first place that is wanted is at most k
      have : ∀ (m k' : Nat), k' < m → ∀ a, p (a + k') = true → firstOf p a m < m := by
        intro m
        induction m with
        | zero => intro k' h'; omega
        | succ m ih =>
          intro k' h' a hp
          unfold firstOf
          split
          · omega
          · cases k' with
            | zero => simp_all
            | succ k' => have := ih k' (by omega) (a + 1) (by rw [← hp]; congr 1; omega); omega
      have := this n k hk 0 (by simpa using hq)
      omega
  · intro h
    exact firstOf_miss p 0 n (fun i hi => by simpa using h i hi)


theorem quiet_same {P : Program} {f : FuncId} {args : Array Value} {w : World} {n : Nat} {v : Value}
    (h : Calls P f args (w.drewN n) fun e w' => e = .returned v ∧ w.drewN n = w') : Calls P f args (w.drewN n) fun e w'' => e = .returned v ∧ ∃ m, w'' = w.drewN m :=
  h.mono fun _ _ ⟨he, hm⟩ => ⟨he, n, hm.symm⟩

end Go.Proofs.YtgfbednfiejlfaaGreatDoor.Oct

/-
  Plain facts on lists of octets: trimmed texts; texts that begin with others, whatever their letters are.
-/
namespace Go.Proofs.YtgfbednfiejlfaaGreatDoor.Oct
open Go.RowKit

theorem below_drewN {B : Nat} {a w : World} (h : Below B a w) (q : Nat) : Below B a (w.drewN q) := ⟨h.os, h.tape, h.output, h.size, h.block⟩

/-- Does s begin with p, whatever its letters are? -/
def startsB (s p : List UInt8) : Bool := decide (p.length ≤ s.length) && ((s.map low).take p.length == p.map low)

theorem starts_none (s p : ByteArray) (h : p.size ≤ s.size) : (firstOf (fun k => low (at' s k) != low (at' p k)) 0 p.size == p.size) = startsB s.data.toList p.data.toList := by
  unfold startsB
  rw [size_list, size_list, decide_eq_true h, Bool.true_and, firstOf_all, Bool.eq_iff_iff, List.all_eq_true, beq_iff_eq]
  simp only [List.mem_range, bne, Bool.not_not, beq_iff_eq]
  have hs := size_list s
  have hp := size_list p
  constructor
  · intro H
    apply List.ext_getElem
    · simp only [List.length_take, List.length_map]; omega
    · intro i h1 h2
      have hi : i < p.size := by simp only [List.length_map] at h2; omega
      have := H i hi
      rw [← at_eq s i (by omega), ← at_eq p i hi] at this
      simp only [List.getElem_take, List.getElem_map, Array.getElem_toList]
      exact this
  · intro H k hk
    have e := congrArg (fun l => l[k]?) H
    simp only [List.getElem?_take_of_lt hk, List.getElem?_map] at e
    rw [List.getElem?_eq_getElem (by omega), List.getElem?_eq_getElem (by omega)] at e
    simp only [Option.map_some, Option.some.injEq, Array.getElem_toList] at e
    rw [← at_eq s k (by omega), ← at_eq p k hk]
    exact e

def bl (c : UInt8) : Bool := blankI (c.toNat : Int)
/-- Without blanks at both ends. -/
def trimL (l : List UInt8) : List UInt8 := ((l.dropWhile bl).reverse.dropWhile bl).reverse

theorem firstOf_takeWhile (p : Nat → Bool) (q : UInt8 → Bool) (l : List UInt8) (k : Nat) (h : ∀ i (hi : i < l.length), p (k + i) = !q l[i]) : firstOf p k l.length = (l.takeWhile q).length := by
  induction l generalizing k with
  | nil => rfl
  | cons c l ih =>
    have h0 : p k = !q c := h 0 (by simp)
    rw [List.length_cons, firstOf, h0]
    cases hq : q c with
    | true =>
      simp only [Bool.not_true, Bool.false_eq_true, if_false, List.takeWhile_cons, hq, if_true, List.length_cons]
      rw [ih (k + 1) (fun i hi => by have := h (i + 1) (by simp; omega); rw [← Nat.add_assoc, Nat.add_right_comm] at this; simpa using this)]
    | false => simp [hq]

theorem drop_takeWhile (q : UInt8 → Bool) (l : List UInt8) : l.drop (l.takeWhile q).length = l.dropWhile q := by
  induction l with
  | nil => rfl
  | cons c l ih =>
    cases hq : q c with
    | true => simp [hq, ih]
    | false => simp [hq]

theorem trim_ahead (s : ByteArray) : s.data.toList.drop (firstOf (fun k => !blankI ((at' s k).toNat : Int)) 0 s.size) = s.data.toList.dropWhile bl := by
  rw [← drop_takeWhile, ← size_list, firstOf_takeWhile _ bl _ 0 (fun i hi => by
    have hi' : i < s.size := by rw [← size_list]; exact hi
    rw [Nat.zero_add, ← at_eq s i hi', Array.getElem_toList]
    rfl)]

theorem trim_behind (s : ByteArray) : s.data.toList.take (s.size - firstOf (fun k => !blankI ((at' s (s.size - 1 - k)).toNat : Int)) 0 s.size) = (s.data.toList.reverse.dropWhile bl).reverse := by
  have e : firstOf (fun k => !blankI ((at' s (s.size - 1 - k)).toNat : Int)) 0 s.size = (s.data.toList.reverse.takeWhile bl).length := by
    rw [← firstOf_takeWhile (fun k => !blankI ((at' s (s.size - 1 - k)).toNat : Int)) bl s.data.toList.reverse 0 (fun i hi => by
      have hi' : i < s.size := by rw [← size_list]; simpa using hi
      rw [Nat.zero_add, ← at_eq s (s.size - 1 - i) (by omega), List.getElem_reverse, Array.getElem_toList]
      simp only [size_list]
      rfl), List.length_reverse, size_list]
  rw [e, ← drop_takeWhile, List.reverse_drop, List.reverse_reverse, List.length_reverse, size_list]

end Go.Proofs.YtgfbednfiejlfaaGreatDoor.Oct

/-
  Contracts of octets.Name, Starts and Trim: as plain functions of lists of octets.
-/
namespace Go.Proofs.YtgfbednfiejlfaaGreatDoor.Oct
open Go.RowKit

theorem name_none (s : ByteArray) : (firstOf (fun k => !nameI ((at' s k).toNat : Int)) 0 s.size == s.size) = s.data.toList.all (fun c => nameI (c.toNat : Int)) := by
  rw [firstOf_all, ← all_at]
  simp


end Go.Proofs.YtgfbednfiejlfaaGreatDoor.Oct

/-
  Plain facts on digits of base 16, with no program.
-/
namespace Go.Proofs.YtgfbednfiejlfaaGreatDoor.Oct
open Go.RowKit

/-- A number of 64 bits, in two's complement. -/
def u64 (n : Int) : Nat := (n % 18446744073709551616).toNat
theorem u64_lt (n : Int) : u64 n < 18446744073709551616 := by unfold u64; omega
theorem u64_wrap (n : Int) : IntKind.u64.wrap n = ((u64 n : Nat) : Int) := by rw [IntKind.wrap_u64]; unfold u64; omega

def hexDig (d : Nat) : UInt8 := at' ⟨#[48, 49, 50, 51, 52, 53, 54, 55, 56, 57, 97, 98, 99, 100, 101, 102]⟩ d
/-- The lowest digits of u. -/
def hexL (u size : Nat) : List UInt8 := (List.range size).map fun k => hexDig (u / 2 ^ (4 * (size - 1 - k)) % 16)
/-- A size as the nearest of 0 to 16. -/
def clamp (size : Int) : Nat := (min (max size 0) 16).toNat
theorem clamp_le (size : Int) : clamp size ≤ 16 := by unfold clamp; omega
theorem clamp_eq (size : Int) : min (max size 0) 16 = ((clamp size : Nat) : Int) := by unfold clamp; omega

theorem hexL_length (u n : Nat) : (hexL u n).length = n := by simp [hexL]
theorem hexL_cons (u k : Nat) : hexL u (k + 1) = hexDig (u / 16 ^ k % 16) :: hexL u k := by
  unfold hexL
  rw [List.range_succ_eq_map, List.map_cons, List.map_map]
  congr 1
  · have e : 2 ^ (4 * (k + 1 - 1 - 0)) = 16 ^ k := by
      rw [show k + 1 - 1 - 0 = k by omega, Nat.pow_mul]
    rw [e]
  · apply List.map_congr_left
    intro j hj
    simp only [Function.comp]
    rw [show k + 1 - 1 - (j + 1) = k - 1 - j by omega]

theorem digit_cut (d : Nat) (h : d < 16) : (⟨#[48, 49, 50, 51, 52, 53, 54, 55, 56, 57, 97, 98, 99, 100, 101, 102]⟩ : ByteArray).extract d (d + 1) = S [hexDig d] := by
  have : ∀ d : Fin 16, (⟨#[48, 49, 50, 51, 52, 53, 54, 55, 56, 57, 97, 98, 99, 100, 101, 102]⟩ : ByteArray).extract d.val (d.val + 1) = S [hexDig d.val] := by decide +kernel
  exact this ⟨d, h⟩
end Go.Proofs.YtgfbednfiejlfaaGreatDoor.Oct

/-
  Contract of octets.Hex: the lowest digits of base 16, in two's complement.
-/
namespace Go.Proofs.YtgfbednfiejlfaaGreatDoor.Oct
open Go.RowKit

theorem wraps_u64 (n : Int) (h₀ : 0 ≤ n) (h₁ : n < 2 ^ 64) : IntKind.u64.wrap n = n := by rw [IntKind.wrap_u64]; omega
theorem and15 (m e : Nat) (hm : m < 18446744073709551616) : bits .and .u64 ((m : Int) / 2 ^ e) 15 = ((m / 2 ^ e % 16 : Nat) : Int) := by
  have e1 : ((m : Int) / 2 ^ e) = ((m / 2 ^ e : Nat) : Int) := by simp
  have hle : m / 2 ^ e ≤ m := Nat.div_le_self _ _
  rw [e1]
  generalize m / 2 ^ e = x at hle
  have h := bits_mask .u64 64 (by decide) wraps_u64 4 (by decide) (x : Int) (by omega) (by omega)
  have e2 : ((2 : Int) ^ 4 - 1) = 15 := by decide
  rw [e2] at h
  rw [h]
  omega

theorem enter_hex : ∀ args w, (callFunc 94 args).run Tryz.prog w = .ok (.enter 94 args) w := enters_of Tryz.func94 (by kernel_rfl) rfl

theorem hex1_c (n : Int) (size k b b' : Nat) (w : World) (hk : k < size) (hs : size ≤ 16) (hc : w.cell? ⟨b, 0, none⟩ = some (.int .i64 (size : Int))) (hc' : w.cell? ⟨b', 0, none⟩ = some (.int .i64 n)) :
    Calls Tryz.prog 94 #[.int .i64 (k : Int), .pointer (some ⟨b, 0, none⟩), .pointer (some ⟨b', 0, none⟩)] w
      fun e w' => e = .returned (.int .u8 ((hexDig (u64 n / 2 ^ (4 * (size - 1 - k)) % 16)).toNat : Int)) ∧ w = w' := by
  have hu := u64_wrap n
  have ha := and15 (u64 n) (4 * (size - 1 - k)) (u64_lt n)
  have hd : u64 n / 2 ^ (4 * (size - 1 - k)) % 16 < 16 := Nat.mod_lt _ (by omega)
  generalize u64 n / 2 ^ (4 * (size - 1 - k)) % 16 = d at ha hd ⊢
  generalize u64 n = m at hu ha
  go_enter Tryz.func94, Tryz.ntmps94
  go_wp2_with fail
  go_ret
  exact ⟨ret_int (congrArg (fun c : UInt8 => (c.toNat : Int)) (at_eq ⟨#[48, 49, 50, 51, 52, 53, 54, 55, 56, 57, 97, 98, 99, 100, 101, 102]⟩ d hd)), rfl⟩

theorem hex_c (n size : Int) (w : World) :
    Calls Tryz.prog 78 #[.int .i64 n, .int .i64 size] w fun e w' => e = .returned (.string (S (hexL (u64 n) (clamp size)))) ∧ Below w.heap.size w w' := by
  have hcl := clamp_eq size
  have hle := clamp_le size
  have hm := made_c (clamp size) 94 #[.pointer (some ⟨w.heap.size + 1, 0, none⟩), .pointer (some ⟨w.heap.size, 0, none⟩)] (fun k => hexDig (u64 n / 2 ^ (4 * (clamp size - 1 - k)) % 16))
    ((w.alloc (.cells #[.int .i64 n] 3)).alloc (.cells #[.int .i64 (clamp size : Int)] 3)) (by omega) enter_hex
    (fun k W hk hb => hex1_c n (clamp size) k (w.heap.size + 1) w.heap.size W hk hle (by rw [hb.cell (by simp)]; simp) (by rw [hb.cell (by simp; omega)]; simp))
  have hr : Hid (hexL (u64 n) (clamp size) = List.map (fun k => hexDig (u64 n / 2 ^ (4 * (clamp size - 1 - k)) % 16)) (List.range (clamp size))) := rfl
  generalize List.map (fun k => hexDig (u64 n / 2 ^ (4 * (clamp size - 1 - k)) % 16)) (List.range (clamp size)) = r at hm hr
  generalize clamp size = c at hcl hle hm hr
  go_enter Tryz.func78, Tryz.ntmps78
  go_wp2_with fail
  refine hm.mono ?_
  rintro e w' ⟨rfl, hb⟩
  go_wp2_with fail
  go_ret
  exact ⟨by rw [hr.out]; rfl, (((Below.refl _ w).alloc (Nat.le_refl _) _).alloc (by simp) _).trans (hb.mono (by simp; omega))⟩

end Go.Proofs.YtgfbednfiejlfaaGreatDoor.Oct

/-
  Contract of octets.Unhex: the number whose digits of base 16 a text is.
-/
namespace Go.Proofs.YtgfbednfiejlfaaGreatDoor.Oct
open Go.RowKit

def hexC (c : UInt8) : Int := hexI (c.toNat : Int)
def valL (l : List UInt8) : Nat := l.foldl (fun n c => n * 16 + (hexC c).toNat) 0
/-- The number, and the error's. -/
def unhexL (l : List UInt8) : Nat × Nat :=
  if l = [] then (0, 8) else if 8 < l.length then (0, 5) else if l.all (fun c => decide (0 ≤ hexC c)) then (valL l, 0) else (0, 33)

theorem hexC_le (c : UInt8) : hexC c ≤ 15 := (hexI_range _).2
theorem valL_snoc (l : List UInt8) (c : UInt8) : valL (l ++ [c]) = valL l * 16 + (hexC c).toNat := by simp [valL]
theorem valL_lt (l : List UInt8) : valL l < 16 ^ l.length := by
  have gen : ∀ (l : List UInt8) (a e : Nat), a < 16 ^ e → l.foldl (fun n c => n * 16 + (hexC c).toNat) a < 16 ^ (e + l.length) := by
    intro l
    induction l with
    | nil => intro a e h; simpa using h
    | cons c l ih =>
      intro a e h
      have hc := hexC_le c
      have := ih (a * 16 + (hexC c).toNat) (e + 1) (by rw [Nat.pow_succ]; omega)
      rw [List.foldl_cons, List.length_cons, show e + (l.length + 1) = e + 1 + l.length by omega]
      exact this
  have := gen l 0 0 (by simp)
  simpa [valL] using this
theorem valL_le (l : List UInt8) (k : Nat) (h : k ≤ 7) : valL (l.take k) < 268435456 := by
  have h1 := valL_lt (l.take k)
  have h2 : (l.take k).length ≤ 7 := by rw [List.length_take]; omega
  have h3 : 16 ^ (l.take k).length ≤ 16 ^ 7 := Nat.pow_le_pow_right (by omega) h2
  omega
theorem take_at (s : ByteArray) (k : Nat) (h : k < s.size) : s.data.toList.take (k + 1) = s.data.toList.take k ++ [s[k]] := by
  rw [List.take_succ_eq_append_getElem (by rw [size_list]; exact h)]; rfl

theorem unhex_none (s : ByteArray) : (firstOf (fun k => decide (hexC (at' s k) < 0)) 0 s.size == s.size) = s.data.toList.all (fun c => decide (0 ≤ hexC c)) := by
  rw [firstOf_all, ← all_at]
  congr 1
  funext k
  rw [Bool.eq_iff_iff]; simp

theorem or_digit (x : Int) (y : Int) (h0 : 0 ≤ x) (h1 : x ≤ 268435456) (h2 : 0 ≤ y) (h3 : y ≤ 15) : bits .or .i64 (x * 16) y = x * 16 + y := by
  exact bits_join .i64 62 (by decide) (fun n h0 h1 => by rw [IntKind.wrap_i64]; omega) 4 (x * 16) y (by omega) (by omega) (by omega) h2 (by omega) (by omega)

theorem enter_unhex : ∀ args w, (callFunc 118 args).run Tryz.prog w = .ok (.enter 118 args) w := enters_of Tryz.func118 (by kernel_rfl) rfl

theorem unhex1_c (s : ByteArray) (k b : Nat) (w : World) (hk : k < s.size) (hc : w.cell? ⟨b, 0, none⟩ = some (.string s)) :
    Calls Tryz.prog 118 #[.int .i64 (k : Int), .pointer (some ⟨b, 0, none⟩)] w fun e w' => e = .returned (.bool (decide (hexC (at' s k) < 0))) ∧ w = w' := by
  have hb : (s[k].toNat : Int) ≤ 255 := by have := s[k].toNat_lt; omega
  have E : Hid ((at' s k) = s[k]) := (at_eq s k hk).symm
  go_enter Tryz.func118, Tryz.ntmps118
  go_wp2_with (go_at_call 119; refine (digitValue_c _ _ (by omega) (by omega)).mono ?_; rintro e w' ⟨rfl, rfl⟩)
  go_ret
  exact ⟨ret_bool (by rw [E.out]; rfl), rfl⟩

theorem unhex_c (s : ByteArray) (w : World) :
    Calls Tryz.prog 114 #[.string s] w fun e w' => e = .returned (.tuple #[.int .i64 ((unhexL s.data.toList).1 : Int), .int .i64 ((unhexL s.data.toList).2 : Int)]) ∧ Below w.heap.size w w' := by
  by_cases h0 : s.size = 0
  · have hs : s = ⟨#[]⟩ := by
      apply ByteArray.ext
      exact Array.eq_empty_of_size_eq_zero h0
    subst hs
    go_enter Tryz.func114, Tryz.ntmps114
    go_wp2
    go_ret2
    exact ⟨rfl, (Below.refl _ w).alloc (Nat.le_refl _) _⟩
  · have hne : s.data.toList ≠ [] := by intro h; apply h0; rw [← size_list, h]; rfl
    have he : s.data.toList.isEmpty = false := by rw [List.isEmpty_eq_false_iff]; exact hne
    have he' : s.toList.isEmpty = false := by rw [ByteArray.toList_eq]; exact he
    by_cases h8 : 8 < s.size
    · have F : Hid (unhexL s.data.toList = (0, 5)) := by
        show _ = _
        unfold unhexL
        rw [if_neg hne, if_pos (by rw [size_list]; exact h8)]
      clear hne
      go_enter Tryz.func114, Tryz.ntmps114
      go_wp2
      go_ret2
      exact ⟨by rw [F.out]; rfl, (Below.refl _ w).alloc (Nat.le_refl _) _⟩
    · have hlen : s.size ≤ 8 := by omega
      have hn := none_c s.size 118 #[.pointer (some ⟨w.heap.size, 0, none⟩)] (fun k => decide (hexC (at' s k) < 0)) (w.alloc (.cells #[.string s] 9)) (by omega) enter_unhex
        (fun k W hk hb => (unhex1_c s k w.heap.size W hk (by rw [hb.cell (by simp)]; simp)).mono fun _ _ ⟨he, hw⟩ => ⟨he, hw ▸ hb⟩)
      rw [unhex_none] at hn
      cases hall : s.data.toList.all (fun c => decide (0 ≤ hexC c)) with
      | false =>
        have F : Hid (unhexL s.data.toList = (0, 33)) := by
          show _ = _
          unfold unhexL
          rw [if_neg hne, if_neg (by rw [size_list]; exact h8), hall]
          rfl
        rw [hall] at hn
        clear hall hne h8 h0
        go_enter Tryz.func114, Tryz.ntmps114
        go_wp2_with (go_at_call 117; refine hn.mono ?_; rintro e w' ⟨rfl, hb⟩)
        go_ret2
        exact ⟨by rw [F.out]; rfl, ((Below.refl _ w).alloc (Nat.le_refl _) _).trans (hb.mono (by simp))⟩
      | true =>
        have F : Hid (unhexL s.data.toList = (valL s.data.toList, 0)) := by
          show _ = _
          unfold unhexL
          rw [if_neg hne, if_neg (by rw [size_list]; exact h8), hall]
          rfl
        rw [hall] at hn
        have HA := Lib.hid hall
        clear hall hne h8 h0
        go_enter Tryz.func114, Tryz.ntmps114
        go_wp2_with (go_at_call 117; refine hn.mono ?_; rintro e w1 ⟨rfl, hb⟩; have hc1 : w1.cell? ⟨w.heap.size, 0, none⟩ = some (.string s) := by (rw [hb.cell (by simp)]; simp))
        have hbw : Hid (Below w.heap.size w w1) := ((Below.refl _ w).alloc (Nat.le_refl _) _).trans (hb.mono (by simp))
        clear hn hb
        go_loop [4, 5, 21] (fun n _ i => ∃ k : Nat, k ≤ s.size ∧ i = .int .i64 k ∧ n = .int .i64 (valL (s.data.toList.take k) : Nat)) (fun _ _ i => s.size - (intOf i).toNat)
        case atStart => exact ⟨0, Nat.zero_le _, rfl, rfl⟩
        case round =>
          obtain ⟨k, hk, rfl, rfl⟩ := hrel
          by_cases hlt : k < s.size
          · have hv := valL_le s.data.toList k (by omega)
            have hb1 : (s[k].toNat : Int) ≤ 255 := by have := s[k].toNat_lt; omega
            have HV : Hid (valL (s.data.toList.take (k + 1)) = valL (s.data.toList.take k) * 16 + (hexC s[k]).toNat) := by show _ = _; rw [take_at s k hlt, valL_snoc]
            have hd := (hexI_range (s[k].toNat : Int)).2
            have hd0 : 0 ≤ hexI (s[k].toNat : Int) := by
              have := List.all_eq_true.1 HA.out s[k] (by rw [ByteArray.getElem_eq_getElem_data]; simp)
              exact of_decide_eq_true this
            have ho := or_digit (valL (s.data.toList.take k) : Nat) (hexI (s[k].toNat : Int)) (by omega) (by omega) hd0 hd
            generalize valL (s.data.toList.take k) = v at hv HV ho
            go_wp2_with (go_at_call 119; refine (digitValue_c _ _ (by omega) (by omega)).mono ?_; rintro e w' ⟨rfl, rfl⟩)
            go_round
            case rel =>
              refine ⟨k + 1, by omega, by go_num, ?_⟩
              rw [HV.out]
              congr 1
              unfold hexC
              omega
            case measure => simp [intOf]; omega
          · go_wp2
            go_ret2
            have hke : s.data.toList.take k = s.data.toList := List.take_of_length_le (by rw [size_list]; omega)
            exact ⟨by rw [F.out, hke]; rfl, hbw.out⟩

end Go.Proofs.YtgfbednfiejlfaaGreatDoor.Oct

/-
  Plain facts on characters and their octets, with no program: what a text begins with, its parts, its characters, the text repaired, whether it is valid.
-/
namespace Go.Proofs.YtgfbednfiejlfaaGreatDoor.Utf
open Go.Lib

/-- A character's number. -/
def isChar (c : Int) : Prop := (0 ≤ c ∧ c < 55296) ∨ (57343 < c ∧ c ≤ 1114111)
instance (c : Int) : Decidable (isChar c) := by unfold isChar; infer_instance

/-- The octet at a place of a list, as a number; 0 behind the end. -/
def oct (l : List UInt8) (k : Nat) : Nat := (l.getD k 0).toNat

/-- The character that a text begins with, and how many octets it has. -/
def dec (l : List UInt8) : Int × Nat :=
  if l = [] then (-1, 0)
  else if (decodeN l.length (oct l 0) (oct l 1) (oct l 2) (oct l 3)).1 = 65533 ∧ (decodeN l.length (oct l 0) (oct l 1) (oct l 2) (oct l 3)).2 ≤ 1 then (-1, 1)
  else (((decodeN l.length (oct l 0) (oct l 1) (oct l 2) (oct l 3)).1 : Int), (decodeN l.length (oct l 0) (oct l 1) (oct l 2) (oct l 3)).2)

/-- A character's octets, as numbers. -/
def encN (n : Nat) : List Nat :=
  if n < 128 then [n] else if n < 2048 then [192 + n / 64, 128 + n % 64] else if n < 65536 then [224 + n / 4096, 128 + n / 64 % 64, 128 + n % 64]
  else [240 + n / 262144, 128 + n / 4096 % 64, 128 + n / 64 % 64, 128 + n % 64]

theorem enc_eq (n : Nat) (h : isChar n) : encodeRune n = (encN n).map Nat.toUInt8 := by
  unfold isChar at h
  unfold encodeRune encN
  by_cases h1 : n < 128
  · rw [if_pos h1, encodeRuneZ_one (by omega) (by omega)]; simp
  · rw [if_neg h1]
    by_cases h2 : n < 2048
    · rw [if_pos h2, encodeRuneZ_two (by omega) (by omega)]
      simp only [List.map_cons, List.map_nil]
      rw [show (192 + (n : Int) / 64).toNat = 192 + n / 64 by omega, show (128 + (n : Int) % 64).toNat = 128 + n % 64 by omega]
    · rw [if_neg h2]
      by_cases h3 : n < 65536
      · rw [if_pos h3, encodeRuneZ_three (by omega)]
        simp only [List.map_cons, List.map_nil]
        rw [show (224 + (n : Int) / 4096).toNat = 224 + n / 4096 by omega, show (128 + (n : Int) / 64 % 64).toNat = 128 + n / 64 % 64 by omega, show (128 + (n : Int) % 64).toNat = 128 + n % 64 by omega]
      · rw [if_neg h3, encodeRuneZ_four (by omega) (by omega)]
        simp only [List.map_cons, List.map_nil]
        rw [show (240 + (n : Int) / 262144).toNat = 240 + n / 262144 by omega, show (128 + (n : Int) / 4096 % 64).toNat = 128 + n / 4096 % 64 by omega, show (128 + (n : Int) / 64 % 64).toNat = 128 + n / 64 % 64 by omega, show (128 + (n : Int) % 64).toNat = 128 + n % 64 by omega]

theorem u8 (n : Nat) (h : n < 256) : n.toUInt8.toNat = n := by simp; omega

theorem decodeN_enc (n : Nat) (h : isChar n) (t : List UInt8) :
    decodeN (encodeRune n ++ t).length (oct (encodeRune n ++ t) 0) (oct (encodeRune n ++ t) 1) (oct (encodeRune n ++ t) 2) (oct (encodeRune n ++ t) 3) = (n, (encodeRune n).length) := by
  rw [enc_eq n h]
  unfold isChar at h
  unfold encN oct
  by_cases h1 : n < 128
  · rw [if_pos h1]
    simp only [List.map_cons, List.map_nil, List.cons_append, List.nil_append, List.length_cons, List.getD_cons_zero, List.length_nil]
    rw [u8 n (by omega)]
    simp [decodeN, h1]
  · rw [if_neg h1]
    by_cases h2 : n < 2048
    · rw [if_pos h2]
      simp only [List.map_cons, List.map_nil, List.cons_append, List.nil_append, List.length_cons, List.getD_cons_zero, List.getD_cons_succ, List.length_nil]
      rw [u8 (192 + n / 64) (by omega), u8 (128 + n % 64) (by omega)]
      unfold decodeN
      rw [if_neg (by omega), if_pos (by omega), if_pos (by omega)]
      exact Prod.ext (by show _ = n; omega) rfl
    · rw [if_neg h2]
      by_cases h3 : n < 65536
      · rw [if_pos h3]
        simp only [List.map_cons, List.map_nil, List.cons_append, List.nil_append, List.length_cons, List.getD_cons_zero, List.getD_cons_succ, List.length_nil]
        rw [u8 (224 + n / 4096) (by omega), u8 (128 + n / 64 % 64) (by omega), u8 (128 + n % 64) (by omega)]
        unfold decodeN
        have e : (224 + n / 4096) % 16 * 4096 + (128 + n / 64 % 64) % 64 * 64 + (128 + n % 64) % 64 = n := by omega
        rw [if_neg (by omega), if_neg (by omega), if_pos (by omega), e, if_pos (by omega)]
      · rw [if_neg h3]
        simp only [List.map_cons, List.map_nil, List.cons_append, List.nil_append, List.length_cons, List.getD_cons_zero, List.getD_cons_succ, List.length_nil]
        rw [u8 (240 + n / 262144) (by omega), u8 (128 + n / 4096 % 64) (by omega), u8 (128 + n / 64 % 64) (by omega), u8 (128 + n % 64) (by omega)]
        unfold decodeN
        have e : (240 + n / 262144) % 8 * 262144 + (128 + n / 4096 % 64) % 64 * 4096 + (128 + n / 64 % 64) % 64 * 64 + (128 + n % 64) % 64 = n := by omega
        rw [if_neg (by omega), if_neg (by omega), if_neg (by omega), if_pos (by omega), e, if_pos (by omega)]

theorem enc_len (c : Int) : 1 ≤ (encodeRune c).length ∧ (encodeRune c).length ≤ 4 := by
  have := encodeRuneZ_length c
  simpa [encodeRune] using this
theorem enc_ne (c : Int) : encodeRune c ≠ [] := by
  intro h; have := enc_len c; rw [h] at this; simp at this

theorem isChar_nat {c : Int} (h : isChar c) : ∃ n : Nat, c = n ∧ isChar (n : Int) := by
  have h0 : 0 ≤ c := by unfold isChar at h; omega
  obtain ⟨n, rfl⟩ := Int.eq_ofNat_of_zero_le h0
  exact ⟨n, rfl, h⟩

/-- A character comes back from its octets, whatever stands behind them. -/
theorem dec_enc (c : Int) (h : isChar c) (t : List UInt8) : dec (encodeRune c ++ t) = (c, (encodeRune c).length) := by
  obtain ⟨n, rfl, hn⟩ := isChar_nat h
  have hl := enc_len n
  unfold dec
  rw [if_neg (by simp [enc_ne]), decodeN_enc n hn t]
  rw [if_neg]
  rintro ⟨h1, h2⟩
  have e : n = 65533 := h1
  subst e
  have : (encodeRune ((65533 : Nat) : Int)).length = 3 := by decide +kernel
  have h2' : (encodeRune ((65533 : Nat) : Int)).length ≤ 1 := h2
  omega

theorem u8_back (x : UInt8) (n : Nat) (h : n = x.toNat) : n.toUInt8 = x := by subst h; simp

set_option maxRecDepth 100000 in
set_option maxHeartbeats 2000000 in
theorem decodeN_cases (n b0 b1 b2 b3 : Nat) (h0 : b0 < 256) (h1 : b1 < 256) (h2 : b2 < 256) (_ : b3 < 256) :
    decodeN n b0 b1 b2 b3 = (65533, 1) ∨
    (∃ c : Nat, isChar c ∧ ((decodeN n b0 b1 b2 b3 = (c, 1) ∧ encN c = [b0]) ∨ (decodeN n b0 b1 b2 b3 = (c, 2) ∧ 1 < n ∧ encN c = [b0, b1]) ∨ (decodeN n b0 b1 b2 b3 = (c, 3) ∧ 2 < n ∧ encN c = [b0, b1, b2]) ∨
      (decodeN n b0 b1 b2 b3 = (c, 4) ∧ 3 < n ∧ encN c = [b0, b1, b2, b3]))) := by
  unfold decodeN isChar
  split
  · right
    refine ⟨b0, by omega, .inl ⟨rfl, ?_⟩⟩
    unfold encN; rw [if_pos (by omega)]
  · split
    · split
      · right
        refine ⟨_, ?_, .inr (.inl ⟨rfl, by omega, ?_⟩)⟩
        · omega
        · unfold encN; rw [if_neg (by omega), if_pos (by omega)]
          congr 1
          · omega
          · congr 1; omega
      · left; rfl
    · split
      · split
        · right
          refine ⟨_, ?_, .inr (.inr (.inl ⟨rfl, by omega, ?_⟩))⟩
          · omega
          · unfold encN; rw [if_neg (by omega), if_neg (by omega), if_pos (by omega)]
            congr 1
            · omega
            · congr 1
              · omega
              · congr 1; omega
        · left; rfl
      · split
        · split
          · right
            refine ⟨_, ?_, .inr (.inr (.inr ⟨rfl, by omega, ?_⟩))⟩
            · omega
            · unfold encN; rw [if_neg (by omega), if_neg (by omega), if_neg (by omega)]
              congr 1
              · omega
              · congr 1
                · omega
                · congr 1
                  · omega
                  · congr 1; omega
          · left; rfl
        · left; rfl

theorem oct_lt (l : List UInt8) (k : Nat) : oct l k < 256 := (l.getD k 0).toNat_lt

theorem u8_oct (l : List UInt8) (k : Nat) : (oct l k).toUInt8 = l.getD k 0 := by unfold oct; simp

/-- What a text begins with: an octet that begins none, or a character's octets. -/
theorem dec_cases (l : List UInt8) (hl : l ≠ []) : dec l = (-1, 1) ∨ ∃ c t, isChar c ∧ l = encodeRune c ++ t := by
  rcases decodeN_cases l.length (oct l 0) (oct l 1) (oct l 2) (oct l 3) (oct_lt _ _) (oct_lt _ _) (oct_lt _ _) (oct_lt _ _) with h | ⟨c, hc, h⟩
  · left
    unfold dec
    rw [if_neg hl, h, if_pos ⟨rfl, Nat.le_refl _⟩]
  · right
    refine ⟨(c : Int), ?_⟩
    rw [enc_eq c hc]
    rcases h with ⟨_, he⟩ | ⟨_, hn, he⟩ | ⟨_, hn, he⟩ | ⟨_, hn, he⟩
    · rw [he]
      match l, hl with
      | x :: t, _ => exact ⟨t, hc, by simp [oct]⟩
    · rw [he]
      match l, hn with
      | x :: y :: t, _ => exact ⟨t, hc, by simp [oct]⟩
    · rw [he]
      match l, hn with
      | x :: y :: z :: t, _ => exact ⟨t, hc, by simp [oct]⟩
    · rw [he]
      match l, hn with
      | x :: y :: z :: u :: t, _ => exact ⟨t, hc, by simp [oct]⟩

theorem dec_nil : dec [] = (-1, 0) := rfl

theorem dec_width (l : List UInt8) (hl : l ≠ []) : 1 ≤ (dec l).2 ∧ (dec l).2 ≤ 4 ∧ (dec l).2 ≤ l.length := by
  have hp : 0 < l.length := List.length_pos_iff.2 hl
  rcases dec_cases l hl with h | ⟨c, t, hc, rfl⟩
  · rw [h]; simp; omega
  · rw [dec_enc c hc t]
    have := enc_len c
    simp
    omega

theorem dec_char (l : List UInt8) (hl : l ≠ []) : (dec l).1 = -1 ∨ isChar (dec l).1 := by
  rcases dec_cases l hl with h | ⟨c, t, hc, rfl⟩
  · rw [h]; exact .inl rfl
  · rw [dec_enc c hc t]; exact .inr hc

theorem dec_range (l : List UInt8) : -1 ≤ (dec l).1 ∧ (dec l).1 ≤ 1114111 := by
  by_cases hl : l = []
  · subst hl; rw [dec_nil]; simp
  · rcases dec_char l hl with h | h
    · omega
    · unfold isChar at h; omega

/-! ### Parts -/
def partsF : Nat → List UInt8 → List Int
  | 0, _ => []
  | n + 1, l => if l = [] then [] else (dec l).1 :: partsF n (l.drop (dec l).2)
/-- What a text is made of: characters, and -1 for each octet that begins none. -/
def parts (l : List UInt8) : List Int := partsF l.length l

theorem partsF_nil (n : Nat) : partsF n [] = [] := by cases n <;> simp [partsF]
theorem partsF_fuel : ∀ (n m : Nat) (l : List UInt8), l.length ≤ n → l.length ≤ m → partsF n l = partsF m l
  | 0, m, l, hn, _ => by
    have : l = [] := List.eq_nil_of_length_eq_zero (by omega)
    subst this; rw [partsF_nil, partsF_nil]
  | n + 1, 0, l, _, hm => by
    have : l = [] := List.eq_nil_of_length_eq_zero (by omega)
    subst this; rw [partsF_nil, partsF_nil]
  | n + 1, m + 1, l, hn, hm => by
    unfold partsF
    by_cases hne : l = []
    · simp [hne]
    · have hw := dec_width l hne
      rw [if_neg hne, if_neg hne, partsF_fuel n m (l.drop (dec l).2) (by rw [List.length_drop]; omega) (by rw [List.length_drop]; omega)]
theorem parts_nil : parts [] = [] := rfl
theorem parts_step (l : List UInt8) (hl : l ≠ []) : parts l = (dec l).1 :: parts (l.drop (dec l).2) := by
  have hp : 0 < l.length := List.length_pos_iff.2 hl
  have hw := dec_width l hl
  obtain ⟨n, hn⟩ : ∃ n, l.length = n + 1 := ⟨l.length - 1, by omega⟩
  unfold parts
  rw [hn]
  show (if l = [] then [] else _) = _
  rw [if_neg hl, partsF_fuel n (l.drop (dec l).2).length _ (by rw [List.length_drop]; omega) (Nat.le_refl _)]

theorem parts_enc1 (c : Int) (hc : isChar c) (t : List UInt8) : parts (encodeRune c ++ t) = c :: parts t := by
  rw [parts_step _ (by simp [enc_ne]), dec_enc c hc t]
  simp

/-- Induction along a text's parts. -/
theorem parts_ind {P : List UInt8 → Prop} (h0 : P []) (hbad : ∀ x t, dec (x :: t) = (-1, 1) → P t → P (x :: t)) (hc : ∀ c t, isChar c → P t → P (encodeRune c ++ t)) : ∀ l, P l := by
  intro l
  generalize hn : l.length = n
  induction n using Nat.strongRecOn generalizing l with
  | _ n ih =>
    by_cases hl : l = []
    · subst hl; exact h0
    · rcases dec_cases l hl with h | ⟨c, t, hch, rfl⟩
      · match l, hl with
        | x :: t, _ => exact hbad x t h (ih t.length (by rw [← hn]; simp) t rfl)
      · exact hc c t hch (ih t.length (by have := enc_len c; rw [← hn]; simp; omega) t rfl)

theorem parts_bad (x : UInt8) (t : List UInt8) (h : dec (x :: t) = (-1, 1)) : parts (x :: t) = -1 :: parts t := by
  rw [parts_step _ (by simp), h]; simp

def fix (c : Int) : Int := if c = -1 ∨ c = 0 then 65533 else c
/-- The characters of the repaired text. -/
def chars (l : List UInt8) : List Int := (parts l).map fix
def encs (cs : List Int) : List UInt8 := cs.flatMap encodeRune
/-- A text, repaired. -/
def rep (l : List UInt8) : List UInt8 := encs (chars l)
def valid (l : List UInt8) : Bool := (parts l).all (fun c => decide (c ≠ -1))

theorem parts_char (l : List UInt8) : ∀ c ∈ parts l, c = -1 ∨ isChar c := by
  induction l using parts_ind with
  | h0 => simp [parts_nil]
  | hbad x t h ih => rw [parts_bad x t h]; simp; exact ih
  | hc c t h ih =>
    rw [parts_enc1 c h t]
    intro d hd
    rcases List.mem_cons.1 hd with rfl | hd
    · exact .inr h
    · exact ih d hd

theorem fix_char {c : Int} (h : c = -1 ∨ isChar c) : isChar (fix c) ∧ fix c ≠ 0 := by
  unfold fix
  split
  · exact ⟨by decide, by omega⟩
  · rcases h with h | h
    · omega
    · exact ⟨h, by omega⟩
theorem fix_id {c : Int} (h : isChar c) (h0 : c ≠ 0) : fix c = c := by
  unfold fix; unfold isChar at h; rw [if_neg (by omega)]

theorem chars_char (l : List UInt8) : ∀ c ∈ chars l, isChar c ∧ c ≠ 0 := by
  intro c hc
  obtain ⟨d, hd, rfl⟩ := List.mem_map.1 hc
  exact fix_char (parts_char l d hd)

theorem parts_encs (cs : List Int) (h : ∀ c ∈ cs, isChar c) : parts (encs cs) = cs := by
  induction cs with
  | nil => rfl
  | cons c r ih =>
    unfold encs
    rw [List.flatMap_cons, parts_enc1 c (h c (by simp))]
    congr 1
    exact ih (fun d hd => h d (by simp [hd]))

theorem parts_rep (l : List UInt8) : parts (rep l) = chars l := parts_encs _ (fun c hc => (chars_char l c hc).1)
theorem chars_rep (l : List UInt8) : chars (rep l) = chars l := by
  show (parts (rep l)).map fix = _
  rw [parts_rep]
  have : (chars l).map fix = (chars l).map id := List.map_congr_left (fun c hc => fix_id (chars_char l c hc).1 (chars_char l c hc).2)
  rw [this, List.map_id]
theorem rep_rep (l : List UInt8) : rep (rep l) = rep l := by unfold rep; rw [show chars (encs (chars l)) = chars l from chars_rep l]
theorem valid_rep (l : List UInt8) : valid (rep l) = true := by
  unfold valid
  rw [parts_rep, List.all_eq_true]
  intro c hc
  have := (chars_char l c hc).1
  unfold isChar at this
  simp; omega

theorem enc_no0 (c : Int) (h : isChar c) (h0 : c ≠ 0) : (0 : UInt8) ∉ encodeRune c := by
  obtain ⟨n, rfl, hn⟩ := isChar_nat h
  rw [enc_eq n hn]
  unfold isChar at hn
  intro hm
  obtain ⟨k, hk, e⟩ := List.mem_map.1 hm
  have hk' : k % 256 = 0 := by have := congrArg UInt8.toNat e; simpa using this
  unfold encN at hk
  split at hk
  · simp at hk; omega
  · split at hk
    · simp at hk; omega
    · split at hk
      · simp at hk; omega
      · simp at hk; omega
theorem rep_no0 (l : List UInt8) : (0 : UInt8) ∉ rep l := by
  unfold rep encs
  intro h
  obtain ⟨c, hc, h⟩ := List.mem_flatMap.1 h
  exact enc_no0 c (chars_char l c hc).1 (chars_char l c hc).2 h

theorem enc_zero : encodeRune 0 = [0] := by decide +kernel

theorem rep_of_valid (l : List UInt8) (hv : valid l = true) (h0 : (0 : UInt8) ∉ l) : rep l = l := by
  induction l using parts_ind with
  | h0 => rfl
  | hbad x t h ih =>
    unfold valid at hv
    rw [parts_bad x t h] at hv
    simp at hv
  | hc c t h ih =>
    have hv' : valid t = true := by
      unfold valid at hv ⊢
      rw [parts_enc1 c h t, List.all_cons] at hv
      exact (Bool.and_eq_true_iff.1 hv).2
    have hc0 : c ≠ 0 := by
      rintro rfl
      rw [enc_zero] at h0
      simp at h0
    have ht : (0 : UInt8) ∉ t := fun hm => h0 (List.mem_append.2 (.inr hm))
    have := ih hv' ht
    unfold rep chars at this ⊢
    rw [parts_enc1 c h t, List.map_cons, fix_id h hc0]
    unfold encs at this ⊢
    rw [List.flatMap_cons, this]

/-- A repaired text is the text itself just if that is valid and has no 0. -/
theorem rep_eq_iff (l : List UInt8) : rep l = l ↔ (valid l = true ∧ (0 : UInt8) ∉ l) :=
  ⟨fun h => ⟨by rw [← h]; exact valid_rep l, by rw [← h]; exact rep_no0 l⟩, fun h => rep_of_valid l h.1 h.2⟩

theorem parts_len (l : List UInt8) : (parts l).length ≤ l.length := by
  induction l using parts_ind with
  | h0 => simp [parts_nil]
  | hbad x t h ih => rw [parts_bad x t h]; simp; exact ih
  | hc c t h ih =>
    have := enc_len c
    rw [parts_enc1 c h t]; simp; omega
theorem chars_len (l : List UInt8) : (chars l).length ≤ l.length := by unfold chars; rw [List.length_map]; exact parts_len l

theorem encs_len (cs : List Int) : (encs cs).length ≤ 4 * cs.length := by
  induction cs with
  | nil => simp [encs]
  | cons c r ih =>
    have := enc_len c
    unfold encs at ih ⊢
    rw [List.flatMap_cons, List.length_append, List.length_cons]; omega
theorem encs_snoc (cs : List Int) (c : Int) : encs (cs ++ [c]) = encs cs ++ encodeRune c := by simp [encs]

/-- A text of characters is valid. -/
theorem valid_enc (c : Int) (h : isChar c) : valid (encodeRune c) = true := by
  unfold valid
  have := parts_enc1 c h []
  rw [List.append_nil] at this
  rw [this]
  unfold isChar at h
  simp [parts_nil]; omega

/-! ### Go's decoder -/
theorem get_oct (s : ByteArray) (k : Nat) : (s.get! k).toNat = oct s.data.toList k := by
  unfold oct
  cases s with
  | mk d =>
    show (d[k]!).toNat = _
    rw [List.getD_eq_getElem?_getD, Array.getElem?_toList]
    by_cases h : k < d.size
    · rw [getElem!_pos d k h, Array.getElem?_eq_getElem h]; rfl
    · rw [getElem!_neg d k h, Array.getElem?_eq_none (by show d.size ≤ k; omega)]; rfl

theorem go_dec (s : ByteArray) : dec s.data.toList = if (decodeGo s).1 = 65533 ∧ (decodeGo s).2 ≤ 1 then (-1, (decodeGo s).2) else (((decodeGo s).1 : Int), (decodeGo s).2) := by
  unfold dec decodeGo
  by_cases h : s.size = 0
  · have hl : s.data.toList = [] := List.eq_nil_of_length_eq_zero (by rw [Oct.size_list]; exact h)
    rw [if_pos hl, if_pos h]; simp
  · have hl : s.data.toList ≠ [] := by intro e; apply h; rw [← Oct.size_list, e]; rfl
    have e : Utf8.decode s 0 = decodeN s.data.toList.length (oct s.data.toList 0) (oct s.data.toList 1) (oct s.data.toList 2) (oct s.data.toList 3) := by
      rw [decode_at, get_oct, get_oct, get_oct, get_oct, Oct.size_list]; rfl
    rw [if_neg hl, if_neg h, e]
    rcases decodeN_cases s.data.toList.length (oct s.data.toList 0) (oct s.data.toList 1) (oct s.data.toList 2) (oct s.data.toList 3) (oct_lt _ _) (oct_lt _ _) (oct_lt _ _) (oct_lt _ _) with h' | ⟨c, hc, h'⟩
    · rw [h']
    · rcases h' with ⟨h', _⟩ | ⟨h', _, _⟩ | ⟨h', _, _⟩ | ⟨h', _, _⟩
      · rw [h']
      all_goals (rw [h']; simp)

/-- Is it a character's number? -/
def charB (c : Int) : Bool := decide (isChar c)

theorem cut_list (s : ByteArray) (a : Nat) : (s.extract a s.size).data.toList = s.data.toList.drop a := by
  rw [Lib.extract_data, List.take_of_length_le (by rw [List.length_drop, Go.Proofs.YtgfbednfiejlfaaGreatDoor.Oct.size_list]; exact Nat.le_refl _)]
end Go.Proofs.YtgfbednfiejlfaaGreatDoor.Utf

/-
  Memory that the call itself made: a slice of octets and what it is as a text; worlds in which all older memory is unturned.
-/
namespace Go.Proofs.YtgfbednfiejlfaaGreatDoor.Mem
open Go.RowKit Go.Proofs.YtgfbednfiejlfaaGreatDoor.Oct

theorem info_u8 : (Tryz.prog.info? 5).map (fun i => (i.zero, i.size, i.bytes)) = some (some (.int .u8 0), 1, 1) := by kernel_rfl

/-- An octet's value. -/
abbrev bv (c : UInt8) : Value := .int .u8 (c.toNat : Int)

/-- 'string(b)' of a slice of the call's own that holds the octets l, nil or not. -/
theorem conv_own {w : World} {base n : Nat} {v : Value} {l : List UInt8} (h : w.ownsRow base 5 1 v n (l.map bv)) :
    (convert 59 9 v).run Tryz.prog w = .ok (.string (S l)) w := by
  have hn : l.length = n := by simpa using h.1
  rcases h.2 with ⟨rfl, hz⟩ | ⟨g, cap, cur, rfl, hg, hh, hnc, hcm, hcs, htk⟩
  · have hl : l = [] := List.eq_nil_of_length_eq_zero (by omega)
    subst hl
    exact Lib.run_convert_nil_bytes w _ _ 5 0 Tryz.underlying59 Tryz.underlying5 Tryz.underlying9
  · subst hn
    exact run_convert_bytes_back w _ _ 5 ⟨g, 0, none⟩ cap l Tryz.underlying59 Tryz.underlying5 Tryz.underlying9
      (fun j hj => by
        have h1 := h.cellAt j (by omega)
        rw [Addr.add_lit, Nat.zero_add, h1]
        simp [hj])

theorem own_base {w : World} {base n : Nat} {e : TypeId} {v : Value} {xs : List Value} (h : w.ownsRow base e 1 v n xs) : ∀ k, v.ownBlock = some k → base ≤ k := by
  intro k hk
  rcases h.2 with ⟨rfl, _⟩ | ⟨g, cap, cur, rfl, hg, _⟩
  · simp [Value.ownBlock] at hk
  · simp [Value.ownBlock] at hk; omega

/-- What lay in w lies as it lay. -/
abbrev Kept (w w' : World) : Prop := Below w.heap.size w w'
theorem kept_trans {a b c : World} (h : Kept a b) (k : Kept b c) : Kept a c := Below.trans h (k.mono h.size)
theorem kept_cell {w w' : World} (h : Kept w w') {p : Addr} {v : Value} (hc : w.cell? p = some v) : w'.cell? p = some v := by
  rw [h.cell (World.block_lt_of_cell? w p hc)]; exact hc

/-- A row of the call's own lies as it lay in a world in which nothing older has turned. -/
theorem own_kept {w w' : World} {base n size : Nat} {e : TypeId} {v : Value} {xs : List Value} (h : w.ownsRow base e size v n xs) (hb : Kept w w') : w'.ownsRow base e size v n xs := by
  refine h.kept (row := none) ⟨hb.os, hb.tape, hb.output, hb.size, fun k hk _ => hb.block k hk⟩ ?_
  rcases h.2 with ⟨rfl, _⟩ | ⟨g, cap, cur, rfl, _⟩
  · exact .inl rfl
  · exact .inr (by simp [Value.ownBlock])

theorem str_beq (a b : ByteArray) : (a.toList == b.toList) = decide (a = b) := by
  rw [Bool.eq_iff_iff]
  simp only [beq_iff_eq, decide_eq_true_eq]
  constructor
  · intro h; rw [ByteArray.toList_eq, ByteArray.toList_eq] at h; rw [← S_list a, ← S_list b, h]
  · intro h; rw [h]

theorem info_int : (Tryz.prog.info? 3).map (fun i => (i.zero, i.size, i.bytes)) = some (some (.int .i64 0), 1, 8) := by kernel_rfl
abbrev iv (c : Int) : Value := .int .i64 c
end Go.Proofs.YtgfbednfiejlfaaGreatDoor.Mem

/-
  Contracts of utf.character, Encode, Decode, and of the law's own num.
-/
namespace Go.Proofs.YtgfbednfiejlfaaGreatDoor.Utf
open Go.RowKit Go.Proofs.YtgfbednfiejlfaaGreatDoor.Oct Go.Proofs.YtgfbednfiejlfaaGreatDoor.Mem
open Go.Lib (encodeRune)

/-- Go's own two tables of characters' first octets, as they are laid. -/
def Tabs (w : World) : Prop := Lib.Utf8Tabs 1 2 w
theorem Tabs.kept {w w' : World} (h : Tabs w) (hb : Kept w w') : Tabs w' :=
  ⟨fun c hc => kept_cell hb (h.1 c hc), fun i hi => ⟨kept_cell hb (h.2 i hi).1, kept_cell hb (h.2 i hi).2⟩⟩

theorem valid_eq (c : Int) : Lib.validRune c = charB c := by unfold Lib.validRune charB isChar; rfl

theorem character_c (n : Int) (w : World) :
    Calls Tryz.prog 115 #[.int .i64 n] w fun e w' => e = .returned (.bool (charB n)) ∧ w = w' := by
  by_cases h0 : 0 ≤ n
  · by_cases h1 : n ≤ 1114111
    · have hv := fun w => Tryz.utf8_ValidRune n w
      simp only [valid_eq] at hv
      generalize charB n = b at hv
      go_enter Tryz.func115, Tryz.ntmps115
      go_wp2_with (go_at_call 120; refine (hv _).mono ?_; rintro e w' ⟨rfl, rfl⟩)
      go_ret
      exact ⟨rfl, rfl⟩
    · have hb : charB n = false := decide_eq_false (by unfold isChar; omega)
      rw [hb]
      have hd : decide (n ≤ 1114111) = false := by simpa using h1
      clear h1
      go_enter Tryz.func115, Tryz.ntmps115
      go_wp2_with fail
      go_ret
      exact ⟨rfl, rfl⟩
  · have hb : charB n = false := decide_eq_false (by unfold isChar; omega)
    rw [hb]
    have hd : decide (0 ≤ n) = false := by simpa using h0
    clear h0
    go_enter Tryz.func115, Tryz.ntmps115
    go_wp2_with fail
    go_ret
    exact ⟨rfl, rfl⟩

theorem runeCells_eq (c : Int) : Lib.runeCells c = (encodeRune c).map bv := (Lib.byteCells_encodeRune c).symm

theorem encode_no (c : Int) (w : World) (h : charB c = false) :
    Calls Tryz.prog 110 #[.int .i64 c] w fun e w' => e = .returned (.tuple #[.string ⟨#[]⟩, .int .i64 4]) ∧ Kept w w' := by
  have hc := fun w => character_c c w
  simp only [h] at hc
  clear h
  go_enter Tryz.func110, Tryz.ntmps110
  go_wp2_with (go_at_call 115; refine (hc _).mono ?_; rintro e w' ⟨rfl, rfl⟩)
  go_ret2
  exact ⟨rfl, Below.refl _ _⟩

set_option maxHeartbeats 1000000 in
theorem encode_yes (c : Int) (w : World) (h : charB c = true) :
    Calls Tryz.prog 110 #[.int .i64 c] w fun e w' => e = .returned (.tuple #[.string (S (encodeRune c)), .int .i64 0]) ∧ Kept w w' := by
  have hch : isChar c := of_decide_eq_true h
  have h0 : 0 ≤ c := by unfold isChar at hch; omega
  have h1 : c ≤ 1114111 := by unfold isChar at hch; omega
  clear hch
  have hc := fun w => character_c c w
  simp only [h] at hc
  clear h
  have ha := Tryz.utf8_AppendRune_plain w.heap.size (.slice none 0 0) 0 [] c (by omega) (by omega) w (World.ownsRow_nil _ _ _ _) (by omega) (Nat.le_refl _)
  go_enter Tryz.func110, Tryz.ntmps110
  go_wp2_with (go_at_call 115; refine (hc _).mono ?_; rintro e w' ⟨rfl, rfl⟩)
  refine ha.mono ?_
  rintro e w1 ⟨v, rfl, hown, o, hg⟩
  rw [List.nil_append, runeCells_eq] at hown
  have hcv := conv_own hown
  have hb : Kept w w1 := ((Below.refl _ w).alloc (Nat.le_refl _) o).grown hg (by simp) (fun k hk => by simp [Value.ownBlock] at hk)
  have HB := Lib.hid hb
  clear hb hg hown
  go_wp2
  go_ret2
  exact ⟨rfl, HB.out⟩

theorem decode_c (s : ByteArray) (w : World) (hT : Tabs w) :
    Calls Tryz.prog 90 #[.string s] w fun e w' => e = .returned (.tuple #[.int .i64 (dec s.data.toList).1, .int .i64 ((dec s.data.toList).2 : Nat)]) ∧ Kept w w' := by
  have hd := Tryz.utf8_DecodeRuneInString s w hT
  have E := go_dec s
  have hr := dec_range s.data.toList
  have hr2 : (dec s.data.toList).2 ≤ 4 := by
    by_cases hl : s.data.toList = []
    · rw [hl, dec_nil]; simp
    · exact (dec_width _ hl).2.1
  generalize dec s.data.toList = d at E hr hr2
  generalize Lib.decodeGo s = g at hd E
  obtain ⟨r, k⟩ := g
  simp only at hd E
  by_cases hr0 : r = 65533
  · subst hr0
    by_cases hk : k ≤ 1
    · rw [if_pos ⟨rfl, hk⟩] at E
      subst E
      have hk' : (k : Int) ≤ 1 := by omega
      go_enter Tryz.func90, Tryz.ntmps90
      go_wp2_with (go_at_call 106; refine hd.mono ?_; rintro e w' ⟨rfl, hb⟩)
      go_ret2
      exact ⟨rfl, hb⟩
    · rw [if_neg (by omega)] at E
      subst E
      have hk' : decide ((k : Int) ≤ 1) = false := by simp; omega
      have hk2 : decide (k ≤ 1) = false := by simp; omega
      go_enter Tryz.func90, Tryz.ntmps90
      go_wp2_with (go_at_call 106; refine hd.mono ?_; rintro e w' ⟨rfl, hb⟩)
      go_ret2
      exact ⟨rfl, hb⟩
  · rw [if_neg (by omega)] at E
    subst E
    have hb' : ((r : Int) == 65533) = false := by simp; omega
    have h0 : (0 : Int) ≤ (r : Int) := by omega
    have h1 : (r : Int) ≤ 1114111 := hr.2
    clear hr hr2
    go_enter Tryz.func90, Tryz.ntmps90
    go_wp2_with (go_at_call 106; refine hd.mono ?_; rintro e w' ⟨rfl, hb⟩)
    go_ret2
    exact ⟨rfl, hb⟩
end Go.Proofs.YtgfbednfiejlfaaGreatDoor.Utf

/-
  Plain facts on decimal digits, with no program: the digits of a number, a text as a number, there and back.
-/
namespace Go.Proofs.YtgfbednfiejlfaaGreatDoor.Num
open Go.Proofs.YtgfbednfiejlfaaGreatDoor.Oct

/-- The digits of u, the lowest first; none of 0. -/
def rest (u : Nat) : List Nat := if u = 0 then [] else (u % 10) :: rest (u / 10)
termination_by u
decreasing_by omega

/-- The digits of u, the lowest first; one of 0. -/
def lowL (u : Nat) : List Nat := (u % 10) :: rest (u / 10)
/-- A digit's octet. -/
def dig (d : Nat) : UInt8 := UInt8.ofNat (48 + d)
/-- The digits of u as a text. -/
def decL (u : Nat) : List UInt8 := (lowL u).reverse.map dig
/-- A number as a text. -/
def printL (n : Int) : List UInt8 := if n < 0 then 45 :: decL n.natAbs else decL n.natAbs

theorem rest_zero : rest 0 = [] := by rw [rest]; rfl
theorem rest_pos {u : Nat} (h : 0 < u) : rest u = (u % 10) :: rest (u / 10) := by rw [rest, if_neg (by omega)]
theorem rest_low {u : Nat} (h : 0 < u) : rest u = lowL u := rest_pos h
theorem rest_lt (u : Nat) : ∀ d ∈ rest u, d < 10 := by
  induction u using Nat.strongRecOn with
  | ind u ih =>
    intro d hd
    by_cases h : u = 0
    · rw [h, rest_zero] at hd; cases hd
    · rw [rest_pos (by omega)] at hd
      rcases List.mem_cons.1 hd with rfl | hd
      · omega
      · exact ih (u / 10) (by omega) d hd
theorem lowL_lt (u : Nat) : ∀ d ∈ lowL u, d < 10 := by
  intro d hd
  rcases List.mem_cons.1 hd with rfl | hd
  · omega
  · exact rest_lt _ d hd
theorem rest_len (k : Nat) : ∀ u, u < 10 ^ k → (rest u).length ≤ k := by
  induction k with
  | zero => intro u h; have : u = 0 := by simpa using h
            rw [this, rest_zero]; simp
  | succ k ih =>
    intro u h
    by_cases hz : u = 0
    · rw [hz, rest_zero]; simp
    · rw [rest_pos (by omega), List.length_cons]
      have := ih (u / 10) (by rw [Nat.pow_succ] at h; omega)
      omega
theorem lowL_len {u : Nat} (h : u < 10000000000000000000) : (lowL u).length ≤ 19 := by
  have := rest_len 18 (u / 10) (by omega)
  unfold lowL; rw [List.length_cons]; omega
theorem lowL_ne (u : Nat) : lowL u ≠ [] := by unfold lowL; simp

theorem decL_len (u : Nat) : (decL u).length = (lowL u).length := by simp [decL]
theorem decL_ne (u : Nat) : decL u ≠ [] := by
  intro h; have := decL_len u; rw [h] at this; exact lowL_ne u (List.eq_nil_of_length_eq_zero this.symm)
theorem decL_lt {u : Nat} (h : u < 10) : decL u = [dig u] := by
  have e : u / 10 = 0 := by omega
  have m : u % 10 = u := by omega
  simp [decL, lowL, e, m, rest_zero]
theorem decL_ge {u : Nat} (h : 10 ≤ u) : decL u = decL (u / 10) ++ [dig (u % 10)] := by
  unfold decL
  rw [show lowL u = (u % 10) :: lowL (u / 10) by unfold lowL; rw [rest_pos (u := u / 10) (by omega)]]
  simp
theorem decL_snoc {v d : Nat} (hv : 0 < v) (hd : d < 10) : decL (v * 10 + d) = decL v ++ [dig d] := by
  rw [decL_ge (by omega), show (v * 10 + d) / 10 = v by omega, show (v * 10 + d) % 10 = d by omega]

/-- What an octet counts as a digit. -/
def cnt (c : UInt8) : Nat := c.toNat - 48
def isDig (c : UInt8) : Bool := decide (48 ≤ c.toNat ∧ c.toNat ≤ 57)
def valD (l : List UInt8) : Nat := l.foldl (fun n c => n * 10 + cnt c) 0

theorem dig_toNat {d : Nat} (h : d < 10) : (dig d).toNat = 48 + d := by
  unfold dig; rw [UInt8.toNat_ofNat']; omega
theorem cnt_dig {d : Nat} (h : d < 10) : cnt (dig d) = d := by unfold cnt; rw [dig_toNat h]; omega
theorem isDig_dig {d : Nat} (h : d < 10) : isDig (dig d) = true := by unfold isDig; rw [dig_toNat h]; exact decide_eq_true (by omega)
theorem dig_cnt {c : UInt8} (h : isDig c = true) : dig (cnt c) = c := by
  have h' := of_decide_eq_true h
  apply UInt8.toNat_inj.1
  rw [dig_toNat (by unfold cnt; omega)]
  unfold cnt; omega
theorem cnt_lt {c : UInt8} (h : isDig c = true) : cnt c < 10 := by have h' := of_decide_eq_true h; unfold cnt; omega

theorem valD_snoc (l : List UInt8) (c : UInt8) : valD (l ++ [c]) = valD l * 10 + cnt c := by simp [valD]
theorem valD_lt (l : List UInt8) (h : ∀ c ∈ l, isDig c = true) : valD l < 10 ^ l.length := by
  have gen : ∀ (l : List UInt8) (a e : Nat), (∀ c ∈ l, isDig c = true) → a < 10 ^ e → l.foldl (fun n c => n * 10 + cnt c) a < 10 ^ (e + l.length) := by
    intro l
    induction l with
    | nil => intro a e _ h; simpa using h
    | cons c l ih =>
      intro a e hc h
      have h1 := cnt_lt (hc c (List.mem_cons_self ..))
      have := ih (a * 10 + cnt c) (e + 1) (fun d hd => hc d (List.mem_cons_of_mem _ hd)) (by rw [Nat.pow_succ]; omega)
      rw [List.foldl_cons, List.length_cons, show e + (l.length + 1) = e + 1 + l.length by omega]
      exact this
  have := gen l 0 0 h (by simp)
  simpa [valD] using this
theorem valD_take {l : List UInt8} (k : Nat) (h : ∀ c ∈ l, isDig c = true) (hk : k ≤ 18) : valD (l.take k) < 1000000000000000000 := by
  have h1 := valD_lt (l.take k) (fun c hc => h c (List.mem_of_mem_take hc))
  have h2 : 10 ^ (l.take k).length ≤ 10 ^ 18 := Nat.pow_le_pow_right (by omega) (by rw [List.length_take]; omega)
  omega
theorem valD_all {l : List UInt8} (h : ∀ c ∈ l, isDig c = true) (hl : l.length ≤ 19) : valD l < 10000000000000000000 := by
  have h1 := valD_lt l h
  have h2 : 10 ^ l.length ≤ 10 ^ 19 := Nat.pow_le_pow_right (by omega) hl
  omega

theorem decL_dig (u : Nat) : ∀ c ∈ decL u, isDig c = true := by
  intro c hc
  obtain ⟨d, hd, rfl⟩ := List.mem_map.1 hc
  exact isDig_dig (lowL_lt u d (List.mem_reverse.1 hd))
theorem valD_decL (u : Nat) : valD (decL u) = u := by
  induction u using Nat.strongRecOn with
  | ind u ih =>
    by_cases h : u < 10
    · rw [decL_lt h]; simp [valD, cnt_dig h]
    · rw [decL_ge (by omega), valD_snoc, ih _ (by omega), cnt_dig (by omega)]; omega
theorem decL_head (u : Nat) (h : 0 < u) : (decL u).head? ≠ some 48 := by
  induction u using Nat.strongRecOn with
  | ind u ih =>
    by_cases h1 : u < 10
    · rw [decL_lt h1, List.head?_cons]
      intro e
      have e1 := congrArg UInt8.toNat (Option.some.inj e)
      rw [dig_toNat h1] at e1
      have : (48 : UInt8).toNat = 48 := rfl
      omega
    · rw [decL_ge (by omega), List.head?_append]
      have := ih (u / 10) (by omega) (by omega)
      cases hh : (decL (u / 10)).head? with
      | none => exact absurd (List.head?_eq_none_iff.1 hh) (decL_ne _)
      | some c => rw [hh] at this; simpa using this

/-- A text of digits without a 0 ahead is that of its number. -/
theorem decL_valD (n : Nat) : ∀ t : List UInt8, t.length = n → t ≠ [] → (∀ c ∈ t, isDig c = true) → (t.head? = some 48 → t.length = 1) → decL (valD t) = t ∧ (t.head? ≠ some 48 → 0 < valD t) := by
  induction n with
  | zero => intro t hl hne; exact absurd (List.eq_nil_of_length_eq_zero hl) hne
  | succ n ih =>
    intro t hl hne hd hh
    obtain ⟨l, c, rfl⟩ : ∃ l c, t = l ++ [c] := ⟨_, _, (List.dropLast_concat_getLast hne).symm⟩
    have hc := hd c (by simp)
    by_cases hln : l = []
    · subst hln
      have e : valD ([] ++ [c]) = cnt c := by simp [valD]
      rw [e, decL_lt (cnt_lt hc), dig_cnt hc]
      refine ⟨rfl, fun h => ?_⟩
      by_cases h0 : cnt c = 0
      · exfalso; apply h
        rw [← dig_cnt hc, h0]; rfl
      · omega
    · have hll : l.length = n := by simp at hl; exact hl
      have hhd : (l ++ [c]).head? = l.head? := by
        cases l with
        | nil => exact absurd rfl hln
        | cons a l => rfl
      have hn0 : l.head? ≠ some 48 := by
        intro e
        have := hh (by rw [hhd]; exact e)
        rw [List.length_append, List.length_singleton] at this
        exact hln (List.eq_nil_of_length_eq_zero (by omega))
      obtain ⟨h1, h2⟩ := ih l hll hln (fun d hdl => hd d (by simp [hdl])) (fun e => absurd e hn0)
      have hv := h2 hn0
      rw [valD_snoc, decL_snoc hv (cnt_lt hc), h1, dig_cnt hc]
      exact ⟨rfl, fun _ => by omega⟩

/-- Digits alone. -/
def allDig (l : List UInt8) : Bool := l.all isDig
theorem allDig_of {l : List UInt8} (h : ∀ c ∈ l, isDig c = true) : allDig l = true := List.all_eq_true.2 h
theorem allDig_mem {l : List UInt8} (h : allDig l = true) : ∀ c ∈ l, isDig c = true := List.all_eq_true.1 h
theorem allDig_no {l : List UInt8} {c : UInt8} (hc : c ∈ l) (h : isDig c = false) : allDig l = false := List.all_eq_false.2 ⟨c, hc, by rw [h]; simp⟩

/-- The number of that size, below 0 or not, and the error's. -/
def signedL (u : Nat) (below : Bool) : Int × Nat :=
  if below then (if u ≤ 9223372036854775808 then (-(u : Int), 0) else (0, 4)) else (if u ≤ 9223372036854775807 then ((u : Int), 0) else (0, 4))
/-- What comes of the digits t, - ahead or not. -/
def parseT (below : Bool) (t : List UInt8) : Int × Nat :=
  if t = [] then (0, 8) else if allDig t = false then (0, 33) else if t.head? = some 48 ∧ (below = true ∨ 1 < t.length) then (0, 33) else if 19 < t.length then (0, 4) else signedL (valD t) below
def parseL (l : List UInt8) : Int × Nat := if l.head? = some 45 then parseT true l.tail else parseT false l

theorem head_dig {t : List UInt8} (hd : ∀ c ∈ t, isDig c = true) : t.head? ≠ some 45 := by
  intro h
  cases t with
  | nil => cases h
  | cons a t =>
    have ha := hd a (by simp)
    rw [Option.some.inj h] at ha
    exact absurd ha (by decide)

theorem parse_print (n : Int) (h0 : -9223372036854775808 ≤ n) (h1 : n ≤ 9223372036854775807) : parseL (printL n) = (n, 0) := by
  have hall : ∀ u, allDig (decL u) = true := fun u => allDig_of (decL_dig u)
  have hlen : ∀ u, u < 10000000000000000000 → ¬ 19 < (decL u).length := fun u h => by rw [decL_len]; have := lowL_len h; omega
  unfold parseL printL
  by_cases hn : n < 0
  · rw [if_pos hn, if_pos (by rfl), List.tail_cons]
    unfold parseT
    rw [if_neg (decL_ne _), if_neg (by rw [hall]; simp), if_neg (fun h => decL_head _ (by omega) h.1), if_neg (hlen _ (by omega)), valD_decL]
    unfold signedL
    rw [if_pos rfl, if_pos (by omega)]
    congr 1; omega
  · rw [if_neg hn, if_neg (head_dig (decL_dig _))]
    unfold parseT
    rw [if_neg (decL_ne _), if_neg (by rw [hall]; simp)]
    rw [if_neg (by
      intro ⟨h48, h⟩
      by_cases hz : n.natAbs = 0
      · rw [hz, decL_lt (by omega)] at h; simp at h
      · exact decL_head _ (by omega) h48), if_neg (hlen _ (by omega)), valD_decL]
    unfold signedL
    rw [if_neg (by simp), if_pos (by omega)]
    congr 1; omega

theorem print_parse (l : List UInt8) (k : Int) (h : parseL l = (k, 0)) : printL k = l := by
  have gen : ∀ (below : Bool) (t : List UInt8), parseT below t = (k, 0) → printL k = (if below then 45 :: t else t) := by
    intro below t h
    unfold parseT at h
    by_cases c1 : t = []
    · rw [if_pos c1] at h; simp at h
    rw [if_neg c1] at h
    by_cases c2 : allDig t = false
    · rw [if_pos c2] at h; simp at h
    rw [if_neg c2] at h
    by_cases c3 : t.head? = some 48 ∧ (below = true ∨ 1 < t.length)
    · rw [if_pos c3] at h; simp at h
    rw [if_neg c3] at h
    by_cases c4 : 19 < t.length
    · rw [if_pos c4] at h; simp at h
    rw [if_neg c4] at h
    have hd : ∀ c ∈ t, isDig c = true := allDig_mem (by simpa using c2)
    have hlen1 : 0 < t.length := List.length_pos_iff.2 c1
    have hone : t.head? = some 48 → t.length = 1 := fun e => by
      by_cases hq : 1 < t.length
      · exact absurd ⟨e, .inr hq⟩ c3
      · omega
    obtain ⟨hb, hp⟩ := decL_valD t.length t rfl c1 hd hone
    unfold signedL at h
    cases below with
    | true =>
      have hv := hp (fun e => c3 ⟨e, .inl rfl⟩)
      rw [if_pos rfl] at h
      by_cases c5 : valD t ≤ 9223372036854775808
      · rw [if_pos c5] at h
        have hk : k = -(valD t : Int) := (Prod.mk.inj h).1.symm
        unfold printL
        rw [if_pos (by omega), show k.natAbs = valD t by omega, hb]
        rfl
      · rw [if_neg c5] at h; simp at h
    | false =>
      rw [if_neg (by simp)] at h
      by_cases c5 : valD t ≤ 9223372036854775807
      · rw [if_pos c5] at h
        have hk : k = (valD t : Int) := (Prod.mk.inj h).1.symm
        unfold printL
        rw [if_neg (by omega), show k.natAbs = valD t by omega, hb]
        rfl
      · rw [if_neg c5] at h; simp at h
  unfold parseL at h
  by_cases c : l.head? = some 45
  · rw [if_pos c] at h
    have := gen true l.tail h
    rw [this, if_pos rfl]
    cases l with
    | nil => cases c
    | cons a l => rw [Option.some.inj c]; rfl
  · rw [if_neg c] at h
    exact gen false l h
end Go.Proofs.YtgfbednfiejlfaaGreatDoor.Num

/-
  Contracts of two leaves of package number that later layers call too: whether a number lies between two others, how great it is without its sign; they change nothing.
-/
namespace Go.Proofs.YtgfbednfiejlfaaGreatDoor.Num
open Go.RowKit Go.Proofs.YtgfbednfiejlfaaGreatDoor.Oct

def betweenB (n a b : Int) : Bool := decide (a ≤ n ∧ n ≤ b)


theorem within_c (n a b : Int) (w : World) :
    Calls Tryz.prog 76 #[.int .i64 n, .int .i64 a, .int .i64 b] w fun e w' => e = .returned (.bool (betweenB n a b)) ∧ w = w' := by
  go_enter Tryz.func76, Tryz.ntmps76
  go_wp2
  all_goals go_ret
  all_goals (refine ⟨ret_bool ?_, rfl⟩; unfold betweenB; rw [Bool.eq_iff_iff]; simp; try omega)

theorem sizeOf_c (n : Int) (w : World) (h0 : -9223372036854775808 ≤ n) (h1 : n ≤ 9223372036854775807) :
    Calls Tryz.prog 71 #[.int .i64 n] w fun e w' => e = .returned (.int .u64 (n.natAbs : Int)) ∧ w = w' := by
  by_cases hn : n < 0
  all_goals
    go_enter Tryz.func71, Tryz.ntmps71
    go_wp2
    go_ret
    refine ⟨ret_int ?_, rfl⟩
    (try simp only [IntKind.wrap_u64])
    omega

end Go.Proofs.YtgfbednfiejlfaaGreatDoor.Num

/-
  Contracts of the reader's take, unit, char, and of ending.
-/
namespace Go.Proofs.YtgfbednfiejlfaaGreatDoor.Rd
open Go.RowKit Go.Proofs.YtgfbednfiejlfaaGreatDoor.Oct

theorem ending_c (k : Int) (w : World) : Calls Tryz.prog 65 #[.int .i64 k] w fun e w' => e = .returned (.string (S (if k = 6 then [125] else [93]))) ∧ w' = w := by
  by_cases h : k = 6
  · subst h
    go_enter Tryz.func65, Tryz.ntmps65
    go_wp2
    go_ret
    exact ⟨rfl, rfl⟩
  · have hk : (k == 6) = false := by simpa using h
    rw [if_neg h]
    clear h
    go_enter Tryz.func65, Tryz.ntmps65
    go_wp2
    go_ret
    exact ⟨rfl, rfl⟩

/-- What take reads. -/
def takeP (n : Nat) (l : List UInt8) : Option (List UInt8 × List UInt8) := if n ≤ l.length then some (l.take n, l.drop n) else none
/-- An answer that is a text. -/
abbrev asS (o : Option (List UInt8 × List UInt8)) : Option (Value × List UInt8) := o.map fun (a, t) => (.string (S a), t)
/-- An answer that is a number. -/
abbrev asN (o : Option (Nat × List UInt8)) : Option (Value × List UInt8) := o.map fun (a, t) => (.int .i64 (a : Int), t)

theorem cut_front (s : ByteArray) (n : Nat) : s.extract 0 n = S (s.data.toList.take n) := by
  rw [Lib.extract_eq]; simp [S]
theorem cut_back (s : ByteArray) (n : Nat) : s.extract n s.size = S (s.data.toList.drop n) := by
  rw [Lib.extract_eq, List.take_of_length_le (by rw [List.length_drop, size_list]; omega)]

theorem take_c (R : Nat) (n : Nat) (s : ByteArray) (ov dv : Value) (w : World) (h : Rd R s ov dv w) :
    Calls Tryz.prog 108 #[.pointer (some ⟨R, 0, none⟩), .int .i64 (n : Int)] w (Reads R ov dv w (asS (takeP n s.data.toList))) := by
  have c0 := h.cell0
  have z0 := h.frozen 0
  have H := Lib.hid h
  clear h
  unfold takeP
  by_cases hn : n ≤ s.size
  · rw [if_pos (by rw [size_list]; exact hn)]
    have hn' : (n : Int) ≤ (s.size : Int) := by omega
    have hn0 : (0 : Int) ≤ (n : Int) := by omega
    go_enter Tryz.func108, Tryz.ntmps108
    go_wp2_with (go_at_call 30; refine (demand_yes _ _).mono ?_; rintro e w2 ⟨rfl, rfl⟩)
    go_ret
    refine ⟨?_, ?_, Save.setR _ _⟩
    · rw [← cut_front]; rfl
    · rw [← cut_back]; exact H.out.set _
  · rw [if_neg (by rw [size_list]; exact hn)]
    go_enter Tryz.func108, Tryz.ntmps108
    go_wp2_with (go_at_call 30; refine (demand_no _ _).mono ?_; rintro e w2 ⟨rfl, rfl⟩)
    exact ⟨rfl, rfl, Save.refl _ _⟩

/-- What unit reads. -/
def unitP (l : List UInt8) : Option (Nat × List UInt8) :=
  if Lib.hasPrefix l [92, 117] then
    match takeP 4 (l.drop 2) with
    | some (a, t) => if (unhexL a).2 = 0 then some ((unhexL a).1, t) else none
    | none => none
  else none

theorem unit_c (R : Nat) (s : ByteArray) (ov dv : Value) (w : World) (h : Rd R s ov dv w) :
    Calls Tryz.prog 109 #[.pointer (some ⟨R, 0, none⟩)] w (Reads R ov dv w (asN (unitP s.data.toList))) := by
  have hm := must_c R s (S [92, 117]) ov dv w h
  rw [list_S] at hm
  clear h
  unfold mustP at hm
  unfold unitP
  cases hp : Lib.hasPrefix s.data.toList [92, 117] with
  | false =>
    rw [hp] at hm
    simp only [Bool.false_eq_true, if_false] at hm ⊢
    go_enter Tryz.func109, Tryz.ntmps109
    go_wp2_with (go_at_call 64; refine hm.mono ?_; rintro e w1 ⟨rfl, h2⟩)
    exact ⟨rfl, rfl, h2⟩
  | true =>
    rw [hp] at hm
    simp only [if_true] at hm ⊢
    have ht := fun w1 (h1 : Rd R (S (s.data.toList.drop 2)) ov dv w1) => take_c R 4 _ ov dv w1 h1
    simp only at ht
    have hd : ([92, 117] : List UInt8).length = 2 := rfl
    rw [hd] at hm
    generalize s.data.toList.drop 2 = l1 at hm ht ⊢
    cases hk : takeP 4 l1 with
    | none =>
      rw [hk] at ht
      go_enter Tryz.func109, Tryz.ntmps109
      go_wp2_with (first
        | (go_at_call 64; refine hm.mono ?_; rintro e w1 ⟨rfl, h1, h2⟩; have HX := Lib.hid (And.intro h1 h2); clear h1 h2)
        | (go_at_call 108; refine (ht _ HX.out.1).mono ?_; rintro e w2 ⟨rfl, h3⟩))
      exact ⟨rfl, rfl, HX.out.2.trans h3⟩
    | some q =>
      obtain ⟨a, t⟩ := q
      rw [hk] at ht
      have hu := fun w => unhex_c (S a) w
      simp only at hu
      obtain ⟨q, hq⟩ : ∃ q, unhexL a = q := ⟨_, rfl⟩
      rw [hq] at hu
      simp only [hq]
      clear hq
      obtain ⟨v, er⟩ := q
      by_cases he : er = 0
      · subst he
        go_enter Tryz.func109, Tryz.ntmps109
        go_wp2_with (first
          | (go_at_call 64; refine hm.mono ?_; rintro e w1 ⟨rfl, h1, h2⟩; have HX := Lib.hid (And.intro h1 h2); clear h1 h2)
          | (go_at_call 108; refine (ht _ HX.out.1).mono ?_; rintro e w2 ⟨rfl, h3, h4⟩; have HY := Lib.hid (And.intro h3 h4); clear h3 h4)
          | (go_at_call 114; refine (hu _).mono ?_; rintro e w3 ⟨rfl, h5⟩)
          | (go_at_call 30; refine (demand_yes _ _).mono ?_; rintro e w4 ⟨rfl, rfl⟩))
        go_ret
        exact ⟨rfl, HY.out.1.keep h5, (HX.out.2.trans HY.out.2).trans (Save.of h5)⟩
      · have he' : ((er : Int) == 0) = false := by simp; omega
        simp only [he]
        go_enter Tryz.func109, Tryz.ntmps109
        go_wp2_with (first
          | (go_at_call 64; refine hm.mono ?_; rintro e w1 ⟨rfl, h1, h2⟩; have HX := Lib.hid (And.intro h1 h2); clear h1 h2)
          | (go_at_call 108; refine (ht _ HX.out.1).mono ?_; rintro e w2 ⟨rfl, h3, h4⟩; have HY := Lib.hid (And.intro h3 h4); clear h3 h4)
          | (go_at_call 114; refine (hu _).mono ?_; rintro e w3 ⟨rfl, h5⟩)
          | (go_at_call 30; refine (demand_no _ _).mono ?_; rintro e w4 ⟨rfl, rfl⟩))
        exact ⟨rfl, rfl, (HX.out.2.trans HY.out.2).trans (Save.of h5)⟩
end Go.Proofs.YtgfbednfiejlfaaGreatDoor.Rd

/-
  Contract of the reader's end.
-/
namespace Go.Proofs.YtgfbednfiejlfaaGreatDoor.Rd
open Go.RowKit Go.Proofs.YtgfbednfiejlfaaGreatDoor.Oct Go.Proofs.YtgfbednfiejlfaaGreatDoor.Val

/-- The marks behind an end: what the innermost one owned is a value's memory from now on. -/
def popT (tag : Nat → Nat) (m : Nat) : Nat → Nat := fun b => if tag b = 4 + 2 * m ∨ tag b = 5 + 2 * m then 0 else tag b
theorem popT_low {tag : Nat → Nat} {m b : Nat} (h : tag b ≠ 4 + 2 * m) (h' : tag b ≠ 5 + 2 * m) : popT tag m b = tag b := by unfold popT; rw [if_neg (by omega)]

theorem own_cut {W : World} {N m n g cap : Nat} {es : List E5} (hm : m ≤ n) (hlen : es.length = n) (h : W.ownsRow N 26 5 (.slice (some ⟨g, 0, none⟩) n cap) n (flat es)) :
    W.ownsRow N 26 5 (.slice (some ⟨g, 0, none⟩) m cap) m (flat (es.take m)) := by
  refine ⟨by rw [flat_len, List.length_take]; omega, ?_⟩
  rcases h.2 with ⟨h1, _⟩ | ⟨g2, cap2, cur, hv, hb, hh, hnc, hcm, hcs, htk⟩
  · cases h1
  · injection hv with h1 h2 h3
    injection h1 with h1
    injection h1 with h1
    subst h1; subst h3
    refine .inr ⟨g, cap, cur, rfl, hb, hh, by omega, hcm, hcs, ?_⟩
    rw [← flat_take es m (by omega), ← htk, List.take_take, Nat.min_eq_left (by omega)]

theorem pop_done {N : Nat} {tag : Nat → Nat} {W Z : World} {R : Nat} {s : List UInt8} {fs : List Fr} {f : Fr} {deep : Nat} {ov : Value} {es : List E5} (h : RdAt N tag W R s (fs ++ [f]) deep ov es)
    {g0 cap0 : Nat} (hov : ov = .slice (some ⟨g0, 0, none⟩) (fs ++ [f]).length cap0) (hR : Rd R (S s) (.slice (some ⟨g0, 0, none⟩) fs.length cap0) (.int .i64 deep) Z) (hs : Save R W Z)
    (hxs : f.xs.length * 80 ≤ 140737488351232) (hks : f.ks.length * 16 ≤ 140737488351232) :
    (∃ es', RdAt N (popT tag fs.length) Z R s fs deep (.slice (some ⟨g0, 0, none⟩) fs.length cap0) es') ∧ Kp tag (popT tag fs.length) W Z ∧ ∀ h', Holds (Dn N (popT tag fs.length) Z) Z (agg5 (es[fs.length]'h')) f.val := by
  have hlen : es.length = fs.length + 1 := by rw [h.len]; simp
  have hfl : (fs ++ [f]).length = fs.length + 1 := by simp
  have hblk : ∀ b, b < W.heap.size → tag b ≠ 2 → Z.heap[b]? = W.heap[b]? := fun b hb ht => hs.block b hb (fun e => ht (by rw [e]; exact h.rmark))
  refine ⟨⟨es.take fs.length, ?_⟩, ?_, fun h' => ?_⟩
  · refine ⟨hR, ?_, by rw [List.length_take]; omega, ?_, ?_, ?_, ?_, Nat.le_trans h.size hs.size⟩
    · have := own_cut (m := fs.length) (by omega) (by rw [h.len]) (hov ▸ h.own)
      exact own_at this fun k hk => hblk k (own_lt this hk).2 (by rw [h.omark k (by rw [hov]; exact hk)]; omega)
    · intro i h1 h2
      rw [List.length_take] at h1
      obtain ⟨L, K, ys, hf⟩ := h.frs i (by omega) (by omega)
      have e1 : (es.take fs.length)[i]'(by rw [List.length_take]; exact h1) = es[i]'(by omega) := by simp
      have e2 : (fs ++ [f])[i]'(by omega) = fs[i] := List.getElem_append_left h2
      rw [e2] at hf
      rw [e1]
      exact ⟨L, K, ys, hf.frame fun b hb ht => ⟨hblk b hb (by omega), popT_low (by omega) (by omega)⟩⟩
    · rw [popT_low (by rw [h.rmark]; omega) (by rw [h.rmark]; omega)]; exact h.rmark
    · intro b hb
      have := h.omark b (by rw [hov]; exact hb)
      rw [popT_low (by omega) (by omega)]; exact this
    · intro b hb
      have := h.out b (by have := hs.size; omega)
      rw [popT_low (by omega) (by omega)]; exact this
  · exact ⟨hs.os, hs.tape, hs.output, hs.size, fun b hb ht => ⟨hblk b hb (by omega), popT_low (by omega) (by omega)⟩⟩
  · obtain ⟨L, K, ys, hf⟩ := h.frs fs.length (by omega) (by omega)
    have e2 : (fs ++ [f])[fs.length]'(by omega) = f := by simp
    rw [e2] at hf
    refine fr_holds hf (fun b hb ht => ⟨hblk b hb (by omega), ?_⟩) hxs hks
    unfold popT
    split
    · rfl
    · omega

/-- The sign that ends one of that Kind. -/
def endL (k : Int) : List UInt8 := if k = 6 then [125] else [93]

/-- What end leaves. -/
def EndsTo (N : Nat) (tag : Nat → Nat) (w : World) (R : Nat) (s : List UInt8) (fs : List Fr) (f : Fr) (deep : Nat) (en : Ending) (w' : World) : Prop :=
  if Lib.hasPrefix s (endL f.kind) then ∃ e tag' ov' es', en = .returned (agg5 e) ∧ RdAt N tag' w' R (s.drop 1) fs deep ov' es' ∧ Kp tag tag' w w' ∧ Holds (Dn N tag' w') w' (agg5 e) f.val
  else en = Fault 33 ∧ Kp tag tag w w'

theorem Kp.own {tag tag' : Nat → Nat} {w W W' : World} (h : Kp tag tag' w W) (k : Below w.heap.size W W') : Kp tag tag' w W' :=
  ⟨k.os.trans h.os, k.tape.trans h.tape, k.output.trans h.output, Nat.le_trans h.size k.size, fun b hb ht => ⟨(k.block b hb).trans (h.block b hb ht).1, (h.block b hb ht).2⟩⟩

abbrev zBox (w : World) : World := w.alloc (.cells #[.int .i64 0, .int .i64 0, .string ⟨#[]⟩, .slice none 0 0, .slice none 0 0] 26)

theorem end_chain {N : Nat} {tag : Nat → Nat} {w W2 : World} {R : Nat} {s : List UInt8} {fs : List Fr} {deep : Nat} {ov : Value} {es : List E5} (h : RdAt N tag w R s fs deep ov es) (h2 : Below (zBox w).heap.size (zBox w) W2) (v0 v1 v2 v3 v4 : Value) :
    RdAt N tag (W2.alloc (.cells #[v0, v1, v2, v3, v4] 26)) R s fs deep ov es ∧ Bx (W2.alloc (.cells #[v0, v1, v2, v3, v4] 26)) w.heap.size (.int .i64 0) (.int .i64 0) (.string ⟨#[]⟩) (.slice none 0 0) (.slice none 0 0) ∧
    Bx (W2.alloc (.cells #[v0, v1, v2, v3, v4] 26)) W2.heap.size v0 v1 v2 v3 v4 ∧ Below w.heap.size w (W2.alloc (.cells #[v0, v1, v2, v3, v4] 26)) ∧ w.heap.size ≠ R ∧ W2.heap.size ≠ R ∧ tag w.heap.size = 1 ∧ w.heap.size ≠ W2.heap.size := by
  have hz : (zBox w).heap.size = w.heap.size + 1 := by simp
  have b1 : Below w.heap.size w (zBox w) := (Below.refl _ w).alloc (Nat.le_refl _) _
  have b2 : Below (zBox w).heap.size (zBox w) (W2.alloc (.cells #[v0, v1, v2, v3, v4] 26)) := h2.alloc h2.size _
  have hs := h2.size
  have hl := h.rd.lt
  refine ⟨(h.keep b1).keep b2, (Bx.new w _ _ _ _ _).keep b2, Bx.new W2 _ _ _ _ _, b1.trans (b2.mono (by omega)), by omega, by omega, h.out _ (.inr (Nat.le_refl _)), by omega⟩

theorem Rd.set1 {R : Nat} {s : ByteArray} {ov dv : Value} {w : World} (h : Rd R s ov dv w) (v : Value) : Rd R s v dv (w.setCell ⟨R, 1, none⟩ v) := by
  have e := heap_setCell_same w R 1 _ _ v h
  exact e

theorem end_fin {N : Nat} {tag : Nat → Nat} {w W5 : World} {R : Nat} {s : List UInt8} {fs : List Fr} {f : Fr} {deep : Nat} {ov : Value} {es : List E5} (h : RdAt N tag W5 R s (fs ++ [f]) deep ov es)
    {g0 cap0 : Nat} (hov : ov = .slice (some ⟨g0, 0, none⟩) (fs ++ [f]).length cap0) (hkw : Kp tag tag w W5) (hxs : f.xs.length * 80 ≤ 140737488351232) (hks : f.ks.length * 16 ≤ 140737488351232) {e : E5} (he : ∀ h', es[fs.length]'h' = e) {q : Nat} (hq : tag q = 1) (hqw : w.heap.size ≤ q)
    (v0 v1 v2 v3 v4 : Value) (Z : World) (hZ : Z = (st5 (W5.setCell ⟨R, 1, none⟩ (.slice (some ⟨g0, 0, none⟩) fs.length cap0)) q v0 v1 v2 v3 v4).drew) :
    ∃ tag' ov' es', RdAt N tag' Z R s fs deep ov' es' ∧ Kp tag tag' w Z ∧ Holds (Dn N tag' Z) Z (agg5 e) f.val := by
  subst hZ
  obtain ⟨⟨es', h1⟩, h2, h3⟩ := pop_done h hov (h.rd.set1 _) (Save.setR W5 _) hxs hks
  have hlen : fs.length < es.length := by rw [h.len]; simp
  have h3 := h3 hlen
  rw [he hlen] at h3
  have hq' : popT tag fs.length q = 1 := by rw [popT_low (by omega) (by omega)]; exact hq
  have a1 := h1.st5 hq' v0 v1 v2 v3 v4
  have a2 := (hkw.trans h2).own (st5_below (Below.refl _ (W5.setCell ⟨R, 1, none⟩ (.slice (some ⟨g0, 0, none⟩) fs.length cap0))) hqw v0 v1 v2 v3 v4)
  have a3 := holds_dn (tag' := popT tag fs.length) h3 (fun b hb h0 => st5_other _ v0 v1 v2 v3 v4 (fun e => by rw [e, hq'] at h0; cases h0)) (fun _ _ h => h)
  generalize st5 (W5.setCell ⟨R, 1, none⟩ (.slice (some ⟨g0, 0, none⟩) fs.length cap0)) q v0 v1 v2 v3 v4 = X at a1 a2 a3 ⊢
  exact ⟨popT tag fs.length, _, es', a1.keep (Below.refl _ X).drew, a2.own (Below.refl _ X).drew, holds_dn a3 (fun _ _ _ => rfl) (fun _ _ h => h)⟩

set_option maxHeartbeats 4000000 in
set_option maxRecDepth 100000 in
theorem end_c (N : Nat) (tag : Nat → Nat) (w : World) (R : Nat) (s : List UInt8) (fs : List Fr) (f : Fr) (deep : Nat) (ov : Value) (es : List E5) (h : RdAt N tag w R s (fs ++ [f]) deep ov es)
    (hn : f.xs.length ≤ 1099511627776) (hk : f.ks.length ≤ 1099511627776) (hm : fs.length + 1 ≤ 1099511627776) :
    Calls Tryz.prog 46 #[.pointer (some ⟨R, 0, none⟩)] w (EndsTo N tag w R s fs f deep) := by
  obtain ⟨g0, cap0, hov, hg3⟩ := h.row (by simp)
  have hlen : es.length = fs.length + 1 := by rw [h.len]; simp
  have hfl : (fs ++ [f]).length = fs.length + 1 := by simp
  obtain ⟨L, K, ys, hf⟩ := h.frs fs.length (by omega) (by omega)
  have hfi : (fs ++ [f])[fs.length]'(by omega) = f := by simp
  rw [hfi] at hf
  obtain ⟨lp, lc, hL⟩ := own_slice hf.rows
  obtain ⟨kp, kc, hK⟩ := own_slice hf.keys
  have hcap : fs.length + 1 ≤ cap0 := by
    rcases h.own.2 with ⟨h1, _⟩ | ⟨g, cap, cur, hv, _, _, hnc, _⟩
    · rw [hov] at h1; cases h1
    · rw [hov] at hv
      injection hv with _ _ h3
      omega
  obtain ⟨w1, hw1⟩ : ∃ w1, w1 = w.alloc (.cells #[.int .i64 0, .int .i64 0, .string ⟨#[]⟩, .slice none 0 0, .slice none 0 0] 26) := ⟨_, rfl⟩
  have hb1 : Below w.heap.size w w1 := by rw [hw1]; exact (Below.refl _ w).alloc (Nat.le_refl _) _
  have h1 := h.keep hb1
  have hbx : Bx w1 w.heap.size (.int .i64 0) (.int .i64 0) (.string ⟨#[]⟩) (.slice none 0 0) (.slice none 0 0) := by rw [hw1]; exact Bx.new _ _ _ _ _ _
  have hi := innermost_c R g0 fs.length cap0 (S s) (.int .i64 deep) w1 (by omega) (by have := h1.rd; rw [hov, hfl] at this; exact this)
  have key : Hid (∀ W, Below w1.heap.size w1 W → Bx W w.heap.size (.int .i64 0) (.int .i64 0) (.string ⟨#[]⟩) (.slice none 0 0) (.slice none 0 0) ∧ RdAt N tag W R s (fs ++ [f]) deep ov es ∧
      W.cell? ⟨g0, fs.length * 5, none⟩ = some (.int .i64 f.kind) ∧ W.cell? ⟨g0, fs.length * 5 + 1, none⟩ = some (.int .i64 0) ∧ W.cell? ⟨g0, fs.length * 5 + 2, none⟩ = some (.string ⟨#[]⟩) ∧ W.cell? ⟨g0, fs.length * 5 + 3, none⟩ = some (.slice lp f.xs.length lc) ∧ W.cell? ⟨g0, fs.length * 5 + 4, none⟩ = some (.slice kp f.ks.length kc)) := fun W hb => by
    have hW := h1.keep hb
    have sl : ∀ i, i < 5 → W.cell? ⟨g0, fs.length * 5 + i, none⟩ = (cells5 es[fs.length])[i]? := fun i hi => slot_at (es := es) (m := fs.length) (by omega) hi hW.own (by rw [hov]; rfl) (by rw [hlen, hfl]) ⟨cap0, hov⟩
    rw [hf.e, hL, hK] at sl
    exact ⟨hbx.keep hb, hW, sl 0 (by omega), sl 1 (by omega), sl 2 (by omega), sl 3 (by omega), sl 4 (by omega)⟩
  have hkd := hf.kind
  obtain ⟨kd, hkE⟩ : ∃ kd, kd = f.kind := ⟨_, rfl⟩
  have HE : Hid (agg5 es[fs.length] = .agg #[.int .i64 kd, .int .i64 0, .string ⟨#[]⟩, .slice lp f.xs.length lc, .slice kp f.ks.length kc]) := by
    show _ = _
    rw [hf.e, hL, hK, hkE]
  have hen := fun W => ending_c kd W
  have hM := Lib.hid (fun W (hr : Rd R (S s) ov (.int .i64 deep) W) => must_c R (S s) (S (endL kd)) ov (.int .i64 deep) W hr)
  simp only at hM
  have hel : (endL kd).length = 1 := by unfold endL; split <;> rfl
  unfold mustP at hM
  rw [hel] at hM
  change ∀ W, Calls Tryz.prog 65 #[.int .i64 kd] W fun e w' => e = .returned (.string (S (endL kd))) ∧ w' = W at hen
  rw [← hkE] at key
  rw [hw1] at hi key
  have HB := Lib.hid (And.intro h (And.intro hb1 hov))
  rw [hw1] at HB
  unfold EndsTo
  rw [← hkE]
  have HKE := Lib.hid hkE
  clear hb1 hbx h1 hw1 hf h hkE
  cases hp : Lib.hasPrefix s (endL kd) with
  | false =>
    rw [hp] at hM
    simp only [Bool.false_eq_true, if_false] at hM ⊢
    go_enter Tryz.func46, Tryz.ntmps46
    go_wp2_with (first
      | (go_at_call 62; refine hi.mono ?_; rintro e2 W2 ⟨rfl, h2⟩; obtain ⟨m1, m2, x0, x1, x2, x3, x4⟩ := key.out W2 h2; have H2 := Lib.hid (And.intro h2 (And.intro m1 m2)); clear h2 m1 m2)
      | (go_at_call 65; refine (hen _).mono ?_; rintro e3 W3 ⟨rfl, rfl⟩)
      | (go_at_call 64; obtain ⟨k1, k2, k3, k4, k5, k6, k7, k8⟩ := end_chain HB.out.1 H2.out.1 (.int .i64 kd) (.int .i64 0) (.string ⟨#[]⟩) (.slice lp f.xs.length lc) (.slice kp f.ks.length kc); refine (hM _ k1.rd).mono ?_; rintro e4 W4 ⟨rfl, h4⟩; have H4 := Lib.hid (And.intro h4 (And.intro k1 k4)); clear h4 k1 k2 k3 k4))
    exact ⟨rfl, rfl, (Kp.of H4.out.2.2).trans (Kp.save H4.out.2.1.rmark H4.out.1)⟩
  | true =>
    rw [hp] at hM
    simp only [if_true] at hM ⊢
    have hcm : (fs.length : Int) ≤ (cap0 : Int) := by omega
    have hc0 : (0 : Int) ≤ (fs.length : Int) := by omega
    have hcw : IntKind.i64.wrap ((fs.length : Int) + 1 - 1) = (fs.length : Int) := by rw [IntKind.wrap_i64]; omega
    go_enter Tryz.func46, Tryz.ntmps46
    go_wp2_with (first
      | (go_at_call 62; refine hi.mono ?_; rintro e2 W2 ⟨rfl, h2⟩; obtain ⟨m1, m2, x0, x1, x2, x3, x4⟩ := key.out W2 h2; have H2 := Lib.hid (And.intro h2 (And.intro m1 m2)); clear h2 m1 m2)
      | (go_at_call 65; refine (hen _).mono ?_; rintro e3 W3 ⟨rfl, rfl⟩)
      | (go_at_call 64; obtain ⟨k1, k2, k3, k4, k5, k6, k7, k8⟩ := end_chain HB.out.1 H2.out.1 (.int .i64 kd) (.int .i64 0) (.string ⟨#[]⟩) (.slice lp f.xs.length lc) (.slice kp f.ks.length kc); refine (hM _ k1.rd).mono ?_; rintro e4 W4 ⟨rfl, h4, h5⟩; have r4 := k1.read h4 h5; have c1 := h4.cell1; have z1 := h4.frozen 1; have b3 := k2.save h5 k5; have b4 := k3.save h5 k6; obtain ⟨x0, x1, x2, x3, x4⟩ := b4.five; obtain ⟨y0, y1, y2, y3, y4⟩ := b3.five; obtain ⟨t0, t1, t2, t3, t4⟩ := b3.froz; have H4 := Lib.hid (And.intro r4 (And.intro h5 (And.intro k1 (And.intro k4 k7)))); have k5' := Ne.symm k5; have k6' := Ne.symm k6; clear h4 h5 k1 k2 k3 k4 r4 b3 b4))
    rw [HB.out.2.2, hfl] at c1
    go_region
    go_wp2_with fail
    refine bodyPost_ret (v := .agg #[.int .i64 kd, .int .i64 0, .string ⟨#[]⟩, .slice lp f.xs.length lc, .slice kp f.ks.length kc]) (by simp [results, Tryz.results46, go_sem, y0, y1, y2, y3, y4]) rfl ?_
    have hE := HE.out
    have hfin := fun Z hZ => end_fin H4.out.1 HB.out.2.2 ((Kp.of H4.out.2.2.2.1).trans (Kp.save H4.out.2.2.1.rmark H4.out.2.1)) (by omega) (by omega) (e := es[fs.length]) (fun _ => rfl) H4.out.2.2.2.2 (Nat.le_refl _) (.int .i64 kd) (.int .i64 0) (.string ⟨#[]⟩) (.slice lp f.xs.length lc) (.slice kp f.ks.length kc) Z hZ
    rw [hE] at hfin
    obtain ⟨tag', ov', es', f1, f2, f3⟩ := hfin _ rfl
    exact ⟨(.int .i64 kd, .int .i64 0, .string ⟨#[]⟩, .slice lp f.xs.length lc, .slice kp f.ks.length kc), tag', ov', es', rfl, f1, f2, f3⟩
end Go.Proofs.YtgfbednfiejlfaaGreatDoor.Rd
