/-
  Part 6: OctNames, OctLists, OctTrim, HexPure, OctHex.
-/
import Derived.Test.YtbpccbdgkkfdpaaDoorMkBaseP5
import Derived.Deep.QuietTactic
import Derived.BigQuiet
import Derived.Test.YtbpccbdgkkfdpaaDoorMkBaseP1
/-
  Contracts of octets.Name, Starts, Trim, as plain functions of lists of octets.
-/
namespace Go.Proofs.YtbpccbdgkkfdpaaDoor.Oct
open Go.RowKit

theorem firstOf_all (p : Nat → Bool) (n : Nat) : (firstOf p 0 n == n) = (List.range n).all (fun k => !p k) := by
  rw [Bool.eq_iff_iff, List.all_eq_true]
  simp only [beq_iff_eq, List.mem_range, Bool.not_eq_true']
  constructor
  · intro h k hk
    rcases hq : p k with _ | _
    · rfl
    · exfalso
      -- the first place that is wanted is at most k
      have : ∀ (m k' : Nat), k' < m → ∀ a, p (a + k') = true → firstOf p a m < m := by
        intro m
        induction m with
        | zero => intro k' h'; omega
        | succ m ih =>
          intro k' h' a hp
          unfold firstOf
          split
          · omega
          · cases k' with
            | zero => simp_all
            | succ k' => have := ih k' (by omega) (a + 1) (by rw [← hp]; congr 1; omega); omega
      have := this n k hk 0 (by simpa using hq)
      omega
  · intro h
    exact firstOf_miss p 0 n (fun i hi => by simpa using h i hi)


theorem quiet_same {P : Program} {f : FuncId} {args : Array Value} {w : World} {n : Nat} {v : Value}
    (h : Calls P f args (w.drewN n) fun e w' => e = .returned v ∧ w.drewN n = w') : Calls P f args (w.drewN n) fun e w'' => e = .returned v ∧ ∃ m, w'' = w.drewN m :=
  h.mono fun _ _ ⟨he, hm⟩ => ⟨he, n, hm.symm⟩

end Go.Proofs.YtbpccbdgkkfdpaaDoor.Oct

/-
  Plain facts on lists of octets: trimmed texts; texts that begin with others, whatever their letters are.
-/
namespace Go.Proofs.YtbpccbdgkkfdpaaDoor.Oct
open Go.RowKit

theorem below_drewN {B : Nat} {a w : World} (h : Below B a w) (q : Nat) : Below B a (w.drewN q) := ⟨h.os, h.tape, h.output, h.size, h.block⟩

/-- Does s begin with p, whatever its letters are? -/
def startsB (s p : List UInt8) : Bool := decide (p.length ≤ s.length) && ((s.map low).take p.length == p.map low)

theorem starts_none (s p : ByteArray) (h : p.size ≤ s.size) : (firstOf (fun k => low (at' s k) != low (at' p k)) 0 p.size == p.size) = startsB s.data.toList p.data.toList := by
  unfold startsB
  rw [size_list, size_list, decide_eq_true h, Bool.true_and, firstOf_all, Bool.eq_iff_iff, List.all_eq_true, beq_iff_eq]
  simp only [List.mem_range, bne, Bool.not_not, beq_iff_eq]
  have hs := size_list s
  have hp := size_list p
  constructor
  · intro H
    apply List.ext_getElem
    · simp only [List.length_take, List.length_map]; omega
    · intro i h1 h2
      have hi : i < p.size := by simp only [List.length_map] at h2; omega
      have := H i hi
      rw [← at_eq s i (by omega), ← at_eq p i hi] at this
      simp only [List.getElem_take, List.getElem_map, Array.getElem_toList]
      exact this
  · intro H k hk
    have e := congrArg (fun l => l[k]?) H
    simp only [List.getElem?_take_of_lt hk, List.getElem?_map] at e
    rw [List.getElem?_eq_getElem (by omega), List.getElem?_eq_getElem (by omega)] at e
    simp only [Option.map_some, Option.some.injEq, Array.getElem_toList] at e
    rw [← at_eq s k (by omega), ← at_eq p k hk]
    exact e

def bl (c : UInt8) : Bool := blankI (c.toNat : Int)
/-- Without blanks at both ends. -/
def trimL (l : List UInt8) : List UInt8 := ((l.dropWhile bl).reverse.dropWhile bl).reverse

theorem firstOf_takeWhile (p : Nat → Bool) (q : UInt8 → Bool) (l : List UInt8) (k : Nat) (h : ∀ i (hi : i < l.length), p (k + i) = !q l[i]) : firstOf p k l.length = (l.takeWhile q).length := by
  induction l generalizing k with
  | nil => rfl
  | cons c l ih =>
    have h0 : p k = !q c := h 0 (by simp)
    rw [List.length_cons, firstOf, h0]
    cases hq : q c with
    | true =>
      simp only [Bool.not_true, Bool.false_eq_true, if_false, List.takeWhile_cons, hq, if_true, List.length_cons]
      rw [ih (k + 1) (fun i hi => by have := h (i + 1) (by simp; omega); rw [← Nat.add_assoc, Nat.add_right_comm] at this; simpa using this)]
    | false => simp [hq]

theorem drop_takeWhile (q : UInt8 → Bool) (l : List UInt8) : l.drop (l.takeWhile q).length = l.dropWhile q := by
  induction l with
  | nil => rfl
  | cons c l ih =>
    cases hq : q c with
    | true => simp [hq, ih]
    | false => simp [hq]

theorem trim_ahead (s : ByteArray) : s.data.toList.drop (firstOf (fun k => !blankI ((at' s k).toNat : Int)) 0 s.size) = s.data.toList.dropWhile bl := by
  rw [← drop_takeWhile, ← size_list, firstOf_takeWhile _ bl _ 0 (fun i hi => by
    have hi' : i < s.size := by rw [← size_list]; exact hi
    rw [Nat.zero_add, ← at_eq s i hi', Array.getElem_toList]
    rfl)]

theorem trim_behind (s : ByteArray) : s.data.toList.take (s.size - firstOf (fun k => !blankI ((at' s (s.size - 1 - k)).toNat : Int)) 0 s.size) = (s.data.toList.reverse.dropWhile bl).reverse := by
  have e : firstOf (fun k => !blankI ((at' s (s.size - 1 - k)).toNat : Int)) 0 s.size = (s.data.toList.reverse.takeWhile bl).length := by
    rw [← firstOf_takeWhile (fun k => !blankI ((at' s (s.size - 1 - k)).toNat : Int)) bl s.data.toList.reverse 0 (fun i hi => by
      have hi' : i < s.size := by rw [← size_list]; simpa using hi
      rw [Nat.zero_add, ← at_eq s (s.size - 1 - i) (by omega), List.getElem_reverse, Array.getElem_toList]
      simp only [size_list]
      rfl), List.length_reverse, size_list]
  rw [e, ← drop_takeWhile, List.reverse_drop, List.reverse_reverse, List.length_reverse, size_list]

end Go.Proofs.YtbpccbdgkkfdpaaDoor.Oct

/-
  Contracts of octets.Name, Starts and Trim: as plain functions of lists of octets.
-/
namespace Go.Proofs.YtbpccbdgkkfdpaaDoor.Oct
open Go.RowKit

theorem name_none (s : ByteArray) : (firstOf (fun k => !nameI ((at' s k).toNat : Int)) 0 s.size == s.size) = s.data.toList.all (fun c => nameI (c.toNat : Int)) := by
  rw [firstOf_all, ← all_at]
  simp


end Go.Proofs.YtbpccbdgkkfdpaaDoor.Oct

/-
  Plain facts on digits of base 16, with no program.
-/
namespace Go.Proofs.YtbpccbdgkkfdpaaDoor.Oct
open Go.RowKit

/-- A number of 64 bits, in two's complement. -/
def u64 (n : Int) : Nat := (n % 18446744073709551616).toNat
theorem u64_lt (n : Int) : u64 n < 18446744073709551616 := by unfold u64; omega
theorem u64_wrap (n : Int) : IntKind.u64.wrap n = ((u64 n : Nat) : Int) := by rw [IntKind.wrap_u64]; unfold u64; omega

def hexDig (d : Nat) : UInt8 := at' ⟨#[48, 49, 50, 51, 52, 53, 54, 55, 56, 57, 97, 98, 99, 100, 101, 102]⟩ d
/-- The lowest digits of u. -/
def hexL (u size : Nat) : List UInt8 := (List.range size).map fun k => hexDig (u / 2 ^ (4 * (size - 1 - k)) % 16)
/-- A size as the nearest of 0 to 16. -/
def clamp (size : Int) : Nat := (min (max size 0) 16).toNat
theorem clamp_le (size : Int) : clamp size ≤ 16 := by unfold clamp; omega
theorem clamp_eq (size : Int) : min (max size 0) 16 = ((clamp size : Nat) : Int) := by unfold clamp; omega

theorem hexL_length (u n : Nat) : (hexL u n).length = n := by simp [hexL]
theorem hexL_cons (u k : Nat) : hexL u (k + 1) = hexDig (u / 16 ^ k % 16) :: hexL u k := by
  unfold hexL
  rw [List.range_succ_eq_map, List.map_cons, List.map_map]
  congr 1
  · have e : 2 ^ (4 * (k + 1 - 1 - 0)) = 16 ^ k := by
      rw [show k + 1 - 1 - 0 = k by omega, Nat.pow_mul]
    rw [e]
  · apply List.map_congr_left
    intro j hj
    simp only [Function.comp]
    rw [show k + 1 - 1 - (j + 1) = k - 1 - j by omega]

theorem digit_cut (d : Nat) (h : d < 16) : (⟨#[48, 49, 50, 51, 52, 53, 54, 55, 56, 57, 97, 98, 99, 100, 101, 102]⟩ : ByteArray).extract d (d + 1) = S [hexDig d] := by
  have : ∀ d : Fin 16, (⟨#[48, 49, 50, 51, 52, 53, 54, 55, 56, 57, 97, 98, 99, 100, 101, 102]⟩ : ByteArray).extract d.val (d.val + 1) = S [hexDig d.val] := by decide +kernel
  exact this ⟨d, h⟩
end Go.Proofs.YtbpccbdgkkfdpaaDoor.Oct

/-
  Contract of octets.Hex: the lowest digits of base 16, in two's complement.
-/
namespace Go.Proofs.YtbpccbdgkkfdpaaDoor.Oct
open Go.RowKit

theorem wraps_u64 (n : Int) (h₀ : 0 ≤ n) (h₁ : n < 2 ^ 64) : IntKind.u64.wrap n = n := by rw [IntKind.wrap_u64]; omega
theorem and15 (m e : Nat) (hm : m < 18446744073709551616) : bits .and .u64 ((m : Int) / 2 ^ e) 15 = ((m / 2 ^ e % 16 : Nat) : Int) := by
  have e1 : ((m : Int) / 2 ^ e) = ((m / 2 ^ e : Nat) : Int) := by simp
  have hle : m / 2 ^ e ≤ m := Nat.div_le_self _ _
  rw [e1]
  generalize m / 2 ^ e = x at hle
  have h := bits_mask .u64 64 (by decide) wraps_u64 4 (by decide) (x : Int) (by omega) (by omega)
  have e2 : ((2 : Int) ^ 4 - 1) = 15 := by decide
  rw [e2] at h
  rw [h]
  omega

theorem enter_hex : ∀ args w, (callFunc 68 args).run Tryd.prog w = .ok (.enter 68 args) w := enters_of Tryd.func68 (by kernel_rfl) rfl

theorem hex1_c (n : Int) (size k b b' : Nat) (w : World) (hk : k < size) (hs : size ≤ 16) (hc : w.cell? ⟨b, 0, none⟩ = some (.int .i64 (size : Int))) (hc' : w.cell? ⟨b', 0, none⟩ = some (.int .i64 n)) :
    Calls Tryd.prog 68 #[.int .i64 (k : Int), .pointer (some ⟨b, 0, none⟩), .pointer (some ⟨b', 0, none⟩)] w
      fun e w' => e = .returned (.int .u8 ((hexDig (u64 n / 2 ^ (4 * (size - 1 - k)) % 16)).toNat : Int)) ∧ w = w' := by
  have hu := u64_wrap n
  have ha := and15 (u64 n) (4 * (size - 1 - k)) (u64_lt n)
  have hd : u64 n / 2 ^ (4 * (size - 1 - k)) % 16 < 16 := Nat.mod_lt _ (by omega)
  generalize u64 n / 2 ^ (4 * (size - 1 - k)) % 16 = d at ha hd ⊢
  generalize u64 n = m at hu ha
  go_enter Tryd.func68, Tryd.ntmps68
  go_wp2_with fail
  go_ret
  exact ⟨ret_int (congrArg (fun c : UInt8 => (c.toNat : Int)) (at_eq ⟨#[48, 49, 50, 51, 52, 53, 54, 55, 56, 57, 97, 98, 99, 100, 101, 102]⟩ d hd)), rfl⟩

theorem hex_c (n size : Int) (w : World) :
    Calls Tryd.prog 52 #[.int .i64 n, .int .i64 size] w fun e w' => e = .returned (.string (S (hexL (u64 n) (clamp size)))) ∧ Below w.heap.size w w' := by
  have hcl := clamp_eq size
  have hle := clamp_le size
  have hm := made_c (clamp size) 68 #[.pointer (some ⟨w.heap.size + 1, 0, none⟩), .pointer (some ⟨w.heap.size, 0, none⟩)] (fun k => hexDig (u64 n / 2 ^ (4 * (clamp size - 1 - k)) % 16))
    ((w.alloc (.cells #[.int .i64 n] 3)).alloc (.cells #[.int .i64 (clamp size : Int)] 3)) (by omega) enter_hex
    (fun k W hk hb => hex1_c n (clamp size) k (w.heap.size + 1) w.heap.size W hk hle (by rw [hb.cell (by simp)]; simp) (by rw [hb.cell (by simp; omega)]; simp))
  have hr : Hid (hexL (u64 n) (clamp size) = List.map (fun k => hexDig (u64 n / 2 ^ (4 * (clamp size - 1 - k)) % 16)) (List.range (clamp size))) := rfl
  generalize List.map (fun k => hexDig (u64 n / 2 ^ (4 * (clamp size - 1 - k)) % 16)) (List.range (clamp size)) = r at hm hr
  generalize clamp size = c at hcl hle hm hr
  go_enter Tryd.func52, Tryd.ntmps52
  go_wp2_with fail
  refine hm.mono ?_
  rintro e w' ⟨rfl, hb⟩
  go_wp2_with fail
  go_ret
  exact ⟨by rw [hr.out]; rfl, (((Below.refl _ w).alloc (Nat.le_refl _) _).alloc (by simp) _).trans (hb.mono (by simp; omega))⟩

end Go.Proofs.YtbpccbdgkkfdpaaDoor.Oct
