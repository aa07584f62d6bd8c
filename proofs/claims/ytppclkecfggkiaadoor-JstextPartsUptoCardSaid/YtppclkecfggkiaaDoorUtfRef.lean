/-
  Contracts of the page's answers on characters: Encode, size, Decode.
-/
import Derived.Test.YtppclkecfggkiaaDoorUtfRefPure
import Derived.Test.YtppclkecfggkiaaDoorMem
import Derived.RangeFuncBox
import Derived.Deep.QuietTactic
import Derived.BigQuiet
import Derived.Laws.BitsLemmas
namespace Go.Proofs.YtppclkecfggkiaaDoor.Utf
open Go.RowKit Go.Proofs.YtppclkecfggkiaaDoor.Oct Go.Proofs.YtppclkecfggkiaaDoor.Mem
open Go.Lib (encodeRune encodeRuneZ)

/-- 'string([]byte{..})' of numbers of one octet. -/
theorem conv_new (w : World) (xs : List Int) (hx : ∀ x ∈ xs, 0 ≤ x ∧ x < 256) :
    (convert 31 9 (.slice (some ⟨w.heap.size, 0, none⟩) xs.length xs.length)).run Tryd.prog (w.alloc (.cells (xs.map (Value.int .u8)).toArray 5)) =
      .ok (.string (S (xs.map fun x => x.toNat.toUInt8))) (w.alloc (.cells (xs.map (Value.int .u8)).toArray 5)) := by
  have h := run_convert_bytes_back (P := Tryd.prog) (w.alloc (.cells (xs.map (Value.int .u8)).toArray 5)) 31 9 5 ⟨w.heap.size, 0, none⟩ xs.length (xs.map fun x => x.toNat.toUInt8) Tryd.underlying31 Tryd.underlying5 Tryd.underlying9 (fun j hj => by
    have hj' : j < xs.length := by simpa using hj
    have hb := hx xs[j] (List.getElem_mem _)
    rw [Addr.add_lit, Nat.zero_add]
    have e : (w.alloc (.cells (xs.map (Value.int .u8)).toArray 5)).cell? ⟨w.heap.size, j, none⟩ = some (Value.int .u8 xs[j]) := by
      unfold World.cell?
      rw [World.alloc_heap_new]
      simp [hj']
    rw [e]
    simp
    omega)
  simpa using h

theorem rencode_no (c : Int) (w : World) (h : charB c = false) :
    Calls Tryd.prog 24 #[.int .i64 c] w fun e w' => e = .returned (.tuple #[.string ⟨#[]⟩, .int .i64 4]) ∧ Kept w w' := by
  have hch : ¬ isChar c := of_decide_eq_false h
  have hcase : c < 0 ∨ 1114111 < c ∨ (55296 ≤ c ∧ c ≤ 57343) := by unfold isChar at hch; omega
  clear h hch
  rcases hcase with hc | hc | ⟨hc1, hc2⟩
  · go_enter Tryd.func24, Tryd.ntmps24
    go_wp2
    go_ret2
    exact ⟨rfl, Below.refl _ _⟩
  · have d0 : decide (c < 0) = false := by simp; omega
    go_enter Tryd.func24, Tryd.ntmps24
    go_wp2
    go_ret2
    exact ⟨rfl, Below.refl _ _⟩
  · have d0 : decide (c < 0) = false := by simp; omega
    have d1 : decide (1114111 < c) = false := by simp; omega
    go_enter Tryd.func24, Tryd.ntmps24
    go_wp2
    go_ret2
    exact ⟨rfl, Below.refl _ _⟩

set_option maxHeartbeats 2000000 in
theorem rencode_yes (c : Int) (w : World) (h : charB c = true) :
    Calls Tryd.prog 24 #[.int .i64 c] w fun e w' => e = .returned (.tuple #[.string (S (encodeRune c)), .int .i64 0]) ∧ Kept w w' := by
  have hch : isChar c := of_decide_eq_true h
  have h0 : 0 ≤ c := by unfold isChar at hch; omega
  have h1 : c ≤ 1114111 := by unfold isChar at hch; omega
  have hsur : c < 55296 ∨ 57343 < c := by unfold isChar at hch; omega
  have d0 : decide (c < 0) = false := by simp; omega
  have d1 : decide (1114111 < c) = false := by simp; omega
  have hb := Lib.encodeRuneZ_byte c
  have hcv := conv_new w (encodeRuneZ c) hb
  have he : S ((encodeRuneZ c).map fun x => x.toNat.toUInt8) = S (encodeRune c) := rfl
  rw [he] at hcv
  clear hch h hb he
  by_cases k1 : c < 128
  · rw [Lib.encodeRuneZ_one h0 (by omega)] at hcv
    simp only [List.map_cons, List.map_nil, List.length_cons, List.length_nil, Nat.zero_add] at hcv
    have d2 : decide (55296 ≤ c) = false := by simp; omega
    clear hsur
    go_enter Tryd.func24, Tryd.ntmps24
    go_wp2
    go_ret2
    exact ⟨rfl, (Below.refl _ w).alloc (Nat.le_refl _) _⟩
  · have e1 : decide (c < 128) = false := by simp; omega
    by_cases k2 : c < 2048
    · rw [Lib.encodeRuneZ_two (by omega) (by omega)] at hcv
      simp only [List.map_cons, List.map_nil, List.length_cons, List.length_nil, Nat.zero_add, Nat.reduceAdd] at hcv
      have d2 : decide (55296 ≤ c) = false := by simp; omega
      clear hsur
      go_enter Tryd.func24, Tryd.ntmps24
      go_wp2
      go_ret2
      exact ⟨rfl, (Below.refl _ w).alloc (Nat.le_refl _) _⟩
    · have e2 : decide (c < 2048) = false := by simp; omega
      by_cases k3 : c < 65536
      · rw [Lib.encodeRuneZ_three (by omega)] at hcv
        simp only [List.map_cons, List.map_nil, List.length_cons, List.length_nil, Nat.zero_add, Nat.reduceAdd] at hcv
        rcases hsur with hs | hs
        · have d2 : decide (55296 ≤ c) = false := by simp; omega
          go_enter Tryd.func24, Tryd.ntmps24
          go_wp2
          go_ret2
          exact ⟨rfl, (Below.refl _ w).alloc (Nat.le_refl _) _⟩
        · have d2 : (55296 : Int) ≤ c := by omega
          have d3 : decide (c ≤ 57343) = false := by simp; omega
          go_enter Tryd.func24, Tryd.ntmps24
          go_wp2
          go_ret2
          exact ⟨rfl, (Below.refl _ w).alloc (Nat.le_refl _) _⟩
      · have e3 : decide (c < 65536) = false := by simp; omega
        rw [Lib.encodeRuneZ_four (by omega) (by omega)] at hcv
        simp only [List.map_cons, List.map_nil, List.length_cons, List.length_nil, Nat.zero_add, Nat.reduceAdd] at hcv
        have d2 : (55296 : Int) ≤ c := by omega
        have d3 : decide (c ≤ 57343) = false := by simp; omega
        clear hsur
        go_enter Tryd.func24, Tryd.ntmps24
        go_wp2
        go_ret2
        exact ⟨rfl, (Below.refl _ w).alloc (Nat.le_refl _) _⟩

/-- What the page's Encode answers. -/
def encS (c : Int) : ByteArray := if charB c then S (encodeRune c) else ⟨#[]⟩
def encE (c : Int) : Int := if charB c then 0 else 4
theorem rencode_c (c : Int) (w : World) :
    Calls Tryd.prog 24 #[.int .i64 c] w fun e w' => e = .returned (.tuple #[.string (encS c), .int .i64 (encE c)]) ∧ Kept w w' := by
  cases h : charB c with
  | true => unfold encS encE; rw [h]; exact rencode_yes c w h
  | false => unfold encS encE; rw [h]; exact rencode_no c w h

def sizeI (n : Int) : Int := if n < 128 then 1 else if 194 ≤ n ∧ n < 224 then 2 else if 224 ≤ n ∧ n < 240 then 3 else if 240 ≤ n ∧ n < 245 then 4 else 0
theorem sizeI_eq (n : Nat) : sizeI (n : Int) = (sizeN n : Nat) := by
  unfold sizeI sizeN
  repeat' split
  all_goals first | rfl | omega
theorem rsize_c (n : Int) (w : World) (h0 : 0 ≤ n) (h1 : n ≤ 255) :
    Calls Tryd.prog 40 #[.int .u8 n] w fun e w' => e = .returned (.int .i64 (sizeI n)) ∧ w = w' := by
  go_enter Tryd.func40, Tryd.ntmps40
  go_wp2
  all_goals go_ret
  all_goals (refine ⟨ret_int ?_, rfl⟩; unfold sizeI; repeat' split)
  all_goals first | rfl | omega
end Go.Proofs.YtppclkecfggkiaaDoor.Utf
