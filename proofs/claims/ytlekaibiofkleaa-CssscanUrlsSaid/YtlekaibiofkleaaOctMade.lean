/-
  Contract of octets.made, at whatever function value that is handed in: the text of the octets that it tells of the places.
-/
import Derived.Test.YtlekaibiofkleaaOctFirst
import Derived.Laws.IdiomStrings
namespace Go.Proofs.Ytlekaibiofkleaa.Oct
open Go.RowKit

theorem info_u8 : (Try.prog.info? 5).map (fun i => (i.zero, i.size, i.bytes)) = some (some (.int .u8 0), 1, 1) := by kernel_rfl

/-- What is asked of a function value that tells the octet of a place. -/
def Makes (g : Nat) (lb : Array Value) (f : Nat → UInt8) (n : Nat) (w : World) : Prop :=
  ∀ (k : Nat) (W : World), k < n → Below w.heap.size w W → Calls Try.prog g (#[.int .i64 (k : Int)] ++ lb) W fun e w' => e = .returned (.int .u8 ((f k).toNat : Int)) ∧ W = w'

/-- The cells behind k rounds. -/
def madeAt (f : Nat → UInt8) (n k : Nat) : List Value := (List.range k).map (fun j => Value.int .u8 ((f j).toNat : Int)) ++ List.replicate (n - k) (Value.int .u8 0)

theorem madeAt_zero (f : Nat → UInt8) (n : Nat) : madeAt f n 0 = List.replicate n (Value.int .u8 0) := by simp [madeAt]
theorem madeAt_succ (f : Nat → UInt8) (n k : Nat) (h : k < n) : (madeAt f n k).set k (Value.int .u8 ((f k).toNat : Int)) = madeAt f n (k + 1) := by
  unfold madeAt
  have e : n - k = (n - (k + 1)) + 1 := by omega
  rw [e, List.replicate_succ, List.set_append_right _ _ (by simp)]
  simp [List.range_succ]
theorem madeAt_at (f : Nat → UInt8) (n k : Nat) (h : k < n) : (madeAt f n k)[k]? = some (Value.int .u8 0) := by
  unfold madeAt
  rw [List.getElem?_append_right (by simp), List.length_map, List.length_range, Nat.sub_self, List.getElem?_replicate, if_pos (by omega)]
theorem madeAt_full (f : Nat → UInt8) (n j : Nat) (h : j < n) : (madeAt f n n)[j]? = some (Value.int .u8 ((f j).toNat : Int)) := by
  simp [madeAt, h]

set_option maxHeartbeats 1000000 in
theorem made_c (n : Nat) (g : Nat) (lb : Array Value) (f : Nat → UInt8) (w : World) (hn : n ≤ 281474976710656)
    (eg : ∀ args w, (callFunc g args).run Try.prog w = .ok (.enter g args) w) (hf : Makes g lb f n w) :
    Calls Try.prog 27 #[.int .i64 (n : Int), .func (.func g) #[] lb] w fun e w' => e = .returned (.string (S ((List.range n).map f))) ∧ Below w.heap.size w w' := by
  obtain ⟨i0, hi, hz0, hz1, hz2⟩ := info_parts info_u8
  go_enter Try.func27, Try.ntmps27
  go_wp2_with (at_make; refine wpList_make_full _ rfl _ _ 37 rfl w.heap.size 5 i0 (.int .u8 0) 1 Try.underlying37 hi hz0 hz1 .i64 .i64 (n : Int) (n : Int) n rfl rfl rfl rfl (by rw [hz2]; omega) (by unfold maxLen; omega) (Nat.le_refl _) ?_; intro w1 hown hgrow)
  go_loopw [6, 11] (fun _ i wr => ∃ k : Nat, k ≤ n ∧ i = .int .i64 k ∧ Hid (wr.ownsRow w.heap.size 5 1 (.slice (some ⟨w.heap.size, 0, none⟩) n n) n (madeAt f n k)) ∧ Hid (Below w.heap.size w wr)) (fun _ i _ => n - (intOf i).toNat)
  case atStart =>
    refine ⟨0, Nat.zero_le _, rfl, ?_, ?_⟩
    · rw [madeAt_zero, ← toList_madeCells_one]
      have h : w1.ownsRow w.heap.size 5 1 (.slice (some ⟨w.heap.size, 0, none⟩) n n) n (madeCells #[Value.int .u8 0] n).toList := by simpa [Value.cells] using hown
      exact h
    · exact (Below.refl _ w).grown hgrow (Nat.le_refl _) (fun k hk => by cases hk)
  case round =>
    obtain ⟨k, hk, rfl, hrow, hbel⟩ := hrel
    clear hown hgrow
    by_cases hlt : k < n
    · have hcall := hf k wr hlt hbel.out
      have hc : wr.cell? ⟨w.heap.size, k, none⟩ = (madeAt f n k)[k]? := hrow.out.cellAt k (by omega)
      have hfz : wr.frozen? ⟨w.heap.size, k, none⟩ = false := hrow.out.frozenAt k
      have hcv : (madeAt f n k)[k]? = some (.int .u8 0) := madeAt_at f n k hlt
      rw [hcv] at hc
      clear hcv
      go_wp2_with (go_at_fn g; refine hcall.mono ?_; rintro e w' ⟨rfl, rfl⟩)
      go_roundw
      case rel =>
        have st := hrow.out.stored k (Value.int .u8 ((f k).toNat : Int))
        exact ⟨k + 1, by omega, by go_num, by rw [← madeAt_succ f n k hlt]; exact st.1, hbel.out.setCell (by simp) _⟩
      case measure => simp [intOf]; omega
    · have hkn : k = n := by omega
      subst hkn
      have hcv : ((convert 37 9 (.slice (some ⟨w.heap.size, 0, none⟩) k k)).run Try.prog wr) = .ok (.string (S ((List.range k).map f))) wr := by
        have h := run_convert_bytes_back (P := Try.prog) wr 37 9 5 ⟨w.heap.size, 0, none⟩ k ((List.range k).map f) Try.underlying37 Try.underlying5 Try.underlying9 (fun j hj => by
          have hj' : j < k := by simpa using hj
          have h1 := hrow.out.cellAt j (by omega)
          rw [madeAt_full f k j hj'] at h1
          rw [Addr.add_lit, Nat.zero_add]
          simpa using h1)
        simpa using h
      go_wp2
      go_ret
      exact ⟨rfl, hbel.out⟩

end Go.Proofs.Ytlekaibiofkleaa.Oct
