/-
  There and back: digits of base 16 that are read again; contract of the law's own example.
-/
import Derived.Test.YtnfpgfpendflnaaOctUnhex
namespace Go.Proofs.Ytnfpgfpendflnaa.Oct
open Go.RowKit

theorem hexDig_all : ∀ d : Fin 16, hexC (hexDig d.val) = (d.val : Int) ∧ hexC (up (hexDig d.val)) = (d.val : Int) := by decide +kernel
theorem hexC_dig (d : Nat) (h : d < 16) : hexC (hexDig d) = (d : Int) := (hexDig_all ⟨d, h⟩).1
theorem hexC_up (d : Nat) (h : d < 16) : hexC (up (hexDig d)) = (d : Int) := (hexDig_all ⟨d, h⟩).2

theorem hexL_length (u n : Nat) : (hexL u n).length = n := by simp [hexL]
theorem hexL_succ (u n : Nat) : hexL u (n + 1) = hexL (u / 16) n ++ [hexDig (u % 16)] := by
  unfold hexL
  rw [List.range_succ, List.map_append]
  congr 1
  · apply List.map_congr_left
    intro k hk
    have hk' : k < n := by simpa using hk
    have e : 4 * (n + 1 - 1 - k) = 4 + 4 * (n - 1 - k) := by omega
    rw [e, Nat.pow_add, ← Nat.div_div_eq_div_mul]
  · simp

theorem hexL_read (f : UInt8 → UInt8) (hf : ∀ d, d < 16 → hexC (f (hexDig d)) = (d : Int)) (n u : Nat) :
    valL ((hexL u n).map f) = u % 16 ^ n ∧ ((hexL u n).map f).all (fun c => decide (0 ≤ hexC c)) = true := by
  induction n generalizing u with
  | zero => simp [hexL, valL, Nat.mod_one]
  | succ n ih =>
    have hd := hf (u % 16) (Nat.mod_lt _ (by omega))
    rw [hexL_succ, List.map_append, List.map_cons, List.map_nil]
    refine ⟨?_, ?_⟩
    · rw [valL_snoc, (ih (u / 16)).1, hd, Int.toNat_natCast, Nat.pow_succ', Nat.mod_mul]
      omega
    · rw [List.all_append, (ih (u / 16)).2]
      simp [hd]
      omega

theorem unhex_of (l : List UInt8) (v : Nat) (hl : l.length = 8) (hv : valL l = v) (ha : l.all (fun c => decide (0 ≤ hexC c)) = true) : unhexL l = (v, 0) := by
  unfold unhexL
  rw [if_neg (by intro h; rw [h] at hl; simp at hl), if_neg (by omega), ha, hv]
  rfl

theorem back_small (u : Nat) (h : u < 4294967296) : unhexL (hexL u 8) = (u, 0) := by
  have := hexL_read id hexC_dig 8 u
  rw [List.map_id] at this
  exact unhex_of _ _ (hexL_length _ _) (this.1.trans (Nat.mod_eq_of_lt h)) this.2
theorem back_great (u : Nat) (h : u < 4294967296) : unhexL ((hexL u 8).map up) = (u, 0) := by
  have := hexL_read up hexC_up 8 u
  exact unhex_of _ _ (by rw [List.length_map, hexL_length]) (this.1.trans (Nat.mod_eq_of_lt h)) this.2

theorem alive_hex : S (hexL (u64 255) (clamp 4)) = ⟨#[48, 48, 102, 102]⟩ := by decide +kernel
theorem alive_name : nameB (⟨#[97, 95, 49]⟩ : ByteArray).data.toList = true := by decide +kernel
theorem alive_blank : blankI 32 = true := by decide +kernel

theorem alive_c (w : World) : Calls Try.prog 21 #[] w fun e w' => e = .returned (.bool true) ∧ Below w.heap.size w w' := by
  have h1 := hex_c 255 4 w
  rw [alive_hex] at h1
  have h2 : ∀ w, Calls Try.prog 15 #[.string ⟨#[97, 95, 49]⟩] w fun e w' => e = .returned (.bool true) ∧ Below w.heap.size w w' := fun w => by
    have := name_c ⟨#[97, 95, 49]⟩ w
    rwa [alive_name] at this
  have h3 := fun w => blank_c 32 w
  simp only [alive_blank] at h3
  go_enter Try.func21, Try.ntmps21
  go_wp2_with fail
  refine h1.mono ?_
  rintro e w1 ⟨rfl, hb1⟩
  go_wp2_with fail
  refine (h2 w1).mono ?_
  rintro e w2 ⟨rfl, hb2⟩
  go_wp2_with fail
  refine (h3 w2).mono ?_
  rintro e w3 ⟨rfl, rfl⟩
  go_wp2_with fail
  go_ret
  exact ⟨rfl, hb1.trans (hb2.mono hb1.size)⟩

set_option maxHeartbeats 1000000 in
theorem law_back (n : Nat) (hn : n < 4294967296) (w : World) :
    Calls Try.prog 5 #[.int .u32 (n : Int)] w fun e w' => e = .returned (.bool true) ∧ Below w.heap.size w w' := by
  have hcl : clamp 8 = 8 := by decide +kernel
  have hu : u64 (n : Int) = n := by unfold u64; omega
  have h1 := fun w => hex_c (n : Int) 8 w
  simp only [hcl, hu] at h1
  have hlen : (S (hexL n 8)).size = 8 := by rw [size_S, hexL_length]
  have h2 := fun w => unhex_c (S (hexL n 8)) w
  have h3 := fun w => upper_c (S (hexL n 8)) w (by omega)
  have h4 := fun w => unhex_c (S ((hexL n 8).map up)) w
  simp only [back_small n hn] at h2
  simp only [back_great n hn] at h4
  clear hcl hu
  generalize S ((hexL n 8).map up) = t at h3 h4
  generalize S (hexL n 8) = s at h1 h2 h3 hlen
  go_enter Try.func5, Try.ntmps5
  go_wp2_with fail
  refine (alive_c _).mono ?_
  rintro e w1 ⟨rfl, hb1⟩
  go_wp2_with fail
  refine (h1 w1).mono ?_
  rintro e w2 ⟨rfl, hb2⟩
  go_wp2_with fail
  refine (h2 w2).mono ?_
  rintro e w3 ⟨rfl, hb3⟩
  go_wp2_with fail
  refine (h3 w3).mono ?_
  rintro e w4 ⟨rfl, hb4⟩
  go_wp2_with fail
  refine (h4 w4).mono ?_
  rintro e w5 ⟨rfl, hb5⟩
  go_wp2
  go_ret
  exact ⟨rfl, (((hb1.trans (hb2.mono hb1.size)).trans (hb3.mono (Nat.le_trans hb1.size hb2.size))).trans (hb4.mono (Nat.le_trans hb1.size (Nat.le_trans hb2.size hb3.size)))).trans
    (hb5.mono (Nat.le_trans hb1.size (Nat.le_trans hb2.size (Nat.le_trans hb3.size hb4.size))))⟩

end Go.Proofs.Ytnfpgfpendflnaa.Oct
