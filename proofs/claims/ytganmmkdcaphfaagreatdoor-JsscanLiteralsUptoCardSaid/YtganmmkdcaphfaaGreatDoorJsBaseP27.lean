/-
  Part 27: UtfRef, UtfRefDec, PgChars.
-/
import Derived.Test.YtganmmkdcaphfaaGreatDoorJsBaseP26
import Derived.Test.YtganmmkdcaphfaaGreatDoorJsBaseP9
import Derived.RangeFuncBox
import Derived.Deep.QuietTactic
import Derived.BigQuiet
import Derived.Laws.BitsLemmas
import Derived.Maps.AppendAt
/-
  Contracts of the page's answers on characters: Encode, size, Decode.
-/
namespace Go.Proofs.YtganmmkdcaphfaaGreatDoor.Utf
open Go.RowKit Go.Proofs.YtganmmkdcaphfaaGreatDoor.Oct Go.Proofs.YtganmmkdcaphfaaGreatDoor.Mem
open Go.Lib (encodeRune encodeRuneZ)

/-- 'string([]byte{..})' of numbers of one octet. -/
theorem conv_new (w : World) (xs : List Int) (hx : ∀ x ∈ xs, 0 ≤ x ∧ x < 256) :
    (convert 44 9 (.slice (some ⟨w.heap.size, 0, none⟩) xs.length xs.length)).run Tryz.prog (w.alloc (.cells (xs.map (Value.int .u8)).toArray 5)) =
      .ok (.string (S (xs.map fun x => x.toNat.toUInt8))) (w.alloc (.cells (xs.map (Value.int .u8)).toArray 5)) := by
  have h := run_convert_bytes_back (P := Tryz.prog) (w.alloc (.cells (xs.map (Value.int .u8)).toArray 5)) 44 9 5 ⟨w.heap.size, 0, none⟩ xs.length (xs.map fun x => x.toNat.toUInt8) Tryz.underlying44 Tryz.underlying5 Tryz.underlying9 (fun j hj => by
    have hj' : j < xs.length := by simpa using hj
    have hb := hx xs[j] (List.getElem_mem _)
    rw [Addr.add_lit, Nat.zero_add]
    have e : (w.alloc (.cells (xs.map (Value.int .u8)).toArray 5)).cell? ⟨w.heap.size, j, none⟩ = some (Value.int .u8 xs[j]) := by
      unfold World.cell?
      rw [World.alloc_heap_new]
      simp [hj']
    rw [e]
    simp
    omega)
  simpa using h

theorem rencode_no (c : Int) (w : World) (h : charB c = false) :
    Calls Tryz.prog 59 #[.int .i64 c] w fun e w' => e = .returned (.tuple #[.string ⟨#[]⟩, .int .i64 4]) ∧ Kept w w' := by
  have hch : ¬ isChar c := of_decide_eq_false h
  have hcase : c < 0 ∨ 1114111 < c ∨ (55296 ≤ c ∧ c ≤ 57343) := by unfold isChar at hch; omega
  clear h hch
  rcases hcase with hc | hc | ⟨hc1, hc2⟩
  · go_enter Tryz.func59, Tryz.ntmps59
    go_wp2
    go_ret2
    exact ⟨rfl, Below.refl _ _⟩
  · have d0 : decide (c < 0) = false := by simp; omega
    go_enter Tryz.func59, Tryz.ntmps59
    go_wp2
    go_ret2
    exact ⟨rfl, Below.refl _ _⟩
  · have d0 : decide (c < 0) = false := by simp; omega
    have d1 : decide (1114111 < c) = false := by simp; omega
    go_enter Tryz.func59, Tryz.ntmps59
    go_wp2
    go_ret2
    exact ⟨rfl, Below.refl _ _⟩

set_option maxHeartbeats 2000000 in
theorem rencode_yes (c : Int) (w : World) (h : charB c = true) :
    Calls Tryz.prog 59 #[.int .i64 c] w fun e w' => e = .returned (.tuple #[.string (S (encodeRune c)), .int .i64 0]) ∧ Kept w w' := by
  have hch : isChar c := of_decide_eq_true h
  have h0 : 0 ≤ c := by unfold isChar at hch; omega
  have h1 : c ≤ 1114111 := by unfold isChar at hch; omega
  have hsur : c < 55296 ∨ 57343 < c := by unfold isChar at hch; omega
  have d0 : decide (c < 0) = false := by simp; omega
  have d1 : decide (1114111 < c) = false := by simp; omega
  have hb := Lib.encodeRuneZ_byte c
  have hcv := conv_new w (encodeRuneZ c) hb
  have he : S ((encodeRuneZ c).map fun x => x.toNat.toUInt8) = S (encodeRune c) := rfl
  rw [he] at hcv
  clear hch h hb he
  by_cases k1 : c < 128
  · rw [Lib.encodeRuneZ_one h0 (by omega)] at hcv
    simp only [List.map_cons, List.map_nil, List.length_cons, List.length_nil, Nat.zero_add] at hcv
    have d2 : decide (55296 ≤ c) = false := by simp; omega
    clear hsur
    go_enter Tryz.func59, Tryz.ntmps59
    go_wp2
    go_ret2
    exact ⟨rfl, (Below.refl _ w).alloc (Nat.le_refl _) _⟩
  · have e1 : decide (c < 128) = false := by simp; omega
    by_cases k2 : c < 2048
    · rw [Lib.encodeRuneZ_two (by omega) (by omega)] at hcv
      simp only [List.map_cons, List.map_nil, List.length_cons, List.length_nil, Nat.zero_add, Nat.reduceAdd] at hcv
      have d2 : decide (55296 ≤ c) = false := by simp; omega
      clear hsur
      go_enter Tryz.func59, Tryz.ntmps59
      go_wp2
      go_ret2
      exact ⟨rfl, (Below.refl _ w).alloc (Nat.le_refl _) _⟩
    · have e2 : decide (c < 2048) = false := by simp; omega
      by_cases k3 : c < 65536
      · rw [Lib.encodeRuneZ_three (by omega)] at hcv
        simp only [List.map_cons, List.map_nil, List.length_cons, List.length_nil, Nat.zero_add, Nat.reduceAdd] at hcv
        rcases hsur with hs | hs
        · have d2 : decide (55296 ≤ c) = false := by simp; omega
          go_enter Tryz.func59, Tryz.ntmps59
          go_wp2
          go_ret2
          exact ⟨rfl, (Below.refl _ w).alloc (Nat.le_refl _) _⟩
        · have d2 : (55296 : Int) ≤ c := by omega
          have d3 : decide (c ≤ 57343) = false := by simp; omega
          go_enter Tryz.func59, Tryz.ntmps59
          go_wp2
          go_ret2
          exact ⟨rfl, (Below.refl _ w).alloc (Nat.le_refl _) _⟩
      · have e3 : decide (c < 65536) = false := by simp; omega
        rw [Lib.encodeRuneZ_four (by omega) (by omega)] at hcv
        simp only [List.map_cons, List.map_nil, List.length_cons, List.length_nil, Nat.zero_add, Nat.reduceAdd] at hcv
        have d2 : (55296 : Int) ≤ c := by omega
        have d3 : decide (c ≤ 57343) = false := by simp; omega
        clear hsur
        go_enter Tryz.func59, Tryz.ntmps59
        go_wp2
        go_ret2
        exact ⟨rfl, (Below.refl _ w).alloc (Nat.le_refl _) _⟩

/-- What the page's Encode answers. -/
def encS (c : Int) : ByteArray := if charB c then S (encodeRune c) else ⟨#[]⟩
def encE (c : Int) : Int := if charB c then 0 else 4
theorem rencode_c (c : Int) (w : World) :
    Calls Tryz.prog 59 #[.int .i64 c] w fun e w' => e = .returned (.tuple #[.string (encS c), .int .i64 (encE c)]) ∧ Kept w w' := by
  cases h : charB c with
  | true => unfold encS encE; rw [h]; exact rencode_yes c w h
  | false => unfold encS encE; rw [h]; exact rencode_no c w h

def sizeI (n : Int) : Int := if n < 128 then 1 else if 194 ≤ n ∧ n < 224 then 2 else if 224 ≤ n ∧ n < 240 then 3 else if 240 ≤ n ∧ n < 245 then 4 else 0
theorem sizeI_eq (n : Nat) : sizeI (n : Int) = (sizeN n : Nat) := by
  unfold sizeI sizeN
  repeat' split
  all_goals first | rfl | omega
theorem rsize_c (n : Int) (w : World) (h0 : 0 ≤ n) (h1 : n ≤ 255) :
    Calls Tryz.prog 58 #[.int .u8 n] w fun e w' => e = .returned (.int .i64 (sizeI n)) ∧ w = w' := by
  go_enter Tryz.func58, Tryz.ntmps58
  go_wp2
  all_goals go_ret
  all_goals (refine ⟨ret_int ?_, rfl⟩; unfold sizeI; repeat' split)
  all_goals first | rfl | omega
end Go.Proofs.YtganmmkdcaphfaaGreatDoor.Utf

/-
  Contract of the page's Decode.
-/
namespace Go.Proofs.YtganmmkdcaphfaaGreatDoor.Utf
open Go.RowKit Go.Proofs.YtganmmkdcaphfaaGreatDoor.Oct Go.Proofs.YtganmmkdcaphfaaGreatDoor.Mem
open Go.Lib (encodeRune encodeRuneZ)

theorem oct_at (s : ByteArray) (k : Nat) (h : k < s.size) : oct s.data.toList k = s[k].toNat := by
  unfold oct
  rw [at_eq s k h]; rfl

def maskI (n : Nat) : Int := if n = 1 then 127 else if n = 2 then 31 else if n = 3 then 15 else 7
theorem mask_all : ∀ (n : Fin 4) (b : Fin 256), bits .and .i64 ((b.val : Nat) : Int) (maskI (n.val + 1)) = ((b.val % partN (n.val + 1) : Nat) : Int) := by decide +kernel
theorem mask_eq (n b : Nat) (h1 : 1 ≤ n) (h4 : n ≤ 4) (hb : b < 256) : bits .and .i64 (b : Int) (maskI n) = ((b % partN n : Nat) : Int) := by
  have := mask_all ⟨n - 1, by omega⟩ ⟨b, hb⟩
  simp only at this
  rwa [show n - 1 + 1 = n by omega] at this

theorem cut_take (s : ByteArray) (n : Nat) : (s.extract 0 n).data.toList = s.data.toList.take n := by
  rw [Lib.extract_data, List.drop_zero, Nat.sub_zero]

theorem rdecode_nil (s : ByteArray) (hs : s.size = 0) (w : World) :
    Calls Tryz.prog 40 #[.string s] w fun e w' => e = .returned (.tuple #[.int .i64 (-1), .int .i64 0]) ∧ Kept w w' := by
  have hne : s.toList.isEmpty = true := by
    rw [Lib.toList_data, List.isEmpty_iff]
    exact List.eq_nil_of_length_eq_zero (by rw [size_list]; exact hs)
  have hne2 : s.toList = [] := List.isEmpty_iff.1 hne
  go_enter Tryz.func40, Tryz.ntmps40
  go_wp2
  go_ret2
  exact ⟨rfl, Below.refl _ _⟩

theorem rsize_at (s : ByteArray) (hs : 0 < s.size) (w : World) :
    Calls Tryz.prog 58 #[.int .u8 (s[0].toNat : Int)] w fun e w' => e = .returned (.int .i64 (sizeN (oct s.data.toList 0) : Nat)) ∧ w = w' := by
  rw [oct_at s 0 hs, ← sizeI_eq]
  exact rsize_c _ w (by omega) (by have := s[0].toNat_lt; omega)

theorem text_ne (s : ByteArray) (hs : 0 < s.size) : s.toList.isEmpty = false ∧ s.toList ≠ [] := by
  have hne : s.toList.isEmpty = false := by
    rw [Lib.toList_data]
    cases h : s.data.toList with
    | nil => have := size_list s; rw [h] at this; simp at this; omega
    | cons _ _ => rfl
  exact ⟨hne, by intro e; rw [e] at hne; simp at hne⟩

set_option maxHeartbeats 2000000 in
theorem rdecode_short (s : ByteArray) (hs : 0 < s.size) (_ : s.size ≤ 4611686018427387904) (w : World) (h : sizeN (oct s.data.toList 0) = 0 ∨ s.size < sizeN (oct s.data.toList 0)) :
    Calls Tryz.prog 40 #[.string s] w fun e w' => e = .returned (.tuple #[.int .i64 (-1), .int .i64 1]) ∧ Kept w w' := by
  obtain ⟨hne, hne2⟩ := text_ne s hs
  have hz := fun w => rsize_at s hs w
  have hle := sizeN_le (oct s.data.toList 0)
  generalize sizeN (oct s.data.toList 0) = n at h hle hz
  by_cases hn0 : n = 0
  · subst hn0
    clear h
    go_enter Tryz.func40, Tryz.ntmps40
    go_wp2_with (go_at_call 58; refine (hz _).mono ?_; rintro e w' ⟨rfl, rfl⟩)
    go_ret2
    exact ⟨rfl, Below.refl _ _⟩
  · have hlt : s.size < n := by omega
    have b0 : ((n : Int) == 0) = false := by simp; omega
    clear h
    go_enter Tryz.func40, Tryz.ntmps40
    go_wp2_with (go_at_call 58; refine (hz _).mono ?_; rintro e w' ⟨rfl, rfl⟩)
    go_ret2
    exact ⟨rfl, Below.refl _ _⟩

theorem mask_cell (w : World) (n : Nat) (h1 : 1 ≤ n) (h4 : n ≤ 4) : (w.alloc (.cells #[.int .i64 0, .int .i64 127, .int .i64 31, .int .i64 15, .int .i64 7] 3)).cell? ⟨w.heap.size, n, none⟩ = some (.int .i64 (maskI n)) := by
  unfold World.cell?
  rw [World.alloc_heap_new]
  match n, h1, h4 with
  | 1, _, _ => rfl
  | 2, _, _ => rfl
  | 3, _, _ => rfl
  | 4, _, _ => rfl

theorem partN_b (n : Nat) : 0 < partN n ∧ partN n ≤ 128 := by
  unfold partN
  repeat' split
  all_goals omega
theorem below_drewN {B : Nat} {a w : World} (h : Below B a w) : ∀ q, Below B a (w.drewN q)
  | 0 => h
  | q + 1 => (below_drewN h q).drew

set_option maxHeartbeats 4000000 in
set_option maxRecDepth 100000 in
theorem rdecode_main (s : ByteArray) (hm : s.size ≤ 4611686018427387904) (w : World) (n : Nat) (hn : n = sizeN (oct s.data.toList 0)) (h1 : 1 ≤ n) (hns : n ≤ s.size) :
    Calls Tryz.prog 40 #[.string s] w fun e w' => e = .returned (.tuple #[.int .i64 (dec s.data.toList).1, .int .i64 ((dec s.data.toList).2 : Nat)]) ∧ Kept w w' := by
  have hs : 0 < s.size := by omega
  obtain ⟨hne, hne2⟩ := text_ne s hs
  have hz := fun w => rsize_at s hs w
  have h4 : n ≤ 4 := by rw [hn]; exact sizeN_le _
  rw [← hn] at hz
  have hlne : s.data.toList ≠ [] := by intro e; have := size_list s; rw [e] at this; simp at this; omega
  have b0 : ((n : Int) == 0) = false := by simp; omega
  have b1 : decide (s.size < n) = false := by simp; omega
  have hcell := mask_cell w n h1 h4
  have hand := mask_eq n s[0].toNat h1 h4 s[0].toNat_lt
  have HN := Lib.hid hn
  clear hn
  obtain ⟨mk, hmk⟩ : ∃ mk, mk = maskI n := ⟨_, rfl⟩
  rw [← hmk] at hcell hand
  clear hmk
  go_enter Tryz.func40, Tryz.ntmps40
  go_wp2_with (go_at_call 58; refine (hz _).mono ?_; rintro e w' ⟨rfl, rfl⟩)
  go_quiet (fail)
  rename_i nq _
  have hk0 : Kept w ((w.alloc (.cells #[.int .i64 0, .int .i64 127, .int .i64 31, .int .i64 15, .int .i64 7] 3)).drewN nq) := below_drewN ((Below.refl _ w).alloc (Nat.le_refl _) _) nq
  have HK0 := Lib.hid hk0
  have HA : Hid (bits .and .i64 (wrap64 (s[0].toNat : Int)) mk = runV s.data.toList (partN n) 0) := by
    show _ = _
    rw [IntWalk.wrap64_in _ (by have := s[0].toNat_lt; omega), hand]
    unfold runV
    rw [oct_at s 0 hs]
  clear hcell hand hk0 hz hne hne2 b1
  go_wp2
  go_loop [6, 7] (fun c i => ∃ k : Nat, 1 ≤ k ∧ k ≤ n ∧ i = .int .i64 (k : Int) ∧ c = .int .i64 (runV s.data.toList (partN n) (k - 1)) ∧ Hid (∀ j, 1 ≤ j → j < k → 128 ≤ oct s.data.toList j ∧ oct s.data.toList j ≤ 191)) (fun _ i => n - (intOf i).toNat)
  case atStart => exact ⟨1, Nat.le_refl _, h1, rfl, by rw [HA.out], fun j hj1 hj2 => absurd hj1 (by omega)⟩
  case round =>
    obtain ⟨k, hk1, hk2, rfl, rfl, hcont⟩ := hrel
    have hbd := runV_bound s.data.toList (partN n) (partN_b n).1 (partN_b n).2 (k - 1) (by omega) (fun j hj1 hj2 => hcont.out j hj1 (by omega))
    by_cases hlt : k < n
    · have hks : k < s.size := by omega
      have ho := oct_at s k hks
      have hb : (s[k].toNat : Int) ≤ 255 := by have := s[k].toNat_lt; omega
      rcases (show (s[k].toNat : Int) < 128 ∨ 191 < (s[k].toNat : Int) ∨ (128 ≤ (s[k].toNat : Int) ∧ (s[k].toNat : Int) ≤ 191) by omega) with hx | hx | ⟨hx1, hx2⟩
      · have E := Lib.hid (dec_broken s.data.toList hlne k hk1 (by rw [← HN.out]; exact hlt) (by rw [ho]; omega))
        clear ho
        go_wp2
        go_ret2
        rw [E.out]
        exact ⟨rfl, HK0.out⟩
      · have E := Lib.hid (dec_broken s.data.toList hlne k hk1 (by rw [← HN.out]; exact hlt) (by rw [ho]; omega))
        have d1 : decide ((s[k].toNat : Int) < 128) = false := by simp; omega
        clear ho
        go_wp2
        go_ret2
        rw [E.out]
        exact ⟨rfl, HK0.out⟩
      · have d1 : decide ((s[k].toNat : Int) < 128) = false := by simp; omega
        have d2 : decide (191 < (s[k].toNat : Int)) = false := by simp; omega
        have E : Hid (runV s.data.toList (partN n) (k - 1) * 64 + (s[k].toNat : Int) - 128 = runV s.data.toList (partN n) k) := by
          show _ = _
          obtain ⟨k', rfl⟩ : ∃ k', k = k' + 1 := ⟨k - 1, by omega⟩
          rw [Nat.add_sub_cancel]
          show _ = runV s.data.toList (partN n) k' * 64 + (oct s.data.toList (k' + 1) : Int) - 128
          rw [ho]
        have HC : Hid (∀ j, 1 ≤ j → j < k + 1 → 128 ≤ oct s.data.toList j ∧ oct s.data.toList j ≤ 191) := fun j hj1 hj2 => by
          by_cases e : j = k
          · subst e; rw [ho]; omega
          · exact hcont.out j hj1 (by omega)
        clear ho
        go_wp2
        go_round
        case rel => exact ⟨k + 1, by omega, by omega, by go_num, by rw [Nat.add_sub_cancel, ← E.out], HC⟩
        case measure => simp [intOf]; omega
    · obtain rfl : k = n := by omega
      clear hcont hlt
      have hno := dec_no s.data.toList hlne
      rw [← HN.out] at hno
      have hyes := fun hc h => dec_yes s.data.toList (runV s.data.toList (partN k) (k - 1)) hc (by rw [← HN.out]; exact h)
      rw [← HN.out] at hyes
      have HNO := Lib.hid hno
      have HYES := Lib.hid hyes
      clear hno hyes
      generalize runV s.data.toList (partN k) (k - 1) = v at hbd HNO HYES
      cases hc : charB v with
      | false =>
        have henc := fun w => rencode_no v w hc
        have E := Lib.hid (HNO.out (fun h => of_decide_eq_false hc h.1))
        clear HNO HYES hc
        go_wp2_with fail
        refine (henc _).mono ?_
        rintro e w1 ⟨rfl, hb1⟩
        have HB := Lib.hid (kept_trans HK0.out hb1)
        clear hb1 henc
        go_wp2
        go_ret2
        rw [E.out]
        exact ⟨rfl, HB.out⟩
      | true =>
        have henc := fun w => rencode_yes v w hc
        obtain ⟨t, ht⟩ : ∃ t, t = S (encodeRune v) := ⟨_, rfl⟩
        rw [← ht] at henc
        by_cases heq : s.data.toList.take k = encodeRune v
        · have E := Lib.hid (HYES.out (of_decide_eq_true hc) heq)
          have q1 : (t.toList == (s.extract 0 k).toList) = true := by
            rw [str_beq, decide_eq_true_eq, ht, ← S_list (s.extract 0 k), cut_take, heq]
          have q2 : (t.toList != (s.extract 0 k).toList) = false := by rw [bne, q1]; rfl
          clear HNO HYES hc heq ht
          go_wp2_with fail
          refine (henc _).mono ?_
          rintro e w1 ⟨rfl, hb1⟩
          have HB := Lib.hid (kept_trans HK0.out hb1)
          clear hb1 henc
          go_wp2
          go_ret2
          rw [E.out]
          exact ⟨rfl, HB.out⟩
        · have E := Lib.hid (HNO.out (fun h => heq h.2))
          have q1 : (t.toList == (s.extract 0 k).toList) = false := by
            rw [str_beq, decide_eq_false_iff_not, ht]
            intro e; apply heq; rw [← cut_take, ← e, list_S]
          have q2 : (t.toList != (s.extract 0 k).toList) = true := by rw [bne, q1]; rfl
          clear HNO HYES hc heq ht
          go_wp2_with fail
          refine (henc _).mono ?_
          rintro e w1 ⟨rfl, hb1⟩
          have HB := Lib.hid (kept_trans HK0.out hb1)
          clear hb1 henc
          go_wp2
          go_ret2
          rw [E.out]
          exact ⟨rfl, HB.out⟩

theorem rdecode_c (s : ByteArray) (hm : s.size ≤ 4611686018427387904) (w : World) :
    Calls Tryz.prog 40 #[.string s] w fun e w' => e = .returned (.tuple #[.int .i64 (dec s.data.toList).1, .int .i64 ((dec s.data.toList).2 : Nat)]) ∧ Kept w w' := by
  by_cases h0 : s.size = 0
  · have hl : s.data.toList = [] := List.eq_nil_of_length_eq_zero (by rw [size_list]; exact h0)
    rw [hl, dec_nil]
    exact rdecode_nil s h0 w
  · have hl : s.data.toList ≠ [] := by intro e; apply h0; rw [← size_list, e]; rfl
    by_cases h : sizeN (oct s.data.toList 0) = 0 ∨ s.size < sizeN (oct s.data.toList 0)
    · rw [dec_short s.data.toList hl (by rw [size_list]; exact h)]
      exact rdecode_short s (by omega) hm w h
    · exact rdecode_main s hm w _ rfl (by omega) (by omega)
end Go.Proofs.YtganmmkdcaphfaaGreatDoor.Utf

/-
  Contract of the page's Chars: the characters of a text, as they are repaired, in a list of its own.
-/
namespace Go.Proofs.YtganmmkdcaphfaaGreatDoor.Utf
open Go.RowKit Go.Proofs.YtganmmkdcaphfaaGreatDoor.Oct Go.Proofs.YtganmmkdcaphfaaGreatDoor.Mem
open Go.Lib (encodeRune encodeRuneZ)

theorem chars_step (l : List UInt8) (hl : l ≠ []) : chars l = fix (dec l).1 :: chars (l.drop (dec l).2) := by
  unfold chars
  rw [parts_step l hl, List.map_cons]
theorem chars_nil : chars [] = [] := rfl
theorem drop_ne (s : ByteArray) (a : Nat) (h : a < s.size) : s.data.toList.drop a ≠ [] := by
  intro e; have := congrArg List.length e; rw [List.length_drop, size_list] at this; simp at this; omega
theorem drop_nil (s : ByteArray) (a : Nat) (h : s.size ≤ a) : s.data.toList.drop a = [] := List.drop_eq_nil_of_le (by rw [size_list]; exact h)

theorem fix_low {c : Int} (h : c = -1 ∨ isChar c) (hc : c ≤ 0) : fix c = 65533 := by
  unfold fix; rw [if_pos]; unfold isChar at h; omega
theorem fix_high {c : Int} (hc : 0 < c) : fix c = c := by
  unfold fix; rw [if_neg]; omega

set_option maxHeartbeats 4000000 in
theorem rchars_c (s : ByteArray) (hs : s.size ≤ 17592186044416) (w : World) :
    Calls Tryz.prog 22 #[.string s] w fun e w' => ∃ v, e = .returned v ∧ w'.ownsRow w.heap.size 3 1 v (chars s.data.toList).length ((chars s.data.toList).map iv) ∧ Kept w w' := by
  obtain ⟨i0, hi, hz0, hz1, hz2⟩ := info_parts info_int
  go_enter Tryz.func22, Tryz.ntmps22
  go_wp2
  go_loopw [3, 4, 5, 6] (fun v i _ _ wr => ∃ (a n : Nat) (pre : List Int), a ≤ s.size ∧ n ≤ a ∧ i = .int .i64 a ∧ Hid (pre ++ chars (s.data.toList.drop a) = chars s.data.toList) ∧ Hid (wr.ownsRow w.heap.size 3 1 v n (pre.map iv)) ∧ Hid (Kept w wr)) (fun _ i _ _ _ => s.size - (intOf i).toNat)
  case atStart => exact ⟨0, 0, [], Nat.zero_le _, Nat.le_refl _, rfl, rfl, World.ownsRow_nil _ _ _ _, Below.refl _ _⟩
  case round =>
    obtain ⟨a, n, pre, ha, hna, rfl, hv, hrow, hb⟩ := hrel
    by_cases hlt : a < s.size
    · have hsz : (s.extract a s.size).size ≤ 4611686018427387904 := by rw [← size_list, cut_list, List.length_drop, size_list]; omega
      have hd := rdecode_c (s.extract a s.size) hsz wr
      rw [cut_list] at hd
      have hne := drop_ne s a hlt
      have hw := dec_width _ hne
      rw [List.length_drop, size_list] at hw
      have hc := dec_char _ hne
      have hst := Lib.hid (chars_step _ hne)
      rw [List.drop_drop] at hst
      clear hne hsz
      generalize dec (s.data.toList.drop a) = d at hd hw hc hst
      obtain ⟨c, k⟩ := d
      simp only at hd hw hc
      have hst' : Hid (chars (s.data.toList.drop a) = fix c :: chars (s.data.toList.drop (a + k))) := hst
      clear hst
      have HC := Lib.hid hc
      clear hc
      go_wp2_with fail
      refine hd.mono ?_
      rintro e w1 ⟨rfl, hb1⟩
      have HB1 := Lib.hid (kept_trans hb.out hb1)
      have HR1 : Hid (w1.ownsRow w.heap.size 3 1 _ n (pre.map iv)) := own_kept hrow.out hb1
      have hB : w.heap.size ≤ w1.heap.size := HB1.out.size
      clear hb1 hd hb hrow
      by_cases hc0 : c ≤ 0
      · have hfx := Lib.hid (fix_low HC.out hc0)
        go_wp2_with (at_builtin; refine wpList_append_own _ rfl _ _ 41 rfl w.heap.size 3 i0 (.int .i64 0) 1 8 Tryz.underlying41 hi hz0 hz1 hz2 rfl (by decide) _ _ _ rfl (HR1.out.alloc _) ⟨w1.heap.size, 0, none⟩ 1 1 [iv 65533] rfl rfl (cell_one_new _ _ _) (by simp [Value.oneCell']) (by unfold maxLen; omega) (by omega) (by simp; omega) ?_)
        intro v' w2 hown hg _
        have HO := Lib.hid hown
        have HB2 : Hid (Kept w w2) := (HB1.out.alloc hB _).grown hg (by simp; omega) (own_base HR1.out)
        clear hown hg HR1 HB1
        go_wp2
        go_roundw
        case rel =>
          refine ⟨a + k, n + 1, pre ++ [65533], by omega, by omega, by go_num, ?_, ?_, HB2⟩
          · show _ = _
            rw [← hv.out, hst'.out, hfx.out]; simp
          · show World.ownsRow _ _ _ _ _ _ _
            rw [List.map_append]; exact HO.out
        case measure => simp [intOf]; omega
      · have hc1 : 0 < c := by omega
        have hfx := Lib.hid (fix_high hc1)
        have d0 : decide (c ≤ 0) = false := by simp; omega
        go_wp2_with (at_builtin; refine wpList_append_own _ rfl _ _ 41 rfl w.heap.size 3 i0 (.int .i64 0) 1 8 Tryz.underlying41 hi hz0 hz1 hz2 rfl (by decide) _ _ _ rfl (HR1.out.alloc _) ⟨w1.heap.size, 0, none⟩ 1 1 [iv c] rfl rfl (cell_one_new _ _ _) (by simp [Value.oneCell']) (by unfold maxLen; omega) (by omega) (by simp; omega) ?_)
        intro v' w2 hown hg _
        have HO := Lib.hid hown
        have HB2 : Hid (Kept w w2) := (HB1.out.alloc hB _).grown hg (by simp; omega) (own_base HR1.out)
        clear hown hg HR1 HB1
        go_wp2
        go_roundw
        case rel =>
          refine ⟨a + k, n + 1, pre ++ [c], by omega, by omega, by go_num, ?_, ?_, HB2⟩
          · show _ = _
            rw [← hv.out, hst'.out, hfx.out]; simp
          · show World.ownsRow _ _ _ _ _ _ _
            rw [List.map_append]; exact HO.out
        case measure => simp [intOf]; omega
    · have hfin : Hid (pre = chars s.data.toList) := by
        show _ = _
        rw [← hv.out, drop_nil s a (by omega), chars_nil, List.append_nil]
      go_wp2
      go_ret
      refine ⟨_, rfl, ?_, hb.out⟩
      have hr := hrow.out
      have hn : pre.length = n := by simpa using hr.1
      rw [← hfin.out, hn]
      exact hr
end Go.Proofs.YtganmmkdcaphfaaGreatDoor.Utf
