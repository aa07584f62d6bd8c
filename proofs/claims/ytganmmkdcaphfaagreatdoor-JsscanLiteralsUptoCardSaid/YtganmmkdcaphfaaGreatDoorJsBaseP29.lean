/-
  Part 29: LitRecord, LitAll, LitPlain, PgName.
-/
import Derived.Test.YtganmmkdcaphfaaGreatDoorJsBaseP28
import Derived.Test.YtganmmkdcaphfaaGreatDoorJsBaseP6
import Derived.Lib.Hide
/-
  Contract of the page's Literal at a record.
-/
namespace Go.Proofs.YtganmmkdcaphfaaGreatDoor.Lit
open Go.RowKit Go.Proofs.YtganmmkdcaphfaaGreatDoor.Oct Go.Proofs.YtganmmkdcaphfaaGreatDoor.Num Go.Proofs.YtganmmkdcaphfaaGreatDoor.Utf Go.Proofs.YtganmmkdcaphfaaGreatDoor.Val Go.Proofs.YtganmmkdcaphfaaGreatDoor.Mem

set_option maxHeartbeats 8000000 in
set_option maxRecDepth 100000 in
theorem rlit_6 (n : Int) (s : ByteArray) (p : Option Addr) (cap : Nat) (q : Option Addr) (qc : Nat) (l : List V) (ks : List ByteArray) (bl off qb qo : Nat) (k1 n1 : Nat → Int) (s1 : Nat → ByteArray) (p1 q1 : Nat → Option Addr) (a1 b1 c1 d1 : Nat → Nat) (W : World)
    (hlen : (joinK true ks (litAll l) (litAll l).length).length ≤ 4398046511104) (hl80 : l.length * 80 ≤ 140737488351232) (hk16 : ks.length * 16 ≤ 140737488351232)
    (hp : 0 < l.length → p = some ⟨bl, off, none⟩ ∧ bl < W.heap.size) (hq : 0 < ks.length → q = some ⟨qb, qo, none⟩ ∧ qb < W.heap.size)
    (hc : ∀ i, i < l.length → W.cell? ⟨bl, off + i * 5, none⟩ = some (.int .i64 (k1 i)) ∧ W.cell? ⟨bl, off + i * 5 + 1, none⟩ = some (.int .i64 (n1 i)) ∧ W.cell? ⟨bl, off + i * 5 + 2, none⟩ = some (.string (s1 i)) ∧ W.cell? ⟨bl, off + i * 5 + 3, none⟩ = some (.slice (p1 i) (a1 i) (b1 i)) ∧ W.cell? ⟨bl, off + i * 5 + 4, none⟩ = some (.slice (q1 i) (c1 i) (d1 i)))
    (hcq : ∀ i (h : i < ks.length), W.cell? ⟨qb, qo + i, none⟩ = some (.string ks[i]))
    (ih : ∀ i (h : i < l.length) (X : World), Below W.heap.size W X → (litL l[i]).length ≤ 4398046511104 → Calls Tryz.prog 9 #[.agg #[.int .i64 (k1 i), .int .i64 (n1 i), .string (s1 i), .slice (p1 i) (a1 i) (b1 i), .slice (q1 i) (c1 i) (d1 i)]] X fun e X' => e = .returned (.string (S (litL l[i]))) ∧ Kept X X') :
    Calls Tryz.prog 9 #[.agg #[.int .i64 6, .int .i64 n, .string s, .slice p l.length cap, .slice q ks.length qc]] W fun e W' => e = .returned (.string (S (brackL 123 125 (joinK true ks (litAll l) (litAll l).length)))) ∧ Kept W W' := by
  have B0 : Below W.heap.size W (W.alloc (.cells #[.int .i64 6, .int .i64 n, .string s, .slice p l.length cap, .slice q ks.length qc] 25)) := (Below.refl _ W).alloc (Nat.le_refl _) _
  obtain ⟨W1, hW1⟩ : ∃ W1, W1 = W.alloc (.cells #[.int .i64 6, .int .i64 n, .string s, .slice p l.length cap, .slice q ks.length qc] 25) := ⟨_, rfl⟩
  have HBX : Hid (∀ X, Kept W1 X → X.cell? ⟨W.heap.size, 0, none⟩ = some (.int .i64 6) ∧ X.cell? ⟨W.heap.size, 1, none⟩ = some (.int .i64 n) ∧ X.cell? ⟨W.heap.size, 2, none⟩ = some (.string s) ∧ X.cell? ⟨W.heap.size, 3, none⟩ = some (.slice p l.length cap) ∧ X.cell? ⟨W.heap.size, 4, none⟩ = some (.slice q ks.length qc)) := fun X hX => by
    have e : X.heap[W.heap.size]? = some (.cells #[.int .i64 6, .int .i64 n, .string s, .slice p l.length cap, .slice q ks.length qc] 25 (0, 0)) := (hX.block _ (by rw [hW1]; simp)).trans (by rw [hW1]; exact heap_alloc_new W _)
    exact ⟨cell_of_row X _ 0 _ _ _ e, cell_of_row X _ 1 _ _ _ e, cell_of_row X _ 2 _ _ _ e, cell_of_row X _ 3 _ _ _ e, cell_of_row X _ 4 _ _ _ e⟩
  have hWX : ∀ X, Kept W1 X → Below W.heap.size W X := fun X hX => (hW1 ▸ B0).trans (hX.mono (by rw [hW1]; simp))
  have HE : Hid (∀ X, Kept W1 X → ∀ j (h : j < l.length), (litL l[j]).length ≤ 4398046511104 →
      (X.cell? ⟨bl, off + j * 5, none⟩ = some (.int .i64 (k1 j)) ∧ X.cell? ⟨bl, off + j * 5 + 1, none⟩ = some (.int .i64 (n1 j)) ∧ X.cell? ⟨bl, off + j * 5 + 2, none⟩ = some (.string (s1 j)) ∧ X.cell? ⟨bl, off + j * 5 + 3, none⟩ = some (.slice (p1 j) (a1 j) (b1 j)) ∧ X.cell? ⟨bl, off + j * 5 + 4, none⟩ = some (.slice (q1 j) (c1 j) (d1 j))) ∧
      Calls Tryz.prog 9 #[.agg #[.int .i64 (k1 j), .int .i64 (n1 j), .string (s1 j), .slice (p1 j) (a1 j) (b1 j), .slice (q1 j) (c1 j) (d1 j)]] X fun e X' => e = .returned (.string (S (litL l[j]))) ∧ Kept X X') := fun X hX j h hz => by
    have e : ∀ o, X.cell? ⟨bl, o, none⟩ = W.cell? ⟨bl, o, none⟩ := fun o => (hWX X hX).cell (p := ⟨bl, o, none⟩) (hp (by omega)).2
    rw [e, e, e, e, e]
    exact ⟨hc j h, ih j h X (hWX X hX) hz⟩
  have HK : Hid (∀ X, Kept W1 X → ∀ j (h : j < ks.length), (quoteL ks[j]).length ≤ 4398046511104 → X.cell? ⟨qb, qo + j, none⟩ = some (.string ks[j]) ∧ Calls Tryz.prog 16 #[.string ks[j]] X fun e w' => e = .returned (.string (S (quoteL ks[j]))) ∧ Kept X w') := fun X hX j h hz =>
    ⟨((hWX X hX).cell (p := ⟨qb, qo + j, none⟩) (hq (by omega)).2).trans (hcq j h), quote_c ks[j] X hz⟩
  have HP := Lib.hid hp
  have HQ := Lib.hid hq
  have HW := Lib.hid hWX
  clear hp hq hc hcq ih hWX
  go_enter Tryz.func9, Tryz.ntmps9
  go_wp2_with fail
  rw [← hW1]
  clear hW1 B0
  go_loopw [3, 4] (fun o i wr => ∃ j : Nat, j ≤ l.length ∧ o = .string (S (joinK true ks (litAll l) j)) ∧ i = .int .i64 j ∧ Hid (Kept W1 wr)) (fun _ i _ => l.length - (intOf i).toNat)
  case atStart => exact ⟨0, Nat.zero_le _, rfl, rfl, Below.refl _ _⟩
  case round =>
    obtain ⟨j, hj, rfl, rfl, hb⟩ := hrel
    by_cases hlt : j < l.length
    · by_cases hj0 : j = 0
      · by_cases hky : j < ks.length
        · have F : Hid (S (joinK true ks (litAll l) j) ++ S (quoteL ks[j]) ++ (⟨#[58]⟩ : ByteArray) ++ S (litL l[j]) = S (joinK true ks (litAll l) (j + 1))) := by
            show _ = _
            rw [join_step _ ks l hlt, if_pos hj0, key_some hky]
            simp only [show (⟨#[58]⟩ : ByteArray) = S [58] from rfl, S_append]
            simp
          have hi3 := join_item true ks l hlt
          have ho : (S (joinK true ks (litAll l) j)).size ≤ 4398046511104 := by rw [size_S]; omega
          have hi : (S (litL l[j])).size ≤ 4398046511104 := by rw [size_S]; omega
          have hkl : (quoteL ks[j]).length ≤ 4398046511104 := by have := hi3.2.1; rw [key_some hky, List.length_append] at this; omega
          have hkz : (S (quoteL ks[j])).size ≤ 4398046511104 := by rw [size_S]; exact hkl
          obtain ⟨y4, kq⟩ := HK.out wr hb.out j hky hkl
          obtain ⟨rfl, -⟩ := HQ.out (by omega)
          have HI := Lib.hid (fun Y (hY : Kept wr Y) => HE.out Y (kept_trans hb.out hY) j hlt (by omega))
          generalize S (quoteL ks[j]) = kx at F kq hkz
          generalize ks[j] = key at kq y4
          obtain ⟨rfl, -⟩ := HP.out (by omega)
          obtain ⟨x0, -, -, x3, x4⟩ := HBX.out wr hb.out
          have h1 : (0 : Int) ≤ (j : Int) := by omega
          have h2 : (j : Int) < (l.length : Int) := by omega
          have hj1 : j = 0 := by omega
          have hky2 : (j : Int) < (ks.length : Int) := by omega
          generalize S (litL l[j]) = x at F hi HI
          generalize S (joinK true ks (litAll l) j) = o at F ho
          have s1 : (⟨#[44]⟩ : ByteArray).size = 1 := rfl
          have s2 : (⟨#[58]⟩ : ByteArray).size = 1 := rfl
          clear hi3
          subst hj1
          rw [Nat.add_zero] at y4
          go_wp2_with (first | (go_at_call 16; refine kq.mono ?_; rintro e Y ⟨rfl, hY⟩; obtain ⟨⟨e0, e1, e2, e3, e4⟩, hcall⟩ := HI.out Y hY; rw [Nat.zero_mul, Nat.add_zero] at e0 e1 e2 e3 e4; obtain ⟨-, -, -, z3, -⟩ := HBX.out Y (kept_trans hb.out hY); have HY := Lib.hid hY; clear hY) | (go_at_call 9; refine hcall.mono ?_; rintro e Z ⟨rfl, hZ⟩))
          go_roundw
          case rel => exact ⟨0 + 1, by omega, congrArg Value.string F.out, by go_num, kept_trans hb.out (kept_trans HY.out hZ)⟩
          case measure => simp [intOf]; omega
        · have F : Hid (S (joinK true ks (litAll l) j) ++ S (litL l[j]) = S (joinK true ks (litAll l) (j + 1))) := by
            show _ = _
            rw [join_step _ ks l hlt, if_pos hj0, key_none (by omega)]
            simp only [S_append]
            simp
          have hi3 := join_item true ks l hlt
          have ho : (S (joinK true ks (litAll l) j)).size ≤ 4398046511104 := by rw [size_S]; omega
          have hi : (S (litL l[j])).size ≤ 4398046511104 := by rw [size_S]; omega
          obtain ⟨⟨e0, e1, e2, e3, e4⟩, hcall⟩ := HE.out wr hb.out j hlt (by omega)
          obtain ⟨rfl, -⟩ := HP.out (by omega)
          obtain ⟨x0, -, -, x3, x4⟩ := HBX.out wr hb.out
          have h1 : (0 : Int) ≤ (j : Int) := by omega
          have h2 : (j : Int) < (l.length : Int) := by omega
          have hj1 : j = 0 := by omega
          have hky2 : decide ((j : Int) < (ks.length : Int)) = false := by simp; omega
          generalize S (litL l[j]) = x at F hi hcall
          generalize S (joinK true ks (litAll l) j) = o at F ho
          have s1 : (⟨#[44]⟩ : ByteArray).size = 1 := rfl
          have s2 : (⟨#[58]⟩ : ByteArray).size = 1 := rfl
          clear hi3
          subst hj1
          rw [Nat.zero_mul, Nat.add_zero] at e0 e1 e2 e3 e4
          go_wp2_with (go_at_call 9; refine hcall.mono ?_; rintro e Z ⟨rfl, hZ⟩)
          go_roundw
          case rel => exact ⟨0 + 1, by omega, congrArg Value.string F.out, by go_num, kept_trans hb.out hZ⟩
          case measure => simp [intOf]; omega
      · by_cases hky : j < ks.length
        · have F : Hid (S (joinK true ks (litAll l) j) ++ (⟨#[44]⟩ : ByteArray) ++ S (quoteL ks[j]) ++ (⟨#[58]⟩ : ByteArray) ++ S (litL l[j]) = S (joinK true ks (litAll l) (j + 1))) := by
            show _ = _
            rw [join_step _ ks l hlt, if_neg hj0, key_some hky]
            simp only [show (⟨#[44]⟩ : ByteArray) = S [44] from rfl, show (⟨#[58]⟩ : ByteArray) = S [58] from rfl, S_append]
            simp
          have hi3 := join_item true ks l hlt
          have ho : (S (joinK true ks (litAll l) j)).size ≤ 4398046511104 := by rw [size_S]; omega
          have hi : (S (litL l[j])).size ≤ 4398046511104 := by rw [size_S]; omega
          have hkl : (quoteL ks[j]).length ≤ 4398046511104 := by have := hi3.2.1; rw [key_some hky, List.length_append] at this; omega
          have hkz : (S (quoteL ks[j])).size ≤ 4398046511104 := by rw [size_S]; exact hkl
          obtain ⟨y4, kq⟩ := HK.out wr hb.out j hky hkl
          obtain ⟨rfl, -⟩ := HQ.out (by omega)
          have HI := Lib.hid (fun Y (hY : Kept wr Y) => HE.out Y (kept_trans hb.out hY) j hlt (by omega))
          generalize S (quoteL ks[j]) = kx at F kq hkz
          generalize ks[j] = key at kq y4
          obtain ⟨rfl, -⟩ := HP.out (by omega)
          obtain ⟨x0, -, -, x3, x4⟩ := HBX.out wr hb.out
          have h1 : (0 : Int) ≤ (j : Int) := by omega
          have h2 : (j : Int) < (l.length : Int) := by omega
          have hj1 : (0 : Int) < (j : Int) := by omega
          have hky2 : (j : Int) < (ks.length : Int) := by omega
          generalize S (litL l[j]) = x at F hi HI
          generalize S (joinK true ks (litAll l) j) = o at F ho
          have s1 : (⟨#[44]⟩ : ByteArray).size = 1 := rfl
          have s2 : (⟨#[58]⟩ : ByteArray).size = 1 := rfl
          clear hi3
          go_wp2_with (first | (go_at_call 16; refine kq.mono ?_; rintro e Y ⟨rfl, hY⟩; obtain ⟨⟨e0, e1, e2, e3, e4⟩, hcall⟩ := HI.out Y hY; obtain ⟨-, -, -, z3, -⟩ := HBX.out Y (kept_trans hb.out hY); have HY := Lib.hid hY; clear hY) | (go_at_call 9; refine hcall.mono ?_; rintro e Z ⟨rfl, hZ⟩))
          go_roundw
          case rel => exact ⟨j + 1, by omega, congrArg Value.string F.out, by go_num, kept_trans hb.out (kept_trans HY.out hZ)⟩
          case measure => simp [intOf]; omega
        · have F : Hid (S (joinK true ks (litAll l) j) ++ (⟨#[44]⟩ : ByteArray) ++ S (litL l[j]) = S (joinK true ks (litAll l) (j + 1))) := by
            show _ = _
            rw [join_step _ ks l hlt, if_neg hj0, key_none (by omega)]
            simp only [show (⟨#[44]⟩ : ByteArray) = S [44] from rfl, S_append]
            simp
          have hi3 := join_item true ks l hlt
          have ho : (S (joinK true ks (litAll l) j)).size ≤ 4398046511104 := by rw [size_S]; omega
          have hi : (S (litL l[j])).size ≤ 4398046511104 := by rw [size_S]; omega
          obtain ⟨⟨e0, e1, e2, e3, e4⟩, hcall⟩ := HE.out wr hb.out j hlt (by omega)
          obtain ⟨rfl, -⟩ := HP.out (by omega)
          obtain ⟨x0, -, -, x3, x4⟩ := HBX.out wr hb.out
          have h1 : (0 : Int) ≤ (j : Int) := by omega
          have h2 : (j : Int) < (l.length : Int) := by omega
          have hj1 : (0 : Int) < (j : Int) := by omega
          have hky2 : decide ((j : Int) < (ks.length : Int)) = false := by simp; omega
          generalize S (litL l[j]) = x at F hi hcall
          generalize S (joinK true ks (litAll l) j) = o at F ho
          have s1 : (⟨#[44]⟩ : ByteArray).size = 1 := rfl
          have s2 : (⟨#[58]⟩ : ByteArray).size = 1 := rfl
          clear hi3
          go_wp2_with (go_at_call 9; refine hcall.mono ?_; rintro e Z ⟨rfl, hZ⟩)
          go_roundw
          case rel => exact ⟨j + 1, by omega, congrArg Value.string F.out, by go_num, kept_trans hb.out hZ⟩
          case measure => simp [intOf]; omega
    · have hjl : j = l.length := by omega
      subst hjl
      obtain ⟨x0, -, -, x3, x4⟩ := HBX.out wr hb.out
      have F : Hid ((⟨#[123]⟩ : ByteArray) ++ S (joinK true ks (litAll l) l.length) ++ (⟨#[125]⟩ : ByteArray) = S (brackL 123 125 (joinK true ks (litAll l) (litAll l).length))) := by
        show _ = _
        rw [litAll_len, show (⟨#[123]⟩ : ByteArray) = S [123] from rfl, show (⟨#[125]⟩ : ByteArray) = S [125] from rfl, S_append, S_append]; rfl
      have ho : (S (joinK true ks (litAll l) l.length)).size ≤ 4398046511104 := by rw [size_S]; rw [litAll_len] at hlen; exact hlen
      generalize S (joinK true ks (litAll l) l.length) = o at F ho
      have s1 : (⟨#[123]⟩ : ByteArray).size = 1 := rfl
      have s2 : (⟨#[125]⟩ : ByteArray).size = 1 := rfl
      go_wp2
      go_ret
      exact ⟨by rw [← F.out]; rfl, HW.out wr hb.out⟩
end Go.Proofs.YtganmmkdcaphfaaGreatDoor.Lit

/-
  Contracts of the page's Literal and Plain at every value that reads as a tree.
-/
namespace Go.Proofs.YtganmmkdcaphfaaGreatDoor.Lit
open Go.RowKit Go.Proofs.YtganmmkdcaphfaaGreatDoor.Oct Go.Proofs.YtganmmkdcaphfaaGreatDoor.Num Go.Proofs.YtganmmkdcaphfaaGreatDoor.Utf Go.Proofs.YtganmmkdcaphfaaGreatDoor.Val Go.Proofs.YtganmmkdcaphfaaGreatDoor.Mem

def gI : Value → Int
  | .int _ k => k
  | _ => 0
def gS : Value → ByteArray
  | .string s => s
  | _ => ⟨#[]⟩
def gP : Value → Option Addr
  | .slice p _ _ => p
  | _ => none
def gA : Value → Nat
  | .slice _ a _ => a
  | _ => 0
def gB : Value → Nat
  | .slice _ _ b => b
  | _ => 0
theorem forms {C : Cond} {w : World} {u0 u1 u2 u3 u4 : Value} {x : V} (h : Holds C w (.agg #[u0, u1, u2, u3, u4]) x) : u0 = .int .i64 (gI u0) ∧ u1 = .int .i64 (gI u1) ∧ u2 = .string (gS u2) ∧ u3 = .slice (gP u3) (gA u3) (gB u3) ∧ u4 = .slice (gP u4) (gA u4) (gB u4) := by
  obtain ⟨k, n, s, p, a, b, q, c, d, rfl, rfl, rfl, rfl, rfl⟩ := parts5 h
  exact ⟨rfl, rfl, rfl, rfl, rfl⟩

set_option maxHeartbeats 4000000 in
set_option maxRecDepth 100000 in
theorem rlit_c (N : Nat) (w : World) {a : Value} {x : V} (ha : Holds (Old N) w a x) : ∀ (W : World), N ≤ W.heap.size → Below N w W → (litL x).length ≤ 4398046511104 →
    Calls Tryz.prog 9 #[a] W fun e W' => e = .returned (.string (S (litL x))) ∧ Kept W W' := by
  induction ha with
  | mk k n s p cap K l ks bl off c hr hp hc hK hl ih =>
    intro W hN hW hlen
    obtain ⟨q, qc, qb, qo, rfl, ⟨hq1, -⟩, hq2, hq3⟩ := hK
    have hb0 : ∀ o, Below W.heap.size W (W.alloc o) := fun o => (Below.refl _ W).alloc (Nat.le_refl _) _
    by_cases h012 : k = 0 ∨ k = 1 ∨ k = 2
    · obtain ⟨t, ht, F⟩ : ∃ t, ((k = 0 ∧ t = [110, 117, 108, 108]) ∨ (k = 1 ∧ t = [102, 97, 108, 115, 101]) ∨ (k = 2 ∧ t = [116, 114, 117, 101])) ∧ Hid (litL (.mk k n s l ks) = t) := by
        rcases h012 with rfl | rfl | rfl
        · exact ⟨_, .inl ⟨rfl, rfl⟩, by show _ = _; simp [litL]⟩
        · exact ⟨_, .inr (.inl ⟨rfl, rfl⟩), by show _ = _; simp [litL]⟩
        · exact ⟨_, .inr (.inr ⟨rfl, rfl⟩), by show _ = _; simp [litL]⟩
      have hc9 := kindPrint_c k t ht (W.alloc (.cells #[.int .i64 k, .int .i64 n, .string s, .slice p l.length cap, .slice q ks.length qc] 25))
      have HB0 := Lib.hid hb0
      clear hp hc hl ih hq2 hq3 hr hlen hb0 ht
      rw [F.out]
      clear F
      generalize S t = T at hc9
      rcases h012 with rfl | rfl | rfl
      all_goals
        go_enter Tryz.func9, Tryz.ntmps9
        go_wp2_with (go_at_call 14; refine hc9.mono ?_; rintro e w1 ⟨rfl, h1⟩)
        go_ret
        exact ⟨rfl, kept_trans (HB0.out _) h1⟩
    · by_cases h3 : k = 3
      · subst h3
        have hpz : (S (printL n)).size ≤ 20 := by
          have := lowL_len (u := n.natAbs) (by omega)
          rw [← decL_len] at this
          rw [size_S]
          unfold printL
          split
          · simp; omega
          · omega
        have hpr := rprint_c n (W.alloc (.cells #[.int .i64 3, .int .i64 n, .string s, .slice p l.length cap, .slice q ks.length qc] 25)) hr.2.2.1 hr.2.2.2.1
        have HB0 := Lib.hid hb0
        by_cases hneg : n < 0
        · have F : Hid ((⟨#[32]⟩ : ByteArray) ++ S (printL n) = S (litL (.mk 3 n s l ks))) := by
            show _ = _
            rw [show (⟨#[32]⟩ : ByteArray) = S [32] from rfl, S_append]
            simp [litL, hneg]
          clear hp hc hl ih hq2 hq3 hr hlen hb0 h012
          rw [← F.out]
          clear F
          generalize S (printL n) = T at hpr hpz
          have s1 : (⟨#[32]⟩ : ByteArray).size = 1 := rfl
          go_enter Tryz.func9, Tryz.ntmps9
          go_wp2_with (go_at_call 15; refine hpr.mono ?_; rintro e w1 ⟨rfl, rfl⟩)
          go_ret
          exact ⟨rfl, HB0.out _⟩
        · have F : Hid (S (printL n) = S (litL (.mk 3 n s l ks))) := by
            show _ = _
            simp [litL, hneg]
          clear hp hc hl ih hq2 hq3 hr hlen hb0 h012
          rw [← F.out]
          clear F
          generalize S (printL n) = T at hpr hpz
          go_enter Tryz.func9, Tryz.ntmps9
          go_wp2_with (go_at_call 15; refine hpr.mono ?_; rintro e w1 ⟨rfl, rfl⟩)
          go_ret
          exact ⟨rfl, HB0.out _⟩
      · have pre : (0 < l.length → p = some ⟨bl, off, none⟩ ∧ bl < W.heap.size) ∧ (0 < ks.length → q = some ⟨qb, qo, none⟩ ∧ qb < W.heap.size) :=
          ⟨fun h => ⟨(hp h).1, Nat.lt_of_lt_of_le (hp h).2 hN⟩, fun h => ⟨(hq2 h).1, Nat.lt_of_lt_of_le (hq2 h).2 hN⟩⟩
        have cells : ∀ i, i < l.length → W.cell? ⟨bl, off + i * 5, none⟩ = some (.int .i64 (gI (c i 0))) ∧ W.cell? ⟨bl, off + i * 5 + 1, none⟩ = some (.int .i64 (gI (c i 1))) ∧ W.cell? ⟨bl, off + i * 5 + 2, none⟩ = some (.string (gS (c i 2))) ∧ W.cell? ⟨bl, off + i * 5 + 3, none⟩ = some (.slice (gP (c i 3)) (gA (c i 3)) (gB (c i 3))) ∧ W.cell? ⟨bl, off + i * 5 + 4, none⟩ = some (.slice (gP (c i 4)) (gA (c i 4)) (gB (c i 4))) := fun i hi => by
          obtain ⟨f0, f1, f2, f3, f4⟩ := forms (hl i hi)
          have hcs : ∀ t, t < 5 → W.cell? ⟨bl, off + (i * 5 + t), none⟩ = some (c i t) := fun t ht => by rw [hW.cell (p := ⟨bl, off + (i * 5 + t), none⟩) (show bl < N from (hp (by omega)).2)]; exact hc i t hi ht
          exact ⟨(hcs 0 (by omega)).trans (congrArg some f0), (hcs 1 (by omega)).trans (congrArg some f1), (hcs 2 (by omega)).trans (congrArg some f2), (hcs 3 (by omega)).trans (congrArg some f3), (hcs 4 (by omega)).trans (congrArg some f4)⟩
        have keys : ∀ i (h : i < ks.length), W.cell? ⟨qb, qo + i, none⟩ = some (.string ks[i]) := fun i hi => by
          rw [hW.cell (p := ⟨qb, qo + i, none⟩) (show qb < N from (hq2 (by omega)).2)]
          exact hq3 i hi
        have inner : ∀ i (h : i < l.length) (X : World), Below W.heap.size W X → (litL l[i]).length ≤ 4398046511104 → Calls Tryz.prog 9 #[.agg #[.int .i64 (gI (c i 0)), .int .i64 (gI (c i 1)), .string (gS (c i 2)), .slice (gP (c i 3)) (gA (c i 3)) (gB (c i 3)), .slice (gP (c i 4)) (gA (c i 4)) (gB (c i 4))]] X fun e X' => e = .returned (.string (S (litL l[i]))) ∧ Kept X X' := fun i h X hX hz => by
          obtain ⟨f0, f1, f2, f3, f4⟩ := forms (hl i h)
          rw [← f0, ← f1, ← f2, ← f3, ← f4]
          exact ih i h X (Nat.le_trans hN hX.size) (hW.trans (hX.mono hN)) hz
        by_cases h5 : k = 5
        · subst h5
          have e : litL (.mk 5 n s l ks) = brackL 91 93 (joinK false ks (litAll l) (litAll l).length) := by simp [litL]
          rw [e] at hlen ⊢
          rw [brackL_len] at hlen
          exact rlit_5 n s p cap q qc l ks bl off qb qo _ _ _ _ _ _ _ _ _ W (by omega) hr.2.2.2.2.2 hq1 pre.1 pre.2 cells keys inner
        · by_cases h6 : k = 6
          · subst h6
            have e : litL (.mk 6 n s l ks) = brackL 123 125 (joinK true ks (litAll l) (litAll l).length) := by simp [litL]
            rw [e] at hlen ⊢
            rw [brackL_len] at hlen
            exact rlit_6 n s p cap q qc l ks bl off qb qo _ _ _ _ _ _ _ _ _ W (by omega) hr.2.2.2.2.2 hq1 pre.1 pre.2 cells keys inner
          · have e : litL (.mk k n s l ks) = quoteL s := by
              have : k ≠ 0 ∧ k ≠ 1 ∧ k ≠ 2 := by omega
              simp [litL, this, h3, h5, h6]
            rw [e] at hlen ⊢
            have hq := quote_c s (W.alloc (.cells #[.int .i64 k, .int .i64 n, .string s, .slice p l.length cap, .slice q ks.length qc] 25)) hlen
            have HB0 := Lib.hid hb0
            have d0 : (k == 0) = false := by simp; omega
            have d1 : (k == 1) = false := by simp; omega
            have d2 : (k == 2) = false := by simp; omega
            have d3 : (k == 3) = false := by simp; omega
            have d5 : (k == 5) = false := by simp; omega
            have d6 : (k == 6) = false := by simp; omega
            clear hp hc hl ih hq2 hq3 hr hlen hb0 h012 h3 h5 h6 pre cells keys inner e
            generalize S (quoteL s) = T at hq
            go_enter Tryz.func9, Tryz.ntmps9
            go_wp2_with (go_at_call 16; refine hq.mono ?_; rintro e w1 ⟨rfl, h1⟩)
            go_ret
            exact ⟨rfl, kept_trans (HB0.out _) h1⟩
end Go.Proofs.YtganmmkdcaphfaaGreatDoor.Lit

/-
  Contract of the page's Plain at every value that reads as a tree.
-/
namespace Go.Proofs.YtganmmkdcaphfaaGreatDoor.Lit
open Go.RowKit Go.Proofs.YtganmmkdcaphfaaGreatDoor.Oct Go.Proofs.YtganmmkdcaphfaaGreatDoor.Num Go.Proofs.YtganmmkdcaphfaaGreatDoor.Utf Go.Proofs.YtganmmkdcaphfaaGreatDoor.Val Go.Proofs.YtganmmkdcaphfaaGreatDoor.Mem

end Go.Proofs.YtganmmkdcaphfaaGreatDoor.Lit

/-
  Contract of the page's Name: is it a name?; it changes nothing.
-/
namespace Go.Proofs.YtganmmkdcaphfaaGreatDoor.Oct
open Go.RowKit

/-- May the octet at place k stand there in a name? -/
def okAt (s : ByteArray) (k : Nat) : Bool := nameI ((at' s k).toNat : Int) && (k != 0 || !digitI ((at' s k).toNat : Int))

theorem nameB_eq (s : ByteArray) : nameB s.data.toList = (decide (1 ≤ s.size ∧ s.size ≤ 32) && (List.range s.size).all (okAt s)) := by
  unfold nameB
  rw [size_list, ← all_at, at_zero]
  by_cases h : 1 ≤ s.size ∧ s.size ≤ 32
  · rw [decide_eq_true h, Bool.true_and, Bool.true_and, Bool.eq_iff_iff]
    simp only [Bool.and_eq_true, List.all_eq_true, List.mem_range, okAt, Bool.or_eq_true, bne_iff_ne, Bool.not_eq_true']
    constructor
    · rintro ⟨h0, h1⟩ k hk
      refine ⟨h1 k hk, ?_⟩
      by_cases e : k = 0
      · subst e; exact Or.inr h0
      · exact Or.inl e
    · intro H
      refine ⟨?_, fun k hk => (H k hk).1⟩
      rcases (H 0 (by omega)).2 with e | e
      · exact absurd rfl e
      · exact e
  · rw [decide_eq_false h]; rfl

theorem nameB_bad (s : ByteArray) (k : Nat) (hk : k < s.size) (h : okAt s k = false) : nameB s.data.toList = false := by
  rw [nameB_eq]
  have : (List.range s.size).all (okAt s) = false := by
    rw [Bool.eq_false_iff]
    intro H
    have := List.all_eq_true.1 H k (by simpa using hk)
    rw [h] at this
    cases this
  rw [this, Bool.and_false]

theorem nameB_good (s : ByteArray) (h : ∀ k, k < s.size → okAt s k = true) : nameB s.data.toList = decide (1 ≤ s.size ∧ s.size ≤ 32) := by
  rw [nameB_eq]
  have : (List.range s.size).all (okAt s) = true := List.all_eq_true.2 fun k hk => h k (by simpa using hk)
  rw [this, Bool.and_true]

set_option maxHeartbeats 2000000 in
theorem rname_c (s : ByteArray) (w : World) (hs : s.size ≤ 9223372036854775807) :
    Calls Tryz.prog 43 #[.string s] w fun e w' => e = .returned (.bool (nameB s.data.toList)) ∧ w = w' := by
  go_enter Tryz.func43, Tryz.ntmps43
  go_wp2
  go_loop [3] (fun i => ∃ k : Nat, k ≤ s.size ∧ i = .int .i64 k ∧ Hid (∀ j, j < k → okAt s j = true)) (fun i => s.size - (intOf i).toNat)
  case atStart => exact ⟨0, Nat.zero_le _, rfl, fun j hj => absurd hj (Nat.not_lt_zero _)⟩
  case round =>
    obtain ⟨k, hk, rfl, hok⟩ := hrel
    by_cases hlt : k < s.size
    · have hb1 : (s[k].toNat : Int) ≤ 255 := by have := s[k].toNat_lt; omega
      have hE : Hid (okAt s k = (nameI (s[k].toNat : Int) && (k != 0 || !digitI (s[k].toNat : Int)))) := by show _ = _; unfold okAt; rw [← at_eq s k hlt]
      have hl := fun w => rletter_c (s[k].toNat : Int) w (by omega) (by omega)
      have hd := fun w => rdigit_c (s[k].toNat : Int) w (by omega) (by omega)
      have next : okAt s k = true → ∀ j, j < k + 1 → okAt s j = true := fun h j hj => by
        by_cases e : j = k
        · rw [e]; exact h
        · exact hok.out j (by omega)
      have NX := Lib.hid next
      clear next
      cases hL : letterI (s[k].toNat : Int) with
      | true =>
        simp only [hL] at hl
        have hF : Hid (okAt s k = true) := by
          show _ = _
          rw [hE.out]
          unfold letterI at hL
          have hL' := of_decide_eq_true hL
          rw [nameI, digitI, decide_eq_true (by omega), decide_eq_false (by omega)]
          simp
        clear hL hE
        go_wp2_with (go_at_call 41; refine (hl _).mono ?_; rintro e w' ⟨rfl, rfl⟩)
        go_round
        case rel => exact ⟨k + 1, by omega, by go_num, NX.out hF.out⟩
        case measure => simp [intOf]; omega
      | false =>
        simp only [hL] at hl
        have hL' := of_decide_eq_false hL
        by_cases h95 : (s[k].toNat : Int) = 95
        · have hF : Hid (okAt s k = true) := by
            show _ = _
            rw [hE.out, nameI, digitI, decide_eq_true (by omega), decide_eq_false (by omega)]
            simp
          have h95b : ((s[k].toNat : Int) != 95) = false := by simp [h95]
          clear hL hE hL' h95
          go_wp2_with (go_at_call 41; refine (hl _).mono ?_; rintro e w' ⟨rfl, rfl⟩)
          go_round
          case rel => exact ⟨k + 1, by omega, by go_num, NX.out hF.out⟩
          case measure => simp [intOf]; omega
        · have h95b : ((s[k].toNat : Int) != 95) = true := by simp [h95]
          by_cases h0 : k = 0
          · have hF : Hid (okAt s k = false) := by
              show _ = _
              have hk0 : (k != 0) = false := by simp [h0]
              rw [hE.out, hk0, Bool.false_or, Bool.and_eq_false_iff]
              by_cases hdd : (48 : Int) ≤ (s[k].toNat : Int) ∧ (s[k].toNat : Int) ≤ 57
              · right; rw [digitI, decide_eq_true hdd]; rfl
              · left; rw [nameI, decide_eq_false (by omega)]
            have h0b : ((k : Int) == 0) = true := by simp [h0]
            clear hL hE hL' h95 h0
            go_wp2_with (go_at_call 41; refine (hl _).mono ?_; rintro e w' ⟨rfl, rfl⟩)
            go_ret
            exact ⟨ret_bool (nameB_bad s k hlt hF.out).symm, rfl⟩
          · have h0b : ((k : Int) == 0) = false := by simp; omega
            cases hD : digitI (s[k].toNat : Int) with
            | true =>
              simp only [hD] at hd
              have hF : Hid (okAt s k = true) := by
                show _ = _
                have hD' := of_decide_eq_true hD
                rw [hE.out, nameI, decide_eq_true (by omega)]
                simp [h0]
              clear hL hE hL' h95 h0 hD
              go_wp2_with (first
                | (go_at_call 41; refine (hl _).mono ?_; rintro e w' ⟨rfl, rfl⟩)
                | (go_at_call 42; refine (hd _).mono ?_; rintro e w' ⟨rfl, rfl⟩))
              go_round
              case rel => exact ⟨k + 1, by omega, by go_num, NX.out hF.out⟩
              case measure => simp [intOf]; omega
            | false =>
              simp only [hD] at hd
              have hF : Hid (okAt s k = false) := by
                show _ = _
                have hD' := of_decide_eq_false hD
                rw [hE.out, nameI, decide_eq_false (by omega)]
                rfl
              clear hL hE hL' h95 h0 hD
              go_wp2_with (first
                | (go_at_call 41; refine (hl _).mono ?_; rintro e w' ⟨rfl, rfl⟩)
                | (go_at_call 42; refine (hd _).mono ?_; rintro e w' ⟨rfl, rfl⟩))
              go_ret
              exact ⟨ret_bool (nameB_bad s k hlt hF.out).symm, rfl⟩
    · have hfin : Hid (nameB s.data.toList = decide (1 ≤ s.size ∧ s.size ≤ 32)) := nameB_good s (fun j hj => hok.out j (by omega))
      go_wp2
      all_goals go_ret
      all_goals (refine ⟨ret_bool ?_, rfl⟩; rw [hfin.out, Bool.eq_iff_iff]; simp; try omega)

/-- Does p begin s? -/
def beginsB (p s : List UInt8) : Bool := decide (p.length ≤ s.length) && (s.take p.length == p)
end Go.Proofs.YtganmmkdcaphfaaGreatDoor.Oct
