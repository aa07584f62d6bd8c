/-
  Part 10: LitRecord, LitAll, TlAll, LitPlain, PgName, LitCheck, LitCheck2, LitCheck3, LitCheck4, LitCheck5, LitCheck6, LitCuts, RowKit, UtfLaid.
-/
import Derived.Test.YtgfbednfiejlfaaGreatDoorLitCutsCardP9
import Derived.Test.YtgfbednfiejlfaaGreatDoorLitCutsCardP6
import Derived.Test.YtgfbednfiejlfaaGreatDoorLitCutsCardP2
import Derived.Lib.Hide
import Derived.Deep.QuietTactic
import Derived.BigQuiet
import Derived.Laws.Cover1
import Derived.Test.YtgfbednfiejlfaaGreatDoorLitCutsCardP8
import Derived.Test.YtgfbednfiejlfaaGreatDoorRows
import Derived.WalkKit
import Derived.ProofKit
import Derived.OpenShut
import Derived.JoinedCond
import Derived.SizedLaws
import Derived.Test.YtgfbednfiejlfaaGreatDoorCards
import Derived.Test.YtgfbednfiejlfaaGreatDoorTie
import Derived.Test.YtgfbednfiejlfaaGreatDoorLitCutsCardP3
import Derived.Lib.LaidU8
import Derived.Deep.DeepHandedRow
/-
  Contract of the page's Literal at a record.
-/
namespace Go.Proofs.YtgfbednfiejlfaaGreatDoor.Lit
open Go.RowKit Go.Proofs.YtgfbednfiejlfaaGreatDoor.Oct Go.Proofs.YtgfbednfiejlfaaGreatDoor.Num Go.Proofs.YtgfbednfiejlfaaGreatDoor.Utf Go.Proofs.YtgfbednfiejlfaaGreatDoor.Val Go.Proofs.YtgfbednfiejlfaaGreatDoor.Mem

set_option maxHeartbeats 8000000 in
set_option maxRecDepth 100000 in
theorem rlit_6 (n : Int) (s : ByteArray) (p : Option Addr) (cap : Nat) (q : Option Addr) (qc : Nat) (l : List V) (ks : List ByteArray) (bl off qb qo : Nat) (k1 n1 : Nat → Int) (s1 : Nat → ByteArray) (p1 q1 : Nat → Option Addr) (a1 b1 c1 d1 : Nat → Nat) (W : World)
    (hlen : (joinK true ks (litAll l) (litAll l).length).length ≤ 4398046511104) (hl80 : l.length * 80 ≤ 140737488351232) (hk16 : ks.length * 16 ≤ 140737488351232)
    (hp : 0 < l.length → p = some ⟨bl, off, none⟩ ∧ bl < W.heap.size) (hq : 0 < ks.length → q = some ⟨qb, qo, none⟩ ∧ qb < W.heap.size)
    (hc : ∀ i, i < l.length → W.cell? ⟨bl, off + i * 5, none⟩ = some (.int .i64 (k1 i)) ∧ W.cell? ⟨bl, off + i * 5 + 1, none⟩ = some (.int .i64 (n1 i)) ∧ W.cell? ⟨bl, off + i * 5 + 2, none⟩ = some (.string (s1 i)) ∧ W.cell? ⟨bl, off + i * 5 + 3, none⟩ = some (.slice (p1 i) (a1 i) (b1 i)) ∧ W.cell? ⟨bl, off + i * 5 + 4, none⟩ = some (.slice (q1 i) (c1 i) (d1 i)))
    (hcq : ∀ i (h : i < ks.length), W.cell? ⟨qb, qo + i, none⟩ = some (.string ks[i]))
    (ih : ∀ i (h : i < l.length) (X : World), Below W.heap.size W X → (litL l[i]).length ≤ 4398046511104 → Calls Tryz.prog 9 #[.agg #[.int .i64 (k1 i), .int .i64 (n1 i), .string (s1 i), .slice (p1 i) (a1 i) (b1 i), .slice (q1 i) (c1 i) (d1 i)]] X fun e X' => e = .returned (.string (S (litL l[i]))) ∧ Kept X X') :
    Calls Tryz.prog 9 #[.agg #[.int .i64 6, .int .i64 n, .string s, .slice p l.length cap, .slice q ks.length qc]] W fun e W' => e = .returned (.string (S (brackL 123 125 (joinK true ks (litAll l) (litAll l).length)))) ∧ Kept W W' := by
  have B0 : Below W.heap.size W (W.alloc (.cells #[.int .i64 6, .int .i64 n, .string s, .slice p l.length cap, .slice q ks.length qc] 26)) := (Below.refl _ W).alloc (Nat.le_refl _) _
  obtain ⟨W1, hW1⟩ : ∃ W1, W1 = W.alloc (.cells #[.int .i64 6, .int .i64 n, .string s, .slice p l.length cap, .slice q ks.length qc] 26) := ⟨_, rfl⟩
  have HBX : Hid (∀ X, Kept W1 X → X.cell? ⟨W.heap.size, 0, none⟩ = some (.int .i64 6) ∧ X.cell? ⟨W.heap.size, 1, none⟩ = some (.int .i64 n) ∧ X.cell? ⟨W.heap.size, 2, none⟩ = some (.string s) ∧ X.cell? ⟨W.heap.size, 3, none⟩ = some (.slice p l.length cap) ∧ X.cell? ⟨W.heap.size, 4, none⟩ = some (.slice q ks.length qc)) := fun X hX => by
    have e : X.heap[W.heap.size]? = some (.cells #[.int .i64 6, .int .i64 n, .string s, .slice p l.length cap, .slice q ks.length qc] 26 (0, 0)) := (hX.block _ (by rw [hW1]; simp)).trans (by rw [hW1]; exact heap_alloc_new W _)
    exact ⟨cell_of_row X _ 0 _ _ _ e, cell_of_row X _ 1 _ _ _ e, cell_of_row X _ 2 _ _ _ e, cell_of_row X _ 3 _ _ _ e, cell_of_row X _ 4 _ _ _ e⟩
  have hWX : ∀ X, Kept W1 X → Below W.heap.size W X := fun X hX => (hW1 ▸ B0).trans (hX.mono (by rw [hW1]; simp))
  have HE : Hid (∀ X, Kept W1 X → ∀ j (h : j < l.length), (litL l[j]).length ≤ 4398046511104 →
      (X.cell? ⟨bl, off + j * 5, none⟩ = some (.int .i64 (k1 j)) ∧ X.cell? ⟨bl, off + j * 5 + 1, none⟩ = some (.int .i64 (n1 j)) ∧ X.cell? ⟨bl, off + j * 5 + 2, none⟩ = some (.string (s1 j)) ∧ X.cell? ⟨bl, off + j * 5 + 3, none⟩ = some (.slice (p1 j) (a1 j) (b1 j)) ∧ X.cell? ⟨bl, off + j * 5 + 4, none⟩ = some (.slice (q1 j) (c1 j) (d1 j))) ∧
      Calls Tryz.prog 9 #[.agg #[.int .i64 (k1 j), .int .i64 (n1 j), .string (s1 j), .slice (p1 j) (a1 j) (b1 j), .slice (q1 j) (c1 j) (d1 j)]] X fun e X' => e = .returned (.string (S (litL l[j]))) ∧ Kept X X') := fun X hX j h hz => by
    have e : ∀ o, X.cell? ⟨bl, o, none⟩ = W.cell? ⟨bl, o, none⟩ := fun o => (hWX X hX).cell (p := ⟨bl, o, none⟩) (hp (by omega)).2
    rw [e, e, e, e, e]
    exact ⟨hc j h, ih j h X (hWX X hX) hz⟩
  have HK : Hid (∀ X, Kept W1 X → ∀ j (h : j < ks.length), (quoteL ks[j]).length ≤ 4398046511104 → X.cell? ⟨qb, qo + j, none⟩ = some (.string ks[j]) ∧ Calls Tryz.prog 21 #[.string ks[j]] X fun e w' => e = .returned (.string (S (quoteL ks[j]))) ∧ Kept X w') := fun X hX j h hz =>
    ⟨((hWX X hX).cell (p := ⟨qb, qo + j, none⟩) (hq (by omega)).2).trans (hcq j h), quote_c ks[j] X hz⟩
  have HP := Lib.hid hp
  have HQ := Lib.hid hq
  have HW := Lib.hid hWX
  clear hp hq hc hcq ih hWX
  go_enter Tryz.func9, Tryz.ntmps9
  go_wp2_with fail
  rw [← hW1]
  clear hW1 B0
  go_loopw [3, 4] (fun o i wr => ∃ j : Nat, j ≤ l.length ∧ o = .string (S (joinK true ks (litAll l) j)) ∧ i = .int .i64 j ∧ Hid (Kept W1 wr)) (fun _ i _ => l.length - (intOf i).toNat)
  case atStart => exact ⟨0, Nat.zero_le _, rfl, rfl, Below.refl _ _⟩
  case round =>
    obtain ⟨j, hj, rfl, rfl, hb⟩ := hrel
    by_cases hlt : j < l.length
    · by_cases hj0 : j = 0
      · by_cases hky : j < ks.length
        · have F : Hid (S (joinK true ks (litAll l) j) ++ S (quoteL ks[j]) ++ (⟨#[58]⟩ : ByteArray) ++ S (litL l[j]) = S (joinK true ks (litAll l) (j + 1))) := by
            show _ = _
            rw [join_step _ ks l hlt, if_pos hj0, key_some hky]
            simp only [show (⟨#[58]⟩ : ByteArray) = S [58] from rfl, S_append]
            simp
          have hi3 := join_item true ks l hlt
          have ho : (S (joinK true ks (litAll l) j)).size ≤ 4398046511104 := by rw [size_S]; omega
          have hi : (S (litL l[j])).size ≤ 4398046511104 := by rw [size_S]; omega
          have hkl : (quoteL ks[j]).length ≤ 4398046511104 := by have := hi3.2.1; rw [key_some hky, List.length_append] at this; omega
          have hkz : (S (quoteL ks[j])).size ≤ 4398046511104 := by rw [size_S]; exact hkl
          obtain ⟨y4, kq⟩ := HK.out wr hb.out j hky hkl
          obtain ⟨rfl, -⟩ := HQ.out (by omega)
          have HI := Lib.hid (fun Y (hY : Kept wr Y) => HE.out Y (kept_trans hb.out hY) j hlt (by omega))
          generalize S (quoteL ks[j]) = kx at F kq hkz
          generalize ks[j] = key at kq y4
          obtain ⟨rfl, -⟩ := HP.out (by omega)
          obtain ⟨x0, -, -, x3, x4⟩ := HBX.out wr hb.out
          have h1 : (0 : Int) ≤ (j : Int) := by omega
          have h2 : (j : Int) < (l.length : Int) := by omega
          have hj1 : j = 0 := by omega
          have hky2 : (j : Int) < (ks.length : Int) := by omega
          generalize S (litL l[j]) = x at F hi HI
          generalize S (joinK true ks (litAll l) j) = o at F ho
          have s1 : (⟨#[44]⟩ : ByteArray).size = 1 := rfl
          have s2 : (⟨#[58]⟩ : ByteArray).size = 1 := rfl
          clear hi3
          subst hj1
          rw [Nat.add_zero] at y4
          go_wp2_with (first | (go_at_call 21; refine kq.mono ?_; rintro e Y ⟨rfl, hY⟩; obtain ⟨⟨e0, e1, e2, e3, e4⟩, hcall⟩ := HI.out Y hY; rw [Nat.zero_mul, Nat.add_zero] at e0 e1 e2 e3 e4; obtain ⟨-, -, -, z3, -⟩ := HBX.out Y (kept_trans hb.out hY); have HY := Lib.hid hY; clear hY) | (go_at_call 9; refine hcall.mono ?_; rintro e Z ⟨rfl, hZ⟩))
          go_roundw
          case rel => exact ⟨0 + 1, by omega, congrArg Value.string F.out, by go_num, kept_trans hb.out (kept_trans HY.out hZ)⟩
          case measure => simp [intOf]; omega
        · have F : Hid (S (joinK true ks (litAll l) j) ++ S (litL l[j]) = S (joinK true ks (litAll l) (j + 1))) := by
            show _ = _
            rw [join_step _ ks l hlt, if_pos hj0, key_none (by omega)]
            simp only [S_append]
            simp
          have hi3 := join_item true ks l hlt
          have ho : (S (joinK true ks (litAll l) j)).size ≤ 4398046511104 := by rw [size_S]; omega
          have hi : (S (litL l[j])).size ≤ 4398046511104 := by rw [size_S]; omega
          obtain ⟨⟨e0, e1, e2, e3, e4⟩, hcall⟩ := HE.out wr hb.out j hlt (by omega)
          obtain ⟨rfl, -⟩ := HP.out (by omega)
          obtain ⟨x0, -, -, x3, x4⟩ := HBX.out wr hb.out
          have h1 : (0 : Int) ≤ (j : Int) := by omega
          have h2 : (j : Int) < (l.length : Int) := by omega
          have hj1 : j = 0 := by omega
          have hky2 : decide ((j : Int) < (ks.length : Int)) = false := by simp; omega
          generalize S (litL l[j]) = x at F hi hcall
          generalize S (joinK true ks (litAll l) j) = o at F ho
          have s1 : (⟨#[44]⟩ : ByteArray).size = 1 := rfl
          have s2 : (⟨#[58]⟩ : ByteArray).size = 1 := rfl
          clear hi3
          subst hj1
          rw [Nat.zero_mul, Nat.add_zero] at e0 e1 e2 e3 e4
          go_wp2_with (go_at_call 9; refine hcall.mono ?_; rintro e Z ⟨rfl, hZ⟩)
          go_roundw
          case rel => exact ⟨0 + 1, by omega, congrArg Value.string F.out, by go_num, kept_trans hb.out hZ⟩
          case measure => simp [intOf]; omega
      · by_cases hky : j < ks.length
        · have F : Hid (S (joinK true ks (litAll l) j) ++ (⟨#[44]⟩ : ByteArray) ++ S (quoteL ks[j]) ++ (⟨#[58]⟩ : ByteArray) ++ S (litL l[j]) = S (joinK true ks (litAll l) (j + 1))) := by
            show _ = _
            rw [join_step _ ks l hlt, if_neg hj0, key_some hky]
            simp only [show (⟨#[44]⟩ : ByteArray) = S [44] from rfl, show (⟨#[58]⟩ : ByteArray) = S [58] from rfl, S_append]
            simp
          have hi3 := join_item true ks l hlt
          have ho : (S (joinK true ks (litAll l) j)).size ≤ 4398046511104 := by rw [size_S]; omega
          have hi : (S (litL l[j])).size ≤ 4398046511104 := by rw [size_S]; omega
          have hkl : (quoteL ks[j]).length ≤ 4398046511104 := by have := hi3.2.1; rw [key_some hky, List.length_append] at this; omega
          have hkz : (S (quoteL ks[j])).size ≤ 4398046511104 := by rw [size_S]; exact hkl
          obtain ⟨y4, kq⟩ := HK.out wr hb.out j hky hkl
          obtain ⟨rfl, -⟩ := HQ.out (by omega)
          have HI := Lib.hid (fun Y (hY : Kept wr Y) => HE.out Y (kept_trans hb.out hY) j hlt (by omega))
          generalize S (quoteL ks[j]) = kx at F kq hkz
          generalize ks[j] = key at kq y4
          obtain ⟨rfl, -⟩ := HP.out (by omega)
          obtain ⟨x0, -, -, x3, x4⟩ := HBX.out wr hb.out
          have h1 : (0 : Int) ≤ (j : Int) := by omega
          have h2 : (j : Int) < (l.length : Int) := by omega
          have hj1 : (0 : Int) < (j : Int) := by omega
          have hky2 : (j : Int) < (ks.length : Int) := by omega
          generalize S (litL l[j]) = x at F hi HI
          generalize S (joinK true ks (litAll l) j) = o at F ho
          have s1 : (⟨#[44]⟩ : ByteArray).size = 1 := rfl
          have s2 : (⟨#[58]⟩ : ByteArray).size = 1 := rfl
          clear hi3
          go_wp2_with (first | (go_at_call 21; refine kq.mono ?_; rintro e Y ⟨rfl, hY⟩; obtain ⟨⟨e0, e1, e2, e3, e4⟩, hcall⟩ := HI.out Y hY; obtain ⟨-, -, -, z3, -⟩ := HBX.out Y (kept_trans hb.out hY); have HY := Lib.hid hY; clear hY) | (go_at_call 9; refine hcall.mono ?_; rintro e Z ⟨rfl, hZ⟩))
          go_roundw
          case rel => exact ⟨j + 1, by omega, congrArg Value.string F.out, by go_num, kept_trans hb.out (kept_trans HY.out hZ)⟩
          case measure => simp [intOf]; omega
        · have F : Hid (S (joinK true ks (litAll l) j) ++ (⟨#[44]⟩ : ByteArray) ++ S (litL l[j]) = S (joinK true ks (litAll l) (j + 1))) := by
            show _ = _
            rw [join_step _ ks l hlt, if_neg hj0, key_none (by omega)]
            simp only [show (⟨#[44]⟩ : ByteArray) = S [44] from rfl, S_append]
            simp
          have hi3 := join_item true ks l hlt
          have ho : (S (joinK true ks (litAll l) j)).size ≤ 4398046511104 := by rw [size_S]; omega
          have hi : (S (litL l[j])).size ≤ 4398046511104 := by rw [size_S]; omega
          obtain ⟨⟨e0, e1, e2, e3, e4⟩, hcall⟩ := HE.out wr hb.out j hlt (by omega)
          obtain ⟨rfl, -⟩ := HP.out (by omega)
          obtain ⟨x0, -, -, x3, x4⟩ := HBX.out wr hb.out
          have h1 : (0 : Int) ≤ (j : Int) := by omega
          have h2 : (j : Int) < (l.length : Int) := by omega
          have hj1 : (0 : Int) < (j : Int) := by omega
          have hky2 : decide ((j : Int) < (ks.length : Int)) = false := by simp; omega
          generalize S (litL l[j]) = x at F hi hcall
          generalize S (joinK true ks (litAll l) j) = o at F ho
          have s1 : (⟨#[44]⟩ : ByteArray).size = 1 := rfl
          have s2 : (⟨#[58]⟩ : ByteArray).size = 1 := rfl
          clear hi3
          go_wp2_with (go_at_call 9; refine hcall.mono ?_; rintro e Z ⟨rfl, hZ⟩)
          go_roundw
          case rel => exact ⟨j + 1, by omega, congrArg Value.string F.out, by go_num, kept_trans hb.out hZ⟩
          case measure => simp [intOf]; omega
    · have hjl : j = l.length := by omega
      subst hjl
      obtain ⟨x0, -, -, x3, x4⟩ := HBX.out wr hb.out
      have F : Hid ((⟨#[123]⟩ : ByteArray) ++ S (joinK true ks (litAll l) l.length) ++ (⟨#[125]⟩ : ByteArray) = S (brackL 123 125 (joinK true ks (litAll l) (litAll l).length))) := by
        show _ = _
        rw [litAll_len, show (⟨#[123]⟩ : ByteArray) = S [123] from rfl, show (⟨#[125]⟩ : ByteArray) = S [125] from rfl, S_append, S_append]; rfl
      have ho : (S (joinK true ks (litAll l) l.length)).size ≤ 4398046511104 := by rw [size_S]; rw [litAll_len] at hlen; exact hlen
      generalize S (joinK true ks (litAll l) l.length) = o at F ho
      have s1 : (⟨#[123]⟩ : ByteArray).size = 1 := rfl
      have s2 : (⟨#[125]⟩ : ByteArray).size = 1 := rfl
      go_wp2
      go_ret
      exact ⟨by rw [← F.out]; rfl, HW.out wr hb.out⟩
end Go.Proofs.YtgfbednfiejlfaaGreatDoor.Lit

/-
  Contracts of the page's Literal and Plain at every value that reads as a tree.
-/
namespace Go.Proofs.YtgfbednfiejlfaaGreatDoor.Lit
open Go.RowKit Go.Proofs.YtgfbednfiejlfaaGreatDoor.Oct Go.Proofs.YtgfbednfiejlfaaGreatDoor.Num Go.Proofs.YtgfbednfiejlfaaGreatDoor.Utf Go.Proofs.YtgfbednfiejlfaaGreatDoor.Val Go.Proofs.YtgfbednfiejlfaaGreatDoor.Mem

def gI : Value → Int
  | .int _ k => k
  | _ => 0
def gS : Value → ByteArray
  | .string s => s
  | _ => ⟨#[]⟩
def gP : Value → Option Addr
  | .slice p _ _ => p
  | _ => none
def gA : Value → Nat
  | .slice _ a _ => a
  | _ => 0
def gB : Value → Nat
  | .slice _ _ b => b
  | _ => 0
theorem forms {C : Cond} {w : World} {u0 u1 u2 u3 u4 : Value} {x : V} (h : Holds C w (.agg #[u0, u1, u2, u3, u4]) x) : u0 = .int .i64 (gI u0) ∧ u1 = .int .i64 (gI u1) ∧ u2 = .string (gS u2) ∧ u3 = .slice (gP u3) (gA u3) (gB u3) ∧ u4 = .slice (gP u4) (gA u4) (gB u4) := by
  obtain ⟨k, n, s, p, a, b, q, c, d, rfl, rfl, rfl, rfl, rfl⟩ := parts5 h
  exact ⟨rfl, rfl, rfl, rfl, rfl⟩

set_option maxHeartbeats 4000000 in
set_option maxRecDepth 100000 in
theorem rlit_c (N : Nat) (w : World) {a : Value} {x : V} (ha : Holds (Old N) w a x) : ∀ (W : World), N ≤ W.heap.size → Below N w W → (litL x).length ≤ 4398046511104 →
    Calls Tryz.prog 9 #[a] W fun e W' => e = .returned (.string (S (litL x))) ∧ Kept W W' := by
  induction ha with
  | mk k n s p cap K l ks bl off c hr hp hc hK hl ih =>
    intro W hN hW hlen
    obtain ⟨q, qc, qb, qo, rfl, ⟨hq1, -⟩, hq2, hq3⟩ := hK
    have hb0 : ∀ o, Below W.heap.size W (W.alloc o) := fun o => (Below.refl _ W).alloc (Nat.le_refl _) _
    by_cases h012 : k = 0 ∨ k = 1 ∨ k = 2
    · obtain ⟨t, ht, F⟩ : ∃ t, ((k = 0 ∧ t = [110, 117, 108, 108]) ∨ (k = 1 ∧ t = [102, 97, 108, 115, 101]) ∨ (k = 2 ∧ t = [116, 114, 117, 101])) ∧ Hid (litL (.mk k n s l ks) = t) := by
        rcases h012 with rfl | rfl | rfl
        · exact ⟨_, .inl ⟨rfl, rfl⟩, by show _ = _; simp [litL]⟩
        · exact ⟨_, .inr (.inl ⟨rfl, rfl⟩), by show _ = _; simp [litL]⟩
        · exact ⟨_, .inr (.inr ⟨rfl, rfl⟩), by show _ = _; simp [litL]⟩
      have hc9 := kindPrint_c k t ht (W.alloc (.cells #[.int .i64 k, .int .i64 n, .string s, .slice p l.length cap, .slice q ks.length qc] 26))
      have HB0 := Lib.hid hb0
      clear hp hc hl ih hq2 hq3 hr hlen hb0 ht
      rw [F.out]
      clear F
      generalize S t = T at hc9
      rcases h012 with rfl | rfl | rfl
      all_goals
        go_enter Tryz.func9, Tryz.ntmps9
        go_wp2_with (go_at_call 19; refine hc9.mono ?_; rintro e w1 ⟨rfl, h1⟩)
        go_ret
        exact ⟨rfl, kept_trans (HB0.out _) h1⟩
    · by_cases h3 : k = 3
      · subst h3
        have hpz : (S (printL n)).size ≤ 20 := by
          have := lowL_len (u := n.natAbs) (by omega)
          rw [← decL_len] at this
          rw [size_S]
          unfold printL
          split
          · simp; omega
          · omega
        have hpr := rprint_c n (W.alloc (.cells #[.int .i64 3, .int .i64 n, .string s, .slice p l.length cap, .slice q ks.length qc] 26)) hr.2.2.1 hr.2.2.2.1
        have HB0 := Lib.hid hb0
        by_cases hneg : n < 0
        · have F : Hid ((⟨#[32]⟩ : ByteArray) ++ S (printL n) = S (litL (.mk 3 n s l ks))) := by
            show _ = _
            rw [show (⟨#[32]⟩ : ByteArray) = S [32] from rfl, S_append]
            simp [litL, hneg]
          clear hp hc hl ih hq2 hq3 hr hlen hb0 h012
          rw [← F.out]
          clear F
          generalize S (printL n) = T at hpr hpz
          have s1 : (⟨#[32]⟩ : ByteArray).size = 1 := rfl
          go_enter Tryz.func9, Tryz.ntmps9
          go_wp2_with (go_at_call 20; refine hpr.mono ?_; rintro e w1 ⟨rfl, rfl⟩)
          go_ret
          exact ⟨rfl, HB0.out _⟩
        · have F : Hid (S (printL n) = S (litL (.mk 3 n s l ks))) := by
            show _ = _
            simp [litL, hneg]
          clear hp hc hl ih hq2 hq3 hr hlen hb0 h012
          rw [← F.out]
          clear F
          generalize S (printL n) = T at hpr hpz
          go_enter Tryz.func9, Tryz.ntmps9
          go_wp2_with (go_at_call 20; refine hpr.mono ?_; rintro e w1 ⟨rfl, rfl⟩)
          go_ret
          exact ⟨rfl, HB0.out _⟩
      · have pre : (0 < l.length → p = some ⟨bl, off, none⟩ ∧ bl < W.heap.size) ∧ (0 < ks.length → q = some ⟨qb, qo, none⟩ ∧ qb < W.heap.size) :=
          ⟨fun h => ⟨(hp h).1, Nat.lt_of_lt_of_le (hp h).2 hN⟩, fun h => ⟨(hq2 h).1, Nat.lt_of_lt_of_le (hq2 h).2 hN⟩⟩
        have cells : ∀ i, i < l.length → W.cell? ⟨bl, off + i * 5, none⟩ = some (.int .i64 (gI (c i 0))) ∧ W.cell? ⟨bl, off + i * 5 + 1, none⟩ = some (.int .i64 (gI (c i 1))) ∧ W.cell? ⟨bl, off + i * 5 + 2, none⟩ = some (.string (gS (c i 2))) ∧ W.cell? ⟨bl, off + i * 5 + 3, none⟩ = some (.slice (gP (c i 3)) (gA (c i 3)) (gB (c i 3))) ∧ W.cell? ⟨bl, off + i * 5 + 4, none⟩ = some (.slice (gP (c i 4)) (gA (c i 4)) (gB (c i 4))) := fun i hi => by
          obtain ⟨f0, f1, f2, f3, f4⟩ := forms (hl i hi)
          have hcs : ∀ t, t < 5 → W.cell? ⟨bl, off + (i * 5 + t), none⟩ = some (c i t) := fun t ht => by rw [hW.cell (p := ⟨bl, off + (i * 5 + t), none⟩) (show bl < N from (hp (by omega)).2)]; exact hc i t hi ht
          exact ⟨(hcs 0 (by omega)).trans (congrArg some f0), (hcs 1 (by omega)).trans (congrArg some f1), (hcs 2 (by omega)).trans (congrArg some f2), (hcs 3 (by omega)).trans (congrArg some f3), (hcs 4 (by omega)).trans (congrArg some f4)⟩
        have keys : ∀ i (h : i < ks.length), W.cell? ⟨qb, qo + i, none⟩ = some (.string ks[i]) := fun i hi => by
          rw [hW.cell (p := ⟨qb, qo + i, none⟩) (show qb < N from (hq2 (by omega)).2)]
          exact hq3 i hi
        have inner : ∀ i (h : i < l.length) (X : World), Below W.heap.size W X → (litL l[i]).length ≤ 4398046511104 → Calls Tryz.prog 9 #[.agg #[.int .i64 (gI (c i 0)), .int .i64 (gI (c i 1)), .string (gS (c i 2)), .slice (gP (c i 3)) (gA (c i 3)) (gB (c i 3)), .slice (gP (c i 4)) (gA (c i 4)) (gB (c i 4))]] X fun e X' => e = .returned (.string (S (litL l[i]))) ∧ Kept X X' := fun i h X hX hz => by
          obtain ⟨f0, f1, f2, f3, f4⟩ := forms (hl i h)
          rw [← f0, ← f1, ← f2, ← f3, ← f4]
          exact ih i h X (Nat.le_trans hN hX.size) (hW.trans (hX.mono hN)) hz
        by_cases h5 : k = 5
        · subst h5
          have e : litL (.mk 5 n s l ks) = brackL 91 93 (joinK false ks (litAll l) (litAll l).length) := by simp [litL]
          rw [e] at hlen ⊢
          rw [brackL_len] at hlen
          exact rlit_5 n s p cap q qc l ks bl off qb qo _ _ _ _ _ _ _ _ _ W (by omega) hr.2.2.2.2.2 hq1 pre.1 pre.2 cells keys inner
        · by_cases h6 : k = 6
          · subst h6
            have e : litL (.mk 6 n s l ks) = brackL 123 125 (joinK true ks (litAll l) (litAll l).length) := by simp [litL]
            rw [e] at hlen ⊢
            rw [brackL_len] at hlen
            exact rlit_6 n s p cap q qc l ks bl off qb qo _ _ _ _ _ _ _ _ _ W (by omega) hr.2.2.2.2.2 hq1 pre.1 pre.2 cells keys inner
          · have e : litL (.mk k n s l ks) = quoteL s := by
              have : k ≠ 0 ∧ k ≠ 1 ∧ k ≠ 2 := by omega
              simp [litL, this, h3, h5, h6]
            rw [e] at hlen ⊢
            have hq := quote_c s (W.alloc (.cells #[.int .i64 k, .int .i64 n, .string s, .slice p l.length cap, .slice q ks.length qc] 26)) hlen
            have HB0 := Lib.hid hb0
            have d0 : (k == 0) = false := by simp; omega
            have d1 : (k == 1) = false := by simp; omega
            have d2 : (k == 2) = false := by simp; omega
            have d3 : (k == 3) = false := by simp; omega
            have d5 : (k == 5) = false := by simp; omega
            have d6 : (k == 6) = false := by simp; omega
            clear hp hc hl ih hq2 hq3 hr hlen hb0 h012 h3 h5 h6 pre cells keys inner e
            generalize S (quoteL s) = T at hq
            go_enter Tryz.func9, Tryz.ntmps9
            go_wp2_with (go_at_call 21; refine hq.mono ?_; rintro e w1 ⟨rfl, h1⟩)
            go_ret
            exact ⟨rfl, kept_trans (HB0.out _) h1⟩
end Go.Proofs.YtgfbednfiejlfaaGreatDoor.Lit

/-
  Contracts of literal.tell and of Literal at every value that reads as a tree.
-/
namespace Go.Proofs.YtgfbednfiejlfaaGreatDoor.Tl
open Go.RowKit Go.Proofs.YtgfbednfiejlfaaGreatDoor.Oct Go.Proofs.YtgfbednfiejlfaaGreatDoor.Num Go.Proofs.YtgfbednfiejlfaaGreatDoor.Utf Go.Proofs.YtgfbednfiejlfaaGreatDoor.Build Go.Proofs.YtgfbednfiejlfaaGreatDoor.Val Go.Proofs.YtgfbednfiejlfaaGreatDoor.Lit

theorem joinK_G (r : Bool) (ks : List ByteArray) (ts : List (List UInt8)) (n : Nat) : joinK r ks ts n = joinG (keyAt r ks) (fun k => ts.getD k []) n := by
  induction n with
  | zero => rfl
  | succ n ih => simp only [joinK, joinG, ih]
theorem joinG_no (ks : List ByteArray) (ts : Nat → List UInt8) (n : Nat) : joinG (keyAt false ks) ts n = joinG (fun _ => []) ts n := by
  have : keyAt false ks = fun _ => [] := by funext k; simp [keyAt]
  rw [this]

set_option maxHeartbeats 1000000 in
set_option maxRecDepth 100000 in
theorem tell_c (N : Nat) (w : World) (hT : ∀ X, Below N w X → Tabs X) {a : Value} {x : V} (ha : Holds (Old N) w a x) : ∀ (B b : Nat) (l : List UInt8) (W : World), N ≤ B → B ≤ W.heap.size → Below N w W → Has B b l W → l.length + (litL x).length + 16 ≤ 140737488355328 → (litL x).length ≤ 4398046511104 →
    Calls Tryz.prog 25 #[a, putG b] W (Put B b (l ++ litL x) W) := by
  induction ha with
  | mk k n s p cap K l0 ks bl off c hr hp hc hK hl ih =>
    intro B b l W hNB hBW hW h hlen hbnd
    obtain ⟨q, qc, qb, qo, rfl, ⟨hq1, -⟩, hq2, hq3⟩ := hK
    have hTX : ∀ X, Below B W X → Tabs X := fun X hX => hT X (hW.trans (hX.mono hNB))
    by_cases h012 : k = 0 ∨ k = 1 ∨ k = 2
    · obtain ⟨t, ht, F⟩ : ∃ t, ((k = 0 ∧ t = [110, 117, 108, 108]) ∨ (k = 1 ∧ t = [102, 97, 108, 115, 101]) ∨ (k = 2 ∧ t = [116, 114, 117, 101])) ∧ litL (.mk k n s l0 ks) = t := by
        rcases h012 with rfl | rfl | rfl
        · exact ⟨_, .inl ⟨rfl, rfl⟩, by simp [litL]⟩
        · exact ⟨_, .inr (.inl ⟨rfl, rfl⟩), by simp [litL]⟩
        · exact ⟨_, .inr (.inr ⟨rfl, rfl⟩), by simp [litL]⟩
      rw [F]
      exact tell_word B b l k t ht _ _ _ _ ⟨rfl, rfl, rfl, rfl⟩ W h (by omega) hBW
    · by_cases h3 : k = 3
      · subst h3
        have F : litL (.mk 3 n s l0 ks) = litI n := by simp [litL, litI]
        rw [F] at hlen ⊢
        exact tell_int B b l n _ _ _ ⟨rfl, rfl, rfl⟩ W h (by omega) hBW hr.2.2.1 hr.2.2.2.1
      · have cells : ∀ i, i < l0.length → ∀ X, Below B W X → X.cell? ⟨bl, off + i * 5, none⟩ = some (.int .i64 (gI (c i 0))) ∧ X.cell? ⟨bl, off + i * 5 + 1, none⟩ = some (.int .i64 (gI (c i 1))) ∧ X.cell? ⟨bl, off + i * 5 + 2, none⟩ = some (.string (gS (c i 2))) ∧ X.cell? ⟨bl, off + i * 5 + 3, none⟩ = some (.slice (gP (c i 3)) (gA (c i 3)) (gB (c i 3))) ∧ X.cell? ⟨bl, off + i * 5 + 4, none⟩ = some (.slice (gP (c i 4)) (gA (c i 4)) (gB (c i 4))) := fun i hi X hX => by
          obtain ⟨f0, f1, f2, f3, f4⟩ := forms (hl i hi)
          have hwX : Below N w X := hW.trans (hX.mono hNB)
          have hcs : ∀ t, t < 5 → X.cell? ⟨bl, off + (i * 5 + t), none⟩ = some (c i t) := fun t ht => by rw [hwX.cell (p := ⟨bl, off + (i * 5 + t), none⟩) (show bl < N from (hp (by omega)).2)]; exact hc i t hi ht
          exact ⟨(hcs 0 (by omega)).trans (congrArg some f0), (hcs 1 (by omega)).trans (congrArg some f1), (hcs 2 (by omega)).trans (congrArg some f2), (hcs 3 (by omega)).trans (congrArg some f3), (hcs 4 (by omega)).trans (congrArg some f4)⟩
        have keys : ∀ i (h : i < ks.length), ∀ X, Below B W X → X.cell? ⟨qb, qo + i, none⟩ = some (.string ks[i]) := fun i hi X hX => by
          rw [(hW.trans (hX.mono hNB)).cell (p := ⟨qb, qo + i, none⟩) (show qb < N from (hq2 (by omega)).2)]
          exact hq3 i hi
        have inner : ∀ k, k < l0.length → ∀ (l' : List UInt8) (X : World), Below B W X → B ≤ X.heap.size → Has B b l' X → l'.length + ((litAll l0).getD k []).length + 16 ≤ 140737488355328 → ((litAll l0).getD k []).length ≤ 4398046511104 →
            Calls Tryz.prog 25 #[.agg #[.int .i64 (gI (c k 0)), .int .i64 (gI (c k 1)), .string (gS (c k 2)), .slice (gP (c k 3)) (gA (c k 3)) (gB (c k 3)), .slice (gP (c k 4)) (gA (c k 4)) (gB (c k 4))], putG b] X (Put B b (l' ++ (litAll l0).getD k []) X) := fun k hk l' X hX hBX hHX hz hz2 => by
          obtain ⟨f0, f1, f2, f3, f4⟩ := forms (hl k hk)
          rw [← f0, ← f1, ← f2, ← f3, ← f4]
          rw [litAll_at l0 k hk] at hz hz2 ⊢
          exact ih k hk B b l' X hNB hBX (hW.trans (hX.mono hNB)) hHX hz hz2
        by_cases h5 : k = 5
        · subst h5
          have e : litL (.mk 5 n s l0 ks) = [91] ++ joinG (fun _ => []) (fun k => (litAll l0).getD k []) l0.length ++ [93] := by
            rw [← joinG_no ks, ← joinK_G]
            simp [litL, brackL, litAll_len]
          rw [e] at hlen hbnd ⊢
          simp only [List.length_append, List.length_singleton] at hlen hbnd
          exact tell_list B b l _ _ _ _ ⟨rfl, rfl, rfl⟩ p bl off l0.length cap _ _ _ _ _ _ _ _ _ W h (by omega) hBW (by omega) (fun h => (hp h).1) cells (fun k hk l' X h1 h2 h3 h4 => inner k hk l' X h1 h2 h3 (by have := joinG_item (fun _ => []) (fun k => (litAll l0).getD k []) hk; omega) (by have := joinG_item (fun _ => []) (fun k => (litAll l0).getD k []) hk; omega))
        · by_cases h6 : k = 6
          · subst h6
            have e : litL (.mk 6 n s l0 ks) = [123] ++ joinG (keyAt true ks) (fun k => (litAll l0).getD k []) l0.length ++ [125] := by
              rw [← joinK_G]
              simp [litL, brackL, litAll_len]
            rw [e] at hlen hbnd ⊢
            simp only [List.length_append, List.length_singleton] at hlen hbnd
            exact tell_record B b l _ _ _ ⟨rfl, rfl⟩ ks q qc qb qo p bl off l0.length cap _ _ _ _ _ _ _ _ _ W h (by omega) hBW (by omega) (fun h => (hp h).1) (fun h => (hq2 h).1) (by omega) (by omega) hTX keys cells (fun k hk l' X h1 h2 h3 h4 => inner k hk l' X h1 h2 h3 (by have := joinG_item (keyAt true ks) (fun k => (litAll l0).getD k []) hk; omega) (by have := joinG_item (keyAt true ks) (fun k => (litAll l0).getD k []) hk; omega))
          · have e : litL (.mk k n s l0 ks) = quoteL s := by
              have : k ≠ 0 ∧ k ≠ 1 ∧ k ≠ 2 := by omega
              simp [litL, this, h3, h5, h6]
            rw [e] at hlen hbnd ⊢
            have hwd := quoteL_wide s
            exact tell_text B b l k (by omega) s _ _ _ ⟨rfl, rfl, rfl⟩ W h (by omega) (by omega) hBW hTX

theorem literal_c {a : Value} {x : V} (w : World) (N : Nat) (w0 : World) (hN : N ≤ w.heap.size) (hw : Below N w0 w) (hT : ∀ X, Below N w0 X → Tabs X) (ha : Holds (Old N) w0 a x) (hbnd : (litL x).length ≤ 4398046511104) :
    Calls Tryz.prog 12 #[a] w fun e w' => e = .returned (.string (S (litL x))) ∧ Below w.heap.size w w' := by
  obtain ⟨u0, u1, u2, u3, u4, rfl, hone⟩ := holds_five ha
  refine literal_of _ _ _ _ _ hone _ w (fun w1 hc hz hb => ?_)
  have hf : Below w1.heap.size w1 (fresh w1) := (Below.refl _ w1).alloc (Nat.le_refl _) _
  have := tell_c N w0 hT ha w1.heap.size w1.heap.size [] (fresh w1) (by omega) hf.size ((hw.trans (hb.mono hN)).trans (hf.mono (by omega))) (fresh_has w1) (by simp; omega) hbnd
  rw [List.nil_append] at this
  exact this
end Go.Proofs.YtgfbednfiejlfaaGreatDoor.Tl

/-
  Contract of the page's Plain at every value that reads as a tree.
-/
namespace Go.Proofs.YtgfbednfiejlfaaGreatDoor.Lit
open Go.RowKit Go.Proofs.YtgfbednfiejlfaaGreatDoor.Oct Go.Proofs.YtgfbednfiejlfaaGreatDoor.Num Go.Proofs.YtgfbednfiejlfaaGreatDoor.Utf Go.Proofs.YtgfbednfiejlfaaGreatDoor.Val Go.Proofs.YtgfbednfiejlfaaGreatDoor.Mem

set_option maxHeartbeats 4000000 in
set_option maxRecDepth 100000 in
theorem rplain_c (N : Nat) (w : World) {a : Value} {x : V} (ha : Holds (Old N) w a x) : ∀ (W : World), N ≤ W.heap.size → Below N w W →
    Calls Tryz.prog 10 #[a] W fun e W' => e = .returned (.bool (plainV x)) ∧ Kept W W' := by
  induction ha with
  | mk k n s p cap K l ks bl off c hr hp hc hK hl ih =>
    intro W hN hW
    obtain ⟨q, qc, qb, qo, rfl, -, -, -⟩ := hK
    have E : Hid (plainV (.mk k n s l ks) = (l.all plainV && decide (k < 7))) := by show _ = _; rw [plainV, plainAll_eq]
    obtain ⟨W1, hW1⟩ : ∃ W1, W1 = W.alloc (.cells #[.int .i64 k, .int .i64 n, .string s, .slice p l.length cap, .slice q ks.length qc] 26) := ⟨_, rfl⟩
    have hWX : ∀ X, Kept W1 X → Below W.heap.size W X := fun X hX => (hW1 ▸ ((Below.refl _ W).alloc (Nat.le_refl _) _)).trans (hX.mono (by rw [hW1]; simp))
    have HBX : Hid (∀ X, Kept W1 X → X.cell? ⟨W.heap.size, 0, none⟩ = some (.int .i64 k) ∧ X.cell? ⟨W.heap.size, 3, none⟩ = some (.slice p l.length cap)) := fun X hX => by
      have e : X.heap[W.heap.size]? = some (.cells #[.int .i64 k, .int .i64 n, .string s, .slice p l.length cap, .slice q ks.length qc] 26 (0, 0)) := (hX.block _ (by rw [hW1]; simp)).trans (by rw [hW1]; exact heap_alloc_new W _)
      exact ⟨cell_of_row X _ 0 _ _ _ e, cell_of_row X _ 3 _ _ _ e⟩
    have HE : Hid (∀ X, Kept W1 X → ∀ j (h : j < l.length),
        (X.cell? ⟨bl, off + j * 5, none⟩ = some (.int .i64 (gI (c j 0))) ∧ X.cell? ⟨bl, off + j * 5 + 1, none⟩ = some (.int .i64 (gI (c j 1))) ∧ X.cell? ⟨bl, off + j * 5 + 2, none⟩ = some (.string (gS (c j 2))) ∧ X.cell? ⟨bl, off + j * 5 + 3, none⟩ = some (.slice (gP (c j 3)) (gA (c j 3)) (gB (c j 3))) ∧ X.cell? ⟨bl, off + j * 5 + 4, none⟩ = some (.slice (gP (c j 4)) (gA (c j 4)) (gB (c j 4)))) ∧
        Calls Tryz.prog 10 #[.agg #[.int .i64 (gI (c j 0)), .int .i64 (gI (c j 1)), .string (gS (c j 2)), .slice (gP (c j 3)) (gA (c j 3)) (gB (c j 3)), .slice (gP (c j 4)) (gA (c j 4)) (gB (c j 4))]] X fun e X' => e = .returned (.bool (plainV l[j])) ∧ Kept X X') := fun X hX j h => by
      obtain ⟨f0, f1, f2, f3, f4⟩ := forms (hl j h)
      have hwX : Below N w X := hW.trans ((hWX X hX).mono hN)
      have hcs : ∀ t, t < 5 → X.cell? ⟨bl, off + (j * 5 + t), none⟩ = some (c j t) := fun t ht => by rw [hwX.cell (p := ⟨bl, off + (j * 5 + t), none⟩) (show bl < N from (hp (by omega)).2)]; exact hc j t h ht
      refine ⟨⟨(hcs 0 (by omega)).trans (congrArg some f0), (hcs 1 (by omega)).trans (congrArg some f1), (hcs 2 (by omega)).trans (congrArg some f2), (hcs 3 (by omega)).trans (congrArg some f3), (hcs 4 (by omega)).trans (congrArg some f4)⟩, ?_⟩
      rw [← f0, ← f1, ← f2, ← f3, ← f4]
      exact ih j h X (Nat.le_trans hN (hWX X hX).size) hwX
    have HP := Lib.hid hp
    have HW := Lib.hid hWX
    have HR := Lib.hid hr
    have hl80 : l.length * 80 ≤ 140737488351232 := hr.2.2.2.2.2
    clear hp hc hl ih hWX hr
    go_enter Tryz.func10, Tryz.ntmps10
    go_wp2_with fail
    rw [← hW1]
    clear hW1
    go_loopw [3] (fun i wr => ∃ j : Nat, j ≤ l.length ∧ i = .int .i64 j ∧ Hid ((l.take j).all plainV = true) ∧ Hid (Kept W1 wr)) (fun i _ => l.length - (intOf i).toNat)
    case atStart => exact ⟨0, Nat.zero_le _, rfl, rfl, Below.refl _ _⟩
    case round =>
      obtain ⟨j, hj, rfl, hall, hb⟩ := hrel
      obtain ⟨x0, x3⟩ := HBX.out wr hb.out
      by_cases hlt : j < l.length
      · obtain ⟨⟨e0, e1, e2, e3, e4⟩, hcall⟩ := HE.out wr hb.out j hlt
        obtain ⟨rfl, -⟩ := HP.out (by omega)
        have h1 : (0 : Int) ≤ (j : Int) := by omega
        have h2 : (j : Int) < (l.length : Int) := by omega
        cases hq : plainV l[j] with
        | true =>
          rw [hq] at hcall
          have F : Hid ((l.take (j + 1)).all plainV = true) := by
            show _ = _
            rw [List.take_succ_eq_append_getElem hlt, List.all_append, hall.out]
            simp [hq]
          clear hq
          go_wp2_with (go_at_call 10; refine hcall.mono ?_; rintro e Z ⟨rfl, hZ⟩)
          go_roundw
          case rel => exact ⟨j + 1, by omega, by go_num, F, kept_trans hb.out hZ⟩
          case measure => simp [intOf]; omega
        | false =>
          rw [hq] at hcall
          have F : Hid (plainV (.mk k n s l ks) = false) := by
            show _ = _
            rw [E.out]
            have : l.all plainV = false := by
              rw [Bool.eq_false_iff]
              intro h
              have := List.all_eq_true.1 h l[j] (List.getElem_mem _)
              rw [hq] at this
              cases this
            rw [this]; rfl
          clear hq
          go_wp2_with (go_at_call 10; refine hcall.mono ?_; rintro e Z ⟨rfl, hZ⟩)
          go_ret
          exact ⟨by rw [F.out]; rfl, HW.out Z (kept_trans hb.out hZ)⟩
      · have hjl : j = l.length := by omega
        have F : Hid (plainV (.mk k n s l ks) = decide (k < 7)) := by
          show _ = _
          rw [E.out]
          have := hall.out
          rw [hjl, List.take_length] at this
          rw [this, Bool.true_and]
        subst hjl
        go_wp2
        go_ret
        exact ⟨by rw [F.out]; rfl, HW.out wr hb.out⟩
end Go.Proofs.YtgfbednfiejlfaaGreatDoor.Lit

/-
  Contract of the page's Name: is it a name?; it changes nothing.
-/
namespace Go.Proofs.YtgfbednfiejlfaaGreatDoor.Oct
open Go.RowKit

/-- May the octet at place k stand there in a name? -/
def okAt (s : ByteArray) (k : Nat) : Bool := nameI ((at' s k).toNat : Int) && (k != 0 || !digitI ((at' s k).toNat : Int))

theorem nameB_eq (s : ByteArray) : nameB s.data.toList = (decide (1 ≤ s.size ∧ s.size ≤ 32) && (List.range s.size).all (okAt s)) := by
  unfold nameB
  rw [size_list, ← all_at, at_zero]
  by_cases h : 1 ≤ s.size ∧ s.size ≤ 32
  · rw [decide_eq_true h, Bool.true_and, Bool.true_and, Bool.eq_iff_iff]
    simp only [Bool.and_eq_true, List.all_eq_true, List.mem_range, okAt, Bool.or_eq_true, bne_iff_ne, Bool.not_eq_true']
    constructor
    · rintro ⟨h0, h1⟩ k hk
      refine ⟨h1 k hk, ?_⟩
      by_cases e : k = 0
      · subst e; exact Or.inr h0
      · exact Or.inl e
    · intro H
      refine ⟨?_, fun k hk => (H k hk).1⟩
      rcases (H 0 (by omega)).2 with e | e
      · exact absurd rfl e
      · exact e
  · rw [decide_eq_false h]; rfl

theorem nameB_bad (s : ByteArray) (k : Nat) (hk : k < s.size) (h : okAt s k = false) : nameB s.data.toList = false := by
  rw [nameB_eq]
  have : (List.range s.size).all (okAt s) = false := by
    rw [Bool.eq_false_iff]
    intro H
    have := List.all_eq_true.1 H k (by simpa using hk)
    rw [h] at this
    cases this
  rw [this, Bool.and_false]

theorem nameB_good (s : ByteArray) (h : ∀ k, k < s.size → okAt s k = true) : nameB s.data.toList = decide (1 ≤ s.size ∧ s.size ≤ 32) := by
  rw [nameB_eq]
  have : (List.range s.size).all (okAt s) = true := List.all_eq_true.2 fun k hk => h k (by simpa using hk)
  rw [this, Bool.and_true]

set_option maxHeartbeats 2000000 in
theorem rname_c (s : ByteArray) (w : World) (hs : s.size ≤ 9223372036854775807) :
    Calls Tryz.prog 50 #[.string s] w fun e w' => e = .returned (.bool (nameB s.data.toList)) ∧ w = w' := by
  go_enter Tryz.func50, Tryz.ntmps50
  go_wp2
  go_loop [3] (fun i => ∃ k : Nat, k ≤ s.size ∧ i = .int .i64 k ∧ Hid (∀ j, j < k → okAt s j = true)) (fun i => s.size - (intOf i).toNat)
  case atStart => exact ⟨0, Nat.zero_le _, rfl, fun j hj => absurd hj (Nat.not_lt_zero _)⟩
  case round =>
    obtain ⟨k, hk, rfl, hok⟩ := hrel
    by_cases hlt : k < s.size
    · have hb1 : (s[k].toNat : Int) ≤ 255 := by have := s[k].toNat_lt; omega
      have hE : Hid (okAt s k = (nameI (s[k].toNat : Int) && (k != 0 || !digitI (s[k].toNat : Int)))) := by show _ = _; unfold okAt; rw [← at_eq s k hlt]
      have hl := fun w => rletter_c (s[k].toNat : Int) w (by omega) (by omega)
      have hd := fun w => rdigit_c (s[k].toNat : Int) w (by omega) (by omega)
      have next : okAt s k = true → ∀ j, j < k + 1 → okAt s j = true := fun h j hj => by
        by_cases e : j = k
        · rw [e]; exact h
        · exact hok.out j (by omega)
      have NX := Lib.hid next
      clear next
      cases hL : letterI (s[k].toNat : Int) with
      | true =>
        simp only [hL] at hl
        have hF : Hid (okAt s k = true) := by
          show _ = _
          rw [hE.out]
          unfold letterI at hL
          have hL' := of_decide_eq_true hL
          rw [nameI, digitI, decide_eq_true (by omega), decide_eq_false (by omega)]
          simp
        clear hL hE
        go_wp2_with (go_at_call 67; refine (hl _).mono ?_; rintro e w' ⟨rfl, rfl⟩)
        go_round
        case rel => exact ⟨k + 1, by omega, by go_num, NX.out hF.out⟩
        case measure => simp [intOf]; omega
      | false =>
        simp only [hL] at hl
        have hL' := of_decide_eq_false hL
        by_cases h95 : (s[k].toNat : Int) = 95
        · have hF : Hid (okAt s k = true) := by
            show _ = _
            rw [hE.out, nameI, digitI, decide_eq_true (by omega), decide_eq_false (by omega)]
            simp
          have h95b : ((s[k].toNat : Int) != 95) = false := by simp [h95]
          clear hL hE hL' h95
          go_wp2_with (go_at_call 67; refine (hl _).mono ?_; rintro e w' ⟨rfl, rfl⟩)
          go_round
          case rel => exact ⟨k + 1, by omega, by go_num, NX.out hF.out⟩
          case measure => simp [intOf]; omega
        · have h95b : ((s[k].toNat : Int) != 95) = true := by simp [h95]
          by_cases h0 : k = 0
          · have hF : Hid (okAt s k = false) := by
              show _ = _
              have hk0 : (k != 0) = false := by simp [h0]
              rw [hE.out, hk0, Bool.false_or, Bool.and_eq_false_iff]
              by_cases hdd : (48 : Int) ≤ (s[k].toNat : Int) ∧ (s[k].toNat : Int) ≤ 57
              · right; rw [digitI, decide_eq_true hdd]; rfl
              · left; rw [nameI, decide_eq_false (by omega)]
            have h0b : ((k : Int) == 0) = true := by simp [h0]
            clear hL hE hL' h95 h0
            go_wp2_with (go_at_call 67; refine (hl _).mono ?_; rintro e w' ⟨rfl, rfl⟩)
            go_ret
            exact ⟨ret_bool (nameB_bad s k hlt hF.out).symm, rfl⟩
          · have h0b : ((k : Int) == 0) = false := by simp; omega
            cases hD : digitI (s[k].toNat : Int) with
            | true =>
              simp only [hD] at hd
              have hF : Hid (okAt s k = true) := by
                show _ = _
                have hD' := of_decide_eq_true hD
                rw [hE.out, nameI, decide_eq_true (by omega)]
                simp [h0]
              clear hL hE hL' h95 h0 hD
              go_wp2_with (first
                | (go_at_call 67; refine (hl _).mono ?_; rintro e w' ⟨rfl, rfl⟩)
                | (go_at_call 68; refine (hd _).mono ?_; rintro e w' ⟨rfl, rfl⟩))
              go_round
              case rel => exact ⟨k + 1, by omega, by go_num, NX.out hF.out⟩
              case measure => simp [intOf]; omega
            | false =>
              simp only [hD] at hd
              have hF : Hid (okAt s k = false) := by
                show _ = _
                have hD' := of_decide_eq_false hD
                rw [hE.out, nameI, decide_eq_false (by omega)]
                rfl
              clear hL hE hL' h95 h0 hD
              go_wp2_with (first
                | (go_at_call 67; refine (hl _).mono ?_; rintro e w' ⟨rfl, rfl⟩)
                | (go_at_call 68; refine (hd _).mono ?_; rintro e w' ⟨rfl, rfl⟩))
              go_ret
              exact ⟨ret_bool (nameB_bad s k hlt hF.out).symm, rfl⟩
    · have hfin : Hid (nameB s.data.toList = decide (1 ≤ s.size ∧ s.size ≤ 32)) := nameB_good s (fun j hj => hok.out j (by omega))
      go_wp2
      all_goals go_ret
      all_goals (refine ⟨ret_bool ?_, rfl⟩; rw [hfin.out, Bool.eq_iff_iff]; simp; try omega)

/-- Does p begin s? -/
def beginsB (p s : List UInt8) : Bool := decide (p.length ≤ s.length) && (s.take p.length == p)
end Go.Proofs.YtgfbednfiejlfaaGreatDoor.Oct

/-
  Contract of the page's Rising, as far as it is wanted: it answers, and changes nothing older.
-/
namespace Go.Proofs.YtgfbednfiejlfaaGreatDoor.Lit
open Go.RowKit Go.Proofs.YtgfbednfiejlfaaGreatDoor.Oct Go.Proofs.YtgfbednfiejlfaaGreatDoor.Num Go.Proofs.YtgfbednfiejlfaaGreatDoor.Utf Go.Proofs.YtgfbednfiejlfaaGreatDoor.Val Go.Proofs.YtgfbednfiejlfaaGreatDoor.Mem

theorem quiet_same' {P : Program} {f : FuncId} {args : Array Value} {w : World} {n : Nat} {v : Value}
    (h : Calls P f args (w.drewN n) fun e w' => e = .returned v ∧ w.drewN n = w') : Calls P f args (w.drewN n) fun e w'' => e = .returned v ∧ ∃ m, w'' = w.drewN m :=
  h.mono fun _ _ ⟨he, hm⟩ => ⟨he, n, hm.symm⟩

set_option maxHeartbeats 4000000 in
set_option maxRecDepth 100000 in
theorem rising_c (ks : List ByteArray) (q : Option Addr) (qc qb qo : Nat) (W : World) (hq1 : ks.length * 16 ≤ 140737488351232 ∧ ∀ s ∈ ks, s.size ≤ 140737488351232)
    (hq2 : 0 < ks.length → q = some ⟨qb, qo, none⟩ ∧ qb < W.heap.size) (hq3 : ∀ i (h : i < ks.length), W.cell? ⟨qb, qo + i, none⟩ = some (.string ks[i])) :
    Calls Tryz.prog 32 #[.slice q ks.length qc] W fun e w' => ∃ b, e = .returned (.bool b) ∧ Kept W w' := by
  have hn : ks.length * 16 ≤ 140737488351232 := hq1.1
  have HC : Hid (∀ X, Kept W X → ∀ i (h : i < ks.length), X.cell? ⟨qb, qo + i, none⟩ = some (.string ks[i])) := fun X hX i h => (hX.cell (p := ⟨qb, qo + i, none⟩) (hq2 (by omega)).2).trans (hq3 i h)
  have HQ := Lib.hid hq2
  have HS := Lib.hid hq1.2
  clear hq1 hq2 hq3
  go_enter Tryz.func32, Tryz.ntmps32
  go_wp2_with fail
  go_loopw [3] (fun i wr => ∃ j : Nat, j ≤ ks.length ∧ i = .int .i64 j ∧ Hid (Kept W wr)) (fun i _ => ks.length - (intOf i).toNat)
  case atStart => exact ⟨0, Nat.zero_le _, rfl, Below.refl _ _⟩
  case round =>
    obtain ⟨j, hj, rfl, hb⟩ := hrel
    by_cases hlt : j < ks.length
    · obtain ⟨rfl, -⟩ := HQ.out (by omega)
      have e0 := HC.out wr hb.out j hlt
      have hnm : ∀ n, Calls Tryz.prog 50 #[.string ks[j]] (wr.drewN n) fun e w' => e = .returned (.bool (nameB ks[j].data.toList)) ∧ wr.drewN n = w' := fun n => rname_c ks[j] _ (by have := HS.out ks[j] (List.getElem_mem _); omega)
      have h1 : (0 : Int) ≤ (j : Int) := by omega
      have h2 : (j : Int) < (ks.length : Int) := by omega
      cases hq : nameB ks[j].data.toList with
      | false =>
        simp only [hq] at hnm
        clear hq
        generalize ks[j] = key at e0 hnm
        go_wp2_with fail
        go_quiet ((go_at_call 50; exact quiet_same' (hnm _)))
        rename_i nq _
        go_wp2
        go_ret
        exact ⟨_, rfl, Go.Proofs.YtgfbednfiejlfaaGreatDoor.Utf.below_drewN hb.out _⟩
      | true =>
        simp only [hq] at hnm
        clear hq
        by_cases hj0 : j = 0
        · subst hj0
          have d0 : decide ((0 : Int) < ((0 : Nat) : Int)) = false := by decide
          rw [Nat.add_zero] at e0
          generalize ks[0] = key at e0 hnm
          go_wp2_with fail
          go_quiet ((go_at_call 50; exact quiet_same' (hnm _)))
          rename_i nq _
          go_wp2
          go_roundw
          case rel => exact ⟨0 + 1, by omega, by go_num, Go.Proofs.YtgfbednfiejlfaaGreatDoor.Utf.below_drewN hb.out _⟩
          case measure => simp [intOf]; omega
        · obtain ⟨m, rfl⟩ : ∃ m, j = m + 1 := ⟨j - 1, by omega⟩
          have e1 := HC.out wr hb.out m (by omega)
          have h3 : (m : Int) < (ks.length : Int) := by omega
          have h4 : (0 : Int) ≤ (m : Int) := by omega
          have h5 : (m : Int) + 1 < (ks.length : Int) := by omega
          have h6 : (0 : Int) ≤ (m : Int) + 1 := by omega
          obtain ⟨key, hkey⟩ : ∃ key, ks[m + 1]'hlt = key := ⟨_, rfl⟩
          obtain ⟨prev, hprev⟩ : ∃ prev, ks[m]'(by omega) = prev := ⟨_, rfl⟩
          rw [hkey] at e0 hnm
          rw [hprev] at e1
          have hw : IntKind.i64.wrap (m : Int) = (m : Int) := by rw [IntKind.wrap_i64]; omega
          clear hkey hprev h1 h2
          go_wp2_with fail
          go_quiet ((go_at_call 50; exact quiet_same' (hnm _)))
          rename_i nq _
          go_wp2
          · go_ret
            exact ⟨_, rfl, Go.Proofs.YtgfbednfiejlfaaGreatDoor.Utf.below_drewN hb.out _⟩
          · exact ⟨⟨m + 1 + 1, by omega, by go_num, Go.Proofs.YtgfbednfiejlfaaGreatDoor.Utf.below_drewN hb.out _⟩, by simp [intOf]; omega⟩
    · go_wp2
      go_ret
      exact ⟨_, rfl, hb.out⟩
end Go.Proofs.YtgfbednfiejlfaaGreatDoor.Lit

/-
  Contract of the page's check at what is neither a list nor a record, as far as it is wanted.
-/
namespace Go.Proofs.YtgfbednfiejlfaaGreatDoor.Lit
open Go.RowKit Go.Proofs.YtgfbednfiejlfaaGreatDoor.Oct Go.Proofs.YtgfbednfiejlfaaGreatDoor.Num Go.Proofs.YtgfbednfiejlfaaGreatDoor.Utf Go.Proofs.YtgfbednfiejlfaaGreatDoor.Val Go.Proofs.YtgfbednfiejlfaaGreatDoor.Mem

/-- What is wanted of a value that may be: lists and records stand at most 16 deep, texts and lists are not too long. -/
inductive Good : Nat → V → Prop where
  | mk (d : Nat) (k n : Int) (s : ByteArray) (l : List V) (ks : List ByteArray) (hk : 0 ≤ k ∧ k ≤ 11) (hd : k = 5 ∨ k = 6 → d < 16) (hs : s.size ≤ 4096) (hl : l.length ≤ 1024) (hks : ks.length ≤ 1024) (hn : ¬ (k = 5 ∨ k = 6) → l = [])
      (hall : ∀ i (h : i < l.length), Good (d + 1) l[i]) : Good d (.mk k n s l ks)

/-- What check leaves. -/
def Checks (d : Nat) (x : V) (W : World) (e : Ending) (W' : World) : Prop := ∃ r : Int, e = .returned (.int .i64 r) ∧ (r = 0 → Good d x) ∧ Kept W W'

set_option maxHeartbeats 16000000 in
set_option maxRecDepth 100000 in
theorem check_bare (k n : Int) (s : ByteArray) (p : Option Addr) (cap : Nat) (q : Option Addr) (qc : Nat) (l : List V) (ks : List ByteArray) (d : Nat) (W : World) (hl80 : l.length * 80 ≤ 140737488351232) (hk16 : ks.length * 16 ≤ 140737488351232) (hs47 : s.size ≤ 140737488351232)
    (hk : k = 0 ∨ k = 1 ∨ k = 2 ∨ k = 3) :
    Calls Tryz.prog 22 #[.agg #[.int .i64 k, .int .i64 n, .string s, .slice p l.length cap, .slice q ks.length qc], .int .i64 (d : Int)] W (Checks d (.mk k n s l ks) W) := by
  have HB0 := Lib.hid (fun o => (Below.refl W.heap.size W).alloc (Nat.le_refl _) o)
  cases l with
  | nil =>
    have HG : Hid (s.size ≤ 4096 → ks.length ≤ 1024 → Good d (.mk k n s [] ks)) := fun h1 h3 =>
      .mk d k n s [] ks (by omega) (fun h => by omega) h1 (by simp) h3 (fun _ => rfl) (fun i h => absurd h (by simp))
    rcases hk with rfl | rfl | rfl | rfl
    all_goals
      go_enter Tryz.func22, Tryz.ntmps22
      go_wp2
      all_goals first
        | (go_ret; exact ⟨_, rfl, fun h => absurd h (by decide), HB0.out _⟩)
        | skip
      all_goals
        have h1 : s.size ≤ 4096 := by omega
        have h2 : ks.length ≤ 1024 := by omega
        have G := Lib.hid (HG.out h1 h2)
        go_loopw [7, 8] (fun i _ wr => ∃ c0 c1 c2 c4 : Value, i = .int .i64 0 ∧ wr = W.alloc (.cells #[c0, c1, c2, .slice p 0 cap, c4] 26)) (fun _ _ _ => 0)
        case atStart => exact ⟨_, _, _, _, rfl, rfl⟩
        case round =>
          obtain ⟨c0, c1, c2, c4, rfl, rfl⟩ := hrel
          go_wp2
          go_ret
          exact ⟨0, rfl, fun _ => G.out, HB0.out _⟩
  | cons x l =>
    rw [List.length_cons] at hl80 ⊢
    rcases hk with rfl | rfl | rfl | rfl
    all_goals
      go_enter Tryz.func22, Tryz.ntmps22
      go_wp2
      all_goals (go_ret; exact ⟨_, rfl, fun h => absurd h (by decide), HB0.out _⟩)

set_option maxHeartbeats 16000000 in
set_option maxRecDepth 100000 in
theorem check_text (k n : Int) (s : ByteArray) (p : Option Addr) (cap : Nat) (q : Option Addr) (qc : Nat) (l : List V) (ks : List ByteArray) (d : Nat) (W : World) (hl80 : l.length * 80 ≤ 140737488351232) (hk16 : ks.length * 16 ≤ 140737488351232) (hs47 : s.size ≤ 140737488351232)
    (hk : k = 4 ∨ k = 7 ∨ k = 8 ∨ k = 9 ∨ k = 10 ∨ k = 11) :
    Calls Tryz.prog 22 #[.agg #[.int .i64 k, .int .i64 n, .string s, .slice p l.length cap, .slice q ks.length qc], .int .i64 (d : Int)] W (Checks d (.mk k n s l ks) W) := by
  have HB0 := Lib.hid (fun o => (Below.refl W.heap.size W).alloc (Nat.le_refl _) o)
  cases l with
  | nil =>
    have HG : Hid (s.size ≤ 4096 → ks.length ≤ 1024 → Good d (.mk k n s [] ks)) := fun h1 h3 =>
      .mk d k n s [] ks (by omega) (fun h => by omega) h1 (by simp) h3 (fun _ => rfl) (fun i h => absurd h (by simp))
    rcases hk with rfl | rfl | rfl | rfl | rfl | rfl
    all_goals
      go_enter Tryz.func22, Tryz.ntmps22
      go_wp2
      all_goals first
        | (go_ret; exact ⟨_, rfl, fun h => absurd h (by decide), HB0.out _⟩)
        | skip
      all_goals
        have h1 : s.size ≤ 4096 := by omega
        have h2 : ks.length ≤ 1024 := by omega
        have G := Lib.hid (HG.out h1 h2)
        go_loopw [7, 8] (fun i _ wr => ∃ c0 c1 c2 c4 : Value, i = .int .i64 0 ∧ wr = W.alloc (.cells #[c0, c1, c2, .slice p 0 cap, c4] 26)) (fun _ _ _ => 0)
        case atStart => exact ⟨_, _, _, _, rfl, rfl⟩
        case round =>
          obtain ⟨c0, c1, c2, c4, rfl, rfl⟩ := hrel
          go_wp2
          go_ret
          exact ⟨0, rfl, fun _ => G.out, HB0.out _⟩
  | cons x l =>
    rw [List.length_cons] at hl80 ⊢
    rcases hk with rfl | rfl | rfl | rfl | rfl | rfl
    all_goals
      go_enter Tryz.func22, Tryz.ntmps22
      go_wp2
      all_goals (go_ret; exact ⟨_, rfl, fun h => absurd h (by decide), HB0.out _⟩)

end Go.Proofs.YtgfbednfiejlfaaGreatDoor.Lit

/-
  Contract of the page's check at a Kind that is none, as far as it is wanted.
-/
namespace Go.Proofs.YtgfbednfiejlfaaGreatDoor.Lit
open Go.RowKit Go.Proofs.YtgfbednfiejlfaaGreatDoor.Oct Go.Proofs.YtgfbednfiejlfaaGreatDoor.Num Go.Proofs.YtgfbednfiejlfaaGreatDoor.Utf Go.Proofs.YtgfbednfiejlfaaGreatDoor.Val Go.Proofs.YtgfbednfiejlfaaGreatDoor.Mem

set_option maxHeartbeats 16000000 in
set_option maxRecDepth 100000 in
theorem check_out (k n : Int) (s : ByteArray) (p : Option Addr) (cap : Nat) (q : Option Addr) (qc : Nat) (l : List V) (ks : List ByteArray) (d : Nat) (W : World) (hl80 : l.length * 80 ≤ 140737488351232)
    (hk : k < 0 ∨ 11 < k) :
    Calls Tryz.prog 22 #[.agg #[.int .i64 k, .int .i64 n, .string s, .slice p l.length cap, .slice q ks.length qc], .int .i64 (d : Int)] W (Checks d (.mk k n s l ks) W) := by
  have HB0 := Lib.hid (fun o => (Below.refl W.heap.size W).alloc (Nat.le_refl _) o)
  have d4 : (k == 4) = false := by simp; omega
  have d5 : (k == 5) = false := by simp; omega
  have d6 : (k == 6) = false := by simp; omega
  rcases hk with hk | hk
  · have d7 : decide (7 ≤ k) = false := by simp; omega
    have d0 : decide (k < 0) = true := by simp; omega
    go_enter Tryz.func22, Tryz.ntmps22
    go_wp2
    all_goals (go_ret; exact ⟨_, rfl, fun h => absurd h (by decide), HB0.out _⟩)
  · have d7 : decide (7 ≤ k) = true := by simp; omega
    have d0 : decide (k < 0) = false := by simp; omega
    have d11 : decide (11 < k) = true := by simp; omega
    go_enter Tryz.func22, Tryz.ntmps22
    go_wp2
    all_goals (go_ret; exact ⟨_, rfl, fun h => absurd h (by decide), HB0.out _⟩)

theorem kept_box {W X : World} {c0 c1 c2 c3 c4 : Value} (h : Kept (W.alloc (.cells #[c0, c1, c2, c3, c4] 26)) X) :
    (X.cell? ⟨W.heap.size, 0, none⟩ = some c0 ∧ X.cell? ⟨W.heap.size, 1, none⟩ = some c1 ∧ X.cell? ⟨W.heap.size, 2, none⟩ = some c2 ∧ X.cell? ⟨W.heap.size, 3, none⟩ = some c3 ∧ X.cell? ⟨W.heap.size, 4, none⟩ = some c4) ∧ Kept W X := by
  have e : X.heap[W.heap.size]? = some (.cells #[c0, c1, c2, c3, c4] 26 (0, 0)) := (h.block _ (by simp)).trans (heap_alloc_new W _)
  exact ⟨⟨cell_of_row X _ 0 _ _ _ e, cell_of_row X _ 1 _ _ _ e, cell_of_row X _ 2 _ _ _ e, cell_of_row X _ 3 _ _ _ e, cell_of_row X _ 4 _ _ _ e⟩, ((Below.refl _ W).alloc (Nat.le_refl _) _).trans (h.mono (by simp))⟩
end Go.Proofs.YtgfbednfiejlfaaGreatDoor.Lit

/-
  Contract of the page's check at a list and at a record: it answers, and changes nothing older.
-/
namespace Go.Proofs.YtgfbednfiejlfaaGreatDoor.Lit
open Go.RowKit Go.Proofs.YtgfbednfiejlfaaGreatDoor.Oct Go.Proofs.YtgfbednfiejlfaaGreatDoor.Num Go.Proofs.YtgfbednfiejlfaaGreatDoor.Utf Go.Proofs.YtgfbednfiejlfaaGreatDoor.Val Go.Proofs.YtgfbednfiejlfaaGreatDoor.Mem

/-- It answers a number, and changes nothing older. -/
def Some1 (W : World) (e : Ending) (W' : World) : Prop := ∃ r : Int, e = .returned (.int .i64 r) ∧ Kept W W'

theorem kept_box' {W X : World} {c0 c1 c2 c3 c4 : Value} (h : Kept (W.alloc (.cells #[c0, c1, c2, c3, c4] 26)) X) :
    (X.cell? ⟨W.heap.size, 0, none⟩ = some c0 ∧ X.cell? ⟨W.heap.size, 1, none⟩ = some c1 ∧ X.cell? ⟨W.heap.size, 2, none⟩ = some c2 ∧ X.cell? ⟨W.heap.size, 3, none⟩ = some c3 ∧ X.cell? ⟨W.heap.size, 4, none⟩ = some c4) ∧ Kept W X := by
  have e : X.heap[W.heap.size]? = some (.cells #[c0, c1, c2, c3, c4] 26 (0, 0)) := (h.block _ (by simp)).trans (heap_alloc_new W _)
  exact ⟨⟨cell_of_row X _ 0 _ _ _ e, cell_of_row X _ 1 _ _ _ e, cell_of_row X _ 2 _ _ _ e, cell_of_row X _ 3 _ _ _ e, cell_of_row X _ 4 _ _ _ e⟩, ((Below.refl _ W).alloc (Nat.le_refl _) _).trans (h.mono (by simp))⟩

set_option maxHeartbeats 4000000 in
set_option maxRecDepth 100000 in
theorem check_list (n : Int) (s : ByteArray) (p : Option Addr) (cap : Nat) (q : Option Addr) (qc kl : Nat) (bl off m : Nat) (k1 n1 : Nat → Int) (s1 : Nat → ByteArray) (p1 q1 : Nat → Option Addr) (a1 b1 c1 d1 : Nat → Nat) (d : Nat) (hd : d < 16) (W : World) (hl80 : m * 80 ≤ 140737488351232) (hk16 : kl * 16 ≤ 140737488351232)
    (hp : 0 < m → p = some ⟨bl, off, none⟩)
    (hc : ∀ i, i < m → ∀ X, Kept W X → (X.cell? ⟨bl, off + i * 5, none⟩ = some (.int .i64 (k1 i)) ∧ X.cell? ⟨bl, off + i * 5 + 1, none⟩ = some (.int .i64 (n1 i)) ∧ X.cell? ⟨bl, off + i * 5 + 2, none⟩ = some (.string (s1 i)) ∧ X.cell? ⟨bl, off + i * 5 + 3, none⟩ = some (.slice (p1 i) (a1 i) (b1 i)) ∧ X.cell? ⟨bl, off + i * 5 + 4, none⟩ = some (.slice (q1 i) (c1 i) (d1 i))) ∧
      Calls Tryz.prog 22 #[.agg #[.int .i64 (k1 i), .int .i64 (n1 i), .string (s1 i), .slice (p1 i) (a1 i) (b1 i), .slice (q1 i) (c1 i) (d1 i)], .int .i64 ((d : Int) + 1)] X (Some1 X)) :
    Calls Tryz.prog 22 #[.agg #[.int .i64 5, .int .i64 n, .string s, .slice p m cap, .slice q kl qc], .int .i64 (d : Int)] W (Some1 W) := by
  have HB0 := Lib.hid (fun o => (Below.refl W.heap.size W).alloc (Nat.le_refl _) o)
  have HP := Lib.hid hp
  have HC := Lib.hid hc
  have hd1 : ((d : Int) == 16) = false := by simp; omega
  clear hp hc
  rcases Nat.eq_zero_or_pos kl with rfl | hkl
  rotate_left
  · go_enter Tryz.func22, Tryz.ntmps22
    go_wp2
    all_goals (go_ret; exact ⟨_, rfl, HB0.out _⟩)
  go_enter Tryz.func22, Tryz.ntmps22
  go_wp2
  all_goals first
    | (go_ret; exact ⟨_, rfl, HB0.out _⟩)
    | skip
  all_goals
    go_loopw [7, 8] (fun i _ wr => ∃ j : Nat, j ≤ m ∧ i = .int .i64 j ∧ ∃ c0 c1 c2 c4 : Value, Hid (Kept (W.alloc (.cells #[c0, c1, c2, .slice p m cap, c4] 26)) wr)) (fun i _ _ => m - (intOf i).toNat)
    case atStart => exact ⟨0, Nat.zero_le _, rfl, _, _, _, _, Below.refl _ _⟩
    case round =>
      obtain ⟨j, hj, rfl, z0, z1, z2, z4, hb⟩ := hrel
      obtain ⟨⟨-, -, -, x3, -⟩, hW⟩ := kept_box' hb.out
      by_cases hlt : j < m
      · obtain ⟨⟨e0, e1, e2, e3, e4⟩, hcall⟩ := HC.out j hlt wr hW
        obtain rfl := HP.out (by omega)
        have h1 : (0 : Int) ≤ (j : Int) := by omega
        have h2 : (j : Int) < (m : Int) := by omega
        have h3 : (d : Int) < 16 := by omega
        have HW := Lib.hid hW
        clear hW
        generalize k1 j = y0 at e0 hcall
        generalize n1 j = y1 at e1 hcall
        generalize s1 j = y2 at e2 hcall
        generalize p1 j = y3 at e3 hcall
        generalize a1 j = y3a at e3 hcall
        generalize b1 j = y3b at e3 hcall
        generalize q1 j = y4 at e4 hcall
        generalize c1 j = y4a at e4 hcall
        generalize d1 j = y4b at e4 hcall
        go_wp2_with (go_at_call 22; refine hcall.mono ?_; rintro e Z ⟨r, rfl, hZ⟩; have HZ := Lib.hid hZ; clear hZ)
        · go_ret
          exact ⟨_, rfl, kept_trans HW.out HZ.out⟩
        · go_roundw
          case rel => exact ⟨j + 1, by omega, by go_num, z0, z1, z2, z4, kept_trans hb.out HZ.out⟩
          case measure => simp [intOf]; omega
      · have hjl : j = m := by omega
        subst hjl
        go_wp2
        go_ret
        exact ⟨_, rfl, hW⟩
set_option maxHeartbeats 4000000 in
set_option maxRecDepth 100000 in
theorem check_deep (k n : Int) (hk : k = 5 ∨ k = 6) (s : ByteArray) (p : Option Addr) (cap : Nat) (q : Option Addr) (qc kl m : Nat) (W : World) :
    Calls Tryz.prog 22 #[.agg #[.int .i64 k, .int .i64 n, .string s, .slice p m cap, .slice q kl qc], .int .i64 16] W (Some1 W) := by
  have HB0 := Lib.hid (fun o => (Below.refl W.heap.size W).alloc (Nat.le_refl _) o)
  rcases hk with rfl | rfl
  all_goals
    go_enter Tryz.func22, Tryz.ntmps22
    go_wp2
    go_ret
    exact ⟨_, rfl, HB0.out _⟩

end Go.Proofs.YtgfbednfiejlfaaGreatDoor.Lit

/-
  Contract of the page's check at a record: it answers, and changes nothing older.
-/
namespace Go.Proofs.YtgfbednfiejlfaaGreatDoor.Lit
open Go.RowKit Go.Proofs.YtgfbednfiejlfaaGreatDoor.Oct Go.Proofs.YtgfbednfiejlfaaGreatDoor.Num Go.Proofs.YtgfbednfiejlfaaGreatDoor.Utf Go.Proofs.YtgfbednfiejlfaaGreatDoor.Val Go.Proofs.YtgfbednfiejlfaaGreatDoor.Mem

set_option maxHeartbeats 4000000 in
set_option maxRecDepth 100000 in
theorem check_record (n : Int) (s : ByteArray) (p : Option Addr) (cap : Nat) (q : Option Addr) (qc kl : Nat) (bl off m : Nat) (k1 n1 : Nat → Int) (s1 : Nat → ByteArray) (p1 q1 : Nat → Option Addr) (a1 b1 c1 d1 : Nat → Nat) (d : Nat) (hd : d < 16) (W : World) (hl80 : m * 80 ≤ 140737488351232) (hk16 : kl * 16 ≤ 140737488351232)
    (hris : ∀ o, Calls Tryz.prog 32 #[.slice q kl qc] (W.alloc o) fun e w' => ∃ b, e = .returned (.bool b) ∧ Kept (W.alloc o) w')
    (hp : 0 < m → p = some ⟨bl, off, none⟩)
    (hc : ∀ i, i < m → ∀ X, Kept W X → (X.cell? ⟨bl, off + i * 5, none⟩ = some (.int .i64 (k1 i)) ∧ X.cell? ⟨bl, off + i * 5 + 1, none⟩ = some (.int .i64 (n1 i)) ∧ X.cell? ⟨bl, off + i * 5 + 2, none⟩ = some (.string (s1 i)) ∧ X.cell? ⟨bl, off + i * 5 + 3, none⟩ = some (.slice (p1 i) (a1 i) (b1 i)) ∧ X.cell? ⟨bl, off + i * 5 + 4, none⟩ = some (.slice (q1 i) (c1 i) (d1 i))) ∧
      Calls Tryz.prog 22 #[.agg #[.int .i64 (k1 i), .int .i64 (n1 i), .string (s1 i), .slice (p1 i) (a1 i) (b1 i), .slice (q1 i) (c1 i) (d1 i)], .int .i64 ((d : Int) + 1)] X (Some1 X)) :
    Calls Tryz.prog 22 #[.agg #[.int .i64 6, .int .i64 n, .string s, .slice p m cap, .slice q kl qc], .int .i64 (d : Int)] W (Some1 W) := by
  have HB0 := Lib.hid (fun o => (Below.refl W.heap.size W).alloc (Nat.le_refl _) o)
  have HP := Lib.hid hp
  have HC := Lib.hid hc
  have hd1 : ((d : Int) == 16) = false := by simp; omega
  clear hp hc
  by_cases hkl : kl = m
  rotate_left
  · have hkb : ((kl : Int) == (m : Int)) = false := by simp; omega
    clear hris
    go_enter Tryz.func22, Tryz.ntmps22
    go_wp2
    all_goals (go_ret; exact ⟨_, rfl, HB0.out _⟩)
  subst hkl
  go_enter Tryz.func22, Tryz.ntmps22
  go_wp2_with fail
  all_goals first
    | (go_ret; exact ⟨_, rfl, HB0.out _⟩)
    | skip
  all_goals
    refine (hris _).mono ?_
    rintro e X ⟨b, rfl, hX⟩
    have HX := Lib.hid hX
    clear hX hris
    cases b
    · go_wp2
      go_ret
      exact ⟨_, rfl, (HB0.out _).trans (HX.out.mono (by simp))⟩
    go_wp2
    go_loopw [7, 8] (fun i _ wr => ∃ j : Nat, j ≤ kl ∧ i = .int .i64 j ∧ ∃ c0 c1 c2 c4 : Value, Hid (Kept (W.alloc (.cells #[c0, c1, c2, .slice p kl cap, c4] 26)) wr)) (fun i _ _ => kl - (intOf i).toNat)
    case atStart => exact ⟨0, Nat.zero_le _, rfl, _, _, _, _, HX.out⟩
    case round =>
      obtain ⟨j, hj, rfl, z0, z1, z2, z4, hb⟩ := hrel
      obtain ⟨⟨-, -, -, x3, -⟩, hW⟩ := kept_box' hb.out
      by_cases hlt : j < kl
      · obtain ⟨⟨e0, e1, e2, e3, e4⟩, hcall⟩ := HC.out j hlt wr hW
        obtain rfl := HP.out (by omega)
        have h1 : (0 : Int) ≤ (j : Int) := by omega
        have h2 : (j : Int) < (kl : Int) := by omega
        have h3 : (d : Int) < 16 := by omega
        have HW := Lib.hid hW
        clear hW
        generalize k1 j = y0 at e0 hcall
        generalize n1 j = y1 at e1 hcall
        generalize s1 j = y2 at e2 hcall
        generalize p1 j = y3 at e3 hcall
        generalize a1 j = y3a at e3 hcall
        generalize b1 j = y3b at e3 hcall
        generalize q1 j = y4 at e4 hcall
        generalize c1 j = y4a at e4 hcall
        generalize d1 j = y4b at e4 hcall
        go_wp2_with (go_at_call 22; refine hcall.mono ?_; rintro e Z ⟨r, rfl, hZ⟩; have HZ := Lib.hid hZ; clear hZ)
        · go_ret
          exact ⟨_, rfl, kept_trans HW.out HZ.out⟩
        · go_roundw
          case rel => exact ⟨j + 1, by omega, by go_num, z0, z1, z2, z4, kept_trans hb.out HZ.out⟩
          case measure => simp [intOf]; omega
      · have hjl   : j = kl := by omega
        subst hjl
        go_wp2
        go_ret
        exact ⟨_, rfl, hW⟩
end Go.Proofs.YtgfbednfiejlfaaGreatDoor.Lit

/-
  Contract of the page's Check at every value that reads as a tree: it answers, and changes nothing older.
-/
namespace Go.Proofs.YtgfbednfiejlfaaGreatDoor.Lit
open Go.RowKit Go.Proofs.YtgfbednfiejlfaaGreatDoor.Oct Go.Proofs.YtgfbednfiejlfaaGreatDoor.Num Go.Proofs.YtgfbednfiejlfaaGreatDoor.Utf Go.Proofs.YtgfbednfiejlfaaGreatDoor.Val Go.Proofs.YtgfbednfiejlfaaGreatDoor.Mem

theorem Checks.some {d : Nat} {x : V} {W : World} {e : Ending} {W' : World} (h : Checks d x W e W') : Some1 W e W' := by
  obtain ⟨r, h1, -, h2⟩ := h
  exact ⟨r, h1, h2⟩

theorem rcheck_go (N : Nat) (w : World) {a : Value} {x : V} (ha : Holds (Old N) w a x) : ∀ (d : Nat) (W : World), d ≤ 16 → N ≤ W.heap.size → Below N w W →
    Calls Tryz.prog 22 #[a, .int .i64 (d : Int)] W (Some1 W) := by
  induction ha with
  | mk k n s p cap K l ks bl off c hr hp hc hK hl ih =>
    intro d W hd hN hW
    obtain ⟨q, qc, qb, qo, rfl, hq1, hq2, hq3⟩ := hK
    by_cases h56 : k = 5 ∨ k = 6
    · by_cases hd16 : d = 16
      · subst hd16
        exact check_deep k n h56 s p cap q qc ks.length l.length W
      · have cells : ∀ i, i < l.length → ∀ X, Kept W X → (X.cell? ⟨bl, off + i * 5, none⟩ = some (.int .i64 (gI (c i 0))) ∧ X.cell? ⟨bl, off + i * 5 + 1, none⟩ = some (.int .i64 (gI (c i 1))) ∧ X.cell? ⟨bl, off + i * 5 + 2, none⟩ = some (.string (gS (c i 2))) ∧ X.cell? ⟨bl, off + i * 5 + 3, none⟩ = some (.slice (gP (c i 3)) (gA (c i 3)) (gB (c i 3))) ∧ X.cell? ⟨bl, off + i * 5 + 4, none⟩ = some (.slice (gP (c i 4)) (gA (c i 4)) (gB (c i 4)))) ∧
            Calls Tryz.prog 22 #[.agg #[.int .i64 (gI (c i 0)), .int .i64 (gI (c i 1)), .string (gS (c i 2)), .slice (gP (c i 3)) (gA (c i 3)) (gB (c i 3)), .slice (gP (c i 4)) (gA (c i 4)) (gB (c i 4))], .int .i64 ((d : Int) + 1)] X (Some1 X) := fun i hi X hX => by
          obtain ⟨f0, f1, f2, f3, f4⟩ := forms (hl i hi)
          have hwX : Below N w X := hW.trans (Below.mono hX hN)
          have hcs : ∀ t, t < 5 → X.cell? ⟨bl, off + (i * 5 + t), none⟩ = some (c i t) := fun t ht => by rw [hwX.cell (p := ⟨bl, off + (i * 5 + t), none⟩) (show bl < N from (hp (by omega)).2)]; exact hc i t hi ht
          refine ⟨⟨(hcs 0 (by omega)).trans (congrArg some f0), (hcs 1 (by omega)).trans (congrArg some f1), (hcs 2 (by omega)).trans (congrArg some f2), (hcs 3 (by omega)).trans (congrArg some f3), (hcs 4 (by omega)).trans (congrArg some f4)⟩, ?_⟩
          rw [← f0, ← f1, ← f2, ← f3, ← f4]
          exact ih i hi (d + 1) X (by omega) (Nat.le_trans hN hX.size) hwX
        rcases h56 with rfl | rfl
        · exact check_list n s p cap q qc ks.length bl off l.length _ _ _ _ _ _ _ _ _ d (by omega) W hr.2.2.2.2.2 hq1.1 (fun h => (hp h).1) cells
        · exact check_record n s p cap q qc ks.length bl off l.length _ _ _ _ _ _ _ _ _ d (by omega) W hr.2.2.2.2.2 hq1.1
            (fun o => rising_c ks q qc qb qo (W.alloc o) hq1 (fun h => ⟨(hq2 h).1, by have := (hq2 h).2; simp; exact Nat.lt_succ_of_lt (Nat.lt_of_lt_of_le this hN)⟩) (fun i h => by
              have hb : Below N w (W.alloc o) := hW.trans (((Below.refl _ W).alloc (Nat.le_refl _) o).mono hN)
              rw [hb.cell (p := ⟨qb, qo + i, none⟩) (show qb < N from (hq2 (by omega)).2)]
              exact hq3 i h))
            (fun h => (hp h).1) cells
    · by_cases h03 : k = 0 ∨ k = 1 ∨ k = 2 ∨ k = 3
      · exact (check_bare k n s p cap q qc l ks d W hr.2.2.2.2.2 hq1.1 hr.2.2.2.2.1 h03).mono fun e W' h => h.some
      · by_cases h4 : k = 4 ∨ k = 7 ∨ k = 8 ∨ k = 9 ∨ k = 10 ∨ k = 11
        · exact (check_text k n s p cap q qc l ks d W hr.2.2.2.2.2 hq1.1 hr.2.2.2.2.1 h4).mono fun e W' h => h.some
        · exact (check_out k n s p cap q qc l ks d W hr.2.2.2.2.2 (by omega)).mono fun e W' h => h.some

theorem rCheck_c (N : Nat) (w : World) (u0 u1 u2 u3 u4 : Value) (hone : ∀ u ∈ [u0, u1, u2, u3, u4], u.oneCell' = true) {x : V} (ha : Holds (Old N) w (.agg #[u0, u1, u2, u3, u4]) x) (W : World) (hN : N ≤ W.heap.size) (hW : Below N w W) :
    Calls Tryz.prog 11 #[.agg #[u0, u1, u2, u3, u4]] W (Some1 W) := by
  have h0 := fun X (hX : Below W.heap.size W X) => rcheck_go N w ha 0 X (by omega) (Nat.le_trans hN hX.size) (hW.trans (hX.mono hN))
  have hb0 : Below W.heap.size W (W.alloc (.cells #[u0, u1, u2, u3, u4] 26)) := (Below.refl _ W).alloc (Nat.le_refl _) _
  have h00 := h0 _ hb0
  have HB0 := Lib.hid hb0
  obtain ⟨o0, o1, o2, o3, o4⟩ : u0.oneCell' = true ∧ u1.oneCell' = true ∧ u2.oneCell' = true ∧ u3.oneCell' = true ∧ u4.oneCell' = true := by
    refine ⟨hone _ (by simp), hone _ (by simp), hone _ (by simp), hone _ (by simp), hone _ (by simp)⟩
  clear h0 hone ha hb0
  go_enter Tryz.func11, Tryz.ntmps11
  go_wp2_with (go_at_call 22; refine h00.mono ?_; rintro e X ⟨r, rfl, hX⟩)
  go_ret
  exact ⟨r, rfl, HB0.out.trans (Below.mono hX HB0.out.size)⟩
end Go.Proofs.YtgfbednfiejlfaaGreatDoor.Lit

/-
  The law LiteralCuts, out of the contracts of the calls that it makes.
-/
namespace Go.Proofs.YtgfbednfiejlfaaGreatDoor.Rd
open Go.RowKit Go.Proofs.YtgfbednfiejlfaaGreatDoor.Oct Go.Proofs.YtgfbednfiejlfaaGreatDoor.Val Go.Proofs.YtgfbednfiejlfaaGreatDoor.Tl Go.Proofs.YtgfbednfiejlfaaGreatDoor.Lit Go.Proofs.YtgfbednfiejlfaaGreatDoor.Utf Go.Proofs.YtgfbednfiejlfaaGreatDoor.Mem

/-- What a reading of a proper beginning of such a literal leaves. -/
theorem cut_read {x : Val.V} (hx : closedL (litL x)) {m : Nat} (hm : m < (litL x).length) {w : World} {e : Ending} {w' : World} (h : ReadTo w ((litL x).take m) e w') :
    e = .returned (.tuple #[.agg #[.int .i64 0, .int .i64 0, .string ⟨#[]⟩, .slice none 0 0, .slice none 0 0], .int .i64 0, .int .i64 33]) ∧ Below w.heap.size w w' := by
  have no : ∀ {y : Val.V} {d : Nat}, ¬ Leads (.loop ((litL x).take m) [] 0) (.done y [] d) := fun {y d} hl => by
    obtain ⟨-, h2⟩ := read_lit hl
    have h3 := lit_cut y x ((litL x).drop m) (by rw [h2]; exact List.take_append_drop _ _) hx
    have := congrArg List.length h3
    rw [List.length_drop, List.length_nil] at this
    omega
  obtain ⟨hb, h | h | h⟩ := h
  · exact ⟨h.1, hb⟩
  · obtain ⟨-, y, d, hl, -⟩ := h
    exact absurd hl no
  · obtain ⟨-, y, d, -, hl, -⟩ := h
    exact absurd hl no

theorem lit_closed (k n : Int) (s : ByteArray) (l : List Val.V) (ks : List ByteArray) (hk : ¬ k < 4) : closedL (litL (.mk k n s l ks)) := by
  have h0 : k ≠ 0 := by omega
  have h1 : k ≠ 1 := by omega
  have h2 : k ≠ 2 := by omega
  have h3 : k ≠ 3 := by omega
  unfold closedL
  by_cases h5 : k = 5
  · subst h5
    exact ⟨91, joinK false ks (litAll l) (litAll l).length ++ [93], by simp [litL, brackL], .inr (.inl rfl)⟩
  · by_cases h6 : k = 6
    · subst h6
      exact ⟨123, joinK true ks (litAll l) (litAll l).length ++ [125], by simp [litL, brackL], .inr (.inr rfl)⟩
    · exact ⟨34, insideL (chars s.data.toList) ++ [34], by simp [litL, h0, h1, h2, h3, h5, h6, quoteL], .inl rfl⟩

theorem holds_kind {C : Cond} {w : World} {k n : Int} {s : ByteArray} {p q : Option Addr} {m a c d : Nat} {x : Val.V} (h : Holds C w (.agg #[.int .i64 k, .int .i64 n, .string s, .slice p m a, .slice q c d]) x) : ∃ n s l ks, x = .mk k n s l ks := by
  cases h with
  | mk => exact ⟨_, _, _, _, rfl⟩

theorem at_place (a : Int) (L : Nat) (h : 0 < L) (hl : L ≤ 17179869184) : ∃ m : Nat, (wrap64 (a.tmod L + L)).tmod L = (m : Int) ∧ m < L := by
  have hL : (0 : Int) < (L : Int) := by omega
  have h1 := Int.tmod_lt_of_pos a hL
  have h2 := Int.lt_tmod_of_pos a hL
  generalize a.tmod L = b at *
  have e : wrap64 (b + L) = b + L := by unfold wrap64; omega
  rw [e]
  have h3 := Int.tmod_lt_of_pos (b + L) hL
  have h4 : 0 ≤ (b + L).tmod L := Int.tmod_nonneg _ (by omega)
  exact ⟨((b + L).tmod L).toNat, by omega, by omega⟩
theorem cut_to (t : List UInt8) (n : Nat) : (S t).extract 0 n = S (t.take n) := by
  rw [Lib.extract_eq]; simp [S]

set_option maxHeartbeats 2000000 in
set_option maxRecDepth 100000 in
theorem law_cuts (W : World) (a : Int) (v0 v1 v2 v3 v4 : Value) (x : Val.V) (hx : Holds (Old W.heap.size) W (.agg #[v0, v1, v2, v3, v4]) x) (hlen : (litL x).length ≤ 17179869184) (hT : TabN W.heap.size W) :
    Calls Tryz.prog 4 #[.agg #[v0, v1, v2, v3, v4], .int .i64 a] W fun e W' => e = .returned (.bool true) ∧ Below W.heap.size W W' := by
  obtain ⟨k2, n2, t2, p2, m2, a2, q2, c2, d2, rfl, rfl, rfl, rfl, rfl⟩ := holds_parts hx
  have hal := fun X (hX : Below W.heap.size W X) => lalive_c X (fun Y hY => hT Y (hX.trans (hY.mono hX.size)))
  have hn := lnum_c
  have hchk := fun X (hX : Below W.heap.size W X) => rCheck_c W.heap.size W _ _ _ _ _ (by intro u hu; simp at hu; rcases hu with rfl | rfl | rfl | rfl | rfl <;> rfl) hx X hX.size hX
  have hlit := fun X (hX : Below W.heap.size W X) => literal_c X W.heap.size W hX.size hX hT hx (by omega)
  have HCL : Hid (4 ≤ k2 → closedL (litL x)) := by
    show 4 ≤ k2 → _
    intro hk4
    obtain ⟨n3, s3, l3, ks3, rfl⟩ := holds_kind hx
    exact lit_closed k2 n3 s3 l3 ks3 (by omega)
  have HT := Lib.hid hT
  obtain ⟨W1, hW1⟩ : ∃ W1, W1 = W.alloc (.cells #[.int .i64 k2, .int .i64 n2, .string t2, .slice p2 m2 a2, .slice q2 c2 d2] 26) := ⟨_, rfl⟩
  have hb1 : Below W.heap.size W W1 := by rw [hW1]; exact (Below.refl _ W).alloc (Nat.le_refl _) _
  have D1 : W1.heap[W.heap.size]? = some (.cells #[.int .i64 k2, .int .i64 n2, .string t2, .slice p2 m2 a2, .slice q2 c2 d2] 26 (0, 0)) := by rw [hW1]; exact heap_alloc_new W _
  have hal1 := hal W1 hb1
  have HW1 := Lib.hid hW1
  rw [hW1] at hal1
  have H1 := Lib.hid (And.intro hb1 D1)
  have HCK := Lib.hid hchk
  have HLT := Lib.hid hlit
  have HLEN := Lib.hid hlen
  clear hW1 hb1 D1 hal hx hT hchk hlit hlen
  go_enter Tryz.func4, Tryz.ntmps4
  go_wp2_with fail
  refine hal1.mono ?_
  clear hal1
  rintro e w2 ⟨rfl, hb2⟩
  rw [← HW1.out] at hb2
  have D2 := (hb2.block _ (Array.getElem?_eq_some_iff.1 H1.out.2).1).trans H1.out.2
  have B2 := H1.out.1.trans (hb2.mono H1.out.1.size)
  obtain ⟨y0, y1, y2, y3, y4⟩ := five5 D2
  have hchk := HCK.out w2 B2
  have H2 := Lib.hid (And.intro B2 D2)
  clear hb2 D2 B2
  go_wp2_with fail
  refine hchk.mono ?_
  clear hchk y0 y1 y2 y3 y4
  rintro e w3 ⟨r, rfl, hb3⟩
  have D3 := (hb3.block _ (Array.getElem?_eq_some_iff.1 H2.out.2).1).trans H2.out.2
  have B3 := H2.out.1.trans (Below.mono hb3 H2.out.1.size)
  obtain ⟨y0, y1, y2, y3, y4⟩ := five5 D3
  have hlit := HLT.out w3 B3
  have H3 := Lib.hid (And.intro B3 D3)
  clear hb3 D3 B3
  by_cases hr : r = 0
  rotate_left
  · have hrb : (r != 0) = true := by simp; exact hr
    clear hlit
    go_wp2_with fail
    go_ret
    exact ⟨rfl, H3.out.1⟩
  subst hr
  by_cases hk : k2 < 4
  · clear hlit
    go_wp2_with fail
    go_ret
    exact ⟨rfl, H3.out.1⟩
  have hcl := HCL.out (by omega)
  go_wp2_with fail
  refine hlit.mono ?_
  clear hlit y0 y1 y2 y3 y4
  rintro e w4 ⟨rfl, hb4⟩
  have B4 := H3.out.1.trans (hb4.mono H3.out.1.size)
  have HB4 := Lib.hid B4
  clear hb4 B4
  have HC := Lib.hid hcl
  obtain ⟨t, ht⟩ : ∃ t, t = litL x := ⟨_, rfl⟩
  have hz : (S t).size = t.length := size_S t
  have hp : 0 < t.length := by rw [ht]; obtain ⟨c, r, e, -⟩ := hcl; rw [e]; simp
  have hle : t.length ≤ 17179869184 := by rw [ht]; exact HLEN.out
  rw [← ht]
  have HTT := Lib.hid ht
  clear hcl ht
  have hzi : ((S t).size : Int) = (t.length : Int) := by rw [hz]
  have hpi : (0 : Int) < (t.length : Int) := by omega
  have hpn : ((t.length : Int) == 0) = false := by rw [beq_eq_false_iff_ne]; omega
  obtain ⟨m, hm, hml⟩ := at_place a t.length hp hle
  have hmi0 : (0 : Int) ≤ (m : Int) := by omega
  have hmi1 : (m : Int) ≤ (t.length : Int) := by omega
  have hrd := read_c w4 (t.take m) (by rw [List.length_take]; omega) (fun X hX => HT.out X (HB4.out.trans (hX.mono HB4.out.size)))
  have hrd2 := hrd.mono (fun e w' h => cut_read (x := x) (by exact HC.out) (by rw [← HTT.out]; exact hml) (by rw [← HTT.out]; exact h))
  rw [← cut_to] at hrd2
  clear hrd
  generalize S t = sl at hz hzi hrd2
  go_wp2_with fail
  refine hrd2.mono ?_
  clear hrd2
  rintro e w5 ⟨rfl, hb5⟩
  have HB5 := Lib.hid (HB4.out.trans (hb5.mono HB4.out.size))
  clear hb5
  go_wp2_with (first | (go_at_call 8; refine (hn _ _).mono ?_; rintro e2 W2 ⟨rfl, rfl⟩))
  try (go_quiet ((go_at_call 8; exact Calls.quiet_of_same (hn _ _))))
  go_wp2
  go_ret
  exact ⟨rfl, HB5.out.alloc HB5.out.size _⟩
end Go.Proofs.YtgfbednfiejlfaaGreatDoor.Rd

/-
  The last step of a law's row where the call leaves a world in which all that lay before lies unturned, the arguments are plain values (numbers, truths, texts), and the answer is the truth.
-/
namespace Go.Proofs.YtgfbednfiejlfaaGreatDoor.Kit
open Go.ChangeShapes Go.WideShapes Go.ChangeAt Go.RowKit
variable {H : Type} {enc : TypeId × Value → H} {P : Program}

theorem own : ownKnob Tryz.prog.godebug = none := by kernel_rfl

/-- Arguments without places: what is asked of the world behind the call is that nothing older has turned. -/
theorem post_plain {f : Func} {s : ChangeSpec} {apart fresh handsOn again : Bool} {W W' : World} {args : Array Value} {v : Value} {ds gs : List (DataW H)}
    (hW : DataW.Whole enc P f.params.toList s.vars apart W args.toList ds gs [])
    (hres : ∀ (b : Nat) (sp : Nat → Bool) (hd : Bool), DataW.TrodAll enc P W' b sp hd f.resultTypes.toList (v.resultList f.resultTypes.size) (s.fn H (ds ++ gs)).results [])
    (hargs : ∀ sp : Nat → Bool, DataW.TrodAll enc P W' 0 sp true f.params.toList args.toList (s.fn H (ds ++ gs)).args [])
    (hvars : ∀ sp : Nat → Bool, DataW.TrodVars enc P W' sp s.vars (s.fn H (ds ++ gs)).vars [])
    (hb : Below W.heap.size W W')
    (hok : ∀ (j : Nat) (t : TypeId) (r : Value), f.resultTypes[j]? = some t → (v.resultList f.resultTypes.size)[j]? = some r → Value.okWide P W' .any 0 t r) :
    s.post enc P f apart fresh handsOn again W args v W' :=
  ⟨ds, gs, [], [], [], [], hW, hres _ _ _, hargs _, hvars _, hb.frame _, fun _ =>
    ⟨hok, _, _, [], ⟨[], [], trodAll_append (hargs _) (hres _ _ _), hvars _, rfl, fun _ _ h => by simp at h, fun _ => by simp⟩, fun _ h => by simp at h⟩⟩
end Go.Proofs.YtgfbednfiejlfaaGreatDoor.Kit

/-
  What a row that lists Go's own two tables of characters' first octets gives: the tables, as they lie in memory; and a world that holds them.
-/
namespace Go.Proofs.YtgfbednfiejlfaaGreatDoor.Laid
open Go.ChangeShapes Go.WideShapes Go.ChangeAt Go.RowKit

abbrev list : List (String × DataW Unit) := [("unicode/utf8.acceptRanges", Rows.laid_unicode_utf8_acceptRanges), ("unicode/utf8.first", Rows.laid_unicode_utf8_first)]
set_option maxRecDepth 100000 in
theorem first_eq : Rows.laid_unicode_utf8_first = Lib.firstData := by kernel_rfl
theorem accept_eq : (Rows.laid_unicode_utf8_acceptRanges : DataW Unit) = Lib.acceptData := by kernel_rfl

theorem tabs {W : World} (h : laidMetH Tryz.prog list W) : Utf.Tabs W := by
  have h' : laidMet Tryz.prog list W := h
  have h3 := Lib.laidMet.reads h' (n := "unicode/utf8.first") (d := Rows.laid_unicode_utf8_first) (.tail _ (.head _))
  have h4 := Lib.laidMet.reads h' (n := "unicode/utf8.acceptRanges") (d := Rows.laid_unicode_utf8_acceptRanges) (.head _)
  rw [first_eq] at h3
  rw [accept_eq] at h4
  exact utf8Tabs_of_reads (ρ := Tryz.lays260_ren) Tryz.lays260 ⟨by kernel_rfl, by kernel_rfl, by kernel_rfl, by kernel_rfl, by kernel_rfl, by kernel_rfl, by kernel_rfl⟩ h3 h4

/-- A world that holds the two tables. -/
noncomputable def laidWorld (os : Os) : World :=
  { World.holding Tryz.prog os ⟨#[], #[], []⟩ with heap := (((World.holding Tryz.prog os ⟨#[], #[], []⟩).heap.modify 1 fun
      | .cells _ t frozen => .cells (Lib.firstTab.map fun z => Value.int .u8 z).toArray t frozen
      | o => o).modify 2 fun
      | .cells _ t frozen => .cells ((List.range 16).flatMap fun i => [Value.int .u8 (Lib.accLo i), Value.int .u8 (Lib.accHi i)]).toArray t frozen
      | o => o) }
set_option maxRecDepth 100000 in
theorem laid_met (os : Os) (args : Array Value) : laidMet Tryz.prog list ((laidWorld os).forCall (fun _ _ => 0) ⟨#[], args, []⟩).memory :=
  laidMet_of_run' 8 (by kernel_rfl) (by kernel_rfl)
end Go.Proofs.YtgfbednfiejlfaaGreatDoor.Laid
