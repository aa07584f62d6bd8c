/-
  Contracts of the page's Index and Field: what stands there, sharing the value's own memory.
-/
import Derived.Test.YtcheiombgnabaaaValOwn
namespace Go.Proofs.Ytcheiombgnabaaa.Val
open Go.RowKit Go.Proofs.Ytcheiombgnabaaa.Oct

def zeroV : V := .mk 0 0 ⟨#[]⟩ [] []
def indexV : V → Int → V × Int
  | .mk k _ _ l _, m => if k = 5 then (if 0 ≤ m ∧ m < (l.length : Int) then (l.getD m.toNat zeroV, 0) else (zeroV, 15)) else (zeroV, 13)
def findK (name : ByteArray) : List ByteArray → List V → Option V
  | k :: ks, x :: l => if k = name then some x else findK name ks l
  | _, _ => none
def fieldV : V → ByteArray → V × Int
  | .mk k _ _ l ks, name => if k = 6 then (match findK name ks l with | some x => (x, 0) | none => (zeroV, 14)) else (zeroV, 13)

theorem zero_holds (C : Cond) (w : World) : Holds C w (.agg #[.int .i64 0, .int .i64 0, .string ⟨#[]⟩, .slice none 0 0, .slice none 0 0]) zeroV :=
  .mk 0 0 ⟨#[]⟩ none 0 (.slice none 0 0) [] [] 0 0 (fun _ _ => undef) ⟨by omega, by omega, by omega, by omega, by simp [ByteArray.size], by simp⟩ (fun h => absurd h (by simp)) (fun i j h => absurd h (by simp)) ⟨none, 0, 0, 0, rfl, by simp, fun h => absurd h (by simp), fun i h => absurd h (by simp)⟩ (fun i h => absurd h (by simp))

/-- What Index and Field leave: a value that shares the memory of what was handed in, and the error's number. -/
def Told (r : V × Int) (N : Nat) (w W : World) (e : Ending) (W' : World) : Prop := ∃ v, e = .returned (.tuple #[v, .int .i64 r.2]) ∧ Holds (Old N) w v r.1 ∧ Below W.heap.size W W'

theorem holds_shape {C : Cond} {w : World} {v0 v1 v2 v3 v4 : Value} {x : V} (h : Holds C w (.agg #[v0, v1, v2, v3, v4]) x) :
    ∃ k n s p a b q c d, v0 = .int .i64 k ∧ v1 = .int .i64 n ∧ v2 = .string s ∧ v3 = .slice p a b ∧ v4 = .slice q c d := by
  cases h with
  | mk k n s p cap K l ks b off c hr hp hc hK hl =>
    obtain ⟨q, qc, qb, qo, rfl, _⟩ := hK
    exact ⟨k, n, s, p, _, _, q, _, _, rfl, rfl, rfl, rfl, rfl⟩

set_option maxHeartbeats 2000000 in
set_option maxRecDepth 100000 in
theorem index_c (N : Nat) (w : World) {a : Value} {x : V} (ha : Holds (Old N) w a x) (m : Int) (W : World) (hN : N ≤ W.heap.size) (hW : Below N w W) :
    Calls Try.prog 12 #[a, .int .i64 m] W (Told (indexV x m) N w W) := by
  cases ha with
  | mk k n s p cap K l ks bl off c hr hp hc hK hl =>
    obtain ⟨q, qc, qb, qo, rfl, ⟨hq1, -⟩, hq2, hq3⟩ := hK
    have hb0 : ∀ o1 o2, Below W.heap.size W ((W.alloc o1).alloc o2) := fun o1 o2 => ((Below.refl _ W).alloc (Nat.le_refl _) _).alloc (by simp) _
    by_cases hk : k = 5
    · subst hk
      by_cases hm : 0 ≤ m ∧ m < (l.length : Int)
      · obtain ⟨hm0, hm1⟩ := hm
        obtain ⟨i, rfl⟩ := Int.eq_ofNat_of_zero_le hm0
        have hi : i < l.length := by omega
        obtain ⟨rfl, hbN⟩ := hp (by omega)
        have F : Hid (indexV (.mk 5 n s l ks) (i : Int) = (l[i], 0)) := by
          show _ = _
          simp [indexV, hi]
        have hcs : ∀ t, t < 5 → W.cell? ⟨bl, off + (i * 5 + t), none⟩ = some (c i t) := fun t ht => by rw [hW.cell (show bl < _ from hbN)]; exact hc i t hi ht
        have e0 : W.cell? ⟨bl, off + i * 5, none⟩ = some (c i 0) := hcs 0 (by omega)
        have e1 : W.cell? ⟨bl, off + i * 5 + 1, none⟩ = some (c i 1) := hcs 1 (by omega)
        have e2 : W.cell? ⟨bl, off + i * 5 + 2, none⟩ = some (c i 2) := hcs 2 (by omega)
        have e3 : W.cell? ⟨bl, off + i * 5 + 3, none⟩ = some (c i 3) := hcs 3 (by omega)
        have e4 : W.cell? ⟨bl, off + i * 5 + 4, none⟩ = some (c i 4) := hcs 4 (by omega)
        have hbl : bl < W.heap.size := Nat.lt_of_lt_of_le hbN hN
        have hh := hl i hi
        obtain ⟨k2, n2, s2, p2, a2, b2, q2, c2, d2, f0, f1, f2, f3, f4⟩ := holds_shape hh
        rw [f0] at e0 hh
        rw [f1] at e1 hh
        rw [f2] at e2 hh
        rw [f3] at e3 hh
        rw [f4] at e4 hh
        have HH := Lib.hid hh
        have HB0 := Lib.hid hb0
        have HIL := Lib.hid hi
        clear hcs hp hc hl hq2 hq3 f0 f1 f2 f3 f4 hh hb0
        go_enter Try.func12, Try.ntmps12
        go_wp2_with fail
        refine bodyPost_ret (v := .tuple #[.agg #[.int .i64 k2, .int .i64 n2, .string s2, .slice p2 a2 b2, .slice q2 c2 d2], .int .i64 0]) (by simp [results, Try.results12, go_sem]) rfl ?_
        rw [F.out]
        exact ⟨_, rfl, HH.out, HB0.out _ _⟩
      · have F : Hid (indexV (.mk 5 n s l ks) m = (zeroV, 15)) := by
          show _ = _
          simp only [indexV, ↓reduceIte, if_neg hm]
        have HB0 := Lib.hid hb0
        clear hp hc hl hq2 hq3 hb0
        rcases (show m < 0 ∨ (0 ≤ m ∧ (l.length : Int) ≤ m) by omega) with h1 | ⟨h1, h2⟩
        all_goals
          clear hm
          go_enter Try.func12, Try.ntmps12
          go_wp2_with fail
          refine bodyPost_ret (v := .tuple #[.agg #[.int .i64 0, .int .i64 0, .string ⟨#[]⟩, .slice none 0 0, .slice none 0 0], .int .i64 15]) (by simp [results, Try.results12, go_sem]) rfl ?_
          rw [F.out]
          exact ⟨_, rfl, zero_holds _ _, HB0.out _ _⟩
    · have F : Hid (indexV (.mk k n s l ks) m = (zeroV, 13)) := by
        show _ = _
        simp only [indexV, if_neg hk]
      have HB0 := Lib.hid hb0
      have hkb : (k == 5) = false := by simpa using hk
      clear hp hc hl hq2 hq3 hb0 hk
      go_enter Try.func12, Try.ntmps12
      go_wp2_with fail
      refine bodyPost_ret (v := .tuple #[.agg #[.int .i64 0, .int .i64 0, .string ⟨#[]⟩, .slice none 0 0, .slice none 0 0], .int .i64 13]) (by simp [results, Try.results12, go_sem]) rfl ?_
      rw [F.out]
      exact ⟨_, rfl, zero_holds _ _, HB0.out _ _⟩
end Go.Proofs.Ytcheiombgnabaaa.Val
