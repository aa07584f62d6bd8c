/-
  Contract of the page's Field.
-/
import Derived.Test.YtcheiombgnabaaaValIndex
namespace Go.Proofs.Ytcheiombgnabaaa.Val
open Go.RowKit Go.Proofs.Ytcheiombgnabaaa.Oct

theorem findK_hit {name : ByteArray} {ks : List ByteArray} {l : List V} {j : Nat} (hk : j < ks.length) (hl : j < l.length) (h : ks[j] = name) : findK name (ks.drop j) (l.drop j) = some l[j] := by
  rw [List.drop_eq_getElem_cons hk, List.drop_eq_getElem_cons hl, findK, if_pos h]
theorem findK_miss {name : ByteArray} {ks : List ByteArray} {l : List V} {j : Nat} (hk : j < ks.length) (hl : j < l.length) (h : ¬ ks[j] = name) : findK name (ks.drop j) (l.drop j) = findK name (ks.drop (j + 1)) (l.drop (j + 1)) := by
  rw [List.drop_eq_getElem_cons hk, List.drop_eq_getElem_cons hl, findK, if_neg h]
theorem findK_none {name : ByteArray} {ks : List ByteArray} {l : List V} {j : Nat} (h : ks.length ≤ j ∨ l.length ≤ j) : findK name (ks.drop j) (l.drop j) = none := by
  rcases h with h | h
  · rw [List.drop_of_length_le h]; rfl
  · rw [List.drop_of_length_le h]
    cases ks.drop j <;> rfl
theorem str_ne {a b : ByteArray} (h : ¬ a = b) : (a.toList == b.toList) = false := by
  rw [beq_eq_false_iff_ne]
  intro e
  rw [ByteArray.toList_eq, ByteArray.toList_eq] at e
  apply h
  rw [← S_list a, ← S_list b, e]

set_option maxHeartbeats 2000000 in
set_option maxRecDepth 100000 in
theorem field_c (N : Nat) (w : World) {a : Value} {x : V} (ha : Holds (Old N) w a x) (name : ByteArray) (W : World) (hN : N ≤ W.heap.size) (hW : Below N w W) :
    Calls Try.prog 11 #[a, .string name] W (Told (fieldV x name) N w W) := by
  cases ha with
  | mk k n s p cap K l ks bl off c hr hp hc hK hl =>
    obtain ⟨q, qc, qb, qo, rfl, ⟨hq1, -⟩, hq2, hq3⟩ := hK
    have hb0 : ∀ o1 o2, Below W.heap.size W ((W.alloc o1).alloc o2) := fun o1 o2 => ((Below.refl _ W).alloc (Nat.le_refl _) _).alloc (by simp) _
    have HB0 := Lib.hid hb0
    clear hb0
    by_cases hk : k = 6
    · subst hk
      have HLS := Lib.hid (And.intro hp (And.intro hc (And.intro hl (And.intro hq2 hq3))))
      have HG := Lib.hid (And.intro hN hW)
      obtain ⟨hr1, hr2, hr3, hr4, hr5, hr6⟩ := hr
      clear hp hc hl hq2 hq3 hN hW
      go_enter Try.func11, Try.ntmps11
      go_wp2_with fail
      go_loop [6] (fun i => ∃ j : Nat, j ≤ ks.length ∧ j ≤ l.length ∧ i = .int .i64 j ∧ Hid (findK name (ks.drop j) (l.drop j) = findK name ks l)) (fun i => ks.length - (intOf i).toNat)
      case atStart => exact ⟨0, Nat.zero_le _, Nat.zero_le _, rfl, rfl⟩
      case round =>
        obtain ⟨j, hjk, hjl, rfl, hf⟩ := hrel
        by_cases hlt : j < ks.length
        · by_cases hlt2 : j < l.length
          · obtain ⟨rfl, hqN⟩ := HLS.out.2.2.2.1 (by omega)
            obtain ⟨rfl, hbN⟩ := HLS.out.1 (by omega)
            have e5 : W.cell? ⟨qb, qo + j, none⟩ = some (.string ks[j]) := by rw [HG.out.2.cell (show qb < _ from hqN)]; exact HLS.out.2.2.2.2 j hlt
            have hqb : qb < W.heap.size := Nat.lt_of_lt_of_le hqN HG.out.1
            have hbl : bl < W.heap.size := Nat.lt_of_lt_of_le hbN HG.out.1
            by_cases hkey : ks[j] = name
            · have F : Hid (fieldV (.mk 6 n s l ks) name = (l[j], 0)) := by
                show _ = _
                have := findK_hit hlt hlt2 hkey
                rw [hf.out] at this
                simp only [fieldV, ↓reduceIte, this]
              rw [hkey] at e5
              have es : (name.toList == name.toList) = true := by simp
              have hcs : ∀ t, t < 5 → W.cell? ⟨bl, off + (j * 5 + t), none⟩ = some (c j t) := fun t ht => by rw [HG.out.2.cell (show bl < _ from hbN)]; exact HLS.out.2.1 j t hlt2 ht
              have e0 : W.cell? ⟨bl, off + j * 5, none⟩ = some (c j 0) := hcs 0 (by omega)
              have e1 : W.cell? ⟨bl, off + j * 5 + 1, none⟩ = some (c j 1) := hcs 1 (by omega)
              have e2 : W.cell? ⟨bl, off + j * 5 + 2, none⟩ = some (c j 2) := hcs 2 (by omega)
              have e3 : W.cell? ⟨bl, off + j * 5 + 3, none⟩ = some (c j 3) := hcs 3 (by omega)
              have e4 : W.cell? ⟨bl, off + j * 5 + 4, none⟩ = some (c j 4) := hcs 4 (by omega)
              have hh := HLS.out.2.2.1 j hlt2
              obtain ⟨k2, n2, s2, p2, a2, b2, q2, c2, d2, f0, f1, f2, f3, f4⟩ := holds_shape hh
              rw [f0] at e0 hh
              rw [f1] at e1 hh
              rw [f2] at e2 hh
              rw [f3] at e3 hh
              rw [f4] at e4 hh
              have HH := Lib.hid hh
              clear hcs f0 f1 f2 f3 f4 hh hkey hf
              go_wp2_with fail
              refine bodyPost_ret (v := .tuple #[.agg #[.int .i64 k2, .int .i64 n2, .string s2, .slice p2 a2 b2, .slice q2 c2 d2], .int .i64 0]) (by simp [results, Try.results11, go_sem]) rfl ?_
              rw [F.out]
              exact ⟨_, rfl, HH.out, HB0.out _ _⟩
            · have hn := findK_miss hlt hlt2 hkey
              have HN : Hid (findK name (ks.drop (j + 1)) (l.drop (j + 1)) = findK name ks l) := by show _ = _; rw [← hn]; exact hf.out
              have es := str_ne hkey
              generalize ks[j] = key at e5 es
              clear hn hkey hf
              go_wp2_with fail
              go_round
              case rel => exact ⟨j + 1, by omega, by omega, by go_num, HN⟩
              case measure => simp [intOf]; omega
          · have F : Hid (fieldV (.mk 6 n s l ks) name = (zeroV, 14)) := by
              show _ = _
              have := findK_none (name := name) (ks := ks) (l := l) (j := j) (.inr (by omega))
              rw [hf.out] at this
              simp only [fieldV, ↓reduceIte, this]
            clear hf
            go_wp2_with fail
            refine bodyPost_ret (v := .tuple #[.agg #[.int .i64 0, .int .i64 0, .string ⟨#[]⟩, .slice none 0 0, .slice none 0 0], .int .i64 14]) (by simp [results, Try.results11, go_sem]) rfl ?_
            rw [F.out]
            exact ⟨_, rfl, zero_holds _ _, HB0.out _ _⟩
        · have F : Hid (fieldV (.mk 6 n s l ks) name = (zeroV, 14)) := by
            show _ = _
            have := findK_none (name := name) (ks := ks) (l := l) (j := j) (.inl (by omega))
            rw [hf.out] at this
            simp only [fieldV, ↓reduceIte, this]
          clear hf
          go_wp2_with fail
          refine bodyPost_ret (v := .tuple #[.agg #[.int .i64 0, .int .i64 0, .string ⟨#[]⟩, .slice none 0 0, .slice none 0 0], .int .i64 14]) (by simp [results, Try.results11, go_sem]) rfl ?_
          rw [F.out]
          exact ⟨_, rfl, zero_holds _ _, HB0.out _ _⟩
    · have F : Hid (fieldV (.mk k n s l ks) name = (zeroV, 13)) := by
        show _ = _
        simp only [fieldV, if_neg hk]
      have hkb : (k == 6) = false := by simpa using hk
      clear hp hc hl hq2 hq3 hk
      go_enter Try.func11, Try.ntmps11
      go_wp2_with fail
      refine bodyPost_ret (v := .tuple #[.agg #[.int .i64 0, .int .i64 0, .string ⟨#[]⟩, .slice none 0 0, .slice none 0 0], .int .i64 13]) (by simp [results, Try.results11, go_sem]) rfl ?_
      rw [F.out]
      exact ⟨_, rfl, zero_holds _ _, HB0.out _ _⟩
end Go.Proofs.Ytcheiombgnabaaa.Val
