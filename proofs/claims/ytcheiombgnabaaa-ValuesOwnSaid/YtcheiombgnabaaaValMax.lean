/-
  The blocks of a value in memory of its own, as blocks that may be spoilt.
-/
import Derived.Test.YtcheiombgnabaaaValSpoil2
namespace Go.Proofs.Ytcheiombgnabaaa.Val
open Go.RowKit Go.Proofs.Ytcheiombgnabaaa.Oct

def Good (lo : Nat) (w : World) (S T : Nat → Nat → Prop) : Prop := Ty S T w ∧ (∀ b m, S b m → lo ≤ b) ∧ ∀ b m, T b m → lo ≤ b
/-- All blocks of values, all blocks of texts, from lo on. -/
def SMax (lo : Nat) (w : World) (b m : Nat) : Prop := ∃ S T, Good lo w S T ∧ S b m
def TMax (lo : Nat) (w : World) (b m : Nat) : Prop := ∃ S T, Good lo w S T ∧ T b m

theorem OkS.mono {S S' : Nat → Nat → Prop} {L : Value} (h : OkS S L) (hs : ∀ b m, S b m → S' b m) : OkS S' L := by
  obtain ⟨p, m, cap, b, h1, h2, h3⟩ := h
  exact ⟨p, m, cap, b, h1, h2, fun h => ⟨(h3 h).1, hs _ _ (h3 h).2⟩⟩

theorem max_good (lo : Nat) (w : World) : Good lo w (SMax lo w) (TMax lo w) := by
  refine ⟨⟨fun b m hb => ?_, fun b m hb => ?_⟩, fun b m ⟨S, T, h, hb⟩ => h.2.1 b m hb, fun b m ⟨S, T, h, hb⟩ => h.2.2 b m hb⟩
  · obtain ⟨S, T, h, hb⟩ := hb
    obtain ⟨cur, h1, h2, h3⟩ := h.1.vals b m hb
    refine ⟨cur, h1, h2, fun i hi => ?_⟩
    obtain ⟨k, n, s, L, K, f0, f1, f2, f3, f4, f5, f6⟩ := h3 i hi
    exact ⟨k, n, s, L, K, f0, f1, f2, f3, f4, f5.mono (fun b m hb => ⟨S, T, h, hb⟩), f6.mono (fun b m hb => ⟨S, T, h, hb⟩)⟩
  · obtain ⟨S, T, h, hb⟩ := hb
    exact h.1.texts b m hb

/-- A block of texts more. -/
theorem max_text {lo : Nat} {w : World} {b m : Nat} {cur : Array Value} (hlo : lo ≤ b) (h1 : w.heap[b]? = some (.cells cur 9 (0, 0))) (h2 : m ≤ cur.size) : TMax lo w b m := by
  have g := max_good lo w
  refine ⟨SMax lo w, fun c m' => TMax lo w c m' ∨ (c = b ∧ m' = m), ⟨⟨fun c m' hc => ?_, fun c m' hc => ?_⟩, g.2.1, fun c m' hc => ?_⟩, .inr ⟨rfl, rfl⟩⟩
  · obtain ⟨cur', h1, h2, h3⟩ := g.1.vals c m' hc
    refine ⟨cur', h1, h2, fun i hi => ?_⟩
    obtain ⟨k, n, s, L, K, f0, f1, f2, f3, f4, f5, f6⟩ := h3 i hi
    exact ⟨k, n, s, L, K, f0, f1, f2, f3, f4, f5, f6.mono (fun b m hb => .inl hb)⟩
  · rcases hc with hc | ⟨rfl, rfl⟩
    · exact g.1.texts c m' hc
    · exact ⟨cur, h1, h2⟩
  · rcases hc with hc | ⟨rfl, rfl⟩
    · exact g.2.2 c m' hc
    · exact hlo

/-- A block of values more. -/
theorem max_vals {lo : Nat} {w : World} {b m : Nat} {cur : Array Value} (hlo : lo ≤ b) (h1 : w.heap[b]? = some (.cells cur 25 (0, 0))) (h2 : m * 5 ≤ cur.size)
    (h3 : ∀ i, i < m → ∃ k n s L K, cur[i * 5]? = some (.int .i64 k) ∧ cur[i * 5 + 1]? = some (.int .i64 n) ∧ cur[i * 5 + 2]? = some (.string s) ∧ cur[i * 5 + 3]? = some L ∧ cur[i * 5 + 4]? = some K ∧ OkS (SMax lo w) L ∧ OkS (TMax lo w) K) : SMax lo w b m := by
  have g := max_good lo w
  refine ⟨fun c m' => SMax lo w c m' ∨ (c = b ∧ m' = m), TMax lo w, ⟨⟨fun c m' hc => ?_, fun c m' hc => g.1.texts c m' hc⟩, fun c m' hc => ?_, g.2.2⟩, .inr ⟨rfl, rfl⟩⟩
  · rcases hc with hc | ⟨rfl, rfl⟩
    · obtain ⟨cur', h1, h2, h3⟩ := g.1.vals c m' hc
      refine ⟨cur', h1, h2, fun i hi => ?_⟩
      obtain ⟨k, n, s, L, K, f0, f1, f2, f3, f4, f5, f6⟩ := h3 i hi
      exact ⟨k, n, s, L, K, f0, f1, f2, f3, f4, f5.mono (fun b m hb => .inl hb), f6⟩
    · refine ⟨cur, h1, h2, fun i hi => ?_⟩
      obtain ⟨k, n, s, L, K, f0, f1, f2, f3, f4, f5, f6⟩ := h3 i hi
      exact ⟨k, n, s, L, K, f0, f1, f2, f3, f4, f5.mono (fun b m hb => .inl hb), f6⟩
  · rcases hc with hc | ⟨rfl, rfl⟩
    · exact g.2.1 c m' hc
    · exact hlo

theorem texts_max {lo : Nat} {w : World} {K : Value} {ks : List ByteArray} (h : Texts (Mine lo w) w K ks) : OkS (TMax lo w) K := by
  obtain ⟨p, cap, b, off, rfl, h2, h3, h4⟩ := h
  refine ⟨p, ks.length, cap, b, rfl, by omega, fun h0 => ?_⟩
  obtain ⟨hp, hlo, hoff, cur, hcur⟩ := h3 h0
  subst hoff
  refine ⟨hp, max_text hlo hcur ?_⟩
  have hc := h4 (ks.length - 1) (by omega)
  have hc' := (cell_of_row w b (0 + (ks.length - 1)) cur _ _ hcur).symm.trans hc
  have := (Array.getElem?_eq_some_iff.1 hc').1
  omega

theorem holds_max {lo : Nat} {w : World} {v : Value} {x : V} (h : Holds (Mine lo w) w v x) : ∃ k n s L K, v = .agg #[.int .i64 k, .int .i64 n, .string s, L, K] ∧ OkS (SMax lo w) L ∧ OkS (TMax lo w) K := by
  induction h with
  | mk k n s p cap K l ks b off c hr hp hc hK hl ih =>
    refine ⟨k, n, s, _, K, rfl, ⟨p, l.length, cap, b, rfl, by have := hr.2.2.2.2.2; omega, fun h0 => ?_⟩, texts_max hK⟩
    obtain ⟨hp', hlo, hoff, cur, hcur⟩ := hp h0
    subst hoff
    have at_ : ∀ i j, i < l.length → j < 5 → cur[i * 5 + j]? = some (c i j) := fun i j hi hj => by
      have := (cell_of_row w b (0 + (i * 5 + j)) cur _ _ hcur).symm.trans (hc i j hi hj)
      rwa [Nat.zero_add] at this
    refine ⟨hp', max_vals hlo hcur ?_ (fun i hi => ?_)⟩
    · have := (Array.getElem?_eq_some_iff.1 (at_ (l.length - 1) 4 (by omega) (by omega))).1
      omega
    · obtain ⟨k', n', s', L', K', e, o1, o2⟩ := ih i hi
      simp only [Value.agg.injEq, Array.mk.injEq, List.cons.injEq, and_true] at e
      obtain ⟨e0, e1, e2, e3, e4⟩ := e
      exact ⟨k', n', s', L', K', by rw [← e0]; exact at_ i 0 hi (by omega), by rw [← e1]; exact at_ i 1 hi (by omega), by rw [← e2]; exact at_ i 2 hi (by omega), by rw [← e3]; exact at_ i 3 hi (by omega), by rw [← e4]; exact at_ i 4 hi (by omega), o1, o2⟩

theorem Ty.kept {S T : Nat → Nat → Prop} {w w' : World} (h : Ty S T w) (hb : Below w.heap.size w w') : Ty S T w' :=
  ⟨fun b m hm => by
    obtain ⟨cur, h1, h2⟩ := h.vals b m hm
    exact ⟨cur, by rw [hb.block b (Array.getElem?_eq_some_iff.1 h1).1]; exact h1, h2⟩,
  fun b m hm => by
    obtain ⟨cur, h1, h2⟩ := h.texts b m hm
    exact ⟨cur, by rw [hb.block b (Array.getElem?_eq_some_iff.1 h1).1]; exact h1, h2⟩⟩
end Go.Proofs.Ytcheiombgnabaaa.Val
