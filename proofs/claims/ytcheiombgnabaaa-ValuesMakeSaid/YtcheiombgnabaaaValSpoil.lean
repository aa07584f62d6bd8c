/-
  Contract of SpoilValue: whatever it writes over lies in the blocks that are told; these stay blocks of values and of texts.
-/
import Derived.Test.YtcheiombgnabaaaValField
namespace Go.Proofs.Ytcheiombgnabaaa.Val
open Go.RowKit Go.Proofs.Ytcheiombgnabaaa.Oct

/-- A slice of so many, in a block that is told, from its beginning on. -/
def OkS (S : Nat → Nat → Prop) (L : Value) : Prop := ∃ (p : Option Addr) (m cap b : Nat), L = .slice p m cap ∧ m ≤ 140737488351232 ∧ (0 < m → p = some ⟨b, 0, none⟩ ∧ S b m)

/-- Blocks of values (S) and of texts (T). -/
structure Ty (S T : Nat → Nat → Prop) (w : World) : Prop where
  vals : ∀ b m, S b m → ∃ cur : Array Value, w.heap[b]? = some (.cells cur 25 (0, 0)) ∧ m * 5 ≤ cur.size ∧
    ∀ i, i < m → ∃ k n s L K, cur[i * 5]? = some (.int .i64 k) ∧ cur[i * 5 + 1]? = some (.int .i64 n) ∧ cur[i * 5 + 2]? = some (.string s) ∧ cur[i * 5 + 3]? = some L ∧ cur[i * 5 + 4]? = some K ∧ OkS S L ∧ OkS T K
  texts : ∀ b m, T b m → ∃ cur : Array Value, w.heap[b]? = some (.cells cur 9 (0, 0)) ∧ m ≤ cur.size

/-- What is not told lies as it lay. -/
structure Spoilt (S T : Nat → Nat → Prop) (W W' : World) : Prop where
  os : W'.os = W.os
  tape : W'.tape = W.tape
  output : W'.output = W.output
  size : W.heap.size ≤ W'.heap.size
  block : ∀ b, b < W.heap.size → (∀ m, ¬ S b m) → (∀ m, ¬ T b m) → W'.heap[b]? = W.heap[b]?

variable {S T : Nat → Nat → Prop}
theorem Spoilt.refl (W : World) : Spoilt S T W W := ⟨rfl, rfl, rfl, Nat.le_refl _, fun _ _ _ _ => rfl⟩
theorem Spoilt.trans {A B C : World} (h : Spoilt S T A B) (k : Spoilt S T B C) : Spoilt S T A C :=
  ⟨k.os.trans h.os, k.tape.trans h.tape, k.output.trans h.output, Nat.le_trans h.size k.size, fun b hb h1 h2 => (k.block b (Nat.lt_of_lt_of_le hb h.size) h1 h2).trans (h.block b hb h1 h2)⟩
theorem Spoilt.of_below {A B : World} (h : Below A.heap.size A B) : Spoilt S T A B := ⟨h.os, h.tape, h.output, h.size, fun b hb _ _ => h.block b hb⟩
theorem Spoilt.setCell {A B : World} (h : Spoilt S T A B) {b o : Nat} (hb : (∃ m, S b m) ∨ ∃ m, T b m) (v : Value) : Spoilt S T A (B.setCell ⟨b, o, none⟩ v) :=
  ⟨h.os, h.tape, h.output, by simpa using h.size, fun c hc h1 h2 => by
    rw [heap_setCell_other _ _ _ _ (fun e => ?_)]
    · exact h.block c hc h1 h2
    · subst e
      rcases hb with ⟨m, hm⟩ | ⟨m, hm⟩
      · exact h1 m hm
      · exact h2 m hm⟩

theorem Ty.alloc {w : World} (h : Ty S T w) (o : Obj) : Ty S T (w.alloc o) :=
  ⟨fun b m hb => by
    obtain ⟨cur, h1, h2⟩ := h.vals b m hb
    exact ⟨cur, by rw [Go.heap_alloc_old _ _ (Array.getElem?_eq_some_iff.1 h1).1]; exact h1, h2⟩,
  fun b m hb => by
    obtain ⟨cur, h1, h2⟩ := h.texts b m hb
    exact ⟨cur, by rw [Go.heap_alloc_old _ _ (Array.getElem?_eq_some_iff.1 h1).1]; exact h1, h2⟩⟩
theorem Ty.lt {w : World} (h : Ty S T w) {b : Nat} (hb : (∃ m, S b m) ∨ ∃ m, T b m) : b < w.heap.size := by
  rcases hb with ⟨m, hm⟩ | ⟨m, hm⟩
  · obtain ⟨cur, h1, _⟩ := h.vals b m hm
    exact (Array.getElem?_eq_some_iff.1 h1).1
  · obtain ⟨cur, h1, _⟩ := h.texts b m hm
    exact (Array.getElem?_eq_some_iff.1 h1).1

/-- One value written over. -/
abbrev over (w : World) (b i : Nat) : World :=
  ((((w.setCell ⟨b, i * 5, none⟩ (.int .i64 77)).setCell ⟨b, i * 5 + 1, none⟩ (.int .i64 0)).setCell ⟨b, i * 5 + 2, none⟩ (.string ⟨#[]⟩)).setCell ⟨b, i * 5 + 3, none⟩ (.slice none 0 0)).setCell ⟨b, i * 5 + 4, none⟩ (.slice none 0 0)

theorem okS_nil (S : Nat → Nat → Prop) : OkS S (.slice none 0 0) := ⟨none, 0, 0, 0, rfl, by omega, fun h => absurd h (by omega)⟩

theorem Ty.over {w : World} (h : Ty S T w) {b m i : Nat} (hb : S b m) (hi : i < m) : Ty S T (over w b i) := by
  obtain ⟨cur, h1, h2, h3⟩ := h.vals b m hb
  have e1 := heap_setCell_same w b (i * 5) cur _ (.int .i64 77) h1
  have e2 := heap_setCell_same _ b (i * 5 + 1) _ _ (.int .i64 0) e1
  have e3 := heap_setCell_same _ b (i * 5 + 2) _ _ (.string ⟨#[]⟩) e2
  have e4 := heap_setCell_same _ b (i * 5 + 3) _ _ (.slice none 0 0) e3
  have e5 := heap_setCell_same _ b (i * 5 + 4) _ _ (.slice none 0 0) e4
  have oth : ∀ c, c ≠ b → (Val.over w b i).heap[c]? = w.heap[c]? := fun c hc => by
    unfold Val.over
    rw [heap_setCell_other _ _ _ _ hc, heap_setCell_other _ _ _ _ hc, heap_setCell_other _ _ _ _ hc, heap_setCell_other _ _ _ _ hc, heap_setCell_other _ _ _ _ hc]
  refine ⟨fun c m' hc => ?_, fun c m' hc => ?_⟩
  · by_cases hcb : c = b
    · subst hcb
      obtain ⟨cur', g1, g2, g3⟩ := h.vals c m' hc
      rw [h1] at g1
      have ec : cur = cur' := by simpa using g1
      subst ec
      refine ⟨_, e5, by simpa using g2, fun t ht => ?_⟩
      by_cases hti : t = i
      · subst hti
        refine ⟨77, 0, ⟨#[]⟩, .slice none 0 0, .slice none 0 0, ?_, ?_, ?_, ?_, ?_, okS_nil _, okS_nil _⟩
        all_goals (simp [Array.getElem?_setIfInBounds]; omega)
      · obtain ⟨k, n, s, L, K, f0, f1, f2, f3, f4, f5, f6⟩ := g3 t ht
        refine ⟨k, n, s, L, K, ?_, ?_, ?_, ?_, ?_, f5, f6⟩
        · rw [← f0]; repeat rw [Array.getElem?_setIfInBounds_ne (by omega)]
        · rw [← f1]; repeat rw [Array.getElem?_setIfInBounds_ne (by omega)]
        · rw [← f2]; repeat rw [Array.getElem?_setIfInBounds_ne (by omega)]
        · rw [← f3]; repeat rw [Array.getElem?_setIfInBounds_ne (by omega)]
        · rw [← f4]; repeat rw [Array.getElem?_setIfInBounds_ne (by omega)]
    · obtain ⟨cur', g⟩ := h.vals c m' hc
      exact ⟨cur', by rw [oth c hcb]; exact g.1, g.2⟩
  · obtain ⟨cur', g1, g2⟩ := h.texts c m' hc
    have hcb : c ≠ b := by
      intro e
      subst e
      rw [h1] at g1
      simp at g1
    exact ⟨cur', by rw [oth c hcb]; exact g1, g2⟩

theorem Ty.text {w : World} (h : Ty S T w) {b m i : Nat} (hb : T b m) (v : Value) : Ty S T (w.setCell ⟨b, i, none⟩ v) := by
  obtain ⟨cur, h1, h2⟩ := h.texts b m hb
  have e1 := heap_setCell_same w b i cur _ v h1
  refine ⟨fun c m' hc => ?_, fun c m' hc => ?_⟩
  · obtain ⟨cur', g1, g2⟩ := h.vals c m' hc
    have hcb : c ≠ b := by
      intro e
      subst e
      rw [h1] at g1
      simp at g1
    exact ⟨cur', by rw [heap_setCell_other _ _ _ _ hcb]; exact g1, g2⟩
  · by_cases hcb : c = b
    · subst hcb
      obtain ⟨cur', g1, g2⟩ := h.texts c m' hc
      rw [h1] at g1
      have ec : cur = cur' := by simpa using g1
      subst ec
      exact ⟨_, e1, by simpa using g2⟩
    · obtain ⟨cur', g1, g2⟩ := h.texts c m' hc
      exact ⟨cur', by rw [heap_setCell_other _ _ _ _ hcb]; exact g1, g2⟩
end Go.Proofs.Ytcheiombgnabaaa.Val
