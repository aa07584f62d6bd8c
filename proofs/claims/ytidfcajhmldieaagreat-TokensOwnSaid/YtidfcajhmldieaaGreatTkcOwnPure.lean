/-
  What the law TokensOwn wants of memory: lists that are spoilt stay rows of their kind; what lies elsewhere stays.
-/
import Derived.Test.YtidfcajhmldieaaGreatOwnBase
namespace Go.Proofs.YtidfcajhmldieaaGreat.Tkc
open Go.RowKit Go.Proofs.YtidfcajhmldieaaGreat.Oct Go.Proofs.YtidfcajhmldieaaGreat.Utf Go.Proofs.YtidfcajhmldieaaGreat.Crf Go.Proofs.YtidfcajhmldieaaGreat.Tab Go.Proofs.YtidfcajhmldieaaGreat.Tok

/-- What is told of a text: its tokens, or none. -/
def tsO (l : List UInt8) : List Tk := if 65536 < l.length then [] else if 4096 < (tokL l).length then [] else tokL l
def erO (l : List UInt8) : Int := if 65536 < l.length then 5 else if 4096 < (tokL l).length then 3 else 0
theorem tsO_len (l : List UInt8) : (tsO l).length ≤ 4096 := by
  unfold tsO
  split
  · exact Nat.zero_le _
  · split
    · exact Nat.zero_le _
    · omega
theorem toksM_nil (B : Nat) (w : World) : ToksM B w (.slice none 0 0) [] := ⟨[], rfl, World.ownsRow_nil _ _ _ _, fun _ hp => nomatch hp⟩
theorem to_lists {B : Nat} {l : List UInt8} {e : Ending} {w : World} (h : TokTo B l e w) : ∃ v, e = .returned (.tuple #[v, .int .i64 (erO l)]) ∧ ToksM B w v (tsO l) := by
  unfold TokTo at h
  unfold erO tsO
  by_cases h1 : 65536 < l.length
  · rw [if_pos h1] at h
    rw [if_pos h1, if_pos h1]
    exact ⟨_, h, toksM_nil _ _⟩
  · rw [if_neg h1] at h
    rw [if_neg h1, if_neg h1]
    by_cases h2 : 4096 < (tokL l).length
    · rw [if_pos h2] at h
      rw [if_pos h2, if_pos h2]
      exact ⟨_, h, toksM_nil _ _⟩
    · rw [if_neg h2] at h
      rw [if_neg h2, if_neg h2]
      exact h
theorem page_lists {B : Nat} {l : List UInt8} {e : Ending} {w : World} (h : TokEnd B l e w) : ∃ v, e = .returned (.tuple #[v, .int .i64 (erO l)]) ∧ ToksM B w v (tsO l) := by
  unfold TokEnd at h
  unfold erO tsO
  by_cases h1 : 65536 < l.length
  · rw [if_pos h1] at h
    rw [if_pos h1, if_pos h1]
    exact ⟨_, h, toksM_nil _ _⟩
  · rw [if_neg h1] at h
    rw [if_neg h1, if_neg h1]
    unfold TokAns at h
    by_cases h2 : 4096 < (tokL l).length
    · rw [if_pos h2] at h
      rw [if_pos h2, if_pos h2]
      exact ⟨_, h, toksM_nil _ _⟩
    · rw [if_neg h2] at h
      rw [if_neg h2, if_neg h2]
      exact h
theorem toks_same {B : Nat} {w w' : World} {v : Value} {ts : List Tk} (h : ToksM B w v ts) (hs : ∀ k, B ≤ k → w'.heap[k]? = w.heap[k]?) : ToksM B w' v ts := by
  obtain ⟨ps, h1, h2, h3⟩ := h
  exact ⟨ps, h1, own_same h2 (fun k hk _ => hs k hk), fun p hp => own_same (h3 p hp) (fun k hk _ => hs k hk)⟩
theorem toks_keep {B : Nat} {w w' : World} {v : Value} {ts : List Tk} (h : ToksM B w v ts) (hb : Below w.heap.size w w') : ToksM B w' v ts := by
  obtain ⟨ps, h1, h2, h3⟩ := h
  exact ⟨ps, h1, own_same h2 (fun k _ he => hb.block k (own_lt h2 k he)), fun p hp => own_same (h3 p hp) (fun k _ he => hb.block k (own_lt (h3 p hp) k he))⟩
theorem own_max {w : World} {base n size : Nat} {e : TypeId} {v : Value} {xs : List Value} (h : w.ownsRow base e size v n xs) : n ≤ 9223372036854775807 := by
  rcases h.2 with ⟨_, h0⟩ | ⟨g, cap, cur, _, _, _, h1, h2, _⟩
  · omega
  · unfold maxLen at h2
    omega
theorem toks_max {B : Nat} {w : World} {v : Value} {ts : List Tk} (h : ToksM B w v ts) : ∀ t ∈ ts, t.a.length ≤ 9223372036854775807 := by
  obtain ⟨ps, rfl, _, h3⟩ := h
  intro t ht
  obtain ⟨p, hp, rfl⟩ := List.mem_map.1 ht
  exact own_max (h3 p hp)

/-- The lists that a list of tokens lies in, as rows. -/
def Lists (lo hi : Nat) (w : World) (p : Option Addr) (n : Nat) : Prop :=
  0 < n → ∃ g cs, p = some ⟨g, 0, none⟩ ∧ lo ≤ g ∧ g < hi ∧ w.heap[g]? = some (.cells cs 29 (0, 0)) ∧ n * 5 ≤ cs.size ∧
    ∀ j, j < n → ∃ q m c, cs[j * 5 + 3]? = some (.slice q m c) ∧ m ≤ 9223372036854775807 ∧
      (0 < m → ∃ ga csa, q = some ⟨ga, 0, none⟩ ∧ lo ≤ ga ∧ ga < hi ∧ w.heap[ga]? = some (.cells csa 31 (0, 0)) ∧ m * 2 ≤ csa.size)
theorem Lists.keep {lo hi n : Nat} {w w' : World} {p : Option Addr} (h : Lists lo hi w p n) (hb : Below w.heap.size w w') : Lists lo hi w' p n := by
  intro hn
  obtain ⟨g, cs, h1, h2, h3, h4, h5, h6⟩ := h hn
  refine ⟨g, cs, h1, h2, h3, (hb.block g (Array.getElem?_eq_some_iff.1 h4).1).trans h4, h5, fun j hj => ?_⟩
  obtain ⟨q, m, c, k1, k2, k3⟩ := h6 j hj
  refine ⟨q, m, c, k1, k2, fun hm => ?_⟩
  obtain ⟨ga, csa, m1, m2, m3, m4, m5⟩ := k3 hm
  exact ⟨ga, csa, m1, m2, m3, (hb.block ga (Array.getElem?_eq_some_iff.1 m4).1).trans m4, m5⟩
theorem lists_of {lo : Nat} {w : World} {v : Value} {ts : List Tk} (h : ToksM lo w v ts) : ∃ p cap, v = .slice p ts.length cap ∧ Lists lo w.heap.size w p ts.length := by
  obtain ⟨ps, rfl, h2, h3⟩ := h
  rw [List.length_map]
  rcases h2.2 with ⟨rfl, h0⟩ | ⟨g, cap, cur, rfl, hb, hg, hc, hm, hs, ht⟩
  · exact ⟨none, 0, by rw [h0], fun hn => absurd hn (by omega)⟩
  · refine ⟨_, cap, rfl, fun hn => ⟨g, cur, rfl, hb, (Array.getElem?_eq_some_iff.1 hg).1, hg, by rw [hs]; omega, fun j hj => ?_⟩⟩
    have hx : cur[j * 5 + 3]? = some ps[j].2 := by
      have e := flat_cell tkCs 5 (fun _ => rfl) ps j hj 3 (by decide)
      rw [← ht] at e
      rw [List.getElem?_take] at e
      split at e
      · rw [← Array.getElem?_toList]
        exact e
      · omega
    have ha := h3 ps[j] (List.getElem_mem hj)
    rcases ha.2 with ⟨hv, h0⟩ | ⟨ga, ca, cua, hv, hba, hga, hca, hma, hsa, _⟩
    · rw [hv] at hx
      exact ⟨none, 0, 0, hx, Nat.zero_le _, fun hm => absurd hm (by omega)⟩
    · rw [hv] at hx
      refine ⟨_, _, ca, hx, own_max ha, fun _ => ⟨ga, cua, rfl, hba, (Array.getElem?_eq_some_iff.1 hga).1, hga, by rw [hsa]; omega⟩⟩

/-- What spoiling leaves: what lies outside of the blocks from lo to hi as it lay; each row a row of its kind and length. -/
structure Sp (lo hi : Nat) (w w' : World) : Prop where
  os : w'.os = w.os
  tape : w'.tape = w.tape
  output : w'.output = w.output
  size : w'.heap.size = w.heap.size
  block : ∀ k : Nat, k < lo ∨ hi ≤ k → w'.heap[k]? = w.heap[k]?
  row : ∀ (k : Nat) (cs : Array Value) (T : TypeId), w.heap[k]? = some (.cells cs T (0, 0)) → ∃ cs', w'.heap[k]? = some (.cells cs' T (0, 0)) ∧ cs'.size = cs.size
theorem Sp.refl (lo hi : Nat) (w : World) : Sp lo hi w w := ⟨rfl, rfl, rfl, rfl, fun _ _ => rfl, fun _ cs _ h => ⟨cs, h, rfl⟩⟩
theorem Sp.set {lo hi b : Nat} {w w' : World} (h : Sp lo hi w w') (h1 : lo ≤ b) (h2 : b < hi) (i : Nat) (v : Value) : Sp lo hi w (w'.setCell ⟨b, i, none⟩ v) := by
  refine ⟨h.os, h.tape, h.output, by simpa using h.size, fun k hk => ?_, fun k cs T hc => ?_⟩
  · rw [heap_setCell_other _ _ _ _ (show k ≠ b by omega)]
    exact h.block k hk
  · obtain ⟨cs', g1, g2⟩ := h.row k cs T hc
    by_cases e : k = b
    · subst e
      exact ⟨_, heap_setCell_same _ _ i _ _ v g1, by rw [Array.size_setIfInBounds]; exact g2⟩
    · exact ⟨cs', (heap_setCell_other _ _ _ _ e).trans g1, g2⟩
theorem Sp.below {lo hi : Nat} {w w' : World} (h : Sp lo hi w w') : Below lo w w' := ⟨h.os, h.tape, h.output, Nat.le_of_eq h.size.symm, fun k hk => h.block k (.inl hk)⟩
/-- Between two rounds: the tokens from i on have their lists still. -/
structure Inv (lo hi : Nat) (p : Option Addr) (w w' : World) (i : Nat) : Prop where
  sp : Sp lo hi w w'
  rows : ∀ (g : Nat) (cs : Array Value), p = some ⟨g, 0, none⟩ → w.heap[g]? = some (.cells cs 29 (0, 0)) → ∃ cs', w'.heap[g]? = some (.cells cs' 29 (0, 0)) ∧ cs'.size = cs.size ∧ ∀ j, i ≤ j → cs'[j * 5 + 3]? = cs[j * 5 + 3]?
theorem Inv.refl (lo hi : Nat) (p : Option Addr) (w : World) : Inv lo hi p w w 0 := ⟨.refl _ _ _, fun _ cs _ h => ⟨cs, h, rfl, fun _ _ => rfl⟩⟩
theorem Inv.next {lo hi i : Nat} {p : Option Addr} {w w' : World} (h : Inv lo hi p w w' i) : Inv lo hi p w w' (i + 1) :=
  ⟨h.sp, fun g cs hp hg => by
    obtain ⟨cs', h1, h2, h3⟩ := h.rows g cs hp hg
    exact ⟨cs', h1, h2, fun j hj => h3 j (by omega)⟩⟩
theorem Inv.att {lo hi i ga : Nat} {p : Option Addr} {w w' : World} {csa : Array Value} (h : Inv lo hi p w w' i) (ha : w.heap[ga]? = some (.cells csa 31 (0, 0))) (h1 : lo ≤ ga) (h2 : ga < hi) (o : Nat) (v : Value) : Inv lo hi p w (w'.setCell ⟨ga, o, none⟩ v) i := by
  refine ⟨h.sp.set h1 h2 o v, fun g cs hp hg => ?_⟩
  obtain ⟨cs', g1, g2, g3⟩ := h.rows g cs hp hg
  refine ⟨cs', (heap_setCell_other _ _ _ _ (fun e => ?_)).trans g1, g2, g3⟩
  have e' : g = ga := e
  subst e'
  have e2 := hg.symm.trans ha
  injection e2 with e2
  injection e2 with _ e3 _
  exact absurd e3 (by decide)
theorem Inv.tok {lo hi i g : Nat} {p : Option Addr} {w w' : World} (h : Inv lo hi p w w' i) (hp : p = some ⟨g, 0, none⟩) (h1 : lo ≤ g) (h2 : g < hi) (o : Nat) (ho : o < i * 5) (v : Value) : Inv lo hi p w (w'.setCell ⟨g, o, none⟩ v) i := by
  refine ⟨h.sp.set h1 h2 o v, fun g' cs hp' hg => ?_⟩
  obtain ⟨cs', g1, g2, g3⟩ := h.rows g' cs hp' hg
  have e : g' = g := by
    rw [hp] at hp'
    injection hp' with hp'
    injection hp' with hp' _ _
    exact hp'.symm
  subst e
  refine ⟨_, heap_setCell_same _ _ o _ _ v g1, by rw [Array.size_setIfInBounds]; exact g2, fun j hj => ?_⟩
  rw [Array.getElem?_setIfInBounds_ne (by omega)]
  exact g3 j hj
end Go.Proofs.YtidfcajhmldieaaGreat.Tkc
