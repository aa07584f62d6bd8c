/-
  Part 3: MrkOk.
-/
import Derived.Test.YtbpccbdgkkfdpaaDoorMkBaseP2
/-
  Contract of the page's Check of states (muslinref13): of a state that may be it answers OK.
-/
namespace Go.Proofs.YtbpccbdgkkfdpaaDoor.Scn
open Go.RowKit Go.Proofs.YtbpccbdgkkfdpaaDoor.Oct Go.Proofs.YtbpccbdgkkfdpaaDoor.Tab

theorem att_eq (s : Sc) : attI s.k s.e s.a = attK s := by
  unfold attI attK
  have e : (((s.k : Int) < 8 ∨ 10 < (s.k : Int)) ∨ endE s.e = true) = ((s.k < 8 ∨ 10 < s.k) ∨ endE s.e = true) := by
    rw [show ((s.k : Int) < 8) = (s.k < 8) by rw [eq_iff_iff]; omega, show (10 < (s.k : Int)) = (10 < s.k) by rw [eq_iff_iff]; omega]
  simp only [e]
theorem lan_eq (s : Sc) : lanI s.k s.e s.a = langN s := by
  unfold lanI langN
  rw [att_eq]
  simp only [show ((s.k : Int) = 18) = (s.k = 18) by rw [eq_iff_iff]; omega, show ((s.k : Int) = 19) = (s.k = 19) by rw [eq_iff_iff]; omega,
    show ((s.k : Int) = 9) = (s.k = 9) by rw [eq_iff_iff]; omega, show ((s.k : Int) = 10) = (s.k = 10) by rw [eq_iff_iff]; omega]

structure Ok (s : Sc) : Prop where
  k : s.k ≤ 19
  e2 : s.e.length ≤ 33
  a2 : s.a.length ≤ 32
  p2 : s.p.length ≤ 34
  r2 : s.r.length ≤ 16
  w : s.w.length ≤ 16
  n1 : 0 ≤ s.n
  n2 : s.n ≤ 15
  e1 : elemK s.k = true ∨ s.e = []
  a1 : attrK s.k = true ∨ s.a = []
  p1 : 16 ≤ s.k ∨ s.p = []
  r1 : refK s.k = true ∨ s.r = []
  d : (s.k = 9 ∧ (s.d = 34 ∨ s.d = 39)) ∨ (s.k ≠ 9 ∧ s.d = 0)
  l : langN s = 0 → s.n = 0 ∧ s.w = []
theorem ok_of {s : Sc} (h : checkS s = 0) : Ok s := by
  unfold checkS at h
  split at h
  · omega
  rename_i c1
  split at h
  · omega
  rename_i c2
  split at h
  · omega
  rename_i c3
  split at h
  · omega
  rename_i c4
  split at h
  · omega
  rename_i c5
  split at h
  · omega
  rename_i c6
  have or_bool : ∀ (b : Bool) (l : List UInt8), ¬ (b = false ∧ l ≠ []) → b = true ∨ l = [] := fun b l hq => by
    cases b with
    | true => exact .inl rfl
    | false => exact .inr (Classical.byContradiction fun hl => hq ⟨rfl, hl⟩)
  refine ⟨by omega, by omega, by omega, by omega, by omega, by omega, by omega, by omega, or_bool _ _ fun hq => c4 (.inl hq), or_bool _ _ fun hq => c4 (.inr (.inl hq)), ?_, or_bool _ _ fun hq => c4 (.inr (.inr (.inr hq))), ?_, ?_⟩
  · by_cases hk : 16 ≤ s.k
    · exact .inl hk
    · exact .inr (Classical.byContradiction fun hl => c4 (.inr (.inr (.inl ⟨by omega, hl⟩))))
  · by_cases hk : s.k = 9
    · refine .inl ⟨hk, Classical.byContradiction fun hl => c5 (.inl ⟨hk, fun hd => hl (.inl hd), fun hd => hl (.inr hd)⟩)⟩
    · exact .inr ⟨hk, Classical.byContradiction fun hl => c5 (.inr ⟨hk, hl⟩)⟩
  · intro hl
    exact ⟨Classical.byContradiction fun hn => c6 ⟨hl, .inl hn⟩, Classical.byContradiction fun hn => c6 ⟨hl, .inr hn⟩⟩

/-- A state as it lies in a call. -/
abbrev scV (s : Sc) : Value := stV s.k (S s.e) (S s.a) s.d (S s.p) (S s.r) s.n (S s.w)
theorem rcheck_ok (s : Sc) (h : checkS s = 0) (w : World) :
    Calls Tryd.prog 8 #[scV s] w fun x w' => x = .returned (.int .i64 0) ∧ Below w.heap.size w w' := by
  have H := ok_of h
  have hl := lan_eq s
  obtain ⟨k, e, a, d, p, r, n, wd⟩ := s
  obtain ⟨hk, e2, a2, p2, r2, w2, n1, n2, e1, a1, p1, r1, hd, hz⟩ := H
  rw [← hl] at hz
  clear hl h
  dsimp only at *
  unfold elemK at e1
  unfold attrK at a1
  unfold refK at r1
  simp only [decide_eq_true_eq] at e1 a1 r1
  show Calls Tryd.prog 8 #[stV (k : Int) (S e) (S a) d (S p) (S r) n (S wd)] w _
  have lz : ∀ q : Int, ¬ q = 9 → ¬ q = 10 → ¬ q = 18 → ¬ q = 19 → lanI q e a = 0 := fun q g1 g2 g3 g4 => by
    unfold lanI
    rw [if_neg g3, if_neg g4, if_neg (fun h => h.elim g1 g2)]
  rcases (by omega : k = 0 ∨ (1 ≤ k ∧ k ≤ 2) ∨ (3 ≤ k ∧ k ≤ 5) ∨ (6 ≤ k ∧ k ≤ 8) ∨ k = 9 ∨ k = 10 ∨ (11 ≤ k ∧ k ≤ 12) ∨ (13 ≤ k ∧ k ≤ 15) ∨ k = 16 ∨ k = 17 ∨ (18 ≤ k ∧ k ≤ 19)) with g | g | g | g | g | g | g | g | g | g | g
  · subst g
    obtain rfl := e1.resolve_left (by omega)
    obtain rfl := a1.resolve_left (by omega)
    obtain rfl := p1.resolve_left (by omega)
    obtain ⟨-, rfl⟩ := hd.resolve_left (by omega)
    obtain ⟨rfl, rfl⟩ := hz (lz _ (by omega) (by omega) (by omega) (by omega))
    exact chk_0 r r2 w
  · obtain rfl := e1.resolve_left (by omega)
    obtain rfl := a1.resolve_left (by omega)
    obtain rfl := p1.resolve_left (by omega)
    obtain rfl := r1.resolve_left (by omega)
    obtain ⟨-, rfl⟩ := hd.resolve_left (by omega)
    obtain ⟨rfl, rfl⟩ := hz (lz _ (by omega) (by omega) (by omega) (by omega))
    exact chk_1 k (by omega) (by omega) w
  · obtain rfl := a1.resolve_left (by omega)
    obtain rfl := p1.resolve_left (by omega)
    obtain rfl := r1.resolve_left (by omega)
    obtain ⟨-, rfl⟩ := hd.resolve_left (by omega)
    obtain ⟨rfl, rfl⟩ := hz (lz _ (by omega) (by omega) (by omega) (by omega))
    exact chk_3 k (by omega) (by omega) e e2 w
  · obtain rfl := p1.resolve_left (by omega)
    obtain rfl := r1.resolve_left (by omega)
    obtain ⟨-, rfl⟩ := hd.resolve_left (by omega)
    obtain ⟨rfl, rfl⟩ := hz (lz _ (by omega) (by omega) (by omega) (by omega))
    exact chk_6 k (by omega) (by omega) e a e2 a2 w
  · subst g
    obtain rfl := p1.resolve_left (by omega)
    obtain ⟨-, hd⟩ := hd.resolve_right (by omega)
    by_cases hm : lanI (9 : Int) e a = 0
    · obtain ⟨rfl, rfl⟩ := hz hm
      rcases hd with rfl | rfl
      · exact chk_9_34 e a r e2 a2 r2 hm w
      · exact chk_9_39 e a r e2 a2 r2 hm w
    · rcases hd with rfl | rfl
      · exact chk_9_34n e a r wd e2 a2 r2 w2 n n1 n2 hm w
      · exact chk_9_39n e a r wd e2 a2 r2 w2 n n1 n2 hm w
  · subst g
    obtain rfl := p1.resolve_left (by omega)
    obtain ⟨-, rfl⟩ := hd.resolve_left (by omega)
    by_cases hm : lanI (10 : Int) e a = 0
    · obtain ⟨rfl, rfl⟩ := hz hm
      exact chk_10 e a r e2 a2 r2 hm w
    · exact chk_10n e a r wd e2 a2 r2 w2 n n1 n2 hm w
  · obtain rfl := a1.resolve_left (by omega)
    obtain rfl := p1.resolve_left (by omega)
    obtain rfl := r1.resolve_left (by omega)
    obtain ⟨-, rfl⟩ := hd.resolve_left (by omega)
    obtain ⟨rfl, rfl⟩ := hz (lz _ (by omega) (by omega) (by omega) (by omega))
    exact chk_11 k (by omega) (by omega) e e2 w
  · obtain rfl := e1.resolve_left (by omega)
    obtain rfl := a1.resolve_left (by omega)
    obtain rfl := p1.resolve_left (by omega)
    obtain rfl := r1.resolve_left (by omega)
    obtain ⟨-, rfl⟩ := hd.resolve_left (by omega)
    obtain ⟨rfl, rfl⟩ := hz (lz _ (by omega) (by omega) (by omega) (by omega))
    exact chk_13 k (by omega) (by omega) w
  · subst g
    obtain rfl := e1.resolve_left (by omega)
    obtain rfl := a1.resolve_left (by omega)
    obtain rfl := r1.resolve_left (by omega)
    obtain ⟨-, rfl⟩ := hd.resolve_left (by omega)
    obtain ⟨rfl, rfl⟩ := hz (lz _ (by omega) (by omega) (by omega) (by omega))
    exact chk_16 p p2 w
  · subst g
    obtain rfl := a1.resolve_left (by omega)
    obtain ⟨-, rfl⟩ := hd.resolve_left (by omega)
    obtain ⟨rfl, rfl⟩ := hz (lz _ (by omega) (by omega) (by omega) (by omega))
    exact chk_17 e p r e2 p2 r2 w
  · obtain rfl := a1.resolve_left (by omega)
    obtain rfl := r1.resolve_left (by omega)
    obtain ⟨-, rfl⟩ := hd.resolve_left (by omega)
    exact chk_18 k (by omega) (by omega) e p wd e2 p2 w2 n n1 n2 w
end Go.Proofs.YtbpccbdgkkfdpaaDoor.Scn
