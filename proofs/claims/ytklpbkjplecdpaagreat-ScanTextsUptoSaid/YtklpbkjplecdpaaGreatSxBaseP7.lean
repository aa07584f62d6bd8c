/-
  Part 7: ScnGo2.
-/
import Derived.Test.YtklpbkjplecdpaaGreatSxBaseP6
/-
  Where in HTML a text stands, as the code goes: what each of its calls makes of a state and an octet, held against the plain machine.
-/
namespace Go.Proofs.YtklpbkjplecdpaaGreat.Scn
open Oct Crf Tab Tok

def entS (k : Nat) (s : Sc) : Sc := ⟨k, if 5 ≤ k ∧ k ≤ 12 then s.e else [], if 7 ≤ k ∧ k ≤ 10 then s.a else [], 0, [], [], 0, []⟩
def leavesN (b : Nat) (s : Sc) (c : UInt8) : Option Res := if blB c = true then some (.ok (entS b s)) else if c = 47 then some (.ok (entS 12 s)) else if c = 62 then some (endS s.e) else none
def dataC (s : Sc) (c : UInt8) : Res := thenR (refC s c) fun u b => if b = false ∧ c = 60 then .ok (entS 1 u) else .ok u
def nameC (s : Sc) (c : UInt8) : Res := match leavesN 5 s c with
  | some r => r
  | none => if s.e.length < 32 + (if endE s.e = true then 1 else 0) then .ok { s with e := s.e ++ [low c] } else .error 5
def befC (s : Sc) (c : UInt8) : Res := match leavesN 5 s c with
  | some r => r
  | none => .ok { entS 6 s with a := [low c] }
def attC (s : Sc) (c : UInt8) : Res := if c = 61 then .ok (entS 8 s) else match leavesN 7 s c with
  | some r => r
  | none => if s.a.length < 32 then .ok { s with a := s.a ++ [low c] } else .error 5
def aftC (s : Sc) (c : UInt8) : Res := if c = 61 then .ok (entS 8 s) else match leavesN 7 s c with
  | some r => r
  | none => befC (entS 5 s) c
def valC (s : Sc) (c : UInt8) : Res := thenR (refC s c) fun u b => if b = true then .ok u else if c = u.d then andThen (demS (rulN u) u) fun v => .ok (entS 11 v) else folS (rulN u) [c] u
def barC (s : Sc) (c : UInt8) : Res :=
  if c = 62 ∧ elemN s.e = 4 then .error 91
  else thenR (refC s c) fun u b => if b = true then .ok u else if blB c = true then andThen (demS (rulN u) u) fun v => .ok (entS 5 v)
    else if c = 62 then andThen (demS (rulN u) u) fun v => endS v.e else folS (rulN u) [c] u
def wanC (s : Sc) (c : UInt8) : Res := if blB c = true then .ok s else if c = 34 ∨ c = 39 then .ok { entS 9 s with d := c } else if c = 62 then endS s.e else barC (entS 10 s) c
def bogC (s : Sc) (c : UInt8) : Res := if c = 62 then .ok (entS 0 s) else .ok s
def marC (s : Sc) (c : UInt8) : Res := if c ≠ 45 then bogC (entS 15 s) c else if s.k = 13 then .ok (entS 14 s) else .ok (entS 16 s)
def comC (s : Sc) (c : UInt8) : Res := if c = 62 ∧ s.p = [45, 45] then .ok (entS 0 s) else if c ≠ 45 then .ok { s with p := [] } else if s.p = [] then .ok { s with p := [45] } else .ok { s with p := [45, 45] }
def opeC (s : Sc) (c : UInt8) : Res :=
  if letB c = true then nameC (scK 3 []) c else if c = 47 then .ok (entS 2 s) else if c = 33 then .ok (entS 13 s) else if c = 63 then .ok (entS 15 s) else dataC (entS 0 s) c
def eopC (s : Sc) (c : UInt8) : Res := if letB c = true then nameC (scK 4 [47]) c else bogC (entS 15 s) c
def elm0 (s : Sc) (c : UInt8) : Res := if c = 60 then .ok { s with p := [60], r := [] } else if s.k = 17 then thenR (refC s c) fun u _ => .ok u else folS (rulN s) [c] s
def endB (c : UInt8) : Bool := blB c || c == 47 || c == 62
def elmC (s : Sc) (c : UInt8) : Res :=
  if s.k = 19 ∧ s.p ++ [c] = [60, 33, 45, 45] then .error 94
  else if startsB (60 :: 47 :: s.e) (s.p ++ [c]) = true ∨ (s.k = 19 ∧ preL (s.p ++ [c]) [60, 33, 45, 45] = true) then (if (s.p ++ [c]).length ≤ 34 then .ok { s with p := s.p ++ [c], r := [] } else .error 5)
  else if s.p.map low = (60 :: 47 :: s.e).map low ∧ endB c = true then nameC (scK 4 (47 :: s.e)) c
  else if s.p ≠ [] then andThen (folS (rulN s) s.p { s with p := [] }) fun u => elm0 u c
  else if s.k = 17 then thenR (refC s c) fun u _ => .ok u else folS (rulN s) [c] s
def askC (s : Sc) (c : UInt8) : Res :=
  if s.k = 0 then dataC s c else if s.k = 1 then opeC s c else if s.k = 2 then eopC s c
  else if s.k = 3 ∨ s.k = 4 then nameC s c else if s.k = 5 ∨ s.k = 11 ∨ s.k = 12 then befC s c
  else if s.k = 6 then attC s c else if s.k = 7 then aftC s c else if s.k = 8 then wanC s c else if s.k = 9 then valC s c else if s.k = 10 then barC s c
  else if s.k = 13 ∨ s.k = 14 then marC s c else if s.k = 15 then bogC s c else if s.k = 16 then comC s c else elmC s c
def goC (s : Sc) (c : UInt8) : Res := if s.k = 10 ∧ c = 62 ∧ elemN s.e = 4 then .error 91 else goS s c

structure Met (s : Sc) : Prop where
  k : s.k ≤ 19
  e1 : elemK s.k = true ∨ s.e = []
  e2 : s.e.length ≤ 33
  a1 : attrK s.k = true ∨ s.a = []
  a2 : s.a.length ≤ 32
  d : (s.k = 9 ∧ (s.d = 34 ∨ s.d = 39)) ∨ (s.k ≠ 9 ∧ s.d = 0)
  p1 : 16 ≤ s.k ∨ s.p = []
  p2 : s.p.length ≤ 34
  r1 : refK s.k = true ∨ s.r = []
  r2 : s.r.length ≤ 16
  n1 : 0 ≤ s.n
  n2 : s.n ≤ 15
  w : s.w.length ≤ 16
  l : langN s = 0 → s.n = 0 ∧ s.w = []
  q : s.k = 16 → s.p = [] ∨ s.p = [45] ∨ s.p = [45, 45]
  t3 : s.k = 3 → endE s.e = false
  t4 : s.k = 4 → endE s.e = true
  x : 17 ≤ s.k → s.e.length ≤ 32
  y : s.p = [] ∨ s.r = []
  z : 17 ≤ s.k → PendOk s

theorem leaves_within (b : Nat) (hb : b = 5) (s : Sc) (c : UInt8) : (match leavesN b s c with
  | some r => r
  | none => .ok { scK 6 s.e with a := [low c] }) = withinS s.e c := by
  subst hb
  unfold leavesN withinS
  by_cases h1 : blB c = true
  · rw [if_pos h1, if_pos h1]; rfl
  · rw [if_neg h1, if_neg h1]
    by_cases h2 : c = 47
    · rw [if_pos h2, if_pos h2]; rfl
    · rw [if_neg h2, if_neg h2]
      by_cases h3 : c = 62
      · rw [if_pos h3, if_pos h3]
      · rw [if_neg h3, if_neg h3]
theorem leaves_none {b : Nat} {s : Sc} {c : UInt8} (h : ¬ (blB c = true ∨ c = 47 ∨ c = 62)) : leavesN b s c = none := by
  unfold leavesN
  rw [if_neg (fun g => h (.inl g)), if_neg (fun g => h (.inr (.inl g))), if_neg (fun g => h (.inr (.inr g)))]
theorem leaves_some {s : Sc} {c : UInt8} (h : blB c = true ∨ c = 47 ∨ c = 62) : leavesN 5 s c = some (withinS s.e c) := by
  unfold leavesN withinS
  by_cases h1 : blB c = true
  · rw [if_pos h1, if_pos h1]; rfl
  · rw [if_neg h1, if_neg h1]
    by_cases h2 : c = 47
    · rw [if_pos h2, if_pos h2]; rfl
    · rw [if_neg h2, if_neg h2]
      have h3 : c = 62 := by
        rcases h with g | g | g
        · exact absurd g h1
        · exact absurd g h2
        · exact g
      rw [if_pos h3, if_pos h3]
theorem bef_go (s : Sc) (c : UInt8) : befC s c = withinS s.e c := leaves_within 5 rfl s c
theorem fol_d (k : Nat) (l : List UInt8) : ∀ s v, folS k l s = .ok v → v.d = s.d ∧ v.k = s.k ∧ v.e = s.e ∧ v.a = s.a ∧ v.p = s.p := by
  induction l with
  | nil => intro s v q; injection q with q; subst q; exact ⟨rfl, rfl, rfl, rfl, rfl⟩
  | cons c t ih =>
    intro s v q
    rw [fol_cons] at q
    obtain ⟨a, h1, h2⟩ := andThen_ok q
    obtain ⟨a2, h3, h4⟩ := andThen_ok h2
    have e1 : a.d = s.d ∧ a.k = s.k ∧ a.e = s.e ∧ a.a = s.a ∧ a.p = s.p := by
      unfold octK at h1
      split at h1
      · injection h1 with h1; subst h1; exact ⟨rfl, rfl, rfl, rfl, rfl⟩
      · split at h1
        · cases h1
        · injection h1 with h1; subst h1; exact ⟨rfl, rfl, rfl, rfl, rfl⟩
    have e2 : a2 = a := by
      unfold demS at h3
      split at h3
      · cases h3
      · split at h3
        · cases h3
        · injection h3 with h3; exact h3.symm
    subst e2
    have e3 := ih _ _ h4
    exact ⟨e3.1.trans e1.1, e3.2.1.trans e1.2.1, e3.2.2.1.trans e1.2.2.1, e3.2.2.2.1.trans e1.2.2.2.1, e3.2.2.2.2.trans e1.2.2.2.2⟩
theorem ref_d {s u : Sc} {c : UInt8} {b : Bool} (g : refC s c = .ok (u, b)) : u.d = s.d ∧ u.k = s.k ∧ u.e = s.e ∧ u.a = s.a ∧ u.p = s.p := by
  have g0 : ∀ v, ref0 v c = .ok (u, b) → u.d = v.d ∧ u.k = v.k ∧ u.e = v.e ∧ u.a = v.a ∧ u.p = v.p := fun v q => by
    unfold ref0 at q
    split at q
    · injection q with q; injection q with q _; subst q; exact ⟨rfl, rfl, rfl, rfl, rfl⟩
    · injection q with q; injection q with q _; subst q; exact ⟨rfl, rfl, rfl, rfl, rfl⟩
  have gb : ∀ x f, thenB x f = .ok (u, b) → ∃ v, x = .ok v ∧ f v = .ok (u, b) := fun x f q => by
    cases x with
    | error e => cases q
    | ok v => exact ⟨v, rfl, q⟩
  unfold refC at g
  split at g
  · exact g0 _ g
  · split at g
    · injection g with g; injection g with g _; subst g; exact ⟨rfl, rfl, rfl, rfl, rfl⟩
    · split at g
      · obtain ⟨v, h1, h2⟩ := gb _ _ g
        injection h2 with h2; injection h2 with h2 _; subst h2
        exact fol_d _ _ { s with r := [] } _ h1
      · obtain ⟨v, h1, h2⟩ := gb _ _ g
        have e1 := fol_d _ _ { s with r := [] } _ h1
        have e2 := g0 _ h2
        exact ⟨e2.1.trans e1.1, e2.2.1.trans e1.2.1, e2.2.2.1.trans e1.2.2.1, e2.2.2.2.1.trans e1.2.2.2.1, e2.2.2.2.2.trans e1.2.2.2.2⟩
theorem data_go {s : Sc} (hk : s.k = 0) (c : UInt8) : dataC s c = dataS s c := by
  have h8 : s.k ≠ 8 := by omega
  have hr0 : rulN s = 0 := by unfold rulN attK; rw [if_neg (by omega), if_neg (by omega), if_pos (.inl (by omega))]
  unfold dataC dataS
  by_cases h : c = 60
  · rw [if_pos h, ref_quiet (by rw [h]; decide), hr0, fol_none (.inl rfl)]
    show (if false = false ∧ c = 60 then _ else _) = _
    rw [if_pos ⟨rfl, h⟩]
    rfl
  · rw [if_neg h, char_ref h8]
    have hke : ∀ u b, refC s c = .ok (u, b) → rulN u = 0 := fun u b g => by
      have := ref_d g
      rw [← hr0]
      exact rul_keeps ⟨this.2.1, this.2.2.1, this.2.2.2.1⟩
    cases hg : refC s c with
    | error e => rfl
    | ok p =>
      obtain ⟨u, b⟩ := p
      show (if b = false ∧ c = 60 then _ else _) = (if b = true then _ else _)
      rw [if_neg (fun q => h q.2)]
      cases b with
      | true => rfl
      | false => rw [if_neg (by decide), hke u false hg, fol_none (.inl rfl)]
theorem quiet_then {s : Sc} {c : UInt8} (hq : quietB c = true) (hk : s.k ≠ 8) (f : Sc → Res) : (thenR (refC s c) fun u b => if b = true then .ok u else andThen (demS (rulN u) u) f) = andThen (flushS s) f := by
  rw [ref_quiet hq, ← ref_flush hk]
  cases folS (rulN s) s.r { s with r := [] } with
  | error e => rfl
  | ok u => rfl
theorem val_go {s : Sc} (hk : s.k = 9) (hd : s.d = 34 ∨ s.d = 39) (c : UInt8) : valC s c = valueS s c := by
  have h8 : s.k ≠ 8 := by omega
  unfold valC valueS
  by_cases h : c = s.d
  · rw [if_pos h]
    have hq : quietB c = true := by rw [h]; rcases hd with e | e <;> rw [e] <;> decide
    have e : (fun t : Sc => Except.ok (ε := Nat) (scK 11 t.e)) = fun v => .ok (entS 11 v) := rfl
    rw [e, ← quiet_then hq h8]
    cases hg : refC s c with
    | error e => rfl
    | ok p =>
      obtain ⟨u, b⟩ := p
      have := (ref_d hg).1
      show (if b = true then _ else if c = u.d then _ else _) = (if b = true then _ else _)
      rw [if_pos (show c = u.d by rw [this]; exact h)]
  · rw [if_neg h, char_ref h8]
    cases hg : refC s c with
    | error e => rfl
    | ok p =>
      obtain ⟨u, b⟩ := p
      have := (ref_d hg).1
      show (if b = true then _ else if c = u.d then _ else _) = (if b = true then _ else _)
      rw [if_neg (show ¬ c = u.d by rw [this]; exact h)]
theorem bar_go {s : Sc} (hk : s.k = 10) (c : UInt8) : barC s c = goC s c := by
  have h8 : s.k ≠ 8 := by omega
  unfold barC goC
  by_cases h91 : c = 62 ∧ elemN s.e = 4
  · rw [if_pos h91, if_pos ⟨hk, h91⟩]
  · rw [if_neg h91, if_neg (fun g => h91 g.2)]
    have hgo : goS s c = bareS s c := by
      unfold goS
      rw [if_neg (by omega), if_neg (by omega), if_neg (by omega), if_neg (by omega), if_neg (by omega), if_neg (by omega), if_neg (by omega), if_neg (by omega), if_pos hk]
    rw [hgo]
    unfold bareS
    by_cases hb : blB c = true
    · rw [if_pos (.inl hb)]
      have hq : quietB c = true := by unfold quietB; rw [hb]; simp
      have e : (fun t : Sc => withinS t.e c) = fun v => .ok (entS 5 v) := by
        funext v
        unfold withinS
        rw [if_pos hb]
        rfl
      rw [e, ← quiet_then hq h8]
      simp only [if_pos hb]
    · by_cases h62 : c = 62
      · rw [if_pos (.inr h62)]
        have hq : quietB c = true := by rw [h62]; decide
        have e : (fun t : Sc => withinS t.e c) = fun v => endS v.e := by
          funext v
          unfold withinS
          rw [if_neg hb, if_neg (by rw [h62]; decide), if_pos h62]
        rw [e, ← quiet_then hq h8]
        simp only [if_neg hb, if_pos h62]
      · rw [if_neg (by rintro (g | g); exact hb g; exact h62 g), char_ref h8]
        simp only [if_neg hb, if_neg h62]
theorem name_go {s : Sc} (h : Met s) (hk : s.k = 3 ∨ s.k = 4) (c : UInt8) : nameC s c = nameS s c := by
  unfold nameC nameS
  by_cases hq : blB c = true ∨ c = 47 ∨ c = 62
  · rw [if_pos hq, leaves_some hq]
  · rw [if_neg hq, leaves_none hq]
    have e : (32 + if endE s.e = true then 1 else 0) = 32 + (s.k - 3) := by
      rcases hk with g | g
      · rw [h.t3 g, g, if_neg (by decide)]
      · rw [h.t4 g, g, if_pos rfl]
    simp only [e]
    by_cases hl : 32 + (s.k - 3) ≤ s.e.length
    · rw [if_pos hl, if_neg (by omega)]
    · rw [if_neg hl, if_pos (by omega)]
theorem none_ext {s t : Sc} (h1 : s.k = t.k) (h2 : s.e = t.e) (h3 : s.a = t.a) (h4 : s.d = t.d) (h5 : s.p = t.p) (h6 : s.r = t.r) (h7 : s.n = t.n) (h8 : s.w = t.w) : s = t := by
  cases s; cases t; simp_all
theorem met_d {s : Sc} (h : Met s) (hk : s.k ≠ 9) : s.d = 0 := by
  rcases h.d with ⟨q, _⟩ | ⟨_, q⟩
  · exact absurd q hk
  · exact q
theorem met_p {s : Sc} (h : Met s) (hk : s.k < 16) : s.p = [] := by
  rcases h.p1 with q | q
  · omega
  · exact q
theorem met_r {s : Sc} (h : Met s) (hk : ¬ (s.k = 0 ∨ s.k = 9 ∨ s.k = 10 ∨ s.k = 17)) : s.r = [] := by
  rcases h.r1 with q | q
  · exact absurd (of_decide_eq_true q) hk
  · exact q
theorem met_ent {s : Sc} (h : Met s) (hk : s.k = 6 ∨ s.k = 7 ∨ s.k = 8) (k : Nat) (hk2 : 7 ≤ k ∧ k ≤ 10) : entS k s = { s with k := k } := by
  have hl := h.l (lang_none (by omega))
  have hd := met_d h (by omega)
  have hp := met_p h (by omega)
  have hr := met_r h (by omega)
  unfold entS
  rw [if_pos (by omega), if_pos hk2]
  exact none_ext rfl rfl rfl hd.symm hp.symm hr.symm hl.1.symm hl.2.symm
theorem att_go {s : Sc} (h : Met s) (hk : s.k = 6) (c : UInt8) : attC s c = attrS s c := by
  unfold attC attrS
  by_cases hb : blB c = true
  · have h61 : c ≠ 61 := fun e => by rw [e] at hb; exact absurd hb (by decide)
    rw [if_neg h61, if_pos hb]
    unfold leavesN
    rw [if_pos hb]
    show Except.ok (entS 7 s) = _
    rw [met_ent h (.inl hk) 7 (by omega)]
  · rw [if_neg hb]
    by_cases h61 : c = 61
    · rw [if_pos h61, if_pos h61, met_ent h (.inl hk) 8 (by omega)]
    · rw [if_neg h61, if_neg h61]
      by_cases hq : c = 47 ∨ c = 62
      · rw [if_pos (show c = 47 ∨ c = 62 ∨ s.k = 7 from by rcases hq with g | g; exact .inl g; exact .inr (.inl g))]
        unfold leavesN withinS
        rw [if_neg hb, if_neg hb]
        by_cases h47 : c = 47
        · rw [if_pos h47, if_pos h47]; rfl
        · rw [if_neg h47, if_neg h47]
          have h62 : c = 62 := by
            rcases hq with g | g
            · exact absurd g h47
            · exact g
          rw [if_pos h62, if_pos h62]
      · rw [if_neg (show ¬ (c = 47 ∨ c = 62 ∨ s.k = 7) from by rintro (g | g | g); exact hq (.inl g); exact hq (.inr g); omega), leaves_none (by rintro (g | g | g); exact hb g; exact hq (.inl g); exact hq (.inr g))]
        show (if s.a.length < 32 then _ else _) = _
        by_cases hl : 32 ≤ s.a.length
        · rw [if_pos hl, if_neg (by omega)]
        · rw [if_neg hl, if_pos (by omega)]
theorem aft_go {s : Sc} (h : Met s) (hk : s.k = 7) (c : UInt8) : aftC s c = attrS s c := by
  unfold aftC attrS
  by_cases hb : blB c = true
  · have h61 : c ≠ 61 := fun e => by rw [e] at hb; exact absurd hb (by decide)
    rw [if_neg h61, if_pos hb]
    unfold leavesN
    rw [if_pos hb]
    show Except.ok (entS 7 s) = _
    rw [met_ent h (.inr (.inl hk)) 7 (by omega)]
  · rw [if_neg hb]
    by_cases h61 : c = 61
    · rw [if_pos h61, if_pos h61, met_ent h (.inr (.inl hk)) 8 (by omega)]
    · rw [if_neg h61, if_neg h61, if_pos (.inr (.inr hk))]
      by_cases hq : c = 47 ∨ c = 62
      · unfold leavesN withinS
        rw [if_neg hb, if_neg hb]
        by_cases h47 : c = 47
        · rw [if_pos h47, if_pos h47]; rfl
        · rw [if_neg h47, if_neg h47]
          have h62 : c = 62 := by
            rcases hq with g | g
            · exact absurd g h47
            · exact g
          rw [if_pos h62, if_pos h62]
      · rw [leaves_none (by rintro (g | g | g); exact hb g; exact hq (.inl g); exact hq (.inr g))]
        show befC (entS 5 s) c = _
        rw [bef_go]
        rfl
theorem wan_go {s : Sc} (h : Met s) (hk : s.k = 8) (c : UInt8) : wanC s c = wantS s c := by
  unfold wanC wantS
  by_cases hb : blB c = true
  · rw [if_pos hb, if_pos hb]
  · rw [if_neg hb, if_neg hb]
    by_cases hq : c = 34 ∨ c = 39
    · rw [if_pos hq, if_pos hq, met_ent h (.inr (.inr hk)) 9 (by omega)]
    · rw [if_neg hq, if_neg hq]
      by_cases h62 : c = 62
      · rw [if_pos h62, if_pos h62]
      · rw [if_neg h62, if_neg h62, bar_go rfl]
        unfold goC goS
        rw [if_neg (fun g => h62 g.2.1)]
        show (if (10 : Nat) = 0 then _ else _) = _
        rw [if_neg (by decide)]
        show (if (10 : Nat) = 1 then _ else _) = _
        rw [if_neg (by decide)]
        show (if (10 : Nat) = 2 then _ else _) = _
        rw [if_neg (by decide)]
        show (if (10 : Nat) = 3 ∨ (10 : Nat) = 4 then _ else _) = _
        rw [if_neg (by decide)]
        show (if (10 : Nat) = 5 ∨ (10 : Nat) = 11 ∨ (10 : Nat) = 12 then _ else _) = _
        rw [if_neg (by decide)]
        show (if (10 : Nat) = 6 ∨ (10 : Nat) = 7 then _ else _) = _
        rw [if_neg (by decide)]
        show (if (10 : Nat) = 8 then _ else _) = _
        rw [if_neg (by decide)]
        show (if (10 : Nat) = 9 then _ else _) = _
        rw [if_neg (by decide)]
        show (if (10 : Nat) = 10 then _ else _) = _
        rw [if_pos rfl]
        unfold bareS
        rw [if_neg (by rintro (g | g); exact hb g; exact h62 g), met_ent h (.inr (.inr hk)) 10 (by omega)]
theorem com_go {s : Sc} (h : Met s) (hk : s.k = 16) (c : UInt8) : comC s c = commentS s c := by
  unfold comC commentS
  by_cases h45 : c = 45
  · subst h45
    rw [if_neg (fun g => absurd g.1 (by decide)), if_neg (by simp)]
    rcases h.q hk with e | e | e
    · rw [if_pos e, if_pos ⟨rfl, by rw [e]; decide⟩, e]; rfl
    · rw [if_neg (by rw [e]; decide), if_pos ⟨rfl, by rw [e]; decide⟩, e]; rfl
    · rw [if_neg (by rw [e]; decide), if_neg (fun g => g.2 e), if_neg (fun g => absurd g.1 (by decide)), if_neg (by simp)]
      rw [show ({ s with p := [45, 45] } : Sc) = s by rw [← e]]
  · rw [if_neg (show ¬ (c = 45 ∧ s.p ≠ [45, 45]) from fun g => h45 g.1)]
    by_cases h62 : c = 62 ∧ s.p = [45, 45]
    · rw [if_pos h62, if_pos h62]; rfl
    · rw [if_neg h62, if_neg h62, if_pos h45, if_pos h45]
theorem low_let : ∀ k : Fin 256, letB (UInt8.ofNat k.val) = true → blB (UInt8.ofNat k.val) = false ∧ UInt8.ofNat k.val ≠ 47 ∧ UInt8.ofNat k.val ≠ 62 ∧ low (UInt8.ofNat k.val) ≠ 47 := by decide +kernel
theorem let_at {c : UInt8} (h : letB c = true) : blB c = false ∧ c ≠ 47 ∧ c ≠ 62 ∧ low c ≠ 47 := by
  have h2 := low_let ⟨c.toNat, c.toNat_lt⟩
  simp only [UInt8.ofNat_toNat] at h2
  exact h2 h
theorem let_none {b : Nat} {s : Sc} {c : UInt8} (h : letB c = true) : leavesN b s c = none := by
  obtain ⟨h1, h2, h3, _⟩ := let_at h
  exact leaves_none (by rintro (g | g | g); rw [h1] at g; cases g; exact h2 g; exact h3 g)
theorem ope_go (s : Sc) (c : UInt8) : opeC s c = openS c := by
  unfold opeC openS
  by_cases hl : letB c = true
  · rw [if_pos hl, if_pos hl]
    unfold nameC
    rw [let_none hl]
    rfl
  · rw [if_neg hl, if_neg hl]
    by_cases h1 : c = 47
    · rw [if_pos h1, if_pos h1]; rfl
    · rw [if_neg h1, if_neg h1]
      by_cases h2 : c = 33
      · rw [if_pos h2, if_pos h2]; rfl
      · rw [if_neg h2, if_neg h2]
        by_cases h3 : c = 63
        · rw [if_pos h3, if_pos h3]; rfl
        · rw [if_neg h3, if_neg h3, data_go rfl]; rfl
theorem eop_go (s : Sc) (c : UInt8) : eopC s c = endOpenS c := by
  unfold eopC endOpenS bogC
  by_cases hl : letB c = true
  · rw [if_pos hl, if_pos hl]
    unfold nameC
    rw [let_none hl]
    rfl
  · rw [if_neg hl, if_neg hl]
    by_cases h1 : c = 62
    · rw [if_pos h1, if_pos h1]; rfl
    · rw [if_neg h1, if_neg h1]; rfl
theorem mar_go (s : Sc) (c : UInt8) : marC s c = bangS s.k c := by
  unfold marC bangS bogC
  by_cases h45 : c = 45
  · rw [if_neg (by simp [h45]), if_pos h45]
    by_cases h13 : s.k = 13
    · rw [if_pos h13, if_pos h13]; rfl
    · rw [if_neg h13, if_neg h13]; rfl
  · rw [if_pos h45, if_neg h45]
    by_cases h1 : c = 62
    · rw [if_pos h1, if_pos h1]; rfl
    · rw [if_neg h1, if_neg h1]; rfl

theorem starts_pre (s p : List UInt8) : startsB s p = (p.map low).isPrefixOf (s.map low) := by
  unfold startsB
  rw [Bool.eq_iff_iff, Bool.and_eq_true, decide_eq_true_iff, beq_iff_eq, List.isPrefixOf_iff_prefix]
  constructor
  · rintro ⟨_, h⟩
    rw [← h]
    exact List.take_prefix _ _
  · intro h
    have h1 := h.length_le
    simp only [List.length_map] at h1
    refine ⟨h1, ?_⟩
    rw [List.prefix_iff_eq_take] at h
    rw [List.length_map] at h
    exact h.symm
theorem pend_both (s : Sc) (t : List UInt8) : pendB s t = true ↔ (startsB (60 :: 47 :: s.e) t = true ∨ (s.k = 19 ∧ preL t [60, 33, 45, 45] = true)) := by
  rw [starts_pre]
  unfold pendB preL
  rw [Bool.or_eq_true, Bool.and_eq_true, beq_iff_eq, decide_eq_true_iff, List.isPrefixOf_iff_prefix (l₁ := t)]
theorem low_fs : ∀ k : Fin 256, low (UInt8.ofNat k.val) = 47 → UInt8.ofNat k.val = 47 := by decide +kernel
theorem low_is {c : UInt8} (h : low c = 47) : c = 47 := by
  have h2 := low_fs ⟨c.toNat, c.toNat_lt⟩
  simp only [UInt8.ofNat_toNat] at h2
  exact h2 h
theorem rem_not {s : Sc} {t : List UInt8} (h : pendB s t = true) (e : t = [60, 33, 45, 45]) : s.k = 19 := by
  rcases pend_len h with g | ⟨g, _⟩
  · exfalso
    rw [e] at g
    have g : low 60 :: low 33 :: [low 45, low 45] <+: low 60 :: low 47 :: s.e.map low := g
    rw [List.cons_prefix_cons, List.cons_prefix_cons] at g
    exact absurd g.2.1 (by decide)
  · exact g
theorem elm0_go {s : Sc} (hk : 17 ≤ s.k) (c : UInt8) : elm0 s c = rawOne s c := by
  have h8 : s.k ≠ 8 := by omega
  unfold elm0 rawOne
  by_cases h60 : c = 60
  · rw [if_pos h60, if_pos h60]
  · rw [if_neg h60, if_neg h60]
    by_cases h17 : s.k = 17
    · rw [if_pos h17, if_pos h17, char_ref h8]
      cases hg : refC s c with
      | error e => rfl
      | ok p =>
        obtain ⟨u, b⟩ := p
        show Except.ok u = (if b = true then _ else _)
        cases b with
        | true => rfl
        | false =>
          have hu := ref_d hg
          have hr0 : rulN u = 0 := by unfold rulN attK; rw [if_neg (by omega), if_neg (by omega), if_pos (.inl (by omega))]
          rw [if_neg (by decide), hr0, fol_none (.inl rfl)]
    · rw [if_neg h17, if_neg h17, fol_sub h8 _ (by simp)]
theorem elm_go {s : Sc} (h : Met s) (hk : 17 ≤ s.k) (c : UInt8) : elmC s c = rawS s c := by
  have h8 : s.k ≠ 8 := by omega
  unfold elmC rawS
  by_cases hp : s.p = []
  · rw [if_pos hp, hp, List.nil_append, if_neg (by simp)]
    by_cases h60 : c = 60
    · have e : startsB (60 :: 47 :: s.e) [c] = true := by rw [starts_pre, h60]; simp [List.isPrefixOf]
      rw [if_pos (.inl e), if_pos (by simp)]
      unfold rawOne
      rw [if_pos h60, h60]
    · have e : ¬ (startsB (60 :: 47 :: s.e) [c] = true ∨ (s.k = 19 ∧ preL [c] [60, 33, 45, 45] = true)) := by
        rintro (g | ⟨_, g⟩)
        · rw [starts_pre] at g
          have g : low c = low 60 := by simpa [List.isPrefixOf] using g
          have : ∀ k : Fin 256, low (UInt8.ofNat k.val) = low 60 → UInt8.ofNat k.val = 60 := by decide +kernel
          have h2 := this ⟨c.toNat, c.toNat_lt⟩
          simp only [UInt8.ofNat_toNat] at h2
          exact h60 (h2 g)
        · have g := of_decide_eq_true g
          rw [List.cons_prefix_cons] at g
          exact h60 g.1
      rw [if_neg e, if_neg (by simp), if_neg (by simp), ← elm0_go hk]
      unfold elm0
      rw [if_neg h60]
  · rw [if_neg hp]
    obtain ⟨hhd, hpb, hne⟩ : s.p.head? = some 60 ∧ pendB s s.p = true ∧ s.p ≠ [60, 33, 45, 45] := by
      rcases h.z hk with q | q
      · exact absurd q hp
      · exact q
    have hr : s.r = [] := by
      rcases h.y with q | q
      · exact absurd q hp
      · exact q
    by_cases hpc : pendB s (s.p ++ [c]) = true
    · rw [if_pos hpc]
      have hpc2 := (pend_both s _).1 hpc
      by_cases hre : s.p ++ [c] = [60, 33, 45, 45]
      · rw [if_pos hre, if_pos ⟨rem_not hpc hre, hre⟩]
      · have hx := h.x hk
        have hlen : (s.p ++ [c]).length ≤ 34 := by
          rcases pend_len hpc with q | ⟨_, q⟩
          · have := q.length_le; simp at this ⊢; omega
          · have := q.length_le; simp at this ⊢; omega
        rw [if_neg hre, if_neg (fun g => hre g.2), if_pos hpc2, if_pos hlen]
        rw [show ({ s with p := s.p ++ [c], r := [] } : Sc) = { s with p := s.p ++ [c] } by rw [← hr]]
    · rw [if_neg hpc, if_neg (fun g => hpc ((pend_both s _).2 (.inr ⟨g.1, by rw [g.2]; decide⟩))), if_neg (fun g => hpc ((pend_both s _).2 g))]
      have key : (s.p.map low = (60 :: 47 :: s.e).map low ∧ endB c = true) ↔ (s.p.length = s.e.length + 2 ∧ s.p[1]? = some 47 ∧ (blB c = true ∨ c = 47 ∨ c = 62)) := by
        have hB : endB c = true ↔ (blB c = true ∨ c = 47 ∨ c = 62) := by
          unfold endB
          rw [Bool.or_eq_true, Bool.or_eq_true, beq_iff_eq, beq_iff_eq, or_assoc]
        rw [hB]
        constructor
        · rintro ⟨g, g2⟩
          have hl := congrArg List.length g
          simp only [List.length_map, List.length_cons] at hl
          refine ⟨by omega, ?_, g2⟩
          match hsp : s.p with
          | [] => exact absurd hsp hp
          | [a] => rw [hsp] at hl; simp at hl
          | a :: b :: t =>
            rw [hsp, List.map_cons, List.map_cons, List.map_cons, List.map_cons] at g
            injection g with _ g
            injection g with g _
            have hb := low_is (g.trans (show low 47 = 47 from rfl))
            rw [hb]
            rfl
        · rintro ⟨g1, g2, g3⟩
          refine ⟨?_, g3⟩
          rcases pend_len hpb with q | ⟨_, q⟩
          · exact q.eq_of_length (by simp [g1])
          · exfalso
            match hsp : s.p with
            | [] => exact absurd hsp hp
            | [a] => rw [hsp] at g2; cases g2
            | a :: b :: t =>
              rw [hsp] at g2 q
              have hb : b = 47 := by simpa using g2
              rw [List.cons_prefix_cons, List.cons_prefix_cons] at q
              rw [hb] at q
              exact absurd q.2.1 (by decide)
      by_cases hkey : s.p.map low = (60 :: 47 :: s.e).map low ∧ endB c = true
      · rw [if_pos hkey, if_pos (key.1 hkey)]
        have hs := (key.1 hkey).2.2
        unfold nameC
        rw [leaves_some hs]
      · rw [if_neg hkey, if_neg (fun g => hkey (key.2 g)), if_pos hp]
        have hrul : rulN s = rulN { s with p := [] } := rul_keeps ⟨rfl, rfl, rfl⟩
        rw [hrul, fol_sub (show ({ s with p := [] } : Sc).k ≠ 8 from h8) _ hp]
        cases hs : subS { s with p := [] } s.p with
        | error e => rfl
        | ok u => exact elm0_go (by rw [(sub_keeps hs).1]; exact hk) c
theorem ask_go {s : Sc} (h : Met s) (c : UInt8) : askC s c = goC s c := by
  unfold askC
  by_cases h10 : s.k = 10
  · rw [if_neg (by omega), if_neg (by omega), if_neg (by omega), if_neg (by omega), if_neg (by omega), if_neg (by omega), if_neg (by omega), if_neg (by omega), if_neg (by omega), if_pos h10]
    exact bar_go h10 c
  have e : goC s c = goS s c := by unfold goC; rw [if_neg (fun g => h10 g.1)]
  rw [e]
  unfold goS
  by_cases h0 : s.k = 0
  · rw [if_pos h0, if_pos h0]; exact data_go h0 c
  rw [if_neg h0, if_neg h0]
  by_cases h1 : s.k = 1
  · rw [if_pos h1, if_pos h1]; exact ope_go s c
  rw [if_neg h1, if_neg h1]
  by_cases h2 : s.k = 2
  · rw [if_pos h2, if_pos h2]; exact eop_go s c
  rw [if_neg h2, if_neg h2]
  by_cases h3 : s.k = 3 ∨ s.k = 4
  · rw [if_pos h3, if_pos h3]; exact name_go h h3 c
  rw [if_neg h3, if_neg h3]
  by_cases h5 : s.k = 5 ∨ s.k = 11 ∨ s.k = 12
  · rw [if_pos h5, if_pos h5]; exact bef_go s c
  rw [if_neg h5, if_neg h5]
  by_cases h6 : s.k = 6
  · rw [if_pos h6, if_pos (.inl h6)]; exact att_go h h6 c
  rw [if_neg h6]
  by_cases h7 : s.k = 7
  · rw [if_pos h7, if_pos (.inr h7)]; exact aft_go h h7 c
  rw [if_neg h7, if_neg (show ¬ (s.k = 6 ∨ s.k = 7) from fun g => g.elim h6 h7)]
  by_cases h8 : s.k = 8
  · rw [if_pos h8, if_pos h8]; exact wan_go h h8 c
  rw [if_neg h8, if_neg h8]
  by_cases h9 : s.k = 9
  · rw [if_pos h9, if_pos h9]
    refine val_go h9 ?_ c
    rcases h.d with ⟨_, q⟩ | ⟨q, _⟩
    · exact q
    · exact absurd h9 q
  rw [if_neg h9, if_neg h9, if_neg h10, if_neg h10]
  by_cases h13 : s.k = 13 ∨ s.k = 14
  · rw [if_pos h13, if_pos h13]; exact mar_go s c
  rw [if_neg h13, if_neg h13]
  by_cases h15 : s.k = 15
  · rw [if_pos h15, if_pos h15]
    rfl
  rw [if_neg h15, if_neg h15]
  by_cases h16 : s.k = 16
  · rw [if_pos h16, if_pos h16]; exact com_go h h16 c
  rw [if_neg h16, if_neg h16]
  exact elm_go h (by have := h.k; omega) c
end Go.Proofs.YtklpbkjplecdpaaGreat.Scn
