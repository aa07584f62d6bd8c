/-
  Part 2: LexWord, PipPure.
-/
import Derived.Test.YtmccbcficbbidaaGreatDoorPwAllP1
/-
  An action's words, with no program: word by word; words with a blank between are read one by one.
-/
namespace Go.Proofs.YtmccbcficbbidaaGreatDoor.Lex
open Go.Proofs.YtmccbcficbbidaaGreatDoor.Oct Go.Proofs.YtmccbcficbbidaaGreatDoor.Num

def begB (c : UInt8) : Bool := letterI (c.toNat : Int) || c == 95
def digC (c : UInt8) : Bool := digitI (c.toNat : Int)
def nameC (c : UInt8) : Bool := begB c || digC c
/-- How many octets a name at a text's head has. -/
def nameN : List UInt8 → Nat
  | [] => 0
  | c :: t => if begB c then (t.takeWhile nameC).length + 1 else 0
/-- . and names: how many octets they have, or an error. -/
def dotsF : Nat → List UInt8 → Except Nat Nat
  | 0, _ => .ok 0
  | f + 1, 46 :: c :: t => if nameN (c :: t) = 0 then .error 33 else if 32 < nameN (c :: t) then .error 5
      else (match dotsF f ((c :: t).drop (nameN (c :: t))) with
        | .error e => .error e
        | .ok k => .ok (nameN (c :: t) + 1 + k))
  | _ + 1, _ => .ok 0
def dotsL (l : List UInt8) : Except Nat Nat := dotsF l.length l
/-- A word: its kind, its text. -/
structure Wd where
  k : Nat
  x : List UInt8
deriving DecidableEq
def digN (l : List UInt8) : Nat := (l.takeWhile digC).length
/-- The first word of a text that begins with no blank: it, and how many octets it has; or an error and its place there. -/
def wordL : List UInt8 → Except (Nat × Nat) (Wd × Nat)
  | [] => .error (33, 0)
  | c :: t =>
    if begB c then (if 32 < nameN (c :: t) then .error (5, 0) else .ok (⟨1, (c :: t).take (nameN (c :: t))⟩, nameN (c :: t)))
    else if c = 46 then (if nameN t = 0 then .ok (⟨2, [46]⟩, 1) else match dotsL (c :: t) with
      | .error e => .error (e, 0)
      | .ok k => .ok (⟨2, (c :: t).take k⟩, k))
    else if c = 36 then (if 32 < nameN t then .error (5, 0) else match dotsL (t.drop (nameN t)) with
      | .error e => .error (e, 0)
      | .ok k => .ok (⟨3, (c :: t).take (1 + nameN t + k)⟩, 1 + nameN t + k))
    else if c = 45 ∨ digC c = true then (if (parseL ((c :: t).take (1 + digN t))).2 = 4 then .error (4, 0) else if (parseL ((c :: t).take (1 + digN t))).2 ≠ 0 then .error (33, 0)
      else .ok (⟨4, (c :: t).take (1 + digN t)⟩, 1 + digN t))
    else if c = 34 then (match strL t with
      | none => .error (33, 0)
      | some x => if 4096 < x.1.length then .error (5, 0) else .ok (⟨5, x.1⟩, 1 + t.length - x.2.length))
    else if [58, 61].isPrefixOf (c :: t) = true then .ok (⟨6, [58, 61]⟩, 2)
    else if c = 124 then .ok (⟨6, [124]⟩, 1)
    else .error (33, 0)
/-- What stands behind a printed word: nothing, or a blank. -/
def Stop (l : List UInt8) : Prop := l = [] ∨ l.head? = some 32
/-- A text that is read as a word, wherever it stops. -/
def OneW (p : List UInt8) (w : Wd) : Prop := p ≠ [] ∧ (∀ c, p.head? = some c → bl c = false) ∧ ∀ l, Stop l → wordL (p ++ l) = .ok (w, p.length)
theorem stop_tw (p : UInt8 → Bool) (hp : p 32 = false) {l : List UInt8} (h : Stop l) : l.takeWhile p = [] := by
  rcases h with rfl | h
  · rfl
  · cases l with
    | nil => rfl
    | cons c t =>
      have : c = 32 := by simpa using h
      subst this
      rw [List.takeWhile_cons_of_neg (by rw [hp]; simp)]
theorem tw_all (p : UInt8 → Bool) (a l : List UInt8) (ha : ∀ c ∈ a, p c = true) (hl : l.takeWhile p = []) : (a ++ l).takeWhile p = a := by
  rw [List.takeWhile_append_of_pos ha, hl, List.append_nil]
/-- A name. -/
def NameL (a : List UInt8) : Prop := ∃ c t, a = c :: t ∧ begB c = true ∧ ∀ d ∈ t, nameC d = true
theorem name_len {a l : List UInt8} (h : NameL a) (hl : l.takeWhile nameC = []) : nameN (a ++ l) = a.length := by
  obtain ⟨c, t, rfl, hc, ht⟩ := h
  show (if begB c = true then ((t ++ l).takeWhile nameC).length + 1 else 0) = _
  rw [if_pos hc, tw_all _ _ _ ht hl]
  rfl
theorem one_name {a : List UInt8} (h : NameL a) (h32 : a.length ≤ 32) : OneW a ⟨1, a⟩ := by
  have h0 := h
  obtain ⟨c, t, rfl, hc, ht⟩ := h
  refine ⟨by simp, fun d hd => ?_, fun l hl => ?_⟩
  · have : d = c := by simpa using hd.symm
    subst this
    have h1 : ∀ k : Fin 256, begB (UInt8.ofNat k.val) = true → bl (UInt8.ofNat k.val) = false := by decide +kernel
    have h2 := h1 ⟨d.toNat, d.toNat_lt⟩
    simp only [UInt8.ofNat_toNat] at h2
    exact h2 hc
  · have hn := name_len h0 (stop_tw nameC (by decide) hl)
    rw [List.cons_append] at hn ⊢
    unfold wordL
    dsimp only
    rw [if_pos hc, hn, if_neg (by omega), ← List.cons_append, List.take_left]
theorem bar_one : OneW [124] ⟨6, [124]⟩ := by
  refine ⟨by simp, fun d hd => ?_, fun l _ => ?_⟩
  · have : d = 124 := by simpa using hd.symm
    subst this
    rfl
  · have e : [58, 61].isPrefixOf (124 :: l) = false := by simp [List.isPrefixOf]
    rw [List.singleton_append]
    unfold wordL
    dsimp only
    rw [if_neg (by decide), if_neg (by decide), if_neg (by decide), if_neg (by decide), if_neg (by decide), if_neg (by rw [e]; simp), if_pos rfl]
    rfl
theorem text_one (s : List UInt8) (h : s.length ≤ 4096) : OneW (quoteQ s) ⟨5, s⟩ := by
  refine ⟨by unfold quoteQ; simp, fun d hd => ?_, fun l _ => ?_⟩
  · have : d = 34 := by unfold quoteQ at hd; simpa using hd.symm
    subst this
    rfl
  · have e : quoteQ s ++ l = 34 :: (inQ s ++ 34 :: l) := by unfold quoteQ; simp
    rw [e]
    unfold wordL
    dsimp only
    rw [if_neg (by decide), if_neg (by decide), if_neg (by decide), if_neg (by decide), if_pos rfl, str_quote]
    simp only
    rw [if_neg (by omega)]
    have e2 : 1 + (inQ s ++ 34 :: l).length - l.length = (quoteQ s).length := by unfold quoteQ; simp; omega
    rw [e2]

theorem dec_digits (u : Nat) : decL u ≠ [] ∧ ∀ c ∈ decL u, digC c = true := by
  have hd : ∀ c, isDig c = true → digC c = true := by
    intro c h
    have h1 : ∀ k : Fin 256, isDig (UInt8.ofNat k.val) = true → digC (UInt8.ofNat k.val) = true := by decide +kernel
    have h2 := h1 ⟨c.toNat, c.toNat_lt⟩
    simp only [UInt8.ofNat_toNat] at h2
    exact h2 h
  refine ⟨?_, fun c hc => hd c (decL_dig u c hc)⟩
  intro e
  have := congrArg List.length e
  unfold decL lowL at this
  simp at this
theorem num_one (n : Int) (h0 : -9223372036854775808 ≤ n) (h1 : n ≤ 9223372036854775807) : OneW (printL n) ⟨4, printL n⟩ := by
  have hp := parse_print n h0 h1
  obtain ⟨g1, g2⟩ := dec_digits n.natAbs
  have hform : ∃ c t, printL n = c :: t ∧ (c = 45 ∨ digC c = true) ∧ ∀ d ∈ t, digC d = true := by
    unfold printL
    split
    · exact ⟨45, _, rfl, .inl rfl, g2⟩
    · cases hd : decL n.natAbs with
      | nil => exact absurd hd g1
      | cons c t =>
        rw [hd] at g2
        exact ⟨c, t, rfl, .inr (g2 c (by simp)), fun d q => g2 d (by simp [q])⟩
  obtain ⟨c, t, hf, hc, ht⟩ := hform
  have hcc : begB c = false ∧ c ≠ 46 ∧ c ≠ 36 ∧ bl c = false := by
    have h1 : ∀ k : Fin 256, (UInt8.ofNat k.val = 45 ∨ digC (UInt8.ofNat k.val) = true) → begB (UInt8.ofNat k.val) = false ∧ UInt8.ofNat k.val ≠ 46 ∧ UInt8.ofNat k.val ≠ 36 ∧ bl (UInt8.ofNat k.val) = false := by decide +kernel
    have h2 := h1 ⟨c.toNat, c.toNat_lt⟩
    simp only [UInt8.ofNat_toNat] at h2
    exact h2 hc
  rw [hf] at hp ⊢
  refine ⟨by simp, fun d hd => ?_, fun l hl => ?_⟩
  · have : d = c := by simpa using hd.symm
    rw [this]; exact hcc.2.2.2
  · have hn : digN (t ++ l) = t.length := by unfold digN; rw [tw_all _ _ _ ht (stop_tw digC (by decide) hl)]
    have htk : (c :: (t ++ l)).take (1 + t.length) = c :: t := by
      rw [Nat.add_comm, List.take_succ_cons, List.take_left]
    rw [List.cons_append]
    unfold wordL
    dsimp only
    rw [hcc.1, if_neg (by simp), if_neg hcc.2.1, if_neg hcc.2.2.1, if_pos hc, hn, htk, hp, if_neg (by simp), if_neg (by simp), List.length_cons, Nat.add_comm]
/-- A path's text. -/
def pathL (ns : List (List UInt8)) : List UInt8 := ns.flatMap fun n => 46 :: n
theorem path_cons (n : List UInt8) (ns : List (List UInt8)) : pathL (n :: ns) = 46 :: (n ++ pathL ns) := by unfold pathL; rw [List.flatMap_cons]; rfl
/-- What stops a name: nothing, a blank, a point. -/
theorem path_stop (ns : List (List UInt8)) {l : List UInt8} (h : Stop l) : (pathL ns ++ l).takeWhile nameC = [] := by
  cases ns with
  | nil => exact stop_tw nameC (by decide) h
  | cons n ns =>
    rw [path_cons, List.cons_append, List.takeWhile_cons_of_neg (by decide)]
theorem dots_step (f : Nat) (c : UInt8) (t : List UInt8) : dotsF (f + 1) (46 :: c :: t) = if nameN (c :: t) = 0 then .error 33 else if 32 < nameN (c :: t) then .error 5
      else (match dotsF f ((c :: t).drop (nameN (c :: t))) with
        | .error e => .error e
        | .ok k => .ok (nameN (c :: t) + 1 + k)) := rfl
theorem dots_path (ns : List (List UInt8)) (hn : ∀ n ∈ ns, NameL n ∧ n.length ≤ 32) {l : List UInt8} (hl : Stop l) : ∀ f, (pathL ns ++ l).length ≤ f → dotsF f (pathL ns ++ l) = .ok (pathL ns).length := by
  induction ns with
  | nil =>
    intro f _
    show dotsF f l = .ok 0
    cases f with
    | zero => rfl
    | succ f =>
      rcases hl with rfl | h
      · rfl
      · cases l with
        | nil => rfl
        | cons c t =>
          have : c = 32 := by simpa using h
          subst this
          rfl
  | cons n ns ih =>
    intro f hf
    obtain ⟨h1, h2⟩ := hn n (by simp)
    have h1' := h1
    obtain ⟨c, t, rfl, hc, ht⟩ := h1
    have hnl := name_len h1' (path_stop ns hl)
    rw [path_cons] at hf ⊢
    cases f with
    | zero => simp at hf
    | succ f =>
      have e : (46 :: ((c :: t) ++ pathL ns)) ++ l = 46 :: c :: (t ++ (pathL ns ++ l)) := by simp
      have e2 : (c :: t) ++ (pathL ns ++ l) = c :: (t ++ (pathL ns ++ l)) := rfl
      rw [e2] at hnl
      have hd : (c :: (t ++ (pathL ns ++ l))).drop (c :: t).length = pathL ns ++ l := by rw [← e2, List.drop_left]
      have hi := ih (fun m hm => hn m (by simp [hm])) f (by rw [e] at hf; simp at hf ⊢; omega)
      rw [e]
      rw [dots_step, hnl, if_neg (by simp), if_neg (by omega), hd, hi]
      simp
      omega
theorem dot_one : OneW [46] ⟨2, [46]⟩ := by
  refine ⟨by simp, fun d hd => ?_, fun l hl => ?_⟩
  · have : d = 46 := by simpa using hd.symm
    subst this
    rfl
  · have hn : nameN l = 0 := by
      rcases hl with rfl | h
      · rfl
      · cases l with
        | nil => rfl
        | cons c t =>
          have : c = 32 := by simpa using h
          subst this
          rfl
    rw [List.singleton_append]
    unfold wordL
    dsimp only
    rw [if_neg (by decide), if_pos rfl, hn, if_pos rfl]
    rfl
theorem path_one (ns : List (List UInt8)) (h0 : ns ≠ []) (hn : ∀ n ∈ ns, NameL n ∧ n.length ≤ 32) : OneW (pathL ns) ⟨2, pathL ns⟩ := by
  obtain ⟨n, m, rfl⟩ := List.exists_cons_of_ne_nil h0
  refine ⟨by rw [path_cons]; simp, fun d hd => ?_, fun l hl => ?_⟩
  · have : d = 46 := by rw [path_cons] at hd; simpa using hd.symm
    subst this
    rfl
  · have hd : dotsL (pathL (n :: m) ++ l) = .ok (pathL (n :: m)).length := dots_path (n :: m) hn hl _ (Nat.le_refl _)
    have hne : nameN ((n ++ pathL m) ++ l) ≠ 0 := by
      obtain ⟨c, t, rfl, hc, _⟩ := (hn n (by simp)).1
      show (if begB c = true then _ + 1 else 0) ≠ 0
      rw [if_pos hc]
      omega
    have e : pathL (n :: m) ++ l = 46 :: ((n ++ pathL m) ++ l) := by rw [path_cons]; rfl
    rw [e] at hd ⊢
    unfold wordL
    dsimp only
    rw [if_neg (by decide), if_pos rfl, if_neg hne, hd]
    dsimp only
    rw [← e, List.take_left]
theorem var_one (a : List UInt8) (ha : a = [] ∨ NameL a) (ha32 : a.length ≤ 32) (ns : List (List UInt8)) (hn : ∀ n ∈ ns, NameL n ∧ n.length ≤ 32) : OneW (36 :: (a ++ pathL ns)) ⟨3, 36 :: (a ++ pathL ns)⟩ := by
  refine ⟨by simp, fun d hd => ?_, fun l hl => ?_⟩
  · have : d = 36 := by simpa using hd.symm
    subst this
    rfl
  · have hnn : nameN (a ++ (pathL ns ++ l)) = a.length := by
      rcases ha with rfl | ha
      · have hs := path_stop ns hl
        rw [List.nil_append]
        cases hq : pathL ns ++ l with
        | nil => rfl
        | cons c t =>
          rw [hq] at hs
          show (if begB c = true then _ + 1 else 0) = 0
          rw [if_neg]
          intro hc
          have hnc : nameC c = true := by unfold nameC; rw [hc]; rfl
          rw [List.takeWhile_cons_of_pos hnc] at hs
          cases hs
      · exact name_len ha (path_stop ns hl)
    have hd : dotsL (pathL ns ++ l) = .ok (pathL ns).length := dots_path ns hn hl _ (Nat.le_refl _)
    have e : (36 :: (a ++ pathL ns)) ++ l = 36 :: (a ++ (pathL ns ++ l)) := by simp
    rw [e]
    unfold wordL
    dsimp only
    rw [if_neg (by decide), if_neg (by decide), if_pos rfl, hnn, if_neg (by omega), List.drop_left, hd]
    dsimp only
    have e2 : 1 + a.length + (pathL ns).length = (36 :: (a ++ pathL ns)).length := by simp; omega
    rw [e2, ← e, List.take_left]

/-! ### Word by word -/
def wordsF : Nat → List UInt8 → Nat → Except (Nat × Nat) (List (Wd × Nat))
  | 0, _, _ => .ok []
  | f + 1, l, p => match l.drop (skipN l) with
    | [] => .ok []
    | c :: t => match wordL (c :: t) with
      | .error (e, k) => .error (e, p + skipN l + k)
      | .ok (w, n) => match wordsF f ((c :: t).drop n) (p + skipN l + n) with
        | .error x => .error x
        | .ok r => .ok ((w, p + skipN l) :: r)
def wordsL (l : List UInt8) : Except (Nat × Nat) (List (Wd × Nat)) := wordsF (l.length + 1) l 0
/-- Texts with one blank between. -/
def joinB : List (List UInt8) → List UInt8
  | [] => []
  | a :: t => a ++ (if t = [] then [] else 32 :: joinB t)
theorem skip_word {p l : List UInt8} {w : Wd} (h : OneW p w) : skipN (p ++ l) = 0 := by
  obtain ⟨h1, h2, _⟩ := h
  obtain ⟨c, t, rfl⟩ := List.exists_cons_of_ne_nil h1
  unfold skipN
  rw [List.cons_append, List.takeWhile_cons_of_neg (by rw [h2 c rfl]; simp)]
  rfl
theorem words_join (l : List (List UInt8 × Wd)) : ∀ (f p : Nat) (b : List UInt8), (b = [] ∨ b = [32]) → (∀ x ∈ l, OneW x.1 x.2) → l.length < f → ∃ r, wordsF f (b ++ joinB (l.map Prod.fst)) p = .ok r ∧ r.map Prod.fst = l.map Prod.snd := by
  induction l with
  | nil =>
    intro f p b hb _ hf
    cases f with
    | zero => omega
    | succ f =>
      refine ⟨[], ?_, rfl⟩
      rcases hb with rfl | rfl <;> rfl
  | cons x t ih =>
    intro f p b hb h hf
    cases f with
    | zero => omega
    | succ f =>
      have hx := h x (by simp)
      obtain ⟨h1, h2, h3⟩ := hx
      obtain ⟨rest, hrest⟩ : ∃ rest, rest = (if t.map Prod.fst = [] then [] else 32 :: joinB (t.map Prod.fst)) := ⟨_, rfl⟩
      have hj : joinB ((x :: t).map Prod.fst) = x.1 ++ rest := by rw [hrest]; rfl
      have hstop : Stop rest := by
        rw [hrest]
        split
        · exact .inl rfl
        · exact .inr rfl
      have hw := h3 rest hstop
      have hskip : skipN (b ++ (x.1 ++ rest)) = b.length := by
        have h0 := skip_word (l := rest) (h x (by simp))
        rcases hb with rfl | rfl
        · exact h0
        · unfold skipN at h0 ⊢
          rw [List.singleton_append, List.takeWhile_cons_of_pos (by decide), List.length_cons, h0]
          rfl
      have hdrop : (b ++ (x.1 ++ rest)).drop b.length = x.1 ++ rest := List.drop_left
      obtain ⟨c, q, hc⟩ := List.exists_cons_of_ne_nil h1
      have hcons : x.1 ++ rest = c :: (q ++ rest) := by rw [hc]; rfl
      have hih : ∃ r, wordsF f rest (p + b.length + x.1.length) = .ok r ∧ r.map Prod.fst = t.map Prod.snd := by
        by_cases ht : t.map Prod.fst = []
        · have ht0 : t = [] := List.map_eq_nil_iff.1 ht
          have := ih f (p + b.length + x.1.length) [] (.inl rfl) (fun y hy => h y (by simp [hy])) (by simp at hf; omega)
          rw [ht0] at this ⊢
          rw [hrest, if_pos (by rw [ht0]; rfl)]
          exact this
        · have := ih f (p + b.length + x.1.length) [32] (.inr rfl) (fun y hy => h y (by simp [hy])) (by simp at hf; omega)
          rw [hrest, if_neg ht]
          exact this
      obtain ⟨r, hr1, hr2⟩ := hih
      refine ⟨(x.2, p + b.length) :: r, ?_, by rw [List.map_cons, List.map_cons, hr2]⟩
      rw [hj]
      unfold wordsF
      rw [hskip, hdrop, hcons]
      dsimp only
      rw [← hcons, hw]
      dsimp only
      rw [List.drop_left, hr1]
/-- Words with a blank between are read one by one. -/
theorem words_all (l : List (List UInt8 × Wd)) (h : ∀ x ∈ l, OneW x.1 x.2) : ∃ r, wordsL (joinB (l.map Prod.fst)) = .ok r ∧ r.map Prod.fst = l.map Prod.snd := by
  have hlen : ∀ l : List (List UInt8 × Wd), (∀ x ∈ l, OneW x.1 x.2) → l.length ≤ (joinB (l.map Prod.fst)).length := by
    intro l
    induction l with
    | nil => intro _; exact Nat.zero_le _
    | cons x t ih =>
      intro h
      have h1 := List.length_pos_iff.2 (h x (by simp)).1
      have h2 := ih (fun y hy => h y (by simp [hy]))
      show t.length + 1 ≤ (x.1 ++ (if t.map Prod.fst = [] then [] else 32 :: joinB (t.map Prod.fst))).length
      rw [List.length_append]
      split
      · rename_i q
        have : t = [] := List.map_eq_nil_iff.1 q
        subst this
        simp
        omega
      · rw [List.length_cons]; omega
  have := words_join l ((joinB (l.map Prod.fst)).length + 1) 0 [] (.inl rfl) h (by have := hlen l h; omega)
  exact this
end Go.Proofs.YtmccbcficbbidaaGreatDoor.Lex

/-
  Pipelines, with no program: which may be, what their words are, and that these are read again as they.
-/
namespace Go.Proofs.YtmccbcficbbidaaGreatDoor.Pip
open Go.Proofs.YtmccbcficbbidaaGreatDoor.Oct Go.Proofs.YtmccbcficbbidaaGreatDoor.Num Go.Proofs.YtmccbcficbbidaaGreatDoor.Lex

/-- A word of a call: its kind, name, path, number, text. -/
structure Ar where
  k : Int
  n : List UInt8
  p : List (List UInt8)
  i : Int
  x : List UInt8
deriving DecidableEq
/-- A call: its function's name, its arguments. -/
structure Ca where
  n : List UInt8
  as : List Ar
deriving DecidableEq
abbrev fLen : List UInt8 := [108, 101, 110]
abbrev fNot : List UInt8 := [110, 111, 116]
abbrev fUpper : List UInt8 := [117, 112, 112, 101, 114]
abbrev fLower : List UInt8 := [108, 111, 119, 101, 114]
abbrev fEq : List UInt8 := [101, 113]
abbrev fLt : List UInt8 := [108, 116]
abbrev fAnd : List UInt8 := [97, 110, 100]
abbrev fOr : List UInt8 := [111, 114]
abbrev fJoin : List UInt8 := [106, 111, 105, 110]
abbrev fDefault : List UInt8 := [100, 101, 102, 97, 117, 108, 116]
abbrev fIndex : List UInt8 := [105, 110, 100, 101, 120]
abbrev fPrint : List UInt8 := [112, 114, 105, 110, 116]
/-- The least and the greatest number of arguments of a function. -/
def arityL (s : List UInt8) : Option (Nat × Nat) :=
  if s ∈ [fLen, fNot, fUpper, fLower] then some (1, 1) else if s ∈ [fEq, fLt, fAnd, fOr, fJoin, fDefault, fIndex] then some (2, 2) else if s = fPrint then some (1, 8) else none
abbrev cTrue : List UInt8 := [116, 114, 117, 101]
abbrev cFalse : List UInt8 := [102, 97, 108, 115, 101]
abbrev cNil : List UInt8 := [110, 105, 108]
def constB (s : List UInt8) : Bool := decide (s = cTrue ∨ s = cFalse ∨ s = cNil)
/-- The names of a path. -/
def splitF : List UInt8 → List UInt8 → List (List UInt8)
  | now, [] => if now = [] then [] else [now]
  | now, c :: t => if c = 46 then now :: splitF [] t else splitF (now ++ [c]) t
def pathN : List UInt8 → List (List UInt8)
  | [] => []
  | c :: t => if c = 46 then splitF [] t else splitF [c] t
theorem split_now (n t : List UInt8) (h : ∀ c ∈ n, c ≠ 46) : ∀ now, splitF now (n ++ t) = splitF (now ++ n) t := by
  induction n with
  | nil => intro now; rw [List.append_nil]; rfl
  | cons c n ih =>
    intro now
    show (if c = 46 then now :: splitF [] (n ++ t) else splitF (now ++ [c]) (n ++ t)) = _
    rw [if_neg (h c (by simp)), ih (fun d hd => h d (by simp [hd]))]
    simp
theorem split_path (m : List (List UInt8)) (h : ∀ n ∈ m, n ≠ [] ∧ ∀ c ∈ n, c ≠ 46) : ∀ n, n ≠ [] → splitF n (pathL m) = n :: m := by
  induction m with
  | nil =>
    intro n hn
    show (if n = [] then [] else [n]) = [n]
    rw [if_neg hn]
  | cons a m ih =>
    intro n hn
    rw [path_cons]
    show (if (46 : UInt8) = 46 then n :: splitF [] (a ++ pathL m) else _) = _
    rw [if_pos rfl, split_now a _ (h a (by simp)).2, List.nil_append, ih (fun b hb => h b (by simp [hb])) a (h a (by simp)).1]
theorem path_names (m : List (List UInt8)) (h : ∀ n ∈ m, n ≠ [] ∧ ∀ c ∈ n, c ≠ 46) : pathN (pathL m) = m := by
  cases m with
  | nil => rfl
  | cons a m =>
    rw [path_cons]
    show (if (46 : UInt8) = 46 then splitF [] (a ++ pathL m) else splitF [46] (a ++ pathL m)) = _
    rw [if_pos rfl, split_now a _ (h a (by simp)).2, List.nil_append, split_path m (fun b hb => h b (by simp [hb])) a (h a (by simp)).1]
/-- What a path's first point parts. -/
def notDot (c : UInt8) : Bool := !(c == 46)
/-- A word as an argument. -/
def argL (w : Wd) : Option Ar :=
  if w.k = 1 then (if w.x = cTrue then some ⟨5, [], [], 0, []⟩ else if w.x = cFalse then some ⟨6, [], [], 0, []⟩ else if w.x = cNil then some ⟨7, [], [], 0, []⟩ else none)
  else if w.k = 2 then (if 16 < (pathN w.x).length then none else some ⟨1, [], pathN w.x, 0, []⟩)
  else if w.k = 3 then (if 16 < (pathN ((w.x.drop 1).dropWhile notDot)).length then none else some ⟨2, (w.x.drop 1).takeWhile notDot, pathN ((w.x.drop 1).dropWhile notDot), 0, []⟩)
  else if w.k = 4 then some ⟨3, [], [], (parseL w.x).1, []⟩
  else if w.k = 5 then some ⟨4, [], [], 0, w.x⟩
  else none
/-- An argument's text, and the word that it is. -/
def showA (a : Ar) : List UInt8 :=
  if a.k = 1 then (if a.p = [] then [46] else pathL a.p) else if a.k = 2 then 36 :: (a.n ++ pathL a.p) else if a.k = 3 then printL a.i else if a.k = 4 then quoteQ a.x
  else if a.k = 5 then cTrue else if a.k = 6 then cFalse else cNil
def wordA (a : Ar) : Wd :=
  if a.k = 1 then ⟨2, showA a⟩ else if a.k = 2 then ⟨3, showA a⟩ else if a.k = 3 then ⟨4, showA a⟩ else if a.k = 4 then ⟨5, a.x⟩ else ⟨1, showA a⟩
/-- May an argument be. -/
def mayA (a : Ar) : Bool :=
  a.p.all nameB && decide (1 ≤ a.k ∧ a.k ≤ 7 ∧ a.p.length ≤ 16 ∧ a.x.length ≤ 4096) && !decide (2 < a.k ∧ a.p ≠ []) && !decide (a.k ≠ 3 ∧ a.i ≠ 0) && !decide (a.k ≠ 4 ∧ a.x ≠ []) && (decide (a.n = []) || (decide (a.k = 2) && nameB a.n))
theorem name_of {n : List UInt8} (h : nameB n = true) : NameL n ∧ n.length ≤ 32 ∧ n ≠ [] ∧ ∀ c ∈ n, c ≠ 46 := by
  unfold nameB at h
  simp only [Bool.and_eq_true, decide_eq_true_eq, Bool.not_eq_true', List.all_eq_true] at h
  obtain ⟨⟨h1, h2⟩, h3⟩ := h
  have hc : ∀ k : Fin 256, nameI ((UInt8.ofNat k.val).toNat : Int) = true → nameC (UInt8.ofNat k.val) = true ∧ UInt8.ofNat k.val ≠ 46 ∧ (digitI ((UInt8.ofNat k.val).toNat : Int) = false → begB (UInt8.ofNat k.val) = true) := by decide +kernel
  have hd : ∀ c ∈ n, nameC c = true ∧ c ≠ 46 ∧ (digitI (c.toNat : Int) = false → begB c = true) := fun c hm => by
    have := hc ⟨c.toNat, c.toNat_lt⟩
    simp only [UInt8.ofNat_toNat] at this
    exact this (h3 c hm)
  cases n with
  | nil => simp at h1
  | cons c t => exact ⟨⟨c, t, rfl, (hd c (by simp)).2.2 h2, fun d hm => (hd d (by simp [hm])).1⟩, h1.2, List.cons_ne_nil _ _, fun d hm => (hd d hm).2.1⟩
theorem const_name (s : List UInt8) (h : s = cTrue ∨ s = cFalse ∨ s = cNil) : OneW s ⟨1, s⟩ := by
  rcases h with rfl | rfl | rfl
  · exact one_name ⟨116, _, rfl, by decide, by decide⟩ (by decide)
  · exact one_name ⟨102, _, rfl, by decide, by decide⟩ (by decide)
  · exact one_name ⟨110, _, rfl, by decide, by decide⟩ (by decide)
theorem take_var {n : List UInt8} (h : ∀ c ∈ n, c ≠ 46) (m : List (List UInt8)) : (n ++ pathL m).takeWhile notDot = n ∧ (n ++ pathL m).dropWhile notDot = pathL m := by
  have hn : ∀ c ∈ n, notDot c = true := fun c hc => by
    unfold notDot
    have := h c hc
    simpa using this
  have hs : (pathL m).takeWhile notDot = [] ∧ (pathL m).dropWhile notDot = pathL m := by
    cases m with
    | nil => exact ⟨rfl, rfl⟩
    | cons a m =>
      rw [path_cons, List.takeWhile_cons_of_neg (by decide), List.dropWhile_cons_of_neg (by decide)]
      exact ⟨rfl, rfl⟩
  rw [List.takeWhile_append_of_pos hn, List.dropWhile_append_of_pos hn, hs.1, hs.2, List.append_nil]
  exact ⟨rfl, rfl⟩
/-- An argument that may be is one word, which is read as it. -/
theorem arg_word (a : Ar) (h : mayA a = true) (h0 : -9223372036854775808 ≤ a.i) (h1 : a.i ≤ 9223372036854775807) :
    OneW (showA a) (wordA a) ∧ argL (wordA a) = some a ∧ (wordA a).k ≠ 6 ∧ (wordA a).k ≠ 0 ∧ ((wordA a).k = 1 → constB (wordA a).x = true) := by
  obtain ⟨k, n, p, i, x⟩ := a
  unfold mayA at h
  simp only [Bool.and_eq_true, Bool.or_eq_true, Bool.not_eq_true', decide_eq_true_eq, decide_eq_false_iff_not, List.all_eq_true] at h h0 h1
  obtain ⟨⟨⟨⟨⟨hp, hk1, hk7, hpl, hxl⟩, hk2⟩, hi⟩, hx⟩, hn⟩ := h
  have hpn : ∀ m ∈ p, NameL m ∧ m.length ≤ 32 := fun m hm => ⟨(name_of (hp m hm)).1, (name_of (hp m hm)).2.1⟩
  have hpd : ∀ m ∈ p, m ≠ [] ∧ ∀ c ∈ m, c ≠ 46 := fun m hm => (name_of (hp m hm)).2.2
  rcases (by omega : k = 1 ∨ k = 2 ∨ k = 3 ∨ k = 4 ∨ k = 5 ∨ k = 6 ∨ k = 7) with rfl | rfl | rfl | rfl | rfl | rfl | rfl
  · have hi0 : i = 0 := by simpa using hi
    have hx0 : x = [] := by simpa using hx
    have hn0 : n = [] := by simpa using hn
    subst hi0
    subst hx0
    subst hn0
    by_cases hq : p = []
    · subst hq
      exact ⟨dot_one, rfl, by decide, by decide, fun h => absurd h (by decide)⟩
    · have e : showA ⟨1, [], p, 0, []⟩ = pathL p := by unfold showA; rw [if_pos rfl, if_neg hq]
      have ew : wordA ⟨1, [], p, 0, []⟩ = ⟨2, pathL p⟩ := by unfold wordA; rw [if_pos rfl, e]
      rw [e, ew]
      refine ⟨path_one p hq hpn, ?_, by simp, by simp, fun h => absurd h (by simp)⟩
      unfold argL
      rw [if_neg (by simp), if_pos rfl, path_names p hpd, if_neg (by omega)]
  · have hi0 : i = 0 := by simpa using hi
    have hx0 : x = [] := by simpa using hx
    subst hi0
    subst hx0
    have e : showA ⟨2, n, p, 0, []⟩ = 36 :: (n ++ pathL p) := by unfold showA; rw [if_neg (by simp), if_pos rfl]
    have ew : wordA ⟨2, n, p, 0, []⟩ = ⟨3, 36 :: (n ++ pathL p)⟩ := by unfold wordA; rw [if_neg (by simp), if_pos rfl, e]
    rw [e, ew]
    have hnn : (n = [] ∨ NameL n) ∧ n.length ≤ 32 ∧ ∀ c ∈ n, c ≠ 46 := by
      rcases hn with rfl | hn
      · exact ⟨.inl rfl, by simp, fun c hc => nomatch hc⟩
      · have := name_of hn.2
        exact ⟨.inr this.1, this.2.1, this.2.2.2⟩
    have ht := take_var hnn.2.2 p
    refine ⟨var_one n hnn.1 hnn.2.1 p hpn, ?_, by simp, by simp, fun h => absurd h (by simp)⟩
    unfold argL
    rw [if_neg (by simp), if_neg (by simp), if_pos rfl]
    show (if 16 < (pathN ((n ++ pathL p).dropWhile notDot)).length then none else some (⟨2, (n ++ pathL p).takeWhile notDot, pathN ((n ++ pathL p).dropWhile notDot), 0, []⟩ : Ar)) = _
    rw [ht.1, ht.2, path_names p hpd, if_neg (by omega)]
  · have hp0 : p = [] := by simpa using hk2
    have hx0 : x = [] := by simpa using hx
    have hn0 : n = [] := by simpa using hn
    subst hp0
    subst hx0
    subst hn0
    refine ⟨num_one i h0 h1, ?_, by simp [wordA], by simp [wordA], fun h => absurd h (by simp [wordA])⟩
    have e : wordA ⟨3, [], [], i, []⟩ = ⟨4, printL i⟩ := rfl
    rw [e]
    unfold argL
    rw [if_neg (by simp), if_neg (by simp), if_neg (by simp), if_pos rfl, parse_print i h0 h1]
  · have hp0 : p = [] := by simpa using hk2
    have hi0 : i = 0 := by simpa using hi
    have hn0 : n = [] := by simpa using hn
    subst hp0
    subst hi0
    subst hn0
    exact ⟨text_one x hxl, rfl, by simp [wordA], by simp [wordA], fun h => absurd h (by simp [wordA])⟩
  all_goals
    have hp0 : p = [] := by simpa using hk2
    have hi0 : i = 0 := by simpa using hi
    have hx0 : x = [] := by simpa using hx
    have hn0 : n = [] := by simpa using hn
    subst hp0
    subst hi0
    subst hx0
    subst hn0
  · exact ⟨const_name _ (.inl rfl), rfl, by decide, by decide, fun _ => rfl⟩
  · exact ⟨const_name _ (.inr (.inl rfl)), rfl, by decide, by decide, fun _ => rfl⟩
  · exact ⟨const_name _ (.inr (.inr rfl)), rfl, by decide, by decide, fun _ => rfl⟩

/-! ### Calls -/
def argsL : List Wd → Option (List Ar)
  | [] => some []
  | w :: t => match argL w with
    | none => none
    | some a => (argsL t).map (a :: ·)
/-- A call's words; is a value ahead. -/
def callL (l : List Wd) (ahead : Bool) : Option Ca := match l with
  | [] => none
  | w :: t =>
    if w.k ≠ 1 ∨ constB w.x = true then (if ahead = true then none else match argL w with
      | none => none
      | some a => if t = [] then some ⟨[], [a]⟩ else none)
    else match arityL w.x with
      | none => none
      | some m => match argsL t with
        | none => none
        | some as => if as.length + (if ahead = true then 1 else 0) < m.1 ∨ m.2 < as.length + (if ahead = true then 1 else 0) then none else some ⟨w.x, as⟩
def isWord (w : Wd) : Bool := !(w.k == 6)
def pipeF : Nat → List Wd → Nat → Option (List Ca)
  | 0, _, _ => none
  | f + 1, l, k => match callL (l.takeWhile isWord) (decide (0 < k)) with
    | none => none
    | some c => if k = 16 then none else match l.dropWhile isWord with
      | [] => some [c]
      | w :: t => if w.x ≠ [124] then none else if t = [] then none else (pipeF f t (k + 1)).map (c :: ·)
/-- Words as a pipeline. -/
def pipeL (l : List Wd) : Option (List Ca) := pipeF l.length l 0
def mayC (k : Nat) (c : Ca) : Bool :=
  c.as.all mayA && (if c.n = [] then decide (k = 0 ∧ c.as.length = 1) else match arityL c.n with
    | none => false
    | some m => decide (m.1 ≤ c.as.length + (if 0 < k then 1 else 0) ∧ c.as.length + (if 0 < k then 1 else 0) ≤ m.2))
def mayF : Nat → List Ca → Bool
  | _, [] => true
  | k, c :: t => mayC k c && mayF (k + 1) t
/-- May a pipeline be. -/
def mayP (p : List Ca) : Bool := decide (1 ≤ p.length ∧ p.length ≤ 16) && mayF 0 p
/-- The numbers of a pipeline are numbers of 64 bits. -/
def Ints (p : List Ca) : Prop := ∀ c ∈ p, ∀ a ∈ c.as, -9223372036854775808 ≤ a.i ∧ a.i ≤ 9223372036854775807
def wordsC (c : Ca) : List (List UInt8 × Wd) := (if c.n = [] then [] else [(c.n, ⟨1, c.n⟩)]) ++ c.as.map fun a => (showA a, wordA a)
def wordsP : List Ca → List (List UInt8 × Wd)
  | [] => []
  | c :: t => wordsC c ++ (if t = [] then [] else ([124], ⟨6, [124]⟩) :: wordsP t)
theorem args_back (as : List Ar) (h : ∀ a ∈ as, mayA a = true) (hi : ∀ a ∈ as, -9223372036854775808 ≤ a.i ∧ a.i ≤ 9223372036854775807) : argsL (as.map wordA) = some as := by
  induction as with
  | nil => rfl
  | cons a t ih =>
    rw [List.map_cons]
    unfold argsL
    rw [(arg_word a (h a (by simp)) (hi a (by simp)).1 (hi a (by simp)).2).2.1, ih (fun b hb => h b (by simp [hb])) (fun b hb => hi b (by simp [hb]))]
    rfl
theorem arity_name {s : List UInt8} {m : Nat × Nat} (h : arityL s = some m) : NameL s ∧ s.length ≤ 32 ∧ constB s = false ∧ s ≠ [] := by
  have hm : s ∈ [fLen, fNot, fUpper, fLower] ∨ s ∈ [fEq, fLt, fAnd, fOr, fJoin, fDefault, fIndex] ∨ s = fPrint := by
    unfold arityL at h
    split at h
    · rename_i q; exact .inl q
    · split at h
      · rename_i q; exact .inr (.inl q)
      · split at h
        · rename_i q; exact .inr (.inr q)
        · cases h
  have hb : nameB s = true ∧ constB s = false := by
    simp only [List.mem_cons, List.not_mem_nil, or_false] at hm
    rcases hm with (rfl | rfl | rfl | rfl) | (rfl | rfl | rfl | rfl | rfl | rfl | rfl) | rfl <;> exact ⟨by decide, by decide⟩
  obtain ⟨g1, g2, g3, _⟩ := name_of hb.1
  exact ⟨g1, g2, hb.2, g3⟩
/-- A call that may be is read again of its words. -/
theorem call_back (c : Ca) (k : Nat) (h : mayC k c = true) (hi : ∀ a ∈ c.as, -9223372036854775808 ≤ a.i ∧ a.i ≤ 9223372036854775807) :
    callL ((wordsC c).map Prod.snd) (decide (0 < k)) = some c ∧ (∀ x ∈ wordsC c, OneW x.1 x.2 ∧ isWord x.2 = true) ∧ wordsC c ≠ [] := by
  obtain ⟨n, as⟩ := c
  unfold mayC at h
  simp only [Bool.and_eq_true, List.all_eq_true] at h hi
  obtain ⟨ha, hc⟩ := h
  have hw : ∀ a ∈ as, OneW (showA a) (wordA a) ∧ isWord (wordA a) = true := fun a hm => by
    have := arg_word a (ha a hm) (hi a hm).1 (hi a hm).2
    refine ⟨this.1, ?_⟩
    unfold isWord
    have h6 := this.2.2.1
    simpa using h6
  have hb := args_back as ha hi
  by_cases hn : n = []
  · subst hn
    rw [if_pos rfl, decide_eq_true_eq] at hc
    obtain ⟨rfl, h1⟩ := hc
    obtain ⟨a, rfl⟩ : ∃ a, as = [a] := by
      match as, h1 with
      | [a], _ => exact ⟨a, rfl⟩
    have g := arg_word a (ha a (by simp)) (hi a (by simp)).1 (hi a (by simp)).2
    have e : wordsC ⟨[], [a]⟩ = [(showA a, wordA a)] := rfl
    rw [e]
    refine ⟨?_, fun x hx => by
      have : x = (showA a, wordA a) := by simpa using hx
      subst this
      exact hw a (by simp), by simp⟩
    show callL [wordA a] (decide (0 < 0)) = _
    unfold callL
    dsimp only
    have hq : (wordA a).k ≠ 1 ∨ constB (wordA a).x = true := by
      by_cases h1 : (wordA a).k = 1
      · exact .inr (g.2.2.2.2 h1)
      · exact .inl h1
    rw [if_pos hq, if_neg (by simp), g.2.1]
    rfl
  · rw [if_neg hn] at hc
    cases hm : arityL n with
    | none => rw [hm] at hc; cases hc
    | some m =>
      rw [hm] at hc
      simp only [decide_eq_true_eq] at hc
      obtain ⟨g1, g2, g3, _⟩ := arity_name hm
      have e : wordsC ⟨n, as⟩ = (n, ⟨1, n⟩) :: as.map fun a => (showA a, wordA a) := by unfold wordsC; rw [if_neg hn]; rfl
      rw [e]
      refine ⟨?_, fun x hx => ?_, by simp⟩
      · have e2 : ((n, (⟨1, n⟩ : Wd)) :: as.map fun a => (showA a, wordA a)).map Prod.snd = ⟨1, n⟩ :: as.map wordA := by
          rw [List.map_cons, List.map_map]
          rfl
        rw [e2]
        unfold callL
        dsimp only
        rw [if_neg (by rw [g3]; simp), hm]
        dsimp only
        rw [hb]
        dsimp only
        have ek : (if decide (0 < k) = true then 1 else 0) = (if 0 < k then 1 else 0 : Nat) := by
          by_cases hk : 0 < k
          · rw [decide_eq_true hk, if_pos rfl, if_pos hk]
          · rw [decide_eq_false hk, if_neg (by simp), if_neg hk]
        rw [ek, if_neg (by omega)]
      · rcases List.mem_cons.1 hx with rfl | hx
        · exact ⟨one_name g1 g2, rfl⟩
        · obtain ⟨a, hma, rfl⟩ := List.mem_map.1 hx
          exact hw a hma
theorem tw_words (l : List Wd) (t : List Wd) (h : ∀ w ∈ l, isWord w = true) (ht : t = [] ∨ ∃ w u, t = w :: u ∧ isWord w = false) : (l ++ t).takeWhile isWord = l ∧ (l ++ t).dropWhile isWord = t := by
  rw [List.takeWhile_append_of_pos h, List.dropWhile_append_of_pos h]
  rcases ht with rfl | ⟨w, u, rfl, hw⟩
  · exact ⟨by rw [List.takeWhile_nil, List.append_nil], rfl⟩
  · rw [List.takeWhile_cons_of_neg (by rw [hw]; simp), List.dropWhile_cons_of_neg (by rw [hw]; simp), List.append_nil]
    exact ⟨rfl, rfl⟩
theorem words_ne {p : List Ca} {k : Nat} (h : mayF k p = true) (hi : Ints p) (hp : p ≠ []) : wordsP p ≠ [] := by
  obtain ⟨c, t, rfl⟩ := List.exists_cons_of_ne_nil hp
  unfold mayF at h
  rw [Bool.and_eq_true] at h
  have := (call_back c k h.1 (hi c (by simp))).2.2
  unfold wordsP
  intro e
  exact this (List.append_eq_nil_iff.1 e).1
theorem pipe_from (p : List Ca) : ∀ (k f : Nat), p ≠ [] → mayF k p = true → Ints p → k + p.length ≤ 16 → p.length ≤ f → pipeF f ((wordsP p).map Prod.snd) k = some p := by
  induction p with
  | nil => intro k f h; exact absurd rfl h
  | cons c t ih =>
    intro k f _ hm hi hk hf
    unfold mayF at hm
    rw [Bool.and_eq_true] at hm
    obtain ⟨g1, g2, _⟩ := call_back c k hm.1 (hi c (by simp))
    have hiT : Ints t := fun d hd => hi d (by simp [hd])
    have hw : ∀ w ∈ (wordsC c).map Prod.snd, isWord w = true := fun w hw => by
      obtain ⟨x, hx, rfl⟩ := List.mem_map.1 hw
      exact (g2 x hx).2
    cases f with
    | zero => simp at hf
    | succ f =>
      by_cases ht : t = []
      · subst ht
        have e : (wordsP [c]).map Prod.snd = (wordsC c).map Prod.snd := by unfold wordsP; rw [if_pos rfl, List.append_nil]
        obtain ⟨a1, a2⟩ := tw_words ((wordsC c).map Prod.snd) [] hw (.inl rfl)
        rw [List.append_nil] at a1 a2
        rw [e]
        unfold pipeF
        rw [a1, g1]
        dsimp only
        rw [if_neg (by simp at hk; omega), a2]
      · have e : (wordsP (c :: t)).map Prod.snd = (wordsC c).map Prod.snd ++ (⟨6, [124]⟩ :: (wordsP t).map Prod.snd) := by
          conv => lhs; unfold wordsP
          rw [if_neg ht, List.map_append, List.map_cons]
        obtain ⟨a1, a2⟩ := tw_words ((wordsC c).map Prod.snd) (⟨6, [124]⟩ :: (wordsP t).map Prod.snd) hw (.inr ⟨_, _, rfl, rfl⟩)
        have hne : (wordsP t).map Prod.snd ≠ [] := fun h => words_ne hm.2 hiT ht (List.map_eq_nil_iff.1 h)
        rw [e]
        unfold pipeF
        rw [a1, g1]
        dsimp only
        rw [if_neg (by simp at hk; have := List.length_pos_iff.2 ht; omega), a2]
        dsimp only
        rw [if_neg (by simp), if_neg hne, ih (k + 1) f ht hm.2 hiT (by simp at hk; omega) (by simp at hf; omega)]
        rfl
theorem words_one (p : List Ca) : ∀ k, mayF k p = true → Ints p → ∀ x ∈ wordsP p, OneW x.1 x.2 := by
  induction p with
  | nil => intro k _ _ x hx; exact nomatch hx
  | cons c t ih =>
    intro k hm hi x hx
    unfold mayF at hm
    rw [Bool.and_eq_true] at hm
    obtain ⟨_, g2, _⟩ := call_back c k hm.1 (hi c (by simp))
    unfold wordsP at hx
    rcases List.mem_append.1 hx with hx | hx
    · exact (g2 x hx).1
    · split at hx
      · exact nomatch hx
      · rcases List.mem_cons.1 hx with rfl | hx
        · exact bar_one
        · exact ih (k + 1) hm.2 (fun d hd => hi d (by simp [hd])) x hx
theorem words_len (p : List Ca) : ∀ k, mayF k p = true → Ints p → p.length ≤ (wordsP p).length := by
  induction p with
  | nil => intro k _ _; exact Nat.zero_le _
  | cons c t ih =>
    intro k hm hi
    unfold mayF at hm
    rw [Bool.and_eq_true] at hm
    have h1 := List.length_pos_iff.2 (call_back c k hm.1 (hi c (by simp))).2.2
    have h2 := ih (k + 1) hm.2 (fun d hd => hi d (by simp [hd]))
    unfold wordsP
    rw [List.length_append]
    split
    · rename_i q
      subst q
      simp
      omega
    · rw [List.length_cons, List.length_cons]
      omega
/-- A pipeline's text. -/
def showP (p : List Ca) : List UInt8 := joinB ((wordsP p).map Prod.fst)
/-- PipesBack: a pipeline that may be is read again of its words. -/
theorem pipe_back (p : List Ca) (h : mayP p = true) (hi : Ints p) : ∃ r, wordsL (showP p) = .ok r ∧ pipeL (r.map Prod.fst) = some p := by
  unfold mayP at h
  rw [Bool.and_eq_true, decide_eq_true_eq] at h
  obtain ⟨⟨h1, h16⟩, hm⟩ := h
  obtain ⟨r, hr, hw⟩ := words_all (wordsP p) (words_one p 0 hm hi)
  refine ⟨r, hr, ?_⟩
  unfold pipeL
  have hl : (r.map Prod.fst).length = (wordsP p).length := by rw [hw, List.length_map]
  rw [hl, hw]
  exact pipe_from p 0 _ (List.length_pos_iff.1 h1) hm hi (by omega) (words_len p 0 hm hi)
end Go.Proofs.YtmccbcficbbidaaGreatDoor.Pip
