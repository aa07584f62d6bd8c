/-
  Plain facts on where in a style a text stands, with no program: its parts, octet by octet; a filtered text, an address.
-/
import Derived.Test.YtlekaibiofkleaaCssPure
namespace Go.Proofs.Ytlekaibiofkleaa.Csc
open Go.Proofs.Ytlekaibiofkleaa.Oct Go.Proofs.Ytlekaibiofkleaa.Css

abbrev St := Int × List UInt8
def wordC (c : UInt8) : Bool := letterI (c.toNat : Int) || digitI (c.toNat : Int) || c == 45 || c == 95
def lineC (c : UInt8) : Bool := c == 10 || c == 13
abbrev holeW : List UInt8 := [63]
def plainC (w : List UInt8) (c : UInt8) : St :=
  if wordC c then (0, if w ≠ holeW ∧ w.length < 16 then w ++ [low c] else w)
  else if c = 34 then (1, []) else if c = 39 then (2, []) else if c = 47 then (5, []) else if c = 92 then (9, [])
  else if c = 40 then (if w = urlL then (8, []) else if w = holeW then (9, []) else (0, [])) else (0, [])
def stepC (s : St) (c : UInt8) : St :=
  if s.1 = 0 then plainC s.2 c
  else if s.1 = 1 then (if c = 34 then (0, []) else if c = 92 then (3, []) else if lineC c then (9, []) else (1, []))
  else if s.1 = 2 then (if c = 39 then (0, []) else if c = 92 then (4, []) else if lineC c then (9, []) else (2, []))
  else if s.1 = 3 then (1, []) else if s.1 = 4 then (2, [])
  else if s.1 = 5 then (if c = 42 then (6, []) else plainC [] c)
  else if s.1 = 6 then (if c = 42 then (7, []) else (6, []))
  else if s.1 = 7 then (if c = 42 then (7, []) else if c = 47 then (0, []) else (6, []))
  else if s.1 = 8 then (if c = 41 then (0, []) else (8, []))
  else (9, [])
def feedC (s : St) (l : List UInt8) : St := l.foldl stepC s

theorem feed_append (s : St) (a b : List UInt8) : feedC s (a ++ b) = feedC (feedC s a) b := List.foldl_append ..
theorem feed_cons (s : St) (c : UInt8) (t : List UInt8) : feedC s (c :: t) = feedC (stepC s c) t := rfl
theorem feed_nil (s : St) : feedC s [] = s := rfl
/-- CssscanParts: what is not followed stays so. -/
theorem stay_lost (w : List UInt8) (l : List UInt8) : (feedC (9, w) l).1 = 9 := by
  induction l generalizing w with
  | nil => rfl
  | cons c t ih => rw [feed_cons]; exact ih []
/-! ### A filtered text -/
theorem ok_step (w : List UInt8) (c : UInt8) (h : okC c = true) : (stepC (0, w) c).1 = 0 := by
  have h1 : ∀ k : Fin 256, okC (UInt8.ofNat k.val) = true → wordC (UInt8.ofNat k.val) = false → ¬ (UInt8.ofNat k.val = 34) ∧ ¬ (UInt8.ofNat k.val = 39) ∧ ¬ (UInt8.ofNat k.val = 47) ∧ ¬ (UInt8.ofNat k.val = 92) ∧ ¬ (UInt8.ofNat k.val = 40) := by decide +kernel
  have h2 := h1 ⟨c.toNat, c.toNat_lt⟩
  simp only [UInt8.ofNat_toNat] at h2
  show (plainC w c).1 = 0
  unfold plainC
  cases hw : wordC c with
  | true => rw [if_pos rfl]
  | false =>
    obtain ⟨a, b, d, e, f⟩ := h2 h hw
    rw [if_neg (by simp), if_neg a, if_neg b, if_neg d, if_neg e, if_neg f]
theorem ok_feed (l : List UInt8) (h : ∀ c ∈ l, okC c = true) (w : List UInt8) : (feedC (0, w) l).1 = 0 := by
  induction l generalizing w with
  | nil => rfl
  | cons c t ih =>
    rw [feed_cons]
    have h1 := ok_step w c (h c (by simp))
    generalize stepC (0, w) c = x at h1 ⊢
    obtain ⟨p, u⟩ := x
    have h1 : p = 0 := h1
    subst h1
    exact ih (fun d hd => h d (by simp [hd])) u
/-- CssscanFilters. -/
theorem csc_filters (l w : List UInt8) : (feedC (0, w) (filtC l)).1 = 0 := by
  refine ok_feed _ ?_ w
  unfold filtC
  split
  · rename_i h
    unfold plainB at h
    simp only [Bool.and_eq_true] at h
    exact fun c hc => List.all_eq_true.1 h.1.1.2 c hc
  · intro c hc
    have hm : (markC).all okC = true := by decide +kernel
    exact List.all_eq_true.1 hm c hc
/-! ### An address -/
theorem stay_addr (l : List UInt8) (h : ∀ c ∈ l, c ≠ 41) (w : List UInt8) : (feedC (8, w) l).1 = 8 := by
  induction l generalizing w with
  | nil => rfl
  | cons c t ih =>
    rw [feed_cons]
    have e : stepC (8, w) c = (8, []) := by
      show (if c = 41 then ((0, []) : St) else (8, [])) = _
      rw [if_neg (h c (by simp))]
    rw [e]
    exact ih (fun d hd => h d (by simp [hd])) []
/-- CssscanUrls: a: uRl( and behind it no ). -/
theorem csc_open (s : List UInt8) (h : ∀ c ∈ s, c ≠ 41) : (feedC (0, []) ([97, 58, 32, 117, 82, 108, 40] ++ s)).1 = 8 := by
  rw [feed_append]
  have e : feedC (0, []) [97, 58, 32, 117, 82, 108, 40] = (8, []) := by decide +kernel
  rw [e]
  exact stay_addr s h []
theorem csc_shut (s : List UInt8) (h : ∀ c ∈ s, c ≠ 41) : (feedC (0, []) ([97, 58, 32, 85, 82, 76, 40] ++ s ++ [41])).1 = 0 := by
  rw [feed_append, feed_append]
  have e : feedC (0, []) [97, 58, 32, 85, 82, 76, 40] = (8, []) := by decide +kernel
  rw [e]
  have h2 := stay_addr s h []
  generalize feedC (8, []) s = x at h2 ⊢
  obtain ⟨p, u⟩ := x
  have h2 : p = 8 := h2
  subst h2
  rfl
end Go.Proofs.Ytlekaibiofkleaa.Csc
