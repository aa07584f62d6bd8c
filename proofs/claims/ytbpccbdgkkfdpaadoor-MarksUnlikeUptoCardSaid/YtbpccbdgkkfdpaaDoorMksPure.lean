/-
  States of package marks as plain lists of octets, with no program: whether one may be, its text, what a text reads as.
-/
import Derived.Test.YtbpccbdgkkfdpaaDoorMkBase
import Derived.Lib.Split
import Derived.Lib.Join
namespace Go.Proofs.YtbpccbdgkkfdpaaDoor.Mks
open Go.Proofs.YtbpccbdgkkfdpaaDoor.Oct Go.Proofs.YtbpccbdgkkfdpaaDoor.Utf Go.Proofs.YtbpccbdgkkfdpaaDoor.Pct Go.Proofs.YtbpccbdgkkfdpaaDoor.Num Go.Proofs.YtbpccbdgkkfdpaaDoor.Scn Go.Proofs.YtbpccbdgkkfdpaaDoor.Tab

/-- A state whose kind may be any number. -/
structure St where
  k : Int
  e : List UInt8
  a : List UInt8
  d : UInt8
  p : List UInt8
  r : List UInt8
  n : Int
  w : List UInt8
deriving DecidableEq
abbrev st0 : St := ⟨0, [], [], 0, [], [], 0, []⟩

/-! ### May it be? -/
def btw (n a b : Int) : Bool := decide (a ≤ n ∧ n ≤ b)
def attS (s : St) : Nat := if (s.k < 8 ∨ 10 < s.k) ∨ endE s.e = true then 0 else attrN s.e s.a
def partS (s : St) : Bool := btw s.k 18 19 || (btw s.k 9 10 && btw (attS s : Int) 1 3)
/-- Which fields a state uses, how much each has, and how much it may have. -/
def useS (s : St) : List Bool := [true, btw s.k 3 12 || btw s.k 17 19, btw s.k 6 10, decide (s.k = 9), btw s.k 16 19, decide (s.k = 0) || btw s.k 9 10 || decide (s.k = 17), partS s, partS s]
def sizS (s : St) : List Int := [s.k, (s.e.length : Int), (s.a.length : Int), (s.d.toNat : Int), (s.p.length : Int), (s.r.length : Int), s.n, (s.w.length : Int)]
def mostS : List Int := [19, 33, 32, 255, 34, 16, 15, 16]
def okF (u : Bool) (z m : Int) : Bool := (u || decide (z = 0)) && btw z 0 m
def okAt (s : St) (j : Nat) : Bool := okF ((useS s).getD j false) ((sizS s).getD j 0) (mostS.getD j 0)
def endS (s : St) : Bool := decide (s.k ≠ 9) || s.d == 34 || s.d == 39
def mayS (s : St) : Bool := (List.range 8).all (okAt s) && endS s
def checkC (s : St) : Nat := if btw s.k 0 19 = true then (if mayS s = true then 0 else 9) else 4

theorem may_at {s : St} (h : mayS s = true) (j : Nat) (hj : j < 8) : okAt s j = true := by
  unfold mayS at h
  rw [Bool.and_eq_true, List.all_eq_true] at h
  exact h.1 j (by simp [hj])
theorem may_not {s : St} {j : Nat} (hj : j < 8) (h : okAt s j = false) : mayS s = false := by
  cases hm : mayS s with
  | false => rfl
  | true => rw [may_at hm j hj] at h; cases h
theorem may_all {s : St} (h : ∀ j, j < 8 → okAt s j = true) : mayS s = endS s := by
  unfold mayS
  rw [show (List.range 8).all (okAt s) = true from List.all_eq_true.2 fun j hj => h j (by simpa using hj), Bool.true_and]

/-- What the code's check lets pass, the page's lets pass. -/
theorem check_page {s : St} (h : checkC s = 0) : ∃ k : Nat, s.k = (k : Int) ∧ checkS ⟨k, s.e, s.a, s.d, s.p, s.r, s.n, s.w⟩ = 0 := by
  unfold checkC at h
  split at h
  · rename_i hk
    split at h
    · rename_i hm
      have hk2 : 0 ≤ s.k ∧ s.k ≤ 19 := by simpa [btw] using hk
      obtain ⟨k, e, a, d, p, r, n, w⟩ := s
      dsimp only at hk2 ⊢
      refine ⟨k.toNat, by omega, ?_⟩
      obtain ⟨q, rfl⟩ : ∃ q : Nat, k = (q : Int) := ⟨k.toNat, by omega⟩
      rw [Int.toNat_natCast]
      have g := fun j hj => may_at hm j hj
      have hend : endS ⟨(q : Int), e, a, d, p, r, n, w⟩ = true := by
        unfold mayS at hm
        rw [Bool.and_eq_true] at hm
        exact hm.2
      have g1 := g 1 (by omega)
      have g2 := g 2 (by omega)
      have g3 := g 3 (by omega)
      have g4 := g 4 (by omega)
      have g5 := g 5 (by omega)
      have g6 := g 6 (by omega)
      have g7 := g 7 (by omega)
      have nil : ∀ l : List UInt8, l.length = 0 → l = [] := fun l hl => List.eq_nil_of_length_eq_zero hl
      have dz : d.toNat = 0 → d = 0 := fun hd => UInt8.toNat_inj.1 (by simpa using hd)
      have att : attS ⟨(q : Int), e, a, d, p, r, n, w⟩ = attK ⟨q, e, a, d, p, r, n, w⟩ := by
        unfold attS attK
        have e : (((q : Int) < 8 ∨ 10 < (q : Int)) ∨ endE e = true) = ((q < 8 ∨ 10 < q) ∨ endE e = true) := by
          rw [show ((q : Int) < 8) = (q < 8) by rw [eq_iff_iff]; omega, show (10 < (q : Int)) = (10 < q) by rw [eq_iff_iff]; omega]
        simp only [e]
      simp only [okAt, okF, useS, sizS, mostS, partS, btw, att, List.getD_cons_succ, List.getD_cons_zero, Bool.and_eq_true, Bool.or_eq_true, decide_eq_true_eq] at g1 g2 g3 g4 g5 g6 g7
      simp only [endS, Bool.or_eq_true, decide_eq_true_eq, beq_iff_eq] at hend
      generalize hA : attK ⟨q, e, a, d, p, r, n, w⟩ = A at g6 g7
      have hl : langN ⟨q, e, a, d, p, r, n, w⟩ = if q = 18 then 3 else if q = 19 then 2 else if q = 9 ∨ q = 10 then (if A < 4 then A else 0) else 0 := by
        unfold langN
        rw [hA]
      unfold checkS
      rw [hl]
      clear hl hA att g hm h hk
      dsimp only
      rw [if_neg (by omega), if_neg (by omega), if_neg (by omega), if_neg, if_neg, if_neg]
      · rintro ⟨h0, h1⟩
        have hz : n = 0 ∧ w.length = 0 := by
          repeat' split at h0
          all_goals omega
        exact h1.elim (fun h => h hz.1) fun h => h (nil w hz.2)
      · rintro (⟨h9, h1, h2⟩ | ⟨h9, h1⟩)
        · rcases hend with (h | h) | h
          · omega
          · exact h1 h
          · exact h2 h
        · exact h1 (dz (by omega))
      · rintro (⟨h0, h1⟩ | ⟨h0, h1⟩ | ⟨h0, h1⟩ | ⟨h0, h1⟩)
        · exact h1 (nil e (by simp [elemK] at h0; omega))
        · exact h1 (nil a (by simp [attrK] at h0; omega))
        · exact h1 (nil p (by omega))
        · exact h1 (nil r (by simp [refK] at h0; omega))
    · cases h
  · cases h

/-! ### Its text -/
def encT (l : List UInt8) : List UInt8 := encL (rep l)
def fldsL (s : St) : List (List UInt8) := [printL s.k, encT s.e, encT s.a, printL (s.d.toNat : Int), encT s.p, encT s.r, printL s.n, encT s.w]
def showL (s : St) : List UInt8 := Lib.join (fldsL s) [124]
/-! ### What a text reads as -/
def piecesB (t : List UInt8) : List ByteArray := Lib.splitB (S [124]) 0 (min 8 ((S t).size + 1) - 1) (S t)
def pieceB (t : List UInt8) (j : Nat) : ByteArray := ((piecesB t)[j]?).getD ByteArray.empty
def pieceL (t : List UInt8) (j : Nat) : List UInt8 := (pieceB t j).data.toList
def numAt (l : List UInt8) : Int := (parseL l).1
def txtAt (l : List UInt8) : List UInt8 := if (tellL l).2 = l.length then (tellL l).1 else []
def octI (n : Int) : UInt8 := UInt8.ofNat (n % 256).toNat
def readL (t : List UInt8) : St := ⟨numAt (pieceL t 0), txtAt (pieceL t 1), txtAt (pieceL t 2), octI (numAt (pieceL t 3)), txtAt (pieceL t 4), txtAt (pieceL t 5), numAt (pieceL t 6), txtAt (pieceL t 7)⟩

theorem split_size (sep : ByteArray) : ∀ (k : Nat) (s : ByteArray), ∀ x ∈ Lib.splitB sep 0 k s, x.size ≤ s.size
  | 0, s, x, h => by
    rw [Lib.splitB_zero, List.mem_singleton] at h
    rw [h]
    exact Nat.le_refl _
  | k + 1, s, x, h => by
    unfold Lib.splitB at h
    split at h
    · rw [List.mem_singleton] at h
      rw [h]
      exact Nat.le_refl _
    · rcases List.mem_cons.1 h with rfl | h
      · rw [ByteArray.size_extract]; omega
      · have := split_size sep k _ x h
        rw [ByteArray.size_extract] at this
        omega
theorem piece_size (t : List UInt8) (j : Nat) : (pieceB t j).size ≤ t.length := by
  unfold pieceB
  cases h : (piecesB t)[j]? with
  | none => simp
  | some x =>
    have := split_size _ _ _ x (List.mem_of_getElem? h)
    rw [size_S] at this
    exact this
theorem piece_len (t : List UInt8) (j : Nat) : (pieceL t j).length ≤ t.length := by
  have h := piece_size t j
  have e : (pieceL t j).length = (pieceB t j).size := size_list _
  omega
theorem txt_len (l : List UInt8) : (txtAt l).length ≤ l.length := by
  unfold txtAt
  split
  · have := tell_len l.length l (Nat.le_refl _)
    omega
  · simp
theorem pieces_few (t : List UInt8) : (piecesB t).length ≤ 8 := by
  have := Lib.splitB_length_le (S [124]) 0 (min 8 ((S t).size + 1) - 1) (S t)
  unfold piecesB
  omega
end Go.Proofs.YtbpccbdgkkfdpaaDoor.Mks
