/-
  Part 8: PctPure, PctBuild, OctUnhex.
-/
import Derived.Test.YtbpccbdgkkfdpaaDoorMkBaseP6
import Derived.Test.YtbpccbdgkkfdpaaDoorMkBaseP7
import Derived.Test.YtbpccbdgkkfdpaaDoorMkBaseP5
import Derived.Lib.BufferKept
/-
  Plain facts on percent signs, with no program: what is unreserved, what is reserved; a text encoded, a normal one, a text decoded.
-/
namespace Go.Proofs.YtbpccbdgkkfdpaaDoor.Pct
open Go.Proofs.YtbpccbdgkkfdpaaDoor.Oct Go.Proofs.YtbpccbdgkkfdpaaDoor.Utf
open Go.Lib (encodeRune)

def unrI (n : Int) : Bool := letterI n || digitI n || decide (n = 45 ∨ n = 46 ∨ n = 95 ∨ n = 126)
def resI (n : Int) : Bool := decide (n ∈ [33, 35, 36, 38, 42, 43, 44, 47, 58, 59, 61, 63, 64, 91, 93])
def unr (c : UInt8) : Bool := unrI (c.toNat : Int)
def res (c : UInt8) : Bool := resI (c.toNat : Int)
/-- What a digit of base 16 counts; -1: none. -/
def hc (c : UInt8) : Int := hexI (c.toNat : Int)
def two (a b : UInt8) : Bool := decide (0 ≤ hc a ∧ 0 ≤ hc b)
def oct2 (a b : UInt8) : UInt8 := ((hc a).toNat * 16 + (hc b).toNat).toUInt8
/-- The octet that a text tells first, and how many octets tell it: none of a sign without its digits. -/
def headL : List UInt8 → UInt8 × Nat
  | [] => (0, 0)
  | c :: t => if c = 37 then (match t with
    | a :: b :: _ => if two a b = true then (oct2 a b, 3) else (0, 0)
    | _ => (0, 0)) else (c, 1)
/-- A text in which octets that p does not let stay are told by a sign and two digits. -/
def codL (p : List UInt8 → Bool) : List UInt8 → List UInt8
  | [] => []
  | c :: t => (if p (c :: t) = true then [c] else 37 :: hexL c.toNat 2) ++ codL p t
def encP (l : List UInt8) : Bool := unr (l.headD 0)
def norP (l : List UInt8) : Bool := unr (l.headD 0) || res (l.headD 0) || ((headL l).2 == 3)
def encL (l : List UInt8) : List UInt8 := codL encP l
def norL (l : List UInt8) : List UInt8 := codL norP l

/-- The octets that a text tells up to the first sign without digits, and the place of that, or the text's length. -/
def tellF : Nat → List UInt8 → List UInt8 × Nat
  | 0, _ => ([], 0)
  | n + 1, l => if (headL l).2 = 0 then ([], 0) else ((headL l).1 :: (tellF n (l.drop (headL l).2)).1, (headL l).2 + (tellF n (l.drop (headL l).2)).2)
def tellL (l : List UInt8) : List UInt8 × Nat := tellF l.length l

theorem head_other (c : UInt8) (t : List UInt8) (h : c ≠ 37) : headL (c :: t) = (c, 1) := by simp [headL, h]
theorem head_two (a b : UInt8) (t : List UInt8) (h : two a b = true) : headL (37 :: a :: b :: t) = (oct2 a b, 3) := by simp [headL, h]
theorem head_bad (a b : UInt8) (t : List UInt8) (h : two a b = false) : headL (37 :: a :: b :: t) = (0, 0) := by simp [headL, h]
theorem head_short (t : List UInt8) (h : t.length < 2) : headL (37 :: t) = (0, 0) := by
  match t, h with
  | [], _ => rfl
  | [_], _ => rfl
  | _ :: _ :: _, h => simp at h; omega
theorem head_len (l : List UInt8) : (headL l).2 ≤ l.length ∧ (headL l).2 ≤ 3 := by
  match l with
  | [] => exact ⟨Nat.le_refl _, by decide⟩
  | c :: t =>
    by_cases hc : c = 37
    · subst hc
      match t with
      | [] => exact ⟨by decide, by decide⟩
      | [_] => rw [head_short _ (by simp)]; simp
      | a :: b :: t =>
        cases h : two a b with
        | true => rw [head_two a b t h]; simp
        | false => rw [head_bad a b t h]; simp
    · rw [head_other c t hc]; simp

theorem tell_fuel : ∀ (n m : Nat) (l : List UInt8), l.length ≤ n → l.length ≤ m → tellF n l = tellF m l
  | 0, 0, _, _, _ => rfl
  | 0, m + 1, l, hn, _ => by
    have : l = [] := List.eq_nil_of_length_eq_zero (by omega)
    subst this; rfl
  | n + 1, 0, l, _, hm => by
    have : l = [] := List.eq_nil_of_length_eq_zero (by omega)
    subst this; rfl
  | n + 1, m + 1, l, hn, hm => by
    unfold tellF
    by_cases hz : (headL l).2 = 0
    · rw [if_pos hz, if_pos hz]
    · rw [if_neg hz, if_neg hz, tell_fuel n m (l.drop (headL l).2) (by rw [List.length_drop]; omega) (by rw [List.length_drop]; omega)]
theorem tell_stop {l : List UInt8} (h : (headL l).2 = 0) : tellL l = ([], 0) := by
  unfold tellL
  cases hl : l.length with
  | zero => rfl
  | succ n => unfold tellF; rw [if_pos h]
theorem tell_step {l : List UInt8} (h : (headL l).2 ≠ 0) : tellL l = ((headL l).1 :: (tellL (l.drop (headL l).2)).1, (headL l).2 + (tellL (l.drop (headL l).2)).2) := by
  have hh := head_len l
  unfold tellL
  obtain ⟨n, hn⟩ : ∃ n, l.length = n + 1 := ⟨l.length - 1, by omega⟩
  rw [hn]
  show (if (headL l).2 = 0 then _ else _) = _
  rw [if_neg h, tell_fuel n (l.drop (headL l).2).length _ (by rw [List.length_drop]; omega) (Nat.le_refl _)]
theorem tell_other (c : UInt8) (t : List UInt8) (h : c ≠ 37) : tellL (c :: t) = (c :: (tellL t).1, 1 + (tellL t).2) := by
  have e := head_other c t h
  rw [tell_step (by rw [e]; simp), e]
  rfl
theorem tell_two (a b : UInt8) (t : List UInt8) (h : two a b = true) : tellL (37 :: a :: b :: t) = (oct2 a b :: (tellL t).1, 3 + (tellL t).2) := by
  have e := head_two a b t h
  rw [tell_step (by rw [e]; simp), e]
  rfl
theorem tell_nil : tellL [] = ([], 0) := rfl
theorem tell_len (n : Nat) : ∀ l : List UInt8, l.length ≤ n → (tellL l).2 ≤ l.length ∧ (tellL l).1.length ≤ (tellL l).2 := by
  induction n with
  | zero =>
    intro l h
    have : l = [] := List.eq_nil_of_length_eq_zero (by omega)
    subst this; exact ⟨Nat.le_refl _, Nat.le_refl _⟩
  | succ n ih =>
    intro l h
    by_cases hz : (headL l).2 = 0
    · rw [tell_stop hz]; simp
    · have hh := head_len l
      have := ih (l.drop (headL l).2) (by rw [List.length_drop]; omega)
      rw [List.length_drop] at this
      rw [tell_step hz]
      simp only [List.length_cons]
      omega

/-! ### Octets -/
theorem hexL2 (u : Nat) : hexL u 2 = [hexDig (u / 16 % 16), hexDig (u % 16)] := by
  rw [hexL_cons, hexL_cons]
  simp [hexL]
theorem hex_two (c : UInt8) : two (hexDig (c.toNat / 16 % 16)) (hexDig (c.toNat % 16)) = true ∧ oct2 (hexDig (c.toNat / 16 % 16)) (hexDig (c.toNat % 16)) = c := by
  have h1 : ∀ c : Fin 256, two (hexDig ((UInt8.ofNat c.val).toNat / 16 % 16)) (hexDig ((UInt8.ofNat c.val).toNat % 16)) = true ∧ oct2 (hexDig ((UInt8.ofNat c.val).toNat / 16 % 16)) (hexDig ((UInt8.ofNat c.val).toNat % 16)) = UInt8.ofNat c.val := by decide +kernel
  have h2 := h1 ⟨c.toNat, c.toNat_lt⟩
  simp only [UInt8.ofNat_toNat] at h2
  exact h2
theorem digit_unr (a b : UInt8) (h : two a b = true) : unr a = true ∧ unr b = true := by
  have h1 : ∀ c : Fin 256, 0 ≤ hc (UInt8.ofNat c.val) → unr (UInt8.ofNat c.val) = true := by decide +kernel
  have h2 : ∀ c : UInt8, 0 ≤ hc c → unr c = true := fun c h => by
    have h2 := h1 ⟨c.toNat, c.toNat_lt⟩
    simp only [UInt8.ofNat_toNat] at h2
    exact h2 h
  have h3 := of_decide_eq_true h
  exact ⟨h2 a h3.1, h2 b h3.2⟩
theorem sign_not : unr 37 = false ∧ res 37 = false := by decide
theorem stay_small (c : UInt8) (h : c = 37 ∨ unr c = true ∨ res c = true) : c.toNat < 128 ∧ c.toNat ≠ 0 := by
  have h1 : ∀ c : Fin 256, (UInt8.ofNat c.val = 37 ∨ unr (UInt8.ofNat c.val) = true ∨ res (UInt8.ofNat c.val) = true) → (UInt8.ofNat c.val).toNat < 128 ∧ (UInt8.ofNat c.val).toNat ≠ 0 := by decide +kernel
  have h2 := h1 ⟨c.toNat, c.toNat_lt⟩
  simp only [UInt8.ofNat_toNat] at h2
  exact h2 h

/-! ### Encoded -/
theorem cod_len (p : List UInt8 → Bool) (l : List UInt8) : (codL p l).length ≤ 3 * l.length := by
  induction l with
  | nil => simp [codL]
  | cons c t ih =>
    have e : (if p (c :: t) = true then [c] else 37 :: hexL c.toNat 2).length ≤ 3 := by split <;> simp [hexL_length]
    show ((if p (c :: t) = true then [c] else 37 :: hexL c.toNat 2) ++ codL p t).length ≤ _
    rw [List.length_append, List.length_cons]
    omega
theorem enc_cons (c : UInt8) (t : List UInt8) : encL (c :: t) = (if unr c = true then [c] else 37 :: hexL c.toNat 2) ++ encL t := rfl
theorem enc_append (a b : List UInt8) : encL (a ++ b) = encL a ++ encL b := by
  induction a with
  | nil => rfl
  | cons c t ih => rw [List.cons_append, enc_cons, enc_cons, ih, List.append_assoc]
theorem enc_len' (l : List UInt8) : (encL l).length ≤ 3 * l.length := cod_len _ l
/-- There and back. -/
theorem tell_enc (l : List UInt8) : tellL (encL l) = (l, (encL l).length) := by
  induction l with
  | nil => rfl
  | cons c t ih =>
    rw [enc_cons]
    by_cases hu : unr c = true
    · rw [if_pos hu]
      have hc : c ≠ 37 := by rintro rfl; exact absurd hu (by decide)
      show tellL (c :: encL t) = (c :: t, (c :: encL t).length)
      rw [tell_other c _ hc, ih, List.length_cons, Nat.add_comm]
    · rw [if_neg hu, hexL2]
      have h := hex_two c
      show tellL (37 :: _ :: _ :: encL t) = (c :: t, (37 :: _ :: _ :: encL t).length)
      rw [tell_two _ _ _ h.1, h.2, ih]
      simp only [List.length_cons]
      rw [Prod.mk.injEq]
      exact ⟨rfl, by omega⟩

/-! ### Normal -/
inductive Norm : List UInt8 → Prop
  | nil : Norm []
  | cons (c : UInt8) (t : List UInt8) : c ≠ 37 → (unr c = true ∨ res c = true) → Norm t → Norm (c :: t)
  | sign (a b : UInt8) (t : List UInt8) : two a b = true → Norm t → Norm (37 :: a :: b :: t)

theorem nor_cons (c : UInt8) (t : List UInt8) : norL (c :: t) = (if norP (c :: t) = true then [c] else 37 :: hexL c.toNat 2) ++ norL t := rfl
theorem norP_stay (c : UInt8) (t : List UInt8) (h : unr c = true ∨ res c = true) : norP (c :: t) = true := by
  unfold norP
  show (unr c || res c || _) = true
  rcases h with h | h <;> rw [h] <;> simp
theorem norP_else (c : UInt8) (t : List UInt8) (h1 : unr c = false) (h2 : res c = false) (h3 : (headL (c :: t)).2 ≠ 3) : norP (c :: t) = false := by
  unfold norP
  show (unr c || res c || _) = false
  rw [h1, h2]; simpa using h3
theorem norP_sign (t : List UInt8) (h : (headL (37 :: t)).2 = 3) : norP (37 :: t) = true := by
  unfold norP
  rw [h]; simp
theorem norm_hex (c : UInt8) (t : List UInt8) (h : Norm t) : Norm ((37 :: hexL c.toNat 2) ++ t) := by
  rw [hexL2]
  exact .sign _ _ t (hex_two c).1 h
theorem nor_two (a b : UInt8) (t : List UInt8) (h : two a b = true) : norL (37 :: a :: b :: t) = 37 :: a :: b :: norL t := by
  have hd := digit_unr a b h
  rw [nor_cons, if_pos (norP_sign _ (by rw [head_two a b t h])), nor_cons, if_pos (norP_stay a _ (.inl hd.1)), nor_cons, if_pos (norP_stay b _ (.inl hd.2))]
  rfl
theorem norm_nor (n : Nat) : ∀ l : List UInt8, l.length ≤ n → Norm (norL l) := by
  induction n with
  | zero =>
    intro l h
    have : l = [] := List.eq_nil_of_length_eq_zero (by omega)
    subst this; exact .nil
  | succ n ih =>
    intro l h
    match l, h with
    | [], _ => exact .nil
    | c :: t, h =>
      have ht := ih t (by simpa using h)
      by_cases hc : c = 37
      · subst hc
        by_cases h3 : (headL (37 :: t)).2 = 3
        · match t, h, h3 with
          | [], _, h3 => exact absurd h3 (by decide)
          | [_], _, h3 => rw [head_short _ (by simp)] at h3; exact absurd h3 (by decide)
          | a :: b :: t, h, h3 =>
            cases h2 : two a b with
            | false => rw [head_bad a b t h2] at h3; exact absurd h3 (by decide)
            | true =>
              rw [nor_two a b t h2]
              exact .sign a b _ h2 (ih t (by simp at h; omega))
        · rw [nor_cons, norP_else 37 t sign_not.1 sign_not.2 h3]
          exact norm_hex 37 _ ht
      · by_cases hs : unr c = true ∨ res c = true
        · rw [nor_cons, if_pos (norP_stay c t hs)]
          exact .cons c _ hc hs ht
        · have h1 : unr c = false := by cases hu : unr c <;> simp_all
          have h2 : res c = false := by cases hu : res c <;> simp_all
          rw [nor_cons, norP_else c t h1 h2 (by rw [head_other c t hc]; simp)]
          exact norm_hex c _ ht
theorem norm_all {m : List UInt8} (h : Norm m) : ∀ c ∈ m, c = 37 ∨ unr c = true ∨ res c = true := by
  induction h with
  | nil => intro c hc; cases hc
  | cons c t hc hs _ ih =>
    intro d hd
    rcases List.mem_cons.1 hd with rfl | hd
    · exact .inr hs
    · exact ih d hd
  | sign a b t h2 _ ih =>
    have hu := digit_unr a b h2
    intro d hd
    rcases List.mem_cons.1 hd with rfl | hd
    · exact .inl rfl
    · rcases List.mem_cons.1 hd with rfl | hd
      · exact .inr (.inl hu.1)
      · rcases List.mem_cons.1 hd with rfl | hd
        · exact .inr (.inl hu.2)
        · exact ih d hd
theorem norm_tell {m : List UInt8} (h : Norm m) : (tellL m).2 = m.length := by
  induction h with
  | nil => rfl
  | cons c t hc hs _ ih => rw [tell_other c t hc, List.length_cons, ← ih, Nat.add_comm]
  | sign a b t h2 _ ih => rw [tell_two a b t h2]; simp only [List.length_cons]; omega
theorem norm_own {m : List UInt8} (h : Norm m) : norL m = m := by
  induction h with
  | nil => rfl
  | cons c t hc hs _ ih => rw [nor_cons, if_pos (norP_stay c t hs), ih]; rfl
  | sign a b t h2 _ ih => rw [nor_two a b t h2, ih]

/-! ### Repaired -/
theorem enc_small (c : UInt8) (h : c.toNat < 128) : encodeRune (c.toNat : Int) = [c] := by
  have h1 : ∀ c : Fin 128, encodeRune (c.val : Int) = [c.val.toUInt8] := by decide +kernel
  have h2 := h1 ⟨c.toNat, h⟩
  rw [show ((⟨c.toNat, h⟩ : Fin 128).val) = c.toNat from rfl] at h2
  rw [h2]
  simp
theorem rep_step (c : Int) (t : List UInt8) (h : isChar c) : rep (encodeRune c ++ t) = encodeRune (fix c) ++ rep t := by
  unfold rep chars encs
  rw [parts_enc1 c h t, List.map_cons, List.flatMap_cons]
theorem rep_small (l : List UInt8) (h : ∀ c ∈ l, c.toNat < 128 ∧ c.toNat ≠ 0) : rep l = l := by
  induction l with
  | nil => rfl
  | cons c t ih =>
    have hc := h c (by simp)
    have hch : isChar (c.toNat : Int) := .inl (by omega)
    have e := rep_step (c.toNat : Int) t hch
    rw [fix_id hch (by omega), enc_small c hc.1, ih (fun d hd => h d (by simp [hd]))] at e
    exact e
/-- A text that is valid, and another one behind it. -/
theorem rep_append (a b : List UInt8) (h : valid a = true) : rep (a ++ b) = rep a ++ rep b := by
  induction a using parts_ind with
  | h0 => rfl
  | hbad x t hd ih =>
    unfold valid at h
    rw [parts_bad x t hd] at h
    simp at h
  | hc c t hc ih =>
    have hv : valid t = true := by
      unfold valid at h ⊢
      rw [parts_enc1 c hc t, List.all_cons] at h
      exact (Bool.and_eq_true_iff.1 h).2
    rw [List.append_assoc, rep_step c _ hc, rep_step c _ hc, ih hv, List.append_assoc]
end Go.Proofs.YtbpccbdgkkfdpaaDoor.Pct

/-
  The builder as percent's functions fill it: an octet, a text, what it holds.
-/
namespace Go.Proofs.YtbpccbdgkkfdpaaDoor.Pct
open Go.RowKit Go.Proofs.YtbpccbdgkkfdpaaDoor.Oct Go.Proofs.YtbpccbdgkkfdpaaDoor.Build

theorem enter_byte : ∀ args w, (callFunc 46 args).run Tryd.prog w = .ok (.enter 46 args) w := enters_of Tryd.func46 (by kernel_rfl) rfl
theorem enter_write : ∀ args w, (callFunc 33 args).run Tryd.prog w = .ok (.enter 33 args) w := enters_of Tryd.func33 (by kernel_rfl) rfl
theorem enter_string : ∀ args w, (callFunc 34 args).run Tryd.prog w = .ok (.enter 34 args) w := enters_of Tryd.func34 (by kernel_rfl) rfl

/-- The builder in block b holds these octets. -/
abbrev Has (B b : Nat) (l : List UInt8) (w : World) : Prop := Is B b (Lib.byteCells l) w
theorem has_below {B b : Nat} {l : List UInt8} {W W' : World} (h : Has B b l W) (hb : Below W.heap.size W W') : Has B b l W' := by
  have one : ∀ p, Lib.BuilderAt 60 5 B b p (Lib.byteCells l) W → Lib.BuilderAt 60 5 B b p (Lib.byteCells l) W' := fun p h => by
    have hlt := h.lt
    obtain ⟨h1, v, h2, h3, h4⟩ := h
    refine ⟨h1, v, by rw [hb.block b hlt]; exact h2, ?_, h4⟩
    refine h3.kept (row := none) ⟨hb.os, hb.tape, hb.output, hb.size, fun k hk _ => hb.block k hk⟩ ?_
    rcases h3.2 with ⟨rfl, _⟩ | ⟨g, cap, cur, rfl, _⟩
    · exact .inl rfl
    · exact .inr (by simp [Value.ownBlock])
  rcases h with h | h
  · exact .inl (one _ h)
  · exact .inr (one _ h)
theorem has_lt {B b : Nat} {l : List UInt8} {W : World} (h : Has B b l W) : B ≤ b ∧ b < W.heap.size := by
  rcases h with h | h
  · exact ⟨h.1, h.lt⟩
  · exact ⟨h.1, h.lt⟩
theorem has_fresh (w : World) : Has w.heap.size w.heap.size [] (w.alloc (.cells #[.pointer none, .slice none 0 0] 60)) :=
  .inl ⟨Nat.le_refl _, .slice none 0 0, heap_alloc_new w _, ⟨rfl, .inl ⟨rfl, rfl⟩⟩, by simp [Value.ownBlock]⟩
theorem put_c (B b : Nat) (l t : List UInt8) (w : World) (h : Has B b l w) (hlen : l.length + t.length ≤ 140737488355328) :
    Calls Tryd.prog 33 #[.pointer (some ⟨b, 0, none⟩), .string (S t)] w fun e w' => e = .returned (.tuple #[.int .i64 (S t).size, .nilIface]) ∧ Has B b (l ++ t) w' ∧ Below B w w' := by
  have hb := has_lt h
  have hc := write_c B b (Lib.byteCells l) (S t) w h (by rw [Lib.byteCells_length, size_S]; exact hlen) (by omega)
  rw [Lib.strCells_eq, ← Lib.byteCells_append, list_S] at hc
  exact hc.mono fun e w' ⟨h1, h2, h3, _⟩ => ⟨h1, h2, h3⟩
set_option maxHeartbeats 2000000 in
set_option maxRecDepth 100000 in
theorem bytes_c (B b : Nat) (l : List Value) (c : Int) (w : World) (h : Is B b l w) (hlen : l.length + 1 ≤ 140737488355328) (hBw : B ≤ w.heap.size) :
    Calls Tryd.prog 46 #[.pointer (some ⟨b, 0, none⟩), .int .u8 c] w fun e w' => e = .returned .nilIface ∧ Is B b (l ++ [.int .u8 c]) w' ∧ Below B w w' := by
  obtain ⟨i0, hi, hz0, hz1, hz2⟩ := info_parts info_o
  have e42 : ∀ args w, (callFunc 55 args).run Tryd.prog w = .ok (.enter 55 args) w := enters_of Tryd.func55 (by kernel_rfl) rfl
  go_enter Tryd.func46, Tryd.ntmps46
  go_wp2_with (go_at_fn 55; refine (check_c B b l _ h).mono ?_)
  rintro e w1 ⟨rfl, h1, hb1, _⟩
  obtain ⟨hB, v, hbk, hown, hne⟩ := h1
  have c0 : w1.cell? ⟨b, 0, none⟩ = some (.pointer (some ⟨b, 0, none⟩)) := by rw [Lib.cell_of_heap hbk]; rfl
  have c1 : w1.cell? ⟨b, 1, none⟩ = some v := by rw [Lib.cell_of_heap hbk]; rfl
  go_wp2_with (at_builtin; refine wpList_append_own _ rfl _ _ 54 rfl B 5 i0 (.int .u8 0) 1 1 Tryd.underlying54 hi hz0 hz1 hz2 rfl (by decide) _ _ _ rfl (hown.alloc _) ⟨w1.heap.size, 0, none⟩ 1 1 [.int .u8 c] rfl rfl ?c1 ?c2 ?c3 ?c4 ?c5 ?_)
  case c1 =>
    intro j u hj
    match j, hj with
    | 0, hj => simp at hj; subst hj; simp [Addr.add]
  case c2 => intro u hu; simp at hu; subst hu; rfl
  case c3 => unfold maxLen; omega
  case c4 => omega
  case c5 => have := hb1.size; simp; omega
  intro v' w2 hown' hgrow _
  have hlt : b < w1.heap.size := (Array.getElem?_eq_some_iff.1 hbk).1
  have hb2 : w2.heap[b]? = some (.cells #[.pointer (some ⟨b, 0, none⟩), v] 60 (0, 0)) := by
    rw [hgrow.block b (by simp; omega) (fun e => hne e.symm), Lib.alloc_old w1 _ b hlt]
    exact hbk
  have d0 : w2.cell? ⟨b, 0, none⟩ = some (.pointer (some ⟨b, 0, none⟩)) := by rw [Lib.cell_of_heap hb2]; rfl
  have d1 : w2.cell? ⟨b, 1, none⟩ = some v := by rw [Lib.cell_of_heap hb2]; rfl
  have f1 : w2.frozen? ⟨b, 1, none⟩ = false := Lib.frozen_of_heap hb2 1
  obtain ⟨g, cap, rfl⟩ : ∃ g cap, v' = .slice (some ⟨g, 0, none⟩) (l.length + 1) cap := by
    rcases hown'.2 with ⟨_, h0⟩ | ⟨g, cap, cur, hv, _⟩
    · omega
    · exact ⟨g, cap, hv⟩
  go_wp2
  go_ret
  refine ⟨rfl, ?_, ?_⟩
  · exact .inr (Lib.BuilderAt.put (T := 60) (e := 5) hB hb2 (bs' := l ++ [.int .u8 c]) (by simpa using hown') (by decide))
  · exact ((hb1.alloc (by have := hb1.size; omega) _).grown hgrow (by have := hb1.size; simp; omega) (fun k hk => (hown.lt k hk).1)).setCell (p := ⟨b, 1, none⟩) hB _
theorem byte_c (B b : Nat) (l : List UInt8) (c : UInt8) (w : World) (h : Has B b l w) (hlen : l.length + 1 ≤ 140737488355328) :
    Calls Tryd.prog 46 #[.pointer (some ⟨b, 0, none⟩), .int .u8 (c.toNat : Int)] w fun e w' => e = .returned .nilIface ∧ Has B b (l ++ [c]) w' ∧ Below B w w' := by
  have hb := has_lt h
  have hc := bytes_c B b (Lib.byteCells l) (c.toNat : Int) w h (by rw [Lib.byteCells_length]; exact hlen) (by omega)
  refine hc.mono fun e w' ⟨h1, h2, h3⟩ => ⟨h1, ?_, h3⟩
  unfold Has
  rw [Lib.byteCells_append]
  exact h2
theorem hex2_c (c : UInt8) (w : World) :
    Calls Tryd.prog 52 #[.int .i64 (c.toNat : Int), .int .i64 2] w fun e w' => e = .returned (.string (S (hexL c.toNat 2))) ∧ Below w.heap.size w w' := by
  have h := hex_c (c.toNat : Int) 2 w
  have e1 : u64 (c.toNat : Int) = c.toNat := by have := c.toNat_lt; unfold u64; omega
  have e2 : clamp 2 = 2 := by decide
  rw [e1, e2] at h
  exact h
end Go.Proofs.YtbpccbdgkkfdpaaDoor.Pct

/-
  Contract of octets.Unhex: the number whose digits of base 16 a text is.
-/
namespace Go.Proofs.YtbpccbdgkkfdpaaDoor.Oct
open Go.RowKit

def hexC (c : UInt8) : Int := hexI (c.toNat : Int)
def valL (l : List UInt8) : Nat := l.foldl (fun n c => n * 16 + (hexC c).toNat) 0
/-- The number, and the error's. -/
def unhexL (l : List UInt8) : Nat × Nat :=
  if l = [] then (0, 8) else if 8 < l.length then (0, 5) else if l.all (fun c => decide (0 ≤ hexC c)) then (valL l, 0) else (0, 33)

theorem hexC_le (c : UInt8) : hexC c ≤ 15 := (hexI_range _).2
theorem valL_snoc (l : List UInt8) (c : UInt8) : valL (l ++ [c]) = valL l * 16 + (hexC c).toNat := by simp [valL]
theorem valL_lt (l : List UInt8) : valL l < 16 ^ l.length := by
  have gen : ∀ (l : List UInt8) (a e : Nat), a < 16 ^ e → l.foldl (fun n c => n * 16 + (hexC c).toNat) a < 16 ^ (e + l.length) := by
    intro l
    induction l with
    | nil => intro a e h; simpa using h
    | cons c l ih =>
      intro a e h
      have hc := hexC_le c
      have := ih (a * 16 + (hexC c).toNat) (e + 1) (by rw [Nat.pow_succ]; omega)
      rw [List.foldl_cons, List.length_cons, show e + (l.length + 1) = e + 1 + l.length by omega]
      exact this
  have := gen l 0 0 (by simp)
  simpa [valL] using this
theorem valL_le (l : List UInt8) (k : Nat) (h : k ≤ 7) : valL (l.take k) < 268435456 := by
  have h1 := valL_lt (l.take k)
  have h2 : (l.take k).length ≤ 7 := by rw [List.length_take]; omega
  have h3 : 16 ^ (l.take k).length ≤ 16 ^ 7 := Nat.pow_le_pow_right (by omega) h2
  omega
theorem take_at (s : ByteArray) (k : Nat) (h : k < s.size) : s.data.toList.take (k + 1) = s.data.toList.take k ++ [s[k]] := by
  rw [List.take_succ_eq_append_getElem (by rw [size_list]; exact h)]; rfl

theorem unhex_none (s : ByteArray) : (firstOf (fun k => decide (hexC (at' s k) < 0)) 0 s.size == s.size) = s.data.toList.all (fun c => decide (0 ≤ hexC c)) := by
  rw [firstOf_all, ← all_at]
  congr 1
  funext k
  rw [Bool.eq_iff_iff]; simp

theorem or_digit (x : Int) (y : Int) (h0 : 0 ≤ x) (h1 : x ≤ 268435456) (h2 : 0 ≤ y) (h3 : y ≤ 15) : bits .or .i64 (x * 16) y = x * 16 + y := by
  exact bits_join .i64 62 (by decide) (fun n h0 h1 => by rw [IntKind.wrap_i64]; omega) 4 (x * 16) y (by omega) (by omega) (by omega) h2 (by omega) (by omega)

theorem enter_unhex : ∀ args w, (callFunc 92 args).run Tryd.prog w = .ok (.enter 92 args) w := enters_of Tryd.func92 (by kernel_rfl) rfl

theorem unhex1_c (s : ByteArray) (k b : Nat) (w : World) (hk : k < s.size) (hc : w.cell? ⟨b, 0, none⟩ = some (.string s)) :
    Calls Tryd.prog 92 #[.int .i64 (k : Int), .pointer (some ⟨b, 0, none⟩)] w fun e w' => e = .returned (.bool (decide (hexC (at' s k) < 0))) ∧ w = w' := by
  have hb : (s[k].toNat : Int) ≤ 255 := by have := s[k].toNat_lt; omega
  have E : Hid ((at' s k) = s[k]) := (at_eq s k hk).symm
  go_enter Tryd.func92, Tryd.ntmps92
  go_wp2_with (go_at_call 93; refine (digitValue_c _ _ (by omega) (by omega)).mono ?_; rintro e w' ⟨rfl, rfl⟩)
  go_ret
  exact ⟨ret_bool (by rw [E.out]; rfl), rfl⟩

theorem unhex_c (s : ByteArray) (w : World) :
    Calls Tryd.prog 80 #[.string s] w fun e w' => e = .returned (.tuple #[.int .i64 ((unhexL s.data.toList).1 : Int), .int .i64 ((unhexL s.data.toList).2 : Int)]) ∧ Below w.heap.size w w' := by
  by_cases h0 : s.size = 0
  · have hs : s = ⟨#[]⟩ := by
      apply ByteArray.ext
      exact Array.eq_empty_of_size_eq_zero h0
    subst hs
    go_enter Tryd.func80, Tryd.ntmps80
    go_wp2
    go_ret2
    exact ⟨rfl, (Below.refl _ w).alloc (Nat.le_refl _) _⟩
  · have hne : s.data.toList ≠ [] := by intro h; apply h0; rw [← size_list, h]; rfl
    have he : s.data.toList.isEmpty = false := by rw [List.isEmpty_eq_false_iff]; exact hne
    have he' : s.toList.isEmpty = false := by rw [ByteArray.toList_eq]; exact he
    by_cases h8 : 8 < s.size
    · have F : Hid (unhexL s.data.toList = (0, 5)) := by
        show _ = _
        unfold unhexL
        rw [if_neg hne, if_pos (by rw [size_list]; exact h8)]
      clear hne
      go_enter Tryd.func80, Tryd.ntmps80
      go_wp2
      go_ret2
      exact ⟨by rw [F.out]; rfl, (Below.refl _ w).alloc (Nat.le_refl _) _⟩
    · have hlen : s.size ≤ 8 := by omega
      have hn := none_c s.size 92 #[.pointer (some ⟨w.heap.size, 0, none⟩)] (fun k => decide (hexC (at' s k) < 0)) (w.alloc (.cells #[.string s] 9)) (by omega) enter_unhex
        (fun k W hk hb => (unhex1_c s k w.heap.size W hk (by rw [hb.cell (by simp)]; simp)).mono fun _ _ ⟨he, hw⟩ => ⟨he, hw ▸ hb⟩)
      rw [unhex_none] at hn
      cases hall : s.data.toList.all (fun c => decide (0 ≤ hexC c)) with
      | false =>
        have F : Hid (unhexL s.data.toList = (0, 33)) := by
          show _ = _
          unfold unhexL
          rw [if_neg hne, if_neg (by rw [size_list]; exact h8), hall]
          rfl
        rw [hall] at hn
        clear hall hne h8 h0
        go_enter Tryd.func80, Tryd.ntmps80
        go_wp2_with (go_at_call 91; refine hn.mono ?_; rintro e w' ⟨rfl, hb⟩)
        go_ret2
        exact ⟨by rw [F.out]; rfl, ((Below.refl _ w).alloc (Nat.le_refl _) _).trans (hb.mono (by simp))⟩
      | true =>
        have F : Hid (unhexL s.data.toList = (valL s.data.toList, 0)) := by
          show _ = _
          unfold unhexL
          rw [if_neg hne, if_neg (by rw [size_list]; exact h8), hall]
          rfl
        rw [hall] at hn
        have HA := Lib.hid hall
        clear hall hne h8 h0
        go_enter Tryd.func80, Tryd.ntmps80
        go_wp2_with (go_at_call 91; refine hn.mono ?_; rintro e w1 ⟨rfl, hb⟩; have hc1 : w1.cell? ⟨w.heap.size, 0, none⟩ = some (.string s) := by (rw [hb.cell (by simp)]; simp))
        have hbw : Hid (Below w.heap.size w w1) := ((Below.refl _ w).alloc (Nat.le_refl _) _).trans (hb.mono (by simp))
        clear hn hb
        go_loop [4, 5, 21] (fun n _ i => ∃ k : Nat, k ≤ s.size ∧ i = .int .i64 k ∧ n = .int .i64 (valL (s.data.toList.take k) : Nat)) (fun _ _ i => s.size - (intOf i).toNat)
        case atStart => exact ⟨0, Nat.zero_le _, rfl, rfl⟩
        case round =>
          obtain ⟨k, hk, rfl, rfl⟩ := hrel
          by_cases hlt : k < s.size
          · have hv := valL_le s.data.toList k (by omega)
            have hb1 : (s[k].toNat : Int) ≤ 255 := by have := s[k].toNat_lt; omega
            have HV : Hid (valL (s.data.toList.take (k + 1)) = valL (s.data.toList.take k) * 16 + (hexC s[k]).toNat) := by show _ = _; rw [take_at s k hlt, valL_snoc]
            have hd := (hexI_range (s[k].toNat : Int)).2
            have hd0 : 0 ≤ hexI (s[k].toNat : Int) := by
              have := List.all_eq_true.1 HA.out s[k] (by rw [ByteArray.getElem_eq_getElem_data]; simp)
              exact of_decide_eq_true this
            have ho := or_digit (valL (s.data.toList.take k) : Nat) (hexI (s[k].toNat : Int)) (by omega) (by omega) hd0 hd
            generalize valL (s.data.toList.take k) = v at hv HV ho
            go_wp2_with (go_at_call 93; refine (digitValue_c _ _ (by omega) (by omega)).mono ?_; rintro e w' ⟨rfl, rfl⟩)
            go_round
            case rel =>
              refine ⟨k + 1, by omega, by go_num, ?_⟩
              rw [HV.out]
              congr 1
              unfold hexC
              omega
            case measure => simp [intOf]; omega
          · go_wp2
            go_ret2
            have hke : s.data.toList.take k = s.data.toList := List.take_of_length_le (by rw [size_list]; omega)
            exact ⟨by rw [F.out, hke]; rfl, hbw.out⟩

end Go.Proofs.YtbpccbdgkkfdpaaDoor.Oct
