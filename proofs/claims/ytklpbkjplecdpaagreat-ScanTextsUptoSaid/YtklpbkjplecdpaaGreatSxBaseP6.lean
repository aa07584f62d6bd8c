/-
  Part 6: OctMade, OctTexts, OctNames, OctLists, ScnGo.
-/
import Derived.Test.YtklpbkjplecdpaaGreatSxBaseP5
import Derived.Laws.IdiomStrings
import Derived.Lib.Bytealg
import Derived.Deep.QuietTactic
import Derived.BigQuiet
/-
  Contract of octets.made, at whatever function value that is handed in: the text of the octets that it tells of the places.
-/
namespace Go.Proofs.YtklpbkjplecdpaaGreat.Oct
open Go.RowKit

theorem info_u8 : (Tryz.prog.info? 5).map (fun i => (i.zero, i.size, i.bytes)) = some (some (.int .u8 0), 1, 1) := by kernel_rfl

def Makes (g : Nat) (lb : Array Value) (f : Nat → UInt8) (n : Nat) (w : World) : Prop :=
  ∀ (k : Nat) (W : World), k < n → Below w.heap.size w W → Calls Tryz.prog g (#[.int .i64 (k : Int)] ++ lb) W fun e w' => e = .returned (.int .u8 ((f k).toNat : Int)) ∧ W = w'

def madeAt (f : Nat → UInt8) (n k : Nat) : List Value := (List.range k).map (fun j => Value.int .u8 ((f j).toNat : Int)) ++ List.replicate (n - k) (Value.int .u8 0)

theorem madeAt_zero (f : Nat → UInt8) (n : Nat) : madeAt f n 0 = List.replicate n (Value.int .u8 0) := by simp [madeAt]
theorem madeAt_succ (f : Nat → UInt8) (n k : Nat) (h : k < n) : (madeAt f n k).set k (Value.int .u8 ((f k).toNat : Int)) = madeAt f n (k + 1) := by
  unfold madeAt
  have e : n - k = (n - (k + 1)) + 1 := by omega
  rw [e, List.replicate_succ, List.set_append_right _ _ (by simp)]
  simp [List.range_succ]
theorem madeAt_at (f : Nat → UInt8) (n k : Nat) (h : k < n) : (madeAt f n k)[k]? = some (Value.int .u8 0) := by
  unfold madeAt
  rw [List.getElem?_append_right (by simp), List.length_map, List.length_range, Nat.sub_self, List.getElem?_replicate, if_pos (by omega)]
theorem madeAt_full (f : Nat → UInt8) (n j : Nat) (h : j < n) : (madeAt f n n)[j]? = some (Value.int .u8 ((f j).toNat : Int)) := by
  simp [madeAt, h]

set_option maxHeartbeats 1000000 in
theorem made_c (n : Nat) (g : Nat) (lb : Array Value) (f : Nat → UInt8) (w : World) (hn : n ≤ 281474976710656)
    (eg : ∀ args w, (callFunc g args).run Tryz.prog w = .ok (.enter g args) w) (hf : Makes g lb f n w) :
    Calls Tryz.prog 110 #[.int .i64 (n : Int), .func (.func g) #[] lb] w fun e w' => e = .returned (.string (S ((List.range n).map f))) ∧ Below w.heap.size w w' := by
  obtain ⟨i0, hi, hz0, hz1, hz2⟩ := info_parts info_u8
  go_enter Tryz.func110, Tryz.ntmps110
  go_wp2_with (at_make; refine wpList_make_full _ rfl _ _ 49 rfl w.heap.size 5 i0 (.int .u8 0) 1 Tryz.underlying49 hi hz0 hz1 .i64 .i64 (n : Int) (n : Int) n rfl rfl rfl rfl (by rw [hz2]; omega) (by unfold maxLen; omega) (Nat.le_refl _) ?_; intro w1 hown hgrow)
  go_loopw [6, 11] (fun _ i wr => ∃ k : Nat, k ≤ n ∧ i = .int .i64 k ∧ Hid (wr.ownsRow w.heap.size 5 1 (.slice (some ⟨w.heap.size, 0, none⟩) n n) n (madeAt f n k)) ∧ Hid (Below w.heap.size w wr)) (fun _ i _ => n - (intOf i).toNat)
  case atStart =>
    refine ⟨0, Nat.zero_le _, rfl, ?_, ?_⟩
    · rw [madeAt_zero, ← toList_madeCells_one]
      have h : w1.ownsRow w.heap.size 5 1 (.slice (some ⟨w.heap.size, 0, none⟩) n n) n (madeCells #[Value.int .u8 0] n).toList := by simpa [Value.cells] using hown
      exact h
    · exact (Below.refl _ w).grown hgrow (Nat.le_refl _) (fun k hk => by cases hk)
  case round =>
    obtain ⟨k, hk, rfl, hrow, hbel⟩ := hrel
    clear hown hgrow
    by_cases hlt : k < n
    · have hcall := hf k wr hlt hbel.out
      have hc : wr.cell? ⟨w.heap.size, k, none⟩ = (madeAt f n k)[k]? := hrow.out.cellAt k (by omega)
      have hfz : wr.frozen? ⟨w.heap.size, k, none⟩ = false := hrow.out.frozenAt k
      have hcv : (madeAt f n k)[k]? = some (.int .u8 0) := madeAt_at f n k hlt
      rw [hcv] at hc
      clear hcv
      go_wp2_with (go_at_fn g; refine hcall.mono ?_; rintro e w' ⟨rfl, rfl⟩)
      go_roundw
      case rel =>
        have st := hrow.out.stored k (Value.int .u8 ((f k).toNat : Int))
        exact ⟨k + 1, by omega, by go_num, by rw [← madeAt_succ f n k hlt]; exact st.1, hbel.out.setCell (by simp) _⟩
      case measure => simp [intOf]; omega
    · have hkn : k = n := by omega
      subst hkn
      have hcv : ((convert 49 9 (.slice (some ⟨w.heap.size, 0, none⟩) k k)).run Tryz.prog wr) = .ok (.string (S ((List.range k).map f))) wr := by
        have h := run_convert_bytes_back (P := Tryz.prog) wr 49 9 5 ⟨w.heap.size, 0, none⟩ k ((List.range k).map f) Tryz.underlying49 Tryz.underlying5 Tryz.underlying9 (fun j hj => by
          have hj' : j < k := by simpa using hj
          have h1 := hrow.out.cellAt j (by omega)
          rw [madeAt_full f k j hj'] at h1
          rw [Addr.add_lit, Nat.zero_add]
          simpa using h1)
        simpa using h
      go_wp2
      go_ret
      exact ⟨rfl, hbel.out⟩

end Go.Proofs.YtklpbkjplecdpaaGreat.Oct

/-
  Contracts of octets.none, digitValue, Lower, Upper, Name, Starts, Trim.
-/
namespace Go.Proofs.YtklpbkjplecdpaaGreat.Oct
open Go.RowKit

theorem none_c (n : Nat) (g : Nat) (lb : Array Value) (p : Nat → Bool) (w : World) (hn : n ≤ 9223372036854775807)
    (eg : ∀ args w, (callFunc g args).run Tryz.prog w = .ok (.enter g args) w) (hp : Wants g lb p n w) :
    Calls Tryz.prog 106 #[.int .i64 (n : Int), .func (.func g) #[] lb] w fun e w' => e = .returned (.bool (firstOf p 0 n == n)) ∧ Below w.heap.size w w' := by
  have hle := firstOf_le p 0 n
  go_enter Tryz.func106, Tryz.ntmps106
  go_wp2_with (go_at_call 127; refine (first_c n g lb p _ hn eg hp).mono ?_; rintro e w' ⟨rfl, hb'⟩)
  go_ret
  refine ⟨ret_bool ?_, hb'⟩
  rw [Bool.eq_iff_iff]; simp; omega

theorem digit_table : ∀ k : Fin 256, Lib.indexByte [48, 49, 50, 51, 52, 53, 54, 55, 56, 57, 97, 98, 99, 100, 101, 102] (lowI (k.val : Int)).toNat.toUInt8 = hexI (k.val : Int) := by decide +kernel

theorem digitValue_c (n : Int) (w : World) (h0 : 0 ≤ n) (h1 : n ≤ 255) :
    Calls Tryz.prog 156 #[.int .u8 n] w fun e w' => e = .returned (.int .i64 (hexI n)) ∧ w = w' := by
  have T : Lib.indexByte [48, 49, 50, 51, 52, 53, 54, 55, 56, 57, 97, 98, 99, 100, 101, 102] (lowI n).toNat.toUInt8 = hexI n := by
    have := digit_table ⟨n.toNat, by omega⟩
    rwa [show ((⟨n.toNat, by omega⟩ : Fin 256).val : Int) = n from Int.toNat_of_nonneg h0] at this
  have HT := Lib.hid T
  clear T
  go_enter Tryz.func156, Tryz.ntmps156
  go_wp2_with (first
    | (go_at_call 108; refine (small_c n _ h0 h1).mono ?_; rintro e w' ⟨rfl, rfl⟩)
    | (go_at_call 175; refine (Tryz.strings_IndexByte _ _ _).mono ?_; rintro e w' ⟨rfl, rfl⟩))
  go_ret
  exact ⟨ret_int HT.out, rfl⟩

theorem enter_lower : ∀ args w, (callFunc 111 args).run Tryz.prog w = .ok (.enter 111 args) w := enters_of Tryz.func111 (by kernel_rfl) rfl
theorem lower1_c (s : ByteArray) (k b : Nat) (w : World) (hk : k < s.size) (hc : w.cell? ⟨b, 0, none⟩ = some (.string s)) :
    Calls Tryz.prog 111 #[.int .i64 (k : Int), .pointer (some ⟨b, 0, none⟩)] w fun e w' => e = .returned (.int .u8 ((low (at' s k)).toNat : Int)) ∧ w = w' := by
  have hb : (s[k].toNat : Int) ≤ 255 := by have := s[k].toNat_lt; omega
  have E : Hid (((low (at' s k)).toNat : Int) = lowI (s[k].toNat : Int)) := by show _ = _; rw [low_toNat, at_eq s k hk]
  go_enter Tryz.func111, Tryz.ntmps111
  go_wp2_with (go_at_call 108; refine (small_c _ _ (by omega) (by omega)).mono ?_; rintro e w' ⟨rfl, rfl⟩)
  go_ret
  exact ⟨ret_int E.out.symm, rfl⟩

theorem lower_c (s : ByteArray) (w : World) (hs : s.size ≤ 281474976710656) :
    Calls Tryz.prog 89 #[.string s] w fun e w' => e = .returned (.string (S (s.data.toList.map low))) ∧ Below w.heap.size w w' := by
  have hm := made_c s.size 111 #[.pointer (some ⟨w.heap.size, 0, none⟩)] (fun k => low (at' s k)) (w.alloc (.cells #[.string s] 9)) hs enter_lower
    (fun k W hk hb => lower1_c s k w.heap.size W hk (by rw [hb.cell (by simp)]; simp))
  rw [map_at] at hm
  go_enter Tryz.func89, Tryz.ntmps89
  go_wp2_with (go_at_call 110; refine hm.mono ?_; rintro e w' ⟨rfl, hb⟩)
  go_ret
  exact ⟨rfl, ((Below.refl _ w).alloc (Nat.le_refl _) _).trans (hb.mono (by simp))⟩

end Go.Proofs.YtklpbkjplecdpaaGreat.Oct

/-
  Contracts of octets.Name, Starts, Trim, as plain functions of lists of octets.
-/
namespace Go.Proofs.YtklpbkjplecdpaaGreat.Oct
open Go.RowKit

theorem firstOf_all (p : Nat → Bool) (n : Nat) : (firstOf p 0 n == n) = (List.range n).all (fun k => !p k) := by
  rw [Bool.eq_iff_iff, List.all_eq_true]
  simp only [beq_iff_eq, List.mem_range, Bool.not_eq_true']
  constructor
  · intro h k hk
    rcases hq : p k with _ | _
    · rfl
    · exfalso
      have : ∀ (m k' : Nat), k' < m → ∀ a, p (a + k') = true → firstOf p a m < m := by
        intro m
        induction m with
        | zero => intro k' h'; omega
        | succ m ih =>
          intro k' h' a hp
          unfold firstOf
          split
          · omega
          · cases k' with
            | zero => simp_all
            | succ k' => have := ih k' (by omega) (a + 1) (by rw [← hp]; congr 1; omega); omega
      have := this n k hk 0 (by simpa using hq)
      omega
  · intro h
    exact firstOf_miss p 0 n (fun i hi => by simpa using h i hi)

theorem enter_starts : ∀ args w, (callFunc 107 args).run Tryz.prog w = .ok (.enter 107 args) w := enters_of Tryz.func107 (by kernel_rfl) rfl
theorem quiet_same {P : Program} {f : FuncId} {args : Array Value} {w : World} {n : Nat} {v : Value}
    (h : Calls P f args (w.drewN n) fun e w' => e = .returned v ∧ w.drewN n = w') : Calls P f args (w.drewN n) fun e w'' => e = .returned v ∧ ∃ m, w'' = w.drewN m :=
  h.mono fun _ _ ⟨he, hm⟩ => ⟨he, n, hm.symm⟩

theorem starts1_c (s p : ByteArray) (k b b' : Nat) (w : World) (hk : k < s.size) (hk' : k < p.size) (hc : w.cell? ⟨b, 0, none⟩ = some (.string s)) (hc' : w.cell? ⟨b', 0, none⟩ = some (.string p)) :
    Calls Tryz.prog 107 #[.int .i64 (k : Int), .pointer (some ⟨b, 0, none⟩), .pointer (some ⟨b', 0, none⟩)] w fun e w' => e = .returned (.bool (low (at' s k) != low (at' p k))) ∧ ∃ q, w' = w.drewN q := by
  have hb : (s[k].toNat : Int) ≤ 255 := by have := s[k].toNat_lt; omega
  have hb' : (p[k].toNat : Int) ≤ 255 := by have := p[k].toNat_lt; omega
  have E : Hid ((low (at' s k) != low (at' p k)) = (lowI (s[k].toNat : Int) != lowI (p[k].toNat : Int))) := by
    show _ = _
    rw [at_eq s k hk, at_eq p k hk', ← low_toNat, ← low_toNat, Bool.eq_iff_iff]
    simp only [bne_iff_ne, ne_eq, Int.natCast_inj, UInt8.toNat_inj]
  go_enter Tryz.func107, Tryz.ntmps107
  go_wp2
  go_quiet ((go_at_call 108; exact quiet_same (small_c _ _ (by omega) (by omega))))
  go_wp2
  go_ret
  exact ⟨ret_bool E.out.symm, _, rfl⟩

end Go.Proofs.YtklpbkjplecdpaaGreat.Oct

/-
  Plain facts on lists of octets: trimmed texts; texts that begin with others, whatever their letters are.
-/
namespace Go.Proofs.YtklpbkjplecdpaaGreat.Oct
open Go.RowKit

theorem below_drewN {B : Nat} {a w : World} (h : Below B a w) (q : Nat) : Below B a (w.drewN q) := ⟨h.os, h.tape, h.output, h.size, h.block⟩

def startsB (s p : List UInt8) : Bool := decide (p.length ≤ s.length) && ((s.map low).take p.length == p.map low)

theorem starts_none (s p : ByteArray) (h : p.size ≤ s.size) : (firstOf (fun k => low (at' s k) != low (at' p k)) 0 p.size == p.size) = startsB s.data.toList p.data.toList := by
  unfold startsB
  rw [size_list, size_list, decide_eq_true h, Bool.true_and, firstOf_all, Bool.eq_iff_iff, List.all_eq_true, beq_iff_eq]
  simp only [List.mem_range, bne, Bool.not_not, beq_iff_eq]
  have hs := size_list s
  have hp := size_list p
  constructor
  · intro H
    apply List.ext_getElem
    · simp only [List.length_take, List.length_map]; omega
    · intro i h1 h2
      have hi : i < p.size := by simp only [List.length_map] at h2; omega
      have := H i hi
      rw [← at_eq s i (by omega), ← at_eq p i hi] at this
      simp only [List.getElem_take, List.getElem_map, Array.getElem_toList]
      exact this
  · intro H k hk
    have e := congrArg (fun l => l[k]?) H
    simp only [List.getElem?_take_of_lt hk, List.getElem?_map] at e
    rw [List.getElem?_eq_getElem (by omega), List.getElem?_eq_getElem (by omega)] at e
    simp only [Option.map_some, Option.some.injEq, Array.getElem_toList] at e
    rw [← at_eq s k (by omega), ← at_eq p k hk]
    exact e

def bl (c : UInt8) : Bool := blankI (c.toNat : Int)

end Go.Proofs.YtklpbkjplecdpaaGreat.Oct

/-
  Where in HTML a text stands, as the code goes: the plain machine once more, call by call, with its order of errors; what octets make.
-/
namespace Go.Proofs.YtklpbkjplecdpaaGreat.Scn
open Oct Crf Tab Tok

def stepK (k : Nat) (x : Int × List UInt8) (c : UInt8) : Int × List UInt8 := if k = 1 then Usc.stepU x c else if k = 2 then Jsc.stepJ x c else Csc.stepC x c
theorem feedK_cons (k : Nat) (x : Int × List UInt8) (c : UInt8) (t : List UInt8) : feedK k x (c :: t) = feedK k (stepK k x c) t := by
  unfold feedK stepK
  by_cases h1 : k = 1
  · simp only [if_pos h1]; exact Usc.feed_cons x c t
  · by_cases h2 : k = 2
    · simp only [if_neg h1, if_pos h2]; exact Jsc.feed_cons x c t
    · simp only [if_neg h1, if_neg h2]; exact Csc.feed_cons x c t
theorem feedK_nil (k : Nat) (x : Int × List UInt8) : feedK k x [] = x := by
  unfold feedK
  split
  · rfl
  · split <;> rfl
def putK (k : Nat) (s : Sc) (c : UInt8) : Sc := { s with n := (stepK k (s.n, s.w) c).1, w := (stepK k (s.n, s.w) c).2 }
def octK (k : Nat) (s : Sc) (c : UInt8) : Res :=
  if k = 0 ∨ 4 ≤ k then .ok s else if k = 1 ∧ s.n = 4 ∧ (stepK k (s.n, s.w) c).1 = 5 then .error 93 else .ok (putK k s c)
def demS (k : Nat) (s : Sc) : Res := if k = 2 ∧ s.n = 15 then .error 94 else if k = 3 ∧ s.n = 9 then .error 95 else .ok s
def folS (k : Nat) : List UInt8 → Sc → Res
  | [], s => .ok s
  | c :: t, s => andThen (octK k s c) fun u => andThen (demS k u) fun v => folS k t v
theorem then_ok (s : Sc) (f : Sc → Res) : andThen (.ok s) f = f s := rfl
theorem then_err (e : Nat) (f : Sc → Res) : andThen (.error e) f = .error e := rfl
theorem fol_cons (k : Nat) (c : UInt8) (t : List UInt8) (s : Sc) : folS k (c :: t) s = andThen (octK k s c) fun u => andThen (demS k u) fun v => folS k t v := rfl
theorem fol_none {k : Nat} (hk : k = 0 ∨ 4 ≤ k) (l : List UInt8) : ∀ s, folS k l s = .ok s := by
  induction l with
  | nil => intro s; rfl
  | cons c t ih =>
    intro s
    have e : octK k s c = .ok s := by unfold octK; rw [if_pos hk]
    have d : demS k s = .ok s := by
      unfold demS
      rw [if_neg (by omega), if_neg (by omega)]
    rw [fol_cons, e, then_ok, d, then_ok, ih]

theorem five_stay (w : List UInt8) (l : List UInt8) : (feedK 1 (5, w) l).1 = 5 := Usc.stay_five w l
theorem url_four {x : Int × List UInt8} {c : UInt8} (h : x.1 ≠ 4) : (stepK 1 x c).1 ≠ 4 := by
  show (Usc.stepU x c).1 ≠ 4
  unfold Usc.stepU Usc.headU
  repeat' split
  all_goals first | (simp; done) | omega
theorem url_three (w : List UInt8) (l : List UInt8) : (feedK 1 (3, w) l).1 ≠ 5 := by
  have := Usc.stay_three w l
  show (Usc.feedU (3, w) l).1 ≠ 5
  rw [this]; decide
theorem url_two (w : List UInt8) (l : List UInt8) : (feedK 1 (2, w) l).1 ≠ 5 := by
  have := Usc.stay_two w l
  show (Usc.feedU (2, w) l).1 ≠ 5
  rcases this with h | h <;> rw [h] <;> decide
theorem url_step4 (w : List UInt8) (c : UInt8) : (stepK 1 (4, w) c).1 = 2 ∨ (stepK 1 (4, w) c).1 = 3 ∨ (stepK 1 (4, w) c).1 = 4 ∨ (stepK 1 (4, w) c).1 = 5 := by
  show (Usc.stepU (4, w) c).1 = 2 ∨ (Usc.stepU (4, w) c).1 = 3 ∨ (Usc.stepU (4, w) c).1 = 4 ∨ (Usc.stepU (4, w) c).1 = 5
  unfold Usc.stepU
  repeat' split
  all_goals first | (simp; done) | (simp_all; done)
theorem fol_url (l : List UInt8) : ∀ s, folS 1 l s = if s.n = 4 ∧ (feedK 1 (s.n, s.w) l).1 = 5 then .error 93 else .ok { s with n := (feedK 1 (s.n, s.w) l).1, w := (feedK 1 (s.n, s.w) l).2 } := by
  induction l with
  | nil =>
    intro s
    rw [feedK_nil, if_neg (by rintro ⟨h1, h2⟩; have h2 : s.n = 5 := h2; omega)]
    rfl
  | cons c t ih =>
    intro s
    rw [fol_cons, feedK_cons]
    by_cases hb : s.n = 4 ∧ (stepK 1 (s.n, s.w) c).1 = 5
    · have e : octK 1 s c = .error 93 := by unfold octK; rw [if_neg (by omega), if_pos ⟨rfl, hb⟩]
      rw [e, then_err, if_pos]
      refine ⟨hb.1, ?_⟩
      have := hb.2
      generalize stepK 1 (s.n, s.w) c = x at this
      obtain ⟨p, u⟩ := x
      have : p = 5 := this
      subst this
      exact five_stay u t
    · have e : octK 1 s c = .ok (putK 1 s c) := by unfold octK; rw [if_neg (by omega), if_neg (fun h => hb h.2)]
      have d : demS 1 (putK 1 s c) = .ok (putK 1 s c) := by unfold demS; rw [if_neg (by omega), if_neg (by omega)]
      rw [e, then_ok, d, then_ok, ih]
      have hx : ((putK 1 s c).n, (putK 1 s c).w) = stepK 1 (s.n, s.w) c := rfl
      rw [hx]
      have hn : (putK 1 s c).n = (stepK 1 (s.n, s.w) c).1 := rfl
      have key : ((putK 1 s c).n = 4 ∧ (feedK 1 (stepK 1 (s.n, s.w) c) t).1 = 5) ↔ (s.n = 4 ∧ (feedK 1 (stepK 1 (s.n, s.w) c) t).1 = 5) := by
        rw [hn]
        by_cases h4 : s.n = 4
        · rw [h4] at hb ⊢
          have h5 : (stepK 1 (4, s.w) c).1 ≠ 5 := fun h => hb ⟨rfl, h⟩
          have hs := url_step4 s.w c
          generalize stepK 1 (4, s.w) c = x at h5 hs
          obtain ⟨p, u⟩ := x
          have h5 : p ≠ 5 := h5
          have hs : p = 2 ∨ p = 3 ∨ p = 4 ∨ p = 5 := hs
          rcases hs with rfl | rfl | rfl | rfl
          · exact ⟨fun h => absurd (show (2 : Int) = 4 from h.1) (by decide), fun h => absurd h.2 (url_two u t)⟩
          · exact ⟨fun h => absurd (show (3 : Int) = 4 from h.1) (by decide), fun h => absurd h.2 (url_three u t)⟩
          · exact ⟨fun h => ⟨rfl, h.2⟩, fun h => ⟨rfl, h.2⟩⟩
          · exact absurd rfl h5
        · have := url_four (x := (s.n, s.w)) (c := c) h4
          exact ⟨fun h => absurd h.1 this, fun h => absurd h.1 h4⟩
      by_cases hc : s.n = 4 ∧ (feedK 1 (stepK 1 (s.n, s.w) c) t).1 = 5
      · rw [if_pos (key.2 hc), if_pos hc]
      · rw [if_neg (fun h => hc (key.1 h)), if_neg hc]
        rfl
theorem stuck_js (w : List UInt8) (l : List UInt8) : (feedK 2 (15, w) l).1 = 15 := Jsc.stay_lost w l
theorem stuck_css (w : List UInt8) (l : List UInt8) : (feedK 3 (9, w) l).1 = 9 := Csc.stay_lost w l
theorem fol_js (l : List UInt8) : ∀ s, l ≠ [] → folS 2 l s = if (feedK 2 (s.n, s.w) l).1 = 15 then .error 94 else .ok { s with n := (feedK 2 (s.n, s.w) l).1, w := (feedK 2 (s.n, s.w) l).2 } := by
  induction l with
  | nil => intro s h; exact absurd rfl h
  | cons c t ih =>
    intro s _
    have e : octK 2 s c = .ok (putK 2 s c) := by unfold octK; rw [if_neg (by omega), if_neg (by omega)]
    have hn : (putK 2 s c).n = (stepK 2 (s.n, s.w) c).1 := rfl
    rw [fol_cons, e, then_ok, feedK_cons]
    by_cases hb : (stepK 2 (s.n, s.w) c).1 = 15
    · have d : demS 2 (putK 2 s c) = .error 94 := by unfold demS; rw [if_pos ⟨rfl, hn.trans hb⟩]
      rw [d, then_err, if_pos]
      generalize stepK 2 (s.n, s.w) c = x at hb
      obtain ⟨p, u⟩ := x
      have : p = 15 := hb
      subst this
      exact stuck_js u t
    · have d : demS 2 (putK 2 s c) = .ok (putK 2 s c) := by unfold demS; rw [if_neg (fun h => hb h.2), if_neg (by omega)]
      rw [d, then_ok]
      cases t with
      | nil =>
        rw [feedK_nil, if_neg hb]
        rfl
      | cons c2 t2 =>
        rw [ih _ (by simp)]
        rfl
theorem fol_css (l : List UInt8) : ∀ s, l ≠ [] → folS 3 l s = if (feedK 3 (s.n, s.w) l).1 = 9 then .error 95 else .ok { s with n := (feedK 3 (s.n, s.w) l).1, w := (feedK 3 (s.n, s.w) l).2 } := by
  induction l with
  | nil => intro s h; exact absurd rfl h
  | cons c t ih =>
    intro s _
    have e : octK 3 s c = .ok (putK 3 s c) := by unfold octK; rw [if_neg (by omega), if_neg (by omega)]
    have hn : (putK 3 s c).n = (stepK 3 (s.n, s.w) c).1 := rfl
    rw [fol_cons, e, then_ok, feedK_cons]
    by_cases hb : (stepK 3 (s.n, s.w) c).1 = 9
    · have d : demS 3 (putK 3 s c) = .error 95 := by unfold demS; rw [if_neg (by omega), if_pos ⟨rfl, hn.trans hb⟩]
      rw [d, then_err, if_pos]
      generalize stepK 3 (s.n, s.w) c = x at hb
      obtain ⟨p, u⟩ := x
      have : p = 9 := hb
      subst this
      exact stuck_css u t
    · have d : demS 3 (putK 3 s c) = .ok (putK 3 s c) := by unfold demS; rw [if_neg (by omega), if_neg (fun h => hb h.2)]
      rw [d, then_ok]
      cases t with
      | nil =>
        rw [feedK_nil, if_neg hb]
        rfl
      | cons c2 t2 =>
        rw [ih _ (by simp)]
        rfl
def rulN (s : Sc) : Nat := if s.k = 18 then 3 else if s.k = 19 then 2 else attK s
theorem rul_lang {s : Sc} (h : s.k ≠ 8) : langN s = if rulN s < 4 then rulN s else 0 := by
  unfold langN rulN
  by_cases h18 : s.k = 18
  · rw [if_pos h18, if_pos h18, if_pos (by decide)]
  · rw [if_neg h18, if_neg h18]
    by_cases h19 : s.k = 19
    · rw [if_pos h19, if_pos h19, if_pos (by decide)]
    · rw [if_neg h19, if_neg h19]
      by_cases h9 : s.k = 9 ∨ s.k = 10
      · rw [if_pos h9]
      · rw [if_neg h9]
        have e : attK s = 0 := by unfold attK; rw [if_pos (.inl (by omega))]
        rw [e]
        rfl
theorem rul_keeps {s t : Sc} (h : t.k = s.k ∧ t.e = s.e ∧ t.a = s.a) : rulN t = rulN s := by
  unfold rulN attK
  rw [h.1, h.2.1, h.2.2]
theorem lang_le (s : Sc) : langN s ≤ 3 := by
  unfold langN
  repeat' split
  all_goals omega
theorem fol_lang {s : Sc} (l : List UInt8) (hl : l ≠ []) : folS (langN s) l s = subS s l := by
  have h3 := lang_le s
  have : langN s = 0 ∨ langN s = 1 ∨ langN s = 2 ∨ langN s = 3 := by omega
  unfold subS subK
  rcases this with e | e | e | e
  · rw [e, fol_none (.inl rfl), if_pos rfl]
  · rw [e, fol_url]
    by_cases h : s.n = 4 ∧ (feedK 1 (s.n, s.w) l).1 = 5
    · rw [if_pos h, if_neg (show ¬ (1 : Nat) = 0 by decide), if_pos ⟨rfl, h⟩]
    · rw [if_neg h, if_neg (show ¬ (1 : Nat) = 0 by decide), if_neg (fun g => h g.2), if_neg (by omega), if_neg (by omega)]
  · rw [e, fol_js l s hl]
    by_cases h : (feedK 2 (s.n, s.w) l).1 = 15
    · rw [if_pos h, if_neg (show ¬ (2 : Nat) = 0 by decide), if_neg (by omega), if_pos ⟨rfl, h⟩]
    · rw [if_neg h, if_neg (show ¬ (2 : Nat) = 0 by decide), if_neg (by omega), if_neg (fun g => h g.2), if_neg (by omega)]
  · rw [e, fol_css l s hl]
    by_cases h : (feedK 3 (s.n, s.w) l).1 = 9
    · rw [if_pos h, if_neg (show ¬ (3 : Nat) = 0 by decide), if_neg (by omega), if_neg (by omega), if_pos ⟨rfl, h⟩]
    · rw [if_neg h, if_neg (show ¬ (3 : Nat) = 0 by decide), if_neg (by omega), if_neg (by omega), if_neg (fun g => h g.2)]
theorem fol_sub {s : Sc} (hk : s.k ≠ 8) (l : List UInt8) (hl : l ≠ []) : folS (rulN s) l s = subS s l := by
  rw [← fol_lang l hl, rul_lang hk]
  by_cases h : rulN s < 4
  · rw [if_pos h]
  · rw [if_neg h, fol_none (.inr (by omega)), fol_none (.inl rfl)]
theorem dem_sub {s : Sc} (hk : s.k ≠ 8) : demS (rulN s) s = subS s [] := by
  unfold subS subK demS
  rw [feedK_nil, rul_lang hk]
  by_cases h : rulN s < 4
  · rw [if_pos h]
    have : rulN s = 0 ∨ rulN s = 1 ∨ rulN s = 2 ∨ rulN s = 3 := by omega
    rcases this with e | e | e | e <;> by_cases h1 : s.n = 15 <;> by_cases h2 : s.n = 9 <;> by_cases h3 : s.n = 4 <;> simp [e, h1, h2, h3] <;> (cases s; simp_all)
  · rw [if_neg h, if_neg (by omega), if_neg (by omega), if_pos rfl]

def ref0 (s : Sc) (c : UInt8) : Except Nat (Sc × Bool) := if c = 38 then .ok ({ s with r := [38] }, true) else .ok (s, false)
def thenB (x : Res) (f : Sc → Except Nat (Sc × Bool)) : Except Nat (Sc × Bool) := match x with
  | .error e => .error e
  | .ok u => f u
def refC (s : Sc) (c : UInt8) : Except Nat (Sc × Bool) :=
  if s.r = [] then ref0 s c
  else if unfL (s.r ++ [c]) = true then .ok ({ s with r := s.r ++ [c] }, true)
  else if (oneL (s.r ++ [c])).2 = (s.r ++ [c]).length then thenB (folS (rulN s) (oneL (s.r ++ [c])).1 { s with r := [] }) fun u => .ok (u, true)
  else thenB (folS (rulN s) s.r { s with r := [] }) fun u => ref0 u c
def thenR (x : Except Nat (Sc × Bool)) (f : Sc → Bool → Res) : Res := match x with
  | .error e => .error e
  | .ok p => f p.1 p.2
theorem one_ne {l : List UInt8} (h : (oneL l).2 = l.length) (hl : l ≠ []) : (oneL l).1 ≠ [] ∧ l.getLast? = some 59 := by
  have h0 : (oneL l).2 ≠ 0 := by
    rw [h]
    exact fun g => hl (List.eq_nil_of_length_eq_zero g)
  obtain ⟨i, t, e, hi, he⟩ := one_some h0
  rw [he] at h
  have ht : t = [] := by
    have h : i.length + 2 = l.length := h
    rw [e] at h
    simp at h
    exact h
  subst ht
  refine ⟨by rw [he]; exact hi, ?_⟩
  rw [e, ← List.cons_append, List.getLast?_append]
  rfl
theorem last_snoc (l : List UInt8) (c : UInt8) : (l ++ [c]).getLast? = some c := by simp
theorem char_ref {s : Sc} {c : UInt8} (hk : s.k ≠ 8) : charS s c = thenR (refC s c) fun u b => if b = true then .ok u else folS (rulN u) [c] u := by
  have amp : ∀ u : Sc, u.k ≠ 8 → ampS u c = thenR (ref0 u c) fun u b => if b = true then .ok u else folS (rulN u) [c] u := fun u hu => by
    unfold ampS ref0
    by_cases h : c = 38
    · rw [if_pos h, if_pos h]; rfl
    · rw [if_neg h, if_neg h]
      show _ = (if false = true then Except.ok u else folS (rulN u) [c] u)
      rw [if_neg (by decide), fol_sub hu _ (by simp)]
  unfold charS refC
  by_cases hr : s.r = []
  · rw [if_pos hr, if_pos hr]; exact amp s hk
  · rw [if_neg hr, if_neg hr]
    have hkr : ({ s with r := [] } : Sc).k ≠ 8 := hk
    have hrul : rulN s = rulN { s with r := [] } := rul_keeps ⟨rfl, rfl, rfl⟩
    have hne : s.r ++ [c] ≠ [] := by simp
    by_cases h1 : (oneL (s.r ++ [c])).2 = (s.r ++ [c]).length
    · have hu : ¬ unfL (s.r ++ [c]) = true := fun g => by
        have := (unf_small g).1
        have h2 := (one_ne h1 hne).2
        rw [last_snoc] at h2
        injection h2 with h2
        exact this (by rw [h2]; simp)
      rw [if_pos h1, if_neg hu, if_pos h1, hrul, fol_sub hkr _ (one_ne h1 hne).1]
      cases subS { s with r := [] } (oneL (s.r ++ [c])).1 <;> rfl
    · rw [if_neg h1]
      by_cases hu : unfL (s.r ++ [c]) = true
      · rw [if_pos hu, if_pos hu]; rfl
      · rw [if_neg hu, if_neg hu, if_neg h1, hrul, fol_sub hkr _ hr]
        cases hs : subS { s with r := [] } s.r with
        | error e => rfl
        | ok u => exact amp u (by rw [(sub_keeps hs).1]; exact hk)
def quietB (c : UInt8) : Bool := c == 60 || c == 62 || c == 34 || c == 39 || blB c
theorem quiet_facts : ∀ k : Fin 256, quietB (UInt8.ofNat k.val) = true → UInt8.ofNat k.val ≠ 38 ∧ UInt8.ofNat k.val ≠ 59 ∧ UInt8.ofNat k.val ≠ 35 ∧ UInt8.ofNat k.val ≠ 120 ∧ UInt8.ofNat k.val ≠ 88 ∧
    digB 16 (UInt8.ofNat k.val) = false ∧ digB 10 (UInt8.ofNat k.val) = false ∧ UInt8.ofNat k.val ∉ amp ∧ UInt8.ofNat k.val ∉ lt' ∧ UInt8.ofNat k.val ∉ gt' ∧ UInt8.ofNat k.val ∉ quot ∧ UInt8.ofNat k.val ∉ apos := by decide +kernel
theorem quiet_at {c : UInt8} (h : quietB c = true) : c ≠ 38 ∧ c ≠ 59 ∧ c ≠ 35 ∧ c ≠ 120 ∧ c ≠ 88 ∧ digB 16 c = false ∧ digB 10 c = false ∧ c ∉ amp ∧ c ∉ lt' ∧ c ∉ gt' ∧ c ∉ quot ∧ c ∉ apos := by
  have h2 := quiet_facts ⟨c.toNat, c.toNat_lt⟩
  simp only [UInt8.ofNat_toNat] at h2
  exact h2 h
theorem quiet_unf {l : List UInt8} {c : UInt8} (hl : l ≠ []) (h : quietB c = true) : unfL (l ++ [c]) = false := by
  obtain ⟨_, _, h35, h120, h88, h16, h10, n1, n2, n3, n4, n5⟩ := quiet_at h
  cases hu : unfL (l ++ [c]) with
  | false => rfl
  | true =>
    exfalso
    obtain ⟨b, hb⟩ := (unf_small hu).2.2
    have hc : c ∈ b := by
      cases l with
      | nil => exact absurd rfl hl
      | cons d t =>
        rw [List.cons_append] at hb
        injection hb with _ hb
        rw [← hb]; simp
    rw [hb] at hu
    have hu : (begName b || (numR b).isSome) = true := hu
    rcases (Bool.or_eq_true _ _).mp hu with g | g
    · unfold begName at g
      rcases of_decide_eq_true g with g | g | g | g | g
      · exact n1 (g.subset hc)
      · exact n2 (g.subset hc)
      · exact n3 (g.subset hc)
      · exact n4 (g.subset hc)
      · exact n5 (g.subset hc)
    · obtain ⟨⟨n, d⟩, hn⟩ := Option.isSome_iff_exists.1 g
      obtain ⟨t, rfl, _, hd, _⟩ := num_some hn
      have ht : c ∈ t := by
        rcases List.mem_cons.1 hc with e | e
        · exact absurd e h35
        · exact e
      have hdig : c ∉ digsOf t := fun q => by
        have h3 := List.all_eq_true.1 hd c q
        unfold baseOf at h3
        split at h3
        · rw [show ((16 : Nat) : Int) = 16 from rfl, h16] at h3; cases h3
        · rw [show ((10 : Nat) : Int) = 10 from rfl, h10] at h3; cases h3
      rcases digs_cases t with ⟨_, x, hx, e⟩ | ⟨_, e⟩
      · rw [e] at ht
        rcases List.mem_cons.1 ht with q | q
        · rcases hx with r | r
          · exact h120 (q.trans r)
          · exact h88 (q.trans r)
        · exact hdig q
      · rw [← e] at ht; exact hdig ht
theorem ref_quiet {s : Sc} {c : UInt8} (h : quietB c = true) : refC s c = thenB (folS (rulN s) s.r { s with r := [] }) fun u => .ok (u, false) := by
  have hq := quiet_at h
  unfold refC
  by_cases hr : s.r = []
  · rw [if_pos hr]
    unfold ref0
    rw [if_neg hq.1]
    have hs : ({ s with r := [] } : Sc) = s := by rw [← hr]
    rw [hr, hs]
    rfl
  · rw [if_neg hr, if_neg (by rw [quiet_unf hr h]; decide), if_neg (fun g => by
      have h2 := (one_ne g (by simp)).2
      rw [last_snoc] at h2
      injection h2 with h2
      exact hq.2.1 h2)]
    have e : (fun u : Sc => ref0 u c) = fun u => .ok (u, false) := by
      funext u
      unfold ref0
      rw [if_neg hq.1]
    rw [e]
theorem ref_flush {s : Sc} (hk : s.k ≠ 8) : andThen (folS (rulN s) s.r { s with r := [] }) (fun u => demS (rulN u) u) = flushS s := by
  have hrul : rulN s = rulN { s with r := [] } := rul_keeps ⟨rfl, rfl, rfl⟩
  have hkr : ({ s with r := [] } : Sc).k ≠ 8 := hk
  unfold flushS
  by_cases hr : s.r = []
  · rw [hr]
    show demS (rulN ({ s with r := [] } : Sc)) _ = _
    rw [dem_sub hkr]
  · rw [hrul, fol_sub hkr _ hr]
    cases hs : subS { s with r := [] } s.r with
    | error e => rfl
    | ok u =>
      show demS (rulN u) u = .ok u
      have hke := sub_keeps hs
      rw [dem_sub (by rw [hke.1]; exact hkr)]
      have hl := lang_keeps (s := { s with r := [] }) (t := u) ⟨hke.1, hke.2.1, hke.2.2.1⟩
      unfold subS subK at hs ⊢
      rw [feedK_nil, hl]
      split at hs
      · rename_i h0; rw [if_pos h0]
      · rename_i h0
        split at hs
        · cases hs
        · rename_i h1
          split at hs
          · cases hs
          · rename_i h2
            split at hs
            · cases hs
            · rename_i h3
              injection hs with hs
              rw [if_neg h0, if_neg (by rintro ⟨_, g1, g2⟩; have g2 : u.n = 5 := g2; omega), if_neg, if_neg]
              · rintro ⟨g1, g2⟩
                refine h3 ⟨g1, ?_⟩
                rw [← hs] at g2
                exact g2
              · rintro ⟨g1, g2⟩
                refine h2 ⟨g1, ?_⟩
                rw [← hs] at g2
                exact g2
end Go.Proofs.YtklpbkjplecdpaaGreat.Scn
