/-
  Part 39: TokRead, ScwTexts, ScwData.
-/
import Derived.Test.YtklpbkjplecdpaaGreatSxBaseP38
import Derived.Test.YtklpbkjplecdpaaGreatSxBaseP29
import Derived.Test.YtklpbkjplecdpaaGreatSxBaseP28
import Derived.Test.YtklpbkjplecdpaaGreatSxBaseP5
import Derived.Test.YtklpbkjplecdpaaGreatSxBaseP30
/-
  The page's Tokens at every text, and its lists as SameAll reads them.
-/
namespace Go.Proofs.YtklpbkjplecdpaaGreat.Tok
open Go.RowKit Oct Utf Crf Tab Mem

theorem flat_at {α : Type} (f : α → List Value) (m : Nat) (hf : ∀ x, (f x).length = m) (l : List α) : ∀ (i : Nat) (h : i < l.length) (j : Nat), j < m → (l.flatMap f)[i * m + j]? = (f l[i])[j]? := by
  induction l with
  | nil => intro i h; exact absurd h (Nat.not_lt_zero _)
  | cons x t ih =>
    intro i h j hj
    rw [List.flatMap_cons]
    cases i with
    | zero =>
      rw [Nat.zero_mul, Nat.zero_add, List.getElem?_append_left (by rw [hf]; exact hj)]
      rfl
    | succ i =>
      rw [List.getElem?_append_right (by rw [hf, Nat.succ_mul]; omega)]
      have e : (i + 1) * m + j - (f x).length = i * m + j := by rw [hf, Nat.succ_mul]; omega
      rw [e]
      exact ih i (by simpa using h) j hj
theorem own_at {w : World} {B size n : Nat} {e : TypeId} {v : Value} {xs : List Value} (h : w.ownsRow B e size v n xs) : ∃ p cap, v = .slice p n cap ∧ (0 < n → ∃ g, p = some ⟨g, 0, none⟩ ∧ ∀ k u, xs[k]? = some u → w.cell? ⟨g, 0 + k, none⟩ = some u) := by
  rcases h.2 with ⟨rfl, h0⟩ | ⟨g, cap, cur, rfl, hb, hg, rest⟩
  · exact ⟨none, 0, by rw [h0], fun hn => absurd hn (by omega)⟩
  · refine ⟨_, cap, rfl, fun _ => ⟨g, rfl, fun k u hk => ?_⟩⟩
    have hlt : k < xs.length := (List.getElem?_eq_some_iff.1 hk).1
    rw [Nat.zero_add, h.cellAt k (by rw [← h.1]; exact hlt)]
    exact hk
theorem at_in {B : Nat} {w : World} {v : Value} {al : List At} (h : AtR B w v al) : AtIn w v al := by
  obtain ⟨p, cap, hv, hp⟩ := own_at h
  refine ⟨p, cap, hv, fun hl => ?_⟩
  obtain ⟨g, hg, hc⟩ := hp hl
  refine ⟨g, 0, hg, fun i hi => ?_⟩
  have e := fun j (hj : j < 2) => flat_at atCs 2 (fun _ => rfl) al i hi j hj
  exact ⟨hc _ _ (e 0 (by decide)), hc _ _ (e 1 (by decide))⟩
theorem tks_in {B : Nat} {w : World} {v : Value} {ts : List Tk} (h : TksM B w v ts) : TkIn w v ts := by
  obtain ⟨ps, rfl, ho, ha⟩ := h
  obtain ⟨p, cap, hv, hp⟩ := own_at ho
  refine ⟨p, cap, by rw [List.length_map]; exact hv, fun hl => ?_⟩
  rw [List.length_map] at hl
  obtain ⟨g, hg, hc⟩ := hp hl
  refine ⟨g, 0, hg, fun i hi => ?_⟩
  rw [List.length_map] at hi
  have e := fun j (hj : j < 5) => flat_at tkCs 5 (fun _ => rfl) ps i hi j hj
  have em : (ps.map Prod.fst)[i]'(by rw [List.length_map]; exact hi) = ps[i].1 := List.getElem_map _
  rw [em]
  exact ⟨ps[i].2, at_in (ha _ (List.getElem_mem hi)), hc _ _ (e 0 (by decide)), hc _ _ (e 1 (by decide)), hc _ _ (e 2 (by decide)), hc _ _ (e 3 (by decide)), hc _ _ (e 4 (by decide))⟩

def TokEnd (B : Nat) (l : List UInt8) (e : Ending) (w' : World) : Prop :=
  if 65536 < l.length then e = .returned (.tuple #[.slice none 0 0, .int .i64 5]) else TokAns B (tokL l) e w'
set_option maxRecDepth 100000 in
theorem tokens_long (l : List UInt8) (hl : 65536 < l.length) (w : World) :
    Calls Tryz.prog 13 #[.string (S l)] w fun e w' => e = .returned (.tuple #[.slice none 0 0, .int .i64 5]) ∧ Below w.heap.size w w' := by
  have hsz : ((S l).size : Int) = (l.length : Int) := by rw [size_S]
  have hli : 65536 < (l.length : Int) := by omega
  clear hl
  go_enter Tryz.func13, Tryz.ntmps13
  go_wp2_with fail
  go_ret2
  exact ⟨rfl, Below.refl _ _⟩
theorem rtokens_c (l : List UInt8) (w : World) :
    Calls Tryz.prog 13 #[.string (S l)] w fun e w' => TokEnd w.heap.size l e w' ∧ Below w.heap.size w w' := by
  by_cases hl : 65536 < l.length
  · refine (tokens_long l hl w).mono fun e w' ⟨h1, h2⟩ => ⟨?_, h2⟩
    unfold TokEnd
    rw [if_pos hl]
    exact h1
  · refine (tokens_ok l (by omega) w).mono fun e w' ⟨h1, h2⟩ => ⟨?_, h2⟩
    unfold TokEnd
    rw [if_neg hl]
    exact h1
end Go.Proofs.YtklpbkjplecdpaaGreat.Tok

/-
  The law ScanTexts of layer 17 (scan), as a contract of its function.
-/
namespace Go.Proofs.YtklpbkjplecdpaaGreat.Scw
open Go.RowKit Oct Utf Crf Scn Tab Tok
attribute [local go_sem ↓] bin_eq bin_ne
attribute [local go_sem ↓] Go.wp_at_zero Go.wp_at_succ

theorem feedT_ok {s v : Sc} {l : List UInt8} (h : runC s l = .ok v) : feedV s l = .tuple #[stA v, .int .i64 (l.length : Int), .int .i64 0] := by unfold feedV; rw [h]
theorem feedT_err {s : Sc} {l : List UInt8} {k m : Nat} (h : runC s l = .error (k, m)) : feedV s l = .tuple #[stA sc0, .int .i64 (k : Int), .int .i64 (m : Int)] := by unfold feedV; rw [h]; rfl
theorem holeT_ok {s u : Sc} {k : Nat} (h : holeS s = .ok (u, k)) : holeV s = .tuple #[stA u, .int .i64 (k : Int), .int .i64 0] := by unfold holeV; rw [h]
theorem holeT_err {s : Sc} {k : Nat} (h : holeS s = .error k) : holeV s = .tuple #[stA sc0, .int .i64 0, .int .i64 91] := by unfold holeV; rw [h]; rfl
theorem hole_zero : holeS sc0 = .ok (sc0, 1) := by kernel_rfl

def tsT (l : List UInt8) : List Tk := if 65536 < l.length then [] else if 4096 < (tokL l).length then [] else tokL l
def erT (l : List UInt8) : Int := if 65536 < l.length then 5 else if 4096 < (tokL l).length then 3 else 0
theorem tks_nil (B : Nat) (w : World) : TksM B w (.slice none 0 0) [] := ⟨[], rfl, World.ownsRow_nil _ _ _ _, fun _ hp => nomatch hp⟩
theorem page_end {B : Nat} {l : List UInt8} {e : Ending} {w : World} (h : TokEnd B l e w) : ∃ v, e = .returned (.tuple #[v, .int .i64 (erT l)]) ∧ TksM B w v (tsT l) := by
  unfold TokEnd at h
  unfold erT tsT
  by_cases h1 : 65536 < l.length
  · rw [if_pos h1] at h
    rw [if_pos h1, if_pos h1]
    exact ⟨_, h, tks_nil _ _⟩
  · rw [if_neg h1] at h
    rw [if_neg h1, if_neg h1]
    unfold TokAns at h
    by_cases h2 : 4096 < (tokL l).length
    · rw [if_pos h2] at h
      rw [if_pos h2, if_pos h2]
      exact ⟨_, h, tks_nil _ _⟩
    · rw [if_neg h2] at h
      rw [if_neg h2, if_neg h2]
      exact h
theorem er_ok {l : List UInt8} (h : erT l = 0) : tsT l = tokL l ∧ (tokL l).length ≤ 4096 ∧ l.length ≤ 65536 := by
  unfold erT at h
  unfold tsT
  by_cases h1 : 65536 < l.length
  · rw [if_pos h1] at h; cases h
  · rw [if_neg h1] at h ⊢
    by_cases h2 : 4096 < (tokL l).length
    · rw [if_pos h2] at h; cases h
    · rw [if_neg h2]
      exact ⟨rfl, by omega, by omega⟩
theorem tks_keep {B : Nat} {w w' : World} {v : Value} {ts : List Tk} (h : TksM B w v ts) (hb : Below w.heap.size w w') : TksM B w' v ts := by
  obtain ⟨ps, h1, h2, h3⟩ := h
  exact ⟨ps, h1, own_same h2 (fun k _ he => hb.block k (own_lt h2 k he)), fun p hp => own_same (h3 p hp) (fun k _ he => hb.block k (own_lt (h3 p hp) k he))⟩
theorem sh_tks {B : Nat} {w : World} {v : Value} {ts : List Tk} (h : ShR B w v ts) : TksM B w v ts := by
  obtain ⟨ps, h1, h2, h3⟩ := h
  exact ⟨ps, h1, h2, fun p hp => (h3 p hp).1⟩
theorem tokens_t (l : List UInt8) (w : World) : Calls Tryz.prog 13 #[.string (S l)] w fun e w' => (∃ v, e = .returned (.tuple #[v, .int .i64 (erT l)]) ∧ TksM w.heap.size w' v (tsT l)) ∧ Below w.heap.size w w' :=
  (rtokens_c l w).mono fun _ _ ⟨h1, h2⟩ => ⟨page_end h1, h2⟩
theorem shape_t (l : List UInt8) (he : erT l = 0) (v : Value) (B : Nat) (w : World) (h : TksM B w v (tsT l)) :
    Calls Tryz.prog 14 #[v] w fun e w' => (∃ v', e = .returned v' ∧ TksM w.heap.size w' v' (shL (tokL l))) ∧ Below w.heap.size w w' := by
  obtain ⟨e1, e2, e3⟩ := er_ok he
  rw [e1] at h
  refine (rshape_c (tokL l) v w (tks_in h) (by omega) fun t ht => ?_).mono fun e w' ⟨v', q1, q2, q3⟩ => ⟨⟨v', q1, sh_tks q2⟩, q3⟩
  have := tok_atts l t ht
  omega
theorem same_t (l m : List UInt8) (h1 : erT l = 0) (hs : shL (tokL l) = shL (tokL m)) (va vb : Value) (A B : Nat) (w : World) (ha : TksM A w va (shL (tokL l))) (hb : TksM B w vb (shL (tokL m))) :
    Calls Tryz.prog 15 #[va, vb] w fun e w' => e = .returned (.bool true) ∧ Below w.heap.size w w' := by
  obtain ⟨e1, e2, e3⟩ := er_ok h1
  have hl := sh_len (tokL l)
  have := rsameAll_c (shL (tokL l)) (shL (tokL m)) va vb w (tks_in ha) (tks_in hb) (by omega) (sh_atts fun t ht => by have := tok_atts l t ht; omega)
  rw [decide_eq_true hs] at this
  exact this

set_option maxHeartbeats 1000000 in
set_option maxRecDepth 100000 in
theorem law_texts (W : World) (a s b : ByteArray) (ha : a.size ≤ 1048576) (hs : s.size ≤ 1048576) (hb : b.size ≤ 1048576) :
    Calls Tryz.prog 5 #[.string a, .string s, .string b] W fun e W' => e = .returned (.bool true) ∧ Below W.heap.size W W' := by
  obtain ⟨l, rfl⟩ : ∃ l, a = S l := ⟨a.data.toList, (S_list a).symm⟩
  obtain ⟨m, rfl⟩ : ∃ m, b = S m := ⟨b.data.toList, (S_list b).symm⟩
  have hl : l.length ≤ 1048576 := by rw [size_S] at ha; exact ha
  have hal := alive_c W
  have hst := start_c
  have hn := num_c
  have h1 := fun w => feed_c l (by omega) sc0 start_reach w
  cases hr : runC sc0 l with
  | error x =>
    obtain ⟨k, n⟩ := x
    have hm0 := (err_run l hr).1
    have bm : ((n : Int) != 0) = true := by rw [bne_iff_ne]; omega
    have h2 := fun w => hole_c sc0 start_reach w
    rw [feedT_err hr] at h1
    rw [holeT_ok hole_zero] at h2
    clear hr hm0 hl hs ha hb
    generalize (n : Int) = N at *
    generalize (k : Int) = K at *
    generalize S l = L at *
    generalize S m = M at *
    go_enter Tryz.func5, Tryz.ntmps5
    go_wp2_with fail
    refine hal.mono ?_
    rintro e w1 ⟨rfl, hb1⟩
    have B1 := Lib.hid hb1
    clear hb1 hal
    go_wp2_with fail
    refine (hst _).mono ?_
    rintro e w2 ⟨rfl, hb2⟩
    have B2 := Lib.hid (B1.out.trans (hb2.mono B1.out.size))
    clear hb2
    go_wp2_with fail
    refine (h1 _).mono ?_
    rintro e w3 ⟨rfl, hb3⟩
    have B3 := Lib.hid (B2.out.trans (hb3.mono B2.out.size))
    clear hb3
    go_wp2_with fail
    refine (h2 _).mono ?_
    rintro e w4 ⟨rfl, hb4⟩
    have B4 := Lib.hid ((B3.out.alloc B3.out.size _).trans (hb4.mono (B3.out.alloc B3.out.size _).size))
    clear hb4
    go_wp2_with fail
    refine (hn _ _).mono ?_
    rintro e wx ⟨rfl, rfl⟩
    go_wp2_with fail
    go_ret
    exact ⟨rfl, B4.out.alloc B4.out.size _⟩
  | ok t =>
    rw [feedT_ok hr] at h1
    have hrt : Scn.Reach t := run_reach l start_reach hr
    have h2 := fun w => hole_c t hrt w
    cases hh : holeS t with
    | error k =>
      rw [holeT_err hh] at h2
      clear hr hrt hh hl hs ha hb
      generalize (l.length : Int) = LL at *
      generalize S l = L at *
      generalize S m = M at *
      go_enter Tryz.func5, Tryz.ntmps5
      go_wp2_with fail
      refine hal.mono ?_
      rintro e w1 ⟨rfl, hb1⟩
      have B1 := Lib.hid hb1
      clear hb1 hal
      go_wp2_with fail
      refine (hst _).mono ?_
      rintro e w2 ⟨rfl, hb2⟩
      have B2 := Lib.hid (B1.out.trans (hb2.mono B1.out.size))
      clear hb2
      go_wp2_with fail
      refine (h1 _).mono ?_
      rintro e w3 ⟨rfl, hb3⟩
      have B3 := Lib.hid (B2.out.trans (hb3.mono B2.out.size))
      clear hb3
      go_wp2_with fail
      refine (h2 _).mono ?_
      rintro e w4 ⟨rfl, hb4⟩
      have B4 := Lib.hid ((B3.out.alloc B3.out.size _).trans (hb4.mono (B3.out.alloc B3.out.size _).size))
      clear hb4
      go_wp2_with fail
      refine (hn _ _).mono ?_
      rintro e wx ⟨rfl, rfl⟩
      go_wp2_with fail
      refine (hn _ _).mono ?_
      rintro e wx ⟨rfl, rfl⟩
      go_wp2_with fail
      go_ret
      exact ⟨rfl, B4.out.alloc B4.out.size _⟩
    | ok x =>
      obtain ⟨u, k⟩ := x
      rw [holeT_ok hh] at h2
      by_cases hk : k ≤ 3
      · have hsc := scan_texts ((runC_ok l).1 hr) hh hk (escL (rep s.data.toList)) m (esc_clean _)
        have hke : ¬ ((3 : Int) < (k : Int)) := by omega
        have HE := fun w => rEscape_c s (by omega) w
        have hxl : (escL (rep s.data.toList)).length ≤ 41943040 := by
          have h1 := encs_len (chars s.data.toList)
          have h2 := chars_len s.data.toList
          rw [size_list] at h2
          have h3 := esc_len (rep s.data.toList)
          have h4 : (rep s.data.toList).length ≤ 4 * (chars s.data.toList).length := by unfold rep; exact h1
          omega
        generalize escL (rep s.data.toList) = x at *
        have a1 : S l ++ S x = S (l ++ x) := S_append l x
        have a2 : S (l ++ x) ++ S m = S (l ++ (x ++ m)) := by rw [S_append, List.append_assoc]
        have a3 : S l ++ S m = S (l ++ m) := S_append l m
        have z1 : (S l).size ≤ 140737488351232 := by omega
        have z2 : (S m).size ≤ 140737488351232 := by omega
        have z3 : (S x).size ≤ 140737488351232 := by rw [size_S]; omega
        have z4 : (S (l ++ x)).size ≤ 140737488351232 := by rw [size_S, List.length_append]; omega
        have T1 := fun w => tokens_t (l ++ (x ++ m)) w
        have T2 := fun w => tokens_t (l ++ m) w
        have HQ := Lib.hid (And.intro (fun he v B w h => shape_t (l ++ (x ++ m)) he v B w h) (fun he v B w h => shape_t (l ++ m) he v B w h))
        have HS := Lib.hid (fun h1 va vb A B w ha hb => same_t (l ++ (x ++ m)) (l ++ m) h1 hsc va vb A B w ha hb)
        clear hr hrt hh hl hs ha hb hsc hk hxl
        generalize (k : Int) = K at *
        generalize (l.length : Int) = LL at *
        generalize S (l ++ (x ++ m)) = LXM at *
        generalize S (l ++ x) = LX at *
        generalize S (l ++ m) = LM at *
        generalize S l = L at *
        generalize S m = M at *
        generalize S x = X at *
        generalize tsT (l ++ (x ++ m)) = ts1 at *
        generalize tsT (l ++ m) = ts2 at *
        generalize tokL (l ++ (x ++ m)) = k1 at *
        generalize tokL (l ++ m) = k2 at *
        generalize erT (l ++ (x ++ m)) = er1 at *
        generalize erT (l ++ m) = er2 at *
        go_enter Tryz.func5, Tryz.ntmps5
        go_wp2_with fail
        refine hal.mono ?_
        rintro e w1 ⟨rfl, hb1⟩
        have B1 := Lib.hid hb1
        clear hb1 hal
        go_wp2_with fail
        refine (hst _).mono ?_
        rintro e w2 ⟨rfl, hb2⟩
        have B2 := Lib.hid (B1.out.trans (hb2.mono B1.out.size))
        clear hb2
        go_wp2_with fail
        refine (h1 _).mono ?_
        rintro e w3 ⟨rfl, hb3⟩
        have B3 := Lib.hid (B2.out.trans (hb3.mono B2.out.size))
        clear hb3
        go_wp2_with fail
        refine (h2 _).mono ?_
        rintro e w4 ⟨rfl, hb4⟩
        have B4 := Lib.hid ((B3.out.alloc B3.out.size _).trans (hb4.mono (B3.out.alloc B3.out.size _).size))
        clear hb4
        go_wp2_with fail
        refine (hn _ _).mono ?_
        rintro e wx ⟨rfl, rfl⟩
        go_wp2_with fail
        refine (hn _ _).mono ?_
        rintro e wx ⟨rfl, rfl⟩
        go_wp2_with fail
        refine (HE _).mono ?_
        rintro e w5 ⟨rfl, hb5⟩
        have B5 := Lib.hid ((B4.out.alloc B4.out.size _).trans (hb5.mono (B4.out.alloc B4.out.size _).size))
        clear hb5 HE
        go_wp2_with fail
        refine (T1 _).mono ?_
        rintro e w6 ⟨⟨v1, rfl, hv1⟩, hb6⟩
        have B6 := Lib.hid (And.intro (B5.out.trans (hb6.mono B5.out.size)) hv1)
        clear hb6 T1 hv1
        go_wp2_with fail
        refine (T2 _).mono ?_
        rintro e w7 ⟨⟨v2, rfl, hv2⟩, hb7⟩
        have B7 := Lib.hid (And.intro (B6.out.1.trans (hb7.mono B6.out.1.size)) (And.intro (tks_keep B6.out.2 hb7) hv2))
        clear hb7 T2 hv2
        by_cases g1 : er1 = 0
        · subst g1
          by_cases g2 : er2 = 0
          · subst g2
            go_wp2_with fail
            have q1 := HQ.out.1 (by trivial) v1 _ w7 B7.out.2.1
            refine q1.mono ?_
            clear q1
            rintro e w8 ⟨⟨v3, rfl, hv3⟩, hb8⟩
            have B8 := Lib.hid (And.intro (B7.out.1.trans (hb8.mono B7.out.1.size)) (And.intro (tks_keep B7.out.2.2 hb8) hv3))
            clear hb8 hv3
            go_wp2_with fail
            have q1 := HQ.out.2 (by trivial) v2 _ w8 B8.out.2.1
            refine q1.mono ?_
            clear q1
            rintro e w9 ⟨⟨v4, rfl, hv4⟩, hb9⟩
            have B9 := Lib.hid (And.intro (B8.out.1.trans (hb9.mono B8.out.1.size)) (And.intro (tks_keep B8.out.2.2 hb9) hv4))
            clear hb9 hv4
            go_wp2_with fail
            refine (HS.out (by trivial) v3 v4 _ _ w9 B9.out.2.1 B9.out.2.2).mono ?_
            rintro e w10 ⟨rfl, hb10⟩
            have B10 := Lib.hid (B9.out.1.trans (hb10.mono B9.out.1.size))
            clear hb10
            go_wp2_with fail
            go_ret
            exact ⟨rfl, B10.out⟩
          · have b2 : (er2 != 0) = true := by rw [bne_iff_ne]; exact g2
            clear g2
            go_wp2_with fail
            go_ret
            exact ⟨rfl, B7.out.1⟩
        · have b1 : (er1 != 0) = true := by rw [bne_iff_ne]; exact g1
          clear g1
          go_wp2_with fail
          go_ret
          exact ⟨rfl, B7.out.1⟩
      · have hke : (3 : Int) < (k : Int) := by omega
        clear hr hrt hh hl hs ha hb hk
        generalize (l.length : Int) = LL at *
        generalize (k : Int) = K at *
        generalize S l = L at *
        generalize S m = M at *
        go_enter Tryz.func5, Tryz.ntmps5
        go_wp2_with fail
        refine hal.mono ?_
        rintro e w1 ⟨rfl, hb1⟩
        have B1 := Lib.hid hb1
        clear hb1 hal
        go_wp2_with fail
        refine (hst _).mono ?_
        rintro e w2 ⟨rfl, hb2⟩
        have B2 := Lib.hid (B1.out.trans (hb2.mono B1.out.size))
        clear hb2
        go_wp2_with fail
        refine (h1 _).mono ?_
        rintro e w3 ⟨rfl, hb3⟩
        have B3 := Lib.hid (B2.out.trans (hb3.mono B2.out.size))
        clear hb3
        go_wp2_with fail
        refine (h2 _).mono ?_
        rintro e w4 ⟨rfl, hb4⟩
        have B4 := Lib.hid ((B3.out.alloc B3.out.size _).trans (hb4.mono (B3.out.alloc B3.out.size _).size))
        clear hb4
        go_wp2_with fail
        refine (hn _ _).mono ?_
        rintro e wx ⟨rfl, rfl⟩
        go_wp2_with fail
        refine (hn _ _).mono ?_
        rintro e wx ⟨rfl, rfl⟩
        go_wp2_with fail
        go_ret
        exact ⟨rfl, B4.out.alloc B4.out.size _⟩
end Go.Proofs.YtklpbkjplecdpaaGreat.Scw

/-
  The law ScanData of layer 17 (scan), as a contract of its function.
-/
namespace Go.Proofs.YtklpbkjplecdpaaGreat.Scw
open Go.RowKit Oct Utf Crf Scn Tab Tok Mem
attribute [local go_sem ↓] bin_eq bin_ne
attribute [local go_sem ↓] Go.wp_at_zero Go.wp_at_succ

theorem wpList_append_ran {P : Program} {w w' : World} {ops : Array Oper} {rest : List Oper} {o : Oper} {a : Act} {Q : Exit → Act → World → Prop} (hgd : o.guard = none) (s x : Operand) (t : TypeId)
    (ho : o.op = .call { callee := .builtin .append, args := #[s, x], argTypes := #[t, t] }) (v u v' : Value) (hs : a.eval s = v) (hx : a.eval x = u)
    (hrun : (Builtin.append_ #[t, t] o.type #[v, u]).run P w = .ok v' w') (h : wpList P ops Q rest (a.put o.dst v') w') : wpList P ops Q (o :: rest) a w := by
  refine wpList_plain hgd fun K hK => ?_
  unfold Oper.wp execOp
  simp only [ho, resolve, invoke, builtin, Sem.run_bind, Sem.run_pure, Result.andThen_ok, List.map_toArray, List.map_cons, List.map_nil, hs, hx, hrun]
  exact hK _ _ h
theorem append_none {w : World} {B n size : Nat} {e ty : TypeId} {v : Value} {xs : List Value} (h : w.ownsRow B e size v n xs) :
    (Builtin.append_ #[32, 32] ty #[v, .slice none 0 0]).run Tryz.prog w = .ok v w := by
  obtain ⟨it, hit, hzt0, hzt1, hzt2⟩ := info_parts info_tok
  rcases h.2 with ⟨rfl, h0⟩ | ⟨g, cap, cur, rfl, hb, hg, h1, h2, h3⟩
  · simp [Builtin.append_, run_underlying Tryz.underlying32, sizeOf, typeInfo, hit, Builtin.lenOf, Builtin.firstCells]
  · simp [Builtin.append_, run_underlying Tryz.underlying32, sizeOf, typeInfo, hit, Builtin.lenOf, Builtin.firstCells, h1]
    rfl
def Lst (w0 w : World) (v : Value) (ts : List Tk) : Prop := ∃ ps : List (Tk × Value), ts = ps.map Prod.fst ∧ TkR w0.heap.size w v ps ∧ ∀ p ∈ ps, AtR 0 w0 p.2 p.1.a
theorem lst_nil (w0 w : World) : Lst w0 w (.slice none 0 0) [] := ⟨[], rfl, World.ownsRow_nil _ _ _ _, fun _ h => nomatch h⟩
theorem lst_tks {w0 w : World} {v : Value} {ts : List Tk} (hw : Below w0.heap.size w0 w) (h : Lst w0 w v ts) : TksM 0 w v ts := by
  obtain ⟨ps, h1, h2, h3⟩ := h
  exact ⟨ps, h1, own_weak h2 (Nat.zero_le _), fun p hp => own_same (h3 p hp) (fun k _ he => hw.block k (own_lt (h3 p hp) k he))⟩
theorem append_tks {w0 w : World} {A : Nat} {v x : Value} {ts us : List Tk} (ty : TypeId) (hw : Below w0.heap.size w0 w) (hv : Lst w0 w v ts) (hx : TksM A w0 x us) (hn : ts.length + us.length ≤ 100000) :
    ∃ v' w', (Builtin.append_ #[32, 32] ty #[v, x]).run Tryz.prog w = .ok v' w' ∧ Lst w0 w' v' (ts ++ us) ∧ Below w0.heap.size w0 w' := by
  obtain ⟨ps, rfl, hp, hpa⟩ := hv
  obtain ⟨qs, rfl, hq, hqa⟩ := hx
  rw [List.length_map, List.length_map] at hn
  have hqw : TkR A w x qs := own_same hq (fun k _ he => hw.block k (own_lt hq k he))
  rcases hq.2 with ⟨rfl, h0⟩ | ⟨g, cap, cur, rfl, hb, hg, h1, h2, h3⟩
  · have : qs = [] := List.eq_nil_of_length_eq_zero h0
    subst this
    exact ⟨v, w, append_none hp, ⟨ps, by simp, hp, hpa⟩, hw⟩
  · obtain ⟨it, hit, hzt0, hzt1, hzt2⟩ := info_parts info_tok
    obtain ⟨v', w', hr, hown, hgr, _, hat⟩ := run_append_own_at (P := Tryz.prog) w w0.heap.size 32 ty 52 it _ 5 72 Tryz.underlying32 hit hzt0 hzt1 hzt2 rfl (by decide) v ps.length (ps.flatMap tkCs) hp
      ⟨g, 0, none⟩ qs.length cap (qs.flatMap tkCs) hqw.1
      (fun j u hu => by
        have hlt : j < (qs.flatMap tkCs).length := (List.getElem?_eq_some_iff.1 hu).1
        rw [Addr.add_lit, Nat.zero_add, hqw.cellAt j (by rw [← hqw.1]; exact hlt)]
        exact hu)
      (fun u hu => by
        obtain ⟨p, hp, hu⟩ := List.mem_flatMap.1 hu
        simp only [List.mem_cons, List.not_mem_nil, or_false] at hu
        rcases hu with rfl | rfl | rfl | rfl | rfl
        · rfl
        · rfl
        · rfl
        · exact own_one (hqa p hp)
        · rfl)
      (by unfold maxLen; omega) (by omega) hw.size
    refine ⟨v', w', hr, ⟨ps ++ qs, by simp, ?_, ?_⟩, ?_⟩
    · show World.ownsRow _ _ _ _ _ _ _
      rw [List.length_append, List.flatMap_append]
      exact hown
    · intro p hm
      rcases List.mem_append.1 hm with q | q
      · exact hpa p q
      · exact own_weak (hqa p q) (Nat.zero_le _)
    · exact Below.grown hw hgr hw.size (fun k hk => own_ge hp k hk)
theorem er_range (l : List UInt8) : 0 ≤ erT l ∧ erT l ≤ 5 := by
  unfold erT
  split
  · decide
  · split <;> decide
theorem er_few {l : List UInt8} (h : erT l = 0) : (shL (tokL l)).length ≤ 4096 := Nat.le_trans (sh_len _) (er_ok h).2.1
theorem same_d (l : List UInt8) (us : List Tk) (h1 : erT l = 0) (hs : shL (tokL l) = us) (va vb : Value) (A B : Nat) (w : World) (ha : TksM A w va (shL (tokL l))) (hb : TksM B w vb us) :
    Calls Tryz.prog 15 #[va, vb] w fun e w' => e = .returned (.bool true) ∧ Below w.heap.size w w' := by
  obtain ⟨e1, e2, e3⟩ := er_ok h1
  have hl := sh_len (tokL l)
  have := rsameAll_c (shL (tokL l)) us va vb w (tks_in ha) (tks_in hb) (by omega) (sh_atts fun t ht => by have := tok_atts l t ht; omega)
  rw [decide_eq_true hs] at this
  exact this

set_option maxHeartbeats 1000000 in
set_option maxRecDepth 100000 in
theorem law_data (W : World) (a b : ByteArray) (ha : a.size ≤ 140737488351232) (hb : b.size ≤ 140737488351232) :
    Calls Tryz.prog 4 #[.string a, .string b] W fun e W' => e = .returned (.bool true) ∧ Below W.heap.size W W' := by
  obtain ⟨l, rfl⟩ : ∃ l, a = S l := ⟨a.data.toList, (S_list a).symm⟩
  obtain ⟨m, rfl⟩ : ∃ m, b = S m := ⟨b.data.toList, (S_list b).symm⟩
  have hl : l.length ≤ 140737488351232 := by rw [size_S] at ha; exact ha
  have hal := alive_c W
  have hst := start_c
  have hn := num_c
  have h1 := fun w => feed_c l (by omega) sc0 start_reach w
  cases hr : runC sc0 l with
  | error x =>
    obtain ⟨k, n⟩ := x
    have hm0 := (err_run l hr).1
    have bm : ((n : Int) != 0) = true := by rw [bne_iff_ne]; omega
    rw [feedT_err hr] at h1
    clear hr hm0 hl ha hb
    generalize (n : Int) = N at *
    generalize (k : Int) = K at *
    generalize S l = L at *
    generalize S m = M at *
    go_enter Tryz.func4, Tryz.ntmps4
    go_wp2_with fail
    refine hal.mono ?_
    rintro e w1 ⟨rfl, hb1⟩
    have B1 := Lib.hid hb1
    clear hb1 hal
    go_wp2_with fail
    refine (hst _).mono ?_
    rintro e w2 ⟨rfl, hb2⟩
    have B2 := Lib.hid (B1.out.trans (hb2.mono B1.out.size))
    clear hb2
    go_wp2_with fail
    refine (h1 _).mono ?_
    rintro e w3 ⟨rfl, hb3⟩
    have B3 := Lib.hid (B2.out.trans (hb3.mono B2.out.size))
    clear hb3
    go_wp2_with fail
    refine (hn _ _).mono ?_
    rintro e wx ⟨rfl, rfl⟩
    go_wp2_with fail
    go_ret
    exact ⟨rfl, B3.out.alloc B3.out.size _⟩
  | ok s =>
    rw [feedT_ok hr] at h1
    have h2 := fun w => ends_c s w
    by_cases he : s.k = 0 ∧ s.r = []
    · rw [decide_eq_true he] at h2
      have hsd := scan_data ((runC_ok l).1 hr) he.1 m
      clear hr he
      cases m with
      | nil =>
        clear hsd ha hb hl
        generalize (l.length : Int) = LL at *
        generalize S l = L at *
        go_enter Tryz.func4, Tryz.ntmps4
        go_wp2_with fail
        refine hal.mono ?_
        rintro e w1 ⟨rfl, hb1⟩
        have B1 := Lib.hid hb1
        clear hb1 hal
        go_wp2_with fail
        refine (hst _).mono ?_
        rintro e w2 ⟨rfl, hb2⟩
        have B2 := Lib.hid (B1.out.trans (hb2.mono B1.out.size))
        clear hb2
        go_wp2_with fail
        refine (h1 _).mono ?_
        rintro e w3 ⟨rfl, hb3⟩
        have B3 := Lib.hid (B2.out.trans (hb3.mono B2.out.size))
        clear hb3
        go_wp2_with fail
        refine (hn _ _).mono ?_
        rintro e wx ⟨rfl, rfl⟩
        go_wp2_with fail
        refine (h2 _).mono ?_
        rintro e w4 ⟨rfl, hb4⟩
        obtain ⟨_, hb4'⟩ := boxed s hb4
        have B4 := Lib.hid (B3.out.trans (hb4'.mono B3.out.size))
        clear hb4 hb4'
        go_wp2_with fail
        go_ret
        exact ⟨rfl, B4.out⟩
      | cons c u =>
        have hlm : (c :: u).length ≤ 140737488351232 := by rw [size_S] at hb; exact hb
        have T1 := fun w => tokens_t l w
        have T2 := fun w => tokens_t (c :: u) w
        have T3 := fun w => tokens_t (l ++ (c :: u)) w
        have HQ := Lib.hid (And.intro (fun he v B w h => shape_t l he v B w h) (And.intro (fun he v B w h => shape_t (c :: u) he v B w h) (fun he v B w h => shape_t (l ++ (c :: u)) he v B w h)))
        have HSD := Lib.hid (fun h1 va vb A B w ha hb => same_d (l ++ (c :: u)) _ h1 hsd va vb A B w ha hb)
        have HL := Lib.hid (And.intro (fun h => er_few (l := l) h) (fun h => er_few (l := c :: u) h))
        have a1 : S l ++ S (c :: u) = S (l ++ (c :: u)) := S_append l (c :: u)
        have r1 := er_range l
        have r2 := er_range (c :: u)
        have r3 := er_range (l ++ (c :: u))
        clear hsd
        generalize tsT l = ts1 at *
        generalize tsT (c :: u) = ts2 at *
        generalize tsT (l ++ (c :: u)) = ts3 at *
        generalize tokL l = k1 at *
        generalize tokL (c :: u) = k2 at *
        generalize tokL (l ++ (c :: u)) = k3 at *
        generalize erT l = er1 at *
        generalize erT (c :: u) = er2 at *
        generalize erT (l ++ (c :: u)) = er3 at *
        go_enter Tryz.func4, Tryz.ntmps4
        go_wp2_with fail
        refine hal.mono ?_
        rintro e w1 ⟨rfl, hb1⟩
        have B1 := Lib.hid hb1
        clear hb1 hal
        go_wp2_with fail
        refine (hst _).mono ?_
        rintro e w2 ⟨rfl, hb2⟩
        have B2 := Lib.hid (B1.out.trans (hb2.mono B1.out.size))
        clear hb2
        go_wp2_with fail
        refine (h1 _).mono ?_
        rintro e w3 ⟨rfl, hb3⟩
        have B3 := Lib.hid (B2.out.trans (hb3.mono B2.out.size))
        clear hb3
        go_wp2_with fail
        refine (hn _ _).mono ?_
        rintro e wx ⟨rfl, rfl⟩
        go_wp2_with fail
        refine (h2 _).mono ?_
        rintro e w4 ⟨rfl, hb4⟩
        obtain ⟨_, hb4'⟩ := boxed s hb4
        have B4 := Lib.hid (B3.out.trans (hb4'.mono B3.out.size))
        clear hb4 hb4'
        go_wp2_with fail
        · go_ret
          exact ⟨rfl, B4.out⟩
        · rename wrap64 _ ≤ (60000 : Int) => hw
          rename ((_ : Nat) : Int) = 60 => hx
          have hsz : l.length ≤ 60000 ∧ (c :: u).length ≤ 60000 := by
            unfold wrap64 at hw
            rw [List.length_cons] at hlm
            rw [List.length_cons]
            omega
          clear hx hw
          refine (T1 _).mono ?_
          rintro e w5 ⟨⟨v1, rfl, hv1⟩, hb5⟩
          have B5 := Lib.hid (And.intro (B4.out.trans (hb5.mono B4.out.size)) hv1)
          clear hb5 T1 hv1
          go_wp2_with fail
          refine (T2 _).mono ?_
          rintro e w6 ⟨⟨v2, rfl, hv2⟩, hb6⟩
          have B6 := Lib.hid (And.intro (B5.out.1.trans (hb6.mono B5.out.1.size)) (And.intro (tks_keep B5.out.2 hb6) hv2))
          clear hb6 T2 hv2
          go_wp2_with fail
          refine (T3 _).mono ?_
          rintro e w7 ⟨⟨v3, rfl, hv3⟩, hb7⟩
          have B7 := Lib.hid (And.intro (B6.out.1.trans (hb7.mono B6.out.1.size)) (And.intro (tks_keep B6.out.2.1 hb7) (And.intro (tks_keep B6.out.2.2 hb7) hv3)))
          clear hb7 T3 hv3
          by_cases g1 : er1 + er2 + er3 = 0
          · obtain rfl : er1 = 0 := by omega
            obtain rfl : er2 = 0 := by omega
            obtain rfl : er3 = 0 := by omega
            clear g1 r1 r2 r3
            go_wp2_with fail
            have q1 := HQ.out.1 (by trivial) v1 _ w7 B7.out.2.1
            refine q1.mono ?_
            clear q1
            rintro e w8 ⟨⟨v4, rfl, hv4⟩, hb8⟩
            have B8 := Lib.hid (And.intro (B7.out.1.trans (hb8.mono B7.out.1.size)) (And.intro (tks_keep B7.out.2.2.1 hb8) (And.intro (tks_keep B7.out.2.2.2 hb8) hv4)))
            clear hb8 hv4
            go_wp2_with fail
            have q1 := HQ.out.2.1 (by trivial) v2 _ w8 B8.out.2.1
            refine q1.mono ?_
            clear q1
            rintro e w9 ⟨⟨v5, rfl, hv5⟩, hb9⟩
            have B9 := Lib.hid (And.intro (B8.out.1.trans (hb9.mono B8.out.1.size)) (And.intro (tks_keep B8.out.2.2.1 hb9) (And.intro (tks_keep B8.out.2.2.2 hb9) hv5)))
            clear hb9 hv5
            have HLN := Lib.hid (And.intro (HL.out.1 (by trivial)) (HL.out.2 (by trivial)))
            have A1 := append_tks 32 (Below.refl w9.heap.size w9) (lst_nil w9 w9) B9.out.2.2.1 (by have := HLN.out; simp; omega)
            obtain ⟨v6, w10, run1, l1, hb10⟩ := A1
            have A2 := append_tks 32 hb10 l1 B9.out.2.2.2 (by have := HLN.out; simp; omega)
            obtain ⟨v7, w11, run2, l2, hb11⟩ := A2
            rw [List.nil_append] at l2
            have L2 := Lib.hid (And.intro l2 hb11)
            clear l1 l2 hb10 hb11
            go_wp2_with (at_builtin; first | (refine wpList_append_ran rfl (.tmp 76) (.tmp 77) 32 rfl (.slice none 0 0) v4 v6 rfl rfl run1 ?_; clear run1) | (refine wpList_append_ran rfl (.tmp 78) (.tmp 79) 32 rfl v6 v5 v7 rfl rfl run2 ?_; clear run2))
            have q1 := HQ.out.2.2 (by trivial) v3 _ w11 (tks_keep B9.out.2.1 L2.out.2)
            refine q1.mono ?_
            clear q1
            rintro e w12 ⟨⟨v8, rfl, hv8⟩, hb12⟩
            have B12 := Lib.hid (And.intro ((B9.out.1.trans (L2.out.2.mono B9.out.1.size)).trans (hb12.mono (B9.out.1.trans (L2.out.2.mono B9.out.1.size)).size)) (And.intro (tks_keep (lst_tks L2.out.2 L2.out.1) hb12) hv8))
            clear hb12 hv8
            go_wp2_with fail
            refine (HSD.out (by trivial) v8 v7 _ _ w12 B12.out.2.2 B12.out.2.1).mono ?_
            rintro e w13 ⟨rfl, hb13⟩
            have B13 := Lib.hid (B12.out.1.trans (hb13.mono B12.out.1.size))
            clear hb13
            go_wp2_with fail
            go_ret
            exact ⟨rfl, B13.out⟩
          · have g2 : (er1 + er2 + er3 != 0) = true := by rw [bne_iff_ne]; exact g1
            clear g1
            go_wp2_with fail
            go_ret
            exact ⟨rfl, B7.out.1⟩
        · go_ret
          exact ⟨rfl, B4.out⟩
    · rw [decide_eq_false he] at h2
      clear hr he hl ha hb
      generalize (l.length : Int) = LL at *
      generalize S l = L at *
      generalize S m = M at *
      go_enter Tryz.func4, Tryz.ntmps4
      go_wp2_with fail
      refine hal.mono ?_
      rintro e w1 ⟨rfl, hb1⟩
      have B1 := Lib.hid hb1
      clear hb1 hal
      go_wp2_with fail
      refine (hst _).mono ?_
      rintro e w2 ⟨rfl, hb2⟩
      have B2 := Lib.hid (B1.out.trans (hb2.mono B1.out.size))
      clear hb2
      go_wp2_with fail
      refine (h1 _).mono ?_
      rintro e w3 ⟨rfl, hb3⟩
      have B3 := Lib.hid (B2.out.trans (hb3.mono B2.out.size))
      clear hb3
      go_wp2_with fail
      refine (hn _ _).mono ?_
      rintro e wx ⟨rfl, rfl⟩
      go_wp2_with fail
      refine (h2 _).mono ?_
      rintro e w4 ⟨rfl, hb4⟩
      obtain ⟨_, hb4'⟩ := boxed s hb4
      have B4 := Lib.hid (B3.out.trans (hb4'.mono B3.out.size))
      clear hb4 hb4'
      go_wp2_with fail
      go_ret
      exact ⟨rfl, B4.out⟩
end Go.Proofs.YtklpbkjplecdpaaGreat.Scw
