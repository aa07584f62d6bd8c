/-
  Contract of write: the octets of a token that may be written.
-/
import Derived.Test.YtidfcajhmldieaaGreatDoorTkwMix
import Derived.Deep.RegionHeld3
namespace Go.Proofs.YtidfcajhmldieaaGreatDoor.Tkw
open Go.RowKit Go.Proofs.YtidfcajhmldieaaGreatDoor.Oct Go.Proofs.YtidfcajhmldieaaGreatDoor.Utf Go.Proofs.YtidfcajhmldieaaGreatDoor.Tok Go.Proofs.YtidfcajhmldieaaGreatDoor.Crf

theorem long_esc (x : List UInt8) (h : x.length ≤ 2147483648) : (escL (rep x)).length ≤ 137438953472 := by
  have h1 := esc_len (rep x)
  have h2 := encs_len (chars x)
  have h3 := chars_len x
  unfold rep at h1 ⊢
  omega
theorem esc_c (B : Nat) (x : List UInt8) (hx : x.length ≤ 2147483648) (w W : World) (hT : ∀ W, Below B w W → Tabs W) (hW : Below B w W) :
    Calls Tryz.prog 33 #[.string (S x)] W fun e w' => e = .returned (.string (S (escL (rep x)))) ∧ Below W.heap.size W w' := by
  have h := escape_c (S x) (by rw [size_S]; omega) W (hT W hW)
  rw [list_S] at h
  exact h
set_option maxHeartbeats 2000000 in
set_option maxRecDepth 100000 in
theorem write_2 (n x : List UInt8) (va : Value) (hva : ∃ p m q, va = .slice p m q) (c : Bool) (B b : Nat) (l : List UInt8) (w : World) (h : Has B b l w) (hl : l.length ≤ 65536) (hn : n.length ≤ 2147483648) :
    Calls Tryz.prog 23 #[.agg #[.int .i64 2, .string (S n), .string (S x), va, .bool c], putV b] w (PutTo B b l (60 :: 47 :: (n ++ [62])) w) := by
  have hb0 := tkW_below w 2 (S n) (S x) va c
  have hk := PutOk.quiet h hl hb0
  have hp := put1_c B b (l ++ []) (60 :: 47 :: (n ++ [62])) _ hk.has (by rw [List.append_nil]; exact hl) (by simp only [List.length_cons, List.length_append, List.length_nil]; omega)
  have HK := Lib.hid hk
  have eg := enter_put
  have e1 : (⟨#[60, 47]⟩ : ByteArray) ++ S n = S (60 :: 47 :: n) := S_append [60, 47] n
  have e2 : S (60 :: 47 :: n) ++ (⟨#[62]⟩ : ByteArray) = S (60 :: 47 :: (n ++ [62])) := S_append (60 :: 47 :: n) [62]
  have z1 : (S n).size ≤ 140737488351232 := by rw [size_S]; omega
  have z2 : (S (60 :: 47 :: n)).size ≤ 140737488351232 := by rw [size_S]; simp only [List.length_cons]; omega
  have x1 : ¬ (9223372036854775807 < 2 + (S n).size) := by omega
  have x2 : ¬ (9223372036854775807 < (S (60 :: 47 :: n)).size + 1) := by omega
  obtain ⟨p, m, q, rfl⟩ := hva
  clear h hl hn hk hb0
  generalize S (60 :: 47 :: (n ++ [62])) = T2 at *
  generalize S (60 :: 47 :: n) = T1 at *
  generalize S n = N at *
  go_enter Tryz.func23, Tryz.ntmps23
  go_wp2_with (go_at_fn 19; refine hp.mono ?_; rintro e3 w3 (⟨rfl, hok⟩ | ⟨rfl, hbel⟩))
  · go_end0
    exact HK.out.next (.inl ⟨rfl, hok⟩)
  · exact ⟨rfl, HK.out.next (.inr ⟨rfl, hbel⟩)⟩
set_option maxHeartbeats 2000000 in
set_option maxRecDepth 100000 in
theorem write_4 (n x : List UInt8) (va : Value) (hva : ∃ p m q, va = .slice p m q) (c : Bool) (B b : Nat) (l : List UInt8) (w : World) (h : Has B b l w) (hl : l.length ≤ 65536) (hx : x.length ≤ 2147483648) :
    Calls Tryz.prog 23 #[.agg #[.int .i64 4, .string (S n), .string (S x), va, .bool c], putV b] w (PutTo B b l (60 :: 33 :: 45 :: 45 :: (x ++ [45, 45, 62])) w) := by
  have hb0 := tkW_below w 4 (S n) (S x) va c
  have hk := PutOk.quiet h hl hb0
  have hp := put1_c B b (l ++ []) (60 :: 33 :: 45 :: 45 :: (x ++ [45, 45, 62])) _ hk.has (by rw [List.append_nil]; exact hl) (by simp only [List.length_cons, List.length_append, List.length_nil]; omega)
  have HK := Lib.hid hk
  have eg := enter_put
  have e1 : (⟨#[60, 33, 45, 45]⟩ : ByteArray) ++ S x = S (60 :: 33 :: 45 :: 45 :: x) := S_append [60, 33, 45, 45] x
  have e2 : S (60 :: 33 :: 45 :: 45 :: x) ++ (⟨#[45, 45, 62]⟩ : ByteArray) = S (60 :: 33 :: 45 :: 45 :: (x ++ [45, 45, 62])) := S_append (60 :: 33 :: 45 :: 45 :: x) [45, 45, 62]
  have z1 : (S x).size ≤ 140737488351232 := by rw [size_S]; omega
  have z2 : (S (60 :: 33 :: 45 :: 45 :: x)).size ≤ 140737488351232 := by rw [size_S]; simp only [List.length_cons]; omega
  have x1 : ¬ (9223372036854775807 < 4 + (S x).size) := by omega
  have x2 : ¬ (9223372036854775807 < (S (60 :: 33 :: 45 :: 45 :: x)).size + 3) := by omega
  obtain ⟨p, m, q, rfl⟩ := hva
  clear h hl hx hk hb0
  generalize S (60 :: 33 :: 45 :: 45 :: (x ++ [45, 45, 62])) = T2 at *
  generalize S (60 :: 33 :: 45 :: 45 :: x) = T1 at *
  generalize S x = X at *
  go_enter Tryz.func23, Tryz.ntmps23
  go_wp2_with (go_at_fn 19; refine hp.mono ?_; rintro e3 w3 (⟨rfl, hok⟩ | ⟨rfl, hbel⟩))
  · go_end0
    exact HK.out.next (.inl ⟨rfl, hok⟩)
  · exact ⟨rfl, HK.out.next (.inr ⟨rfl, hbel⟩)⟩
set_option maxHeartbeats 2000000 in
set_option maxRecDepth 100000 in
theorem write_3 (n x : List UInt8) (va : Value) (hva : ∃ p m q, va = .slice p m q) (c : Bool) (B b : Nat) (l : List UInt8) (w : World) (h : Has B b l w) (hl : l.length ≤ 65536) (hx : x.length ≤ 2147483648) (hT : ∀ W, Below B w W → Tabs W) :
    Calls Tryz.prog 23 #[.agg #[.int .i64 3, .string (S n), .string (S x), va, .bool c], putV b] w (PutTo B b l (escL (rep x)) w) := by
  have hb0 := tkW_below w 3 (S n) (S x) va c
  have hk := PutOk.quiet h hl hb0
  have hB : B ≤ w.heap.size := by have := has_lt h; omega
  have he := esc_c B x hx w _ hT (hb0.mono hB)
  have HP := Lib.hid (fun W (hW : Below (tkW w 3 (S n) (S x) va c).heap.size (tkW w 3 (S n) (S x) va c) W) => And.intro (hk.later hW) (put1_c B b (l ++ []) (escL (rep x)) W (hk.later hW).has (by rw [List.append_nil]; exact hl) (by have := long_esc x hx; omega)))
  have eg := enter_put
  obtain ⟨p, m, q, rfl⟩ := hva
  clear h hl hx hk hb0 hT
  generalize S (escL (rep x)) = T2 at *
  generalize S x = X at *
  go_enter Tryz.func23, Tryz.ntmps23
  go_wp2_with fail
  refine he.mono ?_
  clear he
  rintro e1 w1 ⟨rfl, hb1⟩
  obtain ⟨hk1, hp1⟩ := HP.out w1 hb1
  have HK := Lib.hid hk1
  clear hb1 hk1 HP
  go_wp2_with (go_at_fn 19; refine hp1.mono ?_; rintro e3 w3 (⟨rfl, hok⟩ | ⟨rfl, hbel⟩))
  · go_end0
    exact HK.out.next (.inl ⟨rfl, hok⟩)
  · exact ⟨rfl, HK.out.next (.inr ⟨rfl, hbel⟩)⟩
/-- What stands ahead of a tag's end. -/
def clo (c : Bool) : List UInt8 := if c then [47] else []
/-- The box in which an attribute lies while it is written. -/
abbrev atB (w : World) (N V : ByteArray) : World := w.alloc (.cells #[.string N, .string V] 65)
theorem take_step (al : List At) (k : Nat) (hk : k < al.length) (g : At → List UInt8) : (al.take (k + 1)).flatMap g = (al.take k).flatMap g ++ g al[k] := by
  rw [List.take_add_one, List.getElem?_eq_getElem hk, List.flatMap_append]
  simp
/-- A box keeps what it holds where octets are put. -/
theorem box_kept {b g : Nat} {w w' : World} {cs : Array Value} {t : TypeId} (h : w.heap[g]? = some (.cells cs t (0, 0))) (ht : t ≠ 5) (hg : g ≠ b) (ho : Build.Others b w w') : w'.heap[g]? = some (.cells cs t (0, 0)) :=
  ho g _ h (fun e => hg (Option.some.inj e)) (fun c fz e => ht (by injection e))
set_option maxHeartbeats 4000000 in
set_option maxRecDepth 100000 in
theorem write_1 (n x : List UInt8) (al : List At) (va : Value) (c : Bool) (B b : Nat) (l : List UInt8) (w : World) (h : Has B b l w) (hl : l.length ≤ 65536) (hf : Fits ⟨1, n, x, al, c⟩)
    (hT : ∀ W, Below B w W → Tabs W) (hA : ∀ W, Below B w W → AtIn W va al) :
    Calls Tryz.prog 23 #[.agg #[.int .i64 1, .string (S n), .string (S x), va, .bool c], putV b] w (PutTo B b l (60 :: (n ++ (al.flatMap writeA ++ (clo c ++ [62])))) w) := by
  have hb0 := tkW_below w 1 (S n) (S x) va c
  have hk := PutOk.quiet h hl hb0
  have hn := hf.n
  have hal := hf.al
  have hfa := hf.a
  simp only at hn hal hfa
  have hB : B ≤ w.heap.size := by have := has_lt h; omega
  have hbw : b < w.heap.size := (has_lt h).2
  have hp := put1_c B b (l ++ []) (60 :: n) _ hk.has (by rw [List.append_nil]; exact hl) (by simp only [List.length_cons]; omega)
  have HK := Lib.hid hk
  have HBOX : Hid ((tkW w 1 (S n) (S x) va c).heap[w.heap.size]? = some (.cells #[.int .i64 1, .string (S n), .string (S x), va, .bool c] 34 (0, 0))) := heap_alloc_new w _
  have eg := enter_put
  have e1 : (⟨#[60]⟩ : ByteArray) ++ S n = S (60 :: n) := S_append [60] n
  have z1 : (S n).size ≤ 140737488351232 := by rw [size_S]; omega
  have x1 : ¬ (9223372036854775807 < 1 + (S n).size) := by omega
  obtain ⟨p, cap, hva, _⟩ := hA w (Below.refl _ _)
  have HA : Hid (∀ W, Below B w W → 0 < al.length → ∃ b o, p = some ⟨b, o, none⟩ ∧ ∀ i (h : i < al.length), W.cell? ⟨b, o + i * 2, none⟩ = some (.string (S al[i].n)) ∧ W.cell? ⟨b, o + i * 2 + 1, none⟩ = some (.string (S al[i].v))) := fun W hW => by
    obtain ⟨p', cap', h1, h2⟩ := hA W hW
    rw [hva] at h1
    injection h1 with e1 _ _
    subst e1
    exact h2
  have HT := Lib.hid hT
  have HFA := Lib.hid hfa
  have HBW := Lib.hid (And.intro hB hbw)
  have HLL := Lib.hid hl
  obtain ⟨L, hL⟩ : ∃ L, L = al.length := ⟨_, rfl⟩
  have HL := Lib.hid hL
  have hLi : (L : Int) ≤ 2147483648 := by omega
  rw [← hL] at hva
  subst hva
  clear h hl hn hk hb0 hf hal hfa hB hbw hA hT hL
  generalize S (60 :: n) = T1 at *
  obtain ⟨N, hN⟩ : ∃ N, N = S n := ⟨_, rfl⟩
  obtain ⟨X, hX⟩ : ∃ X, X = S x := ⟨_, rfl⟩
  rw [← hN] at HK HBOX hp e1 z1 x1 ⊢
  rw [← hX] at HK HBOX hp ⊢
  clear hN hX
  go_enter Tryz.func23, Tryz.ntmps23
  go_wp2_with (go_at_fn 19; refine hp.mono ?_; clear hp; rintro e3 w3 (⟨rfl, hok⟩ | ⟨rfl, hbel⟩); rotate_left; exact ⟨rfl, .inr ⟨rfl, HK.out.below.trans hbel⟩⟩; have hbox3 := box_kept HBOX.out (by decide) (by have := HBW.out.2; omega) hok.others; have C3 : w3.cell? ⟨w.heap.size, 3, none⟩ = some (.slice p L cap) := (cell_of_row w3 _ 3 _ _ _ hbox3).trans rfl; have H3 : Hid (PutOk B b l (60 :: n) w w3) := (by have h := HK.out.trans hok; rw [List.nil_append] at h; exact h); have HBOX3 := Lib.hid hbox3; clear hok hbox3 HK HBOX)
  clear C3
  go_loopw [18] (fun i wr => ∃ k : Nat, k ≤ L ∧ i = .int .i64 k ∧ Hid (PutOk B b l (60 :: (n ++ (al.take k).flatMap writeA)) w wr) ∧ Hid (wr.heap[w.heap.size]? = some (.cells #[.int .i64 1, .string N, .string X, .slice p L cap, .bool c] 34 (0, 0)))) (fun i _ => L - (intOf i).toNat)
  case atStart => exact ⟨0, Nat.zero_le _, rfl, (by show PutOk _ _ _ _ _ _; simpa using H3.out), HBOX3⟩
  case round =>
    clear H3 HBOX3
    obtain ⟨k, hk, rfl, hok, hbox⟩ := hrel
    have i0 : (0 : Int) ≤ (k : Int) := by omega
    by_cases hlt : k < L
    · have hlt2 : k < al.length := by have := HL.out; omega
      have i1 : (k : Int) < (L : Int) := by omega
      obtain ⟨bb, oo, rfl, hcs⟩ := HA.out wr hok.out.below (by omega)
      obtain ⟨d1, d2⟩ := hcs k hlt2
      have hfk := HFA.out al[k] (List.getElem_mem hlt2)
      have hst := take_step al k hlt2 writeA
      obtain ⟨a, hax⟩ : ∃ a, a = al[k] := ⟨_, rfl⟩
      rw [← hax] at d1 d2 hfk hst
      have HST := Lib.hid hst
      clear hcs hax hst
      have hbA : Below wr.heap.size wr (atB wr (S a.n) (S a.v)) := (Below.refl _ wr).alloc (Nat.le_refl _) _
      have hBwr : B ≤ wr.heap.size := Nat.le_trans HBW.out.1 hok.out.below.size
      have he := esc_c B a.v hfk.2 w (atB wr (S a.n) (S a.v)).drew HT.out (hok.out.below.trans ((hbA.mono hBwr).drew))
      have hboxA : (atB wr (S a.n) (S a.v)).drew.heap[wr.heap.size]? = some (.cells #[.string (S a.n), .string (S a.v)] 65 (0, 0)) := heap_alloc_new wr _
      have HBA := Lib.hid hboxA
      have HOK := Lib.hid (And.intro (hok.out.later (hbA.trans (Below.refl _ _).drew)) ((hbA.block _ (Array.getElem?_eq_some_iff.1 hbox.out).1).trans hbox.out))
      have HLT : Hid (w.heap.size < wr.heap.size) := (Array.getElem?_eq_some_iff.1 hbox.out).1
      have g1 : (⟨#[32]⟩ : ByteArray) ++ S a.n = S (32 :: a.n) := S_append [32] a.n
      have g2 : S (32 :: a.n) ++ (⟨#[61]⟩ : ByteArray) = S (32 :: a.n ++ [61]) := S_append (32 :: a.n) [61]
      have g3 : S (32 :: a.n ++ [61]) ++ (⟨#[34]⟩ : ByteArray) = S (32 :: a.n ++ [61] ++ [34]) := S_append _ [34]
      have g4 : S (32 :: a.n ++ [61] ++ [34]) ++ S (escL (rep a.v)) = S (32 :: a.n ++ [61] ++ [34] ++ escL (rep a.v)) := S_append _ _
      have g5 : S (32 :: a.n ++ [61] ++ [34] ++ escL (rep a.v)) ++ (⟨#[34]⟩ : ByteArray) = S (writeA a) := by
        have e : writeA a = 32 :: a.n ++ [61] ++ [34] ++ escL (rep a.v) ++ [34] := by unfold writeA; simp
        rw [e]
        exact S_append _ [34]
      have hle := long_esc a.v hfk.2
      have v0 : (S a.n).size ≤ 2147483648 := by rw [size_S]; exact hfk.1
      have v1 : (S (32 :: a.n)).size ≤ 2147483649 := by rw [size_S]; simp only [List.length_cons]; omega
      have v2 : (S (32 :: a.n ++ [61])).size ≤ 2147483650 := by rw [size_S]; simp only [List.length_append, List.length_cons, List.length_nil]; omega
      have v3 : (S (32 :: a.n ++ [61] ++ [34])).size ≤ 2147483651 := by rw [size_S]; simp only [List.length_append, List.length_cons, List.length_nil]; omega
      have v4 : (S (escL (rep a.v))).size ≤ 137438953472 := by rw [size_S]; exact hle
      have v5 : (S (32 :: a.n ++ [61] ++ [34] ++ escL (rep a.v))).size ≤ 139586437123 := by rw [size_S]; simp only [List.length_append, List.length_cons, List.length_nil]; omega
      have hwl : (writeA a).length ≤ 139586437124 := by unfold writeA; simp only [List.length_append, List.length_cons, List.length_nil]; omega
      have HWL := Lib.hid hwl
      clear hbA hBwr hboxA hle hwl hfk
      generalize S (32 :: a.n ++ [61] ++ [34] ++ escL (rep a.v)) = U4 at *
      generalize S (32 :: a.n ++ [61] ++ [34]) = U3 at *
      generalize S (32 :: a.n ++ [61]) = U2 at *
      generalize S (32 :: a.n) = U1 at *
      generalize S (escL (rep a.v)) = E at *
      obtain ⟨U5, hU5⟩ : ∃ U5, U5 = S (writeA a) := ⟨_, rfl⟩
      have HU5 := Lib.hid hU5
      rw [← hU5] at g5
      clear hU5
      generalize S a.n = N' at *
      generalize S a.v = V' at *
      have y0 : N'.size ≤ 140737488351232 := by omega
      have y1 : U1.size ≤ 140737488351232 := by omega
      have y2 : U2.size ≤ 140737488351232 := by omega
      have y3 : U3.size ≤ 140737488351232 := by omega
      have y4 : E.size ≤ 140737488351232 := by omega
      have y5 : U4.size ≤ 140737488351232 := by omega
      have q1 : ¬ (9223372036854775807 < 1 + N'.size) := by omega
      have q2 : ¬ (9223372036854775807 < U1.size + 1) := by omega
      have q3 : ¬ (9223372036854775807 < U2.size + 1) := by omega
      have q4 : ¬ (9223372036854775807 < U3.size + E.size) := by omega
      have q5 : ¬ (9223372036854775807 < U4.size + 1) := by omega
      clear v0 v1 v2 v3 v4 v5
      have k0 : (atB wr N' V').drew.cell? ⟨wr.heap.size, 0, none⟩ = some (.string N') ∧ (atB wr N' V').drew.cell? ⟨wr.heap.size, 1, none⟩ = some (.string V') := ⟨(cell_of_row _ _ 0 _ _ _ HBA.out).trans rfl, (cell_of_row _ _ 1 _ _ _ HBA.out).trans rfl⟩
      go_wp2_with fail
      clear d1 d2
      refine wp_region_held_drew (S := (fun w' => w'.cell? ⟨wr.heap.size, 0, none⟩ = some (.string N') ∧ w'.cell? ⟨wr.heap.size, 1, none⟩ = some (.string V'))) (by kernel_rfl) k0 (fun hHeld => ?_)
      refine wpAnyH_take (i := 0) (v := ?_) rfl (by kernel_rfl) (by kernel_rfl) (by kernel_rfl) (fun _ _ _ h => h) (Or.inl ⟨by kernel_rfl, ?_⟩) (by assumption) ?_
      rotate_left
      · intro w hSw
        try dsimp only at hSw
        obtain ⟨hS0, hS1⟩ := hSw
        go_simp
        try with_reducible rfl
      (try simp only [List.getElem_toArray]); (try simp only [List.getElem_cons_succ]); (try simp only [List.getElem_cons_zero]); (try simp only [Act.put]); (try simp only [List.setIfInBounds_toArray]); (try simp only [List.set_cons_succ]); (try simp only [List.set_cons_zero])
      refine wpAnyH_take (i := 1) (v := ?_) rfl (by kernel_rfl) (by kernel_rfl) (by kernel_rfl) (fun _ _ _ h => h) (Or.inl ⟨by kernel_rfl, ?_⟩) (by assumption) ?_
      rotate_left
      · intro w hSw
        try dsimp only at hSw
        obtain ⟨hS0, hS1⟩ := hSw
        go_simp
        try with_reducible rfl
      (try simp only [List.getElem_toArray]); (try simp only [List.getElem_cons_succ]); (try simp only [List.getElem_cons_zero]); (try simp only [Act.put]); (try simp only [List.setIfInBounds_toArray]); (try simp only [List.set_cons_succ]); (try simp only [List.set_cons_zero])
      refine wpAnyH_take (i := 2) (v := ?_) rfl (by kernel_rfl) (by kernel_rfl) (by kernel_rfl) (fun _ _ _ h => h) (Or.inl ⟨by kernel_rfl, ?_⟩) (by assumption) ?_
      rotate_left
      · intro w hSw
        try dsimp only at hSw
        obtain ⟨hS0, hS1⟩ := hSw
        go_simp
        try with_reducible rfl
      (try simp only [List.getElem_toArray]); (try simp only [List.getElem_cons_succ]); (try simp only [List.getElem_cons_zero]); (try simp only [Act.put]); (try simp only [List.setIfInBounds_toArray]); (try simp only [List.set_cons_succ]); (try simp only [List.set_cons_zero])
      refine wpAnyH_take (i := 3) (v := ?_) rfl (by kernel_rfl) (by kernel_rfl) (by kernel_rfl) (fun _ _ _ h => h) (Or.inl ⟨by kernel_rfl, ?_⟩) (by assumption) ?_
      rotate_left
      · intro w hSw
        try dsimp only at hSw
        obtain ⟨hS0, hS1⟩ := hSw
        go_simp
        try with_reducible rfl
      (try simp only [List.getElem_toArray]); (try simp only [List.getElem_cons_succ]); (try simp only [List.getElem_cons_zero]); (try simp only [Act.put]); (try simp only [List.setIfInBounds_toArray]); (try simp only [List.set_cons_succ]); (try simp only [List.set_cons_zero])
      refine wpAnyH_take (i := 4) (v := ?_) rfl (by kernel_rfl) (by kernel_rfl) (by kernel_rfl) (fun _ _ _ h => h) (Or.inl ⟨by kernel_rfl, ?_⟩) (by assumption) ?_
      rotate_left
      · intro w hSw
        try dsimp only at hSw
        obtain ⟨hS0, hS1⟩ := hSw
        go_simp
        try with_reducible rfl
      (try simp only [List.getElem_toArray]); (try simp only [List.getElem_cons_succ]); (try simp only [List.getElem_cons_zero]); (try simp only [Act.put]); (try simp only [List.setIfInBounds_toArray]); (try simp only [List.set_cons_succ]); (try simp only [List.set_cons_zero])
      refine wpAnyH_take (i := 5) (v := ?_) rfl (by kernel_rfl) (by kernel_rfl) (by kernel_rfl) (fun _ _ _ h => h) (Or.inl ⟨by kernel_rfl, ?_⟩) (by assumption) ?_
      rotate_left
      · intro w hSw
        try dsimp only at hSw
        obtain ⟨hS0, hS1⟩ := hSw
        go_simp
        try with_reducible rfl
      (try simp only [List.getElem_toArray]); (try simp only [List.getElem_cons_succ]); (try simp only [List.getElem_cons_zero]); (try simp only [Act.put]); (try simp only [List.setIfInBounds_toArray]); (try simp only [List.set_cons_succ]); (try simp only [List.set_cons_zero])
      refine wpAnyH_take (i := 6) (v := ?_) rfl (by kernel_rfl) (by kernel_rfl) (by kernel_rfl) (fun _ _ _ h => h) (Or.inl ⟨by kernel_rfl, ?_⟩) (by assumption) ?_
      rotate_left
      · intro w hSw
        try dsimp only at hSw
        obtain ⟨hS0, hS1⟩ := hSw
        go_simp
        try with_reducible rfl
      (try simp only [List.getElem_toArray]); (try simp only [List.getElem_cons_succ]); (try simp only [List.getElem_cons_zero]); (try simp only [Act.put]); (try simp only [List.setIfInBounds_toArray]); (try simp only [List.set_cons_succ]); (try simp only [List.set_cons_zero])
      refine wpAnyH_take (i := 7) (v := ?_) rfl (by kernel_rfl) (by kernel_rfl) (by kernel_rfl) (fun _ _ _ h => h) (Or.inl ⟨by kernel_rfl, ?_⟩) (by assumption) ?_
      rotate_left
      · intro w hSw
        try dsimp only at hSw
        obtain ⟨hS0, hS1⟩ := hSw
        go_simp
        try with_reducible rfl
      (try simp only [List.getElem_toArray]); (try simp only [List.getElem_cons_succ]); (try simp only [List.getElem_cons_zero]); (try simp only [Act.put]); (try simp only [List.setIfInBounds_toArray]); (try simp only [List.set_cons_succ]); (try simp only [List.set_cons_zero])
      refine wpAnyH_ready (rs := [8]) (by kernel_rfl) (by simp) ?_
      refine AllReadyH.cons rfl (fun K hK => ?_) AllReadyH.nil
      go_simp
      refine he.mono ?_
      clear he
      rintro e5 w5 ⟨rfl, hb5⟩
      have hb6 : Below wr.heap.size wr w5 := ((Below.refl _ wr).alloc (Nat.le_refl _) _ : Below wr.heap.size wr (atB wr N' V')).trans ((Below.refl _ _).drew.trans (hb5.mono (by simp)))
      have hbx5 := (hb5.block _ (Array.getElem?_eq_some_iff.1 HBA.out).1).trans HBA.out
      have k1 : w5.cell? ⟨wr.heap.size, 0, none⟩ = some (.string N') ∧ w5.cell? ⟨wr.heap.size, 1, none⟩ = some (.string V') := ⟨(cell_of_row _ _ 0 _ _ _ hbx5).trans rfl, (cell_of_row _ _ 1 _ _ _ hbx5).trans rfl⟩
      have hok5 := hok.out.later hb6
      have hp5 := put1_c B b (l ++ (60 :: (n ++ (al.take k).flatMap writeA))) (writeA a) w5 hok5.has (by rw [List.length_append]; exact hok5.len) (by have := HWL.out; omega)
      rw [← HU5.out] at hp5
      have H5 := Lib.hid (And.intro hok5 (And.intro ((hb6.block _ HLT.out).trans hbox.out) hbx5))
      clear hb5 hb6 hok5 hbx5
      refine hK.out _ _ k1 (fun hHeld => ?_)
      clear hK K
      (try simp only [List.getElem_toArray]); (try simp only [List.getElem_cons_succ]); (try simp only [List.getElem_cons_zero]); (try simp only [Act.put]); (try simp only [List.setIfInBounds_toArray]); (try simp only [List.set_cons_succ]); (try simp only [List.set_cons_zero])
      refine wpAnyH_take (i := 9) (v := ?_) rfl (by kernel_rfl) (by kernel_rfl) (by kernel_rfl) (fun _ _ _ h => h) (Or.inl ⟨by kernel_rfl, ?_⟩) (by assumption) ?_
      rotate_left
      · intro w hSw
        try dsimp only at hSw
        obtain ⟨hS0, hS1⟩ := hSw
        go_simp
        try with_reducible rfl
      (try simp only [List.getElem_toArray]); (try simp only [List.getElem_cons_succ]); (try simp only [List.getElem_cons_zero]); (try simp only [Act.put]); (try simp only [List.setIfInBounds_toArray]); (try simp only [List.set_cons_succ]); (try simp only [List.set_cons_zero])
      refine wpAnyH_take (i := 10) (v := ?_) rfl (by kernel_rfl) (by kernel_rfl) (by kernel_rfl) (fun _ _ _ h => h) (Or.inl ⟨by kernel_rfl, ?_⟩) (by assumption) ?_
      rotate_left
      · intro w hSw
        try dsimp only at hSw
        obtain ⟨hS0, hS1⟩ := hSw
        go_simp
        try with_reducible rfl
      (try simp only [List.getElem_toArray]); (try simp only [List.getElem_cons_succ]); (try simp only [List.getElem_cons_zero]); (try simp only [Act.put]); (try simp only [List.setIfInBounds_toArray]); (try simp only [List.set_cons_succ]); (try simp only [List.set_cons_zero])
      refine wpAnyH_ready (rs := [11]) (by kernel_rfl) (by simp) ?_
      refine AllReadyH.cons rfl (fun K hK => ?_) AllReadyH.nil
      go_simp
      refine hp5.mono ?_
      clear hp5
      rintro e6 w6 (⟨rfl, hok6⟩ | ⟨rfl, hbel⟩)
      rotate_left
      · exact ⟨rfl, .inr ⟨rfl, H5.out.1.below.trans hbel⟩⟩
      have HNX : Hid (PutOk B b l (60 :: (n ++ (al.take (k + 1)).flatMap writeA)) w w6) := by
        have h := H5.out.1.trans hok6
        show PutOk _ _ _ _ _ _
        rw [HST.out]
        simpa using h
      have HBX := Lib.hid (box_kept H5.out.2.1 (by decide) (by have := HBW.out.2; omega) hok6.others)
      have hbx6 := box_kept H5.out.2.2 (by decide) (by have := HBW.out.2; have := HLT.out; omega) hok6.others
      have k2 : w6.cell? ⟨wr.heap.size, 0, none⟩ = some (.string N') ∧ w6.cell? ⟨wr.heap.size, 1, none⟩ = some (.string V') := ⟨(cell_of_row _ _ 0 _ _ _ hbx6).trans rfl, (cell_of_row _ _ 1 _ _ _ hbx6).trans rfl⟩
      clear hok6 hbx6
      refine hK.out _ _ k2 (fun hHeld => ?_)
      clear hK K
      (try simp only [List.getElem_toArray]); (try simp only [List.getElem_cons_succ]); (try simp only [List.getElem_cons_zero]); (try simp only [Act.put]); (try simp only [List.setIfInBounds_toArray]); (try simp only [List.set_cons_succ]); (try simp only [List.set_cons_zero])
      refine wpAnyH_done (by kernel_rfl) ?_ _
      go_wp2_with fail
      go_roundw
      case rel => exact ⟨k + 1, by omega, by go_num, HNX, HBX⟩
      case measure => simp [intOf]; omega
    · have i1 : ¬ ((k : Int) < (L : Int)) := by omega
      have hall : al.take k = al := List.take_of_length_le (by have := HL.out; omega)
      rw [hall] at hok
      have c4 : wr.cell? ⟨w.heap.size, 4, none⟩ = some (.bool c) := (cell_of_row wr _ 4 _ _ _ hbox.out).trans rfl
      have hlen := hok.out.len
      cases c with
      | true =>
        have hp1 := put1_c B b (l ++ (60 :: (n ++ al.flatMap writeA))) [47] wr hok.out.has (by rw [List.length_append]; exact hlen) (by decide)
        have HP2 := Lib.hid (fun W (h : PutOk B b (l ++ (60 :: (n ++ al.flatMap writeA))) [47] wr W) => put1_c B b (l ++ (60 :: (n ++ al.flatMap writeA)) ++ [47]) [62] W h.has (by rw [List.length_append]; exact h.len) (by decide))
        have HOK := Lib.hid hok.out
        clear hlen hall hok
        have H19 := Lib.hid hp1
        clear hp1
        go_wp2_with (first
          | (go_at_fn 19; refine H19.out.mono ?_; clear H19; rintro e4 w4 (⟨rfl, hok4⟩ | ⟨rfl, hbel⟩); rotate_left; exact ⟨rfl, .inr ⟨rfl, HOK.out.below.trans hbel⟩⟩; have H4 := Lib.hid hok4; have HPQ := Lib.hid (HP2.out w4 hok4); clear hok4 HP2)
          | (go_at_fn 19; refine HPQ.out.mono ?_; rintro e5 w5 (⟨rfl, hok5⟩ | ⟨rfl, hbel⟩)))
        · go_end0
          have h := (HOK.out.trans H4.out).trans (by rw [List.append_assoc] at hok5; exact hok5)
          exact .inl ⟨rfl, by simpa [clo] using h⟩
        · exact ⟨rfl, .inr ⟨rfl, (HOK.out.below.trans H4.out.below).trans hbel⟩⟩
      | false =>
        have hp1 := put1_c B b (l ++ (60 :: (n ++ al.flatMap writeA))) [62] wr hok.out.has (by rw [List.length_append]; exact hlen) (by decide)
        have HOK := Lib.hid hok.out
        clear hlen hall hok
        go_wp2_with (go_at_fn 19; refine hp1.mono ?_; rintro e4 w4 (⟨rfl, hok4⟩ | ⟨rfl, hbel⟩))
        · go_end0
          have h := HOK.out.trans hok4
          exact .inl ⟨rfl, by simpa [clo] using h⟩
        · exact ⟨rfl, .inr ⟨rfl, HOK.out.below.trans hbel⟩⟩
end Go.Proofs.YtidfcajhmldieaaGreatDoor.Tkw
