/-
  The law MarksUnlike, out of the contracts of the calls that it makes.
-/
import Derived.Test.YtbpccbdgkkfdpaaDoorMksLaws
namespace Go.Proofs.YtbpccbdgkkfdpaaDoor.Mks
open Go.RowKit Go.Proofs.YtbpccbdgkkfdpaaDoor.Oct Go.Proofs.YtbpccbdgkkfdpaaDoor.Num Go.Proofs.YtbpccbdgkkfdpaaDoor.Scn Go.Proofs.YtbpccbdgkkfdpaaDoor.Tab Go.Proofs.YtbpccbdgkkfdpaaDoor.Pct Go.Proofs.YtbpccbdgkkfdpaaDoor.Utf

/-- Are two states one? -/
def eq8 (k : Int) (E A : ByteArray) (d : Int) (P R : ByteArray) (n : Int) (W : ByteArray) (k' : Int) (E' A' : ByteArray) (d' : Int) (P' R' : ByteArray) (n' : Int) (W' : ByteArray) : Bool :=
  decide (k = k' ∧ E = E' ∧ A = A' ∧ d = d' ∧ P = P' ∧ R = R' ∧ n = n' ∧ W = W')
theorem str_eq (a b : ByteArray) : (a.toList == b.toList) = decide (a = b) := by
  have := eqT a.data.toList b.data.toList
  rw [S_list, S_list] at this
  rw [this]
  congr 1
  rw [eq_iff_iff]
  exact ⟨fun h => by rw [← S_list a, ← S_list b, h], fun h => by rw [h]⟩
theorem str_ne {a b : ByteArray} (h : a ≠ b) : (a.toList == b.toList) = false := by rw [str_eq]; exact decide_eq_false h
theorem eql_st (k : Int) (E A : ByteArray) (d : Int) (P R : ByteArray) (n : Int) (W : ByteArray) (k' : Int) (E' A' : ByteArray) (d' : Int) (P' R' : ByteArray) (n' : Int) (W' : ByteArray) (w : World) :
    (Op.equalIn 10000 24 (.agg #[.int .i64 k, .string E, .string A, .int .u8 d, .string P, .string R, .int .i64 n, .string W]) (.agg #[.int .i64 k', .string E', .string A', .int .u8 d', .string P', .string R', .int .i64 n', .string W'])).run Tryd.prog w
      = .ok (eq8 k E A d P R n W k' E' A' d' P' R' n' W') w := by
  have fs : Tryd.prog.underlying 24 = some (.struct (Tryd.prog.fieldsOf 24)) := by kernel_rfl
  rw [run_equalIn_agg (P := Tryd.prog) w 9999 24 _ _ fs (by kernel_rfl)]
  unfold eq8
  by_cases h0 : k = k'
  · by_cases h1 : E = E'
    · by_cases h2 : A = A'
      · by_cases h3 : d = d'
        · by_cases h4 : P = P'
          · by_cases h5 : R = R'
            · by_cases h6 : n = n'
              · by_cases h7 : W = W'
                · simp [go_sem, h0, h1, h2, h3, h4, h5, h6, h7]
                · simp [go_sem, h0, h1, h2, h3, h4, h5, h6, h7, str_eq]
              · simp [go_sem, h0, h1, h2, h3, h4, h5, h6, str_eq]
            · simp [go_sem, h0, h1, h2, h3, h4, h5, str_eq]
          · simp [go_sem, h0, h1, h2, h3, h4, str_eq]
        · simp [go_sem, h0, h1, h2, h3, str_eq]
      · simp [go_sem, h0, h1, h2, str_eq]
    · simp [go_sem, h0, h1, str_eq]
  · simp [go_sem, h0, str_eq]
abbrev cl8 (k : Int) (E A : ByteArray) (d : Int) (P R : ByteArray) (n : Int) (W : ByteArray) : Value := .agg #[.int .i64 k, .string E, .string A, .int .u8 d, .string P, .string R, .int .i64 n, .string W]
theorem bin_eq (k : Int) (E A : ByteArray) (d : Int) (P R : ByteArray) (n : Int) (W : ByteArray) (k' : Int) (E' A' : ByteArray) (d' : Int) (P' R' : ByteArray) (n' : Int) (W' : ByteArray) (w : World) :
    (binOp .eql 24 (.agg #[.int .i64 k, .string E, .string A, .int .u8 d, .string P, .string R, .int .i64 n, .string W]) (.agg #[.int .i64 k', .string E', .string A', .int .u8 d', .string P', .string R', .int .i64 n', .string W'])).run Tryd.prog w
      = .ok (.bool (eq8 k E A d P R n W k' E' A' d' P' R' n' W')) w := by
  rw [run_eql_struct, eql_st]
  rfl
theorem bin_ne (k : Int) (E A : ByteArray) (d : Int) (P R : ByteArray) (n : Int) (W : ByteArray) (k' : Int) (E' A' : ByteArray) (d' : Int) (P' R' : ByteArray) (n' : Int) (W' : ByteArray) (w : World) :
    (binOp .neq 24 (.agg #[.int .i64 k, .string E, .string A, .int .u8 d, .string P, .string R, .int .i64 n, .string W]) (.agg #[.int .i64 k', .string E', .string A', .int .u8 d', .string P', .string R', .int .i64 n', .string W'])).run Tryd.prog w
      = .ok (.bool (!eq8 k E A d P R n W k' E' A' d' P' R' n' W')) w := by
  rw [run_neq_struct, eql_st]
  rfl
attribute [local go_sem ↓] bin_eq bin_ne
attribute [local go_sem ↓] Go.wp_at_zero Go.wp_at_succ

/-- All of w as it lay, and behind it some blocks. -/
def Kr (w : World) (l : List (Nat × Obj)) (Y : World) : Prop := Below w.heap.size w Y ∧ ∀ p ∈ l, Y.heap[p.1]? = some p.2
theorem Kr.next {w Y Z : World} {l : List (Nat × Obj)} (h : Kr w l Y) (b : Below Y.heap.size Y Z) : Kr w l Z :=
  ⟨h.1.trans (b.mono h.1.size), fun p hp => (b.block _ (Array.getElem?_eq_some_iff.1 (h.2 p hp)).1).trans (h.2 p hp)⟩
theorem Kr.new {w Y : World} {l : List (Nat × Obj)} (h : Kr w l Y) (o : Obj) : Kr w ((Y.heap.size, o) :: l) (Y.alloc o) :=
  ⟨h.1.alloc h.1.size o, fun p hp => by
    rcases List.mem_cons.1 hp with rfl | hp
    · exact heap_alloc_new Y o
    · rw [heap_alloc_old _ _ (Array.getElem?_eq_some_iff.1 (h.2 p hp)).1]
      exact h.2 p hp⟩
theorem Kr.get {w Y : World} {l : List (Nat × Obj)} (h : Kr w l Y) {g : Nat} {o : Obj} (hp : (g, o) ∈ l) : Y.heap[g]? = some o := h.2 (g, o) hp
theorem Kr.below {w Y : World} {l : List (Nat × Obj)} (h : Kr w l Y) : Below w.heap.size w Y := h.1
theorem Kr.drew {w Y : World} {l : List (Nat × Obj)} (h : Kr w l Y) : Kr w l Y.drew := h.next (Below.refl _ Y).drew
theorem Kr.two (w : World) (a b : Obj) : Kr w [(w.heap.size + 1, b), (w.heap.size, a)] ((w.alloc a).alloc b) := by
  have h : Kr w [] w := ⟨Below.refl _ _, fun _ hp => nomatch hp⟩
  have h2 := (h.new a).new b
  rw [show (w.alloc a).heap.size = w.heap.size + 1 by simp] at h2
  exact h2

set_option maxHeartbeats 1000000 in
set_option maxRecDepth 100000 in
theorem unlike_w (k : Int) (E A : ByteArray) (d : UInt8) (P R : ByteArray) (n : Int) (Wd : ByteArray) (k' : Int) (E' A' : ByteArray) (d' : UInt8) (P' R' : ByteArray) (n' : Int) (Wd' : ByteArray)
    (xk : Int) (xE xA : ByteArray) (xd : UInt8) (xP xR : ByteArray) (xn : Int) (xW : ByteArray) (yk : Int) (yE yA : ByteArray) (yd : UInt8) (yP yR : ByteArray) (yn : Int) (yW : ByteArray) (TA TB : ByteArray) (pe pf : Nat) (q1 q2 q3 : Bool) (w : World)
    (hAl : ∀ Y, Below w.heap.size w Y → Calls Tryd.prog 5 #[] Y fun e w' => e = .returned (.bool true) ∧ Below Y.heap.size Y w')
    (hPa : Hid (∀ Y, Below w.heap.size w Y → Calls Tryd.prog 9 #[stV k E A d P R n Wd] Y fun e w' => e = .returned (.string TA) ∧ Below Y.heap.size Y w'))
    (hPb : Hid (∀ Y, Below w.heap.size w Y → Calls Tryd.prog 9 #[stV k' E' A' d' P' R' n' Wd'] Y fun e w' => e = .returned (.string TB) ∧ Below Y.heap.size Y w'))
    (hRa : Hid (∀ Y, Below w.heap.size w Y → Calls Tryd.prog 6 #[.string TA] Y fun e w' => e = .returned (.tuple #[stV xk xE xA xd xP xR xn xW, .int .i64 (pe : Nat)]) ∧ Below Y.heap.size Y w'))
    (hRb : Hid (∀ Y, Below w.heap.size w Y → Calls Tryd.prog 6 #[.string TB] Y fun e w' => e = .returned (.tuple #[stV yk yE yA yd yP yR yn yW, .int .i64 (pf : Nat)]) ∧ Below Y.heap.size Y w'))
    (h1 : eq8 xk xE xA xd.toNat xP xR xn xW k E A d.toNat P R n Wd = q1) (h2 : eq8 yk yE yA yd.toNat yP yR yn yW k' E' A' d'.toNat P' R' n' Wd' = q2)
    (h3 : eq8 k E A d.toNat P R n Wd k' E' A' d'.toNat P' R' n' Wd' = q3) (h4 : pe = 0 → pf = 0 → q1 = true → q2 = true → (TA.toList == TB.toList) = q3) :
    Calls Tryd.prog 4 #[stV k E A d P R n Wd, stV k' E' A' d' P' R' n' Wd'] w fun e w' => e = .returned (.bool true) ∧ Below w.heap.size w w' := by
  have hn := num_c
  have K0 := Lib.hid (Kr.two w (boxO k E A d.toNat P R n Wd) (boxO k' E' A' d'.toNat P' R' n' Wd'))
  go_enter Tryd.func4, Tryd.ntmps4
  go_wp2_with fail
  refine (hAl _ K0.out.1).mono ?_
  rintro e1 w1 ⟨rfl, b1⟩
  have K1 := Lib.hid (K0.out.next b1)
  clear b1 hAl K0
  have c1 := (row8 (K1.out.get (.tail _ (.head _)))).1
  obtain ⟨a0, a1, a2, a3, a4, a5, a6, a7⟩ := c1
  go_wp2_with fail
  refine (hPa.out _ K1.out.1).mono ?_
  rintro e2 w2 ⟨rfl, b2⟩
  have K2 := Lib.hid (K1.out.next b2)
  clear b2 K1 a0 a1 a2 a3 a4 a5 a6 a7
  go_wp2_with fail
  refine (hRa.out _ K2.out.1).mono ?_
  rintro e3 w3 ⟨rfl, b3⟩
  have K3 := Lib.hid ((K2.out.next b3).new (boxO xk xE xA xd.toNat xP xR xn xW))
  clear b3 K2
  have c1 := (row8 (K3.out.get (.tail _ (.head _)))).1
  obtain ⟨a0, a1, a2, a3, a4, a5, a6, a7⟩ := c1
  go_wp2_with fail
  refine (hPb.out _ K3.out.1).mono ?_
  rintro e4 w4 ⟨rfl, b4⟩
  have K4 := Lib.hid (K3.out.next b4)
  clear b4 K3 a0 a1 a2 a3 a4 a5 a6 a7
  go_wp2_with fail
  refine (hRb.out _ K4.out.1).mono ?_
  rintro e5 w5 ⟨rfl, b5⟩
  have K5 := Lib.hid ((K4.out.next b5).new (boxO yk yE yA yd.toNat yP yR yn yW))
  clear b5 K4
  obtain ⟨⟨a0, a1, a2, a3, a4, a5, a6, a7⟩, -⟩ := row8 (K5.out.get (.tail _ (.tail _ (.tail _ (.head _)))))
  obtain ⟨⟨b0, b1, b2, b3, b4, b5, b6, b7⟩, -⟩ := row8 (K5.out.get (.tail _ (.tail _ (.head _))))
  obtain ⟨⟨x0, x1, x2, x3, x4, x5, x6, x7⟩, -⟩ := row8 (K5.out.get (.tail _ (.head _)))
  obtain ⟨⟨y0, y1, y2, y3, y4, y5, y6, y7⟩, -⟩ := row8 (K5.out.get (.head _))
  by_cases hpe : pe = 0
  · by_cases hpf : pf = 0
    · subst hpe
      subst hpf
      cases q1 with
      | false =>
        go_wp2_with (go_at_call 7; refine (hn _ _).mono ?_; rintro e w' ⟨rfl, rfl⟩)
        go_ret
        exact ⟨rfl, K5.out.1⟩
      | true =>
        cases q2 with
        | false =>
          go_wp2_with (go_at_call 7; refine (hn _ _).mono ?_; rintro e w' ⟨rfl, rfl⟩)
          go_ret
          exact ⟨rfl, K5.out.1⟩
        | true =>
          have hTT := h4 rfl rfl rfl rfl
          go_wp2_with (go_at_call 7; refine (hn _ _).mono ?_; rintro e w' ⟨rfl, rfl⟩)
          have K6 := Lib.hid K5.out.drew
          go_region_held3 (fun w' => (w'.cell? ⟨w.heap.size, 0, none⟩ = some (.int .i64 k) ∧ w'.cell? ⟨w.heap.size, 1, none⟩ = some (.string E) ∧ w'.cell? ⟨w.heap.size, 2, none⟩ = some (.string A) ∧ w'.cell? ⟨w.heap.size, 3, none⟩ = some (.int .u8 (d.toNat : Int)) ∧ w'.cell? ⟨w.heap.size, 4, none⟩ = some (.string P) ∧ w'.cell? ⟨w.heap.size, 5, none⟩ = some (.string R) ∧ w'.cell? ⟨w.heap.size, 6, none⟩ = some (.int .i64 n) ∧ w'.cell? ⟨w.heap.size, 7, none⟩ = some (.string Wd)) ∧ (w'.cell? ⟨w.heap.size + 1, 0, none⟩ = some (.int .i64 k') ∧ w'.cell? ⟨w.heap.size + 1, 1, none⟩ = some (.string E') ∧ w'.cell? ⟨w.heap.size + 1, 2, none⟩ = some (.string A') ∧ w'.cell? ⟨w.heap.size + 1, 3, none⟩ = some (.int .u8 (d'.toNat : Int)) ∧ w'.cell? ⟨w.heap.size + 1, 4, none⟩ = some (.string P') ∧ w'.cell? ⟨w.heap.size + 1, 5, none⟩ = some (.string R') ∧ w'.cell? ⟨w.heap.size + 1, 6, none⟩ = some (.int .i64 n') ∧ w'.cell? ⟨w.heap.size + 1, 7, none⟩ = some (.string Wd')))
            (first | exact ⟨(row8 (K6.out.get (.tail _ (.tail _ (.tail _ (.head _)))))).1, (row8 (K6.out.get (.tail _ (.tail _ (.head _))))).1⟩ | exact ⟨(row8 (K7.out.get (.tail _ (.tail _ (.tail _ (.head _)))))).1, (row8 (K7.out.get (.tail _ (.tail _ (.head _))))).1⟩ | exact ⟨(row8 (K8.out.get (.tail _ (.tail _ (.tail _ (.head _)))))).1, (row8 (K8.out.get (.tail _ (.tail _ (.head _))))).1⟩ | fail)
            (first
              | (go_at_call 9; with_reducible refine (hPa.out _ K6.out.below).mono ?_; rintro e w7 ⟨rfl, b7⟩; have K7 := Lib.hid (K6.out.next b7); clear b7)
              | (go_at_call 9; with_reducible refine (hPb.out _ K7.out.below).mono ?_; rintro e w8 ⟨rfl, b8⟩; have K8 := Lib.hid (K7.out.next b8); clear b8)
              | fail)
          go_wp2_with fail
          go_ret
          exact ⟨ret_bool (by simp), K8.out.1⟩
    · have c0 : ((pf : Int) != 0) = true := by rw [bne_iff_ne]; omega
      subst hpe
      go_wp2_with (go_at_call 7; refine (hn _ _).mono ?_; rintro e w' ⟨rfl, rfl⟩)
      go_ret
      exact ⟨rfl, K5.out.1⟩
  · have c0 : ((pe : Int) != 0) = true := by rw [bne_iff_ne]; omega
    go_wp2_with (go_at_call 7; refine (hn _ _).mono ?_; rintro e w' ⟨rfl, rfl⟩)
    go_ret
    exact ⟨rfl, K5.out.1⟩

theorem S_inj {a b : List UInt8} : S a = S b ↔ a = b := ⟨fun h => by rw [← list_S a, ← list_S b, h], fun h => by rw [h]⟩
theorem eq8_st (s t : St) : eq8 s.k (S s.e) (S s.a) s.d.toNat (S s.p) (S s.r) s.n (S s.w) t.k (S t.e) (S t.a) t.d.toNat (S t.p) (S t.r) t.n (S t.w) = decide (s = t) := by
  unfold eq8
  congr 1
  rw [eq_iff_iff, S_inj, S_inj, S_inj, S_inj, S_inj]
  obtain ⟨k, e, a, d, p, r, n, w⟩ := s
  obtain ⟨k', e', a', d', p', r', n', w'⟩ := t
  simp only [St.mk.injEq]
  have hd : ((d.toNat : Int) = (d'.toNat : Int)) ↔ d = d' := ⟨fun h => UInt8.toNat_inj.1 (by omega), fun h => by rw [h]⟩
  rw [hd]

theorem law_unlike (W : World) (a b : St) (ha : Sized a) (hb : Sized b) (la : a.e.length + a.a.length + a.p.length + a.r.length + a.w.length ≤ 1048576) (lb : b.e.length + b.a.length + b.p.length + b.r.length + b.w.length ≤ 1048576) (hT : Tabs W) (hM : MaxAt W) :
    Calls Tryd.prog 4 #[stW a, stW b] W fun e W' => e = .returned (.bool true) ∧ Below W.heap.size W W' := by
  have sa := show_le a ha
  have sb := show_le b hb
  refine unlike_w a.k (S a.e) (S a.a) a.d (S a.p) (S a.r) a.n (S a.w) b.k (S b.e) (S b.a) b.d (S b.p) (S b.r) b.n (S b.w)
    (parS (showL a)).k (S (parS (showL a)).e) (S (parS (showL a)).a) (parS (showL a)).d (S (parS (showL a)).p) (S (parS (showL a)).r) (parS (showL a)).n (S (parS (showL a)).w)
    (parS (showL b)).k (S (parS (showL b)).e) (S (parS (showL b)).a) (parS (showL b)).d (S (parS (showL b)).p) (S (parS (showL b)).r) (parS (showL b)).n (S (parS (showL b)).w)
    (S (showL a)) (S (showL b)) (parE (showL a)) (parE (showL b)) (decide (parS (showL a) = a)) (decide (parS (showL b) = b)) (decide (a = b)) W
    (fun Y h => alive_c Y (hT.kept h)) (fun Y h => print_c a ha Y (hT.kept h)) (fun Y h => print_c b hb Y (hT.kept h))
    (fun Y h => parse_c _ (by omega) Y (hT.kept h) (hM.kept h)) (fun Y h => parse_c _ (by omega) Y (hT.kept h) (hM.kept h)) (eq8_st _ _) (eq8_st _ _) (eq8_st _ _) ?_
  intro _ _ qa qb
  have qa := of_decide_eq_true qa
  have qb := of_decide_eq_true qb
  rw [eqT]
  congr 1
  rw [eq_iff_iff]
  exact ⟨fun h => by rw [← qa, ← qb, h], fun h => by rw [h]⟩
end Go.Proofs.YtbpccbdgkkfdpaaDoor.Mks
