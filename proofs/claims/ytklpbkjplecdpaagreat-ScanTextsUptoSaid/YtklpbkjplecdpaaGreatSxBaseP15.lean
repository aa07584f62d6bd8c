/-
  Part 15: ScwFollow, ScwAsk.
-/
import Derived.Test.YtklpbkjplecdpaaGreatSxBaseP14
import Derived.Deep.RegionHeld3
import Derived.Deep.DrawnRows
import Derived.BigQuiet
/-
  Contracts of package scan: what follows a text through its place's language; references.
-/
namespace Go.Proofs.YtklpbkjplecdpaaGreat.Scw
open Go.RowKit Oct Crf Scn Tab Tok

theorem oct_good {k : Nat} {s v : Sc} {c : UInt8} (h : Scn.Good (s.n, s.w)) (g : octK k s c = .ok v) : Scn.Good (v.n, v.w) := by
  unfold octK at g
  split at g
  · injection g with g; subst g; exact h
  · split at g
    · cases g
    · injection g with g
      subst g
      show Scn.Good (stepK k (s.n, s.w) c)
      unfold stepK
      split
      · exact good_u _ _ h
      · split
        · exact good_j _ _ h
        · exact good_c _ _ h
theorem dem_same {k : Nat} {s v : Sc} (g : demS k s = .ok v) : v = s := by
  unfold demS at g
  split at g
  · cases g
  · split at g
    · cases g
    · injection g with g; exact g.symm
theorem fol_good {k : Nat} (l : List UInt8) : ∀ {s v : Sc}, Scn.Good (s.n, s.w) → folS k l s = .ok v → Scn.Good (v.n, v.w) ∧ v.r = s.r := by
  induction l with
  | nil => intro s v h g; injection g with g; subst g; exact ⟨h, rfl⟩
  | cons c t ih =>
    intro s v h g
    rw [fol_cons] at g
    obtain ⟨a, h1, h2⟩ := andThen_ok g
    obtain ⟨a2, h3, h4⟩ := andThen_ok h2
    have e := dem_same h3
    subst e
    have hg := oct_good h h1
    obtain ⟨q1, q2⟩ := ih hg h4
    refine ⟨q1, q2.trans ?_⟩
    unfold octK at h1
    split at h1
    · injection h1 with h1; rw [h1]
    · split at h1
      · cases h1
      · injection h1 with h1; rw [← h1]; rfl
theorem at_S2 (l : List UInt8) (k : Nat) (h : k < l.length) : (S l)[k]'(by rw [size_S]; exact h) = l[k] := rfl
theorem fol_drop (m : Nat) (l : List UInt8) (k : Nat) (h : k < l.length) (u : Sc) : folS m (l.drop k) u = andThen (octK m u l[k]) fun v => andThen (demS m v) fun v' => folS m (l.drop (k + 1)) v' := by
  rw [List.drop_eq_getElem_cons h, fol_cons]

set_option maxHeartbeats 1000000 in
set_option maxRecDepth 100000 in
theorem follow_c (l : List UInt8) (hl : l.length ≤ 100000) (R : Nat) (T : TypeId) (tl : List Value) (s : Sc) (hg : Scn.Good (s.n, s.w)) (w : World) (h : Wk R T tl s w) :
    Calls Tryz.prog 83 #[.pointer (some ⟨R, 0, none⟩), .string (S l)] w (To R T tl w (folS (rulN s) l s)) := by
  have hsz : ((S l).size : Int) = (l.length : Int) := by rw [size_S]
  have hli : (l.length : Int) ≤ 100000 := by omega
  have hr := rules_c s.e s.a R T tl (s.k : Int) s.d (S s.p) (S s.r) s.n (S s.w) w h
  rw [rul_nat] at hr
  generalize rulN s = m at hr ⊢
  have HOne := Lib.hid (fun k (h : k < l.length) => at_S2 l k h)
  have HO := Lib.hid (fun c u (hg : Scn.Good (u.n, u.w)) W (h : Wk R T tl u W) => followOctet_c m c R T tl u hg W h)
  have HD := Lib.hid (fun u W (h : Wk R T tl u W) => demandFollowed_c m R T tl u W h)
  have HF := Lib.hid (fun k (h : k < l.length) u => fol_drop m l k h u)
  have HW := Lib.hid (And.intro h hg)
  clear h hg
  go_enter Tryz.func83, Tryz.ntmps83
  go_wp2_with fail
  refine hr.mono ?_
  rintro e w1 ⟨rfl, hb⟩
  have K1 : Hid (Wk R T tl s w1 ∧ Scn.Good (s.n, s.w) ∧ Keeps R w w1) := ⟨HW.out.1.keep hb, HW.out.2, Keeps.of hb⟩
  clear hb hr
  go_wp2_with fail
  go_loopw [10] (fun i wr => ∃ (k : Nat) (u : Sc), k ≤ l.length ∧ i = .int .i64 k ∧ Hid (folS m l s = folS m (l.drop k) u ∧ Wk R T tl u wr ∧ Scn.Good (u.n, u.w) ∧ Keeps R w wr)) (fun i _ => l.length - (intOf i).toNat)
  case atStart => exact ⟨0, s, Nat.zero_le _, rfl, rfl, K1.out.1, K1.out.2.1, K1.out.2.2⟩
  case round =>
    obtain ⟨k, u, hk, rfl, HB⟩ := hrel
    clear K1
    by_cases hlt : k < l.length
    · have h1 := HOne.out k hlt
      have hf := Lib.hid (HF.out k hlt u)
      have ho := HO.out l[k] u HB.out.2.2.1 wr HB.out.2.1
      have hgd := Lib.hid (fun v (g : octK m u l[k] = .ok v) => oct_good HB.out.2.2.1 g)
      generalize l[k] = c at h1 ho hf hgd
      have j0 : (0 : Int) ≤ (k : Int) := by omega
      have j1 : (k : Int) < (l.length : Int) := by omega
      have hcb : (c.toNat : Int) ≤ 255 := by have := c.toNat_lt; omega
      obtain ⟨L, hL⟩ : ∃ L, L = S l := ⟨_, rfl⟩
      generalize octK m u c = x at ho hf hgd
      go_wp2_with fail
      refine ho.mono ?_
      rintro e w2 ⟨hk2, hx⟩
      clear ho
      cases x with
      | error n =>
        subst hx
        refine ⟨rfl, ?_⟩
        have e1 := HB.out.1.trans hf.out
        rw [then_err] at e1
        rw [e1]
        exact To.err (HB.out.2.2.2.trans hk2)
      | ok v =>
        obtain ⟨rfl, hw2⟩ := hx
        have hd := HD.out v w2 hw2
        have H2 := Lib.hid (And.intro hw2 (And.intro (hgd.out v rfl) (HB.out.2.2.2.trans hk2)))
        clear hw2 hk2 hgd
        have hds := Lib.hid (fun v' (g : demS m v = .ok v') => dem_same g)
        have hf2 : Hid (folS m l s = andThen (demS m v) fun v' => folS m (l.drop (k + 1)) v') := HB.out.1.trans hf.out
        generalize demS m v = y at hd hds hf2
        clear hf
        go_wp2_with fail
        refine hd.mono ?_
        rintro e w3 ⟨he, rfl⟩
        clear hd
        cases y with
        | error n =>
          subst he
          refine ⟨rfl, ?_⟩
          have e1 := hf2.out
          rw [then_err] at e1
          rw [e1]
          exact To.err H2.out.2.2
        | ok v' =>
          subst he
          have hv := hds.out v' rfl
          subst hv
          go_wp2_with fail
          go_roundw
          case rel => exact ⟨k + 1, v', by omega, by go_num, hf2.out, H2.out⟩
          case measure => simp [intOf]; omega
    · have hkl : k = l.length := by omega
      subst hkl
      have e1 : folS m l s = .ok u := by rw [HB.out.1, List.drop_length]; rfl
      rw [e1]
      clear HOne e1
      go_wp2_with fail
      go_end0
      exact To.ok HB.out.2.2.2 HB.out.2.1

theorem one_le (l : List UInt8) : (oneL l).1.length ≤ 4 := by
  have hst : ∀ n, (standL n).length ≤ 4 := fun n => by
    unfold standL
    split
    · exact (Utf.enc_len _).2
    · decide
  have hr : ∀ i, (refR i).length ≤ 4 := fun i => by
    unfold refR
    split
    · unfold nameR
      repeat' split
      all_goals decide
    · split
      · split
        · decide
        · exact hst _
      · decide
  by_cases h : (oneL l).2 = 0
  · rw [one_zero h]; decide
  · obtain ⟨i, t, _, _, he⟩ := one_some h
    rw [he]
    exact hr i
def RefTo (R : Nat) (c : UInt8) (w : World) (x : Except Nat (Sc × Bool)) (e : Ending) (w' : World) : Prop :=
  Keeps R w w' ∧ match x with
    | .ok p => e = .returned (.bool p.2) ∧ Wk R 47 (Octet c) p.1 w'
    | .error n => e = Fault (n : Int)
theorem set_ref {R : Nat} {T : TypeId} {tl : List Value} {s : Sc} {w : World} (h : Wk R T tl s w) (r : List UInt8) : Wk R T tl { s with r := r } (w.setCell ⟨R, 5, none⟩ (.string (S r))) := by
  have h8 := heap_setCell_same _ R 5 _ _ (.string (S r)) h
  simp only [List.setIfInBounds_toArray, List.set_cons_zero, List.set_cons_succ] at h8
  exact h8
theorem set_pend {R : Nat} {T : TypeId} {tl : List Value} {s : Sc} {w : World} (h : Wk R T tl s w) (r : List UInt8) : Wk R T tl { s with p := r } (w.setCell ⟨R, 4, none⟩ (.string (S r))) := by
  have h8 := heap_setCell_same _ R 4 _ _ (.string (S r)) h
  simp only [List.setIfInBounds_toArray, List.set_cons_zero, List.set_cons_succ] at h8
  exact h8
theorem eqT (a b : List UInt8) : ((S a).toList == b) = decide (a = b) := by
  rw [ByteArray.toList_eq]
  simp only
  rw [Bool.eq_iff_iff]
  simp
theorem eq_u8 (c : UInt8) (n : Nat) (hn : n < 256) : ((c.toNat : Int) == (n : Int)) = decide (c = n.toUInt8) := by
  rw [eq_oct c n hn, Bool.eq_iff_iff, beq_iff_eq, decide_eq_true_iff]
theorem ne_u8 (c : UInt8) (n : Nat) (hn : n < 256) : ((c.toNat : Int) != (n : Int)) = decide (c ≠ n.toUInt8) := by
  rw [bne, eq_u8 c n hn]
  simp

set_option maxHeartbeats 1000000 in
set_option maxRecDepth 100000 in
theorem refers0_c (c : UInt8) (R : Nat) (s : Sc) (hr : s.r = []) (w : World) (h : Wk R 47 (Octet c) s w) :
    Calls Tryz.prog 71 #[.pointer (some ⟨R, 0, none⟩)] w (RefTo R c w (ref0 s c)) := by
  have HW := Lib.hid h
  obtain ⟨c0, c1, c2, c3, c4, c5, c6, c7⟩ := h.cells
  have c8 := h.last
  have e38 : ((c.toNat : Int) != 38) = decide (c ≠ 38) := ne_u8 c 38 (by decide)
  have b1 : ((S s.r).toList == []) = true := by rw [eqT, hr]; rfl
  unfold ref0
  by_cases h38 : c = 38
  · rw [if_pos h38]
    rw [decide_eq_false (fun g => g h38)] at e38
    have HS : Hid (∀ W, Below w.heap.size w W → Calls Tryz.prog 84 #[.pointer (some ⟨R, 0, none⟩)] W fun e w' => e = .returned (.string (S [c])) ∧ Below W.heap.size W w') := fun W hb => said_c c R 47 _ _ _ _ _ _ _ _ W (h.keep hb)
    have hu := fun w => unf_c [38] (by decide) w
    have hun : unfL [38] = true := by decide
    rw [hun] at hu
    have ha : S s.r ++ S [c] = S [38] := by rw [S_append, hr, h38]; rfl
    have z1 : (S s.r).size ≤ 16 := by rw [size_S, hr]; decide
    have z2 : (S [c]).size ≤ 1 := by rw [size_S]; simp
    have hc2 : ¬ (9223372036854775807 < (S s.r).size + (S [c]).size) := by omega
    have fin : Hid (∀ W, Below w.heap.size w W → RefTo R c w (.ok ({ s with r := [38] }, true)) (.returned (.bool true)) (W.setCell ⟨R, 5, none⟩ (.string (S [38])))) := fun W hb => ⟨(Keeps.of hb).trans (Keeps.set W _), rfl, set_ref (h.keep hb) [38]⟩
    have HZ : Hid (∀ W, Below w.heap.size w W → W.frozen? ⟨R, 5, none⟩ = false ∧ W.cell? ⟨R, 5, none⟩ = some (.string (S s.r))) := fun W hb => ⟨(h.keep hb).froz.2.2.2.2.2.1, (h.keep hb).cells.2.2.2.2.2.1⟩
    have H0 := Lib.hid ((Below.refl w.heap.size w).drew)
    clear h hun hr h38
    generalize S [38] = RF at *
    generalize S [c] = Y at *
    generalize S s.r = X at *
    generalize (c.toNat : Int) = n at *
    have o5 := (HZ.out _ H0.out).2
    go_enter Tryz.func71, Tryz.ntmps71
    go_wp2_with fail
    go_region_held3 (fun w' => w'.cell? ⟨R, 5, none⟩ = some (.string X)) (first | with_reducible exact o5 | with_reducible exact d5 | fail)
      (first
        | (go_at_call 84; refine (HS.out _ H0.out).mono ?_; rintro e w1 ⟨rfl, hb1⟩; have HB := Lib.hid (H0.out.trans (hb1.mono H0.out.size)); have d5 := (HZ.out _ HB.out).2; clear hb1)
        | fail)
    go_wp2_with fail
    refine (hu _).mono ?_
    rintro e w2 ⟨rfl, hb2⟩
    have HB2 := Lib.hid (HB.out.trans (hb2.mono HB.out.size))
    obtain ⟨y5, d5'⟩ := HZ.out _ HB2.out
    clear hb2 d5
    go_wp2_with fail
    go_ret
    have q := fin.out _ HB2.out
    exact q
  · rw [if_neg h38]
    rw [decide_eq_true h38] at e38
    clear h h38
    generalize S s.r = X at *
    generalize (c.toNat : Int) = n at *
    go_enter Tryz.func71, Tryz.ntmps71
    go_wp2_with fail
    go_ret
    exact ⟨Keeps.refl R w, rfl, HW.out⟩

set_option maxHeartbeats 2000000 in
set_option maxRecDepth 100000 in
theorem refers_c (c : UInt8) (R : Nat) (s : Sc) (hr16 : s.r.length ≤ 16) (hg : Scn.Good (s.n, s.w)) (w : World) (h : Wk R 47 (Octet c) s w) :
    Calls Tryz.prog 71 #[.pointer (some ⟨R, 0, none⟩)] w (RefTo R c w (refC s c)) := by
  by_cases hr : s.r = []
  · unfold refC
    rw [if_pos hr]
    exact refers0_c c R s hr w h
  have HW := Lib.hid h
  obtain ⟨c0, c1, c2, c3, c4, c5, c6, c7⟩ := h.cells
  have c8 := h.last
  have b1 : ((S s.r).toList == []) = false := by rw [eqT]; exact decide_eq_false hr
  have HS : Hid (∀ W, Below w.heap.size w W → Calls Tryz.prog 84 #[.pointer (some ⟨R, 0, none⟩)] W fun e w' => e = .returned (.string (S [c])) ∧ Below W.heap.size W w') := fun W hb => said_c c R 47 _ _ _ _ _ _ _ _ W (h.keep hb)
  have hlr : (s.r ++ [c]).length ≤ 17 := by rw [List.length_append, List.length_singleton]; omega
  have hu := fun w => unf_c (s.r ++ [c]) (by omega) w
  have ho := fun w => one_c (s.r ++ [c]) (by omega) w
  have ha : S s.r ++ S [c] = S (s.r ++ [c]) := S_append _ _
  have z1 : (S s.r).size ≤ 16 := by rw [size_S]; exact hr16
  have z2 : (S [c]).size ≤ 1 := by rw [size_S]; simp
  have hc2 : ¬ (9223372036854775807 < (S s.r).size + (S [c]).size) := by omega
  have hz : ((S (s.r ++ [c])).size : Int) = ((s.r ++ [c]).length : Int) := by rw [size_S]
  have HZ : Hid (∀ W, Below w.heap.size w W → W.frozen? ⟨R, 5, none⟩ = false ∧ W.cell? ⟨R, 5, none⟩ = some (.string (S s.r))) := fun W hb => ⟨(h.keep hb).froz.2.2.2.2.2.1, (h.keep hb).cells.2.2.2.2.2.1⟩
  have H0 := Lib.hid ((Below.refl w.heap.size w).drew)
  have HN : Hid (∀ W, Below w.heap.size w W → Wk R 47 (Octet c) { s with r := [] } (W.setCell ⟨R, 5, none⟩ (.string ⟨#[]⟩)) ∧ Keeps R w (W.setCell ⟨R, 5, none⟩ (.string ⟨#[]⟩))) := fun W hb => ⟨set_ref (h.keep hb) [], (Keeps.of hb).trans (Keeps.set W _)⟩
  have hrul : rulN s = rulN { s with r := [] } := rul_keeps ⟨rfl, rfl, rfl⟩
  unfold refC
  rw [if_neg hr]
  by_cases hun : unfL (s.r ++ [c]) = true
  · rw [if_pos hun]
    rw [hun] at hu
    have fin : Hid (∀ W, Below w.heap.size w W → RefTo R c w (.ok ({ s with r := s.r ++ [c] }, true)) (.returned (.bool true)) (W.setCell ⟨R, 5, none⟩ (.string (S (s.r ++ [c]))))) := fun W hb => ⟨(Keeps.of hb).trans (Keeps.set W _), rfl, set_ref (h.keep hb) _⟩
    clear h hun hr hg ho hrul HN hz hlr hr16
    generalize S (s.r ++ [c]) = RF at *
    generalize S [c] = Y at *
    generalize S s.r = X at *
    generalize (c.toNat : Int) = n at *
    have o5 := (HZ.out _ H0.out).2
    go_enter Tryz.func71, Tryz.ntmps71
    go_wp2_with fail
    go_region_held3 (fun w' => w'.cell? ⟨R, 5, none⟩ = some (.string X)) (first | with_reducible exact o5 | with_reducible exact d5 | fail)
      (first
        | (go_at_call 84; refine (HS.out _ H0.out).mono ?_; rintro e w1 ⟨rfl, hb1⟩; have HB := Lib.hid (H0.out.trans (hb1.mono H0.out.size)); have d5 := (HZ.out _ HB.out).2; clear hb1)
        | fail)
    go_wp2_with fail
    refine (hu _).mono ?_
    rintro e w2 ⟨rfl, hb2⟩
    have HB2 := Lib.hid (HB.out.trans (hb2.mono HB.out.size))
    clear hb2 d5
    obtain ⟨y5, d5'⟩ := HZ.out _ HB2.out
    go_wp2_with fail
    go_ret
    have q := fin.out _ HB2.out
    exact q
  rw [if_neg hun]
  rw [Bool.eq_false_iff.2 hun] at hu
  by_cases hend : (oneL (s.r ++ [c])).2 = (s.r ++ [c]).length
  · rw [if_pos hend, hrul]
    have be : (((oneL (s.r ++ [c])).2 : Int) == ((s.r ++ [c]).length : Int)) = true := by rw [hend]; simp
    have HFol : Hid (∀ W, Wk R 47 (Octet c) { s with r := [] } W → Calls Tryz.prog 83 #[.pointer (some ⟨R, 0, none⟩), .string (S (oneL (s.r ++ [c])).1)] W (To R 47 (Octet c) W (folS (rulN { s with r := [] }) (oneL (s.r ++ [c])).1 { s with r := [] }))) :=
      fun W g => follow_c (oneL (s.r ++ [c])).1 (by have := one_le (s.r ++ [c]); omega) R 47 (Octet c) { s with r := [] } hg W g
    generalize folS (rulN { s with r := [] }) (oneL (s.r ++ [c])).1 { s with r := [] } = x at HFol ⊢
    clear h hun hr hg hrul hend hlr hr16
    generalize S (oneL (s.r ++ [c])).1 = ST at *
    generalize ((oneL (s.r ++ [c])).2 : Int) = sz at *
    generalize ((s.r ++ [c]).length : Int) = ln at *
    generalize S (s.r ++ [c]) = RF at *
    generalize S [c] = Y at *
    generalize S s.r = X at *
    generalize (c.toNat : Int) = n at *
    have o5 := (HZ.out _ H0.out).2
    go_enter Tryz.func71, Tryz.ntmps71
    go_wp2_with fail
    go_region_held3 (fun w' => w'.cell? ⟨R, 5, none⟩ = some (.string X)) (first | with_reducible exact o5 | with_reducible exact d5 | fail)
      (first
        | (go_at_call 84; refine (HS.out _ H0.out).mono ?_; rintro e w1 ⟨rfl, hb1⟩; have HB := Lib.hid (H0.out.trans (hb1.mono H0.out.size)); have d5 := (HZ.out _ HB.out).2; clear hb1)
        | fail)
    go_wp2_with fail
    refine (hu _).mono ?_
    rintro e w2 ⟨rfl, hb2⟩
    have HB2 := Lib.hid (HB.out.trans (hb2.mono HB.out.size))
    clear hb2 d5
    go_wp2_with fail
    refine (ho _).mono ?_
    rintro e w3 ⟨rfl, hb3⟩
    have HB3 := Lib.hid (HB2.out.trans (hb3.mono HB2.out.size))
    obtain ⟨y5, d5'⟩ := HZ.out _ HB3.out
    clear hb3
    go_wp2_with fail
    refine (HFol.out _ (HN.out _ HB3.out).1).mono ?_
    rintro e w4 ⟨hk4, hx⟩
    have K4 := Lib.hid ((HN.out _ HB3.out).2.trans hk4)
    clear hk4 y5 d5'
    cases x with
    | error n =>
      subst hx
      exact ⟨rfl, K4.out, rfl⟩
    | ok u =>
      obtain ⟨rfl, hw⟩ := hx
      have HU := Lib.hid hw
      clear hw
      go_wp2_with fail
      go_ret
      exact ⟨K4.out, rfl, HU.out⟩
  · rw [if_neg hend, hrul]
    have be : (((oneL (s.r ++ [c])).2 : Int) == ((s.r ++ [c]).length : Int)) = false := by rw [beq_eq_false_iff_ne]; omega
    have HFol : Hid (∀ W, Wk R 47 (Octet c) { s with r := [] } W → Calls Tryz.prog 83 #[.pointer (some ⟨R, 0, none⟩), .string (S s.r)] W (To R 47 (Octet c) W (folS (rulN { s with r := [] }) s.r { s with r := [] }))) :=
      fun W g => follow_c s.r (by omega) R 47 (Octet c) { s with r := [] } hg W g
    have HR0 : Hid (∀ u, folS (rulN { s with r := [] }) s.r { s with r := [] } = .ok u → ∀ W, Wk R 47 (Octet c) u W → Calls Tryz.prog 71 #[.pointer (some ⟨R, 0, none⟩)] W (RefTo R c W (ref0 u c))) :=
      fun u g W hW => refers0_c c R u (fol_good _ (s := { s with r := [] }) hg g).2 W hW
    generalize folS (rulN { s with r := [] }) s.r { s with r := [] } = x at HFol HR0 ⊢
    generalize hq : thenB x (fun u => ref0 u c) = rr
    have E := Lib.hid hq
    clear hq
    clear h hun hr hg hrul hend hlr hr16
    generalize S (oneL (s.r ++ [c])).1 = ST at *
    generalize ((oneL (s.r ++ [c])).2 : Int) = sz at *
    generalize ((s.r ++ [c]).length : Int) = ln at *
    generalize S (s.r ++ [c]) = RF at *
    generalize S [c] = Y at *
    generalize S s.r = X at *
    generalize (c.toNat : Int) = n at *
    have o5 := (HZ.out _ H0.out).2
    go_enter Tryz.func71, Tryz.ntmps71
    go_wp2_with fail
    go_region_held3 (fun w' => w'.cell? ⟨R, 5, none⟩ = some (.string X)) (first | with_reducible exact o5 | with_reducible exact d5 | fail)
      (first
        | (go_at_call 84; refine (HS.out _ H0.out).mono ?_; rintro e w1 ⟨rfl, hb1⟩; have HB := Lib.hid (H0.out.trans (hb1.mono H0.out.size)); have d5 := (HZ.out _ HB.out).2; clear hb1)
        | fail)
    go_wp2_with fail
    refine (hu _).mono ?_
    rintro e w2 ⟨rfl, hb2⟩
    have HB2 := Lib.hid (HB.out.trans (hb2.mono HB.out.size))
    clear hb2 d5
    go_wp2_with fail
    refine (ho _).mono ?_
    rintro e w3 ⟨rfl, hb3⟩
    have HB3 := Lib.hid (HB2.out.trans (hb3.mono HB2.out.size))
    obtain ⟨y5, d5'⟩ := HZ.out _ HB3.out
    clear hb3
    go_wp2_with fail
    refine (HFol.out _ (HN.out _ HB3.out).1).mono ?_
    rintro e w4 ⟨hk4, hx⟩
    have K4 := Lib.hid ((HN.out _ HB3.out).2.trans hk4)
    clear hk4 y5 d5'
    cases x with
    | error n =>
      subst hx
      have er := E.out
      subst er
      exact ⟨rfl, K4.out, rfl⟩
    | ok u =>
      obtain ⟨rfl, hw⟩ := hx
      have hr0 := HR0.out u rfl w4 hw
      clear hw HR0
      go_wp2_with fail
      refine hr0.mono ?_
      have er : ref0 u c = rr := E.out
      rw [er]
      rintro e w5 ⟨hk5, hx5⟩
      have K5 := Lib.hid (K4.out.trans hk5)
      clear hk5 hr0 er E
      cases rr with
      | error n =>
        subst hx5
        exact ⟨rfl, K5.out, rfl⟩
      | ok p =>
        obtain ⟨rfl, hw⟩ := hx5
        have HU := Lib.hid hw
        clear hw
        go_wp2_with fail
        go_ret
        exact ⟨K5.out, rfl, HU.out⟩
end Go.Proofs.YtklpbkjplecdpaaGreat.Scw

/-
  Contracts of the walker of package scan: names of tags and attributes, data.
-/
namespace Go.Proofs.YtklpbkjplecdpaaGreat.Scw
open Go.RowKit Oct Crf Scn Tab Tok

abbrev AskTo (R : Nat) (c : UInt8) (w : World) (x : Res) (e : Ending) (w' : World) : Prop := To R 47 (Octet c) w x e w'
theorem set_elem {R : Nat} {T : TypeId} {tl : List Value} {s : Sc} {w : World} (h : Wk R T tl s w) (r : List UInt8) : Wk R T tl { s with e := r } (w.setCell ⟨R, 1, none⟩ (.string (S r))) := by
  have h8 := heap_setCell_same _ R 1 _ _ (.string (S r)) h
  simp only [List.setIfInBounds_toArray, List.set_cons_zero, List.set_cons_succ] at h8
  exact h8
theorem set_attr {R : Nat} {T : TypeId} {tl : List Value} {s : Sc} {w : World} (h : Wk R T tl s w) (r : List UInt8) : Wk R T tl { s with a := r } (w.setCell ⟨R, 2, none⟩ (.string (S r))) := by
  have h8 := heap_setCell_same _ R 2 _ _ (.string (S r)) h
  simp only [List.setIfInBounds_toArray, List.set_cons_zero, List.set_cons_succ] at h8
  exact h8
theorem set_delim {R : Nat} {T : TypeId} {tl : List Value} {s : Sc} {w : World} (h : Wk R T tl s w) (d : UInt8) : Wk R T tl { s with d := d } (w.setCell ⟨R, 3, none⟩ (.int .u8 (d.toNat : Int))) := by
  have h8 := heap_setCell_same _ R 3 _ _ (.int .u8 (d.toNat : Int)) h
  simp only [List.setIfInBounds_toArray, List.set_cons_zero, List.set_cons_succ] at h8
  exact h8

theorem named_yes (l : List UInt8) (hl : l.length ≤ 1000) (m : Nat) (mI : Int) (hmI : mI = (m : Int)) (c : UInt8) (R : Nat) (s : Sc) (hm : l.length < m) (w : World) (h : Wk R 47 (Octet c) s w) :
    Calls Tryz.prog 78 #[.pointer (some ⟨R, 0, none⟩), .string (S l), .int .i64 mI] w fun e w' => e = .returned (.string (S (l ++ [low c]))) ∧ Below w.heap.size w w' := by
  refine (named_c l hl m mI hmI c R s w h).mono ?_
  rintro e w' ⟨he, hb⟩
  rw [if_pos hm] at he
  exact ⟨he, hb⟩
theorem named_no (l : List UInt8) (hl : l.length ≤ 1000) (m : Nat) (mI : Int) (hmI : mI = (m : Int)) (c : UInt8) (R : Nat) (s : Sc) (hm : ¬ l.length < m) (w : World) (h : Wk R 47 (Octet c) s w) :
    Calls Tryz.prog 78 #[.pointer (some ⟨R, 0, none⟩), .string (S l), .int .i64 mI] w fun e w' => e = Fault 5 ∧ Below w.heap.size w w' := by
  refine (named_c l hl m mI hmI c R s w h).mono ?_
  rintro e w' ⟨he, hb⟩
  rw [if_neg hm] at he
  exact ⟨he, hb⟩

set_option maxHeartbeats 1000000 in
set_option maxRecDepth 100000 in
theorem askTagName_c (c : UInt8) (R : Nat) (s : Sc) (he : s.e.length ≤ 100) (w : World) (h : Wk R 47 (Octet c) s w) :
    Calls Tryz.prog 41 #[.pointer (some ⟨R, 0, none⟩)] w (AskTo R c w (nameC s c)) := by
  have hl := leavesName_c 5 5 rfl c R s w h
  have E : Hid (nameC s c = match leavesN 5 s c with
    | some r => r
    | none => if s.e.length < 32 + (if endE s.e = true then 1 else 0) then .ok { s with e := s.e ++ [low c] } else .error 5) := by show _ = _; rfl
  have HI : Hid (∀ W, Wk R 47 (Octet c) s W → Calls Tryz.prog 77 #[.pointer (some ⟨R, 0, none⟩)] W fun e w' => e = .returned (.bool (endE s.e)) ∧ W = w') := fun W g => inEndTag_c s.e R _ _ _ _ _ _ _ _ _ W g
  have HM : Hid (∀ (m : Nat) (mI : Int), mI = (m : Int) → s.e.length < m → ∀ W, Wk R 47 (Octet c) s W → Calls Tryz.prog 78 #[.pointer (some ⟨R, 0, none⟩), .string (S s.e), .int .i64 mI] W fun e w' => e = .returned (.string (S (s.e ++ [low c]))) ∧ Below W.heap.size W w') :=
    fun m mI hm hlt W g => named_yes s.e (by omega) m mI hm c R s hlt W g
  have HM2 : Hid (∀ (m : Nat) (mI : Int), mI = (m : Int) → ¬ s.e.length < m → ∀ W, Wk R 47 (Octet c) s W → Calls Tryz.prog 78 #[.pointer (some ⟨R, 0, none⟩), .string (S s.e), .int .i64 mI] W fun e w' => e = Fault 5 ∧ Below W.heap.size W w') :=
    fun m mI hm hlt W g => named_no s.e (by omega) m mI hm c R s hlt W g
  have HC : Hid (∀ W, Wk R 47 (Octet c) s W → W.cell? ⟨R, 1, none⟩ = some (.string (S s.e)) ∧ W.frozen? ⟨R, 1, none⟩ = false) := fun W g => ⟨g.cells.2.1, g.froz.2.1⟩
  have HS : Hid (∀ W, Wk R 47 (Octet c) s W → Wk R 47 (Octet c) { s with e := s.e ++ [low c] } (W.setCell ⟨R, 1, none⟩ (.string (S (s.e ++ [low c])))) ∧ Keeps R W (W.setCell ⟨R, 1, none⟩ (.string (S (s.e ++ [low c]))))) := fun W g => ⟨set_elem g _, Keeps.set W _⟩
  clear h he
  generalize nameC s c = res at E ⊢
  generalize leavesN 5 s c = x at hl E
  generalize S (s.e ++ [low c]) = RF at *
  generalize S s.e = X at *
  go_enter Tryz.func41, Tryz.ntmps41
  go_wp2_with fail
  refine hl.mono ?_
  rintro e w1 ⟨hk, hx⟩
  clear hl
  cases x with
  | some r =>
    obtain rfl : res = r := E.out
    cases res with
    | error n =>
      subst hx
      exact ⟨rfl, To.err hk⟩
    | ok u =>
      obtain ⟨rfl, hw⟩ := hx
      have K := Lib.hid (To.ok hk hw)
      clear hk hw
      go_wp2_with fail
      go_end0
      exact K.out
  | none =>
    obtain ⟨rfl, hw⟩ := hx
    have E2 : Hid (res = if s.e.length < 32 + (if endE s.e = true then 1 else 0) then .ok { s with e := s.e ++ [low c] } else .error 5) := E.out
    have K := Lib.hid (And.intro hk hw)
    have hi := HI.out _ hw
    clear hk hw E HI
    cases hb : endE s.e with
    | true =>
      rw [hb] at hi
      have er0 := E2.out
      rw [hb] at er0
      have er : res = if s.e.length < 33 then .ok { s with e := s.e ++ [low c] } else .error 5 := er0
      clear E2 hb er0
      by_cases hlt : s.e.length < 33
      · rw [if_pos hlt] at er
        have ER := Lib.hid er
        clear er
        have HN := Lib.hid (HM.out 33 33 rfl hlt)
        have HS2 := Lib.hid (fun W (hb : Below w1.heap.size w1 W) => HS.out W (K.out.2.keep hb))
        have HC2 := Lib.hid (fun W (hb : Below w1.heap.size w1 W) => HC.out W (K.out.2.keep hb))
        obtain ⟨d1, y1⟩ := HC.out _ K.out.2
        clear hlt HS HC HM HM2
        go_wp2_with fail
        refine hi.mono ?_
        rintro e w2 ⟨rfl, rfl⟩
        clear hi
        go_wp2_with fail
        refine (HN.out _ K.out.2).mono ?_
        rintro e w3 ⟨rfl, hb3⟩
        have q := HS2.out _ hb3
        obtain ⟨d1', y1'⟩ := HC2.out _ hb3
        have KQ := Lib.hid (And.intro q.1 (K.out.1.trans ((Keeps.of hb3).trans q.2)))
        clear hb3 q d1 y1
        go_wp2_with fail
        go_end0
        rw [ER.out]
        exact To.ok KQ.out.2 KQ.out.1
      · rw [if_neg hlt] at er
        have ER := Lib.hid er
        clear er
        have HN := Lib.hid (HM2.out 33 33 rfl hlt)
        obtain ⟨d1, y1⟩ := HC.out _ K.out.2
        clear hlt HS HC HM HM2
        go_wp2_with fail
        refine hi.mono ?_
        rintro e w2 ⟨rfl, rfl⟩
        clear hi
        go_wp2_with fail
        refine (HN.out _ K.out.2).mono ?_
        rintro e w3 ⟨rfl, hb3⟩
        have q := To.err (T := 47) (tl := Octet c) (n := 5) (K.out.1.trans (Keeps.of hb3))
        rw [← ER.out] at q
        exact ⟨rfl, q⟩
    | false =>
      rw [hb] at hi
      have er0 := E2.out
      rw [hb] at er0
      have er : res = if s.e.length < 32 then .ok { s with e := s.e ++ [low c] } else .error 5 := er0
      clear E2 hb er0
      by_cases hlt : s.e.length < 32
      · rw [if_pos hlt] at er
        have ER := Lib.hid er
        clear er
        have HN := Lib.hid (HM.out 32 32 rfl hlt)
        have HS2 := Lib.hid (fun W (hb : Below w1.heap.size w1 W) => HS.out W (K.out.2.keep hb))
        have HC2 := Lib.hid (fun W (hb : Below w1.heap.size w1 W) => HC.out W (K.out.2.keep hb))
        obtain ⟨d1, y1⟩ := HC.out _ K.out.2
        clear hlt HS HC HM HM2
        go_wp2_with fail
        refine hi.mono ?_
        rintro e w2 ⟨rfl, rfl⟩
        clear hi
        go_wp2_with fail
        refine (HN.out _ K.out.2).mono ?_
        rintro e w3 ⟨rfl, hb3⟩
        have q := HS2.out _ hb3
        obtain ⟨d1', y1'⟩ := HC2.out _ hb3
        have KQ := Lib.hid (And.intro q.1 (K.out.1.trans ((Keeps.of hb3).trans q.2)))
        clear hb3 q d1 y1
        go_wp2_with fail
        go_end0
        rw [ER.out]
        exact To.ok KQ.out.2 KQ.out.1
      · rw [if_neg hlt] at er
        have ER := Lib.hid er
        clear er
        have HN := Lib.hid (HM2.out 32 32 rfl hlt)
        obtain ⟨d1, y1⟩ := HC.out _ K.out.2
        clear hlt HS HC HM HM2
        go_wp2_with fail
        refine hi.mono ?_
        rintro e w2 ⟨rfl, rfl⟩
        clear hi
        go_wp2_with fail
        refine (HN.out _ K.out.2).mono ?_
        rintro e w3 ⟨rfl, hb3⟩
        have q := To.err (T := 47) (tl := Octet c) (n := 5) (K.out.1.trans (Keeps.of hb3))
        rw [← ER.out] at q
        exact ⟨rfl, q⟩

set_option maxHeartbeats 1000000 in
set_option maxRecDepth 100000 in
theorem askBefore_c (c : UInt8) (R : Nat) (s : Sc) (w : World) (h : Wk R 47 (Octet c) s w) :
    Calls Tryz.prog 42 #[.pointer (some ⟨R, 0, none⟩)] w (AskTo R c w (befC s c)) := by
  have hl := leavesName_c 5 5 rfl c R s w h
  have E : Hid (befC s c = match leavesN 5 s c with
    | some r => r
    | none => .ok { entS 6 s with a := [low c] }) := by show _ = _; rfl
  have HE : Hid (∀ W, Wk R 47 (Octet c) s W → Calls Tryz.prog 72 #[.pointer (some ⟨R, 0, none⟩), .int .i64 6] W fun e w' => e = .returned (.tuple #[]) ∧ Wk R 47 (Octet c) (entS 6 s) w' ∧ Keeps R W w') :=
    fun W g => enterS_c 6 6 rfl R _ _ s W g
  have HN : Hid (∀ W, Wk R 47 (Octet c) (entS 6 s) W → Calls Tryz.prog 78 #[.pointer (some ⟨R, 0, none⟩), .string ⟨#[]⟩, .int .i64 32] W fun e w' => e = .returned (.string (S [low c])) ∧ Below W.heap.size W w') :=
    fun W g => named_yes [] (by decide) 32 32 rfl c R (entS 6 s) (by decide) W g
  have HC : Hid (∀ W, Wk R 47 (Octet c) (entS 6 s) W → W.cell? ⟨R, 2, none⟩ = some (.string (S (entS 6 s).a)) ∧ W.frozen? ⟨R, 2, none⟩ = false) := fun W g => ⟨g.cells.2.2.1, g.froz.2.2.1⟩
  have HS : Hid (∀ W, Wk R 47 (Octet c) (entS 6 s) W → Wk R 47 (Octet c) { entS 6 s with a := [low c] } (W.setCell ⟨R, 2, none⟩ (.string (S [low c]))) ∧ Keeps R W (W.setCell ⟨R, 2, none⟩ (.string (S [low c])))) := fun W g => ⟨set_attr g _, Keeps.set W _⟩
  clear h
  generalize befC s c = res at E ⊢
  generalize leavesN 5 s c = x at hl E
  generalize S [low c] = RF at *
  go_enter Tryz.func42, Tryz.ntmps42
  go_wp2_with fail
  refine hl.mono ?_
  rintro e w1 ⟨hk, hx⟩
  clear hl
  cases x with
  | some r =>
    obtain rfl : res = r := E.out
    cases res with
    | error n =>
      subst hx
      exact ⟨rfl, To.err hk⟩
    | ok u =>
      obtain ⟨rfl, hw⟩ := hx
      have K := Lib.hid (To.ok hk hw)
      clear hk hw
      go_wp2_with fail
      go_end0
      exact K.out
  | none =>
    obtain ⟨rfl, hw⟩ := hx
    obtain rfl : res = .ok { entS 6 s with a := [low c] } := E.out
    have he := HE.out _ hw
    have K := Lib.hid hk
    clear hk hw E HE
    go_wp2_with fail
    refine he.mono ?_
    rintro e w2 ⟨rfl, hw2, hk2⟩
    have K2 := Lib.hid (And.intro hw2 (K.out.trans hk2))
    clear hw2 hk2 he K
    obtain ⟨d2, y2⟩ := HC.out _ K2.out.1
    go_wp2_with fail
    refine (HN.out _ K2.out.1).mono ?_
    rintro e w3 ⟨rfl, hb3⟩
    have q := HS.out _ (K2.out.1.keep hb3)
    obtain ⟨d2', y2'⟩ := HC.out _ (K2.out.1.keep hb3)
    have KQ := Lib.hid (And.intro q.1 (K2.out.2.trans ((Keeps.of hb3).trans q.2)))
    clear hb3 q d2 y2
    go_wp2_with fail
    go_end0
    exact To.ok KQ.out.2 KQ.out.1

set_option maxHeartbeats 1000000 in
set_option maxRecDepth 100000 in
theorem askData_c (c : UInt8) (R : Nat) (s : Sc) (hr16 : s.r.length ≤ 16) (hg : Scn.Good (s.n, s.w)) (w : World) (h : Wk R 47 (Octet c) s w) :
    Calls Tryz.prog 38 #[.pointer (some ⟨R, 0, none⟩)] w (AskTo R c w (dataC s c)) := by
  have hf := refers_c c R s hr16 hg w h
  have E : Hid (dataC s c = thenR (refC s c) fun u b => if b = false ∧ c = 60 then .ok (entS 1 u) else .ok u) := by show _ = _; rfl
  have HE : Hid (∀ u W, Wk R 47 (Octet c) u W → Calls Tryz.prog 72 #[.pointer (some ⟨R, 0, none⟩), .int .i64 1] W fun e w' => e = .returned (.tuple #[]) ∧ Wk R 47 (Octet c) (entS 1 u) w' ∧ Keeps R W w') :=
    fun u W g => enterS_c 1 1 rfl R _ _ u W g
  have HC : Hid (∀ u W, Wk R 47 (Octet c) u W → W.cell? ⟨R, 8, none⟩ = some (.int .u8 (c.toNat : Int))) := fun u W g => g.last
  have e60 : ((c.toNat : Int) == 60) = decide (c = 60) := eq_u8 c 60 (by decide)
  clear h hr16 hg
  generalize dataC s c = res at E ⊢
  generalize refC s c = x at hf E
  go_enter Tryz.func38, Tryz.ntmps38
  go_wp2_with fail
  refine hf.mono ?_
  rintro e w1 ⟨hk, hx⟩
  clear hf
  cases x with
  | error n =>
    subst hx
    obtain rfl : res = .error n := E.out
    exact ⟨rfl, To.err hk⟩
  | ok p =>
    obtain ⟨u, b⟩ := p
    obtain ⟨rfl, hw⟩ := hx
    have E2 : Hid (res = if b = false ∧ c = 60 then .ok (entS 1 u) else .ok u) := E.out
    have K := Lib.hid (And.intro hw hk)
    have c8 := HC.out _ _ hw
    have he := HE.out u _ hw
    clear hw hk E HE HC
    cases b with
    | true =>
      obtain rfl : res = .ok u := by have q := E2.out; rwa [if_neg (by simp)] at q
      go_wp2_with fail
      go_end0
      exact To.ok K.out.2 K.out.1
    | false =>
      by_cases h60 : c = 60
      · obtain rfl : res = .ok (entS 1 u) := by have q := E2.out; rwa [if_pos ⟨rfl, h60⟩] at q
        rw [decide_eq_true h60] at e60
        clear E2 h60
        go_wp2_with fail
        refine he.mono ?_
        rintro e w2 ⟨rfl, hw2, hk2⟩
        have K2 := Lib.hid (To.ok (K.out.2.trans hk2) hw2)
        clear hw2 hk2 he
        go_wp2_with fail
        go_end0
        exact K2.out
      · obtain rfl : res = .ok u := by have q := E2.out; rwa [if_neg (fun g => h60 g.2)] at q
        rw [decide_eq_false h60] at e60
        clear E2 h60
        go_wp2_with fail
        go_end0
        exact To.ok K.out.2 K.out.1

set_option maxHeartbeats 1000000 in
set_option maxRecDepth 100000 in
theorem askAttributeName_c (c : UInt8) (R : Nat) (s : Sc) (ha : s.a.length ≤ 100) (w : World) (h : Wk R 47 (Octet c) s w) :
    Calls Tryz.prog 43 #[.pointer (some ⟨R, 0, none⟩)] w (AskTo R c w (attC s c)) := by
  have hl := leavesName_c 7 7 rfl c R s w h
  have E : Hid (attC s c = if c = 61 then .ok (entS 8 s) else match leavesN 7 s c with
    | some r => r
    | none => if s.a.length < 32 then .ok { s with a := s.a ++ [low c] } else .error 5) := by show _ = _; rfl
  have he := enterS_c 8 8 rfl R _ _ s w h
  have c8 := h.last
  have e61 : ((c.toNat : Int) == 61) = decide (c = 61) := eq_u8 c 61 (by decide)
  have HN : Hid (∀ W, Wk R 47 (Octet c) s W → Calls Tryz.prog 78 #[.pointer (some ⟨R, 0, none⟩), .string (S s.a), .int .i64 32] W fun e w' => (if s.a.length < 32 then e = .returned (.string (S (s.a ++ [low c]))) else e = Fault 5) ∧ Below W.heap.size W w') := fun W g => by
    by_cases hlt : s.a.length < 32
    · simp only [if_pos hlt]; exact named_yes s.a (by omega) 32 32 rfl c R s hlt W g
    · simp only [if_neg hlt]; exact named_no s.a (by omega) 32 32 rfl c R s hlt W g
  have HC : Hid (∀ W, Wk R 47 (Octet c) s W → W.cell? ⟨R, 2, none⟩ = some (.string (S s.a)) ∧ W.frozen? ⟨R, 2, none⟩ = false) := fun W g => ⟨g.cells.2.2.1, g.froz.2.2.1⟩
  have HS : Hid (∀ W, Wk R 47 (Octet c) s W → Wk R 47 (Octet c) { s with a := s.a ++ [low c] } (W.setCell ⟨R, 2, none⟩ (.string (S (s.a ++ [low c])))) ∧ Keeps R W (W.setCell ⟨R, 2, none⟩ (.string (S (s.a ++ [low c]))))) := fun W g => ⟨set_attr g _, Keeps.set W _⟩
  clear h ha
  generalize attC s c = res at E ⊢
  generalize leavesN 7 s c = x at hl E
  generalize S (s.a ++ [low c]) = RF at *
  generalize S s.a = X at *
  by_cases h61 : c = 61
  · obtain rfl : res = .ok (entS 8 s) := by have q := E.out; rwa [if_pos h61] at q
    rw [decide_eq_true h61] at e61
    clear E h61 hl
    go_enter Tryz.func43, Tryz.ntmps43
    go_wp2_with fail
    refine he.mono ?_
    rintro e w2 ⟨rfl, hw2, hk2⟩
    have K2 := Lib.hid (To.ok hk2 hw2)
    clear hw2 hk2 he
    go_wp2_with fail
    go_end0
    exact K2.out
  rw [decide_eq_false h61] at e61
  have E1 : Hid (res = match (generalizing := false) x with
    | some r => r
    | none => if s.a.length < 32 then .ok { s with a := s.a ++ [low c] } else .error 5) := by have q := E.out; rwa [if_neg h61] at q
  clear E h61 he
  go_enter Tryz.func43, Tryz.ntmps43
  go_wp2_with fail
  refine hl.mono ?_
  rintro e w1 ⟨hk, hx⟩
  clear hl
  cases x with
  | some r =>
    obtain rfl : res = r := E1.out
    cases res with
    | error n =>
      subst hx
      exact ⟨rfl, To.err hk⟩
    | ok u =>
      obtain ⟨rfl, hw⟩ := hx
      have K := Lib.hid (To.ok hk hw)
      clear hk hw
      go_wp2_with fail
      go_end0
      exact K.out
  | none =>
    obtain ⟨rfl, hw⟩ := hx
    have er : res = if s.a.length < 32 then .ok { s with a := s.a ++ [low c] } else .error 5 := E1.out
    have hn := HN.out _ hw
    have K := Lib.hid (And.intro hk hw)
    obtain ⟨d2, y2⟩ := HC.out _ hw
    clear hk hw E1 HN
    by_cases hlt : s.a.length < 32
    · rw [if_pos hlt] at er
      have ER := Lib.hid er
      clear er
      simp only [if_pos hlt] at hn
      have HS2 := Lib.hid (fun W (hb : Below w1.heap.size w1 W) => HS.out W (K.out.2.keep hb))
      have HC2 := Lib.hid (fun W (hb : Below w1.heap.size w1 W) => HC.out W (K.out.2.keep hb))
      clear hlt HS HC
      go_wp2_with fail
      refine hn.mono ?_
      rintro e w3 ⟨rfl, hb3⟩
      have q := HS2.out _ hb3
      obtain ⟨d2', y2'⟩ := HC2.out _ hb3
      have KQ := Lib.hid (And.intro q.1 (K.out.1.trans ((Keeps.of hb3).trans q.2)))
      clear hb3 q d2 y2
      go_wp2_with fail
      go_end0
      rw [ER.out]
      exact To.ok KQ.out.2 KQ.out.1
    · rw [if_neg hlt] at er
      have ER := Lib.hid er
      clear er
      simp only [if_neg hlt] at hn
      clear hlt HS HC
      go_wp2_with fail
      refine hn.mono ?_
      rintro e w3 ⟨rfl, hb3⟩
      have q := To.err (T := 47) (tl := Octet c) (n := 5) (K.out.1.trans (Keeps.of hb3))
      rw [← ER.out] at q
      exact ⟨rfl, q⟩

theorem askIn_c (k : Nat) (kI : Int) (hk : kI = (k : Int)) (c : UInt8) (R : Nat) (s : Sc) (x : Res) (hq : ∀ W, Wk R 47 (Octet c) (entS k s) W → Calls Tryz.prog 23 #[.pointer (some ⟨R, 0, none⟩)] W (AskTo R c W x)) (w : World) (h : Wk R 47 (Octet c) s w) :
    Calls Tryz.prog 75 #[.pointer (some ⟨R, 0, none⟩), .int .i64 kI] w (AskTo R c w x) := by
  have he := enterS_c k kI hk R _ _ s w h
  have HQ := Lib.hid hq
  clear h hk hq
  go_enter Tryz.func75, Tryz.ntmps75
  go_wp2_with fail
  refine he.mono ?_
  rintro e w1 ⟨rfl, hw, hk⟩
  have hq := HQ.out _ hw
  have K := Lib.hid hk
  clear hw hk he
  go_wp2_with fail
  refine hq.mono ?_
  rintro e w2 h2
  have h3 := To.trans K.out h2
  clear h2 hq
  cases x with
  | error n =>
    obtain ⟨hk, rfl⟩ := h3
    exact ⟨rfl, To.err hk⟩
  | ok u =>
    obtain ⟨hk, rfl, hw⟩ := h3
    have K2 := Lib.hid (To.ok hk hw)
    clear hk hw
    go_wp2_with fail
    go_end0
    exact K2.out

set_option maxHeartbeats 1000000 in
set_option maxRecDepth 100000 in
theorem askAfterName_c (c : UInt8) (R : Nat) (s : Sc) (hb5 : ∀ W, Wk R 47 (Octet c) (entS 5 s) W → Calls Tryz.prog 23 #[.pointer (some ⟨R, 0, none⟩)] W (AskTo R c W (befC (entS 5 s) c))) (w : World) (h : Wk R 47 (Octet c) s w) :
    Calls Tryz.prog 44 #[.pointer (some ⟨R, 0, none⟩)] w (AskTo R c w (aftC s c)) := by
  have hl := leavesName_c 7 7 rfl c R s w h
  have E : Hid (aftC s c = if c = 61 then .ok (entS 8 s) else match leavesN 7 s c with
    | some r => r
    | none => befC (entS 5 s) c) := by show _ = _; rfl
  have he := enterS_c 8 8 rfl R _ _ s w h
  have c8 := h.last
  have e61 : ((c.toNat : Int) == 61) = decide (c = 61) := eq_u8 c 61 (by decide)
  have HI := Lib.hid (askIn_c 5 5 rfl c R s (befC (entS 5 s) c) hb5)
  clear h hb5
  generalize befC (entS 5 s) c = bb at E HI
  generalize aftC s c = res at E ⊢
  generalize leavesN 7 s c = x at hl E
  by_cases h61 : c = 61
  · obtain rfl : res = .ok (entS 8 s) := by have q := E.out; rwa [if_pos h61] at q
    rw [decide_eq_true h61] at e61
    clear E h61 hl
    go_enter Tryz.func44, Tryz.ntmps44
    go_wp2_with fail
    refine he.mono ?_
    rintro e w2 ⟨rfl, hw2, hk2⟩
    have K2 := Lib.hid (To.ok hk2 hw2)
    clear hw2 hk2 he
    go_wp2_with fail
    go_end0
    exact K2.out
  rw [decide_eq_false h61] at e61
  have E1 : Hid (res = match (generalizing := false) x with
    | some r => r
    | none => bb) := by have q := E.out; rwa [if_neg h61] at q
  clear E h61 he
  go_enter Tryz.func44, Tryz.ntmps44
  go_wp2_with fail
  refine hl.mono ?_
  rintro e w1 ⟨hk, hx⟩
  clear hl
  cases x with
  | some r =>
    obtain rfl : res = r := E1.out
    cases res with
    | error n =>
      subst hx
      exact ⟨rfl, To.err hk⟩
    | ok u =>
      obtain ⟨rfl, hw⟩ := hx
      have K := Lib.hid (To.ok hk hw)
      clear hk hw
      go_wp2_with fail
      go_end0
      exact K.out
  | none =>
    obtain ⟨rfl, hw⟩ := hx
    obtain rfl : res = bb := E1.out
    have hi := HI.out _ hw
    have K := Lib.hid hk
    clear hk hw E1 HI
    go_wp2_with fail
    refine hi.mono ?_
    rintro e w2 h2
    have h3 := To.trans K.out h2
    clear h2 hi
    cases res with
    | error n =>
      obtain ⟨hk, rfl⟩ := h3
      exact ⟨rfl, To.err hk⟩
    | ok u =>
      obtain ⟨hk, rfl, hw⟩ := h3
      have K2 := Lib.hid (To.ok hk hw)
      clear hk hw
      go_wp2_with fail
      go_end0
      exact K2.out
end Go.Proofs.YtklpbkjplecdpaaGreat.Scw
