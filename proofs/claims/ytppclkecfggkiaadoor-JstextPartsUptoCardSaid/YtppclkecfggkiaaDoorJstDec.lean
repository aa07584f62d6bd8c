/-
  Contracts of each and Decode of package jstext.
-/
import Derived.Test.YtppclkecfggkiaaDoorJstHead
import Derived.Test.YtppclkecfggkiaaDoorJstBuild
namespace Go.Proofs.YtppclkecfggkiaaDoor.Jst
open Go.RowKit Go.Proofs.YtppclkecfggkiaaDoor.Oct Go.Proofs.YtppclkecfggkiaaDoor.Utf Go.Proofs.YtppclkecfggkiaaDoor.Build
open Go.Proofs.YtppclkecfggkiaaDoor.Pct (Has has_below has_lt has_fresh enter_byte enter_write enter_string cutFrom)

theorem tellJ_le (l : List UInt8) : (tellJ l).2 ≤ l.length := by
  have gen : ∀ n (l : List UInt8), (tellJF n l).2 ≤ l.length := by
    intro n
    induction n with
    | zero => intro l; exact Nat.zero_le _
    | succ n ih =>
      intro l
      unfold tellJF
      split
      · exact Nat.zero_le _
      · have h1 := ih (l.drop (headJ l).2)
        have h2 := headJ_len l
        rw [List.length_drop] at h1
        show (headJ l).2 + (tellJF n (l.drop (headJ l).2)).2 ≤ l.length
        omega
  exact gen _ _

set_option maxHeartbeats 4000000 in
set_option maxRecDepth 100000 in
theorem each_c (l : List UInt8) (hl : l.length ≤ 4398046511104) (g : Nat) (lb : Array Value) (w : World) (J : List UInt8 → World → Prop)
    (eg : ∀ args w, (callFunc g args).run Tryd.prog w = .ok (.enter g args) w) (h0 : J [] w)
    (hkeep : ∀ o W W', J o W → Below W.heap.size W W' → J o W')
    (hdo : ∀ o (u : List UInt8) W, J o W → o.length + u.length ≤ 4 * l.length → Calls Tryd.prog g (#[.string (S u)] ++ lb) W fun e W' => (∃ v, e = .returned v) ∧ J (o ++ u) W') :
    Calls Tryd.prog 21 #[.string (S l), .func (.func g) #[] lb] w fun e W' => e = .returned (.int .i64 ((tellJ l).2 : Int)) ∧ J (tellJ l).1 W' := by
  have hsz : ((S l).size : Int) = (l.length : Int) := by rw [size_S]
  have hfrom := Lib.hid (fun k => (cutFrom (S l) k).trans (by rw [list_S] : S ((S l).data.toList.drop k) = S (l.drop k)))
  have HD := Lib.hid hdo
  have HK := Lib.hid hkeep
  have H0 := Lib.hid h0
  clear hdo hkeep h0
  go_enter Tryd.func21, Tryd.ntmps21
  go_wp2_with fail
  go_loopw [5] (fun m wr => ∃ t : Nat, t ≤ l.length ∧ m = .int .i64 t ∧ ∃ o, o.length ≤ 4 * t ∧ Hid (o ++ (tellJ (l.drop t)).1 = (tellJ l).1 ∧ t + (tellJ (l.drop t)).2 = (tellJ l).2) ∧ Hid (J o wr)) (fun m _ => l.length - (intOf m).toNat)
  case atStart => exact ⟨0, Nat.zero_le _, rfl, [], Nat.zero_le _, ⟨rfl, Nat.zero_add _⟩, H0⟩
  case round =>
    clear H0
    obtain ⟨t, ht, rfl, o, hol, ho, hr⟩ := hrel
    by_cases hlt : t < l.length
    · have hne : l.drop t ≠ [] := by
        intro h
        have := congrArg List.length h
        rw [List.length_drop] at this
        simp at this
        omega
      have hlen := headJ_len (l.drop t)
      rw [List.length_drop] at hlen
      have htold := headJ_told (l.drop t)
      have hoc := fun w => first_c (l.drop t) hne (by rw [List.length_drop]; omega) w
      have hf := hfrom.out t
      rw [← hf] at hoc
      have i0 : (0 : Int) ≤ (t : Int) := by omega
      have i1 : (t : Int) < (l.length : Int) := by omega
      have i5 : (t : Int) ≤ (l.length : Int) := by omega
      have HH := Lib.hid (fun w2 (hb2 : Below wr.heap.size wr w2) => HK.out o wr w2 hr.out hb2)
      clear hf hne
      by_cases hz : (headJ (l.drop t)).2 = 0
      · rw [hz] at hoc
        have E : Hid ((tellJ l).2 = t ∧ o = (tellJ l).1) := by
          have h1 := ho.out
          rw [tellJ_stop hz] at h1
          rw [List.append_nil, Nat.add_zero] at h1
          exact ⟨h1.2.symm, h1.1⟩
        clear hz hlen htold
        generalize (headJ (l.drop t)).1 = c at hoc
        generalize S c = C at hoc
        go_wp2_with (go_at_call 37; refine (hoc _).mono ?_; rintro e w2 ⟨rfl, hb2⟩; have HB2 := Lib.hid (HH.out w2 hb2); clear hb2)
        go_ret
        exact ⟨ret_int (by rw [E.out.1]), by rw [← E.out.2]; exact HB2.out⟩
      · have HN : Hid ((o ++ (headJ (l.drop t)).1) ++ (tellJ (l.drop (t + (headJ (l.drop t)).2))).1 = (tellJ l).1 ∧ (t + (headJ (l.drop t)).2) + (tellJ (l.drop (t + (headJ (l.drop t)).2))).2 = (tellJ l).2) := by
          have h1 := ho.out
          rw [tellJ_step hz, List.drop_drop] at h1
          refine ⟨?_, ?_⟩
          · rw [← h1.1, List.append_assoc]
          · rw [← h1.2, Nat.add_assoc]
        have hz1 : 0 < (headJ (l.drop t)).2 := by omega
        have hzb : (((headJ (l.drop t)).2 : Int) == 0) = false := by simp; exact hz
        have hdc := fun W h => HD.out o (headJ (l.drop t)).1 W h (by omega)
        clear hz
        generalize (headJ (l.drop t)).1 = c at hoc HN hdc htold
        generalize (headJ (l.drop t)).2 = n at hoc HN hlen hz1 hzb htold
        have HDC := Lib.hid hdc
        have HO : Hid ((o ++ c).length ≤ 4 * (t + n)) := by show _ ≤ _; rw [List.length_append]; omega
        clear hdc htold
        go_wp2_with (first
          | (go_at_call 37; refine (hoc _).mono ?_; rintro e w2 ⟨rfl, hb2⟩; have HB2 := Lib.hid (HH.out w2 hb2); clear hb2)
          | (go_at_fn g; refine (HDC.out _ HB2.out).mono ?_; rintro e w3 ⟨⟨v, rfl⟩, h3⟩; have HN3 := Lib.hid h3; clear h3))
        go_roundw
        case rel => exact ⟨t + n, by omega, by go_num, o ++ c, HO.out, HN, HN3⟩
        case measure => simp [intOf]; omega
    · have hkl : t = l.length := by omega
      subst hkl
      have E : Hid ((tellJ l).2 = l.length ∧ o = (tellJ l).1) := by
        have h1 := ho.out
        rw [List.drop_length, tellJ_nil] at h1
        rw [List.append_nil, Nat.add_zero] at h1
        exact ⟨h1.2.symm, h1.1⟩
      go_wp2_with fail
      go_ret
      exact ⟨ret_int (by rw [E.out.1]), by rw [← E.out.2]; exact hr.out⟩

theorem enter_dec : ∀ args w, (callFunc 22 args).run Tryd.prog w = .ok (.enter 22 args) w := enters_of Tryd.func22 (by kernel_rfl) rfl
theorem dec1_c (o u : List UInt8) (w W : World) (h : Has w.heap.size w.heap.size o W ∧ Below w.heap.size w W) (hl : o.length + u.length ≤ 17592186044416) :
    Calls Tryd.prog 22 #[.string (S u), .pointer (some ⟨w.heap.size, 0, none⟩)] W fun e W' => (∃ v, e = .returned v) ∧ (Has w.heap.size w.heap.size (o ++ u) W' ∧ Below w.heap.size w W') := by
  have hp := Lib.hid (puts_c w.heap.size w.heap.size o u W h.1 (by omega))
  have e1 := enter_write
  have HB := Lib.hid h.2
  clear h
  generalize S u = U at hp ⊢
  go_enter Tryd.func22, Tryd.ntmps22
  go_wp2_with (go_at_fn 18; refine hp.out.mono ?_; rintro e w3 ⟨rfl, h3, h4, _⟩)
  go_end0
  exact ⟨⟨_, rfl⟩, h3, HB.out.trans h4⟩

theorem each_dec (l : List UInt8) (hl : l.length ≤ 4398046511104) (w : World) :
    Calls Tryd.prog 21 #[.string (S l), .func (.func 22) #[] #[.pointer (some ⟨w.heap.size, 0, none⟩)]] (w.alloc (.cells #[.pointer none, .slice none 0 0] 33)) fun e W' =>
      e = .returned (.int .i64 ((tellJ l).2 : Int)) ∧ Has w.heap.size w.heap.size (tellJ l).1 W' ∧ Below w.heap.size w W' :=
  each_c l hl 22 #[.pointer (some ⟨w.heap.size, 0, none⟩)] _ (fun o W => Has w.heap.size w.heap.size o W ∧ Below w.heap.size w W) enter_dec
    ⟨has_fresh w, (Below.refl _ w).alloc (Nat.le_refl _) _⟩
    (fun o W W' h hb => ⟨has_below h.1 hb, h.2.trans (hb.mono h.2.size)⟩)
    (fun o u W h hlt => dec1_c o u w W h (by omega))

/-- A text decoded: what it tells, its length, and no error. -/
theorem decode_yes (l : List UInt8) (hl : l.length ≤ 4398046511104) (h : (tellJ l).2 = l.length) (w : World) :
    Calls Tryd.prog 7 #[.string (S l)] w fun e w' => e = .returned (.tuple #[.string (S (tellJ l).1), .int .i64 (l.length : Int), .int .i64 0]) ∧ Below w.heap.size w w' := by
  have hsz : ((S l).size : Int) = (l.length : Int) := by rw [size_S]
  have he := each_dec l hl w
  rw [h] at he
  have HS := Lib.hid (fun W (h : Has w.heap.size w.heap.size (tellJ l).1 W) => Tryd.Builder_String_any w.heap.size w.heap.size (tellJ l).1 W h (Nat.le_of_lt (has_lt h).2))
  have e3 := enter_string
  clear h hl
  go_enter Tryd.func7, Tryd.ntmps7
  go_wp2_with fail
  refine he.mono ?_
  rintro e w1 ⟨rfl, h1, hb1⟩
  have H1 := Lib.hid h1
  have HB1 := Lib.hid hb1
  clear he h1 hb1
  go_wp2_with (go_at_fn 20; refine (HS.out _ H1.out).mono ?_; rintro e w3 ⟨rfl, h3⟩)
  go_ret3
  exact ⟨rfl, HB1.out.trans h3⟩
/-- A text that is wrong at a place: that place, and ErrSyntax. -/
theorem decode_no (l : List UInt8) (hl : l.length ≤ 4398046511104) (h : (tellJ l).2 < l.length) (w : World) :
    Calls Tryd.prog 7 #[.string (S l)] w fun e w' => e = .returned (.tuple #[.string ⟨#[]⟩, .int .i64 ((tellJ l).2 : Int), .int .i64 33]) ∧ Below w.heap.size w w' := by
  have hsz : ((S l).size : Int) = (l.length : Int) := by rw [size_S]
  have he := each_dec l hl w
  have hi : ((tellJ l).2 : Int) < (l.length : Int) := by omega
  clear h hl
  generalize ((tellJ l).2 : Int) = at0 at he hi
  go_enter Tryd.func7, Tryd.ntmps7
  go_wp2_with fail
  refine he.mono ?_
  rintro e w1 ⟨rfl, h1, hb1⟩
  have HB1 := Lib.hid hb1
  clear he h1 hb1
  go_wp2_with fail
  go_ret3
  exact ⟨rfl, HB1.out⟩
end Go.Proofs.YtppclkecfggkiaaDoor.Jst
