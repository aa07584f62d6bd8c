/-
  Contracts of Encode, Normal and Decode of package percent.
-/
import Derived.Test.YthmdflmogeielaaDoorPctCode
import Derived.Test.YthmdflmogeielaaDoorUtfRepair
namespace Go.Proofs.YthmdflmogeielaaDoor.Pct
open Go.RowKit Go.Proofs.YthmdflmogeielaaDoor.Oct Go.Proofs.YthmdflmogeielaaDoor.Build Go.Proofs.YthmdflmogeielaaDoor.Utf

theorem enter_enc : ∀ args w, (callFunc 17 args).run Tryd.prog w = .ok (.enter 17 args) w := enters_of Tryd.func17 (by kernel_rfl) rfl
theorem enter_nor : ∀ args w, (callFunc 24 args).run Tryd.prog w = .ok (.enter 24 args) w := enters_of Tryd.func24 (by kernel_rfl) rfl
theorem enter_dec : ∀ args w, (callFunc 19 args).run Tryd.prog w = .ok (.enter 19 args) w := enters_of Tryd.func19 (by kernel_rfl) rfl

theorem enc1_c (l : List UInt8) (k b : Nat) (w : World) (hk : k < l.length) (hc : w.cell? ⟨b, 0, none⟩ = some (.string (S l))) :
    Calls Tryd.prog 17 #[.int .i64 (k : Int), .pointer (some ⟨b, 0, none⟩)] w fun e w' => e = .returned (.bool (encP (l.drop k))) ∧ Below w.heap.size w w' := by
  have hsz : ((S l).size : Int) = (l.length : Int) := by rw [size_S]
  have h1 := at_S l k hk
  have E : Hid (encP (l.drop k) = unrI (l[k].toNat : Int)) := by
    show _ = _
    rw [List.drop_eq_getElem_cons hk]
    rfl
  have hb : (l[k].toNat : Int) ≤ 255 := by have := l[k].toNat_lt; omega
  generalize l[k] = c at h1 E hb
  have hu := fun w => unreserved_c (c.toNat : Int) w (by omega) hb
  have i0 : (0 : Int) ≤ (k : Int) := by omega
  have i1 : (k : Int) < (l.length : Int) := by omega
  go_enter Tryd.func17, Tryd.ntmps17
  go_wp2_with (go_at_call 13; refine (hu _).mono ?_; rintro e w' ⟨rfl, rfl⟩)
  go_ret
  exact ⟨ret_bool (by rw [E.out]), Below.refl _ _⟩

set_option maxRecDepth 100000 in
theorem nor1_c (l : List UInt8) (hl : l.length ≤ 140737488355328) (k b : Nat) (w : World) (hk : k < l.length) (hc : w.cell? ⟨b, 0, none⟩ = some (.string (S l))) :
    Calls Tryd.prog 24 #[.int .i64 (k : Int), .pointer (some ⟨b, 0, none⟩)] w fun e w' => e = .returned (.bool (norP (l.drop k))) ∧ Below w.heap.size w w' := by
  have hsz : ((S l).size : Int) = (l.length : Int) := by rw [size_S]
  have h1 := at_S l k hk
  have hf := (cutFrom (S l) k).trans (by rw [list_S] : S ((S l).data.toList.drop k) = S (l.drop k))
  have hoc := fun w => octet_c (l.drop k) (by
    intro h
    have := congrArg List.length h
    rw [List.length_drop] at this
    simp at this
    omega) (by rw [List.length_drop]; omega) w
  have E : Hid (norP (l.drop k) = (unrI (l[k].toNat : Int) || resI (l[k].toNat : Int) || ((headL (l.drop k)).2 == 3))) := by
    show _ = _
    unfold norP
    have e : (l.drop k).headD 0 = l[k] := by rw [List.drop_eq_getElem_cons hk]; rfl
    rw [e]
    rfl
  have hb : (l[k].toNat : Int) ≤ 255 := by have := l[k].toNat_lt; omega
  generalize l[k] = c at h1 E hb
  have hu := fun w => unreserved_c (c.toNat : Int) w (by omega) hb
  have hr := fun w => reserved_c (c.toNat : Int) w (by omega) hb
  have i0 : (0 : Int) ≤ (k : Int) := by omega
  have i1 : (k : Int) < (l.length : Int) := by omega
  have i5 : (k : Int) ≤ (l.length : Int) := by omega
  generalize (headL (l.drop k)).1 = o at hoc
  generalize (headL (l.drop k)).2 = n at hoc E
  rw [← hf] at hoc
  clear hf
  generalize unrI (c.toNat : Int) = bu at hu E
  generalize resI (c.toNat : Int) = br at hr E
  have e3 : ((n : Int) == 3) = (n == 3) := by rw [Bool.eq_iff_iff]; simp; omega
  generalize (n == 3) = bn at E e3
  generalize norP (l.drop k) = ans at E ⊢
  clear hl
  cases bu with
  | true =>
    go_enter Tryd.func24, Tryd.ntmps24
    go_wp2_with (first
      | (go_at_call 25; refine (hoc _).mono ?_; rintro e w1 ⟨rfl, hb1⟩)
      | (go_at_call 13; refine (hu _).mono ?_; rintro e w' ⟨rfl, rfl⟩)
      | (go_at_call 12; refine (hr _).mono ?_; rintro e w' ⟨rfl, rfl⟩))
    go_ret
    exact ⟨ret_bool E.out.symm, hb1⟩
  | false =>
    cases br with
    | true =>
      go_enter Tryd.func24, Tryd.ntmps24
      go_wp2_with (first
        | (go_at_call 25; refine (hoc _).mono ?_; rintro e w1 ⟨rfl, hb1⟩)
        | (go_at_call 13; refine (hu _).mono ?_; rintro e w' ⟨rfl, rfl⟩)
        | (go_at_call 12; refine (hr _).mono ?_; rintro e w' ⟨rfl, rfl⟩))
      go_ret
      exact ⟨ret_bool E.out.symm, hb1⟩
    | false =>
      go_enter Tryd.func24, Tryd.ntmps24
      go_wp2_with (first
        | (go_at_call 25; refine (hoc _).mono ?_; rintro e w1 ⟨rfl, hb1⟩)
        | (go_at_call 13; refine (hu _).mono ?_; rintro e w' ⟨rfl, rfl⟩)
        | (go_at_call 12; refine (hr _).mono ?_; rintro e w' ⟨rfl, rfl⟩))
      go_ret
      exact ⟨ret_bool E.out.symm, hb1⟩

/-- A text, repaired, is not much longer. -/
theorem rep_len (s : ByteArray) : (rep s.data.toList).length ≤ 4 * s.size := by
  have h1 := encs_len (chars s.data.toList)
  have h2 := chars_len s.data.toList
  rw [size_list] at h2
  unfold rep
  omega

set_option maxHeartbeats 4000000 in
set_option maxRecDepth 100000 in
theorem encode_c (s : ByteArray) (hs : s.size ≤ 1099511627776) (w : World) (hT : Tabs w) :
    Calls Tryd.prog 6 #[.string s] w fun e w' => e = .returned (.string (S (encL (rep s.data.toList)))) ∧ Below w.heap.size w w' := by
  have hrep := repair_c s (by omega) w hT
  have hrl := rep_len s
  generalize rep s.data.toList = r at hrep hrl
  have hrl2 : r.length ≤ 4398046511104 := by omega
  clear hrl
  have henc := Lib.hid (fun (W : World) (b : Nat) (hc : W.cell? ⟨b, 0, none⟩ = some (.string (S r))) (hb : b < W.heap.size) => encoded_c r hrl2 encP 17 #[.pointer (some ⟨b, 0, none⟩)] W enter_enc
    (fun k W' hk hbl => enc1_c r k b W' hk (by rw [hbl.cell hb]; exact hc)))
  go_enter Tryd.func6, Tryd.ntmps6
  go_wp2_with fail
  refine hrep.mono ?_
  rintro e w1 ⟨rfl, hb1⟩
  have hc1 : (w1.alloc (.cells #[.string (S r)] 9)).cell? ⟨w1.heap.size, 0, none⟩ = some (.string (S r)) := by simp
  have HE := Lib.hid (henc.out (w1.alloc (.cells #[.string (S r)] 9)) w1.heap.size hc1 (by simp))
  have HB1 := Lib.hid (And.intro (Below.alloc hb1 hb1.size (.cells #[.string (S r)] 9)) (Below.alloc hb1 hb1.size (.cells #[.string (S r)] 9)).size)
  clear hrep hT hb1 henc
  go_wp2_with (go_at_call 16; refine HE.out.mono ?_; rintro e w2 ⟨rfl, hb2⟩)
  go_ret
  exact ⟨rfl, HB1.out.1.trans (hb2.mono HB1.out.2)⟩

set_option maxHeartbeats 4000000 in
set_option maxRecDepth 100000 in
theorem normal_c (s : ByteArray) (hs : s.size ≤ 1099511627776) (w : World) (hT : Tabs w) :
    Calls Tryd.prog 11 #[.string s] w fun e w' => e = .returned (.string (S (norL (rep s.data.toList)))) ∧ Below w.heap.size w w' := by
  have hrep := repair_c s (by omega) w hT
  have hrl := rep_len s
  generalize rep s.data.toList = r at hrep hrl
  have hrl2 : r.length ≤ 4398046511104 := by omega
  clear hrl
  have henc := Lib.hid (fun (W : World) (b : Nat) (hc : W.cell? ⟨b, 0, none⟩ = some (.string (S r))) (hb : b < W.heap.size) => encoded_c r hrl2 norP 24 #[.pointer (some ⟨b, 0, none⟩)] W enter_nor
    (fun k W' hk hbl => nor1_c r (by omega) k b W' hk (by rw [hbl.cell hb]; exact hc)))
  go_enter Tryd.func11, Tryd.ntmps11
  go_wp2_with fail
  refine hrep.mono ?_
  rintro e w1 ⟨rfl, hb1⟩
  have hc1 : (w1.alloc (.cells #[.string (S r)] 9)).cell? ⟨w1.heap.size, 0, none⟩ = some (.string (S r)) := by simp
  have HE := Lib.hid (henc.out (w1.alloc (.cells #[.string (S r)] 9)) w1.heap.size hc1 (by simp))
  have HB1 := Lib.hid (And.intro (Below.alloc hb1 hb1.size (.cells #[.string (S r)] 9)) (Below.alloc hb1 hb1.size (.cells #[.string (S r)] 9)).size)
  clear hrep hT hb1 henc
  go_wp2_with (go_at_call 16; refine HE.out.mono ?_; rintro e w2 ⟨rfl, hb2⟩)
  go_ret
  exact ⟨rfl, HB1.out.1.trans (hb2.mono HB1.out.2)⟩

theorem dec1_c (o : List UInt8) (c : UInt8) (w W : World) (h : Has w.heap.size w.heap.size o W ∧ Below w.heap.size w W) (hl : o.length ≤ 4398046511104) :
    Calls Tryd.prog 19 #[.int .u8 (c.toNat : Int), .pointer (some ⟨w.heap.size, 0, none⟩)] W fun e W' => (∃ v, e = .returned v) ∧ (Has w.heap.size w.heap.size (o ++ [c]) W' ∧ Below w.heap.size w W') := by
  have hp := Lib.hid (byte_c w.heap.size w.heap.size o c W h.1 (by omega))
  have e1 := enter_byte
  have HB := Lib.hid h.2
  clear h
  go_enter Tryd.func19, Tryd.ntmps19
  go_wp2_with (go_at_fn 20; refine hp.out.mono ?_; rintro e w3 ⟨rfl, h3, h4⟩)
  go_end0
  exact ⟨⟨_, rfl⟩, h3, HB.out.trans h4⟩

theorem each_dec (l : List UInt8) (hl : l.length ≤ 4398046511104) (w : World) :
    Calls Tryd.prog 18 #[.string (S l), .func (.func 19) #[] #[.pointer (some ⟨w.heap.size, 0, none⟩)]] (w.alloc (.cells #[.pointer none, .slice none 0 0] 36)) fun e W' =>
      e = .returned (.int .i64 ((tellL l).2 : Int)) ∧ Has w.heap.size w.heap.size (tellL l).1 W' ∧ Below w.heap.size w W' :=
  each_c l hl 19 #[.pointer (some ⟨w.heap.size, 0, none⟩)] _ (fun o W => Has w.heap.size w.heap.size o W ∧ Below w.heap.size w W) enter_dec
    ⟨has_fresh w, (Below.refl _ w).alloc (Nat.le_refl _) _⟩
    (fun o W W' h hb => ⟨has_below h.1 hb, h.2.trans (hb.mono h.2.size)⟩)
    (fun o c W h hlt => dec1_c o c w W h (by omega))

/-- A text decoded: its octets, the place where that ended, and the error. -/
theorem decode_yes (l : List UInt8) (hl : l.length ≤ 4398046511104) (h : (tellL l).2 = l.length) (w : World) :
    Calls Tryd.prog 7 #[.string (S l)] w fun e w' => e = .returned (.tuple #[.string (S (tellL l).1), .int .i64 (l.length : Int), .int .i64 0]) ∧ Below w.heap.size w w' := by
  have hsz : ((S l).size : Int) = (l.length : Int) := by rw [size_S]
  have he := each_dec l hl w
  rw [h] at he
  have HS := Lib.hid (fun W (h : Has w.heap.size w.heap.size (tellL l).1 W) => Tryd.Builder_String_any w.heap.size w.heap.size (tellL l).1 W h (Nat.le_of_lt (has_lt h).2))
  have e3 := enter_string
  clear h hl
  go_enter Tryd.func7, Tryd.ntmps7
  go_wp2_with fail
  refine he.mono ?_
  rintro e w1 ⟨rfl, h1, hb1⟩
  have H1 := Lib.hid h1
  have HB1 := Lib.hid hb1
  clear he h1 hb1
  go_wp2_with (go_at_fn 21; refine (HS.out _ H1.out).mono ?_; rintro e w3 ⟨rfl, h3⟩)
  go_ret3
  exact ⟨rfl, HB1.out.trans h3⟩
theorem decode_no (l : List UInt8) (hl : l.length ≤ 4398046511104) (h : (tellL l).2 < l.length) (w : World) :
    Calls Tryd.prog 7 #[.string (S l)] w fun e w' => e = .returned (.tuple #[.string ⟨#[]⟩, .int .i64 ((tellL l).2 : Int), .int .i64 33]) ∧ Below w.heap.size w w' := by
  have hsz : ((S l).size : Int) = (l.length : Int) := by rw [size_S]
  have he := each_dec l hl w
  have hi : ((tellL l).2 : Int) < (l.length : Int) := by omega
  clear h hl
  generalize ((tellL l).2 : Int) = at0 at he hi
  go_enter Tryd.func7, Tryd.ntmps7
  go_wp2_with fail
  refine he.mono ?_
  rintro e w1 ⟨rfl, h1, hb1⟩
  have HB1 := Lib.hid hb1
  clear he h1 hb1
  go_wp2_with fail
  go_ret3
  exact ⟨rfl, HB1.out⟩
end Go.Proofs.YthmdflmogeielaaDoor.Pct
