/-
  Contracts of Encode, Normal and Decode of package percent.
-/
import Derived.Test.YtjchebnjbfhooaaDoorPctCode
import Derived.Test.YtjchebnjbfhooaaDoorUtfRepair
namespace Go.Proofs.YtjchebnjbfhooaaDoor.Pct
open Go.RowKit Go.Proofs.YtjchebnjbfhooaaDoor.Oct Go.Proofs.YtjchebnjbfhooaaDoor.Build Go.Proofs.YtjchebnjbfhooaaDoor.Utf

theorem enter_nor : ∀ args w, (callFunc 30 args).run Tryd.prog w = .ok (.enter 30 args) w := enters_of Tryd.func30 (by kernel_rfl) rfl
set_option maxRecDepth 100000 in
theorem nor1_c (l : List UInt8) (hl : l.length ≤ 140737488355328) (k b : Nat) (w : World) (hk : k < l.length) (hc : w.cell? ⟨b, 0, none⟩ = some (.string (S l))) :
    Calls Tryd.prog 30 #[.int .i64 (k : Int), .pointer (some ⟨b, 0, none⟩)] w fun e w' => e = .returned (.bool (norP (l.drop k))) ∧ Below w.heap.size w w' := by
  have hsz : ((S l).size : Int) = (l.length : Int) := by rw [size_S]
  have h1 := at_S l k hk
  have hf := (cutFrom (S l) k).trans (by rw [list_S] : S ((S l).data.toList.drop k) = S (l.drop k))
  have hoc := fun w => octet_c (l.drop k) (by
    intro h
    have := congrArg List.length h
    rw [List.length_drop] at this
    simp at this
    omega) (by rw [List.length_drop]; omega) w
  have E : Hid (norP (l.drop k) = (unrI (l[k].toNat : Int) || resI (l[k].toNat : Int) || ((headL (l.drop k)).2 == 3))) := by
    show _ = _
    unfold norP
    have e : (l.drop k).headD 0 = l[k] := by rw [List.drop_eq_getElem_cons hk]; rfl
    rw [e]
    rfl
  have hb : (l[k].toNat : Int) ≤ 255 := by have := l[k].toNat_lt; omega
  generalize l[k] = c at h1 E hb
  have hu := fun w => unreserved_c (c.toNat : Int) w (by omega) hb
  have hr := fun w => reserved_c (c.toNat : Int) w (by omega) hb
  have i0 : (0 : Int) ≤ (k : Int) := by omega
  have i1 : (k : Int) < (l.length : Int) := by omega
  have i5 : (k : Int) ≤ (l.length : Int) := by omega
  generalize (headL (l.drop k)).1 = o at hoc
  generalize (headL (l.drop k)).2 = n at hoc E
  rw [← hf] at hoc
  clear hf
  generalize unrI (c.toNat : Int) = bu at hu E
  generalize resI (c.toNat : Int) = br at hr E
  have e3 : ((n : Int) == 3) = (n == 3) := by rw [Bool.eq_iff_iff]; simp; omega
  generalize (n == 3) = bn at E e3
  generalize norP (l.drop k) = ans at E ⊢
  clear hl
  cases bu with
  | true =>
    go_enter Tryd.func30, Tryd.ntmps30
    go_wp2_with (first
      | (go_at_call 31; refine (hoc _).mono ?_; rintro e w1 ⟨rfl, hb1⟩)
      | (go_at_call 32; refine (hu _).mono ?_; rintro e w' ⟨rfl, rfl⟩)
      | (go_at_call 33; refine (hr _).mono ?_; rintro e w' ⟨rfl, rfl⟩))
    go_ret
    exact ⟨ret_bool E.out.symm, hb1⟩
  | false =>
    cases br with
    | true =>
      go_enter Tryd.func30, Tryd.ntmps30
      go_wp2_with (first
        | (go_at_call 31; refine (hoc _).mono ?_; rintro e w1 ⟨rfl, hb1⟩)
        | (go_at_call 32; refine (hu _).mono ?_; rintro e w' ⟨rfl, rfl⟩)
        | (go_at_call 33; refine (hr _).mono ?_; rintro e w' ⟨rfl, rfl⟩))
      go_ret
      exact ⟨ret_bool E.out.symm, hb1⟩
    | false =>
      go_enter Tryd.func30, Tryd.ntmps30
      go_wp2_with (first
        | (go_at_call 31; refine (hoc _).mono ?_; rintro e w1 ⟨rfl, hb1⟩)
        | (go_at_call 32; refine (hu _).mono ?_; rintro e w' ⟨rfl, rfl⟩)
        | (go_at_call 33; refine (hr _).mono ?_; rintro e w' ⟨rfl, rfl⟩))
      go_ret
      exact ⟨ret_bool E.out.symm, hb1⟩

/-- A text, repaired, is not much longer. -/
theorem rep_len (s : ByteArray) : (rep s.data.toList).length ≤ 4 * s.size := by
  have h1 := encs_len (chars s.data.toList)
  have h2 := chars_len s.data.toList
  rw [size_list] at h2
  unfold rep
  omega

set_option maxHeartbeats 4000000 in
set_option maxRecDepth 100000 in
theorem normal_c (s : ByteArray) (hs : s.size ≤ 1099511627776) (w : World) (hT : Tabs w) :
    Calls Tryd.prog 20 #[.string s] w fun e w' => e = .returned (.string (S (norL (rep s.data.toList)))) ∧ Below w.heap.size w w' := by
  have hrep := repair_c s (by omega) w hT
  have hrl := rep_len s
  generalize rep s.data.toList = r at hrep hrl
  have hrl2 : r.length ≤ 4398046511104 := by omega
  clear hrl
  have henc := Lib.hid (fun (W : World) (b : Nat) (hc : W.cell? ⟨b, 0, none⟩ = some (.string (S r))) (hb : b < W.heap.size) => encoded_c r hrl2 norP 30 #[.pointer (some ⟨b, 0, none⟩)] W enter_nor
    (fun k W' hk hbl => nor1_c r (by omega) k b W' hk (by rw [hbl.cell hb]; exact hc)))
  go_enter Tryd.func20, Tryd.ntmps20
  go_wp2_with fail
  refine hrep.mono ?_
  rintro e w1 ⟨rfl, hb1⟩
  have hc1 : (w1.alloc (.cells #[.string (S r)] 9)).cell? ⟨w1.heap.size, 0, none⟩ = some (.string (S r)) := by simp
  have HE := Lib.hid (henc.out (w1.alloc (.cells #[.string (S r)] 9)) w1.heap.size hc1 (by simp))
  have HB1 := Lib.hid (And.intro (Below.alloc hb1 hb1.size (.cells #[.string (S r)] 9)) (Below.alloc hb1 hb1.size (.cells #[.string (S r)] 9)).size)
  clear hrep hT hb1 henc
  go_wp2_with (go_at_call 29; refine HE.out.mono ?_; rintro e w2 ⟨rfl, hb2⟩)
  go_ret
  exact ⟨rfl, HB1.out.1.trans (hb2.mono HB1.out.2)⟩

end Go.Proofs.YtjchebnjbfhooaaDoor.Pct
