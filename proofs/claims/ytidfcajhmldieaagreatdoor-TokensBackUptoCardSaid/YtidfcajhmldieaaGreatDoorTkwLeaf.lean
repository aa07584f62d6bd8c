/-
  Contracts of what asks whether a token may be written: isSmall, hasOnly, isTagName, isRepaired, isAttribute, isCommentText.
-/
import Derived.Test.YtidfcajhmldieaaGreatDoorBackBase
import Derived.BigQuiet
namespace Go.Proofs.YtidfcajhmldieaaGreatDoor.Tkw
open Go.RowKit Go.Proofs.YtidfcajhmldieaaGreatDoor.Oct Go.Proofs.YtidfcajhmldieaaGreatDoor.Utf Go.Proofs.YtidfcajhmldieaaGreatDoor.Tok

/-- Is an octet a small letter or a digit. -/
def smB (c : UInt8) : Bool := smallI (c.toNat : Int) || digitI (c.toNat : Int)
/-- .. or a hyphen. -/
def smD (c : UInt8) : Bool := smB c || c == 45
theorem small1_c (c : UInt8) (w : World) : Calls Tryz.prog 63 #[.int .u8 (c.toNat : Int)] w fun e w' => e = .returned (.bool (smB c)) ∧ w = w' := by
  unfold smB
  have h1 : (c.toNat : Int) ≤ 255 := by have := c.toNat_lt; omega
  generalize (c.toNat : Int) = n at *
  go_enter Tryz.func63, Tryz.ntmps63
  go_wp2
  all_goals go_ret
  all_goals (refine ⟨ret_bool ?_, rfl⟩; rw [Bool.eq_iff_iff]; simp [smallI, digitI]; try omega)
theorem small2_c (c : UInt8) (w : World) : Calls Tryz.prog 65 #[.int .u8 (c.toNat : Int)] w fun e w' => e = .returned (.bool (smD c)) ∧ w = w' := by
  have hb := small1_c c
  have hq : (((c.toNat : Int)) == 45) = (c == 45) := by
    rw [Bool.eq_iff_iff, beq_iff_eq, beq_iff_eq]
    constructor
    · intro h
      apply UInt8.toNat_inj.1
      have : (45 : UInt8).toNat = 45 := rfl
      omega
    · rintro rfl
      rfl
  unfold smD
  generalize smB c = b at hb ⊢
  generalize (c == 45) = x at hq ⊢
  generalize (c.toNat : Int) = n at *
  cases b <;> cases x
  all_goals go_enter Tryz.func65, Tryz.ntmps65
  all_goals go_wp2_with (go_at_call 63; refine (hb _).mono ?_; rintro e w' ⟨rfl, rfl⟩)
  all_goals go_ret
  all_goals exact ⟨rfl, rfl⟩
theorem enter_small1 : ∀ args w, (callFunc 63 args).run Tryz.prog w = .ok (.enter 63 args) w := enters_of Tryz.func63 (by kernel_rfl) rfl
theorem enter_small2 : ∀ args w, (callFunc 65 args).run Tryz.prog w = .ok (.enter 65 args) w := enters_of Tryz.func65 (by kernel_rfl) rfl
/-- Is each octet wanted. -/
def onlyB (p : UInt8 → Bool) (l : List UInt8) : Bool := l.all p
set_option maxHeartbeats 1000000 in
theorem only_c (s : ByteArray) (hs : s.size ≤ 140737488351232) (g : Nat) (p : UInt8 → Bool) (eg : ∀ args w, (callFunc g args).run Tryz.prog w = .ok (.enter g args) w)
    (hp : ∀ (c : UInt8) (w : World), Calls Tryz.prog g #[.int .u8 (c.toNat : Int)] w fun e w' => e = .returned (.bool (p c)) ∧ w = w') (w : World) :
    Calls Tryz.prog 62 #[.string s, .func (.func g) #[] #[]] w fun e w' => e = .returned (.bool (onlyB p s.data.toList)) ∧ w = w' := by
  have HL := Lib.hid (fun k (h : k < s.size) => (by
    rw [List.getElem?_eq_getElem (by rw [size_list]; exact h)]
    rfl : s.data.toList[k]? = some s[k]))
  have HF : Hid (∀ k (h : k < s.size), p s[k] = false → onlyB p s.data.toList = false) := fun k h hq => by
    unfold onlyB
    rw [Bool.eq_false_iff]
    intro ha
    have := List.all_eq_true.1 ha s[k] (List.mem_of_getElem? (HL.out k h))
    rw [this] at hq
    cases hq
  have HT : Hid ((∀ k (h : k < s.size), p s[k] = true) → onlyB p s.data.toList = true) := fun h => by
    unfold onlyB
    rw [List.all_eq_true]
    intro x hx
    obtain ⟨k, hk, rfl⟩ := List.getElem_of_mem hx
    have hk' : k < s.size := by rw [← size_list]; exact hk
    have e := HL.out k hk'
    rw [List.getElem?_eq_getElem hk] at e
    injection e with e
    rw [e]
    exact h k hk'
  have HP := Lib.hid hp
  clear HL hp
  generalize onlyB p s.data.toList = ans at HF HT ⊢
  go_enter Tryz.func62, Tryz.ntmps62
  go_wp2_with fail
  go_loopw [5, 8] (fun _ i wr => ∃ k : Nat, k ≤ s.size ∧ i = .int .i64 k ∧ Hid (∀ j (h : j < s.size), j < k → p s[j] = true) ∧ wr = w) (fun _ i _ => s.size - (intOf i).toNat)
  case atStart => exact ⟨0, Nat.zero_le _, rfl, fun j _ h => absurd h (Nat.not_lt_zero _), rfl⟩
  case round =>
    obtain ⟨k, hk, rfl, hall, rfl⟩ := hrel
    by_cases hlt : k < s.size
    · have hb1 : (s[k].toNat : Int) ≤ 255 := by have := s[k].toNat_lt; omega
      have i0 : (0 : Int) ≤ (k : Int) := by omega
      have i1 : (k : Int) < (s.size : Int) := by omega
      have hc := HP.out s[k] wr
      cases hq : p s[k] with
      | true =>
        have HN : Hid (∀ j (h : j < s.size), j < k + 1 → p s[j] = true) := fun j h hj => by
          rcases Nat.lt_or_ge j k with h2 | h2
          · exact hall.out j h h2
          · obtain rfl : j = k := by omega
            exact hq
        rw [hq] at hc
        clear hq
        go_wp2_with (go_at_fn g; refine hc.mono ?_; rintro e w' ⟨rfl, rfl⟩)
        go_roundw
        case rel => exact ⟨k + 1, by omega, by go_num, HN, by trivial⟩
        case measure => simp [intOf]; omega
      | false =>
        have HR := Lib.hid (HF.out k hlt hq)
        rw [hq] at hc
        clear hq
        go_wp2_with (go_at_fn g; refine hc.mono ?_; rintro e w' ⟨rfl, rfl⟩)
        go_ret
        exact ⟨ret_bool HR.out.symm, rfl⟩
    · have HR := Lib.hid (HT.out (fun j h => hall.out j h (by omega)))
      have i1 : ¬ ((k : Int) < (s.size : Int)) := by omega
      go_wp2_with fail
      go_ret
      exact ⟨ret_bool HR.out.symm, rfl⟩
/-- What a tag's name is asked. -/
def tagB (l : List UInt8) : Bool := nameB l && onlyB smB l
theorem tagname_c (s : ByteArray) (hs : s.size ≤ 140737488351232) (w : World) :
    Calls Tryz.prog 43 #[.string s] w fun e w' => e = .returned (.bool (tagB s.data.toList)) ∧ Below w.heap.size w w' := by
  have hn := name_c s w
  have ho := only_c s hs 63 smB enter_small1 small1_c
  unfold tagB
  generalize nameB s.data.toList = a at hn ⊢
  generalize onlyB smB s.data.toList = b at ho ⊢
  cases a
  all_goals go_enter Tryz.func43, Tryz.ntmps43
  all_goals go_wp2_with (first
    | (go_at_call 61; refine hn.mono ?_; rintro e w' ⟨rfl, hb⟩)
    | (go_at_call 62; refine (ho _).mono ?_; rintro e w' ⟨rfl, rfl⟩))
  all_goals go_ret
  all_goals exact ⟨rfl, hb⟩
theorem repaired_c (s : ByteArray) (hs : s.size ≤ 17592186044416) (w : World) (hT : Tabs w) :
    Calls Tryz.prog 47 #[.string s] w fun e w' => e = .returned (.bool (decide (rep s.data.toList = s.data.toList))) ∧ Below w.heap.size w w' := by
  have hr := repair_c s hs w hT
  have he : ((S (rep s.data.toList)).toList == s.toList) = decide (rep s.data.toList = s.data.toList) := eqT (rep s.data.toList) s.data.toList
  generalize decide (rep s.data.toList = s.data.toList) = b at he ⊢
  generalize S (rep s.data.toList) = R at hr he
  clear hT
  go_enter Tryz.func47, Tryz.ntmps47
  go_wp2_with (go_at_call 51; refine hr.mono ?_; rintro e w' ⟨rfl, hb⟩)
  go_ret
  exact ⟨rfl, hb⟩
/-- What an attribute is asked. -/
def attB (a : At) : Bool := !(decide (a.n = [])) && (onlyB smD a.n && decide (rep a.v = a.v))
set_option maxHeartbeats 1000000 in
theorem attr_c (a : At) (h1 : a.n.length ≤ 17592186044416) (h2 : a.v.length ≤ 17592186044416) (w : World) (hT : Tabs w) :
    Calls Tryz.prog 46 #[.agg #[.string (S a.n), .string (S a.v)]] w fun e w' => e = .returned (.bool (attB a)) ∧ Below w.heap.size w w' := by
  have ho := only_c (S a.n) (by rw [size_S]; omega) 65 smD enter_small2 small2_c
  rw [list_S] at ho
  have hr := fun W (h : Below w.heap.size w W) => repaired_c (S a.v) (by rw [size_S]; omega) W (hT.kept h)
  rw [list_S] at hr
  have he : ((S a.n).toList == []) = decide (a.n = []) := by
    rw [ByteArray.toList_eq, list_S, Bool.eq_iff_iff]
    simp
  unfold attB
  generalize onlyB smD a.n = b at ho ⊢
  generalize decide (rep a.v = a.v) = c at hr ⊢
  generalize decide (a.n = []) = d at he ⊢
  generalize S a.n = N at *
  generalize S a.v = V at *
  have hb0 : Below w.heap.size w (w.alloc (.cells #[.string N, .string V] 65)) := (Below.refl _ w).alloc (Nat.le_refl _) _
  have hr1 := hr _ hb0
  have HB := Lib.hid (fun W (h : Below (w.alloc (.cells #[.string N, .string V] 65)).heap.size (w.alloc (.cells #[.string N, .string V] 65)) W) => hb0.trans (h.mono hb0.size))
  clear hr hT
  cases d <;> cases b
  all_goals go_enter Tryz.func46, Tryz.ntmps46
  all_goals go_wp2_with (first
    | (go_at_call 62; refine (ho _).mono ?_; rintro e w' ⟨rfl, rfl⟩)
    | (go_at_call 47; refine hr1.mono ?_; rintro e w' ⟨rfl, hb⟩))
  all_goals go_ret
  all_goals first | exact ⟨rfl, hb0⟩ | exact ⟨rfl, HB.out _ hb⟩
end Go.Proofs.YtidfcajhmldieaaGreatDoor.Tkw
