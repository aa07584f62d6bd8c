/-
  Contracts of package lex: where an action ends (closed, within), and faults.
-/
import Derived.Test.YtbchjmldjdhjiaaLxwLeaf
namespace Go.Proofs.Ytbchjmldjdhjiaa.Lxw
open Go.RowKit Go.Proofs.Ytbchjmldjdhjiaa.Oct Go.Proofs.Ytbchjmldjdhjiaa.Lex

/-- What package faults panics with. -/
abbrev faultV (n : Int) : Value := .iface 60 (.agg #[.int .i64 n])
abbrev Fault (n : Int) : Ending := .panicked [{ v := faultV n, recovered := false }]
theorem demand_yes (n : Int) (w : World) : Calls Try.prog 51 #[.bool true, .int .i64 n] w fun e w' => e = .returned (.tuple #[]) ∧ w = w' := by
  go_enter Try.func51, Try.ntmps51
  go_wp2
  go_end0
  exact ⟨rfl, rfl⟩
theorem demand_no (n : Int) (w : World) : Calls Try.prog 51 #[.bool false, .int .i64 n] w fun e w' => e = Fault n ∧ w = w' := by
  go_enter Try.func51, Try.ntmps51
  go_wp2
  exact ⟨rfl, rfl, rfl⟩

/-- A place, or ErrShort. -/
def PlaceOr (o : Option Nat) (e : Ending) : Prop := (∃ m : Nat, o = some m ∧ e = .returned (.int .i64 (m : Int))) ∨ (o = none ∧ e = Fault 8)
theorem oct_is {c : UInt8} {n : Nat} (h : c = n.toUInt8) (hn : n < 256) : ((c.toNat : Int) == (n : Int)) = true := by
  rw [beq_iff_eq, h, Nat.toUInt8_eq, UInt8.toNat_ofNat']
  omega

set_option maxHeartbeats 1000000 in
set_option maxRecDepth 100000 in
theorem closed_c (l : List UInt8) (hl : l.length ≤ 1048576) (k0 : Nat) (hk0 : k0 ≤ l.length) (w : World) :
    Calls Try.prog 52 #[.string (S l), .int .i64 (k0 : Int)] w fun e w' => PlaceOr (closedTo false l k0) e ∧ w = w' := by
  have hsz : ((S l).size : Int) = (l.length : Int) := by rw [size_S]
  have hsn : (S l).size = l.length := size_S l
  have HAt := Lib.hid (fun k (h : k < l.length) => at_S l k h)
  have HPf : Hid (∀ (k : Nat) (w : World), Calls Try.prog 55 #[.string ((S l).extract k l.length), .string ⟨#[125, 125]⟩] w fun e w' => e = .returned (.bool ([125, 125].isPrefixOf (l.drop k))) ∧ w' = w) := fun k w => by
    have h := Try.strings_HasPrefix (S (l.drop k)) (S [125, 125]) w
    rw [list_S, list_S, ← cutFrom] at h
    exact h
  go_enter Try.func52, Try.ntmps52
  go_wp2_with fail
  go_loop [1, 5] (fun i h => ∃ (k : Nat) (q : Bool), k ≤ l.length + 1 ∧ i = .int .i64 k ∧ h = .bool q ∧ Hid (closedTo false l k0 = closedTo q l k)) (fun i _ => l.length + 1 - (intOf i).toNat)
  case atStart => exact ⟨k0, false, by omega, rfl, rfl, rfl⟩
  case round =>
    obtain ⟨k, q, hk, rfl, rfl, hE⟩ := hrel
    have i0 : (0 : Int) ≤ (k : Int) := by omega
    have i1 : (k : Int) ≤ 1048577 := by omega
    by_cases hlt : k < l.length
    · have h1 := HAt.out k hlt
      have hpf := HPf.out k
      have i2 : (k : Int) < (l.length : Int) := by omega
      have i3 : (k : Int) ≤ (l.length : Int) := by omega
      have hd : decide ((k : Int) < (l.length : Int)) = true := decide_eq_true i2
      have hcb : ((l[k]).toNat : Int) ≤ 255 := by have := (l[k]).toNat_lt; omega
      by_cases hc34 : l[k] = 34
      · have HN : Hid (closedTo false l k0 = closedTo (!q) l (k + 1)) := hE.out.trans (closed_quote q l k hlt hc34)
        have e92 : ((l[k]).toNat : Int) = 34 := by rw [hc34]; rfl
        clear hE hc34
        generalize l[k] = c at *
        cases q
        all_goals go_wp2_with (go_at_call 51; refine (demand_yes _ _).mono ?_; rintro e w' ⟨rfl, rfl⟩)
        all_goals go_round
        case rel => exact ⟨k + 1, _, by omega, by go_num, rfl, HN⟩
        case measure => simp [intOf]; omega
        case rel => exact ⟨k + 1, _, by omega, by go_num, rfl, HN⟩
        case measure => simp [intOf]; omega
      · have h34 : (((l[k]).toNat : Int) == 34) = false := oct_ne (n := 34) hc34 (by decide)
        have n34 : ¬ ((l[k]).toNat : Int) = 34 := by rw [beq_eq_false_iff_ne] at h34; exact h34
        cases q with
        | true =>
          by_cases hc92 : l[k] = 92
          · have HN : Hid (closedTo false l k0 = closedTo true l (k + 2)) := hE.out.trans (closed_esc l k hlt hc92)
            have e92 : ((l[k]).toNat : Int) = 92 := by rw [hc92]; rfl
            clear hE hc92 hc34 h34 n34
            generalize l[k] = c at *
            go_wp2_with (go_at_call 51; refine (demand_yes _ _).mono ?_; rintro e w' ⟨rfl, rfl⟩)
            go_round
            case rel => exact ⟨k + 2, _, by omega, by go_num, rfl, HN⟩
            case measure => simp [intOf]; omega
          · have HN : Hid (closedTo false l k0 = closedTo true l (k + 1)) := hE.out.trans (closed_next true l k hlt (fun h => hc92 h.2) hc34 (fun h => nomatch h.1))
            have h92 : (((l[k]).toNat : Int) == 92) = false := oct_ne (n := 92) hc92 (by decide)
            have n92 : ¬ ((l[k]).toNat : Int) = 92 := by rw [beq_eq_false_iff_ne] at h92; exact h92
            clear hE hc92 hc34
            generalize l[k] = c at *
            go_wp2_with (go_at_call 51; refine (demand_yes _ _).mono ?_; rintro e w' ⟨rfl, rfl⟩)
            go_round
            case rel => exact ⟨k + 1, _, by omega, by go_num, rfl, HN⟩
            case measure => simp [intOf]; omega
        | false =>
          cases hp : [125, 125].isPrefixOf (l.drop k) with
          | true =>
            have HN : Hid (closedTo false l k0 = some k) := hE.out.trans (closed_yes l k hp)
            rw [hp] at hpf
            clear hE hc34 hp
            generalize l[k] = c at *
            go_wp2_with (first
              | (go_at_call 51; refine (demand_yes _ _).mono ?_; rintro e w' ⟨rfl, rfl⟩)
              | (go_at_call 55; refine (hpf _).mono ?_; rintro e w' ⟨rfl, rfl⟩))
            go_ret
            exact ⟨.inl ⟨k, HN.out, rfl⟩, rfl⟩
          | false =>
            have HN : Hid (closedTo false l k0 = closedTo false l (k + 1)) := hE.out.trans (closed_next false l k hlt (fun h => nomatch h.1) hc34 (fun h => by rw [hp] at h; cases h.2))
            rw [hp] at hpf
            clear hE hc34 hp
            generalize l[k] = c at *
            go_wp2_with (first
              | (go_at_call 51; refine (demand_yes _ _).mono ?_; rintro e w' ⟨rfl, rfl⟩)
              | (go_at_call 55; refine (hpf _).mono ?_; rintro e w' ⟨rfl, rfl⟩))
            go_round
            case rel => exact ⟨k + 1, _, by omega, by go_num, rfl, HN⟩
            case measure => simp [intOf]; omega
    · have HN : Hid (closedTo false l k0 = none) := hE.out.trans (closed_end q l k (by omega))
      have hd : decide ((k : Int) < (l.length : Int)) = false := decide_eq_false (by omega)
      have n2 : ¬ (k : Int) < (l.length : Int) := by omega
      clear hE
      go_wp2_with (go_at_call 51; refine (demand_no _ _).mono ?_; rintro e w' ⟨rfl, rfl⟩)
      exact ⟨rfl, .inr ⟨HN.out, rfl⟩, rfl⟩

/-- The library's variable that strings.Index and strings.Cut read holds some number. -/
def MaxAt (w : World) : Prop := ∃ m, w.cell? ⟨0, 0, none⟩ = some (.int .i64 m)
theorem MaxAt.kept {w w' : World} (h : MaxAt w) (hb : Below w.heap.size w w') : MaxAt w' := by
  obtain ⟨m, hm⟩ := h
  exact ⟨m, (hb.cell (World.block_lt_of_cell? _ _ hm)).trans hm⟩
theorem index_c (l p : List UInt8) (hl : l.length ≤ 1048576) (w : World) (hM : MaxAt w) :
    Calls Try.prog 50 #[.string (S l), .string (S p)] w fun e w' => e = .returned (.int .i64 (findI p l)) ∧ w = w' := by
  obtain ⟨m, hm⟩ := hM
  have h := Try.strings_Index (S l) (S p) m w (by rw [size_S]; omega) hm
  rw [list_S, list_S, index_find] at h
  exact h.mono fun _ _ ⟨h1, h2⟩ => ⟨h1, h2.symm⟩

/-- What is within an action, or ErrShort. -/
def WithinOr (l : List UInt8) (e : Ending) : Prop := (∃ m : Nat, innerN l = some m ∧ e = .returned (.string (S (l.take m)))) ∨ (innerN l = none ∧ e = Fault 8)
theorem cutTo (l : List UInt8) (n : Nat) : (S l).extract 0 n = S (l.take n) := by
  rw [Lib.extract_eq, list_S, List.drop_zero, Nat.sub_zero]
theorem closed_le {q : Bool} {l : List UInt8} {k m : Nat} (h : closedTo q l k = some m) : m ≤ l.length := by
  unfold closedTo at h
  obtain ⟨j, hj, rfl⟩ := Option.map_eq_some_iff.1 h
  have := closes_le _ _ _ _ (Nat.le_refl _) hj
  rw [List.length_drop] at this
  omega
theorem inner_none {l : List UInt8} (hr : remB l = true) (h : findL [42, 47] (l.drop (bodyN l + 2)) = none) : innerN l = none := by
  unfold innerN
  rw [hr, if_pos rfl, h]
theorem inner_some {l : List UInt8} {k : Nat} (hr : remB l = true) (h : findL [42, 47] (l.drop (bodyN l + 2)) = some k) : innerN l = closedTo false l (bodyN l + 2 + k + 2) := by
  unfold innerN closedTo
  rw [hr, if_pos rfl, h]
set_option maxHeartbeats 1000000 in
set_option maxRecDepth 100000 in
theorem within_c (l : List UInt8) (hl : l.length ≤ 1048576) (w : World) (hM : MaxAt w) :
    Calls Try.prog 28 #[.string (S l)] w fun e w' => WithinOr l e ∧ w = w' := by
  have hsz : ((S l).size : Int) = (l.length : Int) := by rw [size_S]
  have hsn : (S l).size = l.length := size_S l
  have hre := remark_c l hl w
  have HL : Hid ((l.length : Int) ≤ 1048576) := by show _ ≤ _; omega
  cases hr : remB l with
  | false =>
    have hin : innerN l = closedTo false l 0 := by
      unfold innerN closedTo
      rw [hr, if_neg (by simp), List.drop_zero]
      cases closesL false l <;> rfl
    have HIn := Lib.hid hin
    have hcl : Calls Try.prog 52 #[.string (S l), .int .i64 0] w fun e w' => PlaceOr (closedTo false l 0) e ∧ w = w' := closed_c l hl 0 (Nat.zero_le _) w
    rw [hr] at hre
    have HTo := Lib.hid (cutTo l)
    have HLe := Lib.hid (fun m (h : closedTo false l 0 = some m) => closed_le h)
    clear hin hr hM
    unfold WithinOr
    rw [HIn.out]
    generalize closedTo false l 0 = o at hcl HLe ⊢
    go_enter Try.func28, Try.ntmps28
    go_wp2_with (go_at_call 32; refine hre.mono ?_; rintro e w' ⟨rfl, rfl⟩)
    refine hcl.mono ?_
    clear hcl
    rintro e w' ⟨(⟨m, hm, rfl⟩ | ⟨hn, rfl⟩), rfl⟩
    · have hle := HLe.out m hm
      have HM := Lib.hid hm
      have i0 : (0 : Int) ≤ (m : Int) := by omega
      have i1 : (m : Int) ≤ (l.length : Int) := by omega
      clear hm HLe HIn
      go_wp2_with fail
      go_ret
      exact ⟨.inl ⟨m, HM.out, by rw [← HTo.out]; rfl⟩, rfl⟩
    · exact ⟨rfl, .inr ⟨hn, rfl⟩, rfl⟩
  | true =>
    rw [hr] at hre
    have hf := rem_find l hr
    have hb2 := find_le hf
    simp only [List.length_cons, List.length_nil] at hb2
    have h1 := index_c l [47, 42] hl w hM
    have h2 := index_c (l.drop (bodyN l + 2)) [42, 47] (by rw [List.length_drop]; omega) w hM
    have e1 : findI [47, 42] l = (bodyN l : Int) := by unfold findI; rw [hf]
    rw [e1] at h1
    have hrl := List.length_drop (i := bodyN l + 2) (l := l)
    rw [← cutFrom] at h2
    have HTo := Lib.hid (cutTo l)
    have HCl := Lib.hid (fun k (h : k ≤ l.length) => closed_c l hl k h w)
    have HLe := Lib.hid (fun k m (h : closedTo false l k = some m) => closed_le h)
    have i4 : (l.length : Int) ≤ 1048576 := by omega
    replace h1 : Calls Try.prog 50 #[.string (S l), .string ⟨#[47, 42]⟩] w fun e w' => e = .returned (.int .i64 (bodyN l : Int)) ∧ w = w' := h1
    have HR := Lib.hid hr
    unfold WithinOr
    clear hM hf e1 hr
    cases hfk : findL [42, 47] (l.drop (bodyN l + 2)) with
    | none =>
      have HIn := Lib.hid (inner_none HR.out hfk)
      have e2 : findI [42, 47] (l.drop (bodyN l + 2)) = -1 := by unfold findI; rw [hfk]
      rw [e2] at h2
      rw [HIn.out]
      clear hfk e2 HR HIn
      generalize bodyN l = b at *
      have i0 : (0 : Int) ≤ (b : Int) := by omega
      have i1 : (b : Int) + 2 ≤ (l.length : Int) := by omega
      have i2 : (0 : Int) ≤ (b : Int) + 2 := by omega
      have i3 : ((b : Int) + 2).toNat = b + 2 := by omega
      replace h2 : Calls Try.prog 50 #[.string ((S l).extract (b + 2) l.length), .string ⟨#[42, 47]⟩] w fun e w' => e = .returned (.int .i64 (-1)) ∧ w = w' := h2
      clear HCl HLe
      generalize S l = L at *
      go_enter Try.func28, Try.ntmps28
      go_wp2_with (go_at_call 32; refine hre.mono ?_; rintro e w' ⟨rfl, rfl⟩)
      refine h1.mono ?_
      rintro e w' ⟨rfl, rfl⟩
      go_wp2_with fail
      refine h2.mono ?_
      rintro e w' ⟨rfl, rfl⟩
      go_wp2_with (go_at_call 51; refine (demand_no _ _).mono ?_; rintro e w' ⟨rfl, rfl⟩)
      exact ⟨rfl, .inr ⟨trivial, rfl⟩, rfl⟩
    | some k =>
      have HIn := Lib.hid (inner_some HR.out hfk)
      have e2 : findI [42, 47] (l.drop (bodyN l + 2)) = (k : Int) := by unfold findI; rw [hfk]
      have hk2 : bodyN l + 2 + k + 2 ≤ l.length := by
        have := find_le hfk
        rw [hrl] at this
        simp only [List.length_cons, List.length_nil] at this
        omega
      rw [e2] at h2
      rw [HIn.out]
      clear hfk e2 HR HIn
      generalize bodyN l = b at *
      have i0 : (0 : Int) ≤ (b : Int) := by omega
      have i1 : (b : Int) + 2 ≤ (l.length : Int) := by omega
      have i2 : (0 : Int) ≤ (b : Int) + 2 := by omega
      have i3 : ((b : Int) + 2).toNat = b + 2 := by omega
      replace h2 : Calls Try.prog 50 #[.string ((S l).extract (b + 2) l.length), .string ⟨#[42, 47]⟩] w fun e w' => e = .returned (.int .i64 (k : Int)) ∧ w = w' := h2
      have hcl := HCl.out (b + 2 + k + 2) hk2
      have HLe2 := Lib.hid (HLe.out (b + 2 + k + 2))
      obtain ⟨o, ho⟩ : ∃ o, o = closedTo false l (b + 2 + k + 2) := ⟨_, rfl⟩
      rw [← ho] at hcl HLe2 ⊢
      have HO := Lib.hid ho
      have hsum : (b : Int) + 2 + ((k : Int) + 2) = ((b + 2 + k + 2 : Nat) : Int) := by omega
      obtain ⟨j, hj⟩ : ∃ j : Nat, j = b + 2 + k + 2 := ⟨_, rfl⟩
      rw [← hj] at hcl hsum hk2
      have j0 : (0 : Int) ≤ (k : Int) := by omega
      have j1 : (k : Int) ≤ 1048576 := by omega
      clear HCl HLe ho hj hrl
      generalize S l = L at *
      go_enter Try.func28, Try.ntmps28
      go_wp2_with (go_at_call 32; refine hre.mono ?_; rintro e w' ⟨rfl, rfl⟩)
      refine h1.mono ?_
      rintro e w' ⟨rfl, rfl⟩
      go_wp2_with fail
      refine h2.mono ?_
      rintro e w' ⟨rfl, rfl⟩
      go_wp2_with (go_at_call 51; refine (demand_yes _ _).mono ?_; rintro e w' ⟨rfl, rfl⟩)
      refine hcl.mono ?_
      clear hcl
      rintro e w' ⟨(⟨m, hm, rfl⟩ | ⟨hn, rfl⟩), rfl⟩
      · have hle := HLe2.out m hm
        have HM := Lib.hid hm
        have i5 : (0 : Int) ≤ (m : Int) := by omega
        have i6 : (m : Int) ≤ (l.length : Int) := by omega
        clear hm HLe2
        go_wp2_with fail
        go_ret
        exact ⟨.inl ⟨m, HM.out, by rw [← HTo.out]; rfl⟩, rfl⟩
      · exact ⟨rfl, .inr ⟨hn, rfl⟩, rfl⟩
end Go.Proofs.Ytbchjmldjdhjiaa.Lxw
