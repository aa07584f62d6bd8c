/-
  Contracts of Escape and Decode of package refs.
-/
import Derived.Test.YtamenccdnobjkaaDoorCrfRead
import Derived.Test.YtamenccdnobjkaaDoorBuildText
import Derived.Test.YtamenccdnobjkaaDoorUtfRepair
import Derived.Lib.BufferKept
namespace Go.Proofs.YtamenccdnobjkaaDoor.Crf
open Go.RowKit Go.Proofs.YtamenccdnobjkaaDoor.Oct Go.Proofs.YtamenccdnobjkaaDoor.Num Go.Proofs.YtamenccdnobjkaaDoor.Utf Go.Proofs.YtamenccdnobjkaaDoor.Build
open Go.Lib (encodeRune)

theorem enter_write : ∀ args w, (callFunc 29 args).run Tryd.prog w = .ok (.enter 29 args) w := enters_of Tryd.func29 (by kernel_rfl) rfl
theorem enter_string : ∀ args w, (callFunc 31 args).run Tryd.prog w = .ok (.enter 31 args) w := enters_of Tryd.func31 (by kernel_rfl) rfl

/-- The builder in block b holds these octets. -/
abbrev Has (B b : Nat) (l : List UInt8) (w : World) : Prop := Is B b (Lib.byteCells l) w
theorem has_below {B b : Nat} {l : List UInt8} {W W' : World} (h : Has B b l W) (hb : Below W.heap.size W W') : Has B b l W' := by
  have one : ∀ p, Lib.BuilderAt 39 5 B b p (Lib.byteCells l) W → Lib.BuilderAt 39 5 B b p (Lib.byteCells l) W' := fun p h => by
    have hlt := h.lt
    obtain ⟨h1, v, h2, h3, h4⟩ := h
    refine ⟨h1, v, by rw [hb.block b hlt]; exact h2, ?_, h4⟩
    refine h3.kept (row := none) ⟨hb.os, hb.tape, hb.output, hb.size, fun k hk _ => hb.block k hk⟩ ?_
    rcases h3.2 with ⟨rfl, _⟩ | ⟨g, cap, cur, rfl, _⟩
    · exact .inl rfl
    · exact .inr (by simp [Value.ownBlock])
  rcases h with h | h
  · exact .inl (one _ h)
  · exact .inr (one _ h)
theorem has_lt {B b : Nat} {l : List UInt8} {W : World} (h : Has B b l W) : B ≤ b ∧ b < W.heap.size := by
  rcases h with h | h
  · exact ⟨h.1, h.lt⟩
  · exact ⟨h.1, h.lt⟩
theorem has_fresh (w : World) : Has w.heap.size w.heap.size [] (w.alloc (.cells #[.pointer none, .slice none 0 0] 39)) :=
  .inl ⟨Nat.le_refl _, .slice none 0 0, heap_alloc_new w _, ⟨rfl, .inl ⟨rfl, rfl⟩⟩, by simp [Value.ownBlock]⟩
theorem put_c (B b : Nat) (l t : List UInt8) (w : World) (h : Has B b l w) (hlen : l.length + t.length ≤ 140737488355328) :
    Calls Tryd.prog 29 #[.pointer (some ⟨b, 0, none⟩), .string (S t)] w fun e w' => e = .returned (.tuple #[.int .i64 (S t).size, .nilIface]) ∧ Has B b (l ++ t) w' ∧ Below B w w' := by
  have hb := has_lt h
  have hc := write_c B b (Lib.byteCells l) (S t) w h (by rw [Lib.byteCells_length, size_S]; exact hlen) (by omega)
  rw [Lib.strCells_eq, ← Lib.byteCells_append, list_S] at hc
  exact hc.mono fun e w' ⟨h1, h2, h3, _⟩ => ⟨h1, h2, h3⟩

set_option maxHeartbeats 4000000 in
set_option maxRecDepth 100000 in
theorem escape_c (s : ByteArray) (hs : s.size ≤ 1099511627776) (w : World) (hT : Tabs w) :
    Calls Tryd.prog 10 #[.string s] w fun e w' => e = .returned (.string (S (escL (rep s.data.toList)))) ∧ Below w.heap.size w w' := by
  have hrep := repair_c s (by omega) w hT
  have hrl : (rep s.data.toList).length ≤ 4 * s.size := by
    have h1 := encs_len (chars s.data.toList)
    have h2 := chars_len s.data.toList
    rw [size_list] at h2
    unfold rep
    omega
  generalize rep s.data.toList = r at hrep hrl
  have hrl2 : r.length ≤ 4398046511104 := by omega
  have hsz : ((S r).size : Int) = (r.length : Int) := by rw [size_S]
  have hone := Lib.hid (fun k (h : k < r.length) => cutOne r k h)
  have e1 := enter_write
  have e2 := enter_string
  generalize S r = R at hrep hsz hone
  clear hs hrl
  go_enter Tryd.func10, Tryd.ntmps10
  go_wp2_with fail
  refine hrep.mono ?_
  rintro e w1 ⟨rfl, hb1⟩
  have H0 : Hid (Has w1.heap.size w1.heap.size (escL (r.take 0)) (w1.alloc (.cells #[.pointer none, .slice none 0 0] 39)) ∧ Below w1.heap.size w1 (w1.alloc (.cells #[.pointer none, .slice none 0 0] 39))) :=
    ⟨has_fresh w1, (Below.refl _ w1).alloc (Nat.le_refl _) _⟩
  have HB1 := Lib.hid hb1
  clear hrep hT hb1
  go_wp2_with fail
  go_loopw [10] (fun i wr => ∃ k : Nat, k ≤ r.length ∧ i = .int .i64 k ∧ Hid (Has w1.heap.size w1.heap.size (escL (r.take k)) wr ∧ Below w1.heap.size w1 wr)) (fun i _ => r.length - (intOf i).toNat)
  case atStart => exact ⟨0, Nat.zero_le _, rfl, H0⟩
  case round =>
    clear H0
    obtain ⟨k, hk, rfl, hr⟩ := hrel
    by_cases hlt : k < r.length
    · have h1 := hone.out k hlt
      have hesc := escaped_c r[k] wr
      have hp := put_c w1.heap.size w1.heap.size (escL (r.take k)) (escO r[k]) wr hr.out.1 (by
        have a1 := esc_len (r.take k)
        have a2 := esc_len [r[k]]
        have a3 : escL [r[k]] = escO r[k] := by simp [escL]
        rw [a3] at a2
        rw [List.length_take] at a1
        simp at a2
        omega)
      have hn : escL (r.take k) ++ escO r[k] = escL (r.take (k + 1)) := by rw [List.take_succ_eq_append_getElem hlt, esc_snoc]
      rw [hn] at hp
      clear hn
      generalize r[k] = c at h1 hesc hp
      have i0 : (0 : Int) ≤ (k : Int) := by omega
      have i1 : (k : Int) < (r.length : Int) := by omega
      have i2 : (k : Int) + 1 ≤ (r.length : Int) := by omega
      have i3 : (k : Int) ≤ (k : Int) + 1 := by omega
      have i4 : ((k : Int) + 1).toNat = k + 1 := by omega
      have HP := Lib.hid hp
      clear hp
      generalize S (escO c) = EC at hesc HP
      go_wp2_with (first
        | (go_at_call 30; refine hesc.mono ?_; rintro e w2 ⟨rfl, rfl⟩)
        | (go_at_fn 29; refine HP.out.mono ?_; rintro e w3 ⟨rfl, h3, h4⟩; have HN := Lib.hid (And.intro h3 (hr.out.2.trans h4)); clear h3 h4))
      go_roundw
      case rel => exact ⟨k + 1, by omega, by go_num, HN⟩
      case measure => simp [intOf]; omega
    · have hkl : k = r.length := by omega
      subst hkl
      have hst := fun W (h : Has w1.heap.size w1.heap.size (escL r) W) => Tryd.Builder_String_any w1.heap.size w1.heap.size (escL r) W h (Nat.le_of_lt (has_lt h).2)
      have HS := Lib.hid hst
      have HR : Hid (Has w1.heap.size w1.heap.size (escL r) wr) := by
        have := hr.out.1
        rw [List.take_length] at this
        exact this
      clear hst
      go_wp2_with (go_at_fn 31; refine (HS.out _ HR.out).mono ?_; rintro e w3 ⟨rfl, h3⟩)
      go_ret
      exact ⟨rfl, HB1.out.trans ((hr.out.2.trans h3).mono HB1.out.size)⟩

set_option maxHeartbeats 4000000 in
set_option maxRecDepth 100000 in
theorem decode_c (l : List UInt8) (hl : l.length ≤ 4398046511104) (w : World) :
    Calls Tryd.prog 12 #[.string (S l)] w fun e w' => e = .returned (.string (S (decL' l))) ∧ Below w.heap.size w w' := by
  have hsz : ((S l).size : Int) = (l.length : Int) := by rw [size_S]
  have hone := Lib.hid (fun k (h : k < l.length) => cutOne l k h)
  have hfrom := Lib.hid (fun k => (cutFrom (S l) k).trans (by rw [list_S] : S ((S l).data.toList.drop k) = S (l.drop k)))
  have e1 := enter_write
  have e2 := enter_string
  generalize S l = L at hsz hone hfrom
  have H0 : Hid (Has w.heap.size w.heap.size [] (w.alloc (.cells #[.pointer none, .slice none 0 0] 39)) ∧ Below w.heap.size w (w.alloc (.cells #[.pointer none, .slice none 0 0] 39))) :=
    ⟨has_fresh w, (Below.refl _ w).alloc (Nat.le_refl _) _⟩
  go_enter Tryd.func12, Tryd.ntmps12
  go_wp2_with fail
  go_loopw [4, 10] (fun m i wr => ∃ k t : Nat, k ≤ t ∧ t ≤ l.length ∧ i = .int .i64 k ∧ m = .int .i64 t ∧ ∃ o, o.length ≤ 4 * t ∧ Hid (o ++ decL' (l.drop t) = decL' l) ∧ Hid (Has w.heap.size w.heap.size o wr ∧ Below w.heap.size w wr)) (fun _ i _ => l.length - (intOf i).toNat)
  case atStart => exact ⟨0, 0, Nat.zero_le _, Nat.zero_le _, rfl, rfl, [], by simp, rfl, H0⟩
  case round =>
    clear H0
    obtain ⟨k, t, hkt, htl, rfl, rfl, o, hol, ho, hr⟩ := hrel
    by_cases hlt : k < l.length
    · by_cases hk2 : k < t
      · have i0 : (k : Int) < (l.length : Int) := by omega
        have i1 : (k : Int) < (t : Int) := by omega
        go_wp2_with fail
        go_roundw
        case rel => exact ⟨k + 1, t, by omega, htl, by go_num, rfl, o, hol, ho, hr⟩
        case measure => simp [intOf]; omega
      · have hkt2 : t = k := by omega
        subst hkt2
        have hrd := read_c (l.drop t) (by rw [List.length_drop]; omega) wr
        have hf := hfrom.out t
        have hslen := one_slen (l.drop t)
        have hlen := one_len (l.drop t)
        rw [List.length_drop] at hlen
        rw [← hf] at hrd
        have i0 : (0 : Int) ≤ (t : Int) := by omega
        have i1 : (t : Int) < (l.length : Int) := by omega
        have i2 : (t : Int) + 1 ≤ (l.length : Int) := by omega
        have i3 : (t : Int) ≤ (t : Int) + 1 := by omega
        have i4 : ((t : Int) + 1).toNat = t + 1 := by omega
        have i5 : (t : Int) ≤ (l.length : Int) := by omega
        by_cases hz : (oneL (l.drop t)).2 = 0
        · have hp := fun W (h : Has w.heap.size w.heap.size o W) => put_c w.heap.size w.heap.size o [l[t]] W h (by simp; omega)
          have h1 := hone.out t hlt
          have HN : Hid ((o ++ [l[t]]) ++ decL' (l.drop (t + 1)) = decL' l) := by
            show _ = _
            rw [← ho.out, List.append_assoc]
            congr 1
            have e : l.drop t = l[t] :: l.drop (t + 1) := List.drop_eq_getElem_cons hlt
            rw [e] at hz ⊢
            rw [dec_plain _ _ hz]
            rfl
          rw [one_zero hz] at hrd
          have HP := Lib.hid hp
          generalize l[t] = c at h1 HP HN
          have hH := Lib.hid (fun w2 (hb2 : Below wr.heap.size wr w2) => And.intro (has_below hr.out.1 hb2) (hr.out.2.trans (hb2.mono hr.out.2.size)))
          clear hf hp hz hslen hlen
          generalize hSC : S [c] = SC at h1 HP
          clear hSC
          go_wp2_with (first
            | (go_at_call 23; refine hrd.mono ?_; rintro e w2 ⟨rfl, hb2⟩; have HB2 := Lib.hid (hH.out w2 hb2); clear hb2)
            | (go_at_fn 29; refine (HP.out _ HB2.out.1).mono ?_; rintro e w3 ⟨rfl, h3, h4⟩; have HN3 := Lib.hid (And.intro h3 (HB2.out.2.trans h4)); clear h3 h4))
          go_roundw
          case rel => exact ⟨t + 1, t + 1, by omega, by omega, by go_num, by go_num, o ++ [c], by rw [List.length_append, List.length_singleton]; omega, HN, HN3⟩
          case measure => simp [intOf]; omega
        · have hp := fun W (h : Has w.heap.size w.heap.size o W) => put_c w.heap.size w.heap.size o (oneL (l.drop t)).1 W h (by omega)
          have HN : Hid ((o ++ (oneL (l.drop t)).1) ++ decL' (l.drop (t + (oneL (l.drop t)).2)) = decL' l) := by
            show _ = _
            rw [← ho.out, List.append_assoc]
            congr 1
            rw [dec_ref _ hz, List.drop_drop]
          have hz1 : 0 < (oneL (l.drop t)).2 := by omega
          have hzb : (((oneL (l.drop t)).2 : Int) == 0) = false := by simp; exact hz
          have HP := Lib.hid hp
          clear hp hz
          generalize (oneL (l.drop t)).1 = st at hrd HP HN hslen
          generalize (oneL (l.drop t)).2 = n at hrd HN hlen hz1 hzb
          have hH := Lib.hid (fun w2 (hb2 : Below wr.heap.size wr w2) => And.intro (has_below hr.out.1 hb2) (hr.out.2.trans (hb2.mono hr.out.2.size)))
          clear hf
          generalize S st = SC at hrd HP
          go_wp2_with (first
            | (go_at_call 23; refine hrd.mono ?_; rintro e w2 ⟨rfl, hb2⟩; have HB2 := Lib.hid (hH.out w2 hb2); clear hb2)
            | (go_at_fn 29; refine (HP.out _ HB2.out.1).mono ?_; rintro e w3 ⟨rfl, h3, h4⟩; have HN3 := Lib.hid (And.intro h3 (HB2.out.2.trans h4)); clear h3 h4))
          go_roundw
          case rel => exact ⟨t + 1, t + n, by omega, by omega, by go_num, by go_num, o ++ st, by rw [List.length_append]; omega, HN, HN3⟩
          case measure => simp [intOf]; omega
    · have hkl : t = l.length := by omega
      have hkl2 : k = l.length := by omega
      subst hkl2
      have HR : Hid (Has w.heap.size w.heap.size (decL' l) wr) := by
        have h1 := ho.out
        rw [hkl, List.drop_length, dec_nil', List.append_nil] at h1
        rw [← h1]
        exact hr.out.1
      have HS := Lib.hid (fun W (h : Has w.heap.size w.heap.size (decL' l) W) => Tryd.Builder_String_any w.heap.size w.heap.size (decL' l) W h (Nat.le_of_lt (has_lt h).2))
      clear hkl
      go_wp2_with (go_at_fn 31; refine (HS.out _ HR.out).mono ?_; rintro e w3 ⟨rfl, h3⟩)
      go_ret
      exact ⟨rfl, hr.out.2.trans h3⟩
end Go.Proofs.YtamenccdnobjkaaDoor.Crf
