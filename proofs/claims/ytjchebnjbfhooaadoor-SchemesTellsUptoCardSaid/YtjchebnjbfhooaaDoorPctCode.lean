/-
  Contracts of encoded and each of package percent, at whatever function value that is handed in.
-/
import Derived.Test.YtjchebnjbfhooaaDoorPctBuild
import Derived.Test.YtjchebnjbfhooaaDoorPctLeaf
namespace Go.Proofs.YtjchebnjbfhooaaDoor.Pct
open Go.RowKit Go.Proofs.YtjchebnjbfhooaaDoor.Oct Go.Proofs.YtjchebnjbfhooaaDoor.Build

theorem cutFrom (s : ByteArray) (n : Nat) : s.extract n s.size = S (s.data.toList.drop n) := by
  rw [Lib.extract_eq, List.take_of_length_le (by rw [List.length_drop, size_list]; omega)]
theorem at_S (l : List UInt8) (k : Nat) (h : k < l.length) : (S l)[k]'(by rw [size_S]; exact h) = l[k] := by
  rw [ByteArray.getElem_eq_getElem_data]; simp

/-- What is asked of a function value that tells of a place whether its octet stays: it leaves all memory as it lies. -/
def Tells (g : Nat) (lb : Array Value) (q : Nat → Bool) (n : Nat) (w : World) : Prop :=
  ∀ (k : Nat) (W : World), k < n → Below w.heap.size w W → Calls Tryd.prog g (#[.int .i64 (k : Int)] ++ lb) W fun e w' => e = .returned (.bool (q k)) ∧ Below W.heap.size W w'

set_option maxHeartbeats 4000000 in
set_option maxRecDepth 100000 in
theorem encoded_c (l : List UInt8) (hl : l.length ≤ 4398046511104) (p : List UInt8 → Bool) (g : Nat) (lb : Array Value) (w : World)
    (eg : ∀ args w, (callFunc g args).run Tryd.prog w = .ok (.enter g args) w) (hp : Tells g lb (fun k => p (l.drop k)) l.length w) :
    Calls Tryd.prog 29 #[.string (S l), .func (.func g) #[] lb] w fun e w' => e = .returned (.string (S (codL p l))) ∧ Below w.heap.size w w' := by
  have hsz : ((S l).size : Int) = (l.length : Int) := by rw [size_S]
  have hone := Lib.hid (fun k (h : k < l.length) => at_S l k h)
  have e1 := enter_byte
  have e2 := enter_write
  have e3 := enter_string
  have H0 : Hid (Has w.heap.size w.heap.size [] (w.alloc (.cells #[.pointer none, .slice none 0 0] 57)) ∧ Below w.heap.size w (w.alloc (.cells #[.pointer none, .slice none 0 0] 57))) :=
    ⟨has_fresh w, (Below.refl _ w).alloc (Nat.le_refl _) _⟩
  have HP := Lib.hid hp
  clear hp
  go_enter Tryd.func29, Tryd.ntmps29
  go_wp2_with fail
  go_loopw [9] (fun i wr => ∃ k : Nat, k ≤ l.length ∧ i = .int .i64 k ∧ ∃ o, o.length ≤ 3 * k ∧ Hid (o ++ codL p (l.drop k) = codL p l) ∧ Hid (Has w.heap.size w.heap.size o wr ∧ Below w.heap.size w wr)) (fun i _ => l.length - (intOf i).toNat)
  case atStart => exact ⟨0, Nat.zero_le _, rfl, [], Nat.zero_le _, rfl, H0⟩
  case round =>
    clear H0
    obtain ⟨k, hk, rfl, o, hol, ho, hr⟩ := hrel
    by_cases hlt : k < l.length
    · have h1 := hone.out k hlt
      have hst : Calls Tryd.prog g (#[.int .i64 (k : Int)] ++ lb) wr fun e w' => e = .returned (.bool (p (l.drop k))) ∧ Below wr.heap.size wr w' := HP.out k wr hlt hr.out.2
      have HN : Hid (codL p (l.drop k) = (if p (l.drop k) = true then [l[k]] else 37 :: hexL l[k].toNat 2) ++ codL p (l.drop (k + 1))) := by
        have e : l.drop k = l[k] :: l.drop (k + 1) := List.drop_eq_getElem_cons hlt
        show _ = _
        rw [e]
        rfl
      generalize l[k] = c at h1 HN
      have i0 : (0 : Int) ≤ (k : Int) := by omega
      have i1 : (k : Int) < (l.length : Int) := by omega
      have i2 : (k : Int) + 1 ≤ (l.length : Int) := by omega
      have i3 : (k : Int) ≤ (k : Int) + 1 := by omega
      have i4 : ((k : Int) + 1).toNat = k + 1 := by omega
      have HH := Lib.hid (fun w2 (hb2 : Below wr.heap.size wr w2) => And.intro (has_below hr.out.1 hb2) (hr.out.2.trans (hb2.mono hr.out.2.size)))
      cases hq : p (l.drop k) with
      | true =>
        rw [hq] at hst HN
        have HPut := Lib.hid (fun W h => byte_c w.heap.size w.heap.size o c W h (by omega))
        have HN2 : Hid ((o ++ [c]) ++ codL p (l.drop (k + 1)) = codL p l) := by
          show _ = _
          rw [← ho.out, HN.out, List.append_assoc]
          rfl
        clear hq HN
        go_wp2_with (first
          | (go_at_fn g; refine hst.mono ?_; rintro e w2 ⟨rfl, hb2⟩; have HB2 := Lib.hid (HH.out w2 hb2); clear hb2)
          | (go_at_fn 47; refine (HPut.out _ HB2.out.1).mono ?_; rintro e w3 ⟨rfl, h3, h4⟩; have HN3 := Lib.hid (And.intro h3 (HB2.out.2.trans h4)); clear h3 h4))
        go_roundw
        case rel => exact ⟨k + 1, by omega, by go_num, o ++ [c], by rw [List.length_append, List.length_singleton]; omega, HN2, HN3⟩
        case measure => simp [intOf]; omega
      | false =>
        rw [hq] at hst HN
        have HPut := Lib.hid (fun W h => byte_c w.heap.size w.heap.size o 37 W h (by omega))
        have HPut2 := Lib.hid (fun W h => put_c w.heap.size w.heap.size (o ++ [37]) (hexL c.toNat 2) W h (by rw [List.length_append, List.length_singleton, hexL_length]; omega))
        have hhex := fun W => hex2_c c W
        have HN2 : Hid (((o ++ [37]) ++ hexL c.toNat 2) ++ codL p (l.drop (k + 1)) = codL p l) := by
          show _ = _
          rw [← ho.out, HN.out]
          simp
        have HL : Hid (((o ++ [37]) ++ hexL c.toNat 2).length ≤ 3 * (k + 1)) := by
          show _ ≤ _
          rw [List.length_append, List.length_append, List.length_singleton, hexL_length]; omega
        have cb : (c.toNat : Int) ≤ 255 := by have := c.toNat_lt; omega
        generalize hexL c.toNat 2 = hx at HPut2 hhex HN2 HL
        generalize S hx = HX at HPut2 hhex
        clear hq HN
        go_wp2_with (first
          | (go_at_fn g; refine hst.mono ?_; rintro e w2 ⟨rfl, hb2⟩; have HB2 := Lib.hid (HH.out w2 hb2); clear hb2)
          | (go_at_fn 47; refine (HPut.out _ HB2.out.1).mono ?_; rintro e w3 ⟨rfl, h3, h4⟩; have HN3 := Lib.hid (And.intro h3 (HB2.out.2.trans h4)); clear h3 h4)
          | (go_at_call 49; refine (hhex _).mono ?_; rintro e w4 ⟨rfl, hb4⟩; have HB4 := Lib.hid (And.intro (has_below HN3.out.1 hb4) (HN3.out.2.trans (hb4.mono HN3.out.2.size))); clear hb4)
          | (go_at_fn 48; refine (HPut2.out _ HB4.out.1).mono ?_; rintro e w5 ⟨rfl, h5, h6⟩; have HN5 := Lib.hid (And.intro h5 (HB4.out.2.trans h6)); clear h5 h6))
        go_roundw
        case rel => exact ⟨k + 1, by omega, by go_num, (o ++ [37]) ++ hx, HL.out, HN2, HN5⟩
        case measure => simp [intOf]; omega
    · have hkl : k = l.length := by omega
      subst hkl
      have HR : Hid (Has w.heap.size w.heap.size (codL p l) wr) := by
        have h1 := ho.out
        rw [List.drop_length] at h1
        have h2 : codL p [] = [] := rfl
        rw [h2, List.append_nil] at h1
        rw [← h1]
        exact hr.out.1
      have HS := Lib.hid (fun W (h : Has w.heap.size w.heap.size (codL p l) W) => Tryd.Builder_String_any w.heap.size w.heap.size (codL p l) W h (Nat.le_of_lt (has_lt h).2))
      go_wp2_with (go_at_fn 50; refine (HS.out _ HR.out).mono ?_; rintro e w3 ⟨rfl, h3⟩)
      go_ret
      exact ⟨rfl, hr.out.2.trans h3⟩

end Go.Proofs.YtjchebnjbfhooaaDoor.Pct
