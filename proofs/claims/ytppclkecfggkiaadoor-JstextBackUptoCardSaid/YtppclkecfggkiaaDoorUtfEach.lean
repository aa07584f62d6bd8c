/-
  Contracts of utf.eachRepaired, at whatever function value that is handed in and whatever it makes of memory of its own, and of utf.anyPart, at a function value that changes nothing.
-/
import Derived.Test.YtppclkecfggkiaaDoorUtfParts
namespace Go.Proofs.YtppclkecfggkiaaDoor.Utf
open Go.RowKit Go.Proofs.YtppclkecfggkiaaDoor.Oct Go.Proofs.YtppclkecfggkiaaDoor.Mem
open Go.Lib (encodeRune)

attribute [local go_sem] Oper.semAt_some

theorem enter_parts1 : ∀ args w, (callFunc 54 args).run Tryd.prog w = .ok (.enter 54 args) w := enters_of Tryd.func54 (by kernel_rfl) rfl

/-- The world in which eachRepaired begins its loop: the function value and the text in boxes of their own. -/
abbrev eachWorld (w : World) (dov : Value) (s : ByteArray) : World := (w.alloc (.cells #[dov] 44)).alloc (.cells #[.string s] 9)

set_option maxRecDepth 100000 in
set_option maxHeartbeats 4000000 in
theorem each_c (s : ByteArray) (hs : s.size ≤ 4611686018427387904) (g : Nat) (lb : Array Value) (w : World) (J : List Int → World → Prop)
    (eg : ∀ args w, (callFunc g args).run Tryd.prog w = .ok (.enter g args) w)
    (hQ : ∀ pre W, J pre W → W.cell? ⟨w.heap.size, 0, none⟩ = some (.func (.func g) #[] lb) ∧ Reads (w.heap.size + 1) s W)
    (hown : OwnFrom (w.heap.size + 2) J)
    (h0 : J [] (eachWorld w (.func (.func g) #[] lb) s))
    (hdo : ∀ pre c W, J pre W → isChar c → c ≠ 0 → pre.length < s.size → Calls Tryd.prog g (#[.int .i64 c] ++ lb) W fun e W' => (∃ v, e = .returned v) ∧ J (pre ++ [c]) W' ∧ KeepsOthers W W') :
    Calls Tryd.prog 30 #[.string s, .func (.func g) #[] lb] w fun e W' => (∃ v, e = .returned v) ∧ J (chars s.data.toList) W' := by
  refine (callsIn_wide (n := 3)).1 ?_
  refine callsIn_of_wp_marks Tryd.func30 rfl trivial ?_ rfl
  simp only [Tryd.ntmps30, List.size_toArray, List.length_cons, List.length_nil, Nat.reduceAdd, Nat.reduceSub, Array.replicate_succ, Array.replicate_zero, List.push_toArray, List.append_toArray, List.nil_append, List.cons_append]
  gi_wp2_with fail
  refine ⟨trivial, ?_⟩
  refine (parts_c _ s _).mono ?_
  rintro e w' ⟨rfl, rfl⟩
  gi_wp2
  have hR0 : Reads (w.heap.size + 1) s (eachWorld w (.func (.func g) #[] lb) s) := (hQ _ _ h0).2
  refine wpIn_rangeFunc_ownF rfl (by omega) (gf := 54) (lb := #[.pointer (some ⟨w.heap.size + 1, 0, none⟩)]) rfl trivial enter_parts1
    (parts1_stops _ (by omega) (w.heap.size + 1) s hs _ hR0) keepsReads_t keepsReads_b (Below.refl _ _) (fun _ => rfl)
    (fun pre W => J ((vals pre).map fix) W)
    (fun _ _ _ => False)
    (fun p X Y row hp hg hr => hown _ X Y row hp hg (fun r e => by have := hr r e; simp at this; exact this))
    (fun _ _ _ _ _ hs _ _ => hs)
    h0
    (fun x => { tmps := #[.string s, .func (.func g) #[] lb, undef, .pointer (some ⟨w.heap.size, 0, none⟩), .int .i64 x.1, .string s, .func (.func 54) #[] #[.pointer (some ⟨w.heap.size + 1, 0, none⟩)], .int .i64 x.1, undef, undef, undef, undef, undef, undef, undef, undef, undef], defers := [] }) ?assign ?body ?done ?stop
  case assign =>
    intro l x W K hK
    gi_wp2
    exact hK
  case body =>
    rintro l pre ⟨c, hc⟩ W hJ hlen
    have hcell : W.cell? ⟨w.heap.size, 0, none⟩ = some (.func (.func g) #[] lb) := (hQ _ _ hJ).1
    have hf := fix_char hc
    have hcall := hdo _ (fix c) W hJ hf.1 hf.2 (by simpa using hlen)
    have hJ3 : ∀ W', J ((vals pre).map fix ++ [fix c]) W' → J ((vals (pre ++ [⟨c, hc⟩])).map fix) W' := fun W' h => by simpa using h
    have HJ3 := Lib.hid hJ3
    have HQ := Lib.hid hQ
    clear hJ3 hf hQ hown h0 hdo hR0
    by_cases h1 : c = -1
    · subst h1
      have e1 : fix (-1) = 65533 := by decide
      rw [e1] at hcall HJ3
      clear e1
      gi_wp2_with fail
      refine ⟨trivial, (CallsIn.inRound l (callsIn_wide.2 hcall)).mono ?_⟩
      rintro e W' ⟨⟨v, rfl⟩, hJ', hk'⟩
      clear hcall hcell
      gi_wp2
      exact ⟨hk', fun _ => (HQ.out _ _ hJ').2, HJ3.out _ hJ'⟩
    · by_cases h2 : c = 0
      · subst h2
        have e1 : fix 0 = 65533 := by decide
        rw [e1] at hcall HJ3
        clear e1 h1
        gi_wp2_with fail
        refine ⟨trivial, (CallsIn.inRound l (callsIn_wide.2 hcall)).mono ?_⟩
        rintro e W' ⟨⟨v, rfl⟩, hJ', hk'⟩
        clear hcall hcell
        gi_wp2
        exact ⟨hk', fun _ => (HQ.out _ _ hJ').2, HJ3.out _ hJ'⟩
      · have e1 : fix c = c := by unfold fix; rw [if_neg (by omega)]
        rw [e1] at hcall HJ3
        have b1 : (c == -1) = false := by simpa using h1
        have b2 : (c == 0) = false := by simpa using h2
        clear e1 h1 h2
        gi_wp2_with fail
        refine ⟨trivial, (CallsIn.inRound l (callsIn_wide.2 hcall)).mono ?_⟩
        rintro e W' ⟨⟨v, rfl⟩, hJ', hk'⟩
        clear hcall hcell
        gi_wp2
        exact ⟨hk', fun _ => (HQ.out _ _ hJ').2, HJ3.out _ hJ'⟩
  case done =>
    rintro D ys W hD hS hJ hK
    gi_wp2
    refine ⟨by simp, .inl ⟨_, _, rfl, run_takeDeferred hK, ?_⟩⟩
    refine ⟨_, results_none rfl _ _ _, ⟨_, rfl⟩, ?_⟩
    have hJ' : J (chars s.data.toList) W := by unfold chars; rw [← hS]; exact hJ
    exact hown.putObj _ hJ' (by simp at hD; omega) hK rfl
  case stop =>
    rintro D c pre W _ _ h _
    exact h.elim

/-- What is asked of a function value that tells of a part whether it is wanted: it changes nothing. -/
def Asks (g : Nat) (lb : Array Value) (p : Int → Bool) : Prop :=
  ∀ (c : Int) (W : World), Calls Tryd.prog g (#[.int .i64 c] ++ lb) W fun e w' => e = .returned (.bool (p c)) ∧ W = w'

end Go.Proofs.YtppclkecfggkiaaDoor.Utf
