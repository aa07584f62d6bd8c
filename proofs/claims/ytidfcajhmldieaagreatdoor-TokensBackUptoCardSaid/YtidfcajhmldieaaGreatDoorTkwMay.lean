/-
  Contracts of what asks whether a token may be written: attributes one by one, isCommentText, mayBe, Check.
-/
import Derived.Test.YtidfcajhmldieaaGreatDoorTkwLeaf
namespace Go.Proofs.YtidfcajhmldieaaGreatDoor.Tkw
open Go.RowKit Go.Proofs.YtidfcajhmldieaaGreatDoor.Oct Go.Proofs.YtidfcajhmldieaaGreatDoor.Utf Go.Proofs.YtidfcajhmldieaaGreatDoor.Tok

/-! ### What is asked, with no program -/
theorem all_word (more : Bool) (l : List UInt8) (p : UInt8 → Bool) (hp : ∀ c, p c = true → (smallI (c.toNat : Int) || digitI (c.toNat : Int) || (more && c == 45)) = true) (h : onlyB p l = true) (hl : l ≠ []) : wordB more l = true := by
  unfold wordB
  unfold onlyB at h
  rw [Bool.and_eq_true]
  refine ⟨?_, List.all_eq_true.2 fun c hc => hp c (List.all_eq_true.1 h c hc)⟩
  cases l with
  | nil => exact absurd rfl hl
  | cons c t => rfl
theorem att_ok {a : At} (h : attB a = true) : (wordB true a.n && decide (rep a.v = a.v)) = true := by
  unfold attB at h
  simp only [Bool.and_eq_true, Bool.not_eq_true', decide_eq_false_iff_not] at h
  rw [Bool.and_eq_true]
  refine ⟨all_word true a.n smD (fun c hc => ?_) h.2.1 h.1, h.2.2⟩
  unfold smD smB at hc
  rw [Bool.true_and]
  exact hc
theorem tag_word {l : List UInt8} (h : tagB l = true) : (wordB false l && !digitI ((l.headD 0).toNat : Int) && decide (l.length ≤ 32)) = true := by
  unfold tagB nameB at h
  simp only [Bool.and_eq_true, decide_eq_true_eq, Bool.not_eq_true'] at h
  obtain ⟨⟨⟨h1, h2⟩, _⟩, h3⟩ := h
  have hl : l ≠ [] := by rintro rfl; simp at h1
  rw [Bool.and_eq_true, Bool.and_eq_true]
  refine ⟨⟨all_word false l smB (fun c hc => ?_) h3 hl, ?_⟩, decide_eq_true h1.2⟩
  · unfold smB at hc
    rw [Bool.false_and, Bool.or_false]
    exact hc
  · cases l with
    | nil => exact absurd rfl hl
    | cons c t =>
      rw [Bool.not_eq_true']
      exact h2
/-- What a comment's text is asked. -/
def comB (l : List UInt8) : Bool := !Lib.contains l [45, 45, 62] && (!Lib.hasSuffix l [45] && (!Lib.hasPrefix l [62] && !Lib.hasPrefix l [45]))
theorem end_index : ∀ l : List UInt8, Lib.contains l [45, 45, 62] = hasEnd l
  | [] => rfl
  | c :: t => by
    have ih := end_index t
    have hge := Lib.index_ge t [45, 45, 62]
    unfold Lib.contains at ih ⊢
    unfold Lib.index
    show _ = (List.isPrefixOf [45, 45, 62] (c :: t) || hasEnd t)
    rw [← ih]
    cases hp : List.isPrefixOf [45, 45, 62] (c :: t) with
    | true => simp
    | false =>
      rw [if_neg (by simp)]
      by_cases h1 : Lib.index t [45, 45, 62] = -1
      · rw [h1]; rfl
      · rw [if_neg (by simpa using h1), Bool.false_or]
        rw [Bool.eq_iff_iff, decide_eq_true_eq, decide_eq_true_eq]
        omega
theorem com_ok {l : List UInt8} (h : comB l = true) : (l.isEmpty || (!hasEnd l && decide (l.headD 0 ≠ 45 ∧ l.headD 0 ≠ 62 ∧ l.getLastD 0 ≠ 45))) = true := by
  unfold comB at h
  rw [end_index] at h
  simp only [Bool.and_eq_true, Bool.not_eq_true'] at h
  obtain ⟨h1, h2, h3, h4⟩ := h
  cases l with
  | nil => rfl
  | cons c t =>
    rw [h1]
    have q3 : c ≠ 62 := by
      rintro rfl
      unfold Lib.hasPrefix at h3
      simp [List.isPrefixOf] at h3
    have q4 : c ≠ 45 := by
      rintro rfl
      unfold Lib.hasPrefix at h4
      simp [List.isPrefixOf] at h4
    have q2 : (c :: t).getLastD 0 ≠ 45 := by
      intro he
      have hs : [45] <:+ c :: t := by
        have hne : (c :: t) ≠ [] := List.cons_ne_nil _ _
        refine ⟨(c :: t).dropLast, ?_⟩
        have := List.dropLast_concat_getLast hne
        rw [← this]
        have e2 : (c :: t).getLast hne = 45 := by
          rw [List.getLastD_eq_getLast?, List.getLast?_eq_some_getLast hne] at he
          exact he
        rw [e2]
        simp
      unfold Lib.hasSuffix at h2
      rw [List.isSuffixOf_iff_suffix.2 hs] at h2
      cases h2
    simp only [Bool.or_eq_true, Bool.and_eq_true, Bool.not_false, decide_eq_true_eq, true_and]
    exact .inr ⟨q4, q3, q2⟩

/-! ### Attributes -/
theorem mayBe1_c (a : At) (h1 : a.n.length ≤ 17592186044416) (h2 : a.v.length ≤ 17592186044416) (w : World) (hT : Tabs w) :
    Calls Tryz.prog 45 #[.agg #[.string (S a.n), .string (S a.v)]] w fun e w' => e = .returned (.bool (!attB a)) ∧ Below w.heap.size w w' := by
  have hb0 : Below w.heap.size w (w.alloc (.cells #[.string (S a.n), .string (S a.v)] 65)) := (Below.refl _ w).alloc (Nat.le_refl _) _
  have hc := attr_c a h1 h2 _ (hT.kept hb0)
  have HB := Lib.hid (fun W (h : Below (w.alloc (.cells #[.string (S a.n), .string (S a.v)] 65)).heap.size (w.alloc (.cells #[.string (S a.n), .string (S a.v)] 65)) W) => hb0.trans (h.mono hb0.size))
  generalize attB a = b at hc ⊢
  generalize S a.n = N at *
  generalize S a.v = V at *
  clear hT hb0
  go_enter Tryz.func45, Tryz.ntmps45
  go_wp2_with (go_at_call 46; refine hc.mono ?_; rintro e w' ⟨rfl, hb⟩)
  go_ret
  exact ⟨rfl, HB.out _ hb⟩
theorem enter_mayBe1 : ∀ args w, (callFunc 45 args).run Tryz.prog w = .ok (.enter 45 args) w := enters_of Tryz.func45 (by kernel_rfl) rfl
/-- The first attribute that may not be; -1: none. -/
def attI (al : List At) : Int := if al.all attB then -1 else 0
set_option maxHeartbeats 2000000 in
theorem index_c (al : List At) (v : Value) (w : World) (ha : AtIn w v al) (hs : al.length ≤ 1152921504606846976) (hB : ∀ a ∈ al, a.n.length ≤ 17592186044416 ∧ a.v.length ≤ 17592186044416) (hT : Tabs w) :
    Calls Tryz.prog 64 #[v, .func (.func 45) #[] #[]] w fun e w' => (∃ i, e = .returned (.int .i64 i) ∧ (i < 0 → ∀ a ∈ al, attB a = true)) ∧ Below w.heap.size w w' := by
  obtain ⟨p, cap, rfl, hp⟩ := ha
  have eg := enter_mayBe1
  obtain ⟨n, hn⟩ : ∃ n, n = al.length := ⟨_, rfl⟩
  have HN := Lib.hid hn
  have HP := Lib.hid hp
  have HC := Lib.hid (fun (W : World) (h : Below w.heap.size w W) (a : At) (hm : a ∈ al) => mayBe1_c a (hB a hm).1 (hB a hm).2 W (hT.kept h))
  have hni : (n : Int) ≤ 1152921504606846976 := by omega
  rw [← hn]
  clear hn hp hB hT hs
  go_enter Tryz.func64, Tryz.ntmps64
  go_wp2
  go_loopw [5, 8] (fun _ i wr => ∃ k : Nat, k ≤ n ∧ i = .int .i64 k ∧ Hid (Below w.heap.size w wr) ∧ Hid (∀ j, (h : j < al.length) → j < k → attB al[j] = true)) (fun _ i _ => n - (intOf i).toNat)
  case atStart => exact ⟨0, Nat.zero_le _, rfl, Below.refl _ _, fun j _ h => absurd h (by omega)⟩
  case round =>
    obtain ⟨k, hk, rfl, hbel, hno⟩ := hrel
    by_cases hlt : k < n
    · have hlt2 : k < al.length := by have := HN.out; omega
      obtain ⟨b, o, rfl, hcs⟩ := HP.out (by omega)
      obtain ⟨c1, c2⟩ := hcs k hlt2
      have d1 := some_keep c1 hbel.out
      have d2 := some_keep c2 hbel.out
      have hcall := HC.out wr hbel.out al[k] (List.getElem_mem hlt2)
      have i0 : (0 : Int) ≤ (k : Int) := by omega
      have i1 : (k : Int) < (n : Int) := by omega
      clear hcs c1 c2
      obtain ⟨x, hx⟩ : ∃ x, x = al[k] := ⟨_, rfl⟩
      rw [← hx] at d1 d2 hcall
      have HX := Lib.hid hx
      clear hx
      cases hq : attB x with
      | false =>
        rw [hq] at hcall
        clear hq
        generalize S x.n = N at d1 hcall
        generalize S x.v = V at d2 hcall
        go_wp2_with (go_at_fn 45; refine hcall.mono ?_; rintro e w' ⟨rfl, hb'⟩)
        go_ret
        exact ⟨⟨_, rfl, fun h => absurd h (by omega)⟩, hbel.out.trans (hb'.mono hbel.out.size)⟩
      | true =>
        have HNX : Hid (∀ j, (h : j < al.length) → j < k + 1 → attB al[j] = true) := fun j h hj => by
          rcases Nat.lt_or_ge j k with h2 | h2
          · exact hno.out j h h2
          · obtain rfl : j = k := by omega
            rw [← HX.out]; exact hq
        rw [hq] at hcall
        clear hq
        generalize S x.n = N at d1 hcall
        generalize S x.v = V at d2 hcall
        go_wp2_with (go_at_fn 45; refine hcall.mono ?_; rintro e w' ⟨rfl, hb'⟩)
        go_roundw
        case rel => exact ⟨k + 1, by omega, by go_num, hbel.out.trans (hb'.mono hbel.out.size), HNX⟩
        case measure => simp [intOf]; omega
    · have HA : Hid (∀ a ∈ al, attB a = true) := fun a ha => by
        obtain ⟨j, hj, rfl⟩ := List.getElem_of_mem ha
        exact hno.out j hj (by have := HN.out; omega)
      have i1 : ¬ ((k : Int) < (n : Int)) := by omega
      go_wp2
      go_ret
      exact ⟨⟨_, rfl, fun _ => HA.out⟩, hbel.out⟩
theorem any_c (al : List At) (v : Value) (w : World) (ha : AtIn w v al) (hs : al.length ≤ 1152921504606846976) (hB : ∀ a ∈ al, a.n.length ≤ 17592186044416 ∧ a.v.length ≤ 17592186044416) (hT : Tabs w) :
    Calls Tryz.prog 44 #[v, .func (.func 45) #[] #[]] w fun e w' => (∃ b, e = .returned (.bool b) ∧ (b = false → ∀ a ∈ al, attB a = true)) ∧ Below w.heap.size w w' := by
  have hi := index_c al v w ha hs hB hT
  obtain ⟨p, cap, rfl, _⟩ := ha
  clear hB hT hs
  go_enter Tryz.func44, Tryz.ntmps44
  go_wp2_with (go_at_call 64; refine hi.mono ?_; rintro e w' ⟨⟨i, rfl, hr⟩, hb⟩)
  go_ret
  exact ⟨⟨_, rfl, fun h => hr (by simpa using h)⟩, hb⟩

/-! ### A comment's text -/
theorem comment_c (l : List UInt8) (hl : l.length ≤ 2147483648) (w : World) (hM : Tkc.MaxAt w) :
    Calls Tryz.prog 48 #[.string (S l)] w fun e w' => e = .returned (.bool (comB l)) ∧ w = w' := by
  obtain ⟨m, hm⟩ := hM
  have hc := Tryz.strings_Contains (S l) (S [45, 45, 62]) m w (by rw [size_S]; omega) hm
  have hs := fun w => Tryz.strings_HasSuffix (S l) (S [45]) w (by rw [size_S]; omega)
  have h62 := fun w => Tryz.strings_HasPrefix (S l) (S [62]) w
  have h45 := fun w => Tryz.strings_HasPrefix (S l) (S [45]) w
  rw [list_S, list_S] at hc
  simp only at hs h62 h45
  unfold comB
  generalize Lib.contains l [45, 45, 62] = b1 at hc ⊢
  generalize Lib.hasSuffix l [45] = b2 at hs ⊢
  generalize Lib.hasPrefix l [62] = b3 at h62 ⊢
  generalize Lib.hasPrefix l [45] = b4 at h45 ⊢
  generalize S l = L at *
  clear hm hl
  cases b1 <;> cases b2 <;> cases b3
  all_goals go_enter Tryz.func48, Tryz.ntmps48
  all_goals go_wp2_with (first
    | (go_at_call 66; refine hc.mono ?_; rintro e w' ⟨rfl, rfl⟩)
    | (go_at_call 67; refine (hs _).mono ?_; rintro e w' ⟨rfl, rfl⟩)
    | (go_at_call 35; first | (with_reducible refine (h62 _).mono ?_; rintro e w' ⟨rfl, rfl⟩) | (with_reducible refine (h45 _).mono ?_; rintro e w' ⟨rfl, rfl⟩)))
  all_goals go_ret
  all_goals exact ⟨rfl, rfl⟩
end Go.Proofs.YtidfcajhmldieaaGreatDoor.Tkw
