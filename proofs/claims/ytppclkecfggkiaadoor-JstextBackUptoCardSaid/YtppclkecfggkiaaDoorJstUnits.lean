/-
  Contracts of plain, Escape's closure and eachUnit of package jstext.
-/
import Derived.Test.YtppclkecfggkiaaDoorJstBuild
namespace Go.Proofs.YtppclkecfggkiaaDoor.Jst
open Go.RowKit Go.Proofs.YtppclkecfggkiaaDoor.Oct Go.Proofs.YtppclkecfggkiaaDoor.Utf Go.Proofs.YtppclkecfggkiaaDoor.Build
open Go.Proofs.YtppclkecfggkiaaDoor.Pct (Has has_below has_lt has_fresh enter_byte enter_write enter_string)

theorem signs_t : ∀ k : Fin 256, decide (0 ≤ Lib.indexByte [32, 95, 46, 44] (k.val : Int).toNat.toUInt8) = decide ((k.val : Int) = 32 ∨ (k.val : Int) = 95 ∨ (k.val : Int) = 46 ∨ (k.val : Int) = 44) := by decide +kernel
theorem plain_c (c : Int) (w : World) (h0 : 0 ≤ c) (h1 : c ≤ 1114111) :
    Calls Tryd.prog 14 #[.int .i64 c] w fun e w' => e = .returned (.bool (keepI c)) ∧ w = w' := by
  by_cases h : c ≤ 255
  · have hu : IntKind.u8.wrap c = c := by rw [IntKind.wrap_u8]; omega
    have hl := fun w => letter_c c w h0 h
    have hx := fun w => Tryd.strings_IndexByte (S [32, 95, 46, 44]) c w
    have hs := signs_t ⟨c.toNat, by omega⟩
    rw [show ((⟨c.toNat, by omega⟩ : Fin 256).val : Int) = c from Int.toNat_of_nonneg h0] at hs
    have E : Hid (keepI c = (letterI c || digitI c || decide (0 ≤ Lib.indexByte [32, 95, 46, 44] c.toNat.toUInt8))) := by
      show _ = _
      rw [hs]
      rfl
    simp only at hx
    generalize Lib.indexByte [32, 95, 46, 44] c.toNat.toUInt8 = q at hx E
    clear hs
    generalize keepI c = ans at E ⊢
    have ED : Hid (digitI c = decide (48 ≤ c ∧ c ≤ 57)) := by show _ = _; rw [Bool.eq_iff_iff]; simp [digitI]
    generalize digitI c = dg at E ED
    generalize letterI c = bl at hl E
    cases bl with
    | true =>
      go_enter Tryd.func14, Tryd.ntmps14
      go_wp2_with (go_at_call 32; refine (hl _).mono ?_; rintro e w' ⟨rfl, rfl⟩)
      go_ret
      exact ⟨ret_bool (by rw [E.out]; rfl), rfl⟩
    | false =>
      by_cases hd : 48 ≤ c ∧ c ≤ 57
      · have hd1 := hd.1
        have hd2 := hd.2
        go_enter Tryd.func14, Tryd.ntmps14
        go_wp2_with (go_at_call 32; refine (hl _).mono ?_; rintro e w' ⟨rfl, rfl⟩)
        go_ret
        exact ⟨ret_bool (by rw [E.out, ED.out, decide_eq_true hd]; rfl), rfl⟩
      · have F : Hid (ans = decide (0 ≤ q)) := by
          show _ = _
          rw [E.out, ED.out, decide_eq_false hd]
          rfl
        clear E ED
        by_cases h48 : 48 ≤ c
        · have hd2 : ¬ c ≤ 57 := fun h => hd ⟨h48, h⟩
          have hd3 : decide (c ≤ 57) = false := decide_eq_false hd2
          clear hd
          go_enter Tryd.func14, Tryd.ntmps14
          go_wp2_with (first
            | (go_at_call 32; refine (hl _).mono ?_; rintro e w' ⟨rfl, rfl⟩)
            | (go_at_call 33; refine (hx _).mono ?_; rintro e w' ⟨rfl, rfl⟩))
          go_ret
          exact ⟨ret_bool (by rw [F.out]), rfl⟩
        · clear hd
          go_enter Tryd.func14, Tryd.ntmps14
          go_wp2_with (first
            | (go_at_call 32; refine (hl _).mono ?_; rintro e w' ⟨rfl, rfl⟩)
            | (go_at_call 33; refine (hx _).mono ?_; rintro e w' ⟨rfl, rfl⟩))
          go_ret
          exact ⟨ret_bool (by rw [F.out]), rfl⟩
  · have F : Hid (keepI c = false) := by
      show _ = _
      rw [← Bool.not_eq_true]
      intro hk
      have := keep_small c hk
      omega
    have hu : ¬ (c % 256 = c) := by omega
    clear h
    go_enter Tryd.func14, Tryd.ntmps14
    go_wp2_with fail
    go_ret
    exact ⟨ret_bool (by rw [F.out]), rfl⟩

theorem enter_unit : ∀ args w, (callFunc 17 args).run Tryd.prog w = .ok (.enter 17 args) w := enters_of Tryd.func17 (by kernel_rfl) rfl
theorem hex4_c (n : Nat) (hn : n < 65536) (w : World) : Calls Tryd.prog 19 #[.int .i64 (n : Int), .int .i64 4] w fun e w' => e = .returned (.string (S (hexL n 4))) ∧ Below w.heap.size w w' := by
  have h := hex_c (n : Int) 4 w
  have e1 : u64 (n : Int) = n := by unfold u64; omega
  have e2 : clamp 4 = 4 := by decide
  rw [e1, e2] at h
  exact h

set_option maxHeartbeats 1000000 in
theorem unit_c (B b : Nat) (l : List UInt8) (n : Nat) (hn : n < 65536) (w : World) (h : Has B b l w) (hlen : l.length + 6 ≤ 140737488355328) :
    Calls Tryd.prog 17 #[.int .i64 (n : Int), .pointer (some ⟨b, 0, none⟩)] w (PutJ B b (l ++ uni n) w) := by
  have e9 := enter_write
  have HB := Lib.hid (has_lt h)
  have hc := Lib.hid (puts_c B b l [92, 117] w h (by simp; omega))
  have hh := hex4_c n hn
  have HC := Lib.hid (fun w1 (h1 : Has B b (l ++ [92, 117]) w1) => puts_c B b (l ++ [92, 117]) (hexL n 4) w1 h1 (by simp [hexL_length]; omega))
  have e3 : Hid (l ++ uni n = (l ++ [92, 117]) ++ hexL n 4) := by show _ = _; simp [uni]
  generalize hexL n 4 = hx at hh HC e3
  generalize S hx = HX at hh HC
  clear h hn
  generalize (n : Int) = N at hh ⊢
  go_enter Tryd.func17, Tryd.ntmps17
  go_wp2_with (first
    | (go_at_call 19; refine (hh _).mono ?_; rintro e w2 ⟨rfl, h2⟩; have H2 := Lib.hid h2; clear h2; have hc2 := Lib.hid (HC.out w2 (has_below H1.out.1 H2.out)))
    | (go_at_fn 18; refine hc2.out.mono ?_; rintro e w3 ⟨rfl, h3⟩; have H3 := Lib.hid h3; clear h3)
    | (go_at_fn 18; refine hc.out.mono ?_; rintro e w1 ⟨rfl, h1⟩; have H1 := Lib.hid h1; clear h1))
  go_end0
  rw [e3.out]
  exact ⟨rfl, H3.out.1, (H1.out.2.1.trans (H2.out.mono (by have := has_lt H1.out.1; omega))).trans H3.out.2.1, (othersBelow H1.out.2.2 H2.out).trans H3.out.2.2⟩
end Go.Proofs.YtppclkecfggkiaaDoor.Jst
