/-
  Contracts of eachUnit and Escape of package jstext.
-/
import Derived.Test.YtppclkecfggkiaaDoorJstUnits
namespace Go.Proofs.YtppclkecfggkiaaDoor.Jst
open Go.RowKit Go.Proofs.YtppclkecfggkiaaDoor.Oct Go.Proofs.YtppclkecfggkiaaDoor.Utf Go.Proofs.YtppclkecfggkiaaDoor.Build Go.Proofs.YtppclkecfggkiaaDoor.Mem
open Go.Proofs.YtppclkecfggkiaaDoor.Pct (Has has_below has_lt has_fresh enter_byte enter_write enter_string)

theorem unit_i (B b : Nat) (l : List UInt8) (m : Int) (n : Nat) (hm : m = (n : Int)) (hn : n < 65536) (w : World) (h : Has B b l w) (hlen : l.length + 6 ≤ 140737488355328) :
    Calls Tryd.prog 17 #[.int .i64 m, .pointer (some ⟨b, 0, none⟩)] w (PutJ B b (l ++ uni n) w) := by
  rw [hm]; exact unit_c B b l n hn w h hlen

set_option maxHeartbeats 1000000 in
/-- A character's units, where it is not plain. -/
theorem eachUnit_c (B b : Nat) (l : List UInt8) (c : Int) (h0 : 0 ≤ c) (h1 : c ≤ 1114111) (hk : keepI c = false) (w : World) (h : Has B b l w) (hlen : l.length + 12 ≤ 140737488355328) :
    Calls Tryd.prog 16 #[.int .i64 c, .func (.func 17) #[] #[.pointer (some ⟨b, 0, none⟩)]] w (PutJ B b (l ++ escC c) w) := by
  have e9 := enter_unit
  unfold escC
  rw [if_neg (by rw [hk]; simp)]
  clear hk
  by_cases h6 : c < 65536
  · rw [if_pos h6]
    have HT0 := Lib.hid (unit_i B b l c c.toNat (by omega) (by omega) w h (by omega))
    clear h
    go_enter Tryd.func16, Tryd.ntmps16
    go_wp2_with (go_at_fn 17; refine HT0.out.mono ?_; rintro e w3 h3; obtain rfl := h3.1; have H3 := Lib.hid h3; clear h3)
    go_end0
    exact H3.out
  · rw [if_neg h6]
    obtain ⟨x, hx⟩ : ∃ x : Nat, c = 65536 + (x : Int) := ⟨(c - 65536).toNat, by omega⟩
    subst hx
    have hx2 : x < 1048576 := by omega
    have e1 : (65536 + (x : Int)).toNat - 65536 = x := by omega
    rw [e1]
    clear e1
    have hw : ∀ n : Int, 0 ≤ n → n < 2 ^ 62 → IntKind.i64.wrap n = n := fun n h0 h1 => by rw [IntKind.wrap_i64]; omega
    have hm := bits_mask .i64 62 (by decide) hw 10 (by decide) (65536 + (x : Int)) (by omega) (by omega)
    have e2 : ((2 : Int) ^ 10 - 1) = 1023 := by decide
    have e3 : (2 : Int) ^ 10 = 1024 := by decide
    rw [e2, e3] at hm
    have hj1 := fun y (hy0 : 0 ≤ y) (hy : y < 1024) => bits_join .i64 62 (by decide) hw 10 55296 y (by decide) (by decide) (by decide) hy0 (by rw [e3]; exact hy) (by omega)
    have hj2 := fun y (hy0 : 0 ≤ y) (hy : y < 1024) => bits_join .i64 62 (by decide) hw 10 56320 y (by decide) (by decide) (by decide) hy0 (by rw [e3]; exact hy) (by omega)
    have hmj : bits .or .i64 56320 (bits .and .i64 (65536 + (x : Int)) 1023) = ((56320 + x % 1024 : Nat) : Int) := by
      rw [hm, hj2 _ (by omega) (by omega)]
      omega
    have hhj : bits .or .i64 55296 ((65536 + (x : Int) - 65536) / 1024) = ((55296 + x / 1024 : Nat) : Int) := by
      rw [hj1 _ (by omega) (by omega)]
      omega
    have HT0 := Lib.hid (fun (m : Int) (hm : m = ((55296 + x / 1024 : Nat) : Int)) => unit_i B b l m (55296 + x / 1024) hm (by omega) w h (by omega))
    have HT := Lib.hid (fun w1 (h1 : Has B b (l ++ uni (55296 + x / 1024)) w1) (m : Int) (hm : m = ((56320 + x % 1024 : Nat) : Int)) => unit_i B b (l ++ uni (55296 + x / 1024)) m (56320 + x % 1024) hm (by omega) w1 h1 (by rw [List.length_append, uni_length]; omega))
    have HHJ := Lib.hid hhj
    have HMJ := Lib.hid hmj
    clear hhj hmj
    clear h hm hj1 hj2 hw e2 e3 h0 h1 hlen
    generalize ((56320 + x % 1024 : Nat) : Int) = lo at HMJ HT
    generalize ((55296 + x / 1024 : Nat) : Int) = hi at HHJ HT0
    generalize uni (55296 + x / 1024) = u1 at *
    generalize uni (56320 + x % 1024) = u2 at *
    go_enter Tryd.func16, Tryd.ntmps16
    go_wp2_with (first
      | (go_at_fn 17; refine (HT.out w3 H3.out.2.1 _ HMJ.out).mono ?_; rintro e w4 h4; obtain rfl := h4.1; have H4 := Lib.hid h4; clear h4)
      | (go_at_fn 17; refine (HT0.out _ HHJ.out).mono ?_; rintro e w3 h3; obtain rfl := h3.1; have H3 := Lib.hid h3; clear h3))
    go_end0
    rw [← List.append_assoc]
    exact ⟨rfl, H4.out.2.1, H3.out.2.2.1.trans H4.out.2.2.1, H3.out.2.2.2.trans H4.out.2.2.2⟩

theorem escJ_take (cs : List Int) (k : Nat) (h : k < cs.length) : escJ (cs.take (k + 1)) = escJ (cs.take k) ++ escC cs[k] := by
  rw [List.take_succ_eq_append_getElem h, escJ_snoc]
theorem escJ_take_len (cs : List Int) (k : Nat) : (escJ (cs.take k)).length ≤ 12 * cs.length := by
  have h := escJ_len (cs.take k)
  rw [List.length_take] at h
  omega

set_option maxHeartbeats 4000000 in
set_option maxRecDepth 100000 in
theorem escape_c (s : ByteArray) (hs : s.size ≤ 1099511627776) (w : World) (hT : Tabs w) :
    Calls Tryd.prog 6 #[.string s] w fun e w' => e = .returned (.string (S (escJ (chars s.data.toList)))) ∧ Below w.heap.size w w' := by
  have hcl := chars_len s.data.toList
  rw [size_list] at hcl
  have hch := Lib.hid (chars_char s.data.toList)
  obtain ⟨w1, hw1⟩ : ∃ w1, w1 = w.alloc (.cells #[.pointer none, .slice none 0 0] 33) := ⟨_, rfl⟩
  have hb1 : Below w.heap.size w w1 := by rw [hw1]; exact (Below.refl _ w).alloc (Nat.le_refl _) _
  have hz1 : w1.heap.size = w.heap.size + 1 := by rw [hw1]; simp
  have hf1 : Has w.heap.size w.heap.size [] w1 := by rw [hw1]; exact has_fresh w
  have hcall := chars_c s (by omega) w1 (hT.kept hb1)
  generalize chars s.data.toList = cs at hcall hch hcl ⊢
  have hn : cs.length ≤ 1099511627776 := by omega
  have e1 := enter_byte
  have e2 := enter_string
  have HW := Lib.hid (And.intro hb1 (And.intro hz1 hf1))
  clear hs hT hcl hb1 hz1 hf1
  go_enter Tryd.func6, Tryd.ntmps6
  go_wp2_with fail
  rw [← hw1]
  refine hcall.mono ?_
  rintro e w2 ⟨v, rfl, hown, hk2⟩
  obtain ⟨lp, lc, rfl⟩ : ∃ lp lc, v = .slice lp cs.length lc := by
    rcases hown.2 with ⟨rfl, h⟩ | ⟨g, cap, cur, rfl, _⟩
    · exact ⟨none, 0, by rw [h]⟩
    · exact ⟨_, _, rfl⟩
  have H2 := Lib.hid (And.intro hown (And.intro (has_below HW.out.2.2 hk2) (HW.out.1.trans (Below.mono hk2 (by have := HW.out.2.1; omega)))))
  have HZ := Lib.hid HW.out.2.1
  clear hcall hown hk2 HW hw1
  obtain ⟨n, hnn⟩ : ∃ n, cs.length = n := ⟨_, rfl⟩
  rw [hnn]
  have HL := Lib.hid (fun k => escJ_take_len cs k)
  have hsz : ∀ k, (escJ (cs.take k)).length + 12 ≤ 140737488355328 := fun k => by have := HL.out k; omega
  have HSZ := Lib.hid hsz
  have HTK := Lib.hid (fun k (h : k < cs.length) => escJ_take cs k h)
  clear hsz HL
  go_wp2_with fail
  go_loopw [9] (fun i wr => ∃ k : Nat, k ≤ n ∧ i = .int .i64 k ∧ Hid (Has w.heap.size w.heap.size (escJ (cs.take k)) wr ∧ Below w.heap.size w wr ∧ Others w.heap.size w2 wr)) (fun i _ => n - (intOf i).toNat)
  case atStart => exact ⟨0, Nat.zero_le _, rfl, ⟨H2.out.2.1, H2.out.2.2, Lib.OthersKept.refl _ _ _⟩⟩
  case round =>
    obtain ⟨k, hk, rfl, hr⟩ := hrel
    by_cases hlt : k < n
    · have hkl : k < cs.length := by omega
      have hown := ints_others H2.out.1 hr.out.2.2 (by have := HZ.out; omega)
      rw [hnn] at hown
      obtain ⟨g, rfl⟩ : ∃ g, lp = some ⟨g, 0, none⟩ := by
        rcases hown.2 with ⟨_, h⟩ | ⟨g, cap, cur, hv, _⟩
        · omega
        · simp at hv; exact ⟨g, hv.1⟩
      have hcell : wr.cell? ⟨g, k, none⟩ = some (.int .i64 cs[k]) := by
        rw [hown.cellAt k (by omega)]
        simp [hkl]
      have hcc := hch.out cs[k] (List.getElem_mem _)
      have hN := HTK.out k hkl
      have hln := HSZ.out k
      generalize cs[k] = c at hcell hcc hN
      have hc0 : 0 ≤ c := by have := hcc.1; unfold isChar at this; omega
      have hc1 : c ≤ 1114111 := by have := hcc.1; unfold isChar at this; omega
      have hpl := plain_c c wr hc0 hc1
      have i0 : (0 : Int) ≤ (k : Int) := by omega
      have i1 : (k : Int) < (n : Int) := by omega
      generalize hoo : escJ (cs.take k) = o at hr hN hln
      clear hown hcc hkl hoo
      cases hq : keepI c with
      | true =>
        rw [hq] at hpl
        have hsm := keep_small c hq
        have e : escC c = [c.toNat.toUInt8] := by unfold escC; rw [if_pos hq]
        rw [e] at hN
        have hu : IntKind.u8.wrap c = c := by rw [IntKind.wrap_u8]; omega
        have hcz : ((c.toNat.toUInt8).toNat : Int) = c := by
          rw [Nat.toUInt8_eq, UInt8.toNat_ofNat_of_lt' (by show c.toNat < 256; omega)]
          omega
        have HP := Lib.hid (putb_c w.heap.size w.heap.size o c.toNat.toUInt8 wr hr.out.1 (by omega))
        rw [hcz, ← hN] at HP
        have hm256 : c % 256 = c := by omega
        have hc255 : c ≤ 255 := by omega
        clear hq hsm e hcz hln
        go_wp2_with (first
          | (go_at_call 14; refine hpl.mono ?_; rintro e w' ⟨rfl, rfl⟩)
          | (go_at_fn 15; refine HP.out.mono ?_; rintro e w3 ⟨rfl, h3, h4, h5⟩; have HN := Lib.hid (And.intro h3 (And.intro (hr.out.2.1.trans h4) (hr.out.2.2.trans h5))); clear h3 h4 h5))
        go_roundw
        case rel => exact ⟨k + 1, by omega, by go_num, HN⟩
        case measure => simp [intOf]; omega
      | false =>
        rw [hq] at hpl
        have HP := Lib.hid (eachUnit_c w.heap.size w.heap.size o c hc0 hc1 hq wr hr.out.1 hln)
        rw [← hN] at HP
        clear hq hln
        go_wp2_with (first
          | (go_at_call 14; refine hpl.mono ?_; rintro e w' ⟨rfl, rfl⟩)
          | (go_at_call 16; refine HP.out.mono ?_; rintro e w3 ⟨rfl, h3, h4, h5⟩; have HN := Lib.hid (And.intro h3 (And.intro (hr.out.2.1.trans h4) (hr.out.2.2.trans h5))); clear h3 h4 h5))
        go_roundw
        case rel => exact ⟨k + 1, by omega, by go_num, HN⟩
        case measure => simp [intOf]; omega
    · have HR : Hid (Has w.heap.size w.heap.size (escJ cs) wr) := by
        have := hr.out.1
        rw [List.take_of_length_le (by omega)] at this
        exact this
      have HS := Lib.hid (fun W (h : Has w.heap.size w.heap.size (escJ cs) W) => Tryd.Builder_String_any w.heap.size w.heap.size (escJ cs) W h (Nat.le_of_lt (has_lt h).2))
      go_wp2_with (go_at_fn 20; refine (HS.out _ HR.out).mono ?_; rintro e w3 ⟨rfl, h3⟩)
      go_ret
      exact ⟨rfl, hr.out.2.1.trans h3⟩
end Go.Proofs.YtppclkecfggkiaaDoor.Jst
