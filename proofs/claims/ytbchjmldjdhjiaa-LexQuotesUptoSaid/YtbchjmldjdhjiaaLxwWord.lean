/-
  Contracts of the reader's word at a text in quotes, and of words and Words where a text in quotes is all that there is.
-/
import Derived.Test.YtbchjmldjdhjiaaLxwStr
import Derived.Test.YtbchjmldjdhjiaaLxwCaughtW
namespace Go.Proofs.Ytbchjmldjdhjiaa.Lxw
open Go.RowKit Go.Proofs.Ytbchjmldjdhjiaa.Oct Go.Proofs.Ytbchjmldjdhjiaa.Lex
open Go.Proofs.Ytbchjmldjdhjiaa.LxwW (errBox But)

theorem begins_quote (w : World) : Calls Try.prog 40 #[.int .u8 34] w fun e w' => e = .returned (.bool false) ∧ w = w' := by
  have h := letter_c 34 w (by decide) (by decide)
  rw [show letterI 34 = false from by decide] at h
  go_enter Try.func40, Try.ntmps40
  go_wp2_with (go_at_call 58; refine h.mono ?_; rintro e w' ⟨rfl, rfl⟩)
  go_ret
  exact ⟨rfl, rfl⟩
theorem digit_quote (w : World) : Calls Try.prog 45 #[.int .u8 34] w fun e w' => e = .returned (.bool false) ∧ w = w' := by
  go_enter Try.func45, Try.ntmps45
  go_wp2
  go_ret
  exact ⟨rfl, rfl⟩
set_option maxHeartbeats 1000000 in
set_option maxRecDepth 100000 in
theorem word_text {R : Nat} {l : List UInt8} {b p : Int} {k : Nat} (hk : k < l.length) (hl : l.length ≤ 4194304) (hq : l[k] = 34) {x rest : List UInt8} (hs : strL (l.drop (k + 1)) = some (x, rest)) (w : World) (h : Rx R l b k p w) :
    Calls Try.prog 25 #[.pointer (some ⟨R, 0, none⟩)] w fun e w' => e = (if x.length ≤ 4096 then .returned (.tuple #[.int .i64 5, .string (S x)]) else Fault 5) ∧ Rx R l b ((l.length - rest.length : Nat) : Int) p w' ∧ Kr R w w' := by
  have hne := next_q hk hl w h 0
  have e1 : ((l[k]).toNat : Int) = 34 := by rw [hq]; rfl
  rw [e1] at hne
  have HP := Lib.hid (fun W (h : Rx R l b k p W) => passText_c hk hl hs W h)
  have HW := Lib.hid h
  have hb1 := begins_quote
  have hd1 := digit_quote
  clear h hq e1
  go_enter Try.func25, Try.ntmps25
  go_wp2_with fail
  refine hne.mono ?_
  clear hne
  rintro e w1 ⟨rfl, q1, hw1⟩
  have hbl : Below w.heap.size w w1 := grown_q hw1
  have H1 := Lib.hid (And.intro (HW.out.keep hbl) (Kr.of (R := R) hbl))
  clear hw1 hbl
  go_wp2_with (first
    | (go_at_call 40; refine (hb1 _).mono ?_; rintro e w2 ⟨rfl, rfl⟩)
    | (go_at_call 45; refine (hd1 _).mono ?_; rintro e w2 ⟨rfl, rfl⟩))
  have hp := HP.out _ H1.out.1
  by_cases hx : x.length ≤ 4096
  · simp only [if_pos hx] at hp ⊢
    refine hp.mono ?_
    clear hp
    rintro e w3 ⟨rfl, hx3, hk3⟩
    have H3 := Lib.hid (And.intro hx3 (H1.out.2.trans hk3))
    clear hx3 hk3
    go_wp2_with fail
    go_ret2
    exact ⟨by first | rfl | (rw [if_pos hx]; rfl), H3.out.1, H3.out.2⟩
  · simp only [if_neg hx] at hp ⊢
    refine hp.mono ?_
    clear hp
    rintro e w3 ⟨rfl, hx3, hk3⟩
    exact ⟨rfl, by first | rfl | rw [if_neg hx], hx3, H1.out.2.trans hk3⟩

/-- A word's cells. -/
abbrev wdCs (x : List UInt8) (a : Int) : List Value := [.int .i64 5, .string (S x), .int .i64 a]
theorem info_word : (Try.prog.info? 33).map (fun i => (i.zero, i.size, i.bytes)) = some (some (.agg #[.int .i64 0, .string ⟨#[]⟩, .int .i64 0]), 3, 32) := by kernel_rfl
theorem push_word (x : List UInt8) (a : Int) : ∀ u ∈ wdCs x a, u.oneCell' = true := by
  intro u hu
  simp only [List.mem_cons, List.not_mem_nil, or_false] at hu
  rcases hu with rfl | rfl | rfl <;> rfl
/-- Ahead of the one word, and behind it. -/
def WSt (R : Nat) (w : World) (l : List UInt8) (b : Int) (x : List UInt8) (out : Value) (wr : World) : Bool → Prop
  | false => out = .slice none 0 0 ∧ Rx R l b ((0 : Nat) : Int) 0 wr ∧ Kr R w wr
  | true => x.length ≤ 4096 ∧ Rx R l b (l.length : Int) 0 wr ∧ Kr R w wr ∧ wr.ownsRow w.heap.size 33 3 out 1 (wdCs x b)
theorem skip_quote (t : List UInt8) : skipN (34 :: t) = 0 := by
  unfold skipN
  rw [List.takeWhile_cons_of_neg (by decide)]
  rfl
theorem grown_dr {w w' : World} {b : Option Nat} (h : w.drew.grownBy w' b) : w.grownBy w' b := ⟨h.os, h.tape, h.output, h.size, h.block⟩
theorem one_put {R : Nat} {l : List UInt8} {b k p : Int} {w w5 wB : World} {o : Obj} (h : Rx R l b k p w5) (hk : Kr R w w5) (hg : (w5.alloc o).grownBy wB none) : Rx R l b k p wB ∧ Kr R w wB := by
  have hal : Below w5.heap.size w5 (w5.alloc o) := (Below.refl _ _).alloc (Nat.le_refl _) _
  have hb : Below w5.heap.size w5 wB := ⟨hg.os.trans hal.os, hg.tape.trans hal.tape, hg.output.trans hal.output, Nat.le_trans hal.size hg.size, fun k hk => (hg.block k (Nat.lt_of_lt_of_le hk hal.size) (by simp)).trans (hal.block k hk)⟩
  exact ⟨h.keep hb, hk.trans (Kr.of hb)⟩
set_option maxHeartbeats 2000000 in
set_option maxRecDepth 100000 in
theorem words_one {R : Nat} {l t : List UInt8} {b : Int} (hlt : l = 34 :: t) (hl : l.length ≤ 4194304) (hb0 : 0 ≤ b) (hb1 : b ≤ 4194304) {x : List UInt8} (hs : strL t = some (x, [])) (w : World) (h : Rx R l b ((0 : Nat) : Int) 0 w) :
    Calls Try.prog 18 #[.pointer (some ⟨R, 0, none⟩)] w fun e w' => Kr R w w' ∧ ((x.length ≤ 4096 ∧ ∃ v, e = .returned v ∧ w'.ownsRow w.heap.size 33 3 v 1 (wdCs x b)) ∨ (4096 < x.length ∧ e = Fault 5 ∧ w'.cell? ⟨R, 3, none⟩ = some (.int .i64 0))) := by
  have hR := h.lt
  have hll : 0 < l.length := by rw [hlt]; simp
  have hsk : skipN (l.drop 0) = 0 := by rw [List.drop_zero, hlt]; exact skip_quote t
  have hbl := blanks_c (Nat.zero_le l.length) hl w h
  rw [hsk] at hbl
  replace hbl : Calls Try.prog 24 #[.pointer (some ⟨R, 0, none⟩)] w fun e w' => e = .returned (.tuple #[]) ∧ Rx R l b ((0 : Nat) : Int) 0 w' ∧ Kr R w w' := hbl
  have HEnd := Lib.hid (fun W (h : Rx R l b (l.length : Int) 0 W) => blanks_c (Nat.le_refl l.length) hl W h)
  have HWord := Lib.hid (fun W (h : Rx R l b ((0 : Nat) : Int) 0 W) => word_text hll hl (by simp only [hlt]; rfl) (by rw [hlt]; exact hs : strL (l.drop (0 + 1)) = some (x, [])) W h)
  have hsz : ((S l).size : Int) = (l.length : Int) := by rw [size_S]
  have hl1 : (0 : Int) < (l.length : Int) := by omega
  clear h hsk hs hlt
  go_enter Try.func18, Try.ntmps18
  go_wp2_with fail
  refine hbl.mono ?_
  clear hbl
  rintro e w1 ⟨rfl, h1, k1⟩
  have H1 := Lib.hid (And.intro h1 k1)
  clear h1 k1
  go_wp2_with fail
  go_loopw [3] (fun out wr => ∃ q, Hid (WSt R w l b x out wr q)) (fun _ wr => l.length - rAt R wr)
  case atStart => exact ⟨false, rfl, H1.out.1, H1.out.2⟩
  case round =>
    clear H1
    obtain ⟨q, hq⟩ := hrel
    cases q with
    | true =>
      obtain ⟨hx, hr, hk, ho⟩ := hq.out
      obtain ⟨c0, c1, c2, c3, z2, z3⟩ := hr.cells
      obtain ⟨vp, vc, rfl⟩ := own_shape ho
      have H2 := Lib.hid (And.intro hx (And.intro hk ho))
      clear hx hr hk ho hq
      go_wp2_with fail
      go_quiet (fail)
      have H3 : Hid (Kr R w (wr.drewN nq) ∧ (wr.drewN nq).ownsRow w.heap.size 33 3 (.slice vp 1 vc) 1 (wdCs x b)) := ⟨H2.out.2.1.trans (Kr.of (Oct.below_drewN (Below.refl _ wr) nq)), H2.out.2.2⟩
      go_wp2_with fail
      go_ret
      exact ⟨H3.out.1, .inl ⟨H2.out.1, _, rfl, H3.out.2⟩⟩
    | false =>
      obtain ⟨rfl, hr, hk⟩ := hq.out
      have hAt := Lib.hid hr.rAt
      replace hr : Rx R l b 0 0 wr := hr
      obtain ⟨c0, c1, c2, c3, z2, z3⟩ := hr.cells
      have H2 := Lib.hid (And.intro hr hk)
      clear hr hk hq
      have hd : decide ((0 : Int) < (l.length : Int)) = true := decide_eq_true hl1
      go_wp2_with fail
      go_quiet (fail)
      have hbq : Below wr.heap.size wr (wr.drewN nq) := Oct.below_drewN (Below.refl _ wr) nq
      have H3 := Lib.hid (And.intro (H2.out.1.keep hbq) (H2.out.2.trans (Kr.of hbq)))
      clear hbq c0 c1 c2 c3 z2 z3 H2
      generalize wr.drewN nq = w3 at H3 ⊢
      obtain ⟨c0, c1, c2, c3, z2, z3⟩ := H3.out.1.cells
      go_wp2_with fail
      have H4 := Lib.hid (And.intro (H3.out.1.place 0) (H3.out.2.trans (Kr.set (R := R) (i := 3) w3 (.int .i64 0))))
      have hw := HWord.out _ H4.out.1
      by_cases hx : x.length ≤ 4096
      · simp only [if_pos hx] at hw
        refine hw.mono ?_
        clear hw
        rintro e w5 ⟨rfl, hx5, hk5⟩
        replace hx5 : Rx R l b (l.length : Int) 0 w5 := by simpa using hx5
        have H5 := Lib.hid (And.intro hx5 (H4.out.2.trans hk5))
        clear hx5 hk5 H4 H3 c0 c1 c2 c3 z2 z3
        obtain ⟨c0, c1, c2, c3, z2, z3⟩ := H5.out.1.cells
        obtain ⟨i9, hi, hz0, hz1, hz2⟩ := info_parts info_word
        have HOne := Lib.hid (push_word x b)
        have HB5 : Hid (w.heap.size ≤ w5.heap.size) := H5.out.2.size
        have HHg := Lib.hid (fun wB (hg : (w5.alloc (.cells #[.int .i64 5, .string (S x), .int .i64 b] 33)).grownBy wB none) => one_put H5.out.1 H5.out.2 hg)
        have hbw : IntKind.i64.wrap b = b := by rw [IntKind.wrap_i64]; omega
        go_wp2_with fail
        go_region_law (first
          | (refine step_append_lies _ rfl (.tmp 32) (.tmp 45) 24 rfl w.heap.size 33 i9 _ 3 32 Try.underlying24 hi hz0 hz1 hz2 rfl (by omega) (.slice none 0 0) 0 [] (by simp [Act.eval]) (World.ownsRow_nil _ _ _ _) ⟨w5.heap.size, 0, none⟩ 1 1 (wdCs x b) (by simp [Act.eval]) rfl (push_cells (cs := wdCs x b)) HOne.out (by omega) (by unfold maxLen; omega) (by omega) (by simp; have := HB5.out; omega) (w5.heap.size + 1) (by simp) ?_; intro g cp wB hownB hgB hatB hltB; obtain ⟨p1, p2⟩ := HHg.out wB (grown_dr hgB); have HP := Lib.hid (And.intro p1 (And.intro p2 hownB)); clear p1 p2 hownB hgB hatB hltB))
        all_goals
          clear c0 c1 c2 c3 z2 z3
          have hen := HEnd.out wB HP.out.1
          go_wp2_with fail
          refine hen.mono ?_
          clear hen
          rintro e w7 ⟨rfl, hx7, hk7⟩
          have hx7' : Rx R l b (l.length : Int) 0 w7 := by
            rw [List.drop_length] at hx7
            exact hx7
          have H7 : Hid (WSt R w l b x (.slice (some ⟨g, 0, none⟩) 1 cp) w7 true) := ⟨hx, hx7', HP.out.2.1.trans hk7, own_same HP.out.2.2 fun k hk he => hk7.block k (own_lt HP.out.2.2 k he) (by have := hR; omega)⟩
          have HAt7 := Lib.hid (hx7'.rAt)
          clear hx7 hk7 hx7'
          go_wp2_with fail
          go_roundw
          case rel => exact ⟨true, H7.out⟩
          case measure =>
            have e1 := hAt.out
            have e2 := HAt7.out
            show l.length - rAt R _ < l.length - rAt R _
            rw [e1, e2]
            omega
      · simp only [if_neg hx] at hw
        refine hw.mono ?_
        clear hw
        rintro e w5 ⟨rfl, hx5, hk5⟩
        exact ⟨rfl, H4.out.2.trans hk5, .inr ⟨by omega, rfl, hx5.cells.c3⟩⟩
end Go.Proofs.Ytbchjmldjdhjiaa.Lxw
