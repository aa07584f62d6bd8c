/-
  Part 38: TokRun.
-/
import Derived.Test.YtklpbkjplecdpaaGreatSxBaseP37
import Derived.Test.YtklpbkjplecdpaaGreatSxBaseP32
import Derived.Test.YtklpbkjplecdpaaGreatSxBaseP33
/-
  Contract of the page's Tokens: a text's tokens, in memory of their own.
-/
namespace Go.Proofs.YtklpbkjplecdpaaGreat.Tok
open Go.RowKit Oct Utf Crf Tab Mem

theorem out_len (c : UInt8) (t : List UInt8) (r : Rd) : (outR c t r).2 ≤ (c :: t).length := by
  have hp : ∀ (p l : List UInt8), p.isPrefixOf l = true → p.length ≤ l.length := fun p l h => by
    obtain ⟨u, hu⟩ := List.isPrefixOf_iff_prefix.1 h
    rw [← hu, List.length_append]
    omega
  have h1 : 1 ≤ (c :: t).length := by simp
  unfold outR
  split
  · unfold dataR; split <;> exact h1
  · split
    · unfold openR
      repeat' split
      all_goals first | exact h1 | exact Nat.zero_le _
    · split
      · unfold endOpenR
        repeat' split
        all_goals first | exact h1 | exact Nat.zero_le _
      · split
        · unfold bangR
          split
          · rename_i hq; exact hp _ _ hq
          · exact Nat.zero_le _
        · split
          · unfold bogusR; split <;> exact h1
          · split
            · unfold commentR
              split
              · rename_i hq; exact hp _ _ hq
              · exact h1
            · unfold rawR
              split
              · rename_i hq
                unfold hits at hq
                have h2 := hp _ _ (Bool.and_eq_true_iff.1 hq).1
                simp at h2
                show 2 + r.rw.length ≤ (c :: t).length
                simp
                omega
              · exact h1
theorem step_len (c : UInt8) (t : List UInt8) (r : Rd) : (stepR c t r).2 ≤ (c :: t).length := by
  unfold stepR again
  split
  · simp only
    split <;> simp
  · split
    · simp only
      split <;> simp
    · exact out_len c t r
theorem step_facts {l : List UInt8} {k : Nat} (hk : k < l.length) (r : Rd) (hs : r.st ≤ 15) {M : Nat} (hb : Bd M (meas (l.drop k) r.st) r) {r' : Rd} {n : Nat} (hp : stepR l[k] (l.drop (k + 1)) r = (r', n)) :
    k + n ≤ l.length ∧ r'.st ≤ 15 ∧ Bd M (meas (l.drop (k + n)) r'.st) r' ∧ runR (l.drop (k + n)) r' = runR (l.drop k) r ∧ 3 * (l.length - (k + n)) + rank r'.st < 3 * (l.length - k) + rank r.st := by
  have hd := drop_at l k hk
  have h1 := step_len l[k] (l.drop (k + 1)) r
  have h2 := step_st l[k] (l.drop (k + 1)) r hs
  rw [hd] at hb
  have h3 := step_bd l[k] (l.drop (k + 1)) r hs hb
  have h4 := run_cons l[k] (l.drop (k + 1)) r
  have h5 := step_less l[k] (l.drop (k + 1)) r
  rw [hp] at h1 h2 h3 h4 h5
  rw [← hd] at h1 h3 h4 h5
  rw [List.drop_drop] at h3 h4 h5
  rw [List.length_drop] at h1
  unfold meas at h5
  rw [List.length_drop, List.length_drop] at h5
  exact ⟨by omega, h2, h3, h4.symm, by omega⟩
theorem step_tag (c : UInt8) (t : List UInt8) (r : Rd) (h : inTag r.st = true) : stepR c t r = again (tagR c r) := by unfold stepR; rw [if_pos h]
theorem step_val (c : UInt8) (t : List UInt8) (r : Rd) (h1 : inTag r.st = false) (h : inVal r.st = true) : stepR c t r = again (valR c r) := by unfold stepR; rw [if_neg (by rw [h1]; simp), if_pos h]
theorem step_out (c : UInt8) (t : List UInt8) (r : Rd) (h1 : inTag r.st = false) (h : inVal r.st = false) : stepR c t r = outR c t r := by unfold stepR; rw [if_neg (by rw [h1]; simp), if_neg (by rw [h]; simp)]
theorem bd_sz {M m : Nat} {r : Rd} (h : Bd M m r) (hM : M ≤ 134217728) : Sz r := by
  unfold Bd at h
  unfold Sz
  omega

def stW (R : Nat) (w : World) : Nat := match w.cell? ⟨R, 2, none⟩ with
  | some (.int _ n) => n.toNat
  | _ => 0
theorem stW_eq {R : Nat} {l : List UInt8} {r : Rd} {w : World} (h : RdM R l r w) : stW R w = r.st := by
  obtain ⟨vo, vt, va, ps, h⟩ := h
  unfold stW
  have e : w.cell? ⟨R, 2, none⟩ = some (.int .i64 (r.st : Int)) := (h.cell 2).trans rfl
  rw [e]
  simp
abbrev boxZ (l : List UInt8) : Array Value := #[.string (S l), .slice none 0 0, .int .i64 0, .slice none 0 0, .int .i64 0, .string ⟨#[]⟩, .string ⟨#[]⟩, .slice none 0 0, .bool false, .string ⟨#[]⟩, .string ⟨#[]⟩, .int .u8 0, .string ⟨#[]⟩, .int .i64 0]
theorem rd_start (l : List UInt8) (w : World) : RdW w.heap.size l rd0 (.slice none 0 0) (.slice none 0 0) (.slice none 0 0) [] (w.alloc (.cells (boxZ l) 56)) where
  box := heap_alloc_new w _
  out := World.ownsRow_nil _ _ _ _
  outs := rfl
  txt := World.ownsRow_nil _ _ _ _
  att := World.ownsRow_nil _ _ _ _
  ats := fun p hp => by cases hp
  s1 := sep_nil _
  s2 := sep_nil _
  s3 := sep_nil _
  s4 := fun p hp => by cases hp

def TksM (B : Nat) (w : World) (v : Value) (ts : List Tk) : Prop := ∃ ps : List (Tk × Value), ts = ps.map Prod.fst ∧ TkR B w v ps ∧ ∀ p ∈ ps, AtR B w p.2 p.1.a
theorem RdW.tks {R : Nat} {l : List UInt8} {r : Rd} {vo vt va : Value} {ps : List (Tk × Value)} {w : World} (h : RdW R l r vo vt va ps w) : TksM (R + 1) w vo r.out := ⟨ps, h.outs, h.out, h.ats⟩

def TokAns (B : Nat) (ts : List Tk) (e : Ending) (w' : World) : Prop :=
  if 4096 < ts.length then e = .returned (.tuple #[.slice none 0 0, .int .i64 3]) else ∃ v, e = .returned (.tuple #[v, .int .i64 0]) ∧ TksM B w' v ts
theorem own_form {w : World} {base n size : Nat} {e : TypeId} {v : Value} {xs : List Value} (h : w.ownsRow base e size v n xs) : ∃ p c, v = .slice p n c := by
  rcases h.2 with ⟨rfl, h0⟩ | ⟨g, cap, cur, rfl, _⟩
  · exact ⟨none, 0, by rw [h0]⟩
  · exact ⟨_, _, rfl⟩
theorem own_weak {w : World} {base b n size : Nat} {e : TypeId} {v : Value} {xs : List Value} (h : w.ownsRow base e size v n xs) (hb : b ≤ base) : w.ownsRow b e size v n xs := by
  refine ⟨h.1, ?_⟩
  rcases h.2 with hn | ⟨g, cap, cur, hv, hbg, rest⟩
  · exact .inl hn
  · exact .inr ⟨g, cap, cur, hv, Nat.le_trans hb hbg, rest⟩
theorem tks_weak {B b : Nat} {w : World} {v : Value} {ts : List Tk} (h : TksM B w v ts) (hb : b ≤ B) : TksM b w v ts := by
  obtain ⟨ps, h1, h2, h3⟩ := h
  exact ⟨ps, h1, own_weak h2 hb, fun p hp => own_weak (h3 p hp) hb⟩

set_option maxHeartbeats 8000000 in
set_option maxRecDepth 100000 in
theorem tokens_ok (l : List UInt8) (hl : l.length ≤ 65536) (w : World) :
    Calls Tryz.prog 13 #[.string (S l)] w fun e w' => TokAns w.heap.size (tokL l) e w' ∧ Below w.heap.size w w' := by
  have hsz : ((S l).size : Int) = (l.length : Int) := by rw [size_S]
  have hli : ¬ (65536 < (l.length : Int)) := by omega
  have hM : meas l 0 ≤ 134217728 := by unfold meas; have : rank 0 = 0 := rfl; omega
  have H0 := Lib.hid (And.intro (rd_start l w) (bd0 l))
  have HB0 : Hid (Below w.heap.size w (w.alloc (.cells (boxZ l) 56))) := (Below.refl _ w).alloc (Nat.le_refl _) _
  have HX := Lib.hid (fun k (hk : k < l.length) => at_T l k hk)
  have hll : (l.length : Int) ≤ 65536 := by omega
  go_enter Tryz.func13, Tryz.ntmps13
  go_wp2_with fail
  go_loopw [5] (fun i wr => ∃ (k : Nat) (r : Rd), k ≤ l.length ∧ i = .int .i64 k ∧ r.st ≤ 15 ∧ Hid (RdM w.heap.size l r wr) ∧ Hid (Bd (meas l 0) (meas (l.drop k) r.st) r) ∧ Hid (runR (l.drop k) r = runR l rd0) ∧ Hid (Below w.heap.size w wr)) (fun i wr => 3 * (l.length - (intOf i).toNat) + rank (stW w.heap.size wr))
  case atStart => exact ⟨0, rd0, Nat.zero_le _, rfl, by decide, ⟨_, _, _, _, H0.out.1⟩, H0.out.2, rfl, HB0⟩
  case round =>
    clear H0 HB0
    obtain ⟨k, r, hk, rfl, hs, hr, hbd, hrun, hbw⟩ := hrel
    have hc2 : wr.cell? ⟨w.heap.size, 2, none⟩ = some (.int .i64 (r.st : Int)) := by
      obtain ⟨vo, vt, va, ps, h⟩ := hr.out
      exact (h.cell 2).trans rfl
    have hz := bd_sz hbd.out hM
    clear hM
    by_cases hlt : k < l.length
    · have hx := HX.out k hlt
      have i0 : (0 : Int) ≤ (k : Int) := by omega
      have i1 : (k : Int) < (l.length : Int) := by omega
      cases hT : inTag r.st with
      | true =>
        have hnum : r.st = 3 ∨ r.st = 4 ∨ r.st = 5 ∨ r.st = 6 ∨ r.st = 10 ∨ r.st = 11 := by have := of_decide_eq_true hT; omega
        have hct := rtag_c w.heap.size l r l[k] wr hr.out hz hT
        have hcb : ((l[k]).toNat : Int) ≤ 255 := by have := (l[k]).toNat_lt; omega
        cases hp : tagR l[k] r with
        | mk r' b =>
          rw [hp] at hct
          cases b with
          | true =>
            have hf := Lib.hid (step_facts hlt r hs hbd.out (r' := r') (n := 0) (by rw [step_tag _ _ _ hT, hp]; rfl))
            clear hp hT
            generalize l[k] = c at hx hct hcb
            rcases hnum with h0 | h0 | h0 | h0 | h0 | h0
            · have c2 : wr.cell? ⟨w.heap.size, 2, none⟩ = some (.int .i64 3) := hc2.trans (by rw [h0]; rfl)
              clear h0 hc2
              go_wp2_with (go_at_call 25; refine hct.mono ?_; rintro e w3 ⟨rfl, h3, hb3⟩; have H3 := Lib.hid h3; have HB3 := Lib.hid (hbw.out.trans hb3); clear h3 hb3)
              go_roundw
              case rel => exact ⟨k + 0, r', hf.out.1, by go_num, hf.out.2.1, H3, hf.out.2.2.1, hf.out.2.2.2.1.trans hrun.out, HB3⟩
              case measure =>
                have e1 := stW_eq H3.out
                have e2 := stW_eq hr.out
                have e3 := hf.out.2.2.2.2
                simp only [intOf]
                rw [e1, e2]
                omega
            · have c2 : wr.cell? ⟨w.heap.size, 2, none⟩ = some (.int .i64 4) := hc2.trans (by rw [h0]; rfl)
              clear h0 hc2
              go_wp2_with (go_at_call 25; refine hct.mono ?_; rintro e w3 ⟨rfl, h3, hb3⟩; have H3 := Lib.hid h3; have HB3 := Lib.hid (hbw.out.trans hb3); clear h3 hb3)
              go_roundw
              case rel => exact ⟨k + 0, r', hf.out.1, by go_num, hf.out.2.1, H3, hf.out.2.2.1, hf.out.2.2.2.1.trans hrun.out, HB3⟩
              case measure =>
                have e1 := stW_eq H3.out
                have e2 := stW_eq hr.out
                have e3 := hf.out.2.2.2.2
                simp only [intOf]
                rw [e1, e2]
                omega
            · have c2 : wr.cell? ⟨w.heap.size, 2, none⟩ = some (.int .i64 5) := hc2.trans (by rw [h0]; rfl)
              clear h0 hc2
              go_wp2_with (go_at_call 25; refine hct.mono ?_; rintro e w3 ⟨rfl, h3, hb3⟩; have H3 := Lib.hid h3; have HB3 := Lib.hid (hbw.out.trans hb3); clear h3 hb3)
              go_roundw
              case rel => exact ⟨k + 0, r', hf.out.1, by go_num, hf.out.2.1, H3, hf.out.2.2.1, hf.out.2.2.2.1.trans hrun.out, HB3⟩
              case measure =>
                have e1 := stW_eq H3.out
                have e2 := stW_eq hr.out
                have e3 := hf.out.2.2.2.2
                simp only [intOf]
                rw [e1, e2]
                omega
            · have c2 : wr.cell? ⟨w.heap.size, 2, none⟩ = some (.int .i64 6) := hc2.trans (by rw [h0]; rfl)
              clear h0 hc2
              go_wp2_with (go_at_call 25; refine hct.mono ?_; rintro e w3 ⟨rfl, h3, hb3⟩; have H3 := Lib.hid h3; have HB3 := Lib.hid (hbw.out.trans hb3); clear h3 hb3)
              go_roundw
              case rel => exact ⟨k + 0, r', hf.out.1, by go_num, hf.out.2.1, H3, hf.out.2.2.1, hf.out.2.2.2.1.trans hrun.out, HB3⟩
              case measure =>
                have e1 := stW_eq H3.out
                have e2 := stW_eq hr.out
                have e3 := hf.out.2.2.2.2
                simp only [intOf]
                rw [e1, e2]
                omega
            · have c2 : wr.cell? ⟨w.heap.size, 2, none⟩ = some (.int .i64 10) := hc2.trans (by rw [h0]; rfl)
              clear h0 hc2
              go_wp2_with (go_at_call 25; refine hct.mono ?_; rintro e w3 ⟨rfl, h3, hb3⟩; have H3 := Lib.hid h3; have HB3 := Lib.hid (hbw.out.trans hb3); clear h3 hb3)
              go_roundw
              case rel => exact ⟨k + 0, r', hf.out.1, by go_num, hf.out.2.1, H3, hf.out.2.2.1, hf.out.2.2.2.1.trans hrun.out, HB3⟩
              case measure =>
                have e1 := stW_eq H3.out
                have e2 := stW_eq hr.out
                have e3 := hf.out.2.2.2.2
                simp only [intOf]
                rw [e1, e2]
                omega
            · have c2 : wr.cell? ⟨w.heap.size, 2, none⟩ = some (.int .i64 11) := hc2.trans (by rw [h0]; rfl)
              clear h0 hc2
              go_wp2_with (go_at_call 25; refine hct.mono ?_; rintro e w3 ⟨rfl, h3, hb3⟩; have H3 := Lib.hid h3; have HB3 := Lib.hid (hbw.out.trans hb3); clear h3 hb3)
              go_roundw
              case rel => exact ⟨k + 0, r', hf.out.1, by go_num, hf.out.2.1, H3, hf.out.2.2.1, hf.out.2.2.2.1.trans hrun.out, HB3⟩
              case measure =>
                have e1 := stW_eq H3.out
                have e2 := stW_eq hr.out
                have e3 := hf.out.2.2.2.2
                simp only [intOf]
                rw [e1, e2]
                omega
          | false =>
            have hf := Lib.hid (step_facts hlt r hs hbd.out (r' := r') (n := 1) (by rw [step_tag _ _ _ hT, hp]; rfl))
            clear hp hT
            generalize l[k] = c at hx hct hcb
            rcases hnum with h0 | h0 | h0 | h0 | h0 | h0
            · have c2 : wr.cell? ⟨w.heap.size, 2, none⟩ = some (.int .i64 3) := hc2.trans (by rw [h0]; rfl)
              clear h0 hc2
              go_wp2_with (go_at_call 25; refine hct.mono ?_; rintro e w3 ⟨rfl, h3, hb3⟩; have H3 := Lib.hid h3; have HB3 := Lib.hid (hbw.out.trans hb3); clear h3 hb3)
              go_roundw
              case rel => exact ⟨k + 1, r', hf.out.1, by go_num, hf.out.2.1, H3, hf.out.2.2.1, hf.out.2.2.2.1.trans hrun.out, HB3⟩
              case measure =>
                have e1 := stW_eq H3.out
                have e2 := stW_eq hr.out
                have e3 := hf.out.2.2.2.2
                simp only [intOf]
                rw [e1, e2]
                omega
            · have c2 : wr.cell? ⟨w.heap.size, 2, none⟩ = some (.int .i64 4) := hc2.trans (by rw [h0]; rfl)
              clear h0 hc2
              go_wp2_with (go_at_call 25; refine hct.mono ?_; rintro e w3 ⟨rfl, h3, hb3⟩; have H3 := Lib.hid h3; have HB3 := Lib.hid (hbw.out.trans hb3); clear h3 hb3)
              go_roundw
              case rel => exact ⟨k + 1, r', hf.out.1, by go_num, hf.out.2.1, H3, hf.out.2.2.1, hf.out.2.2.2.1.trans hrun.out, HB3⟩
              case measure =>
                have e1 := stW_eq H3.out
                have e2 := stW_eq hr.out
                have e3 := hf.out.2.2.2.2
                simp only [intOf]
                rw [e1, e2]
                omega
            · have c2 : wr.cell? ⟨w.heap.size, 2, none⟩ = some (.int .i64 5) := hc2.trans (by rw [h0]; rfl)
              clear h0 hc2
              go_wp2_with (go_at_call 25; refine hct.mono ?_; rintro e w3 ⟨rfl, h3, hb3⟩; have H3 := Lib.hid h3; have HB3 := Lib.hid (hbw.out.trans hb3); clear h3 hb3)
              go_roundw
              case rel => exact ⟨k + 1, r', hf.out.1, by go_num, hf.out.2.1, H3, hf.out.2.2.1, hf.out.2.2.2.1.trans hrun.out, HB3⟩
              case measure =>
                have e1 := stW_eq H3.out
                have e2 := stW_eq hr.out
                have e3 := hf.out.2.2.2.2
                simp only [intOf]
                rw [e1, e2]
                omega
            · have c2 : wr.cell? ⟨w.heap.size, 2, none⟩ = some (.int .i64 6) := hc2.trans (by rw [h0]; rfl)
              clear h0 hc2
              go_wp2_with (go_at_call 25; refine hct.mono ?_; rintro e w3 ⟨rfl, h3, hb3⟩; have H3 := Lib.hid h3; have HB3 := Lib.hid (hbw.out.trans hb3); clear h3 hb3)
              go_roundw
              case rel => exact ⟨k + 1, r', hf.out.1, by go_num, hf.out.2.1, H3, hf.out.2.2.1, hf.out.2.2.2.1.trans hrun.out, HB3⟩
              case measure =>
                have e1 := stW_eq H3.out
                have e2 := stW_eq hr.out
                have e3 := hf.out.2.2.2.2
                simp only [intOf]
                rw [e1, e2]
                omega
            · have c2 : wr.cell? ⟨w.heap.size, 2, none⟩ = some (.int .i64 10) := hc2.trans (by rw [h0]; rfl)
              clear h0 hc2
              go_wp2_with (go_at_call 25; refine hct.mono ?_; rintro e w3 ⟨rfl, h3, hb3⟩; have H3 := Lib.hid h3; have HB3 := Lib.hid (hbw.out.trans hb3); clear h3 hb3)
              go_roundw
              case rel => exact ⟨k + 1, r', hf.out.1, by go_num, hf.out.2.1, H3, hf.out.2.2.1, hf.out.2.2.2.1.trans hrun.out, HB3⟩
              case measure =>
                have e1 := stW_eq H3.out
                have e2 := stW_eq hr.out
                have e3 := hf.out.2.2.2.2
                simp only [intOf]
                rw [e1, e2]
                omega
            · have c2 : wr.cell? ⟨w.heap.size, 2, none⟩ = some (.int .i64 11) := hc2.trans (by rw [h0]; rfl)
              clear h0 hc2
              go_wp2_with (go_at_call 25; refine hct.mono ?_; rintro e w3 ⟨rfl, h3, hb3⟩; have H3 := Lib.hid h3; have HB3 := Lib.hid (hbw.out.trans hb3); clear h3 hb3)
              go_roundw
              case rel => exact ⟨k + 1, r', hf.out.1, by go_num, hf.out.2.1, H3, hf.out.2.2.1, hf.out.2.2.2.1.trans hrun.out, HB3⟩
              case measure =>
                have e1 := stW_eq H3.out
                have e2 := stW_eq hr.out
                have e3 := hf.out.2.2.2.2
                simp only [intOf]
                rw [e1, e2]
                omega
      | false =>
        cases hV : inVal r.st with
        | true =>
          have hnum : r.st = 7 ∨ r.st = 8 ∨ r.st = 9 := by have := of_decide_eq_true hV; omega
          have hct := rval_c w.heap.size l r l[k] wr hr.out hz hV
          have hcb : ((l[k]).toNat : Int) ≤ 255 := by have := (l[k]).toNat_lt; omega
          cases hp : valR l[k] r with
          | mk r' b =>
            rw [hp] at hct
            cases b with
            | true =>
              have hf := Lib.hid (step_facts hlt r hs hbd.out (r' := r') (n := 0) (by rw [step_val _ _ _ hT hV, hp]; rfl))
              clear hp hT hV
              generalize l[k] = c at hx hct hcb
              rcases hnum with h0 | h0 | h0
              · have c2 : wr.cell? ⟨w.heap.size, 2, none⟩ = some (.int .i64 7) := hc2.trans (by rw [h0]; rfl)
                clear h0 hc2
                go_wp2_with (go_at_call 26; refine hct.mono ?_; rintro e w3 ⟨rfl, h3, hb3⟩; have H3 := Lib.hid h3; have HB3 := Lib.hid (hbw.out.trans hb3); clear h3 hb3)
                go_roundw
                case rel => exact ⟨k + 0, r', hf.out.1, by go_num, hf.out.2.1, H3, hf.out.2.2.1, hf.out.2.2.2.1.trans hrun.out, HB3⟩
                case measure =>
                  have e1 := stW_eq H3.out
                  have e2 := stW_eq hr.out
                  have e3 := hf.out.2.2.2.2
                  simp only [intOf]
                  rw [e1, e2]
                  omega
              · have c2 : wr.cell? ⟨w.heap.size, 2, none⟩ = some (.int .i64 8) := hc2.trans (by rw [h0]; rfl)
                clear h0 hc2
                go_wp2_with (go_at_call 26; refine hct.mono ?_; rintro e w3 ⟨rfl, h3, hb3⟩; have H3 := Lib.hid h3; have HB3 := Lib.hid (hbw.out.trans hb3); clear h3 hb3)
                go_roundw
                case rel => exact ⟨k + 0, r', hf.out.1, by go_num, hf.out.2.1, H3, hf.out.2.2.1, hf.out.2.2.2.1.trans hrun.out, HB3⟩
                case measure =>
                  have e1 := stW_eq H3.out
                  have e2 := stW_eq hr.out
                  have e3 := hf.out.2.2.2.2
                  simp only [intOf]
                  rw [e1, e2]
                  omega
              · have c2 : wr.cell? ⟨w.heap.size, 2, none⟩ = some (.int .i64 9) := hc2.trans (by rw [h0]; rfl)
                clear h0 hc2
                go_wp2_with (go_at_call 26; refine hct.mono ?_; rintro e w3 ⟨rfl, h3, hb3⟩; have H3 := Lib.hid h3; have HB3 := Lib.hid (hbw.out.trans hb3); clear h3 hb3)
                go_roundw
                case rel => exact ⟨k + 0, r', hf.out.1, by go_num, hf.out.2.1, H3, hf.out.2.2.1, hf.out.2.2.2.1.trans hrun.out, HB3⟩
                case measure =>
                  have e1 := stW_eq H3.out
                  have e2 := stW_eq hr.out
                  have e3 := hf.out.2.2.2.2
                  simp only [intOf]
                  rw [e1, e2]
                  omega
            | false =>
              have hf := Lib.hid (step_facts hlt r hs hbd.out (r' := r') (n := 1) (by rw [step_val _ _ _ hT hV, hp]; rfl))
              clear hp hT hV
              generalize l[k] = c at hx hct hcb
              rcases hnum with h0 | h0 | h0
              · have c2 : wr.cell? ⟨w.heap.size, 2, none⟩ = some (.int .i64 7) := hc2.trans (by rw [h0]; rfl)
                clear h0 hc2
                go_wp2_with (go_at_call 26; refine hct.mono ?_; rintro e w3 ⟨rfl, h3, hb3⟩; have H3 := Lib.hid h3; have HB3 := Lib.hid (hbw.out.trans hb3); clear h3 hb3)
                go_roundw
                case rel => exact ⟨k + 1, r', hf.out.1, by go_num, hf.out.2.1, H3, hf.out.2.2.1, hf.out.2.2.2.1.trans hrun.out, HB3⟩
                case measure =>
                  have e1 := stW_eq H3.out
                  have e2 := stW_eq hr.out
                  have e3 := hf.out.2.2.2.2
                  simp only [intOf]
                  rw [e1, e2]
                  omega
              · have c2 : wr.cell? ⟨w.heap.size, 2, none⟩ = some (.int .i64 8) := hc2.trans (by rw [h0]; rfl)
                clear h0 hc2
                go_wp2_with (go_at_call 26; refine hct.mono ?_; rintro e w3 ⟨rfl, h3, hb3⟩; have H3 := Lib.hid h3; have HB3 := Lib.hid (hbw.out.trans hb3); clear h3 hb3)
                go_roundw
                case rel => exact ⟨k + 1, r', hf.out.1, by go_num, hf.out.2.1, H3, hf.out.2.2.1, hf.out.2.2.2.1.trans hrun.out, HB3⟩
                case measure =>
                  have e1 := stW_eq H3.out
                  have e2 := stW_eq hr.out
                  have e3 := hf.out.2.2.2.2
                  simp only [intOf]
                  rw [e1, e2]
                  omega
              · have c2 : wr.cell? ⟨w.heap.size, 2, none⟩ = some (.int .i64 9) := hc2.trans (by rw [h0]; rfl)
                clear h0 hc2
                go_wp2_with (go_at_call 26; refine hct.mono ?_; rintro e w3 ⟨rfl, h3, hb3⟩; have H3 := Lib.hid h3; have HB3 := Lib.hid (hbw.out.trans hb3); clear h3 hb3)
                go_roundw
                case rel => exact ⟨k + 1, r', hf.out.1, by go_num, hf.out.2.1, H3, hf.out.2.2.1, hf.out.2.2.2.1.trans hrun.out, HB3⟩
                case measure =>
                  have e1 := stW_eq H3.out
                  have e2 := stW_eq hr.out
                  have e3 := hf.out.2.2.2.2
                  simp only [intOf]
                  rw [e1, e2]
                  omega
        | false =>
          have hnum : r.st = 0 ∨ r.st = 1 ∨ r.st = 2 ∨ r.st = 12 ∨ r.st = 13 ∨ r.st = 14 ∨ r.st = 15 := by
            have h1 := of_decide_eq_false hT
            have h2 := of_decide_eq_false hV
            omega
          have hct := routside_c w.heap.size l hl r k hlt wr hr.out hz hT hV hs
          cases hp : outR l[k] (l.drop (k + 1)) r with
          | mk r' n =>
            rw [hp] at hct
            have hf := Lib.hid (step_facts hlt r hs hbd.out (r' := r') (n := n) (by rw [step_out _ _ _ hT hV, hp]))
            have i6 : (k : Int) + (n : Int) ≤ (l.length : Int) := by have := hf.out.1; omega
            have i7 : (0 : Int) ≤ (k : Int) + (n : Int) := by omega
            clear hp hT hV
            generalize l[k] = c at hx
            rcases hnum with h0 | h0 | h0 | h0 | h0 | h0 | h0
            · have c2 : wr.cell? ⟨w.heap.size, 2, none⟩ = some (.int .i64 0) := hc2.trans (by rw [h0]; rfl)
              clear h0 hc2
              go_wp2_with (go_at_call 27; refine hct.mono ?_; rintro e w3 ⟨rfl, h3, hb3⟩; have H3 := Lib.hid h3; have HB3 := Lib.hid (hbw.out.trans hb3); clear h3 hb3)
              go_roundw
              case rel => exact ⟨k + n, r', hf.out.1, by go_num, hf.out.2.1, H3, hf.out.2.2.1, hf.out.2.2.2.1.trans hrun.out, HB3⟩
              case measure =>
                have e1 := stW_eq H3.out
                have e2 := stW_eq hr.out
                have e3 := hf.out.2.2.2.2
                simp only [intOf]
                rw [e1, e2]
                omega
            · have c2 : wr.cell? ⟨w.heap.size, 2, none⟩ = some (.int .i64 1) := hc2.trans (by rw [h0]; rfl)
              clear h0 hc2
              go_wp2_with (go_at_call 27; refine hct.mono ?_; rintro e w3 ⟨rfl, h3, hb3⟩; have H3 := Lib.hid h3; have HB3 := Lib.hid (hbw.out.trans hb3); clear h3 hb3)
              go_roundw
              case rel => exact ⟨k + n, r', hf.out.1, by go_num, hf.out.2.1, H3, hf.out.2.2.1, hf.out.2.2.2.1.trans hrun.out, HB3⟩
              case measure =>
                have e1 := stW_eq H3.out
                have e2 := stW_eq hr.out
                have e3 := hf.out.2.2.2.2
                simp only [intOf]
                rw [e1, e2]
                omega
            · have c2 : wr.cell? ⟨w.heap.size, 2, none⟩ = some (.int .i64 2) := hc2.trans (by rw [h0]; rfl)
              clear h0 hc2
              go_wp2_with (go_at_call 27; refine hct.mono ?_; rintro e w3 ⟨rfl, h3, hb3⟩; have H3 := Lib.hid h3; have HB3 := Lib.hid (hbw.out.trans hb3); clear h3 hb3)
              go_roundw
              case rel => exact ⟨k + n, r', hf.out.1, by go_num, hf.out.2.1, H3, hf.out.2.2.1, hf.out.2.2.2.1.trans hrun.out, HB3⟩
              case measure =>
                have e1 := stW_eq H3.out
                have e2 := stW_eq hr.out
                have e3 := hf.out.2.2.2.2
                simp only [intOf]
                rw [e1, e2]
                omega
            · have c2 : wr.cell? ⟨w.heap.size, 2, none⟩ = some (.int .i64 12) := hc2.trans (by rw [h0]; rfl)
              clear h0 hc2
              go_wp2_with (go_at_call 27; refine hct.mono ?_; rintro e w3 ⟨rfl, h3, hb3⟩; have H3 := Lib.hid h3; have HB3 := Lib.hid (hbw.out.trans hb3); clear h3 hb3)
              go_roundw
              case rel => exact ⟨k + n, r', hf.out.1, by go_num, hf.out.2.1, H3, hf.out.2.2.1, hf.out.2.2.2.1.trans hrun.out, HB3⟩
              case measure =>
                have e1 := stW_eq H3.out
                have e2 := stW_eq hr.out
                have e3 := hf.out.2.2.2.2
                simp only [intOf]
                rw [e1, e2]
                omega
            · have c2 : wr.cell? ⟨w.heap.size, 2, none⟩ = some (.int .i64 13) := hc2.trans (by rw [h0]; rfl)
              clear h0 hc2
              go_wp2_with (go_at_call 27; refine hct.mono ?_; rintro e w3 ⟨rfl, h3, hb3⟩; have H3 := Lib.hid h3; have HB3 := Lib.hid (hbw.out.trans hb3); clear h3 hb3)
              go_roundw
              case rel => exact ⟨k + n, r', hf.out.1, by go_num, hf.out.2.1, H3, hf.out.2.2.1, hf.out.2.2.2.1.trans hrun.out, HB3⟩
              case measure =>
                have e1 := stW_eq H3.out
                have e2 := stW_eq hr.out
                have e3 := hf.out.2.2.2.2
                simp only [intOf]
                rw [e1, e2]
                omega
            · have c2 : wr.cell? ⟨w.heap.size, 2, none⟩ = some (.int .i64 14) := hc2.trans (by rw [h0]; rfl)
              clear h0 hc2
              go_wp2_with (go_at_call 27; refine hct.mono ?_; rintro e w3 ⟨rfl, h3, hb3⟩; have H3 := Lib.hid h3; have HB3 := Lib.hid (hbw.out.trans hb3); clear h3 hb3)
              go_roundw
              case rel => exact ⟨k + n, r', hf.out.1, by go_num, hf.out.2.1, H3, hf.out.2.2.1, hf.out.2.2.2.1.trans hrun.out, HB3⟩
              case measure =>
                have e1 := stW_eq H3.out
                have e2 := stW_eq hr.out
                have e3 := hf.out.2.2.2.2
                simp only [intOf]
                rw [e1, e2]
                omega
            · have c2 : wr.cell? ⟨w.heap.size, 2, none⟩ = some (.int .i64 15) := hc2.trans (by rw [h0]; rfl)
              clear h0 hc2
              go_wp2_with (go_at_call 27; refine hct.mono ?_; rintro e w3 ⟨rfl, h3, hb3⟩; have H3 := Lib.hid h3; have HB3 := Lib.hid (hbw.out.trans hb3); clear h3 hb3)
              go_roundw
              case rel => exact ⟨k + n, r', hf.out.1, by go_num, hf.out.2.1, H3, hf.out.2.2.1, hf.out.2.2.2.1.trans hrun.out, HB3⟩
              case measure =>
                have e1 := stW_eq H3.out
                have e2 := stW_eq hr.out
                have e3 := hf.out.2.2.2.2
                simp only [intOf]
                rw [e1, e2]
                omega
    · have hke : k = l.length := by omega
      have hre : r = runR l rd0 := by
        have h1 := hrun.out
        rw [hke, List.drop_length, run_nil] at h1
        exact h1
      have htok : tokL l = lastR r := by unfold tokL; rw [← hre]
      have HTK := Lib.hid htok
      subst hke
      clear hre htok hrun hbd hk
      have hnum : r.st = 0 ∨ r.st = 15 ∨ r.st = 14 ∨ r.st = 1 ∨ r.st = 2 ∨ r.st = 3 ∨ r.st = 4 ∨ r.st = 5 ∨ r.st = 6 ∨ r.st = 7 ∨ r.st = 8 ∨ r.st = 9 ∨ r.st = 10 ∨ r.st = 11 ∨ r.st = 12 ∨ r.st = 13 := by omega
      rcases hnum with h0 | h0 | h0 | h0 | h0 | h0 | h0 | h0 | h0 | h0 | h0 | h0 | h0 | h0 | h0 | h0
      · -- data
        have hla : lastR r = (textR true r).out := by unfold lastR; rw [if_pos h0]
        have HTL := Lib.hid (HTK.out.trans hla)
        clear hla HTK
        by_cases hN : 4096 < ((textR true r).out).length
        · have HN := Lib.hid hN
          have hNi : (4096 : Int) < (((textR true r).out).length : Int) := by omega
          clear hN
          have c2 : wr.cell? ⟨w.heap.size, 2, none⟩ = some (.int .i64 0) := hc2.trans (by rw [h0]; rfl)
          clear h0 hc2
          have ht := rtext_c true w.heap.size l r wr hr.out hz.2.2.2.2.2.1 hz.1
          go_wp2_with fail
          refine ht.mono ?_
          rintro e w3 ⟨rfl, ⟨vo, vt, va, ps, h3⟩, hb3⟩
          obtain ⟨vp, vc, rfl⟩ := own_form h3.out
          have hpl : ps.length = (textR true r).out.length := by rw [h3.outs, List.length_map]
          have c1 : w3.cell? ⟨w.heap.size, 1, none⟩ = some (.slice vp ps.length vc) := (h3.cell 1).trans rfl
          rw [hpl] at c1
          have H3 := Lib.hid h3.tks
          rw [hpl] at H3
          have HB3 := Lib.hid (hbw.out.trans hb3)
          clear h3 hb3 hpl
          go_wp2_with fail
          go_ret2
          exact ⟨by rw [HTL.out]; unfold TokAns; rw [if_pos HN.out]; rfl, HB3.out⟩
        · have HN := Lib.hid hN
          have hNi : ¬ ((4096 : Int) < (((textR true r).out).length : Int)) := by omega
          clear hN
          have c2 : wr.cell? ⟨w.heap.size, 2, none⟩ = some (.int .i64 0) := hc2.trans (by rw [h0]; rfl)
          clear h0 hc2
          have ht := rtext_c true w.heap.size l r wr hr.out hz.2.2.2.2.2.1 hz.1
          go_wp2_with fail
          refine ht.mono ?_
          rintro e w3 ⟨rfl, ⟨vo, vt, va, ps, h3⟩, hb3⟩
          obtain ⟨vp, vc, rfl⟩ := own_form h3.out
          have hpl : ps.length = (textR true r).out.length := by rw [h3.outs, List.length_map]
          have c1 : w3.cell? ⟨w.heap.size, 1, none⟩ = some (.slice vp ps.length vc) := (h3.cell 1).trans rfl
          rw [hpl] at c1
          have H3 := Lib.hid h3.tks
          rw [hpl] at H3
          have HB3 := Lib.hid (hbw.out.trans hb3)
          clear h3 hb3 hpl
          go_wp2_with fail
          go_ret2
          exact ⟨by rw [HTL.out]; unfold TokAns; rw [if_neg HN.out]; exact ⟨_, rfl, tks_weak H3.out (Nat.le_succ _)⟩, HB3.out⟩
      · -- raw
        have hla : lastR r = (textR (r.kd == 1) r).out := by unfold lastR; rw [if_neg (by omega), if_pos h0]
        have HTL := Lib.hid (HTK.out.trans hla)
        clear hla HTK
        by_cases hN : 4096 < ((textR (r.kd == 1) r).out).length
        · have HN := Lib.hid hN
          have hNi : (4096 : Int) < (((textR (r.kd == 1) r).out).length : Int) := by omega
          clear hN
          have c2 : wr.cell? ⟨w.heap.size, 2, none⟩ = some (.int .i64 15) := hc2.trans (by rw [h0]; rfl)
          clear h0 hc2
          have ht := rtext_c (r.kd == 1) w.heap.size l r wr hr.out hz.2.2.2.2.2.1 hz.1
          have hkd : ((r.kd : Int) == 1) = (r.kd == 1) := by rw [Bool.eq_iff_iff]; simp; omega
          have d13 : wr.cell? ⟨w.heap.size, 13, none⟩ = some (.int .i64 (r.kd : Int)) := by
            obtain ⟨vo, vt, va, ps, h⟩ := hr.out
            exact (h.cell 13).trans rfl
          go_wp2_with fail
          refine ht.mono ?_
          rintro e w3 ⟨rfl, ⟨vo, vt, va, ps, h3⟩, hb3⟩
          obtain ⟨vp, vc, rfl⟩ := own_form h3.out
          have hpl : ps.length = (textR (r.kd == 1) r).out.length := by rw [h3.outs, List.length_map]
          have c1 : w3.cell? ⟨w.heap.size, 1, none⟩ = some (.slice vp ps.length vc) := (h3.cell 1).trans rfl
          rw [hpl] at c1
          have H3 := Lib.hid h3.tks
          rw [hpl] at H3
          have HB3 := Lib.hid (hbw.out.trans hb3)
          clear h3 hb3 hpl
          go_wp2_with fail
          go_ret2
          exact ⟨by rw [HTL.out]; unfold TokAns; rw [if_pos HN.out]; rfl, HB3.out⟩
        · have HN := Lib.hid hN
          have hNi : ¬ ((4096 : Int) < (((textR (r.kd == 1) r).out).length : Int)) := by omega
          clear hN
          have c2 : wr.cell? ⟨w.heap.size, 2, none⟩ = some (.int .i64 15) := hc2.trans (by rw [h0]; rfl)
          clear h0 hc2
          have ht := rtext_c (r.kd == 1) w.heap.size l r wr hr.out hz.2.2.2.2.2.1 hz.1
          have hkd : ((r.kd : Int) == 1) = (r.kd == 1) := by rw [Bool.eq_iff_iff]; simp; omega
          have d13 : wr.cell? ⟨w.heap.size, 13, none⟩ = some (.int .i64 (r.kd : Int)) := by
            obtain ⟨vo, vt, va, ps, h⟩ := hr.out
            exact (h.cell 13).trans rfl
          go_wp2_with fail
          refine ht.mono ?_
          rintro e w3 ⟨rfl, ⟨vo, vt, va, ps, h3⟩, hb3⟩
          obtain ⟨vp, vc, rfl⟩ := own_form h3.out
          have hpl : ps.length = (textR (r.kd == 1) r).out.length := by rw [h3.outs, List.length_map]
          have c1 : w3.cell? ⟨w.heap.size, 1, none⟩ = some (.slice vp ps.length vc) := (h3.cell 1).trans rfl
          rw [hpl] at c1
          have H3 := Lib.hid h3.tks
          rw [hpl] at H3
          have HB3 := Lib.hid (hbw.out.trans hb3)
          clear h3 hb3 hpl
          go_wp2_with fail
          go_ret2
          exact ⟨by rw [HTL.out]; unfold TokAns; rw [if_neg HN.out]; exact ⟨_, rfl, tks_weak H3.out (Nat.le_succ _)⟩, HB3.out⟩
      · -- comment
        have hla : lastR r = (r.out ++ [(⟨4, [], r.tx, [], false⟩ : Tk)]) := by unfold lastR; rw [if_neg (by omega), if_neg (by omega), if_pos h0]
        have HTL := Lib.hid (HTK.out.trans hla)
        clear hla HTK
        have c2 : wr.cell? ⟨w.heap.size, 2, none⟩ = some (.int .i64 14) := hc2.trans (by rw [h0]; rfl)
        clear h0 hc2
        obtain ⟨vo, vt, va, ps, h⟩ := hr.out
        obtain ⟨i0, hi0, hz0, hz1, hz2⟩ := info_parts info_tok
        have hpo : ps.length = r.out.length := by rw [h.outs, List.length_map]
        have ho : ps.length ≤ 134217728 := by have h2 := hz.1; omega
        have c1 : wr.cell? ⟨w.heap.size, 1, none⟩ = some vo := (h.cell 1).trans rfl
        have c3 : wr.cell? ⟨w.heap.size, 3, none⟩ = some vt := (h.cell 3).trans rfl
        have hcv := Mem.conv_own h.txt
        have HW := Lib.hid h
        have hR1 : w.heap.size + 1 ≤ wr.heap.size := h.lt
        have HCell : Hid (∀ (w : World) (X : ByteArray), X = S r.tx → ∀ j u, (tkCs (⟨4, [], r.tx, [], false⟩, .slice none 0 0))[j]? = some u → (w.alloc (.cells #[.int .i64 4, .string ⟨#[]⟩, .string X, .slice none 0 0, .bool false] 52)).cell? ((⟨w.heap.size, 0, none⟩ : Addr).add j) = some u) := fun w X hX j u hj => by
          subst hX
          exact push_cells (cs := tkCs (⟨4, [], r.tx, [], false⟩, .slice none 0 0)) j u hj
        clear h
        have hcd : (convert 49 9 vt).run Tryz.prog wr.drew = .ok (.string (S r.tx)) wr.drew := Mem.conv_own (w := wr.drew) HW.out.txt
        have hRWW : w.heap.size < wr.heap.size := hR1
        have hel : (r.out ++ [(⟨4, [], r.tx, [], false⟩ : Tk)]).length = r.out.length + 1 := by rw [List.length_append]; rfl
        by_cases hN : 4096 < r.out.length + 1
        · have hNi : ((4096 : Int) < (ps.length : Int) + 1) := by omega
          rw [← hel] at hN
          have HN := Lib.hid hN
          clear hN hel hpo
          go_wp2_with fail
          go_region_law (first
            | (refine step_append_lies _ rfl (.tmp 113) (.tmp 120) 32 rfl (w.heap.size + 1) 52 i0 _ 5 72 Tryz.underlying32 hi0 hz0 hz1 hz2 rfl (by omega) vo ps.length (ps.flatMap tkCs) (by simp [Act.eval]) (HW.out.out.alloc _) ⟨wr.heap.size, 0, none⟩ 1 1 (tkCs (⟨4, [], r.tx, [], false⟩, .slice none 0 0)) (by simp [Act.eval]) rfl (push_cells (cs := tkCs (⟨4, [], r.tx, [], false⟩, .slice none 0 0))) (push_tok rfl) (by omega) (by unfold maxLen; omega) (by omega) (by simp; omega) (wr.heap.size + 1) (by simp) ?_; intro g cp wB hownB hgB hatB hltB; obtain ⟨p1, p2, p3, p4⟩ := HW.out.push (⟨4, [], r.tx, [], false⟩, .slice none 0 0) (World.ownsRow_nil _ _ _ _) ⟨nil_sep _, nil_sep _, nil_sep _⟩ _ hownB (grown_drew hgB) (hatB.imp Eq.symm (congrArg some)); have HP := Lib.hid (And.intro p1 p2); clear p1 p2 hownB hgB hatB hltB))
          all_goals
            have e1 : _ = some (Value.slice (some ⟨g, 0, none⟩) (ps.length + 1) cp) := (HP.out.1.cell 1).trans rfl
            go_wp2_with fail
            go_ret2
            exact ⟨by rw [HTL.out]; unfold TokAns; rw [if_pos HN.out]; rfl, hbw.out.trans HP.out.2⟩
        · have hNi : ¬ (((4096 : Int) < (ps.length : Int) + 1)) := by omega
          rw [← hel] at hN
          have HN := Lib.hid hN
          clear hN hel hpo
          go_wp2_with fail
          go_region_law (first
            | (refine step_append_lies _ rfl (.tmp 113) (.tmp 120) 32 rfl (w.heap.size + 1) 52 i0 _ 5 72 Tryz.underlying32 hi0 hz0 hz1 hz2 rfl (by omega) vo ps.length (ps.flatMap tkCs) (by simp [Act.eval]) (HW.out.out.alloc _) ⟨wr.heap.size, 0, none⟩ 1 1 (tkCs (⟨4, [], r.tx, [], false⟩, .slice none 0 0)) (by simp [Act.eval]) rfl (push_cells (cs := tkCs (⟨4, [], r.tx, [], false⟩, .slice none 0 0))) (push_tok rfl) (by omega) (by unfold maxLen; omega) (by omega) (by simp; omega) (wr.heap.size + 1) (by simp) ?_; intro g cp wB hownB hgB hatB hltB; obtain ⟨p1, p2, p3, p4⟩ := HW.out.push (⟨4, [], r.tx, [], false⟩, .slice none 0 0) (World.ownsRow_nil _ _ _ _) ⟨nil_sep _, nil_sep _, nil_sep _⟩ _ hownB (grown_drew hgB) (hatB.imp Eq.symm (congrArg some)); have HP := Lib.hid (And.intro p1 p2); clear p1 p2 hownB hgB hatB hltB))
          all_goals
            have e1 : _ = some (Value.slice (some ⟨g, 0, none⟩) (ps.length + 1) cp) := (HP.out.1.cell 1).trans rfl
            go_wp2_with fail
            go_ret2
            exact ⟨by rw [HTL.out]; unfold TokAns; rw [if_neg HN.out]; exact ⟨_, rfl, tks_weak HP.out.1.tks (Nat.le_succ _)⟩, hbw.out.trans HP.out.2⟩
      · -- 1
        have hla : lastR r = r.out := by unfold lastR; rw [if_neg (by omega), if_neg (by omega), if_neg (by omega)]
        have HTL := Lib.hid (HTK.out.trans hla)
        clear hla HTK
        by_cases hN : 4096 < (r.out).length
        · have HN := Lib.hid hN
          have hNi : (4096 : Int) < ((r.out).length : Int) := by omega
          clear hN
          have c2 : wr.cell? ⟨w.heap.size, 2, none⟩ = some (.int .i64 1) := hc2.trans (by rw [h0]; rfl)
          clear h0 hc2
          obtain ⟨vo, vt, va, ps, h3⟩ := hr.out
          have hb3 := Below.refl w.heap.size wr
          obtain ⟨w3, hw3⟩ : ∃ w3, w3 = wr := ⟨_, rfl⟩
          subst hw3
          obtain ⟨vp, vc, rfl⟩ := own_form h3.out
          have hpl : ps.length = r.out.length := by rw [h3.outs, List.length_map]
          have c1 : w3.cell? ⟨w.heap.size, 1, none⟩ = some (.slice vp ps.length vc) := (h3.cell 1).trans rfl
          rw [hpl] at c1
          have H3 := Lib.hid h3.tks
          rw [hpl] at H3
          have HB3 := Lib.hid (hbw.out.trans hb3)
          clear h3 hb3 hpl
          go_wp2_with fail
          go_ret2
          exact ⟨by rw [HTL.out]; unfold TokAns; rw [if_pos HN.out]; rfl, HB3.out⟩
        · have HN := Lib.hid hN
          have hNi : ¬ ((4096 : Int) < ((r.out).length : Int)) := by omega
          clear hN
          have c2 : wr.cell? ⟨w.heap.size, 2, none⟩ = some (.int .i64 1) := hc2.trans (by rw [h0]; rfl)
          clear h0 hc2
          obtain ⟨vo, vt, va, ps, h3⟩ := hr.out
          have hb3 := Below.refl w.heap.size wr
          obtain ⟨w3, hw3⟩ : ∃ w3, w3 = wr := ⟨_, rfl⟩
          subst hw3
          obtain ⟨vp, vc, rfl⟩ := own_form h3.out
          have hpl : ps.length = r.out.length := by rw [h3.outs, List.length_map]
          have c1 : w3.cell? ⟨w.heap.size, 1, none⟩ = some (.slice vp ps.length vc) := (h3.cell 1).trans rfl
          rw [hpl] at c1
          have H3 := Lib.hid h3.tks
          rw [hpl] at H3
          have HB3 := Lib.hid (hbw.out.trans hb3)
          clear h3 hb3 hpl
          go_wp2_with fail
          go_ret2
          exact ⟨by rw [HTL.out]; unfold TokAns; rw [if_neg HN.out]; exact ⟨_, rfl, tks_weak H3.out (Nat.le_succ _)⟩, HB3.out⟩
      · -- 2
        have hla : lastR r = r.out := by unfold lastR; rw [if_neg (by omega), if_neg (by omega), if_neg (by omega)]
        have HTL := Lib.hid (HTK.out.trans hla)
        clear hla HTK
        by_cases hN : 4096 < (r.out).length
        · have HN := Lib.hid hN
          have hNi : (4096 : Int) < ((r.out).length : Int) := by omega
          clear hN
          have c2 : wr.cell? ⟨w.heap.size, 2, none⟩ = some (.int .i64 2) := hc2.trans (by rw [h0]; rfl)
          clear h0 hc2
          obtain ⟨vo, vt, va, ps, h3⟩ := hr.out
          have hb3 := Below.refl w.heap.size wr
          obtain ⟨w3, hw3⟩ : ∃ w3, w3 = wr := ⟨_, rfl⟩
          subst hw3
          obtain ⟨vp, vc, rfl⟩ := own_form h3.out
          have hpl : ps.length = r.out.length := by rw [h3.outs, List.length_map]
          have c1 : w3.cell? ⟨w.heap.size, 1, none⟩ = some (.slice vp ps.length vc) := (h3.cell 1).trans rfl
          rw [hpl] at c1
          have H3 := Lib.hid h3.tks
          rw [hpl] at H3
          have HB3 := Lib.hid (hbw.out.trans hb3)
          clear h3 hb3 hpl
          go_wp2_with fail
          go_ret2
          exact ⟨by rw [HTL.out]; unfold TokAns; rw [if_pos HN.out]; rfl, HB3.out⟩
        · have HN := Lib.hid hN
          have hNi : ¬ ((4096 : Int) < ((r.out).length : Int)) := by omega
          clear hN
          have c2 : wr.cell? ⟨w.heap.size, 2, none⟩ = some (.int .i64 2) := hc2.trans (by rw [h0]; rfl)
          clear h0 hc2
          obtain ⟨vo, vt, va, ps, h3⟩ := hr.out
          have hb3 := Below.refl w.heap.size wr
          obtain ⟨w3, hw3⟩ : ∃ w3, w3 = wr := ⟨_, rfl⟩
          subst hw3
          obtain ⟨vp, vc, rfl⟩ := own_form h3.out
          have hpl : ps.length = r.out.length := by rw [h3.outs, List.length_map]
          have c1 : w3.cell? ⟨w.heap.size, 1, none⟩ = some (.slice vp ps.length vc) := (h3.cell 1).trans rfl
          rw [hpl] at c1
          have H3 := Lib.hid h3.tks
          rw [hpl] at H3
          have HB3 := Lib.hid (hbw.out.trans hb3)
          clear h3 hb3 hpl
          go_wp2_with fail
          go_ret2
          exact ⟨by rw [HTL.out]; unfold TokAns; rw [if_neg HN.out]; exact ⟨_, rfl, tks_weak H3.out (Nat.le_succ _)⟩, HB3.out⟩
      · -- 3
        have hla : lastR r = r.out := by unfold lastR; rw [if_neg (by omega), if_neg (by omega), if_neg (by omega)]
        have HTL := Lib.hid (HTK.out.trans hla)
        clear hla HTK
        by_cases hN : 4096 < (r.out).length
        · have HN := Lib.hid hN
          have hNi : (4096 : Int) < ((r.out).length : Int) := by omega
          clear hN
          have c2 : wr.cell? ⟨w.heap.size, 2, none⟩ = some (.int .i64 3) := hc2.trans (by rw [h0]; rfl)
          clear h0 hc2
          obtain ⟨vo, vt, va, ps, h3⟩ := hr.out
          have hb3 := Below.refl w.heap.size wr
          obtain ⟨w3, hw3⟩ : ∃ w3, w3 = wr := ⟨_, rfl⟩
          subst hw3
          obtain ⟨vp, vc, rfl⟩ := own_form h3.out
          have hpl : ps.length = r.out.length := by rw [h3.outs, List.length_map]
          have c1 : w3.cell? ⟨w.heap.size, 1, none⟩ = some (.slice vp ps.length vc) := (h3.cell 1).trans rfl
          rw [hpl] at c1
          have H3 := Lib.hid h3.tks
          rw [hpl] at H3
          have HB3 := Lib.hid (hbw.out.trans hb3)
          clear h3 hb3 hpl
          go_wp2_with fail
          go_ret2
          exact ⟨by rw [HTL.out]; unfold TokAns; rw [if_pos HN.out]; rfl, HB3.out⟩
        · have HN := Lib.hid hN
          have hNi : ¬ ((4096 : Int) < ((r.out).length : Int)) := by omega
          clear hN
          have c2 : wr.cell? ⟨w.heap.size, 2, none⟩ = some (.int .i64 3) := hc2.trans (by rw [h0]; rfl)
          clear h0 hc2
          obtain ⟨vo, vt, va, ps, h3⟩ := hr.out
          have hb3 := Below.refl w.heap.size wr
          obtain ⟨w3, hw3⟩ : ∃ w3, w3 = wr := ⟨_, rfl⟩
          subst hw3
          obtain ⟨vp, vc, rfl⟩ := own_form h3.out
          have hpl : ps.length = r.out.length := by rw [h3.outs, List.length_map]
          have c1 : w3.cell? ⟨w.heap.size, 1, none⟩ = some (.slice vp ps.length vc) := (h3.cell 1).trans rfl
          rw [hpl] at c1
          have H3 := Lib.hid h3.tks
          rw [hpl] at H3
          have HB3 := Lib.hid (hbw.out.trans hb3)
          clear h3 hb3 hpl
          go_wp2_with fail
          go_ret2
          exact ⟨by rw [HTL.out]; unfold TokAns; rw [if_neg HN.out]; exact ⟨_, rfl, tks_weak H3.out (Nat.le_succ _)⟩, HB3.out⟩
      · -- 4
        have hla : lastR r = r.out := by unfold lastR; rw [if_neg (by omega), if_neg (by omega), if_neg (by omega)]
        have HTL := Lib.hid (HTK.out.trans hla)
        clear hla HTK
        by_cases hN : 4096 < (r.out).length
        · have HN := Lib.hid hN
          have hNi : (4096 : Int) < ((r.out).length : Int) := by omega
          clear hN
          have c2 : wr.cell? ⟨w.heap.size, 2, none⟩ = some (.int .i64 4) := hc2.trans (by rw [h0]; rfl)
          clear h0 hc2
          obtain ⟨vo, vt, va, ps, h3⟩ := hr.out
          have hb3 := Below.refl w.heap.size wr
          obtain ⟨w3, hw3⟩ : ∃ w3, w3 = wr := ⟨_, rfl⟩
          subst hw3
          obtain ⟨vp, vc, rfl⟩ := own_form h3.out
          have hpl : ps.length = r.out.length := by rw [h3.outs, List.length_map]
          have c1 : w3.cell? ⟨w.heap.size, 1, none⟩ = some (.slice vp ps.length vc) := (h3.cell 1).trans rfl
          rw [hpl] at c1
          have H3 := Lib.hid h3.tks
          rw [hpl] at H3
          have HB3 := Lib.hid (hbw.out.trans hb3)
          clear h3 hb3 hpl
          go_wp2_with fail
          go_ret2
          exact ⟨by rw [HTL.out]; unfold TokAns; rw [if_pos HN.out]; rfl, HB3.out⟩
        · have HN := Lib.hid hN
          have hNi : ¬ ((4096 : Int) < ((r.out).length : Int)) := by omega
          clear hN
          have c2 : wr.cell? ⟨w.heap.size, 2, none⟩ = some (.int .i64 4) := hc2.trans (by rw [h0]; rfl)
          clear h0 hc2
          obtain ⟨vo, vt, va, ps, h3⟩ := hr.out
          have hb3 := Below.refl w.heap.size wr
          obtain ⟨w3, hw3⟩ : ∃ w3, w3 = wr := ⟨_, rfl⟩
          subst hw3
          obtain ⟨vp, vc, rfl⟩ := own_form h3.out
          have hpl : ps.length = r.out.length := by rw [h3.outs, List.length_map]
          have c1 : w3.cell? ⟨w.heap.size, 1, none⟩ = some (.slice vp ps.length vc) := (h3.cell 1).trans rfl
          rw [hpl] at c1
          have H3 := Lib.hid h3.tks
          rw [hpl] at H3
          have HB3 := Lib.hid (hbw.out.trans hb3)
          clear h3 hb3 hpl
          go_wp2_with fail
          go_ret2
          exact ⟨by rw [HTL.out]; unfold TokAns; rw [if_neg HN.out]; exact ⟨_, rfl, tks_weak H3.out (Nat.le_succ _)⟩, HB3.out⟩
      · -- 5
        have hla : lastR r = r.out := by unfold lastR; rw [if_neg (by omega), if_neg (by omega), if_neg (by omega)]
        have HTL := Lib.hid (HTK.out.trans hla)
        clear hla HTK
        by_cases hN : 4096 < (r.out).length
        · have HN := Lib.hid hN
          have hNi : (4096 : Int) < ((r.out).length : Int) := by omega
          clear hN
          have c2 : wr.cell? ⟨w.heap.size, 2, none⟩ = some (.int .i64 5) := hc2.trans (by rw [h0]; rfl)
          clear h0 hc2
          obtain ⟨vo, vt, va, ps, h3⟩ := hr.out
          have hb3 := Below.refl w.heap.size wr
          obtain ⟨w3, hw3⟩ : ∃ w3, w3 = wr := ⟨_, rfl⟩
          subst hw3
          obtain ⟨vp, vc, rfl⟩ := own_form h3.out
          have hpl : ps.length = r.out.length := by rw [h3.outs, List.length_map]
          have c1 : w3.cell? ⟨w.heap.size, 1, none⟩ = some (.slice vp ps.length vc) := (h3.cell 1).trans rfl
          rw [hpl] at c1
          have H3 := Lib.hid h3.tks
          rw [hpl] at H3
          have HB3 := Lib.hid (hbw.out.trans hb3)
          clear h3 hb3 hpl
          go_wp2_with fail
          go_ret2
          exact ⟨by rw [HTL.out]; unfold TokAns; rw [if_pos HN.out]; rfl, HB3.out⟩
        · have HN := Lib.hid hN
          have hNi : ¬ ((4096 : Int) < ((r.out).length : Int)) := by omega
          clear hN
          have c2 : wr.cell? ⟨w.heap.size, 2, none⟩ = some (.int .i64 5) := hc2.trans (by rw [h0]; rfl)
          clear h0 hc2
          obtain ⟨vo, vt, va, ps, h3⟩ := hr.out
          have hb3 := Below.refl w.heap.size wr
          obtain ⟨w3, hw3⟩ : ∃ w3, w3 = wr := ⟨_, rfl⟩
          subst hw3
          obtain ⟨vp, vc, rfl⟩ := own_form h3.out
          have hpl : ps.length = r.out.length := by rw [h3.outs, List.length_map]
          have c1 : w3.cell? ⟨w.heap.size, 1, none⟩ = some (.slice vp ps.length vc) := (h3.cell 1).trans rfl
          rw [hpl] at c1
          have H3 := Lib.hid h3.tks
          rw [hpl] at H3
          have HB3 := Lib.hid (hbw.out.trans hb3)
          clear h3 hb3 hpl
          go_wp2_with fail
          go_ret2
          exact ⟨by rw [HTL.out]; unfold TokAns; rw [if_neg HN.out]; exact ⟨_, rfl, tks_weak H3.out (Nat.le_succ _)⟩, HB3.out⟩
      · -- 6
        have hla : lastR r = r.out := by unfold lastR; rw [if_neg (by omega), if_neg (by omega), if_neg (by omega)]
        have HTL := Lib.hid (HTK.out.trans hla)
        clear hla HTK
        by_cases hN : 4096 < (r.out).length
        · have HN := Lib.hid hN
          have hNi : (4096 : Int) < ((r.out).length : Int) := by omega
          clear hN
          have c2 : wr.cell? ⟨w.heap.size, 2, none⟩ = some (.int .i64 6) := hc2.trans (by rw [h0]; rfl)
          clear h0 hc2
          obtain ⟨vo, vt, va, ps, h3⟩ := hr.out
          have hb3 := Below.refl w.heap.size wr
          obtain ⟨w3, hw3⟩ : ∃ w3, w3 = wr := ⟨_, rfl⟩
          subst hw3
          obtain ⟨vp, vc, rfl⟩ := own_form h3.out
          have hpl : ps.length = r.out.length := by rw [h3.outs, List.length_map]
          have c1 : w3.cell? ⟨w.heap.size, 1, none⟩ = some (.slice vp ps.length vc) := (h3.cell 1).trans rfl
          rw [hpl] at c1
          have H3 := Lib.hid h3.tks
          rw [hpl] at H3
          have HB3 := Lib.hid (hbw.out.trans hb3)
          clear h3 hb3 hpl
          go_wp2_with fail
          go_ret2
          exact ⟨by rw [HTL.out]; unfold TokAns; rw [if_pos HN.out]; rfl, HB3.out⟩
        · have HN := Lib.hid hN
          have hNi : ¬ ((4096 : Int) < ((r.out).length : Int)) := by omega
          clear hN
          have c2 : wr.cell? ⟨w.heap.size, 2, none⟩ = some (.int .i64 6) := hc2.trans (by rw [h0]; rfl)
          clear h0 hc2
          obtain ⟨vo, vt, va, ps, h3⟩ := hr.out
          have hb3 := Below.refl w.heap.size wr
          obtain ⟨w3, hw3⟩ : ∃ w3, w3 = wr := ⟨_, rfl⟩
          subst hw3
          obtain ⟨vp, vc, rfl⟩ := own_form h3.out
          have hpl : ps.length = r.out.length := by rw [h3.outs, List.length_map]
          have c1 : w3.cell? ⟨w.heap.size, 1, none⟩ = some (.slice vp ps.length vc) := (h3.cell 1).trans rfl
          rw [hpl] at c1
          have H3 := Lib.hid h3.tks
          rw [hpl] at H3
          have HB3 := Lib.hid (hbw.out.trans hb3)
          clear h3 hb3 hpl
          go_wp2_with fail
          go_ret2
          exact ⟨by rw [HTL.out]; unfold TokAns; rw [if_neg HN.out]; exact ⟨_, rfl, tks_weak H3.out (Nat.le_succ _)⟩, HB3.out⟩
      · -- 7
        have hla : lastR r = r.out := by unfold lastR; rw [if_neg (by omega), if_neg (by omega), if_neg (by omega)]
        have HTL := Lib.hid (HTK.out.trans hla)
        clear hla HTK
        by_cases hN : 4096 < (r.out).length
        · have HN := Lib.hid hN
          have hNi : (4096 : Int) < ((r.out).length : Int) := by omega
          clear hN
          have c2 : wr.cell? ⟨w.heap.size, 2, none⟩ = some (.int .i64 7) := hc2.trans (by rw [h0]; rfl)
          clear h0 hc2
          obtain ⟨vo, vt, va, ps, h3⟩ := hr.out
          have hb3 := Below.refl w.heap.size wr
          obtain ⟨w3, hw3⟩ : ∃ w3, w3 = wr := ⟨_, rfl⟩
          subst hw3
          obtain ⟨vp, vc, rfl⟩ := own_form h3.out
          have hpl : ps.length = r.out.length := by rw [h3.outs, List.length_map]
          have c1 : w3.cell? ⟨w.heap.size, 1, none⟩ = some (.slice vp ps.length vc) := (h3.cell 1).trans rfl
          rw [hpl] at c1
          have H3 := Lib.hid h3.tks
          rw [hpl] at H3
          have HB3 := Lib.hid (hbw.out.trans hb3)
          clear h3 hb3 hpl
          go_wp2_with fail
          go_ret2
          exact ⟨by rw [HTL.out]; unfold TokAns; rw [if_pos HN.out]; rfl, HB3.out⟩
        · have HN := Lib.hid hN
          have hNi : ¬ ((4096 : Int) < ((r.out).length : Int)) := by omega
          clear hN
          have c2 : wr.cell? ⟨w.heap.size, 2, none⟩ = some (.int .i64 7) := hc2.trans (by rw [h0]; rfl)
          clear h0 hc2
          obtain ⟨vo, vt, va, ps, h3⟩ := hr.out
          have hb3 := Below.refl w.heap.size wr
          obtain ⟨w3, hw3⟩ : ∃ w3, w3 = wr := ⟨_, rfl⟩
          subst hw3
          obtain ⟨vp, vc, rfl⟩ := own_form h3.out
          have hpl : ps.length = r.out.length := by rw [h3.outs, List.length_map]
          have c1 : w3.cell? ⟨w.heap.size, 1, none⟩ = some (.slice vp ps.length vc) := (h3.cell 1).trans rfl
          rw [hpl] at c1
          have H3 := Lib.hid h3.tks
          rw [hpl] at H3
          have HB3 := Lib.hid (hbw.out.trans hb3)
          clear h3 hb3 hpl
          go_wp2_with fail
          go_ret2
          exact ⟨by rw [HTL.out]; unfold TokAns; rw [if_neg HN.out]; exact ⟨_, rfl, tks_weak H3.out (Nat.le_succ _)⟩, HB3.out⟩
      · -- 8
        have hla : lastR r = r.out := by unfold lastR; rw [if_neg (by omega), if_neg (by omega), if_neg (by omega)]
        have HTL := Lib.hid (HTK.out.trans hla)
        clear hla HTK
        by_cases hN : 4096 < (r.out).length
        · have HN := Lib.hid hN
          have hNi : (4096 : Int) < ((r.out).length : Int) := by omega
          clear hN
          have c2 : wr.cell? ⟨w.heap.size, 2, none⟩ = some (.int .i64 8) := hc2.trans (by rw [h0]; rfl)
          clear h0 hc2
          obtain ⟨vo, vt, va, ps, h3⟩ := hr.out
          have hb3 := Below.refl w.heap.size wr
          obtain ⟨w3, hw3⟩ : ∃ w3, w3 = wr := ⟨_, rfl⟩
          subst hw3
          obtain ⟨vp, vc, rfl⟩ := own_form h3.out
          have hpl : ps.length = r.out.length := by rw [h3.outs, List.length_map]
          have c1 : w3.cell? ⟨w.heap.size, 1, none⟩ = some (.slice vp ps.length vc) := (h3.cell 1).trans rfl
          rw [hpl] at c1
          have H3 := Lib.hid h3.tks
          rw [hpl] at H3
          have HB3 := Lib.hid (hbw.out.trans hb3)
          clear h3 hb3 hpl
          go_wp2_with fail
          go_ret2
          exact ⟨by rw [HTL.out]; unfold TokAns; rw [if_pos HN.out]; rfl, HB3.out⟩
        · have HN := Lib.hid hN
          have hNi : ¬ ((4096 : Int) < ((r.out).length : Int)) := by omega
          clear hN
          have c2 : wr.cell? ⟨w.heap.size, 2, none⟩ = some (.int .i64 8) := hc2.trans (by rw [h0]; rfl)
          clear h0 hc2
          obtain ⟨vo, vt, va, ps, h3⟩ := hr.out
          have hb3 := Below.refl w.heap.size wr
          obtain ⟨w3, hw3⟩ : ∃ w3, w3 = wr := ⟨_, rfl⟩
          subst hw3
          obtain ⟨vp, vc, rfl⟩ := own_form h3.out
          have hpl : ps.length = r.out.length := by rw [h3.outs, List.length_map]
          have c1 : w3.cell? ⟨w.heap.size, 1, none⟩ = some (.slice vp ps.length vc) := (h3.cell 1).trans rfl
          rw [hpl] at c1
          have H3 := Lib.hid h3.tks
          rw [hpl] at H3
          have HB3 := Lib.hid (hbw.out.trans hb3)
          clear h3 hb3 hpl
          go_wp2_with fail
          go_ret2
          exact ⟨by rw [HTL.out]; unfold TokAns; rw [if_neg HN.out]; exact ⟨_, rfl, tks_weak H3.out (Nat.le_succ _)⟩, HB3.out⟩
      · -- 9
        have hla : lastR r = r.out := by unfold lastR; rw [if_neg (by omega), if_neg (by omega), if_neg (by omega)]
        have HTL := Lib.hid (HTK.out.trans hla)
        clear hla HTK
        by_cases hN : 4096 < (r.out).length
        · have HN := Lib.hid hN
          have hNi : (4096 : Int) < ((r.out).length : Int) := by omega
          clear hN
          have c2 : wr.cell? ⟨w.heap.size, 2, none⟩ = some (.int .i64 9) := hc2.trans (by rw [h0]; rfl)
          clear h0 hc2
          obtain ⟨vo, vt, va, ps, h3⟩ := hr.out
          have hb3 := Below.refl w.heap.size wr
          obtain ⟨w3, hw3⟩ : ∃ w3, w3 = wr := ⟨_, rfl⟩
          subst hw3
          obtain ⟨vp, vc, rfl⟩ := own_form h3.out
          have hpl : ps.length = r.out.length := by rw [h3.outs, List.length_map]
          have c1 : w3.cell? ⟨w.heap.size, 1, none⟩ = some (.slice vp ps.length vc) := (h3.cell 1).trans rfl
          rw [hpl] at c1
          have H3 := Lib.hid h3.tks
          rw [hpl] at H3
          have HB3 := Lib.hid (hbw.out.trans hb3)
          clear h3 hb3 hpl
          go_wp2_with fail
          go_ret2
          exact ⟨by rw [HTL.out]; unfold TokAns; rw [if_pos HN.out]; rfl, HB3.out⟩
        · have HN := Lib.hid hN
          have hNi : ¬ ((4096 : Int) < ((r.out).length : Int)) := by omega
          clear hN
          have c2 : wr.cell? ⟨w.heap.size, 2, none⟩ = some (.int .i64 9) := hc2.trans (by rw [h0]; rfl)
          clear h0 hc2
          obtain ⟨vo, vt, va, ps, h3⟩ := hr.out
          have hb3 := Below.refl w.heap.size wr
          obtain ⟨w3, hw3⟩ : ∃ w3, w3 = wr := ⟨_, rfl⟩
          subst hw3
          obtain ⟨vp, vc, rfl⟩ := own_form h3.out
          have hpl : ps.length = r.out.length := by rw [h3.outs, List.length_map]
          have c1 : w3.cell? ⟨w.heap.size, 1, none⟩ = some (.slice vp ps.length vc) := (h3.cell 1).trans rfl
          rw [hpl] at c1
          have H3 := Lib.hid h3.tks
          rw [hpl] at H3
          have HB3 := Lib.hid (hbw.out.trans hb3)
          clear h3 hb3 hpl
          go_wp2_with fail
          go_ret2
          exact ⟨by rw [HTL.out]; unfold TokAns; rw [if_neg HN.out]; exact ⟨_, rfl, tks_weak H3.out (Nat.le_succ _)⟩, HB3.out⟩
      · -- 10
        have hla : lastR r = r.out := by unfold lastR; rw [if_neg (by omega), if_neg (by omega), if_neg (by omega)]
        have HTL := Lib.hid (HTK.out.trans hla)
        clear hla HTK
        by_cases hN : 4096 < (r.out).length
        · have HN := Lib.hid hN
          have hNi : (4096 : Int) < ((r.out).length : Int) := by omega
          clear hN
          have c2 : wr.cell? ⟨w.heap.size, 2, none⟩ = some (.int .i64 10) := hc2.trans (by rw [h0]; rfl)
          clear h0 hc2
          obtain ⟨vo, vt, va, ps, h3⟩ := hr.out
          have hb3 := Below.refl w.heap.size wr
          obtain ⟨w3, hw3⟩ : ∃ w3, w3 = wr := ⟨_, rfl⟩
          subst hw3
          obtain ⟨vp, vc, rfl⟩ := own_form h3.out
          have hpl : ps.length = r.out.length := by rw [h3.outs, List.length_map]
          have c1 : w3.cell? ⟨w.heap.size, 1, none⟩ = some (.slice vp ps.length vc) := (h3.cell 1).trans rfl
          rw [hpl] at c1
          have H3 := Lib.hid h3.tks
          rw [hpl] at H3
          have HB3 := Lib.hid (hbw.out.trans hb3)
          clear h3 hb3 hpl
          go_wp2_with fail
          go_ret2
          exact ⟨by rw [HTL.out]; unfold TokAns; rw [if_pos HN.out]; rfl, HB3.out⟩
        · have HN := Lib.hid hN
          have hNi : ¬ ((4096 : Int) < ((r.out).length : Int)) := by omega
          clear hN
          have c2 : wr.cell? ⟨w.heap.size, 2, none⟩ = some (.int .i64 10) := hc2.trans (by rw [h0]; rfl)
          clear h0 hc2
          obtain ⟨vo, vt, va, ps, h3⟩ := hr.out
          have hb3 := Below.refl w.heap.size wr
          obtain ⟨w3, hw3⟩ : ∃ w3, w3 = wr := ⟨_, rfl⟩
          subst hw3
          obtain ⟨vp, vc, rfl⟩ := own_form h3.out
          have hpl : ps.length = r.out.length := by rw [h3.outs, List.length_map]
          have c1 : w3.cell? ⟨w.heap.size, 1, none⟩ = some (.slice vp ps.length vc) := (h3.cell 1).trans rfl
          rw [hpl] at c1
          have H3 := Lib.hid h3.tks
          rw [hpl] at H3
          have HB3 := Lib.hid (hbw.out.trans hb3)
          clear h3 hb3 hpl
          go_wp2_with fail
          go_ret2
          exact ⟨by rw [HTL.out]; unfold TokAns; rw [if_neg HN.out]; exact ⟨_, rfl, tks_weak H3.out (Nat.le_succ _)⟩, HB3.out⟩
      · -- 11
        have hla : lastR r = r.out := by unfold lastR; rw [if_neg (by omega), if_neg (by omega), if_neg (by omega)]
        have HTL := Lib.hid (HTK.out.trans hla)
        clear hla HTK
        by_cases hN : 4096 < (r.out).length
        · have HN := Lib.hid hN
          have hNi : (4096 : Int) < ((r.out).length : Int) := by omega
          clear hN
          have c2 : wr.cell? ⟨w.heap.size, 2, none⟩ = some (.int .i64 11) := hc2.trans (by rw [h0]; rfl)
          clear h0 hc2
          obtain ⟨vo, vt, va, ps, h3⟩ := hr.out
          have hb3 := Below.refl w.heap.size wr
          obtain ⟨w3, hw3⟩ : ∃ w3, w3 = wr := ⟨_, rfl⟩
          subst hw3
          obtain ⟨vp, vc, rfl⟩ := own_form h3.out
          have hpl : ps.length = r.out.length := by rw [h3.outs, List.length_map]
          have c1 : w3.cell? ⟨w.heap.size, 1, none⟩ = some (.slice vp ps.length vc) := (h3.cell 1).trans rfl
          rw [hpl] at c1
          have H3 := Lib.hid h3.tks
          rw [hpl] at H3
          have HB3 := Lib.hid (hbw.out.trans hb3)
          clear h3 hb3 hpl
          go_wp2_with fail
          go_ret2
          exact ⟨by rw [HTL.out]; unfold TokAns; rw [if_pos HN.out]; rfl, HB3.out⟩
        · have HN := Lib.hid hN
          have hNi : ¬ ((4096 : Int) < ((r.out).length : Int)) := by omega
          clear hN
          have c2 : wr.cell? ⟨w.heap.size, 2, none⟩ = some (.int .i64 11) := hc2.trans (by rw [h0]; rfl)
          clear h0 hc2
          obtain ⟨vo, vt, va, ps, h3⟩ := hr.out
          have hb3 := Below.refl w.heap.size wr
          obtain ⟨w3, hw3⟩ : ∃ w3, w3 = wr := ⟨_, rfl⟩
          subst hw3
          obtain ⟨vp, vc, rfl⟩ := own_form h3.out
          have hpl : ps.length = r.out.length := by rw [h3.outs, List.length_map]
          have c1 : w3.cell? ⟨w.heap.size, 1, none⟩ = some (.slice vp ps.length vc) := (h3.cell 1).trans rfl
          rw [hpl] at c1
          have H3 := Lib.hid h3.tks
          rw [hpl] at H3
          have HB3 := Lib.hid (hbw.out.trans hb3)
          clear h3 hb3 hpl
          go_wp2_with fail
          go_ret2
          exact ⟨by rw [HTL.out]; unfold TokAns; rw [if_neg HN.out]; exact ⟨_, rfl, tks_weak H3.out (Nat.le_succ _)⟩, HB3.out⟩
      · -- 12
        have hla : lastR r = r.out := by unfold lastR; rw [if_neg (by omega), if_neg (by omega), if_neg (by omega)]
        have HTL := Lib.hid (HTK.out.trans hla)
        clear hla HTK
        by_cases hN : 4096 < (r.out).length
        · have HN := Lib.hid hN
          have hNi : (4096 : Int) < ((r.out).length : Int) := by omega
          clear hN
          have c2 : wr.cell? ⟨w.heap.size, 2, none⟩ = some (.int .i64 12) := hc2.trans (by rw [h0]; rfl)
          clear h0 hc2
          obtain ⟨vo, vt, va, ps, h3⟩ := hr.out
          have hb3 := Below.refl w.heap.size wr
          obtain ⟨w3, hw3⟩ : ∃ w3, w3 = wr := ⟨_, rfl⟩
          subst hw3
          obtain ⟨vp, vc, rfl⟩ := own_form h3.out
          have hpl : ps.length = r.out.length := by rw [h3.outs, List.length_map]
          have c1 : w3.cell? ⟨w.heap.size, 1, none⟩ = some (.slice vp ps.length vc) := (h3.cell 1).trans rfl
          rw [hpl] at c1
          have H3 := Lib.hid h3.tks
          rw [hpl] at H3
          have HB3 := Lib.hid (hbw.out.trans hb3)
          clear h3 hb3 hpl
          go_wp2_with fail
          go_ret2
          exact ⟨by rw [HTL.out]; unfold TokAns; rw [if_pos HN.out]; rfl, HB3.out⟩
        · have HN := Lib.hid hN
          have hNi : ¬ ((4096 : Int) < ((r.out).length : Int)) := by omega
          clear hN
          have c2 : wr.cell? ⟨w.heap.size, 2, none⟩ = some (.int .i64 12) := hc2.trans (by rw [h0]; rfl)
          clear h0 hc2
          obtain ⟨vo, vt, va, ps, h3⟩ := hr.out
          have hb3 := Below.refl w.heap.size wr
          obtain ⟨w3, hw3⟩ : ∃ w3, w3 = wr := ⟨_, rfl⟩
          subst hw3
          obtain ⟨vp, vc, rfl⟩ := own_form h3.out
          have hpl : ps.length = r.out.length := by rw [h3.outs, List.length_map]
          have c1 : w3.cell? ⟨w.heap.size, 1, none⟩ = some (.slice vp ps.length vc) := (h3.cell 1).trans rfl
          rw [hpl] at c1
          have H3 := Lib.hid h3.tks
          rw [hpl] at H3
          have HB3 := Lib.hid (hbw.out.trans hb3)
          clear h3 hb3 hpl
          go_wp2_with fail
          go_ret2
          exact ⟨by rw [HTL.out]; unfold TokAns; rw [if_neg HN.out]; exact ⟨_, rfl, tks_weak H3.out (Nat.le_succ _)⟩, HB3.out⟩
      · -- 13
        have hla : lastR r = r.out := by unfold lastR; rw [if_neg (by omega), if_neg (by omega), if_neg (by omega)]
        have HTL := Lib.hid (HTK.out.trans hla)
        clear hla HTK
        by_cases hN : 4096 < (r.out).length
        · have HN := Lib.hid hN
          have hNi : (4096 : Int) < ((r.out).length : Int) := by omega
          clear hN
          have c2 : wr.cell? ⟨w.heap.size, 2, none⟩ = some (.int .i64 13) := hc2.trans (by rw [h0]; rfl)
          clear h0 hc2
          obtain ⟨vo, vt, va, ps, h3⟩ := hr.out
          have hb3 := Below.refl w.heap.size wr
          obtain ⟨w3, hw3⟩ : ∃ w3, w3 = wr := ⟨_, rfl⟩
          subst hw3
          obtain ⟨vp, vc, rfl⟩ := own_form h3.out
          have hpl : ps.length = r.out.length := by rw [h3.outs, List.length_map]
          have c1 : w3.cell? ⟨w.heap.size, 1, none⟩ = some (.slice vp ps.length vc) := (h3.cell 1).trans rfl
          rw [hpl] at c1
          have H3 := Lib.hid h3.tks
          rw [hpl] at H3
          have HB3 := Lib.hid (hbw.out.trans hb3)
          clear h3 hb3 hpl
          go_wp2_with fail
          go_ret2
          exact ⟨by rw [HTL.out]; unfold TokAns; rw [if_pos HN.out]; rfl, HB3.out⟩
        · have HN := Lib.hid hN
          have hNi : ¬ ((4096 : Int) < ((r.out).length : Int)) := by omega
          clear hN
          have c2 : wr.cell? ⟨w.heap.size, 2, none⟩ = some (.int .i64 13) := hc2.trans (by rw [h0]; rfl)
          clear h0 hc2
          obtain ⟨vo, vt, va, ps, h3⟩ := hr.out
          have hb3 := Below.refl w.heap.size wr
          obtain ⟨w3, hw3⟩ : ∃ w3, w3 = wr := ⟨_, rfl⟩
          subst hw3
          obtain ⟨vp, vc, rfl⟩ := own_form h3.out
          have hpl : ps.length = r.out.length := by rw [h3.outs, List.length_map]
          have c1 : w3.cell? ⟨w.heap.size, 1, none⟩ = some (.slice vp ps.length vc) := (h3.cell 1).trans rfl
          rw [hpl] at c1
          have H3 := Lib.hid h3.tks
          rw [hpl] at H3
          have HB3 := Lib.hid (hbw.out.trans hb3)
          clear h3 hb3 hpl
          go_wp2_with fail
          go_ret2
          exact ⟨by rw [HTL.out]; unfold TokAns; rw [if_neg HN.out]; exact ⟨_, rfl, tks_weak H3.out (Nat.le_succ _)⟩, HB3.out⟩
end Go.Proofs.YtklpbkjplecdpaaGreat.Tok
