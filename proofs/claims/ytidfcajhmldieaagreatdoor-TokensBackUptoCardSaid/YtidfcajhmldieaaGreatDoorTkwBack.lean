/-
  The law TokensBack, out of the contracts of the calls that it makes.
-/
import Derived.Test.YtidfcajhmldieaaGreatDoorTkwWrote
namespace Go.Proofs.YtidfcajhmldieaaGreatDoor.Tkw
open Go.RowKit Go.Proofs.YtidfcajhmldieaaGreatDoor.Oct Go.Proofs.YtidfcajhmldieaaGreatDoor.Utf Go.Proofs.YtidfcajhmldieaaGreatDoor.Tok
open Go.Proofs.YtidfcajhmldieaaGreatDoor.Tkc (TokTo ToksM toks_c alive_c num_c flat_cell)

theorem own_at {w : World} {B size n : Nat} {e : TypeId} {v : Value} {xs : List Value} (h : w.ownsRow B e size v n xs) : ∃ p cap, v = .slice p n cap ∧ (0 < n → ∃ g, p = some ⟨g, 0, none⟩ ∧ ∀ k u, xs[k]? = some u → w.cell? ⟨g, 0 + k, none⟩ = some u) := by
  rcases h.2 with ⟨rfl, h0⟩ | ⟨g, cap, cur, rfl, hb, hg, rest⟩
  · exact ⟨none, 0, by rw [h0], fun hn => absurd hn (by omega)⟩
  · refine ⟨_, cap, rfl, fun _ => ⟨g, rfl, fun k u hk => ?_⟩⟩
    have hlt : k < xs.length := (List.getElem?_eq_some_iff.1 hk).1
    rw [Nat.zero_add, h.cellAt k (by rw [← h.1]; exact hlt)]
    exact hk
theorem at_in {B : Nat} {w : World} {v : Value} {al : List At} (h : AtR B w v al) : AtIn w v al := by
  obtain ⟨p, cap, hv, hp⟩ := own_at h
  refine ⟨p, cap, hv, fun hl => ?_⟩
  obtain ⟨g, hg, hc⟩ := hp hl
  refine ⟨g, 0, hg, fun i hi => ?_⟩
  have e := fun j (hj : j < 2) => flat_cell atCs 2 (fun _ => rfl) al i hi j hj
  exact ⟨hc _ _ (e 0 (by decide)), hc _ _ (e 1 (by decide))⟩
theorem toks_in {B : Nat} {w : World} {v : Value} {ts : List Tk} (h : ToksM B w v ts) : TkIn w v ts := by
  obtain ⟨ps, rfl, ho, ha⟩ := h
  obtain ⟨p, cap, hv, hp⟩ := own_at ho
  refine ⟨p, cap, by rw [List.length_map]; exact hv, fun hl => ?_⟩
  rw [List.length_map] at hl
  obtain ⟨g, hg, hc⟩ := hp hl
  refine ⟨g, 0, hg, fun i hi => ?_⟩
  rw [List.length_map] at hi
  have e := fun j (hj : j < 5) => flat_cell tkCs 5 (fun _ => rfl) ps i hi j hj
  have em : (ps.map Prod.fst)[i]'(by rw [List.length_map]; exact hi) = ps[i].1 := List.getElem_map _
  rw [em]
  exact ⟨ps[i].2, at_in (ha _ (List.getElem_mem hi)), hc _ _ (e 0 (by decide)), hc _ _ (e 1 (by decide)), hc _ _ (e 2 (by decide)), hc _ _ (e 3 (by decide)), hc _ _ (e 4 (by decide))⟩
set_option maxHeartbeats 2000000 in
set_option maxRecDepth 100000 in
theorem law_back (W : World) (ts : List Tk) (p : Option Addr) (cap : Nat) (h : Lies ts p cap W) (hT : Tabs W) (hM : Tkc.MaxAt W) :
    Calls Tryz.prog 3 #[.slice p ts.length cap] W fun e W' => e = .returned (.bool true) ∧ Below W.heap.size W W' := by
  have ha := alive_c W hM
  have hn := num_c
  have HW := Lib.hid (fun w (hb : Below W.heap.size W w) => wrote_c ts p cap w (h.up hb) (hT.kept hb) (hM.kept hb))
  have HTK := Lib.hid (fun w (hb : Below W.heap.size W w) => toks_c (ts.flatMap writeT) w (hM.kept hb))
  have HL := Lib.hid h
  have hnl : ts.length ≤ 2147483648 := h.n
  have HS : Hid (∀ (vb : Value) (w : World), Below W.heap.size W w → TkIn w vb ts → Calls Tryz.prog 8 #[.slice p ts.length cap, vb] w fun e w' => e = .returned (.bool true) ∧ Below w.heap.size w w') := fun vb w hb hm => by
    have hs := rsameAll_c ts ts (.slice p ts.length cap) vb w (h.lies w hb) hm (by omega) (fun t ht => by obtain ⟨k, hk, rfl⟩ := List.getElem_of_mem ht; have := (h.fits k hk).al; omega)
    have e : decide (ts = ts) = true := decide_eq_true rfl
    rw [e] at hs
    exact hs
  obtain ⟨n, hnn⟩ : ∃ n, n = ts.length := ⟨_, rfl⟩
  have HN := Lib.hid hnn
  rw [← hnn] at HW HS hnl ⊢
  clear hT hM h hnn
  go_enter Tryz.func3, Tryz.ntmps3
  go_wp2_with fail
  refine ha.mono ?_
  clear ha
  rintro e1 w1 ⟨rfl, hb1⟩
  have B1 := Lib.hid hb1
  have hw := HW.out w1 hb1
  clear hb1 HW
  go_wp2_with fail
  refine hw.mono ?_
  clear hw
  rintro e2 w2 ⟨⟨v, rfl, hv⟩ | ⟨ne, rfl, hne⟩, hb2⟩
  · have B2 := Lib.hid (B1.out.trans (hb2.mono B1.out.size))
    obtain ⟨rfl, hck, hml, hlen⟩ := hv
    have htk := HTK.out w2 B2.out
    have HTW : Hid (tokL (ts.flatMap writeT) = ts) := tok_write ts (fun t ht => by obtain ⟨k, hk, rfl⟩ := List.getElem_of_mem ht; exact hck k hk) hml
    have HLE := Lib.hid hlen
    clear hck hml hlen hb2 B1 HTK
    generalize S (ts.flatMap writeT) = T at htk ⊢
    go_wp2_with (first
      | (go_at_call 6; refine (hn _ _).mono ?_; rintro e3 w3 ⟨rfl, rfl⟩)
      | fail)
    refine htk.mono ?_
    clear htk
    rintro e4 w4 ⟨ht, hb4⟩
    have B4 := Lib.hid (B2.out.trans (hb4.mono B2.out.size))
    unfold TokTo at ht
    rw [if_neg (by have := HLE.out; omega), HTW.out] at ht
    clear hb4 B2
    by_cases hbig : 4096 < ts.length
    · rw [if_pos hbig] at ht
      subst ht
      have hd : decide ((4096 : Int) < (n : Int)) = true := decide_eq_true (by have := HN.out; omega)
      clear hbig
      go_wp2_with (go_at_call 6; refine (hn _ _).mono ?_; rintro e3 w3 ⟨rfl, rfl⟩)
      go_ret
      exact ⟨rfl, B4.out⟩
    · rw [if_neg hbig] at ht
      obtain ⟨vb, rfl, hvb⟩ := ht
      have hm := toks_in hvb
      have hsa := HS.out vb w4 B4.out hm
      obtain ⟨pb, cb, rfl, _⟩ := hm
      clear hbig hvb
      go_wp2_with (first
        | (go_at_call 6; refine (hn _ _).mono ?_; rintro e3 w3 ⟨rfl, rfl⟩)
        | (go_at_call 8; refine hsa.mono ?_; clear hsa; rintro e5 w5 ⟨rfl, hb5⟩; have B5 := Lib.hid (B4.out.trans (hb5.mono B4.out.size)); clear hb5))
      go_ret
      exact ⟨rfl, B5.out⟩
  · have B2 := Lib.hid (B1.out.trans (hb2.mono B1.out.size))
    have hq : (ne == 0) = false := by rw [beq_eq_false_iff_ne]; exact hne
    clear hb2
    go_wp2_with (go_at_call 6; refine (hn _ _).mono ?_; rintro e3 w3 ⟨rfl, rfl⟩)
    go_ret
    exact ⟨rfl, B2.out⟩
end Go.Proofs.YtidfcajhmldieaaGreatDoor.Tkw
