/-
  The law TokensOwn, out of the contracts of the calls that it makes.
-/
import Derived.Test.YtidfcajhmldieaaGreatTkcOwnPure
namespace Go.Proofs.YtidfcajhmldieaaGreat.Tkc
open Go.RowKit Go.Proofs.YtidfcajhmldieaaGreat.Oct Go.Proofs.YtidfcajhmldieaaGreat.Utf Go.Proofs.YtidfcajhmldieaaGreat.Crf Go.Proofs.YtidfcajhmldieaaGreat.Tab Go.Proofs.YtidfcajhmldieaaGreat.Tok

theorem cell_in {w : World} {g i : Nat} {cs : Array Value} {t : TypeId} {v : Value} (h : w.heap[g]? = some (.cells cs t (0, 0))) (hv : cs[i]? = some v) : w.cell? ⟨g, i, none⟩ = some v := (cell_of_row w g i cs t (0, 0) h).trans hv
set_option maxHeartbeats 4000000 in
set_option maxRecDepth 100000 in
theorem law_own (W : World) (s : ByteArray) (hM : MaxAt W) :
    Calls Tryz.prog 3 #[.string s] W fun e W' => e = .returned (.bool true) ∧ Below W.heap.size W W' := by
  have ha := alive_c W hM
  have HT : Hid (∀ w, Below W.heap.size W w → Calls Tryz.prog 5 #[.string s] w fun e w' => (∃ v, e = .returned (.tuple #[v, .int .i64 (erO s.data.toList)]) ∧ ToksM w.heap.size w' v (tsO s.data.toList)) ∧ Below w.heap.size w w') :=
    fun w h => (toks_c s.data.toList w (hM.kept h)).mono fun e w' ⟨h1, h2⟩ => ⟨to_lists h1, h2⟩
  have HR : Hid (∀ w, Calls Tryz.prog 6 #[.string s] w fun e w' => (∃ v, e = .returned (.tuple #[v, .int .i64 (erO s.data.toList)]) ∧ ToksM w.heap.size w' v (tsO s.data.toList)) ∧ Below w.heap.size w w') :=
    fun w => (rtokens_c s.data.toList w).mono fun e w' ⟨h1, h2⟩ => ⟨page_lists h1, h2⟩
  have hn4 := tsO_len s.data.toList
  generalize erO s.data.toList = er at HT HR
  generalize tsO s.data.toList = ts at HT HR hn4
  clear hM
  go_enter Tryz.func3, Tryz.ntmps3
  go_wp2_with fail
  refine ha.mono ?_
  clear ha
  rintro e1 w1 ⟨rfl, hb1⟩
  have B1 := Lib.hid hb1
  have h1 := HT.out w1 B1.out
  clear hb1
  go_wp2_with fail
  refine h1.mono ?_
  clear h1
  rintro e2 w2 ⟨⟨va, rfl, hva⟩, hb2⟩
  obtain ⟨p, cap, rfl, hL⟩ := lists_of hva
  have B2 := Lib.hid (B1.out.trans (hb2.mono B1.out.size))
  have HLO := Lib.hid (And.intro B1.out.size hb2.size)
  have h2 := HT.out w2 B2.out
  clear hb2 hva HT
  go_wp2_with fail
  refine h2.mono ?_
  clear h2
  rintro e3 w3 ⟨⟨vb, rfl, hvb⟩, hb3⟩
  have HL := Lib.hid (hL.keep hb3)
  have B3 := Lib.hid (B2.out.trans (hb3.mono B2.out.size))
  have HBM := Lib.hid hvb
  obtain ⟨pb, cb, rfl, _⟩ := lists_of hvb
  clear hb3 hvb hL
  obtain ⟨lo, hlo⟩ : ∃ lo, lo = w1.heap.size := ⟨_, rfl⟩
  obtain ⟨hi, hhi⟩ : ∃ hi, hi = w2.heap.size := ⟨_, rfl⟩
  rw [← hlo, ← hhi] at HL HLO
  rw [← hhi] at HBM
  have HTS := Lib.hid (And.intro hn4 rfl : ts.length ≤ 4096 ∧ ts = ts)
  obtain ⟨n, hn⟩ : ∃ n, n = ts.length := ⟨_, rfl⟩
  have HN := Lib.hid hn
  rw [← hn] at HL hn4 ⊢
  clear hn hlo hhi
  have hni : (n : Int) ≤ 4096 := by omega
  go_wp2_with fail
  go_loopw [7] (fun i wr => ∃ k : Nat, k ≤ n ∧ i = .int .i64 k ∧ Hid (Inv lo hi p w3 wr k)) (fun i _ => n - (intOf i).toNat)
  case atStart => exact ⟨0, Nat.zero_le _, rfl, Inv.refl _ _ _ _⟩
  case round =>
    obtain ⟨k, hk, rfl, hinv⟩ := hrel
    by_cases hlt : k < n
    · obtain ⟨g, cs, hpg, hg1, hg2, hg, hsz, hrows⟩ := HL.out (by omega)
      obtain ⟨q, m, c, hc3, hm, hq⟩ := hrows k hlt
      have HQ := Lib.hid hq
      have HG := Lib.hid (And.intro hg (And.intro hg1 (And.intro hg2 (And.intro (by omega : k * 5 + 5 ≤ cs.size) hc3))))
      have HP := Lib.hid hpg
      clear hrows hq hg hg1 hg2 hsz hc3
      subst hpg
      obtain ⟨V, hV⟩ : ∃ V, V = wr := ⟨_, rfl⟩
      rw [← hV] at hinv ⊢
      clear hV
      clear wr
      obtain ⟨csv, gv, _, gs⟩ := hinv.out.rows g cs rfl HG.out.1
      have C3 : V.cell? ⟨g, k * 5 + 3, none⟩ = some (.slice q m c) := cell_in gv ((gs k (Nat.le_refl _)).trans HG.out.2.2.2.2)
      have i0 : (0 : Int) ≤ (k : Int) := by omega
      have i1 : (k : Int) < (n : Int) := by omega
      have hmi : (m : Int) ≤ 9223372036854775807 := by omega
      clear gv gs C3
      go_wp2_with fail
      go_loopw [8] (fun i wr => ∃ t : Nat, t ≤ m ∧ i = .int .i64 t ∧ Hid (Inv lo hi (some ⟨g, 0, none⟩) w3 wr k)) (fun i _ => m - (intOf i).toNat)
      case atStart => exact ⟨0, Nat.zero_le _, rfl, hinv⟩
      case round =>
        clear hinv
        obtain ⟨t, ht, rfl, hin⟩ := hrel
        obtain ⟨csr, gr, hzr, gs⟩ := hin.out.rows g cs rfl HG.out.1
        have C3 : wr.cell? ⟨g, k * 5 + 3, none⟩ = some (.slice q m c) := cell_in gr ((gs k (Nat.le_refl _)).trans HG.out.2.2.2.2)
        have j0 : (0 : Int) ≤ (t : Int) := by omega
        by_cases htm : t < m
        · obtain ⟨ga, csa, rfl, ha1, ha2, hga, hsa⟩ := HQ.out (by omega)
          obtain ⟨cs', hga', hsa'⟩ := hin.out.sp.row ga csa _ hga
          have a0 : wr.cell? ⟨ga, t * 2, none⟩ = some (cs'[t * 2]'(by omega)) := cell_in hga' (Array.getElem?_eq_getElem (by omega))
          have a1 : wr.cell? ⟨ga, t * 2 + 1, none⟩ = some (cs'[t * 2 + 1]'(by omega)) := cell_in hga' (Array.getElem?_eq_getElem (by omega))
          have z0 := frozen_of_row wr ga (t * 2) _ _ hga'
          have z1 := frozen_of_row wr ga (t * 2 + 1) _ _ hga'
          have j1 : (t : Int) < (m : Int) := by omega
          have HN2 : Hid (Inv lo hi (some ⟨g, 0, none⟩) w3 ((wr.setCell ⟨ga, t * 2, none⟩ (.string ⟨#[115, 112, 111, 105, 108, 116]⟩)).setCell ⟨ga, t * 2 + 1, none⟩ (.string ⟨#[]⟩)) k) := (hin.out.att hga ha1 ha2 _ _).att hga ha1 ha2 _ _
          generalize cs'[t * 2]'(by omega) = x0 at a0
          generalize cs'[t * 2 + 1]'(by omega) = x1 at a1
          clear hga hga' hsa hsa' gr hzr gs ha1 ha2
          go_wp2_with fail
          go_roundw
          case rel => exact ⟨t + 1, by omega, by go_num, HN2⟩
          case measure => simp [intOf]; omega
        · have j1 : ¬ ((t : Int) < (m : Int)) := by omega
          have hz5 : k * 5 + 5 ≤ csr.size := by rw [hzr]; exact HG.out.2.2.2.1
          have a0 : wr.cell? ⟨g, k * 5, none⟩ = some (csr[k * 5]'(by omega)) := cell_in gr (Array.getElem?_eq_getElem (by omega))
          have a1 : wr.cell? ⟨g, k * 5 + 1, none⟩ = some (csr[k * 5 + 1]'(by omega)) := cell_in gr (Array.getElem?_eq_getElem (by omega))
          have a2 : wr.cell? ⟨g, k * 5 + 2, none⟩ = some (csr[k * 5 + 2]'(by omega)) := cell_in gr (Array.getElem?_eq_getElem (by omega))
          have a4 : wr.cell? ⟨g, k * 5 + 4, none⟩ = some (csr[k * 5 + 4]'(by omega)) := cell_in gr (Array.getElem?_eq_getElem (by omega))
          have z0 := frozen_of_row wr g (k * 5) _ _ gr
          have z1 := frozen_of_row wr g (k * 5 + 1) _ _ gr
          have z2 := frozen_of_row wr g (k * 5 + 2) _ _ gr
          have z3 := frozen_of_row wr g (k * 5 + 3) _ _ gr
          have z4 := frozen_of_row wr g (k * 5 + 4) _ _ gr
          have HN2 : Hid (Inv lo hi (some ⟨g, 0, none⟩) w3 (((((wr.setCell ⟨g, k * 5, none⟩ (.int .i64 77)).setCell ⟨g, k * 5 + 1, none⟩ (.string ⟨#[]⟩)).setCell ⟨g, k * 5 + 2, none⟩ (.string ⟨#[]⟩)).setCell ⟨g, k * 5 + 3, none⟩ (.slice none 0 0)).setCell ⟨g, k * 5 + 4, none⟩ (.bool false)) (k + 1)) :=
            ((((hin.out.next.tok rfl HG.out.2.1 HG.out.2.2.1 _ (by omega) _).tok rfl HG.out.2.1 HG.out.2.2.1 _ (by omega) _).tok rfl HG.out.2.1 HG.out.2.2.1 _ (by omega) _).tok rfl HG.out.2.1 HG.out.2.2.1 _ (by omega) _).tok rfl HG.out.2.1 HG.out.2.2.1 _ (by omega) _
          generalize csr[k * 5]'(by omega) = x0 at a0
          generalize csr[k * 5 + 1]'(by omega) = x1 at a1
          generalize csr[k * 5 + 2]'(by omega) = x2 at a2
          generalize csr[k * 5 + 4]'(by omega) = x4 at a4
          clear gr hzr gs hz5
          go_wp2_with fail
          go_roundw
          case rel => exact ⟨k + 1, by omega, by go_num, HN2⟩
          case measure => simp [intOf]; omega
    · have i1 : ¬ ((k : Int) < (n : Int)) := by omega
      have HBr := Lib.hid (toks_same HBM.out (fun b hb => hinv.out.sp.block b (.inr hb)))
      have B4 := Lib.hid (B3.out.trans (hinv.out.sp.below.mono (Nat.le_trans HLO.out.1 (Nat.le_refl _))))
      have hr := HR.out wr
      clear HBM hinv
      go_wp2_with fail
      refine hr.mono ?_
      clear hr
      rintro e5 w5 ⟨⟨vc, rfl, hvc⟩, hb5⟩
      have hsa := rsameAll_c ts ts (.slice pb ts.length cb) vc w5 (tks_in (toks_keep HBr.out hb5)) (tks_in hvc) (Nat.le_trans HTS.out.1 (by decide)) (toks_max hvc)
      rw [decide_eq_true rfl] at hsa
      obtain ⟨pc, cc, rfl, _⟩ := lists_of hvc
      have B5 := Lib.hid (B4.out.trans (hb5.mono B4.out.size))
      clear hvc hb5
      rw [← HN.out] at hsa ⊢
      go_wp2_with fail
      refine hsa.mono ?_
      clear hsa
      rintro e6 w6 ⟨rfl, hb6⟩
      have B6 := Lib.hid (B5.out.trans (hb6.mono B5.out.size))
      clear hb6
      go_wp2_with fail
      go_ret
      exact ⟨rfl, B6.out⟩
end Go.Proofs.YtidfcajhmldieaaGreat.Tkc
