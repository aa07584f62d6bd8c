/-
  Part 30: TokShp, TokText.
-/
import Derived.Test.YtklpbkjplecdpaaGreatSxBaseP29
import Derived.Test.YtklpbkjplecdpaaGreatSxBaseP3
/-
  Contract of the page's Shape: a list of tokens without texts and values, made anew.
-/
namespace Go.Proofs.YtklpbkjplecdpaaGreat.Tok
open Go.RowKit Oct Utf Crf Tab Mem

def ShR (N : Nat) (w : World) (vo : Value) (us : List Tk) : Prop := ∃ ps : List (Tk × Value), us = ps.map Prod.fst ∧ TkR N w vo ps ∧ ∀ p ∈ ps, AtR N w p.2 p.1.a ∧ Sep p.2 vo
structure BxW (B : Nat) (k : Int) (N X : ByteArray) (c : Bool) (va : Value) (xs : List At) (wr W : World) : Prop where
  box : W.heap[B]? = some (.cells #[.int .i64 k, .string N, .string X, va, .bool c] 52 (0, 0))
  att : AtR (B + 1) W va xs
  bel : Below B wr W
section
variable {B : Nat} {k : Int} {N X : ByteArray} {c : Bool} {va : Value} {xs : List At} {wr W : World}
theorem BxW.lt (h : BxW B k N X c va xs wr W) : B < W.heap.size := (Array.getElem?_eq_some_iff.1 h.box).1
theorem BxW.cell (h : BxW B k N X c va xs wr W) (i : Nat) : W.cell? ⟨B, i, none⟩ = (#[.int .i64 k, .string N, .string X, va, .bool c] : Array Value)[i]? := cell_of_row W B i _ _ _ h.box
theorem BxW.froz (h : BxW B k N X c va xs wr W) (i : Nat) : W.frozen? ⟨B, i, none⟩ = false := frozen_of_row W B i _ _ h.box
theorem bx_start (wr : World) (k : Int) (N X : ByteArray) (c : Bool) : BxW wr.heap.size k N X c (.slice none 0 0) [] wr (wr.alloc (.cells #[.int .i64 k, .string N, .string X, .slice none 0 0, .bool c] 52)).drew where
  box := heap_alloc_new wr _
  att := World.ownsRow_nil _ _ _ _
  bel := ((Below.refl wr.heap.size wr).alloc (Nat.le_refl _) _).drew
theorem BxW.push {w3 : World} {v' : Value} (h : BxW B k N X c va xs wr W) (a : At) (o : Obj) (hown : w3.ownsRow (B + 1) 54 2 v' (xs.length + 1) (xs.flatMap atCs ++ atCs a)) (hg : (W.alloc o).grownBy w3 va.ownBlock) :
    BxW B k N X c v' (xs ++ [a]) wr (w3.setCell ⟨B, 3, none⟩ v') ∧ w3.cell? ⟨B, 3, none⟩ = some va ∧ w3.frozen? ⟨B, 3, none⟩ = false := by
  have hal : Below W.heap.size W (W.alloc o) := (Below.refl _ W).alloc (Nat.le_refl _) _
  have hlt := h.lt
  have hne : some B ≠ va.ownBlock := fun e => by have := own_ge h.att B e.symm; omega
  have hb : w3.heap[B]? = some (.cells #[.int .i64 k, .string N, .string X, va, .bool c] 52 (0, 0)) := by
    rw [hg.block B (by simp; omega) hne, hal.block B hlt]
    exact h.box
  refine ⟨⟨?_, ?_, ?_⟩, (cell_of_row w3 B 3 _ _ _ hb).trans rfl, frozen_of_row w3 B 3 _ _ hb⟩
  · exact heap_setCell_same w3 B 3 _ _ v' hb
  · show World.ownsRow _ _ _ _ _ _ _
    rw [List.length_append, List.length_singleton, List.flatMap_append]
    refine own_set ?_
    simpa using hown
  · have hB : B ≤ W.heap.size := Nat.le_of_lt hlt
    refine below_set _ (Below.grown (h.bel.trans (hal.mono hB)) hg (by simp; omega) ?_)
    intro q hq
    have := own_ge h.att q hq
    omega
end
theorem own_weak' {w : World} {B b n size : Nat} {e : TypeId} {v : Value} {xs : List Value} (h : w.ownsRow B e size v n xs) (hb : b ≤ B) : w.ownsRow b e size v n xs := by
  refine ⟨h.1, ?_⟩
  rcases h.2 with hn | ⟨g, cap, cur, hv, hbg, rest⟩
  · exact .inl hn
  · exact .inr ⟨g, cap, cur, hv, Nat.le_trans hb hbg, rest⟩
theorem sh_push {M : Nat} {ps : List (Tk × Value)} {vo v' va : Value} {wr W w3 : World} {k : Int} {n x : List UInt8} {c : Bool} {xs : List At} (hM : M ≤ wr.heap.size) (ho : TkR M wr vo ps) (ha : ∀ p ∈ ps, AtR M wr p.2 p.1.a ∧ Sep p.2 vo)
    (hx : BxW wr.heap.size k (S n) (S x) c va xs wr W) (o : Obj) (hown : w3.ownsRow M 52 5 v' (ps.length + 1) (ps.flatMap tkCs ++ tkCs (⟨k, n, x, xs, c⟩, va))) (hg : (W.alloc o).grownBy w3 vo.ownBlock)
    (hat0 : v'.ownBlock = vo.ownBlock ∨ v'.ownBlock = some (W.heap.size + 1)) :
    ShR M w3 v' (ps.map Prod.fst ++ [⟨k, n, x, xs, c⟩]) ∧ Below M wr w3 := by
  have hat : v'.ownBlock = vo.ownBlock ∨ v'.ownBlock = some (W.alloc o).heap.size := by simpa using hat0
  have hal : Below W.heap.size W (W.alloc o) := (Below.refl _ W).alloc (Nat.le_refl _) _
  have hlt := hx.lt
  have hwa : Below wr.heap.size wr (W.alloc o) := hx.bel.trans (hal.mono (Nat.le_of_lt hlt))
  have hsv : Sep va vo := fun q h1 h2 => by
    have g1 := own_ge hx.att q h1
    have g2 := own_lt ho q h2
    omega
  have hax : AtR M (W.alloc o) va xs := own_weak' (own_same hx.att fun q _ hq => hal.block q (own_lt hx.att q hq)) (by omega)
  have hap : ∀ p ∈ ps, AtR M (W.alloc o) p.2 p.1.a := fun p hp => own_same (ha p hp).1 fun q _ hq => hwa.block q (own_lt (ha p hp).1 q hq)
  refine ⟨⟨ps ++ [(⟨k, n, x, xs, c⟩, va)], by rw [List.map_append]; rfl, ?_, ?_⟩, ?_⟩
  · show World.ownsRow _ _ _ _ _ _ _
    rw [List.length_append, List.length_singleton, List.flatMap_append]
    simpa using hown
  · intro q hq
    rcases List.mem_append.1 hq with hq | hq
    · exact ⟨own_grown (hap q hq) hg (ha q hq).2, (ha q hq).2.moved (own_lt (hap q hq)) hat⟩
    · rw [List.mem_singleton] at hq
      subst hq
      exact ⟨own_grown hax hg hsv, hsv.moved (own_lt hax) hat⟩
  · refine Below.grown (hwa.mono hM) hg (by simp; omega) ?_
    intro q hq
    exact own_ge ho q hq

set_option maxHeartbeats 8000000 in
set_option maxRecDepth 100000 in
theorem rshape_c (ts : List Tk) (v : Value) (w : World) (hin : TkIn w v ts) (hlen : ts.length ≤ 134217728) (hla : ∀ t ∈ ts, t.a.length ≤ 134217728) :
    Calls Tryz.prog 14 #[v] w fun e w' => ∃ v', e = .returned v' ∧ ShR w.heap.size w' v' (shL ts) ∧ Below w.heap.size w w' := by
  obtain ⟨pv, cv, rfl, hin⟩ := hin
  obtain ⟨n, hn⟩ : ∃ n, ts.length = n := ⟨_, rfl⟩
  have HN := Lib.hid hn
  rw [hn]
  have hni : (n : Int) ≤ 134217728 := by omega
  have HIN := Lib.hid hin
  have HLA := Lib.hid hla
  obtain ⟨ia, hia, hza0, hza1, hza2⟩ := info_parts info_att
  obtain ⟨it, hit, hzt0, hzt1, hzt2⟩ := info_parts info_tok
  clear hin hla hlen hn
  go_enter Tryz.func14, Tryz.ntmps14
  go_wp2_with fail
  go_loopw [3, 4] (fun vo i wr => ∃ j : Nat, j ≤ n ∧ i = .int .i64 j ∧ Hid (ShR w.heap.size wr vo (shL (ts.take j))) ∧ Hid (Below w.heap.size w wr)) (fun _ i _ => n - (intOf i).toNat)
  case atStart => exact ⟨0, Nat.zero_le _, rfl, ⟨[], rfl, World.ownsRow_nil _ _ _ _, fun p h => absurd h (by simp)⟩, Below.refl _ _⟩
  case round =>
    obtain ⟨j, hj, rfl, hsh, hbw⟩ := hrel
    generalize wr = V at hsh hbw ⊢
    by_cases hlt : j < n
    · obtain ⟨b, o, rfl, hc⟩ := HIN.out (by have := HN.out; omega)
      have hjt : j < ts.length := by have := HN.out; omega
      obtain ⟨va, hva, q0, q1, q2, q3, q4⟩ := hc j hjt
      have y0 := some_keep q0 hbw.out
      have y1 := some_keep q1 hbw.out
      have y2 := some_keep q2 hbw.out
      have y3 := some_keep q3 hbw.out
      have y4 := some_keep q4 hbw.out
      have i0 : (0 : Int) ≤ (j : Int) := by omega
      have i1 : (j : Int) < (n : Int) := by omega
      have HT : Hid (ts.take (j + 1) = ts.take j ++ [ts[j]]) := List.take_succ_eq_append_getElem hjt
      have hlen := HLA.out _ (List.getElem_mem hjt)
      clear q0 q1 q2 q3 q4 hc
      generalize ts[j] = t at *
      obtain ⟨k, tn, tx, al, c⟩ := t
      dsimp only at *
      by_cases h3 : k = 3
      · have HR : Hid (shL (ts.take (j + 1)) = shL (ts.take j)) := by
          show _ = _
          rw [HT.out, shL_append, h3]
          exact List.append_nil _
        subst h3
        clear HT
        go_wp2_with fail
        go_roundw
        case rel => exact ⟨j + 1, by omega, by go_num, by rw [HR.out]; exact hsh, hbw⟩
        case measure => simp [intOf]; omega
      · have h3b : (k == 3) = false := by rw [beq_eq_false_iff_ne]; exact h3
        have HR : Hid (shL (ts.take (j + 1)) = shL (ts.take j) ++ [⟨k, tn, tx, shA al, c⟩]) := by
          show _ = _
          rw [HT.out, shL_append, shL_one h3]
          rfl
        have hal := (Below.refl V.heap.size V).alloc (Nat.le_refl _) (.cells #[.int .i64 0, .string ⟨#[]⟩, .string ⟨#[]⟩, .slice none 0 0, .bool false] 52)
        have p0 := some_keep y0 hal
        have p1 := some_keep y1 hal
        have p2 := some_keep y2 hal
        have p3 := some_keep y3 hal
        have p4 := some_keep y4 hal
        have hbl : b < V.heap.size := World.block_lt_of_cell? V _ y0
        obtain ⟨pa, ca, rfl, hai⟩ := hva
        obtain ⟨M, hM⟩ : ∃ M, al.length = M := ⟨_, rfl⟩
        rw [hM] at y3 p3
        have HM := Lib.hid hM
        have hMi : (M : Int) ≤ 134217728 := by omega
        have HAI := Lib.hid hai
        have HY := Lib.hid y3
        clear hal hai hM hlen h3 HT
        go_wp2_with fail
        go_region
        have HB0 := Lib.hid (bx_start V k (S tn) (S tx) c)
        generalize (V.alloc (.cells #[.int .i64 k, .string (S tn), .string (S tx), .slice none 0 0, .bool c] 52)).drew = W0 at HB0 ⊢
        clear p0 p1 p2 p3 p4 y0 y1 y2 y4
        go_wp2_with fail
        go_loopw [6] (fun i W => ∃ m : Nat, ∃ va', m ≤ M ∧ i = .int .i64 m ∧ Hid (BxW V.heap.size k (S tn) (S tx) c va' (shA (al.take m)) V W)) (fun i _ => M - (intOf i).toNat)
        case atStart => exact ⟨0, _, Nat.zero_le _, rfl, HB0⟩
        case round =>
          obtain ⟨m, va', hm, rfl, hbx⟩ := hrel
          have hBW := hbx.out.lt
          have d3 := some_keep HY.out hbx.out.bel
          have hbl2 : b < wr.heap.size := World.block_lt_of_cell? wr _ d3
          have j0 : (0 : Int) ≤ (m : Int) := by omega
          by_cases hmt : m < M
          · have j1 : (m : Int) < (M : Int) := by omega
            have hma : m < al.length := by have := HM.out; omega
            obtain ⟨ba, oa, rfl, hca⟩ := HAI.out (by omega)
            have d0 := some_keep (some_keep (hca m hma).1 hbw.out) hbx.out.bel
            have hba : ba < wr.heap.size := World.block_lt_of_cell? wr _ d0
            have d1 := (hbx.out.cell 3).trans rfl
            have z1 := hbx.out.froz 3
            have hxs : Hid ((shA (al.take m)).length = m) := by
              show _ = _
              unfold shA
              rw [List.length_map, List.length_take]
              omega
            have HS : Hid (shA (al.take (m + 1)) = shA (al.take m) ++ [⟨al[m].n, []⟩]) := by
              show _ = _
              unfold shA
              rw [List.take_succ_eq_append_getElem hma, List.map_append]
              rfl
            have hl1 : (shA (al.take m)).length ≤ 134217728 := by have := hxs.out; omega
            clear hca
            generalize al[m].n = nm at d0 HS
            generalize shA (al.take m) = xs at hbx hxs HS hl1
            have HCell : Hid (∀ j u, (atCs ⟨nm, []⟩)[j]? = some u → (wr.alloc (.cells #[.string (S nm), .string ⟨#[]⟩] 54)).cell? ((⟨wr.heap.size, 0, none⟩ : Addr).add j) = some u) := fun j u hj => push_cells (cs := atCs ⟨nm, []⟩) j u hj
            go_wp2_with fail
            go_region_law (first
              | (refine step_append_lies _ rfl (.tmp 51) (.tmp 62) 50 rfl (V.heap.size + 1) 54 ia _ 2 32 Tryz.underlying50 hia hza0 hza1 hza2 rfl (by omega) va' xs.length (xs.flatMap atCs) (by simp [Act.eval]) (hbx.out.att.alloc _) ⟨wr.heap.size, 0, none⟩ 1 1 (atCs ⟨nm, []⟩) (by simp [Act.eval]) rfl HCell.out push_att (by omega) (by unfold maxLen; omega) (by omega) (by simp; omega) (wr.heap.size + 1) (by simp) ?_; intro g cp wB hownB hgB hatB hltB; obtain ⟨p1, p2, p3⟩ := hbx.out.push ⟨nm, []⟩ _ hownB (grown_drew hgB); have HP := Lib.hid p1; clear p1 hownB hgB hatB hltB))
            clear d0 d1 d3 z1 HCell
            all_goals
              go_wp2_with fail
              go_roundw
            all_goals first
              | exact ⟨m + 1, _, by omega, by go_num, by rw [HS.out]; exact HP⟩
              | (simp [intOf]; omega)
          · obtain rfl : m = M := by omega
            have hfull : Hid (shA (al.take m) = shA al) := by
              show _ = _
              rw [List.take_of_length_le (Nat.le_of_eq HM.out)]
            rw [hfull.out] at hbx
            obtain ⟨ps, hps, ho, hap⟩ := hsh.out
            have e0 := (hbx.out.cell 0).trans rfl
            have e1 := (hbx.out.cell 1).trans rfl
            have e2 := (hbx.out.cell 2).trans rfl
            have e3 := (hbx.out.cell 3).trans rfl
            have e4 := (hbx.out.cell 4).trans rfl
            have HO := Lib.hid ho
            have HAP := Lib.hid hap
            have HPS := Lib.hid hps
            have hpl : ps.length ≤ 134217728 := by
              have e : ps.length = (shL (ts.take j)).length := by rw [hps, List.length_map]
              have e2 : (shL (ts.take j)).length ≤ (ts.take j).length := by
                unfold shL
                rw [List.length_map]
                exact List.length_filter_le _ _
              rw [List.length_take] at e2
              omega
            have hVw : V.heap.size ≤ wr.heap.size := by omega
            have how : TkR w.heap.size wr u3 ps := own_same ho fun q _ hq => hbx.out.bel.block q (own_lt ho q hq)
            have HOW := Lib.hid how
            have hws : w.heap.size ≤ V.heap.size := hbw.out.size
            have hone : va'.oneCell' = true := own_one hbx.out.att
            have HOne := Lib.hid (push_tok (p := (⟨k, tn, tx, shA al, c⟩, va')) hone)
            have HCell : Hid (∀ j u, (tkCs (⟨k, tn, tx, shA al, c⟩, va'))[j]? = some u → (wr.alloc (.cells #[.int .i64 k, .string (S tn), .string (S tx), va', .bool c] 52)).cell? ((⟨wr.heap.size, 0, none⟩ : Addr).add j) = some u) := fun j u hj => push_cells (cs := tkCs (⟨k, tn, tx, shA al, c⟩, va')) j u hj
            clear ho hap hps how
            go_wp2_with (at_builtin; refine wpList_append_own_at _ rfl _ _ 32 rfl w.heap.size 52 it _ 5 72 Tryz.underlying32 hit hzt0 hzt1 hzt2 rfl (by decide) _ _ _ rfl (HOW.out.alloc _) ⟨wr.heap.size, 0, none⟩ 1 1 (tkCs (⟨k, tn, tx, shA al, c⟩, va')) rfl rfl HCell.out HOne.out (by unfold maxLen; omega) (by omega) (by simp; omega) ?_)
            intro v' w3 hown hg _ hat
            obtain ⟨h3, hb3⟩ := sh_push hws HO.out HAP.out hbx.out _ hown hg hat
            have H3 := Lib.hid h3
            have HB3 := Lib.hid (hbw.out.trans hb3)
            clear hown hg hat h3 hb3 e0 e1 e2 e3 e4 d3
            go_wp2_with fail
            go_roundw
            case rel => exact ⟨j + 1, by omega, by go_num, by rw [HR.out, HPS.out]; exact H3, HB3⟩
            case measure => simp [intOf]; omega
    · have hfull : Hid (shL (ts.take j) = shL ts) := by
        show _ = _
        rw [List.take_of_length_le (by have := HN.out; omega)]
      go_wp2_with fail
      go_ret
      exact ⟨_, rfl, by rw [← hfull.out]; exact hsh.out, hbw.out⟩
end Go.Proofs.YtklpbkjplecdpaaGreat.Tok

/-
  Contract of the page's reader's text: what was gathered, told.
-/
namespace Go.Proofs.YtklpbkjplecdpaaGreat.Tok
open Go.RowKit Oct Utf Crf Tab Mem

set_option maxHeartbeats 2000000 in
set_option maxRecDepth 100000 in
theorem text_some (d : Bool) (x : List UInt8) (R : Nat) (l : List UInt8) (r : Rd) (vo vt va : Value) (ps : List (Tk × Value)) (w : World) (h : RdW R l r vo vt va ps w) (hl : r.tx.length ≤ 134217728) (ho : ps.length ≤ 134217728)
    (hd : (if d then decL' r.tx else r.tx) = x) (hx : x ≠ []) :
    Calls Tryz.prog 28 #[.pointer (some ⟨R, 0, none⟩), .bool d] w fun e w' => e = .returned (.tuple #[]) ∧ RdM R l (textR d r) w' ∧ Below R w w' := by
  have c3 : w.cell? ⟨R, 3, none⟩ = some vt := (h.cell 3).trans rfl
  have hcv := Mem.conv_own h.txt
  have hdc := fun w => rDecode_c r.tx hl w
  have HW := Lib.hid h
  have HE : Hid (textR d r = { r with out := r.out ++ [txTk x], tx := [] }) := by
    show _ = _
    unfold textR
    rw [hd, if_neg hx]
  obtain ⟨i0, hi, hz0, hz1, hz2⟩ := info_parts info_tok
  have hne : ((S x).toList == []) = false := by
    rw [beq_eq_false_iff_ne]
    intro e
    apply hx
    rw [ByteArray.toList_eq, list_S] at e
    exact e
  have hR : R ≤ w.heap.size := Nat.le_of_lt h.lt
  have HCell : Hid (∀ (w : World) (X : ByteArray), X = S x → ∀ j u, (tkCs (txTk x, .slice none 0 0))[j]? = some u → (w.alloc (.cells #[.int .i64 3, .string ⟨#[]⟩, .string X, .slice none 0 0, .bool false] 52)).cell? ((⟨w.heap.size, 0, none⟩ : Addr).add j) = some u) := fun w X hX j u hj => by
    subst hX
    exact push_cells (cs := tkCs (txTk x, .slice none 0 0)) j u hj
  have HOne := Lib.hid (push_tok (p := (txTk x, .slice none 0 0)) rfl)
  clear h hx
  cases d with
  | true =>
    have hd2 : decL' r.tx = x := hd
    rw [hd2] at hdc
    clear hd hd2
    obtain ⟨X, hX⟩ : ∃ X, X = S x := ⟨_, rfl⟩
    have HX := Lib.hid hX
    rw [← hX] at hdc hne
    clear hX
    generalize S r.tx = T at hcv hdc
    go_enter Tryz.func28, Tryz.ntmps28
    go_wp2_with fail
    refine (hdc _).mono ?_
    rintro e w1 ⟨rfl, hb1⟩
    have HW1 := Lib.hid (HW.out.keep hb1)
    have HB1 := Lib.hid (hb1.mono hR)
    have c1 : w1.cell? ⟨R, 1, none⟩ = some vo := (HW1.out.cell 1).trans rfl
    have hR1 : R + 1 ≤ w1.heap.size := HW1.out.lt
    clear hb1 hdc hcv c3
    go_wp2_with (at_builtin; refine wpList_append_own_at _ rfl _ _ 32 rfl (R + 1) 52 i0 _ 5 72 Tryz.underlying32 hi hz0 hz1 hz2 rfl (by decide) _ _ _ rfl (HW1.out.out.alloc _) ⟨w1.heap.size, 0, none⟩ 1 1 (tkCs (txTk x, .slice none 0 0)) rfl rfl (HCell.out _ _ HX.out) HOne.out (by unfold maxLen; omega) (by omega) (by simp; omega) ?_)
    intro v' w3 hown hg _ hat
    obtain ⟨h3, hb3, c4, z4⟩ := HW1.out.push (txTk x, .slice none 0 0) (World.ownsRow_nil _ _ _ _) ⟨nil_sep _, nil_sep _, nil_sep _⟩ _ hown hg hat
    obtain ⟨vp, vj, vc, rfl⟩ := own_slice hown
    have c5 := (h3.cell 3).trans rfl
    have z5 := h3.froz 3
    have H3 := Lib.hid h3
    have HB3 := Lib.hid (HB1.out.trans hb3)
    clear hown hg hat h3 hb3
    go_wp2_with fail
    go_end0
    exact ⟨rfl, ⟨_, _, _, _, by rw [HE.out]; exact H3.out.clear⟩, below_set _ HB3.out⟩
  | false =>
    have hd2 : r.tx = x := hd
    clear hd hdc
    obtain ⟨X, hX⟩ : ∃ X, X = S r.tx := ⟨_, rfl⟩
    have HX : Hid (X = S x) := by show X = S x; rw [hX, hd2]
    rw [hd2] at hX
    rw [hd2, ← hX] at hcv
    rw [← hX] at hne
    clear hX hd2
    have c1 : w.cell? ⟨R, 1, none⟩ = some vo := (HW.out.cell 1).trans rfl
    have hR1 : R + 1 ≤ w.heap.size := HW.out.lt
    go_enter Tryz.func28, Tryz.ntmps28
    go_wp2_with (at_builtin; refine wpList_append_own_at _ rfl _ _ 32 rfl (R + 1) 52 i0 _ 5 72 Tryz.underlying32 hi hz0 hz1 hz2 rfl (by decide) _ _ _ rfl (HW.out.out.alloc _) ⟨w.heap.size, 0, none⟩ 1 1 (tkCs (txTk x, .slice none 0 0)) rfl rfl (HCell.out _ _ HX.out) HOne.out (by unfold maxLen; omega) (by omega) (by simp; omega) ?_)
    intro v' w3 hown hg _ hat
    obtain ⟨h3, hb3, c4, z4⟩ := HW.out.push (txTk x, .slice none 0 0) (World.ownsRow_nil _ _ _ _) ⟨nil_sep _, nil_sep _, nil_sep _⟩ _ hown hg hat
    obtain ⟨vp, vj, vc, rfl⟩ := own_slice hown
    have c5 := (h3.cell 3).trans rfl
    have z5 := h3.froz 3
    have H3 := Lib.hid h3
    have HB3 := Lib.hid hb3
    clear hown hg hat h3 hb3
    go_wp2_with fail
    go_end0
    exact ⟨rfl, ⟨_, _, _, _, by rw [HE.out]; exact H3.out.clear⟩, below_set _ HB3.out⟩
set_option maxRecDepth 100000 in
theorem text_none (d : Bool) (R : Nat) (l : List UInt8) (r : Rd) (vo vt va : Value) (ps : List (Tk × Value)) (w : World) (h : RdW R l r vo vt va ps w) (hl : r.tx.length ≤ 134217728)
    (hd : (if d then decL' r.tx else r.tx) = []) :
    Calls Tryz.prog 28 #[.pointer (some ⟨R, 0, none⟩), .bool d] w fun e w' => e = .returned (.tuple #[]) ∧ RdM R l (textR d r) w' ∧ Below R w w' := by
  have c3 : w.cell? ⟨R, 3, none⟩ = some vt := (h.cell 3).trans rfl
  have z3 := h.froz 3
  have hcv := Mem.conv_own h.txt
  have hdc := fun w => rDecode_c r.tx hl w
  have HW := Lib.hid h
  have HE : Hid (textR d r = { r with tx := [] }) := by
    show _ = _
    unfold textR
    rw [hd, if_pos rfl]
  have hR : R ≤ w.heap.size := Nat.le_of_lt h.lt
  clear h
  cases d with
  | true =>
    have hd2 : decL' r.tx = [] := hd
    rw [hd2] at hdc
    clear hd hd2
    generalize S r.tx = T at hcv hdc
    go_enter Tryz.func28, Tryz.ntmps28
    go_wp2_with fail
    refine (hdc _).mono ?_
    rintro e w1 ⟨rfl, hb1⟩
    have HW1 := Lib.hid (HW.out.keep hb1)
    have HB1 := Lib.hid (hb1.mono hR)
    have c4 : w1.cell? ⟨R, 3, none⟩ = some vt := (HW1.out.cell 3).trans rfl
    have z4 := HW1.out.froz 3
    clear hb1 hdc hcv c3 z3
    go_wp2_with fail
    go_end0
    exact ⟨rfl, ⟨_, _, _, _, by rw [HE.out]; exact HW1.out.clear⟩, below_set _ HB1.out⟩
  | false =>
    have hd2 : r.tx = [] := hd
    rw [hd2] at hcv
    clear hd hd2 hdc
    go_enter Tryz.func28, Tryz.ntmps28
    go_wp2_with fail
    go_end0
    exact ⟨rfl, ⟨_, _, _, _, by rw [HE.out]; exact HW.out.clear⟩, below_set _ (Below.refl _ _)⟩
theorem rtext_c (d : Bool) (R : Nat) (l : List UInt8) (r : Rd) (w : World) (h : RdM R l r w) (hl : r.tx.length ≤ 134217728) (ho : r.out.length ≤ 134217728) :
    Calls Tryz.prog 28 #[.pointer (some ⟨R, 0, none⟩), .bool d] w fun e w' => e = .returned (.tuple #[]) ∧ RdM R l (textR d r) w' ∧ Below R w w' := by
  obtain ⟨vo, vt, va, ps, h⟩ := h
  have hp : ps.length ≤ 134217728 := by have := congrArg List.length h.outs; rw [List.length_map] at this; omega
  by_cases hx : (if d then decL' r.tx else r.tx) = []
  · exact text_none d R l r vo vt va ps w h hl hx
  · exact text_some d _ R l r vo vt va ps w h hl hp rfl hx
end Go.Proofs.YtklpbkjplecdpaaGreat.Tok
