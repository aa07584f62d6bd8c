/-
  Contract of the page's Percent: a text encoded, and a normal one.
-/
import Derived.Test.YtjchebnjbfhooaaDoorPctPage
import Derived.Test.YtjchebnjbfhooaaDoorPgHex
import Derived.Test.YtjchebnjbfhooaaDoorUtfSame
import Derived.Lib.AppendStr
namespace Go.Proofs.YtjchebnjbfhooaaDoor.Pct
open Go.RowKit Go.Proofs.YtjchebnjbfhooaaDoor.Oct Go.Proofs.YtjchebnjbfhooaaDoor.Utf Go.Proofs.YtjchebnjbfhooaaDoor.Mem

/-- The new octet's cell, as an append of one octet asks for it. -/
theorem push_cell {w : World} {x : Int} {c : UInt8} (h : x = (c.toNat : Int)) (j : Nat) (u : Value) (hj : [Mem.bv c][j]? = some u) :
    (w.alloc (.cells #[.int .u8 x] 5)).cell? ((⟨w.heap.size, 0, none⟩ : Addr).add j) = some u := by
  subst h
  match j, hj with
  | 0, hj => simp at hj; subst hj; simp [Addr.add]
theorem push_one {c : UInt8} (u : Value) (hu : u ∈ [Mem.bv c]) : u.oneCell' = true := by simp at hu; subst hu; rfl
/-- A row of octets of the call's own that holds these. -/
def Row (base : Nat) (v : Value) (o : List UInt8) (w : World) : Prop := w.ownsRow base 5 1 v o.length (o.map Mem.bv)
theorem Row.more {base : Nat} {v' : Value} {o t : List UInt8} {w' : World} (h : w'.ownsRow base 5 1 v' (o.length + t.length) (o.map Mem.bv ++ t.map Mem.bv)) : Row base v' (o ++ t) w' := by
  unfold Row
  rw [List.length_append, List.map_append]
  exact h
theorem cells_S (t : List UInt8) : Lib.strCells (S t) = t.map Mem.bv ∧ (S t).size = t.length := ⟨strCells_S t, size_S t⟩
theorem rhex2_c (c : UInt8) (w : World) :
    Calls Tryd.prog 38 #[.int .i64 (c.toNat : Int), .int .i64 2] w fun e w' => e = .returned (.string (S (hexL c.toNat 2))) ∧ w = w' := by
  have h := rhex_c (c.toNat : Int) 2 w
  have e1 : u64 (c.toNat : Int) = c.toNat := by have := c.toNat_lt; unfold u64; omega
  have e2 : clamp 2 = 2 := by decide
  rw [e1, e2] at h
  exact h
/-- What the page lets stay. -/
def pgP (normal : Bool) (l : List UInt8) : Bool := unr (l.headD 0) || (normal && (res (l.headD 0) || ((headL l).2 == 3)))
theorem pgP_enc : pgP false = encP := by
  funext l
  unfold pgP encP
  simp
theorem pgP_nor : pgP true = norP := by
  funext l
  unfold pgP norP
  cases unr (l.headD 0) <;> cases res (l.headD 0) <;> simp

set_option maxHeartbeats 1000000 in
set_option maxRecDepth 100000 in
theorem rpercent_c (s0 : ByteArray) (hs : s0.size ≤ 134217728) (normal : Bool) (w : World) :
    Calls Tryd.prog 21 #[.string s0, .bool normal] w fun e w' => e = .returned (.string (S (codL (pgP normal) (rep s0.data.toList)))) ∧ Below w.heap.size w w' := by
  obtain ⟨i0, hi, hz0, hz1, hz2⟩ := info_parts Mem.info_u8
  have hrp := rrepair_c s0 (by omega) w
  have hrl : (rep s0.data.toList).length ≤ 4 * s0.size := by
    have h1 := encs_len (chars s0.data.toList)
    have h2 := chars_len s0.data.toList
    rw [size_list] at h2
    unfold rep
    omega
  generalize rep s0.data.toList = r at hrp hrl
  have hrl2 : r.length ≤ 536870912 := by omega
  have HX := Lib.hid (fun k (h : k < (S r).size) => (by
    have h' : k < r.length := by rw [← size_S]; exact h
    exact ⟨h', rfl⟩ : ∃ h' : k < r.length, (S r)[k]'h = r[k]'h'))
  have hsz : (S r).size = r.length := size_S r
  have hszi : ((S r).size : Int) = (r.length : Int) := by rw [size_S]
  have HCod := Lib.hid (fun k (h : k < r.length) w => rcoded_c r (by omega) k h w)
  generalize S r = s at hrp HX hsz hszi HCod
  clear hrl hs
  go_enter Tryd.func21, Tryd.ntmps21
  go_wp2_with fail
  refine hrp.mono ?_
  rintro e w1 ⟨rfl, hb1⟩
  have HB1 := Lib.hid (show Below w.heap.size w w1 from hb1)
  clear hb1 hrp
  go_wp2_with fail
  go_loopw [6, 7] (fun b i wr => ∃ k : Nat, k ≤ r.length ∧ i = .int .i64 k ∧ ∃ o, o.length ≤ 3 * k ∧ Hid (o ++ codL (pgP normal) (r.drop k) = codL (pgP normal) r) ∧ Hid (Row w1.heap.size b o wr) ∧ Hid (Below w1.heap.size w1 wr)) (fun _ i _ => r.length - (intOf i).toNat)
  case atStart => exact ⟨0, Nat.zero_le _, rfl, [], Nat.zero_le _, rfl, World.ownsRow_nil _ _ _ _, Below.refl _ _⟩
  case round =>
    obtain ⟨k, hk, rfl, o, hol, ho, hrow, hb⟩ := hrel
    by_cases hlt : k < r.length
    · have hks : k < s.size := by omega
      obtain ⟨h', hx⟩ := HX.out k hks
      have hco := HCod.out k hlt wr
      have hB : w1.heap.size ≤ wr.heap.size := hb.out.size
      have j0 : (0 : Int) ≤ (k : Int) := by omega
      have j1 : (k : Int) < (r.length : Int) := by omega
      obtain ⟨m, hm⟩ : ∃ m, m = o.length := ⟨_, rfl⟩
      have hrow' : wr.ownsRow w1.heap.size 5 1 u6 m (o.map Mem.bv) := by rw [hm]; exact hrow.out
      have HR := Lib.hid hrow'
      have hml : m ≤ 1610612736 := by omega
      have HM := Lib.hid hm
      have HolT := Lib.hid hol
      have HD : Hid (codL (pgP normal) (r.drop k) = (if pgP normal (r.drop k) = true then [r[k]] else 37 :: hexL r[k].toNat 2) ++ codL (pgP normal) (r.drop (k + 1))) := by
        have e : r.drop k = r[k] :: r.drop (k + 1) := List.drop_eq_getElem_cons hlt
        show _ = _
        rw [e]
        rfl
      have HH : Hid ((r.drop k).headD 0 = r[k]) := by
        show _ = _
        rw [List.drop_eq_getElem_cons hlt]
        rfl
      have hxn : s[k].toNat = r[k].toNat := by rw [hx]
      have hcb : (r[k].toNat : Int) ≤ 255 := by have := r[k].toNat_lt; omega
      have hu : Calls Tryd.prog 35 #[.int .u8 (r[k].toNat : Int)] wr fun e w' => e = .returned (.bool (unr r[k])) ∧ wr = w' := runreserved_c (r[k].toNat : Int) wr (by omega) hcb
      have hre := rreserved_c r[k] wr
      have hpc : (s[k].toNat : Int) = (r[k].toNat : Int) := by rw [hxn]
      have HPC := Lib.hid hpc
      have hsb : (s[k].toNat : Int) ≤ 255 := by have := s[k].toNat_lt; omega
      rw [← hpc] at hu hre
      generalize r[k] = c at HD HH HPC hu hre
      clear hrow' hrow hm hxn hx hpc hcb
      cases hq1 : unr c with
      | true =>
        have HP : pgP normal (r.drop k) = true := by
          unfold pgP
          rw [HH.out, hq1]
          rfl
        rw [hq1] at hu
        have HN : Hid ((o ++ [c]) ++ codL (pgP normal) (r.drop (k + 1)) = codL (pgP normal) r) := by
          show _ = _
          rw [← ho.out, HD.out, HP, if_pos rfl, List.append_assoc]
        clear HP HD HH hq1 hco hre
        go_wp2_with (first
                | (go_at_call 35; refine hu.mono ?_; rintro e w' ⟨rfl, rfl⟩)
                | (go_at_call 36; refine hre.mono ?_; rintro e w' ⟨rfl, rfl⟩)
                | (go_at_call 37; refine hco.mono ?_; rintro e w' ⟨rfl, rfl⟩)
                | (go_at_call 38; refine hhx.mono ?_; rintro e w' ⟨rfl, rfl⟩)
                | (at_builtin; refine wpList_append_own _ rfl _ _ 38 rfl w1.heap.size 5 i0 (.int .u8 0) 1 1 Tryd.underlying38 hi hz0 hz1 hz2 rfl (by decide) _ _ _ rfl (HR.out.alloc _) ⟨wr.heap.size, 0, none⟩ 1 1 [Mem.bv c] rfl rfl (push_cell HPC.out) push_one (by unfold maxLen; omega) (by omega) (by simp; omega) ?_))
        intro v' w3 hown hg _
        have HO2 : Hid (Row w1.heap.size v' (o ++ [c]) w3) := by
          show Row _ _ _ _
          refine Row.more ?_
          rw [← HM.out]
          exact hown
        have HB3 : Hid (Below w1.heap.size w1 w3) := (hb.out.alloc hB _).grown hg (by simp; omega) (own_base HR.out)
        clear hown hg
        go_wp2_with fail
        go_roundw
        case rel => exact ⟨k + 1, by omega, by go_num, o ++ [c], by rw [List.length_append, List.length_singleton]; have := HolT.out; omega, HN, HO2, HB3⟩
        case measure => simp [intOf]; omega
      | false =>
        rw [hq1] at hu
        cases normal with
        | false =>
          have HP : pgP false (r.drop k) = false := by
            unfold pgP
            rw [HH.out, hq1]
            rfl
          have HN : Hid (((o ++ [37]) ++ hexL c.toNat 2) ++ codL (pgP false) (r.drop (k + 1)) = codL (pgP false) r) := by
            show _ = _
            rw [← ho.out, HD.out, HP, if_neg (by simp)]
            simp
          have HC := Lib.hid (cells_S (hexL c.toNat 2))
          have hstz : (S (hexL c.toNat 2)).size ≤ 2 := by rw [size_S, hexL_length]; exact Nat.le_refl 2
          have hhx := rhex2_c c
          have HLn := Lib.hid (hexL_length c.toNat 2)
          generalize hexL c.toNat 2 = st at hhx HC hstz HN HLn
          generalize S st = T at hhx HC hstz
          have HHX := Lib.hid hhx
          clear HP HD hhx HH hq1 hco hre
          go_wp2_with (first
                  | (go_at_call 35; refine hu.mono ?_; rintro e w' ⟨rfl, rfl⟩)
                  | (go_at_call 36; refine hre.mono ?_; rintro e w' ⟨rfl, rfl⟩)
                  | (go_at_call 37; refine hco.mono ?_; rintro e w' ⟨rfl, rfl⟩)
                  | (at_builtin; refine wpList_append_own _ rfl _ _ 38 rfl w1.heap.size 5 i0 (.int .u8 0) 1 1 Tryd.underlying38 hi hz0 hz1 hz2 rfl (by decide) _ _ _ rfl (HR.out.alloc _) ⟨wr.heap.size, 0, none⟩ 1 1 [Mem.bv 37] rfl rfl (push_cell rfl) push_one (by unfold maxLen; omega) (by omega) (by simp; omega) ?_))
          intro v' w3 hown hg _
          have HO2 : Hid (w3.ownsRow w1.heap.size 5 1 v' (m + 1) ((o ++ [37]).map Mem.bv)) := by
            show World.ownsRow _ _ _ _ _ _ _
            rw [List.map_append]
            exact hown
          have HB3 : Hid (Below w1.heap.size w1 w3) := (hb.out.alloc hB _).grown hg (by simp; omega) (own_base HR.out)
          have hB3 : w1.heap.size ≤ w3.heap.size := HB3.out.size
          have hhx3 := HHX.out w3
          rw [← HPC.out] at hhx3
          clear hown hg
          go_wp2_with (first
            | (go_at_call 38; refine hhx3.mono ?_; rintro e w' ⟨rfl, rfl⟩)
            | (at_builtin; refine Lib.wpList_append_own_string _ rfl _ _ 38 9 rfl w1.heap.size 5 i0 Tryd.underlying38 Tryd.underlying9 hi hz0 hz1 hz2 _ (m + 1) _ rfl HO2.out T rfl (by unfold maxLen; omega) (by omega) hB3 ?_))
          intro v'' w4 hown hg _
          have HO4 : Hid (Row w1.heap.size v'' ((o ++ [37]) ++ st) w4) := by
            show Row _ _ _ _
            refine Row.more ?_
            rw [List.length_append, List.length_singleton, ← HC.out.1, ← HC.out.2, ← HM.out]
            simpa using hown
          have HB4 : Hid (Below w1.heap.size w1 w4) := HB3.out.grown hg hB3 (own_base HO2.out)
          clear hown hg
          go_wp2_with fail
          go_roundw
          case rel => exact ⟨k + 1, by omega, by go_num, (o ++ [37]) ++ st, by rw [List.length_append, List.length_append, List.length_singleton]; have := HolT.out; have := HLn.out; omega, HN, HO4, HB4⟩
          case measure => simp [intOf]; omega
        | true =>
          cases hq2 : res c with
          | true =>
            rw [hq2] at hre
            have HP : pgP true (r.drop k) = true := by
              unfold pgP
              rw [HH.out, hq1, hq2]
              rfl
            have HN : Hid ((o ++ [c]) ++ codL (pgP true) (r.drop (k + 1)) = codL (pgP true) r) := by
              show _ = _
              rw [← ho.out, HD.out, HP, if_pos rfl, List.append_assoc]
            clear HP HD HH hq1 hq2 hco
            go_wp2_with (first
                    | (go_at_call 35; refine hu.mono ?_; rintro e w' ⟨rfl, rfl⟩)
                    | (go_at_call 36; refine hre.mono ?_; rintro e w' ⟨rfl, rfl⟩)
                    | (go_at_call 37; refine hco.mono ?_; rintro e w' ⟨rfl, rfl⟩)
                    | (go_at_call 38; refine hhx.mono ?_; rintro e w' ⟨rfl, rfl⟩)
                    | (at_builtin; refine wpList_append_own _ rfl _ _ 38 rfl w1.heap.size 5 i0 (.int .u8 0) 1 1 Tryd.underlying38 hi hz0 hz1 hz2 rfl (by decide) _ _ _ rfl (HR.out.alloc _) ⟨wr.heap.size, 0, none⟩ 1 1 [Mem.bv c] rfl rfl (push_cell HPC.out) push_one (by unfold maxLen; omega) (by omega) (by simp; omega) ?_))
            intro v' w3 hown hg _
            have HO2 : Hid (Row w1.heap.size v' (o ++ [c]) w3) := by
              show Row _ _ _ _
              refine Row.more ?_
              rw [← HM.out]
              exact hown
            have HB3 : Hid (Below w1.heap.size w1 w3) := (hb.out.alloc hB _).grown hg (by simp; omega) (own_base HR.out)
            clear hown hg
            go_wp2_with fail
            go_roundw
            case rel => exact ⟨k + 1, by omega, by go_num, o ++ [c], by rw [List.length_append, List.length_singleton]; have := HolT.out; omega, HN, HO2, HB3⟩
            case measure => simp [intOf]; omega
          | false =>
            rw [hq2] at hre
            cases hq3 : ((headL (r.drop k)).2 == 3) with
            | true =>
              rw [hq3] at hco
              have HP : pgP true (r.drop k) = true := by
                unfold pgP
                rw [HH.out, hq1, hq2, hq3]
                rfl
              have HN : Hid ((o ++ [c]) ++ codL (pgP true) (r.drop (k + 1)) = codL (pgP true) r) := by
                show _ = _
                rw [← ho.out, HD.out, HP, if_pos rfl, List.append_assoc]
              clear HP HD HH hq1 hq2 hq3
              go_wp2_with (first
                      | (go_at_call 35; refine hu.mono ?_; rintro e w' ⟨rfl, rfl⟩)
                      | (go_at_call 36; refine hre.mono ?_; rintro e w' ⟨rfl, rfl⟩)
                      | (go_at_call 37; refine hco.mono ?_; rintro e w' ⟨rfl, rfl⟩)
                      | (go_at_call 38; refine hhx.mono ?_; rintro e w' ⟨rfl, rfl⟩)
                      | (at_builtin; refine wpList_append_own _ rfl _ _ 38 rfl w1.heap.size 5 i0 (.int .u8 0) 1 1 Tryd.underlying38 hi hz0 hz1 hz2 rfl (by decide) _ _ _ rfl (HR.out.alloc _) ⟨wr.heap.size, 0, none⟩ 1 1 [Mem.bv c] rfl rfl (push_cell HPC.out) push_one (by unfold maxLen; omega) (by omega) (by simp; omega) ?_))
              intro v' w3 hown hg _
              have HO2 : Hid (Row w1.heap.size v' (o ++ [c]) w3) := by
                show Row _ _ _ _
                refine Row.more ?_
                rw [← HM.out]
                exact hown
              have HB3 : Hid (Below w1.heap.size w1 w3) := (hb.out.alloc hB _).grown hg (by simp; omega) (own_base HR.out)
              clear hown hg
              go_wp2_with fail
              go_roundw
              case rel => exact ⟨k + 1, by omega, by go_num, o ++ [c], by rw [List.length_append, List.length_singleton]; have := HolT.out; omega, HN, HO2, HB3⟩
              case measure => simp [intOf]; omega
            | false =>
              rw [hq3] at hco
              have HP : pgP true (r.drop k) = false := by
                unfold pgP
                rw [HH.out, hq1, hq2, hq3]
                rfl
              have HN : Hid (((o ++ [37]) ++ hexL c.toNat 2) ++ codL (pgP true) (r.drop (k + 1)) = codL (pgP true) r) := by
                show _ = _
                rw [← ho.out, HD.out, HP, if_neg (by simp)]
                simp
              have HC := Lib.hid (cells_S (hexL c.toNat 2))
              have hstz : (S (hexL c.toNat 2)).size ≤ 2 := by rw [size_S, hexL_length]; exact Nat.le_refl 2
              have hhx := rhex2_c c
              have HLn := Lib.hid (hexL_length c.toNat 2)
              generalize hexL c.toNat 2 = st at hhx HC hstz HN HLn
              generalize S st = T at hhx HC hstz
              have HHX := Lib.hid hhx
              clear HP HD hhx HH hq1 hq2 hq3
              go_wp2_with (first
                      | (go_at_call 35; refine hu.mono ?_; rintro e w' ⟨rfl, rfl⟩)
                      | (go_at_call 36; refine hre.mono ?_; rintro e w' ⟨rfl, rfl⟩)
                      | (go_at_call 37; refine hco.mono ?_; rintro e w' ⟨rfl, rfl⟩)
                      | (at_builtin; refine wpList_append_own _ rfl _ _ 38 rfl w1.heap.size 5 i0 (.int .u8 0) 1 1 Tryd.underlying38 hi hz0 hz1 hz2 rfl (by decide) _ _ _ rfl (HR.out.alloc _) ⟨wr.heap.size, 0, none⟩ 1 1 [Mem.bv 37] rfl rfl (push_cell rfl) push_one (by unfold maxLen; omega) (by omega) (by simp; omega) ?_))
              intro v' w3 hown hg _
              have HO2 : Hid (w3.ownsRow w1.heap.size 5 1 v' (m + 1) ((o ++ [37]).map Mem.bv)) := by
                show World.ownsRow _ _ _ _ _ _ _
                rw [List.map_append]
                exact hown
              have HB3 : Hid (Below w1.heap.size w1 w3) := (hb.out.alloc hB _).grown hg (by simp; omega) (own_base HR.out)
              have hB3 : w1.heap.size ≤ w3.heap.size := HB3.out.size
              have hhx3 := HHX.out w3
              rw [← HPC.out] at hhx3
              clear hown hg
              go_wp2_with (first
                | (go_at_call 38; refine hhx3.mono ?_; rintro e w' ⟨rfl, rfl⟩)
                | (at_builtin; refine Lib.wpList_append_own_string _ rfl _ _ 38 9 rfl w1.heap.size 5 i0 Tryd.underlying38 Tryd.underlying9 hi hz0 hz1 hz2 _ (m + 1) _ rfl HO2.out T rfl (by unfold maxLen; omega) (by omega) hB3 ?_))
              intro v'' w4 hown hg _
              have HO4 : Hid (Row w1.heap.size v'' ((o ++ [37]) ++ st) w4) := by
                show Row _ _ _ _
                refine Row.more ?_
                rw [List.length_append, List.length_singleton, ← HC.out.1, ← HC.out.2, ← HM.out]
                simpa using hown
              have HB4 : Hid (Below w1.heap.size w1 w4) := HB3.out.grown hg hB3 (own_base HO2.out)
              clear hown hg
              go_wp2_with fail
              go_roundw
              case rel => exact ⟨k + 1, by omega, by go_num, (o ++ [37]) ++ st, by rw [List.length_append, List.length_append, List.length_singleton]; have := HolT.out; have := HLn.out; omega, HN, HO4, HB4⟩
              case measure => simp [intOf]; omega
    · have hkl : k = r.length := by omega
      subst hkl
      have hd : o = codL (pgP normal) r := by
        have := ho.out
        rw [List.drop_length, show codL (pgP normal) [] = [] from rfl, List.append_nil] at this
        exact this
      have hcv := conv_own hrow.out
      rw [hd] at hcv
      clear hd
      go_wp2_with fail
      go_ret
      exact ⟨rfl, HB1.out.trans (hb.out.mono HB1.out.size)⟩
end Go.Proofs.YtjchebnjbfhooaaDoor.Pct
