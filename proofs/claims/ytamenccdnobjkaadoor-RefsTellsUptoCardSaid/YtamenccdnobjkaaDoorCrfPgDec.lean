/-
  Contract of the page's Decode.
-/
import Derived.Test.YtamenccdnobjkaaDoorCrfPgRow
namespace Go.Proofs.YtamenccdnobjkaaDoor.Crf
open Go.RowKit Go.Proofs.YtamenccdnobjkaaDoor.Oct Go.Proofs.YtamenccdnobjkaaDoor.Num Go.Proofs.YtamenccdnobjkaaDoor.Utf Go.Proofs.YtamenccdnobjkaaDoor.Mem
open Go.Lib (encodeRune)

set_option maxHeartbeats 2000000 in
set_option maxRecDepth 100000 in
/-- Contract of the page's Decode. -/
theorem rDecode_c (l : List UInt8) (hl : l.length ≤ 134217728) (w : World) :
    Calls Tryd.prog 13 #[.string (S l)] w fun e w' => e = .returned (.string (S (decL' l))) ∧ Below w.heap.size w w' := by
  obtain ⟨i0, hi, hz0, hz1, hz2⟩ := info_parts Mem.info_u8
  have HX := Lib.hid (fun k (h : k < (S l).size) => (by
    have h' : k < l.length := by rw [← size_S]; exact h
    exact ⟨h', rfl⟩ : ∃ h' : k < l.length, (S l)[k]'h = l[k]'h'))
  have hsz : (S l).size = l.length := size_S l
  have hszi : ((S l).size : Int) = (l.length : Int) := by rw [size_S]
  have HFrom := Lib.hid (fun k => (cutFrom (S l) k).trans (by rw [list_S] : S ((S l).data.toList.drop k) = S (l.drop k)))
  have HOne := Lib.hid (fun k w => rOne_c (l.drop k) (by rw [List.length_drop]; omega) w)
  generalize S l = s at HX hsz hszi HFrom
  have HFrom := Lib.hid (fun k => (by rw [← hsz]; exact HFrom.out k : s.extract k l.length = S (l.drop k)))
  go_enter Tryd.func13, Tryd.ntmps13
  go_wp2_with fail
  go_loopw [3, 4] (fun b i wr => ∃ t : Nat, t ≤ l.length ∧ i = .int .i64 t ∧ ∃ o, o.length ≤ 4 * t ∧ Hid (o ++ decL' (l.drop t) = decL' l) ∧ Hid (Row w.heap.size b o wr) ∧ Hid (Below w.heap.size w wr)) (fun _ i _ => l.length - (intOf i).toNat)
  case atStart => exact ⟨0, Nat.zero_le _, rfl, [], by simp, rfl, World.ownsRow_nil _ _ _ _, Below.refl _ _⟩
  case round =>
    obtain ⟨t, ht, rfl, o, hol, ho, hrow, hb⟩ := hrel
    by_cases hlt : t < l.length
    · have hks : t < s.size := by omega
      obtain ⟨h', hx⟩ := HX.out t hks
      have hf := HFrom.out t
      have hone := HOne.out t wr
      rw [← hf] at hone
      have j0 : (0 : Int) ≤ (t : Int) := by omega
      have j1 : (t : Int) < (l.length : Int) := by omega
      have j2 : (t : Int) ≤ (l.length : Int) := by omega
      obtain ⟨m, hm⟩ : ∃ m, m = o.length := ⟨_, rfl⟩
      have hrow' : wr.ownsRow w.heap.size 5 1 u3 m (o.map Mem.bv) := by rw [hm]; exact hrow.out
      have HR := Lib.hid hrow'
      have hml : m ≤ 536870912 := by omega
      have HM := Lib.hid hm
      have hxn : s[t].toNat = l[t].toNat := by rw [hx]
      have hxu : s[t].toNat < 256 := s[t].toNat_lt
      have hlen := one_len (l.drop t)
      have hsl := one_slen (l.drop t)
      rw [List.length_drop] at hlen
      have HolT := Lib.hid hol
      clear hrow' hrow hm hf
      by_cases hz : (oneL (l.drop t)).2 = 0
      · have HN : Hid ((o ++ [l[t]]) ++ decL' (l.drop (t + 1)) = decL' l) := by
          show _ = _
          rw [← ho.out, List.append_assoc]
          congr 1
          have e : l.drop t = l[t] :: l.drop (t + 1) := List.drop_eq_getElem_cons hlt
          rw [e] at hz ⊢
          rw [dec_plain _ _ hz]
          rfl
        rw [one_zero hz] at hone
        have hpc : (s[t].toNat : Int) = (l[t].toNat : Int) := by rw [hxn]
        have HPC := Lib.hid hpc
        clear hxn hx hpc hz hlen hsl
        generalize l[t] = c at HN HPC
        go_wp2_with fail
        refine hone.mono ?_
        rintro e w2 ⟨rfl, hb2⟩
        have HR2 := Lib.hid (own_kept HR.out hb2)
        have HB2 := Lib.hid (hb.out.trans (hb2.mono hb.out.size))
        have hB : w.heap.size ≤ w2.heap.size := HB2.out.size
        clear hb2 hone
        go_wp2_with (at_builtin; refine wpList_append_own _ rfl _ _ 32 rfl w.heap.size 5 i0 (.int .u8 0) 1 1 Tryd.underlying32 hi hz0 hz1 hz2 rfl (by decide) _ _ _ rfl (HR2.out.alloc _) ⟨w2.heap.size, 0, none⟩ 1 1 [Mem.bv c] rfl rfl (push_cell HPC.out) push_one (by unfold maxLen; omega) (by omega) (by simp; omega) ?_)
        intro v' w3 hown hg _
        have HO2 : Hid (Row w.heap.size v' (o ++ [c]) w3) := by
          show Row _ _ _ _
          refine Row.more ?_
          rw [← HM.out]
          exact hown
        have HB3 : Hid (Below w.heap.size w w3) := (HB2.out.alloc hB _).grown hg (by simp; omega) (own_base HR2.out)
        clear hown hg
        go_wp2_with fail
        go_roundw
        case rel => exact ⟨t + 1, by omega, by go_num, o ++ [c], by rw [List.length_append, List.length_singleton]; have := HolT.out; omega, HN, HO2, HB3⟩
        case measure => simp [intOf]; omega
      · have HN : Hid ((o ++ (oneL (l.drop t)).1) ++ decL' (l.drop (t + (oneL (l.drop t)).2)) = decL' l) := by
          show _ = _
          rw [← ho.out, List.append_assoc]
          congr 1
          rw [dec_ref _ hz, List.drop_drop]
        have hzp : 0 < (oneL (l.drop t)).2 := by omega
        have hzb : (((oneL (l.drop t)).2 : Int) == 0) = false := by simp; exact hz
        clear hxn hx hz
        generalize (oneL (l.drop t)).1 = st at hone HN hsl
        generalize (oneL (l.drop t)).2 = n at hone HN hlen hzp hzb
        have HC := Lib.hid (cells_S st)
        have hstz : (S st).size ≤ 4 := by rw [size_S]; exact hsl
        have HSl := Lib.hid hsl
        clear hsl
        generalize S st = T at hone HC hstz
        go_wp2_with fail
        refine hone.mono ?_
        rintro e w2 ⟨rfl, hb2⟩
        have HR2 := Lib.hid (own_kept HR.out hb2)
        have HB2 := Lib.hid (hb.out.trans (hb2.mono hb.out.size))
        have hB : w.heap.size ≤ w2.heap.size := HB2.out.size
        clear hb2 hone
        go_wp2_with (at_builtin; refine Lib.wpList_append_own_string _ rfl _ _ 32 9 rfl w.heap.size 5 i0 Tryd.underlying32 Tryd.underlying9 hi hz0 hz1 hz2 _ m _ rfl HR2.out T rfl (by unfold maxLen; omega) (by omega) hB ?_)
        intro v' w3 hown hg _
        have HO2 : Hid (Row w.heap.size v' (o ++ st) w3) := by
          show Row _ _ _ _
          refine Row.more ?_
          rw [← HC.out.1, ← HC.out.2, ← HM.out]
          exact hown
        have HB3 : Hid (Below w.heap.size w w3) := HB2.out.grown hg hB (own_base HR2.out)
        clear hown hg
        go_wp2_with fail
        go_roundw
        case rel => exact ⟨t + n, by omega, by go_num, o ++ st, by rw [List.length_append]; have := HolT.out; have := HSl.out; omega, HN, HO2, HB3⟩
        case measure => simp [intOf]; omega
    · have hkl : t = l.length := by omega
      subst hkl
      have hd : o = decL' l := by
        have := ho.out
        rw [List.drop_length, dec_nil', List.append_nil] at this
        exact this
      have hcv := conv_own hrow.out
      rw [hd] at hcv
      clear hd
      go_wp2_with fail
      go_ret
      exact ⟨rfl, hb.out⟩

end Go.Proofs.YtamenccdnobjkaaDoor.Crf
