/-
  Contract of tables.Elements: the ten names, in a list of the call's own.
-/
import Derived.Test.YtoegnipnbdnllaaTabCode
import Derived.Deep.RegionHeld3
namespace Go.Proofs.Ytoegnipnbdnllaa.Tab
open Go.RowKit Go.Proofs.Ytoegnipnbdnllaa.Oct

theorem info_text : (Try.prog.info? 9).map (fun i => (i.zero, i.size, i.bytes)) = some (some (.string ⟨#[]⟩), 1, 16) := by kernel_rfl
theorem tclone_c (s : ByteArray) (w : World) (hs : s.size ≤ 140737488351232) :
    Calls Try.prog 25 #[.string s] w fun e w' => e = .returned (.string s) ∧ Below w.heap.size w w' := by
  go_enter Try.func25, Try.ntmps25
  go_wp2_with (go_at_call 28; refine (Try.stringslite_Clone s _ (by omega)).mono ?_; rintro e w1 ⟨rfl, hb⟩)
  go_ret
  exact ⟨rfl, hb⟩
theorem own_kept {w w' : World} {base n size : Nat} {e : TypeId} {v : Value} {xs : List Value} (h : w.ownsRow base e size v n xs) (hb : Below w.heap.size w w') : w'.ownsRow base e size v n xs := by
  refine h.kept (row := none) ⟨hb.os, hb.tape, hb.output, hb.size, fun k hk _ => hb.block k hk⟩ ?_
  rcases h.2 with ⟨rfl, _⟩ | ⟨g, cap, cur, rfl, _⟩
  · exact .inl rfl
  · exact .inr (by simp [Value.ownBlock])
/-- The cells behind k rounds. -/
def namesAt (ks : List (List UInt8)) (k : Nat) : List Value := (ks.take k).map (fun l => Value.string (S l)) ++ List.replicate (ks.length - k) (Value.string ⟨#[]⟩)
theorem namesAt_zero (ks : List (List UInt8)) : namesAt ks 0 = List.replicate ks.length (Value.string ⟨#[]⟩) := by simp [namesAt]
theorem namesAt_succ (ks : List (List UInt8)) (k : Nat) (h : k < ks.length) : (namesAt ks k).set k (Value.string (S ks[k])) = namesAt ks (k + 1) := by
  unfold namesAt
  have e : ks.length - k = (ks.length - (k + 1)) + 1 := by omega
  rw [e, List.replicate_succ, List.set_append_right _ _ (by simp; omega)]
  have e2 : k - ((ks.take k).map (fun l => Value.string (S l))).length = 0 := by simp; omega
  rw [e2, List.set_cons_zero, List.take_succ_eq_append_getElem h, List.map_append, List.map_singleton, List.append_assoc, List.singleton_append]
theorem namesAt_at (ks : List (List UInt8)) (k : Nat) (h : k < ks.length) : (namesAt ks k)[k]? = some (Value.string ⟨#[]⟩) := by
  unfold namesAt
  rw [List.getElem?_append_right (by simp; omega), List.getElem?_replicate, if_pos (by simp; omega)]
theorem namesAt_full (ks : List (List UInt8)) (j : Nat) (h : j < ks.length) : (namesAt ks ks.length)[j]? = some (Value.string (S ks[j])) := by
  simp [namesAt, h]

set_option maxHeartbeats 2000000 in
set_option maxRecDepth 100000 in
theorem elements_c (w : World) :
    Calls Try.prog 13 #[] w fun e w' => ∃ g, e = .returned (.slice (some ⟨g, 0, none⟩) 10 10) ∧ w.heap.size ≤ g ∧ (w'.ownsRow g 9 1 (.slice (some ⟨g, 0, none⟩) 10 10) 10 (namesAt elsL 10)) ∧ Below w.heap.size w w' := by
  obtain ⟨i0, hi, hz0, hz1, hz2⟩ := info_parts info_text
  go_enter Try.func13, Try.ntmps13
  go_wp2_with fail
  refine (specials_c _).mono ?_
  rintro e w1 ⟨gs, rfl, hs, hb1⟩
  have HS := Lib.hid hs
  have HB1 := Lib.hid hb1
  clear hs hb1
  go_wp2_with (at_make; refine wpList_make_full _ rfl _ _ 26 rfl w1.heap.size 9 i0 (.string ⟨#[]⟩) 1 Try.underlying26 hi hz0 hz1 .i64 .i64 (10 : Int) (10 : Int) 10 rfl rfl rfl rfl (by rw [hz2]; decide) (by unfold maxLen; decide) (Nat.le_refl _) ?_; intro w2 hown hgrow)
  have H1 := Lib.hid (And.intro hown hgrow)
  clear hown hgrow
  generalize hg : w1.heap.size = g at *
  go_loopw [3, 4, 11] (fun _ _ i wr => ∃ k : Nat, k ≤ 10 ∧ i = .int .i64 k ∧ Hid (wr.ownsRow g 9 1 (.slice (some ⟨g, 0, none⟩) 10 10) 10 (namesAt elsL k)) ∧ Hid (Below w1.heap.size w1 wr)) (fun _ _ i _ => 10 - (intOf i).toNat)
  case atStart =>
    obtain ⟨hown, hgrow⟩ := H1.out
    refine ⟨0, Nat.zero_le _, rfl, ?_, ?_⟩
    · rw [namesAt_zero, ← toList_madeCells_one]
      have h : w2.ownsRow g 9 1 (.slice (some ⟨g, 0, none⟩) 10 10) 10 (madeCells #[Value.string ⟨#[]⟩] 10).toList := by simpa [Value.cells] using hown
      exact h
    · exact (Below.refl _ w1).grown hgrow (by omega) (fun k hk => by cases hk)
  case round =>
    obtain ⟨k, hk, rfl, hrow, hbel⟩ := hrel
    clear H1
    by_cases hlt : k < 10
    · have hlt2 : k < elsL.length := hlt
      obtain ⟨c1, c2⟩ := (HS.out.kept hbel.out) k hlt2
      have hsz := hbel.out.size
      have hst : ∀ w3, Below wr.heap.size wr w3 → w3.cell? ⟨g, k, none⟩ = some (.string ⟨#[]⟩) ∧ w3.frozen? ⟨g, k, none⟩ = false := fun w3 h3 => by
        have h4 := own_kept hrow.out h3
        exact ⟨(h4.cellAt k hlt2).trans (namesAt_at elsL k hlt2), h4.frozenAt k⟩
      have HST := Lib.hid hst
      have hcl := fun W => tclone_c (S elsL[k]) W (by rw [size_S]; have : ∀ j : Fin 10, (elsL[j.val]).length ≤ 100 := by decide
                                                      have := this ⟨k, hlt⟩; simp only at this; omega)
      have HSUCC := Lib.hid (namesAt_succ elsL k hlt2)
      generalize S elsL[k] = T at c1 hcl HSUCC
      generalize (codeN k : Int) = cd at c2
      have i0 : (0 : Int) ≤ (k : Int) := by omega
      have i1 : (k : Int) < 10 := by omega
      clear hst
      go_wp2_with fail
      refine (hcl _).mono ?_
      rintro e w3 ⟨rfl, hb3⟩
      have B3 : Below wr.heap.size wr w3 := ((Below.refl _ wr).alloc (Nat.le_refl _) _).trans (hb3.mono (by simp))
      obtain ⟨x1, x2⟩ := HST.out w3 B3
      have H3 := Lib.hid B3
      clear hb3 hcl c1 c2 B3 HST
      go_wp2_with fail
      go_roundw
      case rel =>
        have st := (own_kept hrow.out H3.out).stored k (Value.string T)
        refine ⟨k + 1, by omega, by go_num, ?_, ?_⟩
        · have h := st.1
          rw [HSUCC.out] at h
          exact h
        · exact (hbel.out.trans (H3.out.mono (by omega))).setCell (by simp; omega) _
      case measure => simp [intOf]; omega
    · have hkn : k = 10 := by omega
      subst hkn
      go_wp2_with fail
      go_ret
      exact ⟨g, rfl, by have := HB1.out.size; omega, hrow.out, HB1.out.trans (hbel.out.mono HB1.out.size)⟩
end Go.Proofs.Ytoegnipnbdnllaa.Tab
