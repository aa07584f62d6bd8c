/-
  Contracts of strings.IndexAny and ContainsAny at the four octets that end a text or a value, whatever text they are sought in; and of Clean of package refs.
-/
import Derived.Test.YtamenccdnobjkaaDoorCrfRune
namespace Go.Proofs.YtamenccdnobjkaaDoor.Crf
open Go.RowKit Go.Proofs.YtamenccdnobjkaaDoor.Oct Go.Proofs.YtamenccdnobjkaaDoor.Num Go.Proofs.YtamenccdnobjkaaDoor.Utf
open Go.Lib (encodeRune)

abbrev fourL : List UInt8 := [60, 62, 34, 39]
theorem four_is (c : UInt8) : fourL.contains c = isFour c := by
  have h : ∀ c : Fin 256, fourL.contains (UInt8.ofNat c.val) = isFour (UInt8.ofNat c.val) := by decide +kernel
  have h2 := h ⟨c.toNat, c.toNat_lt⟩
  simpa using h2
theorem four_high (c : UInt8) (h : 128 ≤ c.toNat) : fourL.contains c = false := by
  have h1 : ∀ c : Fin 256, 128 ≤ (UInt8.ofNat c.val).toNat → fourL.contains (UInt8.ofNat c.val) = false := by decide +kernel
  have h2 := h1 ⟨c.toNat, c.toNat_lt⟩
  simp only [UInt8.ofNat_toNat] at h2
  exact h2 h
theorem no_more {l : List UInt8} {p k : Nat} (h : Lib.NoAny l fourL p) (hk : ∀ j (_ : p ≤ j) (_ : j < p + k) (hl : j < l.length), 128 ≤ l[j].toNat) : Lib.NoAny l fourL (p + k) := fun j b hj hb => by
  rcases Nat.lt_or_ge j p with h1 | h1
  · exact h j b h1 hb
  · obtain ⟨hl, hbe⟩ := List.getElem?_eq_some_iff.1 hb
    rw [← hbe]
    exact four_high _ (hk j h1 hj hl)

set_option maxHeartbeats 8000000 in
set_option maxRecDepth 100000 in
theorem any_short (l : List UInt8) (h8 : l.length ≤ 8) (w : World) :
    Calls Tryd.prog 51 #[.string (S l), .string four] w fun e w' => e = .returned (.int .i64 (Lib.indexAny l fourL)) ∧ Below w.heap.size w w' := by
  have hsu := fun w => Tryd.strings_shouldUseASCIISet ((S l).size : Int) w
  have h8z : decide ((8 : Int) < ((S l).size : Int)) = false := decide_eq_false (by rw [size_S]; omega)
  rw [h8z] at hsu
  have hz : (S l).size = l.length := size_S l
  have HLow := Lib.hid (fun (wr : World) (K p : Nat) (ty : TypeId) (hp : p < l.length) (hx : l[p].toNat < 128) (h : wr.heap[K]? = some (.stringIter (S l) p)) =>
    (by exact Lib.run_next_ascii_at (P := Tryd.prog) wr K (S l) p ty h (by rw [hz]; exact hp) hx : (Instr.next (.pointer (some ⟨K, 0, none⟩)) true ty).run Tryd.prog wr = .ok (.tuple #[.bool true, .int .i64 p, .int .i32 l[p].toNat]) (wr.iterAt K (S l) (p + 1))))
  have HHigh := Lib.hid (fun (wr : World) (K p r k : Nat) (ty : TypeId) (hp : p < l.length) (hd : Utf8.decode (S l) p = (r, k)) (h : wr.heap[K]? = some (.stringIter (S l) p)) =>
    (by
      have := Lib.run_next_any_at (P := Tryd.prog) wr K (S l) p ty h (by rw [hz]; exact hp)
      rw [hd] at this
      exact this : (Instr.next (.pointer (some ⟨K, 0, none⟩)) true ty).run Tryd.prog wr = .ok (.tuple #[.bool true, .int .i64 p, .int .i32 r]) (wr.iterAt K (S l) (p + k))))
  have HEnd := Lib.hid (fun (wr : World) (K : Nat) (ty : TypeId) (h : wr.heap[K]? = some (.stringIter (S l) l.length)) =>
    (by exact Lib.run_next_end_at (P := Tryd.prog) wr K (S l) _ ty h (by rw [hz]; omega) : (Instr.next (.pointer (some ⟨K, 0, none⟩)) true ty).run Tryd.prog wr = .ok (.tuple #[.bool false]) wr))
  have HD := Lib.hid (fun p (hp : p < l.length) (h : 128 ≤ l[p].toNat) => decode_high l p hp h)
  have H0 : Hid ((w.iter (S l) 0).heap[w.heap.size]? = some (.stringIter (S l) 0) ∧ Below w.heap.size w (w.iter (S l) 0)) := ⟨World.iter_heap w (S l) 0, (Below.refl _ w).alloc (Nat.le_refl _) _⟩
  clear hz h8z
  generalize S l = L at hsu HLow HHigh HEnd HD H0
  go_enter Tryd.func51, Tryd.ntmps51
  go_wp2_with (first | (go_at_call 63; refine (hsu _).mono ?_; rintro e w' ⟨rfl, rfl⟩))
  go_loopw [9, 10] (fun _ _ wr => ∃ p, p ≤ l.length ∧ Hid (wr.heap[w'.heap.size]? = some (.stringIter L p)) ∧ Hid (Below w'.heap.size w' wr) ∧ Hid (Lib.NoAny l fourL p)) (fun _ _ wr => l.length - wr.iterPos w'.heap.size)
  case atStart => exact ⟨0, Nat.zero_le _, H0.out.1, H0.out.2, Lib.NoAny.zero _ _⟩
  case round =>
    clear H0
    obtain ⟨p, hp, hI, hB, hno⟩ := hrel
    by_cases hlt : p < l.length
    · by_cases hx : l[p].toNat < 128
      · have hnx := fun ty => HLow.out wr w'.heap.size p ty hlt hx hI.out
        have hcon := Lib.contains_iff_indexByte fourL l[p]
        have hidx := fun w => Tryd.strings_IndexRune_ascii four (l[p].toNat : Int) w (by omega) (by omega)
        have hback : ((l[p].toNat : Int)).toNat.toUInt8 = l[p] := by simp
        rw [hback] at hidx
        have hI2 := Lib.iterAt_heap wr w'.heap.size L p (p + 1) hI.out
        have hB2 := Lib.below_iterAt hB.out (k := w'.heap.size) (Nat.le_refl _) L (p + 1)
        have hpos : wr.iterPos w'.heap.size = p := by simp [World.iterPos, hI.out]
        have hgx : l[p]? = some l[p] := List.getElem?_eq_getElem hlt
        cases hin : fourL.contains l[p] with
        | false =>
          rw [hin] at hcon
          have hneg : ¬ ((0 : Int) ≤ Lib.indexByte fourL l[p]) := of_decide_eq_false hcon.symm
          have HN : Hid (Lib.NoAny l fourL (p + 1)) := hno.out.succ hgx hin
          have HK := Lib.hid (And.intro hI2 (And.intro hB2 hpos))
          have hpos2 : (wr.iterAt w'.heap.size L (p + 1)).iterPos w'.heap.size = p + 1 := by simp [World.iterPos, hI2]
          have HP2 := Lib.hid hpos2
          clear hcon hback hgx hin hI2 hB2 hpos hpos2 hx
          have hidx2 : ∀ w, Calls Tryd.prog 62 #[.string four, .int .i32 (l[p].toNat : Int)] w fun e w' => e = .returned (.int .i64 (Lib.indexByte fourL l[p])) ∧ w' = w := hidx
          clear hidx
          generalize Lib.indexByte fourL l[p] = ix at hidx2 hneg
          generalize l[p].toNat = xn at hnx hidx2
          have hng : ix < 0 := by omega
          clear hneg
          go_wp2_with (first | (go_at_call 62; refine (hidx2 _).mono ?_; rintro e w2 ⟨rfl, rfl⟩))
          go_roundw
          case rel => exact ⟨p + 1, by omega, HK.out.1, HK.out.2.1, HN⟩
          case measure => rw [HK.out.2.2, HP2.out]; omega
        | true =>
          rw [hin] at hcon
          have hge : (0 : Int) ≤ Lib.indexByte fourL l[p] := of_decide_eq_true hcon.symm
          have HR : Hid (Lib.indexAny l fourL = p) := Lib.indexAny_hit hno.out hgx hin
          have HB2 := Lib.hid hB2
          clear hcon hback hgx hin hI2 hB2 hpos hx
          have hidx2 : ∀ w, Calls Tryd.prog 62 #[.string four, .int .i32 (l[p].toNat : Int)] w fun e w' => e = .returned (.int .i64 (Lib.indexByte fourL l[p])) ∧ w' = w := hidx
          clear hidx
          generalize Lib.indexByte fourL l[p] = ix at hidx2 hge
          generalize l[p].toNat = xn at hnx hidx2
          go_wp2_with (first | (go_at_call 62; refine (hidx2 _).mono ?_; rintro e w2 ⟨rfl, rfl⟩))
          go_ret
          exact ⟨by rw [HR.out]; rfl, HB2.out⟩
      · obtain ⟨r, k, hdec, hr0, hr1, hrc, hk1, hkl, hall⟩ := HD.out p hlt (by omega)
        have hnx := fun ty => HHigh.out wr w'.heap.size p r k ty hlt hdec hI.out
        have hidx : ∀ w, Calls Tryd.prog 62 #[.string four, .int .i32 (r : Int)] w fun e w' => e = .returned (.int .i64 (-1)) ∧ Below w.heap.size w w' := fun w => by
          by_cases hne : r = 65533
          · subst hne
            exact rune_bad w
          · exact rune_high r hr0 hr1 hrc hne w
        have hI2 := Lib.iterAt_heap wr w'.heap.size L p (p + k) hI.out
        have hB2 := Lib.below_iterAt hB.out (k := w'.heap.size) (Nat.le_refl _) L (p + k)
        have hpos : wr.iterPos w'.heap.size = p := by simp [World.iterPos, hI.out]
        have HN : Hid (Lib.NoAny l fourL (p + k)) := no_more hno.out hall
        have hKlt : w'.heap.size < (wr.iterAt w'.heap.size L (p + k)).heap.size := (Array.getElem?_eq_some_iff.1 hI2).1
        have HK : Hid (∀ w2, Below (wr.iterAt w'.heap.size L (p + k)).heap.size (wr.iterAt w'.heap.size L (p + k)) w2 → w2.heap[w'.heap.size]? = some (.stringIter L (p + k)) ∧ Below w'.heap.size w' w2 ∧ w2.iterPos w'.heap.size = p + k) := fun w2 h2 => by
          have e : w2.heap[w'.heap.size]? = some (.stringIter L (p + k)) := (h2.block _ hKlt).trans hI2
          exact ⟨e, hB2.trans (h2.mono (by omega)), by simp [World.iterPos, e]⟩
        have HP := Lib.hid hpos
        clear hdec hr0 hr1 hrc hall hI2 hB2 hpos hKlt hx
        generalize (r : Int) = R at hnx hidx
        go_wp2_with (first | (go_at_call 62; refine (hidx _).mono ?_; rintro e w2 ⟨rfl, hb2⟩; have HK2 := Lib.hid (HK.out _ hb2); clear hb2))
        go_roundw
        case rel => exact ⟨p + k, hkl, HK2.out.1, HK2.out.2.1, HN⟩
        case measure => rw [HP.out, HK2.out.2.2]; omega
    · have hpl : p = l.length := by omega
      subst hpl
      have hnx := fun ty => HEnd.out wr w'.heap.size ty hI.out
      have HR : Hid (Lib.indexAny l fourL = -1) := Lib.indexAny_none hno.out
      go_wp2_with fail
      go_ret
      exact ⟨by rw [HR.out]; rfl, hB.out⟩

theorem info_set : (Tryd.prog.info? 76).map (fun i => (i.zero, i.size)) = some (some (.agg (Array.replicate 256 (.bool false))), 256) := by kernel_rfl
theorem any_c (l : List UInt8) (hl : l.length < 4294967281) (w : World) :
    Calls Tryd.prog 51 #[.string (S l), .string four] w fun e w' => e = .returned (.int .i64 (Lib.indexAny l fourL)) ∧ Below w.heap.size w w' := by
  by_cases h8 : l.length ≤ 8
  · exact any_short l h8 w
  · have h := Tryd.strings_IndexAny_long (zero_of_info info_set).1 (S l) four w (by decide) (by rw [size_S]; omega) (by rw [size_S]; exact hl) (by decide) (fun j b h => by
      have : b ∈ fourL := List.mem_of_getElem? h
      simp only [List.mem_cons, List.not_mem_nil, or_false] at this
      rcases this with rfl | rfl | rfl | rfl <;> decide)
    rw [list_S] at h
    refine h.mono fun e w' ⟨h1, h2⟩ => ⟨h1, ?_⟩
    rw [h2]
    exact ((Below.refl _ _).alloc (Nat.le_refl _) _).alloc (by simp) _

theorem clean_any (l : List UInt8) : cleanL l = !decide ((0 : Int) ≤ Lib.indexAny l fourL) := by
  induction l with
  | nil => rfl
  | cons c l ih =>
    have e1 : cleanL (c :: l) = (!isFour c && cleanL l) := rfl
    have h1 := four_is c
    have hge := Lib.indexAny_ge fourL l
    rw [e1, Lib.indexAny]
    cases hc : isFour c with
    | true =>
      rw [hc] at h1
      rw [if_pos h1]
      rfl
    | false =>
      rw [hc] at h1
      rw [if_neg (by rw [h1]; simp), ih]
      by_cases hn : Lib.indexAny l fourL = -1
      · rw [hn]; rfl
      · rw [if_neg (by simpa using hn)]
        have a1 : (0 : Int) ≤ Lib.indexAny l fourL := by omega
        have a2 : (0 : Int) ≤ Lib.indexAny l fourL + 1 := by omega
        rw [decide_eq_true a1, decide_eq_true a2]
        rfl

theorem containsAny_c (l : List UInt8) (hl : l.length < 4294967281) (w : World) :
    Calls Tryd.prog 35 #[.string (S l), .string four] w fun e w' => e = .returned (.bool (!cleanL l)) ∧ Below w.heap.size w w' := by
  have hc := any_c l hl w
  have HC : Hid ((!cleanL l) = decide ((0 : Int) ≤ Lib.indexAny l fourL)) := by show _ = _; rw [clean_any]; simp
  generalize S l = L at hc
  generalize Lib.indexAny l fourL = ix at hc HC
  go_enter Tryd.func35, Tryd.ntmps35
  go_wp2_with (first | (go_at_call 51; refine hc.mono ?_; rintro e w2 ⟨rfl, hb2⟩))
  go_ret
  exact ⟨by rw [HC.out]; rfl, hb2⟩

/-- Contract of Clean. -/
theorem clean_c (l : List UInt8) (hl : l.length < 4294967281) (w : World) :
    Calls Tryd.prog 16 #[.string (S l)] w fun e w' => e = .returned (.bool (cleanL l)) ∧ Below w.heap.size w w' := by
  have hc := containsAny_c l hl w
  generalize S l = L at hc
  generalize cleanL l = q at hc
  go_enter Tryd.func16, Tryd.ntmps16
  go_wp2_with (first | (go_at_call 35; refine hc.mono ?_; rintro e w2 ⟨rfl, hb2⟩))
  go_ret
  exact ⟨by simp, hb2⟩
end Go.Proofs.YtamenccdnobjkaaDoor.Crf
