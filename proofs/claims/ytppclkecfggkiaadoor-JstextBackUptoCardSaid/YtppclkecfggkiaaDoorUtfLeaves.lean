/-
  Contracts of utf.character, Encode, Decode, and of the law's own num.
-/
import Derived.Test.YtppclkecfggkiaaDoorUtfPure
import Derived.Lib.Small
import Derived.Test.YtppclkecfggkiaaDoorMem
import Derived.Test.YtppclkecfggkiaaDoorShelf
namespace Go.Proofs.YtppclkecfggkiaaDoor.Utf
open Go.RowKit Go.Proofs.YtppclkecfggkiaaDoor.Oct Go.Proofs.YtppclkecfggkiaaDoor.Mem
open Go.Lib (encodeRune)

/-- Go's own two tables of characters' first octets, as they are laid. -/
def Tabs (w : World) : Prop := Lib.Utf8Tabs 1 2 w
theorem Tabs.kept {w w' : World} (h : Tabs w) (hb : Kept w w') : Tabs w' :=
  ⟨fun c hc => kept_cell hb (h.1 c hc), fun i hi => ⟨kept_cell hb (h.2 i hi).1, kept_cell hb (h.2 i hi).2⟩⟩

theorem valid_eq (c : Int) : Lib.validRune c = charB c := by unfold Lib.validRune charB isChar; rfl

theorem character_c (n : Int) (w : World) :
    Calls Tryd.prog 63 #[.int .i64 n] w fun e w' => e = .returned (.bool (charB n)) ∧ w = w' := by
  by_cases h0 : 0 ≤ n
  · by_cases h1 : n ≤ 1114111
    · have hv := fun w => Tryd.utf8_ValidRune n w
      simp only [valid_eq] at hv
      generalize charB n = b at hv
      go_enter Tryd.func63, Tryd.ntmps63
      go_wp2_with (go_at_call 51; refine (hv _).mono ?_; rintro e w' ⟨rfl, rfl⟩)
      go_ret
      exact ⟨rfl, rfl⟩
    · have hb : charB n = false := decide_eq_false (by unfold isChar; omega)
      rw [hb]
      have hd : decide (n ≤ 1114111) = false := by simpa using h1
      clear h1
      go_enter Tryd.func63, Tryd.ntmps63
      go_wp2_with fail
      go_ret
      exact ⟨rfl, rfl⟩
  · have hb : charB n = false := decide_eq_false (by unfold isChar; omega)
    rw [hb]
    have hd : decide (0 ≤ n) = false := by simpa using h0
    clear h0
    go_enter Tryd.func63, Tryd.ntmps63
    go_wp2_with fail
    go_ret
    exact ⟨rfl, rfl⟩

theorem runeCells_eq (c : Int) : Lib.runeCells c = (encodeRune c).map bv := (Lib.byteCells_encodeRune c).symm

theorem encode_no (c : Int) (w : World) (h : charB c = false) :
    Calls Tryd.prog 58 #[.int .i64 c] w fun e w' => e = .returned (.tuple #[.string ⟨#[]⟩, .int .i64 4]) ∧ Kept w w' := by
  have hc := fun w => character_c c w
  simp only [h] at hc
  clear h
  go_enter Tryd.func58, Tryd.ntmps58
  go_wp2_with (go_at_call 63; refine (hc _).mono ?_; rintro e w' ⟨rfl, rfl⟩)
  go_ret2
  exact ⟨rfl, Below.refl _ _⟩

set_option maxHeartbeats 1000000 in
theorem encode_yes (c : Int) (w : World) (h : charB c = true) :
    Calls Tryd.prog 58 #[.int .i64 c] w fun e w' => e = .returned (.tuple #[.string (S (encodeRune c)), .int .i64 0]) ∧ Kept w w' := by
  have hch : isChar c := of_decide_eq_true h
  have h0 : 0 ≤ c := by unfold isChar at hch; omega
  have h1 : c ≤ 1114111 := by unfold isChar at hch; omega
  clear hch
  have hc := fun w => character_c c w
  simp only [h] at hc
  clear h
  have ha := Tryd.utf8_AppendRune_plain w.heap.size (.slice none 0 0) 0 [] c (by omega) (by omega) w (World.ownsRow_nil _ _ _ _) (by omega) (Nat.le_refl _)
  go_enter Tryd.func58, Tryd.ntmps58
  go_wp2_with (go_at_call 63; refine (hc _).mono ?_; rintro e w' ⟨rfl, rfl⟩)
  refine ha.mono ?_
  rintro e w1 ⟨v, rfl, hown, o, hg⟩
  rw [List.nil_append, runeCells_eq] at hown
  have hcv := conv_own hown
  have hb : Kept w w1 := ((Below.refl _ w).alloc (Nat.le_refl _) o).grown hg (by simp) (fun k hk => by simp [Value.ownBlock] at hk)
  have HB := Lib.hid hb
  clear hb hg hown
  go_wp2
  go_ret2
  exact ⟨rfl, HB.out⟩

theorem decode_c (s : ByteArray) (w : World) (hT : Tabs w) :
    Calls Tryd.prog 55 #[.string s] w fun e w' => e = .returned (.tuple #[.int .i64 (dec s.data.toList).1, .int .i64 ((dec s.data.toList).2 : Nat)]) ∧ Kept w w' := by
  have hd := Tryd.utf8_DecodeRuneInString s w hT
  have E := go_dec s
  have hr := dec_range s.data.toList
  have hr2 : (dec s.data.toList).2 ≤ 4 := by
    by_cases hl : s.data.toList = []
    · rw [hl, dec_nil]; simp
    · exact (dec_width _ hl).2.1
  generalize dec s.data.toList = d at E hr hr2
  generalize Lib.decodeGo s = g at hd E
  obtain ⟨r, k⟩ := g
  simp only at hd E
  by_cases hr0 : r = 65533
  · subst hr0
    by_cases hk : k ≤ 1
    · rw [if_pos ⟨rfl, hk⟩] at E
      subst E
      have hk' : (k : Int) ≤ 1 := by omega
      go_enter Tryd.func55, Tryd.ntmps55
      go_wp2_with (go_at_call 59; refine hd.mono ?_; rintro e w' ⟨rfl, hb⟩)
      go_ret2
      exact ⟨rfl, hb⟩
    · rw [if_neg (by omega)] at E
      subst E
      have hk' : decide ((k : Int) ≤ 1) = false := by simp; omega
      have hk2 : decide (k ≤ 1) = false := by simp; omega
      go_enter Tryd.func55, Tryd.ntmps55
      go_wp2_with (go_at_call 59; refine hd.mono ?_; rintro e w' ⟨rfl, hb⟩)
      go_ret2
      exact ⟨rfl, hb⟩
  · rw [if_neg (by omega)] at E
    subst E
    have hb' : ((r : Int) == 65533) = false := by simp; omega
    have h0 : (0 : Int) ≤ (r : Int) := by omega
    have h1 : (r : Int) ≤ 1114111 := hr.2
    clear hr hr2
    go_enter Tryd.func55, Tryd.ntmps55
    go_wp2_with (go_at_call 59; refine hd.mono ?_; rintro e w' ⟨rfl, hb⟩)
    go_ret2
    exact ⟨rfl, hb⟩
end Go.Proofs.YtppclkecfggkiaaDoor.Utf
