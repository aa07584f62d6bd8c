/-
  Part 7: RdNumber, RdPart0, RdTok, RdPart, RdLeads, RdPut, RdValue.
-/
import Derived.Test.YtgfbednfiejlfaaGreatDoorLitCutsCardP6
import Derived.Test.YtgfbednfiejlfaaGreatDoorLitCutsCardP1
import Derived.Shelf.Strings.SlTrimAscii
import Derived.Test.YtgfbednfiejlfaaGreatDoorLitCutsCardP4
import Derived.Test.YtgfbednfiejlfaaGreatDoorLitCutsCardP2
/-
  Contract of the reader's number.
-/
namespace Go.Proofs.YtgfbednfiejlfaaGreatDoor.Rd
open Go.RowKit Go.Proofs.YtgfbednfiejlfaaGreatDoor.Oct Go.Proofs.YtgfbednfiejlfaaGreatDoor.Num Go.Proofs.YtgfbednfiejlfaaGreatDoor.Build Go.Proofs.YtgfbednfiejlfaaGreatDoor.Val Go.Proofs.YtgfbednfiejlfaaGreatDoor.Lit Go.Proofs.YtgfbednfiejlfaaGreatDoor.Tl

/-- The octets of numbers. -/
abbrev numCs : List UInt8 := [32, 45, 48, 49, 50, 51, 52, 53, 54, 55, 56, 57]
/-- What is told of a number. -/
def toldL (l : List UInt8) : List UInt8 := l.take (l.length - (Lib.trimLeftS l numCs).length)

theorem trim_c (l : List UInt8) (w : World) : Calls Tryz.prog 82 #[.string (S l), .string (S numCs)] w fun e w' => e = .returned (.string (S (Lib.trimLeftS l numCs))) ∧ Below w.heap.size w w' :=
  Any.strings_TrimLeft_ascii Tryz.lays161 (fun w => by kernel_rfl) (by kernel_rfl) (S l) (S numCs) w (by decide) (fun j b h => by
    have : b ∈ numCs := List.mem_of_getElem? h
    simp at this
    rcases this with rfl | rfl | rfl | rfl | rfl | rfl | rfl | rfl | rfl | rfl | rfl | rfl <;> decide)

/-- What number reads. -/
def numberP (l : List UInt8) : Option (Int × List UInt8) :=
  if (parseL (Lib.trimPrefix (toldL l) [32])).2 = 0 then
    if Lib.hasPrefix l (litI (parseL (Lib.trimPrefix (toldL l) [32])).1) then some ((parseL (Lib.trimPrefix (toldL l) [32])).1, l.drop (litI (parseL (Lib.trimPrefix (toldL l) [32])).1).length) else none
  else none

theorem trimLeft_le (l cs : List UInt8) : (Lib.trimLeftS l cs).length ≤ l.length := by
  unfold Lib.trimLeftS
  exact (List.dropWhile_suffix _).length_le

abbrev intV (n : Int) : Value := .agg #[.int .i64 3, .int .i64 n, .string ⟨#[]⟩, .slice none 0 0, .slice none 0 0]
abbrev asI (o : Option (Int × List UInt8)) : Option (Value × List UInt8) := o.map fun (a, t) => (intV a, t)

theorem int_c (n : Int) (w : World) : Calls Tryz.prog 85 #[.int .i64 n] w fun e w' => e = .returned (.agg #[.int .i64 3, .int .i64 n, .string ⟨#[]⟩, .slice none 0 0, .slice none 0 0]) ∧ Below w.heap.size w w' := by
  go_enter Tryz.func85, Tryz.ntmps85
  go_wp2
  refine bodyPost_ret (v := .agg #[.int .i64 3, .int .i64 n, .string ⟨#[]⟩, .slice none 0 0, .slice none 0 0]) (by simp [results, Tryz.results85, go_sem]) rfl ?_
  exact ⟨rfl, (Below.refl _ w).alloc (Nat.le_refl _) _⟩

theorem signed_range (u : Nat) (b : Bool) : -9223372036854775808 ≤ (signedL u b).1 ∧ (signedL u b).1 ≤ 9223372036854775807 := by
  unfold signedL
  cases b with
  | true =>
    rw [if_pos rfl]
    by_cases h : u ≤ 9223372036854775808
    · rw [if_pos h]; show _ ≤ -(u : Int) ∧ -(u : Int) ≤ _; omega
    · rw [if_neg h]; exact ⟨by decide, by decide⟩
  | false =>
    rw [if_neg (by simp)]
    by_cases h : u ≤ 9223372036854775807
    · rw [if_pos h]; show _ ≤ (u : Int) ∧ (u : Int) ≤ _; omega
    · rw [if_neg h]; exact ⟨by decide, by decide⟩
theorem zero_range (k : Nat) : -9223372036854775808 ≤ ((0, k) : Int × Nat).1 ∧ ((0, k) : Int × Nat).1 ≤ 9223372036854775807 := ⟨by show (-9223372036854775808 : Int) ≤ 0; decide, by show (0 : Int) ≤ 9223372036854775807; decide⟩
theorem parseT_range (b : Bool) (t : List UInt8) : -9223372036854775808 ≤ (parseT b t).1 ∧ (parseT b t).1 ≤ 9223372036854775807 := by
  unfold parseT
  split
  · exact zero_range _
  · split
    · exact zero_range _
    · split
      · exact zero_range _
      · split
        · exact zero_range _
        · exact signed_range _ _
theorem parseL_range (t : List UInt8) : -9223372036854775808 ≤ (parseL t).1 ∧ (parseL t).1 ≤ 9223372036854775807 := by
  unfold parseL
  split
  · exact parseT_range _ _
  · exact parseT_range _ _

theorem prefix_c (l : List UInt8) (w : World) : Calls Tryz.prog 84 #[.string (S l), .string (S [32])] w fun e w' => e = .returned (.string (S (Lib.trimPrefix l [32]))) ∧ w' = w := Tryz.strings_TrimPrefix (S l) (S [32]) w

abbrev zeroBox (w : World) : World := w.alloc (.cells #[.int .i64 0, .int .i64 0, .string ⟨#[]⟩, .slice none 0 0, .slice none 0 0] 26)

theorem num_chain {R : Nat} {w W6 W7 W8 : World} {L0 : ByteArray} {ov dv : Value} {v : Int} (hR : Rd R L0 ov dv (zeroBox w)) (hlt : R < w.heap.size)
    (h3 : Below (zeroBox w).drew.heap.size (zeroBox w).drew W6) (h7 : Below W6.heap.size W6 W7)
    (h8 : Below (W7.alloc (.cells #[.int .i64 3, .int .i64 v, .string ⟨#[]⟩, .slice none 0 0, .slice none 0 0] 26)).heap.size (W7.alloc (.cells #[.int .i64 3, .int .i64 v, .string ⟨#[]⟩, .slice none 0 0, .slice none 0 0] 26)) W8) :
    Rd R L0 ov dv W8 ∧ Save R w W8 ∧ Bx W8 w.heap.size (.int .i64 0) (.int .i64 0) (.string ⟨#[]⟩) (.slice none 0 0) (.slice none 0 0) ∧
      Bx W8 W7.heap.size (.int .i64 3) (.int .i64 v) (.string ⟨#[]⟩) (.slice none 0 0) (.slice none 0 0) ∧ W7.heap.size ≠ R ∧ w.heap.size ≠ R := by
  have hz : (zeroBox w).heap.size = w.heap.size + 1 := by simp
  have b3 : Below (zeroBox w).heap.size (zeroBox w) W6 := (Below.refl _ _).drew.trans h3
  have b7 : Below (zeroBox w).heap.size (zeroBox w) W7 := b3.trans (h7.mono b3.size)
  have b8 : Below (zeroBox w).heap.size (zeroBox w) W8 := (b7.alloc b7.size _).trans (h8.mono (by have := b7.size; simp at this ⊢; omega))
  have hs7 := b7.size
  refine ⟨hR.keep b8, Save.of (((Below.refl _ w).alloc (Nat.le_refl _) _).trans (b8.mono (by omega))), (Bx.new w _ _ _ _ _).keep b8, (Bx.new W7 _ _ _ _ _).keep h8, by omega, by omega⟩

set_option maxHeartbeats 4000000 in
set_option maxRecDepth 100000 in
theorem number_c (R : Nat) (l : List UInt8) (ov dv : Value) (w : World) (hl : l.length ≤ 1099511627776) (h : Rd R (S l) ov dv w) :
    Calls Tryz.prog 61 #[.pointer (some ⟨R, 0, none⟩)] w (Reads R ov dv w (asI (numberP l))) := by
  obtain ⟨w1, hw1⟩ : ∃ w1, w1 = w.alloc (.cells #[.int .i64 0, .int .i64 0, .string ⟨#[]⟩, .slice none 0 0, .slice none 0 0] 26) := ⟨_, rfl⟩
  have hb1 : Below w.heap.size w w1 := by rw [hw1]; exact (Below.refl _ w).alloc (Nat.le_refl _) _
  have hbx : Bx w1 w.heap.size (.int .i64 0) (.int .i64 0) (.string ⟨#[]⟩) (.slice none 0 0) (.slice none 0 0) := by rw [hw1]; exact Bx.new _ _ _ _ _ _
  have hR1 := h.keep hb1
  have hRlt := h.lt
  have HT := Lib.hid (fun W => trim_c l W)
  obtain ⟨n, hn⟩ : ∃ n, n = l.length - (Lib.trimLeftS l numCs).length := ⟨_, rfl⟩
  have hn2 := trimLeft_le l numCs
  have hn1 : (n : Int) ≤ ((S l).size : Int) := by rw [size_S]; omega
  have hn0 : (0 : Int) ≤ (n : Int) := by omega
  have hnw : IntKind.i64.wrap (n : Int) = n := by rw [IntKind.wrap_i64]; omega
  have hsub : ((S l).size : Int) - ((S (Lib.trimLeftS l numCs)).size : Int) = (n : Int) := by rw [size_S, size_S]; omega
  have hcut : (S l).extract 0 n = S (toldL l) := by rw [cut_front, hn]; rfl
  have HP := Lib.hid (fun W => prefix_c (toldL l) W)
  have hpl : (S (Lib.trimPrefix (toldL l) [32])).size ≤ 9223372036854775807 := by
    rw [size_S]
    have h1 : (toldL l).length ≤ l.length := by unfold toldL; rw [List.length_take]; omega
    have h2 : (Lib.trimPrefix (toldL l) [32]).length ≤ (toldL l).length := by unfold Lib.trimPrefix; split <;> simp
    omega
  have HQ := Lib.hid (fun W => parse_c (S (Lib.trimPrefix (toldL l) [32])) W hpl)
  rw [list_S] at HQ
  have hpr := parseL_range (Lib.trimPrefix (toldL l) [32])
  unfold numberP
  generalize parseL (Lib.trimPrefix (toldL l) [32]) = pr at HQ hpr ⊢
  obtain ⟨v, er⟩ := pr
  simp only at hpr HQ
  have c0 := hR1.cell0
  have HB := Lib.hid (And.intro hb1 (And.intro hbx (And.intro hR1 hRlt)))
  have HL := Lib.hid (fun W => literal_int v hpr.1 hpr.2 W)
  generalize Lib.trimPrefix (toldL l) [32] = T2 at HP HQ hpl
  rw [hw1] at c0 HB
  clear hb1 hbx hR1 h hn2 hn hw1
  generalize S (Lib.trimLeftS l numCs) = T1 at HT hsub
  obtain ⟨T3, hT3⟩ : ∃ T3, S (toldL l) = T3 := ⟨_, rfl⟩
  rw [hT3] at HP hcut
  clear hT3
  have HM := Lib.hid (fun W (h : Rd R (S l) ov dv W) => must_c R (S l) (S (litI v)) ov dv W h)
  simp only at HM
  unfold mustP at HM
  simp only
  have hwl : Hid (w.heap.size < (w.alloc (.cells #[.int .i64 0, .int .i64 0, .string ⟨#[]⟩, .slice none 0 0, .slice none 0 0] 26)).heap.size) := by show _ < _; simp
  generalize S l = L0 at HT HB HM hcut hsub hn1 c0
  by_cases he : er = 0
  · rw [if_pos he]
    subst he
    cases hp : Lib.hasPrefix l (litI v) with
    | false =>
      rw [hp] at HM
      go_enter Tryz.func61, Tryz.ntmps61
      go_wp2_with fail
      have c1 := HB.out.2.2.1.drew.cell0
      go_region_held3 (fun w' => w'.cell? ⟨R, 0, none⟩ = some (.string L0))
        (first | with_reducible exact c1 | with_reducible exact b0)
        (first
          | (go_at_call 82; refine (HT.out _).mono ?_; rintro e3 W3 ⟨rfl, h3⟩; have b0 := (HB.out.2.2.1.keep ((Below.refl _ _).drew.trans h3)).cell0; have H3 := Lib.hid h3; clear h3))
      go_wp2_with (first
        | (go_at_call 84; refine (HP.out _).mono ?_; rintro e4 W4 ⟨rfl, rfl⟩)
        | (go_at_call 83; refine (HQ.out _).mono ?_; rintro e5 W5 ⟨rfl, rfl⟩)
        | (go_at_call 30; refine (demand_yes _ _).mono ?_; rintro e6 W6 ⟨rfl, rfl⟩)
        | (go_at_call 85; refine (int_c _ _).mono ?_; rintro e7 W7 ⟨rfl, h7⟩; have H7 := Lib.hid h7; clear h7)
        | (go_at_call 12; refine (HL.out _).mono ?_; rintro e8 W8 ⟨rfl, h8⟩; have H8 := Lib.hid h8; clear h8)
        | (go_at_call 64; obtain ⟨k1, k2, k3, k4, k5, k6⟩ := num_chain HB.out.2.2.1 hRlt H3.out H7.out H8.out; refine (HM.out _ k1).mono ?_; rintro e9 W9 ⟨rfl, h9⟩; have H9 := Lib.hid h9; clear h9))
      exact ⟨rfl, rfl, k2.trans H9.out⟩
    | true =>
      rw [hp] at HM
      simp only [if_true] at HM
      go_enter Tryz.func61, Tryz.ntmps61
      go_wp2_with fail
      have c1 := HB.out.2.2.1.drew.cell0
      go_region_held3 (fun w' => w'.cell? ⟨R, 0, none⟩ = some (.string L0))
        (first | with_reducible exact c1 | with_reducible exact b0)
        (first
          | (go_at_call 82; refine (HT.out _).mono ?_; rintro e3 W3 ⟨rfl, h3⟩; have b0 := (HB.out.2.2.1.keep ((Below.refl _ _).drew.trans h3)).cell0; have H3 := Lib.hid h3; clear h3))
      go_wp2_with (first
        | (go_at_call 84; refine (HP.out _).mono ?_; rintro e4 W4 ⟨rfl, rfl⟩)
        | (go_at_call 83; refine (HQ.out _).mono ?_; rintro e5 W5 ⟨rfl, rfl⟩)
        | (go_at_call 30; refine (demand_yes _ _).mono ?_; rintro e6 W6 ⟨rfl, rfl⟩)
        | (go_at_call 85; refine (int_c _ _).mono ?_; rintro e7 W7 ⟨rfl, h7⟩; have H7 := Lib.hid h7; clear h7)
        | (go_at_call 12; refine (HL.out _).mono ?_; rintro e8 W8 ⟨rfl, h8⟩; have H8 := Lib.hid h8; clear h8)
        | (go_at_call 64; obtain ⟨k1, k2, k3, k4, k5, k6⟩ := num_chain HB.out.2.2.1 hRlt H3.out H7.out H8.out; refine (HM.out _ k1).mono ?_; rintro e9 W9 ⟨rfl, h9, h10⟩; have m3 := k3.save h10 k6; have m4 := k4.save h10 k5; obtain ⟨x0, x1, x2, x3, x4⟩ := m4.five; obtain ⟨y0, y1, y2, y3, y4⟩ := m3.five; obtain ⟨z0, z1, z2, z3, z4⟩ := m3.froz; have H9 := Lib.hid (And.intro h9 (And.intro h10 (And.intro k2 k6))); clear h9 h10 k1 k2 k3 k4 m3 m4))
      refine bodyPost_ret (v := .agg #[.int .i64 3, .int .i64 v, .string ⟨#[]⟩, .slice none 0 0, .slice none 0 0]) (by simp [results, Tryz.results61, go_sem, y0, y1, y2, y3, y4]) rfl ?_
      exact ⟨rfl, H9.out.1.st5 (Ne.symm H9.out.2.2.2) _ _ _ _ _, (H9.out.2.2.1.trans H9.out.2.1).st5 (Nat.le_refl _) _ _ _ _ _⟩
  · rw [if_neg he]
    have he' : ((er : Int) == 0) = false := by simp; omega
    go_enter Tryz.func61, Tryz.ntmps61
    go_wp2_with fail
    have c1 := HB.out.2.2.1.drew.cell0
    go_region_held3 (fun w' => w'.cell? ⟨R, 0, none⟩ = some (.string L0))
      (first | with_reducible exact c1 | with_reducible exact b0)
      (first
        | (go_at_call 82; refine (HT.out _).mono ?_; rintro e3 W3 ⟨rfl, h3⟩; have b0 := (HB.out.2.2.1.keep ((Below.refl _ _).drew.trans h3)).cell0; have H3 := Lib.hid h3; clear h3))
    go_wp2_with (first
      | (go_at_call 84; refine (HP.out _).mono ?_; rintro e4 W4 ⟨rfl, rfl⟩)
      | (go_at_call 83; refine (HQ.out _).mono ?_; rintro e5 W5 ⟨rfl, rfl⟩)
      | (go_at_call 30; refine (demand_no _ _).mono ?_; rintro e6 W6 ⟨rfl, rfl⟩))
    exact ⟨rfl, rfl, Save.of (HB.out.1.trans ((((Below.refl _ _).drew.trans H3.out)).mono (Nat.le_of_lt hwl.out)))⟩
end Go.Proofs.YtgfbednfiejlfaaGreatDoor.Rd

/-
  What the reader reads next, plainly.
-/
namespace Go.Proofs.YtgfbednfiejlfaaGreatDoor.Rd
open Go.RowKit Go.Proofs.YtgfbednfiejlfaaGreatDoor.Oct Go.Proofs.YtgfbednfiejlfaaGreatDoor.Val

/-- A fault; a value that is whole; or something ahead of a value. -/
inductive PR where
  | bad
  | val (x : V) (s : List UInt8) (fs : List Fr) (d : Nat)
  | more (s : List UInt8) (fs : List Fr) (d : Nat)

/-- A value with nothing in it. -/
abbrev leafV (k n : Int) (t : ByteArray) : V := .mk k n t [] []

/-- Those that have begun, with a key for the innermost one. -/
def keyP (fs : List Fr) (key : ByteArray) : Option (List Fr) :=
  match fs.getLast? with
  | none => none
  | some f => if f.kind = 6 ∧ f.ks.length = f.xs.length then some (fs.dropLast ++ [{ f with ks := f.ks ++ [key] }]) else none

def beginP (k : Int) (s : List UInt8) (fs : List Fr) (d : Nat) : PR :=
  if Lib.hasPrefix s (endL k) then .val (fresh0 k).val (s.drop 1) fs (max d (fs.length + 1)) else .more s (fs ++ [fresh0 k]) (max d (fs.length + 1))

def textOrKeyP (s : List UInt8) (fs : List Fr) (d : Nat) : PR :=
  match textP s with
  | none => .bad
  | some (a, t) =>
    if Lib.hasPrefix t [58] then
      match keyP fs (S a) with
      | none => .bad
      | some fs' => .more (t.drop 1) fs' d
    else .val (leafV 4 0 (S a)) t fs d

def partP (s : List UInt8) (fs : List Fr) (d : Nat) : PR :=
  if Lib.hasPrefix s [110, 117, 108, 108] then .val (leafV 0 0 ⟨#[]⟩) (s.drop 4) fs d
  else if Lib.hasPrefix s [102, 97, 108, 115, 101] then .val (leafV 1 0 ⟨#[]⟩) (s.drop 5) fs d
  else if Lib.hasPrefix s [116, 114, 117, 101] then .val (leafV 2 0 ⟨#[]⟩) (s.drop 4) fs d
  else if Lib.hasPrefix s [91] then beginP 5 (s.drop 1) fs d
  else if Lib.hasPrefix s [123] then beginP 6 (s.drop 1) fs d
  else if Lib.hasPrefix s [34] then textOrKeyP s fs d
  else match numberP s with
    | none => .bad
    | some (n, t) => .val (leafV 3 n ⟨#[]⟩) t fs d

/-- What such a call leaves. -/
def PartTo (N : Nat) (tag : Nat → Nat) (w : World) (R : Nat) (r : PR) (en : Ending) (w' : World) : Prop :=
  match r with
  | .bad => en = Fault 33 ∧ ∃ tag', Kp tag tag' w w'
  | .val x s fs d => ∃ e tag' ov' es', en = .returned (.tuple #[agg5 e, .bool true]) ∧ RdAt N tag' w' R s fs d ov' es' ∧ Kp tag tag' w w' ∧ Holds (Dn N tag' w') w' (agg5 e) x
  | .more s fs d => ∃ tag' ov' es', en = .returned (.tuple #[.agg #[.int .i64 0, .int .i64 0, .string ⟨#[]⟩, .slice none 0 0, .slice none 0 0], .bool false]) ∧ RdAt N tag' w' R s fs d ov' es' ∧ Kp tag tag' w w'

theorem leaf_holds {C : Cond} {w : World} (k n : Int) (t : ByteArray) (hk : -9223372036854775808 ≤ k ∧ k ≤ 9223372036854775807) (hn : -9223372036854775808 ≤ n ∧ n ≤ 9223372036854775807) (ht : t.size ≤ 140737488351232) :
    Holds C w (.agg #[.int .i64 k, .int .i64 n, .string t, .slice none 0 0, .slice none 0 0]) (leafV k n t) :=
  .mk k n t none 0 (.slice none 0 0) [] [] 0 0 (fun _ _ => undef) ⟨hk.1, hk.2, hn.1, hn.2, ht, by simp⟩ (fun h => absurd h (by simp)) (fun i j h => absurd h (by simp)) ⟨none, 0, 0, 0, rfl, ⟨by simp, fun s hs => absurd hs (by simp)⟩, fun h => absurd h (by simp), fun i h => absurd h (by simp)⟩ (fun i h => absurd h (by simp))

theorem begin_part {N : Nat} {tag : Nat → Nat} {w w' : World} {R : Nat} {s : List UInt8} {fs : List Fr} {k : Int} {d : Nat} {en : Ending} (h : BeginTo N tag w R s fs k d en w') : PartTo N tag w R (beginP k s fs d) en w' := by
  unfold BeginTo at h
  unfold beginP
  split at h
  · rename_i hp; rw [if_pos hp]; exact h
  · rename_i hp; rw [if_neg hp]; exact h
end Go.Proofs.YtgfbednfiejlfaaGreatDoor.Rd

/-
  Contract of the reader's textOrKey.
-/
namespace Go.Proofs.YtgfbednfiejlfaaGreatDoor.Rd
open Go.RowKit Go.Proofs.YtgfbednfiejlfaaGreatDoor.Oct Go.Proofs.YtgfbednfiejlfaaGreatDoor.Val Go.Proofs.YtgfbednfiejlfaaGreatDoor.Utf

/-- Go's two tables lie below N. -/
def TabN (N : Nat) (w : World) : Prop := ∀ W, Below N w W → Tabs W
theorem TabN.to {N : Nat} {w W : World} (h : TabN N w) (hb : Below N w W) : TabN N W := fun X hX => h X (hb.trans hX)
theorem RdAt.base {N : Nat} {tag : Nat → Nat} {w : World} {R : Nat} {s : List UInt8} {fs : List Fr} {deep : Nat} {ov : Value} {es : List E5} (h : RdAt N tag w R s fs deep ov es) : N ≤ R := by
  rcases Nat.lt_or_ge R N with h1 | h1
  · have := h.out R (.inl h1); rw [h.rmark] at this; omega
  · exact h1
theorem RdAt.low {N : Nat} {tag : Nat → Nat} {w : World} {R : Nat} {s : List UInt8} {fs : List Fr} {deep : Nat} {ov : Value} {es : List E5} (h : RdAt N tag w R s fs deep ov es) {tag' : Nat → Nat} {W : World} (hk : Kp tag tag' w W) : Below N w W :=
  hk.below h.size (fun b hb => h.out b (.inl hb))

theorem zero_box {N : Nat} {tag : Nat → Nat} {w : World} {R : Nat} {s : List UInt8} {fs : List Fr} {deep : Nat} {ov : Value} {es : List E5} (h : RdAt N tag w R s fs deep ov es) :
    RdAt N tag (zBox w) R s fs deep ov es ∧ Bx (zBox w) w.heap.size (.int .i64 0) (.int .i64 0) (.string ⟨#[]⟩) (.slice none 0 0) (.slice none 0 0) ∧ Kp tag tag w (zBox w) ∧ tag w.heap.size = 1 ∧ w.heap.size ≠ R :=
  ⟨h.alloc _, Bx.new _ _ _ _ _ _, Kp.of ((Below.refl _ w).alloc (Nat.le_refl _) _), h.out _ (.inr (Nat.le_refl _)), by have := h.rd.lt; omega⟩

/-- A value is written into the result's box, and told. -/
theorem part_val {N : Nat} {tag tag' : Nat → Nat} {w W : World} {R : Nat} {s : List UInt8} {fs : List Fr} {d : Nat} {ov : Value} {es : List E5} {x : V} (h : RdAt N tag' W R s fs d ov es) (hk : Kp tag tag' w W) (ht : tag' w.heap.size = 1) {v0 v1 v2 v3 v4 : Value}
    (hh : Holds (Dn N tag' W) W (.agg #[v0, v1, v2, v3, v4]) x) (Z : World) (hZ : Z = st5 W w.heap.size v0 v1 v2 v3 v4) :
    PartTo N tag w R (.val x s fs d) (.returned (.tuple #[.agg #[v0, v1, v2, v3, v4], .bool true])) Z := by
  have a1 := h.st5 ht v0 v1 v2 v3 v4
  have a2 := hk.own (st5_below (Below.refl _ W) (Nat.le_refl _) v0 v1 v2 v3 v4)
  have a3 := holds_dn (tag' := tag') hh (fun b hb h0 => st5_other W v0 v1 v2 v3 v4 (fun e => by rw [e, ht] at h0; cases h0)) (fun _ _ h => h)
  rw [← hZ] at a1 a2 a3
  exact ⟨(v0, v1, v2, v3, v4), tag', _, _, rfl, a1, a2, a3⟩
theorem part_more {N : Nat} {tag tag' : Nat → Nat} {w W : World} {R : Nat} {s : List UInt8} {fs : List Fr} {d : Nat} {ov : Value} {es : List E5} (h : RdAt N tag' W R s fs d ov es) (hk : Kp tag tag' w W) (ht : tag' w.heap.size = 1)
    (Z : World) (hZ : Z = st5 W w.heap.size (.int .i64 0) (.int .i64 0) (.string ⟨#[]⟩) (.slice none 0 0) (.slice none 0 0)) :
    PartTo N tag w R (.more s fs d) (.returned (.tuple #[.agg #[.int .i64 0, .int .i64 0, .string ⟨#[]⟩, .slice none 0 0, .slice none 0 0], .bool false])) Z := by
  have a1 := h.st5 ht (.int .i64 0) (.int .i64 0) (.string ⟨#[]⟩) (.slice none 0 0) (.slice none 0 0)
  have a2 := hk.own (st5_below (Below.refl _ W) (Nat.le_refl _) (.int .i64 0) (.int .i64 0) (.string ⟨#[]⟩) (.slice none 0 0) (.slice none 0 0))
  rw [← hZ] at a1 a2
  exact ⟨tag', _, _, rfl, a1, a2⟩

/-- What putKey leaves, whatever has begun. -/
def KeyOf (N : Nat) (tag : Nat → Nat) (w : World) (R : Nat) (s : List UInt8) (o : Option (List Fr)) (d : Nat) (en : Ending) (w' : World) : Prop :=
  match o with
  | some fs => en = .returned (.tuple #[]) ∧ ∃ tag' ov' es', RdAt N tag' w' R s fs d ov' es' ∧ Kp tag tag' w w'
  | none => en = Fault 33 ∧ Kp tag tag w w'

theorem keyOf_c (N : Nat) (tag : Nat → Nat) (w : World) (R : Nat) (s : List UInt8) (fs : List Fr) (deep : Nat) (ov : Value) (es : List E5) (h : RdAt N tag w R s fs deep ov es) (key : ByteArray) (hkey : key.size ≤ 140737488351232)
    (hk : ∀ f ∈ fs, f.ks.length + 1 ≤ 1099511627776) (hm : fs.length ≤ 1099511627776) :
    Calls Tryz.prog 81 #[.pointer (some ⟨R, 0, none⟩), .string key] w (KeyOf N tag w R s (keyP fs key) deep) := by
  rcases List.eq_nil_or_concat fs with rfl | ⟨fs0, f, rfl⟩
  · exact key_none N tag w R s deep ov es h key
  · rw [List.concat_eq_append] at h hk hm ⊢
    refine (key_c N tag w R s fs0 f deep ov es h key hkey (hk f (by simp)) (by simpa using hm)).mono fun en w' hh => ?_
    unfold KeyTo at hh
    unfold keyP
    rw [List.getLast?_concat, List.dropLast_concat]
    simp only
    by_cases hc : f.kind = 6 ∧ f.ks.length = f.xs.length
    · rw [if_pos hc] at hh ⊢; exact hh
    · rw [if_neg hc] at hh ⊢; exact hh

set_option maxHeartbeats 4000000 in
set_option maxRecDepth 100000 in
theorem textOrKey_c (N : Nat) (tag : Nat → Nat) (w : World) (R : Nat) (s : List UInt8) (fs : List Fr) (d : Nat) (ov : Value) (es : List E5) (h : RdAt N tag w R s fs d ov es) (hl : s.length ≤ 1099511627776)
    (hk : ∀ f ∈ fs, f.ks.length + 1 ≤ 1099511627776) (hm : fs.length ≤ 1099511627776) (hT : TabN N w) :
    Calls Tryz.prog 60 #[.pointer (some ⟨R, 0, none⟩)] w (PartTo N tag w R (textOrKeyP s fs d)) := by
  obtain ⟨z1, z2, z3, z4, z5⟩ := zero_box h
  have htx := text_c R s ov (.int .i64 d) (zBox w) hl z1.rd (fun W hs => hT W (h.low (z3.trans (Kp.save h.rmark hs))))
  unfold textOrKeyP
  have HZ := Lib.hid (And.intro z1 (And.intro z2 (And.intro z3 (And.intro z4 z5))))
  clear z1 z2 z3 h
  cases hk1 : textP s with
  | none =>
    rw [hk1] at htx
    go_enter Tryz.func60, Tryz.ntmps60
    go_wp2_with (go_at_call 80; refine htx.mono ?_; rintro e1 W1 ⟨rfl, h1⟩)
    exact ⟨rfl, rfl, tag, HZ.out.2.2.1.trans (Kp.save HZ.out.1.rmark h1)⟩
  | some q =>
    obtain ⟨a, t⟩ := q
    rw [hk1] at htx
    have hal : (S a).size ≤ 1099511627776 := by
      unfold textP at hk1
      cases hi : innerP s with
      | none => rw [hi] at hk1; cases hk1
      | some q =>
        obtain ⟨a', t'⟩ := q
        rw [hi] at hk1
        simp only at hk1
        have := (inner_len hi).1
        split at hk1
        · injection hk1 with h1
          injection h1 with h2 h3
          rw [size_S, ← h2]
          omega
        · cases hk1
    simp only
    have HTK := Lib.hid (fun W (hr : Rd R (S t) ov (.int .i64 d) W) => takes_c R (S t) (S [58]) ov (.int .i64 d) W hr)
    simp only at HTK
    unfold takesP at HTK
    have hd1 : ([58] : List UInt8).length = 1 := rfl
    rw [hd1] at HTK
    cases hp : Lib.hasPrefix t [58] with
    | false =>
      rw [hp] at HTK
      simp only [Bool.false_eq_true, if_false] at HTK ⊢
      go_enter Tryz.func60, Tryz.ntmps60
      go_wp2_with (first
        | (go_at_call 80; refine htx.mono ?_; rintro e1 W1 ⟨rfl, h1, h2⟩; have H1 := Lib.hid (And.intro h1 h2); clear h1 h2)
        | (go_at_call 45; refine (HTK.out _ H1.out.1).mono ?_; rintro e2 W2 ⟨rfl, h3, h4⟩; have r2 := (HZ.out.1.read H1.out.1 H1.out.2).read h3 h4; have b2 := (HZ.out.2.1.save H1.out.2 z5).save h4 z5; obtain ⟨y0, y1, y2, y3, y4⟩ := b2.five; obtain ⟨t0, t1, t2, t3, t4⟩ := b2.froz; have H2 := Lib.hid (And.intro r2 (HZ.out.2.2.1.trans ((Kp.save HZ.out.1.rmark H1.out.2).trans (Kp.save HZ.out.1.rmark h4)))); clear h3 h4 r2 b2))
      refine bodyPost_ret (v := .tuple #[.agg #[.int .i64 4, .int .i64 0, .string (S a), .slice none 0 0, .slice none 0 0], .bool true]) (by simp [results, Tryz.results60, go_sem, y0, y1, y2, y3, y4]) rfl ?_
      have fin := fun Z hZ => part_val (w := w) H2.out.1 H2.out.2 z4 (leaf_holds 4 0 (S a) (by decide) (by decide) (by omega)) Z hZ
      exact fin _ rfl
    | true =>
      rw [hp] at HTK
      simp only [if_true] at HTK ⊢
      have HKY := Lib.hid (fun W (hr : RdAt N tag W R (t.drop 1) fs d ov es) => keyOf_c N tag W R (t.drop 1) fs d ov es hr (S a) (by omega) hk hm)
      cases hky : keyP fs (S a) with
      | none =>
        rw [hky] at HKY
        go_enter Tryz.func60, Tryz.ntmps60
        go_wp2_with (first
          | (go_at_call 80; refine htx.mono ?_; rintro e1 W1 ⟨rfl, h1, h2⟩; have H1 := Lib.hid (And.intro h1 h2); clear h1 h2)
          | (go_at_call 45; refine (HTK.out _ H1.out.1).mono ?_; rintro e2 W2 ⟨rfl, h3, h4⟩; have H2 := Lib.hid (And.intro h3 h4); clear h3 h4)
          | (go_at_call 81; refine (HKY.out _ ((HZ.out.1.read H1.out.1 H1.out.2).read H2.out.1 H2.out.2)).mono ?_; rintro e3 W3 ⟨rfl, h5⟩))
        exact ⟨rfl, rfl, tag, (HZ.out.2.2.1.trans ((Kp.save HZ.out.1.rmark H1.out.2).trans (Kp.save HZ.out.1.rmark H2.out.2))).trans h5⟩
      | some fs' =>
        rw [hky] at HKY
        go_enter Tryz.func60, Tryz.ntmps60
        go_wp2_with (first
          | (go_at_call 80; refine htx.mono ?_; rintro e1 W1 ⟨rfl, h1, h2⟩; have H1 := Lib.hid (And.intro h1 h2); clear h1 h2)
          | (go_at_call 45; refine (HTK.out _ H1.out.1).mono ?_; rintro e2 W2 ⟨rfl, h3, h4⟩; have H2 := Lib.hid (And.intro h3 h4); clear h3 h4)
          | (go_at_call 81; refine (HKY.out _ ((HZ.out.1.read H1.out.1 H1.out.2).read H2.out.1 H2.out.2)).mono ?_; rintro e3 W3 ⟨rfl, tag', ov', es', h5, h6⟩; obtain ⟨b3, b4⟩ := ((HZ.out.2.1.save H1.out.2 z5).save H2.out.2 z5).kp h6 z4; obtain ⟨y0, y1, y2, y3, y4⟩ := b3.five; obtain ⟨t0, t1, t2, t3, t4⟩ := b3.froz; have H3 := Lib.hid (And.intro h5 (And.intro ((HZ.out.2.2.1.trans ((Kp.save HZ.out.1.rmark H1.out.2).trans (Kp.save HZ.out.1.rmark H2.out.2))).trans h6) b4)); clear h5 h6 b3 b4))
        refine bodyPost_ret (v := .tuple #[.agg #[.int .i64 0, .int .i64 0, .string ⟨#[]⟩, .slice none 0 0, .slice none 0 0], .bool false]) (by simp [results, Tryz.results60, go_sem, y0, y1, y2, y3, y4]) rfl ?_
        have fin := fun Z hZ => part_more (w := w) H3.out.1 H3.out.2.1 H3.out.2.2 Z hZ
        exact fin _ rfl
end Go.Proofs.YtgfbednfiejlfaaGreatDoor.Rd

/-
  Contract of the reader's part.
-/
namespace Go.Proofs.YtgfbednfiejlfaaGreatDoor.Rd
open Go.RowKit Go.Proofs.YtgfbednfiejlfaaGreatDoor.Oct Go.Proofs.YtgfbednfiejlfaaGreatDoor.Val Go.Proofs.YtgfbednfiejlfaaGreatDoor.Num Go.Proofs.YtgfbednfiejlfaaGreatDoor.Tl

/-- Within part: the reader, and the result's box, still empty. -/
def InAt (N : Nat) (tag : Nat → Nat) (w : World) (R : Nat) (s : List UInt8) (fs : List Fr) (d : Nat) (ov : Value) (es : List E5) (W : World) : Prop :=
  RdAt N tag W R s fs d ov es ∧ Kp tag tag w W ∧ Bx W w.heap.size (.int .i64 0) (.int .i64 0) (.string ⟨#[]⟩) (.slice none 0 0) (.slice none 0 0) ∧ tag w.heap.size = 1

theorem takes_in {N : Nat} {tag : Nat → Nat} {w W : World} {R : Nat} {s : List UInt8} {fs : List Fr} {d : Nat} {ov : Value} {es : List E5} (p : List UInt8) (b : Bool) (hb : Lib.hasPrefix s p = b) (h : InAt N tag w R s fs d ov es W) :
    Calls Tryz.prog 45 #[.pointer (some ⟨R, 0, none⟩), .string (S p)] W fun e w' => e = .returned (.bool b) ∧ InAt N tag w R (if b then s.drop p.length else s) fs d ov es w' := by
  obtain ⟨h1, h2, h3, h4⟩ := h
  have hq : w.heap.size ≠ R := fun e => by rw [e, h1.rmark] at h4; omega
  refine (takes_c R (S s) (S p) ov (.int .i64 d) W h1.rd).mono ?_
  rintro e w' ⟨rfl, h5, h6⟩
  have hx : takesP (S p).data.toList (S s).data.toList = (b, if b then s.drop p.length else s) := by
    simp only
    unfold takesP
    rw [hb]
    cases b <;> rfl
  rw [hx] at h5 ⊢
  exact ⟨rfl, h1.read h5 h6, h2.trans (Kp.save h1.rmark h6), h3.save h6 hq, h4⟩

theorem number_range {s t : List UInt8} {n : Int} (h : numberP s = some (n, t)) : -9223372036854775808 ≤ n ∧ n ≤ 9223372036854775807 := by
  unfold numberP at h
  split at h
  · split at h
    · injection h with h
      injection h with h1 h2
      rw [← h1]
      exact parseL_range _
    · cases h
  · cases h

/-- What a call within part hands on. -/
theorem part_on {N : Nat} {tag : Nat → Nat} {w W W' : World} {R : Nat} {s : List UInt8} {fs : List Fr} {d : Nat} {ov : Value} {es : List E5} (h : InAt N tag w R s fs d ov es W) {s' : List UInt8} {fs' : List Fr} {d' : Nat} {ov' : Value} {es' : List E5} {tag' : Nat → Nat}
    (h1 : RdAt N tag' W' R s' fs' d' ov' es') (h2 : Kp tag tag' W W') : RdAt N tag' W' R s' fs' d' ov' es' ∧ Kp tag tag' w W' ∧ Bx W' w.heap.size (.int .i64 0) (.int .i64 0) (.string ⟨#[]⟩) (.slice none 0 0) (.slice none 0 0) ∧ tag' w.heap.size = 1 := by
  obtain ⟨b1, b2⟩ := h.2.2.1.kp h2 h.2.2.2
  exact ⟨h1, h.2.1.trans h2, b1, b2⟩

set_option maxHeartbeats 4000000 in
set_option maxRecDepth 100000 in
theorem part_leaf0 (N : Nat) (tag : Nat → Nat) (w : World) (R : Nat) (s : List UInt8) (fs : List Fr) (d : Nat) (ov : Value) (es : List E5) (h : RdAt N tag w R s fs d ov es) (hp0 : Lib.hasPrefix s [110, 117, 108, 108] = true) :
    Calls Tryz.prog 43 #[.pointer (some ⟨R, 0, none⟩)] w (PartTo N tag w R (.val (leafV 0 0 ⟨#[]⟩) (s.drop 4) fs d)) := by
    have H0 : Hid (InAt N tag w R s fs d ov es (zBox w)) := by
      obtain ⟨z1, z2, z3, z4, z5⟩ := zero_box h
      exact ⟨z1, z3, z2, z4⟩
    clear h
    go_enter Tryz.func43, Tryz.ntmps43
    go_wp2_with fail
    refine (takes_in [110, 117, 108, 108] true hp0 H0.out).mono ?_
    rintro e1 W1 ⟨rfl, h1⟩
    simp only [if_true] at h1
    obtain ⟨y0, y1, y2, y3, y4⟩ := h1.2.2.1.five
    obtain ⟨t0, t1, t2, t3, t4⟩ := h1.2.2.1.froz
    have H1 := Lib.hid h1
    clear h1
    go_wp2_with fail
    refine bodyPost_ret (v := .tuple #[.agg #[.int .i64 0, .int .i64 0, .string ⟨#[]⟩, .slice none 0 0, .slice none 0 0], .bool true]) (by simp [results, Tryz.results43, go_sem, y0, y1, y2, y3, y4]) rfl ?_
    have fin := fun Z hZ => part_val (w := w) H1.out.1 H1.out.2.1 H1.out.2.2.2 (leaf_holds 0 0 ⟨#[]⟩ (by decide) (by decide) (by decide)) Z hZ
    exact fin _ rfl

set_option maxHeartbeats 4000000 in
set_option maxRecDepth 100000 in
theorem part_leaf1 (N : Nat) (tag : Nat → Nat) (w : World) (R : Nat) (s : List UInt8) (fs : List Fr) (d : Nat) (ov : Value) (es : List E5) (h : RdAt N tag w R s fs d ov es) (hp0 : Lib.hasPrefix s [110, 117, 108, 108] = false) (hp1 : Lib.hasPrefix s [102, 97, 108, 115, 101] = true) :
    Calls Tryz.prog 43 #[.pointer (some ⟨R, 0, none⟩)] w (PartTo N tag w R (.val (leafV 1 0 ⟨#[]⟩) (s.drop 5) fs d)) := by
    have H0 : Hid (InAt N tag w R s fs d ov es (zBox w)) := by
      obtain ⟨z1, z2, z3, z4, z5⟩ := zero_box h
      exact ⟨z1, z3, z2, z4⟩
    clear h
    go_enter Tryz.func43, Tryz.ntmps43
    go_wp2_with fail
    refine (takes_in [110, 117, 108, 108] false hp0 H0.out).mono ?_
    rintro e1 W1 ⟨rfl, h1⟩
    simp only [Bool.false_eq_true, if_false] at h1
    have H1 := Lib.hid h1
    clear h1
    go_wp2_with fail
    refine (takes_in [102, 97, 108, 115, 101] true hp1 H1.out).mono ?_
    rintro e2 W2 ⟨rfl, h2⟩
    simp only [if_true] at h2
    obtain ⟨y0, y1, y2, y3, y4⟩ := h2.2.2.1.five
    obtain ⟨t0, t1, t2, t3, t4⟩ := h2.2.2.1.froz
    have H2 := Lib.hid h2
    clear h2
    go_wp2_with fail
    refine bodyPost_ret (v := .tuple #[.agg #[.int .i64 1, .int .i64 0, .string ⟨#[]⟩, .slice none 0 0, .slice none 0 0], .bool true]) (by simp [results, Tryz.results43, go_sem, y0, y1, y2, y3, y4]) rfl ?_
    have fin := fun Z hZ => part_val (w := w) H2.out.1 H2.out.2.1 H2.out.2.2.2 (leaf_holds 1 0 ⟨#[]⟩ (by decide) (by decide) (by decide)) Z hZ
    exact fin _ rfl

set_option maxHeartbeats 4000000 in
set_option maxRecDepth 100000 in
theorem part_leaf2 (N : Nat) (tag : Nat → Nat) (w : World) (R : Nat) (s : List UInt8) (fs : List Fr) (d : Nat) (ov : Value) (es : List E5) (h : RdAt N tag w R s fs d ov es) (hp0 : Lib.hasPrefix s [110, 117, 108, 108] = false) (hp1 : Lib.hasPrefix s [102, 97, 108, 115, 101] = false) (hp2 : Lib.hasPrefix s [116, 114, 117, 101] = true) :
    Calls Tryz.prog 43 #[.pointer (some ⟨R, 0, none⟩)] w (PartTo N tag w R (.val (leafV 2 0 ⟨#[]⟩) (s.drop 4) fs d)) := by
    have H0 : Hid (InAt N tag w R s fs d ov es (zBox w)) := by
      obtain ⟨z1, z2, z3, z4, z5⟩ := zero_box h
      exact ⟨z1, z3, z2, z4⟩
    clear h
    go_enter Tryz.func43, Tryz.ntmps43
    go_wp2_with fail
    refine (takes_in [110, 117, 108, 108] false hp0 H0.out).mono ?_
    rintro e1 W1 ⟨rfl, h1⟩
    simp only [Bool.false_eq_true, if_false] at h1
    have H1 := Lib.hid h1
    clear h1
    go_wp2_with fail
    refine (takes_in [102, 97, 108, 115, 101] false hp1 H1.out).mono ?_
    rintro e2 W2 ⟨rfl, h2⟩
    simp only [Bool.false_eq_true, if_false] at h2
    have H2 := Lib.hid h2
    clear h2
    go_wp2_with fail
    refine (takes_in [116, 114, 117, 101] true hp2 H2.out).mono ?_
    rintro e3 W3 ⟨rfl, h3⟩
    simp only [if_true] at h3
    obtain ⟨y0, y1, y2, y3, y4⟩ := h3.2.2.1.five
    obtain ⟨t0, t1, t2, t3, t4⟩ := h3.2.2.1.froz
    have H3 := Lib.hid h3
    clear h3
    go_wp2_with fail
    refine bodyPost_ret (v := .tuple #[.agg #[.int .i64 2, .int .i64 0, .string ⟨#[]⟩, .slice none 0 0, .slice none 0 0], .bool true]) (by simp [results, Tryz.results43, go_sem, y0, y1, y2, y3, y4]) rfl ?_
    have fin := fun Z hZ => part_val (w := w) H3.out.1 H3.out.2.1 H3.out.2.2.2 (leaf_holds 2 0 ⟨#[]⟩ (by decide) (by decide) (by decide)) Z hZ
    exact fin _ rfl

set_option maxHeartbeats 4000000 in
set_option maxRecDepth 100000 in
theorem part_begin5 (N : Nat) (tag : Nat → Nat) (w : World) (R : Nat) (s : List UInt8) (fs : List Fr) (d : Nat) (ov : Value) (es : List E5) (h : RdAt N tag w R s fs d ov es) (hp0 : Lib.hasPrefix s [110, 117, 108, 108] = false) (hp1 : Lib.hasPrefix s [102, 97, 108, 115, 101] = false) (hp2 : Lib.hasPrefix s [116, 114, 117, 101] = false) (hp3 : Lib.hasPrefix s [91] = true) (hm : fs.length + 1 ≤ 1099511627776) :
    Calls Tryz.prog 43 #[.pointer (some ⟨R, 0, none⟩)] w (PartTo N tag w R (beginP 5 (s.drop 1) fs d)) := by
    have H0 : Hid (InAt N tag w R s fs d ov es (zBox w)) := by
      obtain ⟨z1, z2, z3, z4, z5⟩ := zero_box h
      exact ⟨z1, z3, z2, z4⟩
    clear h
    obtain ⟨r, hr⟩ : ∃ r, r = beginP 5 (s.drop 1) fs d := ⟨_, rfl⟩
    have HR := Lib.hid hr
    rw [← hr]
    clear hr
    go_enter Tryz.func43, Tryz.ntmps43
    go_wp2_with fail
    refine (takes_in [110, 117, 108, 108] false hp0 H0.out).mono ?_
    rintro e1 W1 ⟨rfl, h1⟩
    simp only [Bool.false_eq_true, if_false] at h1
    have H1 := Lib.hid h1
    clear h1
    go_wp2_with fail
    refine (takes_in [102, 97, 108, 115, 101] false hp1 H1.out).mono ?_
    rintro e2 W2 ⟨rfl, h2⟩
    simp only [Bool.false_eq_true, if_false] at h2
    have H2 := Lib.hid h2
    clear h2
    go_wp2_with fail
    refine (takes_in [116, 114, 117, 101] false hp2 H2.out).mono ?_
    rintro e3 W3 ⟨rfl, h3⟩
    simp only [Bool.false_eq_true, if_false] at h3
    have H3 := Lib.hid h3
    clear h3
    go_wp2_with fail
    refine (takes_in [91] true hp3 H3.out).mono ?_
    rintro e4 W4 ⟨rfl, h4⟩
    simp only [if_true] at h4
    have H4 := Lib.hid h4
    clear h4
    have hb := begin_c N tag W4 R (s.drop 1) fs 5 (by omega) d ov es H4.out.1 hm
    have hb2 := hb.mono fun en w' hh => begin_part hh
    clear hb
    rw [← HR.out] at hb2
    clear HR
    have HC := Lib.hid (hb2)
    cases r with
    | bad =>
      go_wp2_with fail
      refine HC.out.mono ?_
      rintro e8 W8 ⟨rfl, tg, h8⟩
      exact ⟨rfl, rfl, tg, H4.out.2.1.trans h8⟩
    | val x s' fs' d' =>
      go_wp2_with fail
      refine HC.out.mono ?_
      rintro e8 W8 ⟨⟨v0, v1, v2, v3, v4⟩, tg, ov', es', rfl, f1, f2, f3⟩
      obtain ⟨g1, g2, g3, g4⟩ := part_on H4.out f1 f2
      obtain ⟨k2, n2, s2, p2, a2, b3, q2, r2, d2, rfl, rfl, rfl, rfl, rfl⟩ := holds_parts f3
      obtain ⟨y0, y1, y2, y3, y4⟩ := g3.five
      obtain ⟨t0, t1, t2, t3, t4⟩ := g3.froz
      have H8 := Lib.hid (And.intro g1 (And.intro g2 (And.intro g4 f3)))
      clear f1 f2 f3 g1 g2 g3 g4
      go_wp2_with fail
      refine bodyPost_ret (v := .tuple #[.agg #[.int .i64 k2, .int .i64 n2, .string s2, .slice p2 a2 b3, .slice q2 r2 d2], .bool true]) (by simp [results, Tryz.results43, go_sem, y0, y1, y2, y3, y4]) rfl ?_
      have fin := fun Z hZ => part_val (w := w) H8.out.1 H8.out.2.1 H8.out.2.2.1 H8.out.2.2.2 Z hZ
      exact fin _ rfl
    | more s' fs' d' =>
      go_wp2_with fail
      refine HC.out.mono ?_
      rintro e8 W8 ⟨tg, ov', es', rfl, f1, f2⟩
      obtain ⟨g1, g2, g3, g4⟩ := part_on H4.out f1 f2
      obtain ⟨y0, y1, y2, y3, y4⟩ := g3.five
      obtain ⟨t0, t1, t2, t3, t4⟩ := g3.froz
      have H8 := Lib.hid (And.intro g1 (And.intro g2 g4))
      clear f1 f2 g1 g2 g3 g4
      go_wp2_with fail
      refine bodyPost_ret (v := .tuple #[.agg #[.int .i64 0, .int .i64 0, .string ⟨#[]⟩, .slice none 0 0, .slice none 0 0], .bool false]) (by simp [results, Tryz.results43, go_sem, y0, y1, y2, y3, y4]) rfl ?_
      have fin := fun Z hZ => part_more (w := w) H8.out.1 H8.out.2.1 H8.out.2.2 Z hZ
      exact fin _ rfl

set_option maxHeartbeats 4000000 in
set_option maxRecDepth 100000 in
theorem part_begin6 (N : Nat) (tag : Nat → Nat) (w : World) (R : Nat) (s : List UInt8) (fs : List Fr) (d : Nat) (ov : Value) (es : List E5) (h : RdAt N tag w R s fs d ov es) (hp0 : Lib.hasPrefix s [110, 117, 108, 108] = false) (hp1 : Lib.hasPrefix s [102, 97, 108, 115, 101] = false) (hp2 : Lib.hasPrefix s [116, 114, 117, 101] = false) (hp3 : Lib.hasPrefix s [91] = false) (hp4 : Lib.hasPrefix s [123] = true) (hm : fs.length + 1 ≤ 1099511627776) :
    Calls Tryz.prog 43 #[.pointer (some ⟨R, 0, none⟩)] w (PartTo N tag w R (beginP 6 (s.drop 1) fs d)) := by
    have H0 : Hid (InAt N tag w R s fs d ov es (zBox w)) := by
      obtain ⟨z1, z2, z3, z4, z5⟩ := zero_box h
      exact ⟨z1, z3, z2, z4⟩
    clear h
    obtain ⟨r, hr⟩ : ∃ r, r = beginP 6 (s.drop 1) fs d := ⟨_, rfl⟩
    have HR := Lib.hid hr
    rw [← hr]
    clear hr
    go_enter Tryz.func43, Tryz.ntmps43
    go_wp2_with fail
    refine (takes_in [110, 117, 108, 108] false hp0 H0.out).mono ?_
    rintro e1 W1 ⟨rfl, h1⟩
    simp only [Bool.false_eq_true, if_false] at h1
    have H1 := Lib.hid h1
    clear h1
    go_wp2_with fail
    refine (takes_in [102, 97, 108, 115, 101] false hp1 H1.out).mono ?_
    rintro e2 W2 ⟨rfl, h2⟩
    simp only [Bool.false_eq_true, if_false] at h2
    have H2 := Lib.hid h2
    clear h2
    go_wp2_with fail
    refine (takes_in [116, 114, 117, 101] false hp2 H2.out).mono ?_
    rintro e3 W3 ⟨rfl, h3⟩
    simp only [Bool.false_eq_true, if_false] at h3
    have H3 := Lib.hid h3
    clear h3
    go_wp2_with fail
    refine (takes_in [91] false hp3 H3.out).mono ?_
    rintro e4 W4 ⟨rfl, h4⟩
    simp only [Bool.false_eq_true, if_false] at h4
    have H4 := Lib.hid h4
    clear h4
    go_wp2_with fail
    refine (takes_in [123] true hp4 H4.out).mono ?_
    rintro e5 W5 ⟨rfl, h5⟩
    simp only [if_true] at h5
    have H5 := Lib.hid h5
    clear h5
    have hb := begin_c N tag W5 R (s.drop 1) fs 6 (by omega) d ov es H5.out.1 hm
    have hb2 := hb.mono fun en w' hh => begin_part hh
    clear hb
    rw [← HR.out] at hb2
    clear HR
    have HC := Lib.hid (hb2)
    cases r with
    | bad =>
      go_wp2_with fail
      refine HC.out.mono ?_
      rintro e8 W8 ⟨rfl, tg, h8⟩
      exact ⟨rfl, rfl, tg, H5.out.2.1.trans h8⟩
    | val x s' fs' d' =>
      go_wp2_with fail
      refine HC.out.mono ?_
      rintro e8 W8 ⟨⟨v0, v1, v2, v3, v4⟩, tg, ov', es', rfl, f1, f2, f3⟩
      obtain ⟨g1, g2, g3, g4⟩ := part_on H5.out f1 f2
      obtain ⟨k2, n2, s2, p2, a2, b3, q2, r2, d2, rfl, rfl, rfl, rfl, rfl⟩ := holds_parts f3
      obtain ⟨y0, y1, y2, y3, y4⟩ := g3.five
      obtain ⟨t0, t1, t2, t3, t4⟩ := g3.froz
      have H8 := Lib.hid (And.intro g1 (And.intro g2 (And.intro g4 f3)))
      clear f1 f2 f3 g1 g2 g3 g4
      go_wp2_with fail
      refine bodyPost_ret (v := .tuple #[.agg #[.int .i64 k2, .int .i64 n2, .string s2, .slice p2 a2 b3, .slice q2 r2 d2], .bool true]) (by simp [results, Tryz.results43, go_sem, y0, y1, y2, y3, y4]) rfl ?_
      have fin := fun Z hZ => part_val (w := w) H8.out.1 H8.out.2.1 H8.out.2.2.1 H8.out.2.2.2 Z hZ
      exact fin _ rfl
    | more s' fs' d' =>
      go_wp2_with fail
      refine HC.out.mono ?_
      rintro e8 W8 ⟨tg, ov', es', rfl, f1, f2⟩
      obtain ⟨g1, g2, g3, g4⟩ := part_on H5.out f1 f2
      obtain ⟨y0, y1, y2, y3, y4⟩ := g3.five
      obtain ⟨t0, t1, t2, t3, t4⟩ := g3.froz
      have H8 := Lib.hid (And.intro g1 (And.intro g2 g4))
      clear f1 f2 g1 g2 g3 g4
      go_wp2_with fail
      refine bodyPost_ret (v := .tuple #[.agg #[.int .i64 0, .int .i64 0, .string ⟨#[]⟩, .slice none 0 0, .slice none 0 0], .bool false]) (by simp [results, Tryz.results43, go_sem, y0, y1, y2, y3, y4]) rfl ?_
      have fin := fun Z hZ => part_more (w := w) H8.out.1 H8.out.2.1 H8.out.2.2 Z hZ
      exact fin _ rfl

set_option maxHeartbeats 4000000 in
set_option maxRecDepth 100000 in
theorem part_text (N : Nat) (tag : Nat → Nat) (w : World) (R : Nat) (s : List UInt8) (fs : List Fr) (d : Nat) (ov : Value) (es : List E5) (h : RdAt N tag w R s fs d ov es) (hp0 : Lib.hasPrefix s [110, 117, 108, 108] = false) (hp1 : Lib.hasPrefix s [102, 97, 108, 115, 101] = false) (hp2 : Lib.hasPrefix s [116, 114, 117, 101] = false) (hp3 : Lib.hasPrefix s [91] = false) (hp4 : Lib.hasPrefix s [123] = false) (hq : Lib.hasPrefix s [34] = true) (hl : s.length ≤ 1099511627776) (hk : ∀ f ∈ fs, f.ks.length + 1 ≤ 1099511627776) (hm : fs.length + 1 ≤ 1099511627776) (hT : TabN N w) (h0low : Hid (∀ W, Kp tag tag w W → Below N w W)) :
    Calls Tryz.prog 43 #[.pointer (some ⟨R, 0, none⟩)] w (PartTo N tag w R (textOrKeyP s fs d)) := by
    have H0 : Hid (InAt N tag w R s fs d ov es (zBox w)) := by
      obtain ⟨z1, z2, z3, z4, z5⟩ := zero_box h
      exact ⟨z1, z3, z2, z4⟩
    clear h
    obtain ⟨r, hr⟩ : ∃ r, r = textOrKeyP s fs d := ⟨_, rfl⟩
    have HR := Lib.hid hr
    rw [← hr]
    clear hr
    go_enter Tryz.func43, Tryz.ntmps43
    go_wp2_with fail
    refine (takes_in [110, 117, 108, 108] false hp0 H0.out).mono ?_
    rintro e1 W1 ⟨rfl, h1⟩
    simp only [Bool.false_eq_true, if_false] at h1
    have H1 := Lib.hid h1
    clear h1
    go_wp2_with fail
    refine (takes_in [102, 97, 108, 115, 101] false hp1 H1.out).mono ?_
    rintro e2 W2 ⟨rfl, h2⟩
    simp only [Bool.false_eq_true, if_false] at h2
    have H2 := Lib.hid h2
    clear h2
    go_wp2_with fail
    refine (takes_in [116, 114, 117, 101] false hp2 H2.out).mono ?_
    rintro e3 W3 ⟨rfl, h3⟩
    simp only [Bool.false_eq_true, if_false] at h3
    have H3 := Lib.hid h3
    clear h3
    go_wp2_with fail
    refine (takes_in [91] false hp3 H3.out).mono ?_
    rintro e4 W4 ⟨rfl, h4⟩
    simp only [Bool.false_eq_true, if_false] at h4
    have H4 := Lib.hid h4
    clear h4
    go_wp2_with fail
    refine (takes_in [123] false hp4 H4.out).mono ?_
    rintro e5 W5 ⟨rfl, h5⟩
    simp only [Bool.false_eq_true, if_false] at h5
    have c0 := h5.1.rd.cell0
    have H5 := Lib.hid h5
    clear h5
    have hh := fun W => hasPrefix_S s [34] W
    rw [hq] at hh
    have htk := textOrKey_c N tag W5 R s fs d ov es H5.out.1 hl hk (by omega) (hT.to (h0low.out W5 H5.out.2.1))
    rw [← HR.out] at htk
    clear HR
    go_wp2_with fail
    refine (hh _).mono ?_
    rintro e6 W6 ⟨rfl, rfl⟩
    clear c0
    have HC := Lib.hid (htk)
    cases r with
    | bad =>
      go_wp2_with fail
      refine HC.out.mono ?_
      rintro e8 W8 ⟨rfl, tg, h8⟩
      exact ⟨rfl, rfl, tg, H5.out.2.1.trans h8⟩
    | val x s' fs' d' =>
      go_wp2_with fail
      refine HC.out.mono ?_
      rintro e8 W8 ⟨⟨v0, v1, v2, v3, v4⟩, tg, ov', es', rfl, f1, f2, f3⟩
      obtain ⟨g1, g2, g3, g4⟩ := part_on H5.out f1 f2
      obtain ⟨k2, n2, s2, p2, a2, b3, q2, r2, d2, rfl, rfl, rfl, rfl, rfl⟩ := holds_parts f3
      obtain ⟨y0, y1, y2, y3, y4⟩ := g3.five
      obtain ⟨t0, t1, t2, t3, t4⟩ := g3.froz
      have H8 := Lib.hid (And.intro g1 (And.intro g2 (And.intro g4 f3)))
      clear f1 f2 f3 g1 g2 g3 g4
      go_wp2_with fail
      refine bodyPost_ret (v := .tuple #[.agg #[.int .i64 k2, .int .i64 n2, .string s2, .slice p2 a2 b3, .slice q2 r2 d2], .bool true]) (by simp [results, Tryz.results43, go_sem, y0, y1, y2, y3, y4]) rfl ?_
      have fin := fun Z hZ => part_val (w := w) H8.out.1 H8.out.2.1 H8.out.2.2.1 H8.out.2.2.2 Z hZ
      exact fin _ rfl
    | more s' fs' d' =>
      go_wp2_with fail
      refine HC.out.mono ?_
      rintro e8 W8 ⟨tg, ov', es', rfl, f1, f2⟩
      obtain ⟨g1, g2, g3, g4⟩ := part_on H5.out f1 f2
      obtain ⟨y0, y1, y2, y3, y4⟩ := g3.five
      obtain ⟨t0, t1, t2, t3, t4⟩ := g3.froz
      have H8 := Lib.hid (And.intro g1 (And.intro g2 g4))
      clear f1 f2 g1 g2 g3 g4
      go_wp2_with fail
      refine bodyPost_ret (v := .tuple #[.agg #[.int .i64 0, .int .i64 0, .string ⟨#[]⟩, .slice none 0 0, .slice none 0 0], .bool false]) (by simp [results, Tryz.results43, go_sem, y0, y1, y2, y3, y4]) rfl ?_
      have fin := fun Z hZ => part_more (w := w) H8.out.1 H8.out.2.1 H8.out.2.2 Z hZ
      exact fin _ rfl

set_option maxHeartbeats 4000000 in
set_option maxRecDepth 100000 in
theorem part_number (N : Nat) (tag : Nat → Nat) (w : World) (R : Nat) (s : List UInt8) (fs : List Fr) (d : Nat) (ov : Value) (es : List E5) (h : RdAt N tag w R s fs d ov es) (hp0 : Lib.hasPrefix s [110, 117, 108, 108] = false) (hp1 : Lib.hasPrefix s [102, 97, 108, 115, 101] = false) (hp2 : Lib.hasPrefix s [116, 114, 117, 101] = false) (hp3 : Lib.hasPrefix s [91] = false) (hp4 : Lib.hasPrefix s [123] = false) (hq : Lib.hasPrefix s [34] = false) (hl : s.length ≤ 1099511627776) :
    Calls Tryz.prog 43 #[.pointer (some ⟨R, 0, none⟩)] w (PartTo N tag w R (match numberP s with | none => .bad | some (n, t) => .val (leafV 3 n ⟨#[]⟩) t fs d)) := by
    have H0 : Hid (InAt N tag w R s fs d ov es (zBox w)) := by
      obtain ⟨z1, z2, z3, z4, z5⟩ := zero_box h
      exact ⟨z1, z3, z2, z4⟩
    clear h
    cases hn : numberP s with
    | none =>
      simp only
      go_enter Tryz.func43, Tryz.ntmps43
      go_wp2_with fail
      refine (takes_in [110, 117, 108, 108] false hp0 H0.out).mono ?_
      rintro e1 W1 ⟨rfl, h1⟩
      simp only [Bool.false_eq_true, if_false] at h1
      have H1 := Lib.hid h1
      clear h1
      go_wp2_with fail
      refine (takes_in [102, 97, 108, 115, 101] false hp1 H1.out).mono ?_
      rintro e2 W2 ⟨rfl, h2⟩
      simp only [Bool.false_eq_true, if_false] at h2
      have H2 := Lib.hid h2
      clear h2
      go_wp2_with fail
      refine (takes_in [116, 114, 117, 101] false hp2 H2.out).mono ?_
      rintro e3 W3 ⟨rfl, h3⟩
      simp only [Bool.false_eq_true, if_false] at h3
      have H3 := Lib.hid h3
      clear h3
      go_wp2_with fail
      refine (takes_in [91] false hp3 H3.out).mono ?_
      rintro e4 W4 ⟨rfl, h4⟩
      simp only [Bool.false_eq_true, if_false] at h4
      have H4 := Lib.hid h4
      clear h4
      go_wp2_with fail
      refine (takes_in [123] false hp4 H4.out).mono ?_
      rintro e5 W5 ⟨rfl, h5⟩
      simp only [Bool.false_eq_true, if_false] at h5
      have c0 := h5.1.rd.cell0
      have H5 := Lib.hid h5
      clear h5
      have hh := fun W => hasPrefix_S s [34] W
      rw [hq] at hh
      have hnb := number_c R s ov (.int .i64 d) W5 hl H5.out.1.rd
      go_wp2_with fail
      refine (hh _).mono ?_
      rintro e6 W6 ⟨rfl, rfl⟩
      clear c0
      rw [hn] at hnb
      go_wp2_with fail
      refine hnb.mono ?_
      rintro e8 W8 ⟨rfl, h8⟩
      exact ⟨rfl, rfl, tag, H5.out.2.1.trans (Kp.save H5.out.1.rmark h8)⟩
    | some q =>
      obtain ⟨n, t⟩ := q
      simp only
      go_enter Tryz.func43, Tryz.ntmps43
      go_wp2_with fail
      refine (takes_in [110, 117, 108, 108] false hp0 H0.out).mono ?_
      rintro e1 W1 ⟨rfl, h1⟩
      simp only [Bool.false_eq_true, if_false] at h1
      have H1 := Lib.hid h1
      clear h1
      go_wp2_with fail
      refine (takes_in [102, 97, 108, 115, 101] false hp1 H1.out).mono ?_
      rintro e2 W2 ⟨rfl, h2⟩
      simp only [Bool.false_eq_true, if_false] at h2
      have H2 := Lib.hid h2
      clear h2
      go_wp2_with fail
      refine (takes_in [116, 114, 117, 101] false hp2 H2.out).mono ?_
      rintro e3 W3 ⟨rfl, h3⟩
      simp only [Bool.false_eq_true, if_false] at h3
      have H3 := Lib.hid h3
      clear h3
      go_wp2_with fail
      refine (takes_in [91] false hp3 H3.out).mono ?_
      rintro e4 W4 ⟨rfl, h4⟩
      simp only [Bool.false_eq_true, if_false] at h4
      have H4 := Lib.hid h4
      clear h4
      go_wp2_with fail
      refine (takes_in [123] false hp4 H4.out).mono ?_
      rintro e5 W5 ⟨rfl, h5⟩
      simp only [Bool.false_eq_true, if_false] at h5
      have c0 := h5.1.rd.cell0
      have H5 := Lib.hid h5
      clear h5
      have hh := fun W => hasPrefix_S s [34] W
      rw [hq] at hh
      have hnb := number_c R s ov (.int .i64 d) W5 hl H5.out.1.rd
      go_wp2_with fail
      refine (hh _).mono ?_
      rintro e6 W6 ⟨rfl, rfl⟩
      clear c0
      have hr := number_range hn
      rw [hn] at hnb
      go_wp2_with fail
      refine hnb.mono ?_
      rintro e8 W8 ⟨rfl, h8, h9⟩
      obtain ⟨g1, g2, g3, g4⟩ := part_on H5.out (H5.out.1.read h8 h9) (Kp.save H5.out.1.rmark h9)
      obtain ⟨y0, y1, y2, y3, y4⟩ := g3.five
      obtain ⟨t0, t1, t2, t3, t4⟩ := g3.froz
      have H8 := Lib.hid (And.intro g1 (And.intro g2 g4))
      clear h8 h9 g1 g2 g3 g4
      go_wp2_with fail
      refine bodyPost_ret (v := .tuple #[.agg #[.int .i64 3, .int .i64 n, .string ⟨#[]⟩, .slice none 0 0, .slice none 0 0], .bool true]) (by simp [results, Tryz.results43, go_sem, y0, y1, y2, y3, y4]) rfl ?_
      have fin := fun Z hZ => part_val (w := w) H8.out.1 H8.out.2.1 H8.out.2.2 (leaf_holds 3 n ⟨#[]⟩ (by decide) hr (by decide)) Z hZ
      exact fin _ rfl


theorem part_c (N : Nat) (tag : Nat → Nat) (w : World) (R : Nat) (s : List UInt8) (fs : List Fr) (d : Nat) (ov : Value) (es : List E5) (h : RdAt N tag w R s fs d ov es) (hl : s.length ≤ 1099511627776)
    (hk : ∀ f ∈ fs, f.ks.length + 1 ≤ 1099511627776) (hm : fs.length + 1 ≤ 1099511627776) (hT : TabN N w) :
    Calls Tryz.prog 43 #[.pointer (some ⟨R, 0, none⟩)] w (PartTo N tag w R (partP s fs d)) := by
  unfold partP
  cases hp0 : Lib.hasPrefix s [110, 117, 108, 108] with
  | true => exact part_leaf0 N tag w R s fs d ov es h hp0
  | false =>
  cases hp1 : Lib.hasPrefix s [102, 97, 108, 115, 101] with
  | true => exact part_leaf1 N tag w R s fs d ov es h hp0 hp1
  | false =>
  cases hp2 : Lib.hasPrefix s [116, 114, 117, 101] with
  | true => exact part_leaf2 N tag w R s fs d ov es h hp0 hp1 hp2
  | false =>
  cases hp3 : Lib.hasPrefix s [91] with
  | true => exact part_begin5 N tag w R s fs d ov es h hp0 hp1 hp2 hp3 hm
  | false =>
  cases hp4 : Lib.hasPrefix s [123] with
  | true => exact part_begin6 N tag w R s fs d ov es h hp0 hp1 hp2 hp3 hp4 hm
  | false =>
  cases hq : Lib.hasPrefix s [34] with
  | true => exact part_text N tag w R s fs d ov es h hp0 hp1 hp2 hp3 hp4 hq hl hk hm hT (fun W hk => h.low hk)
  | false => exact part_number N tag w R s fs d ov es h hp0 hp1 hp2 hp3 hp4 hq hl
end Go.Proofs.YtgfbednfiejlfaaGreatDoor.Rd

/-
  The reader as a plain machine: its steps, and how far they come.
-/
namespace Go.Proofs.YtgfbednfiejlfaaGreatDoor.Rd
open Go.Proofs.YtgfbednfiejlfaaGreatDoor.Oct Go.Proofs.YtgfbednfiejlfaaGreatDoor.Val Go.Proofs.YtgfbednfiejlfaaGreatDoor.Lit

/-- Where the reader stands: ahead of a part, or behind a value that is whole. -/
inductive Cfg where
  | loop (s : List UInt8) (fs : List Fr) (d : Nat)
  | close (x : V) (s : List UInt8) (fs : List Fr) (d : Nat)
inductive Out where
  | bad
  | done (x : V) (s : List UInt8) (d : Nat)

/-- The innermost one with one more value. -/
abbrev Fr.add (f : Fr) (x : V) : Fr := { f with xs := f.xs ++ [x] }

def step : Cfg → Sum Cfg Out
  | .loop s fs d =>
    match partP s fs d with
    | .bad => .inr .bad
    | .val x s' fs' d' => .inl (.close x s' fs' d')
    | .more s' fs' d' => .inl (.loop s' fs' d')
  | .close x s fs d =>
    match fs.getLast? with
    | none => .inr (.done x s d)
    | some f =>
      if Lib.hasPrefix s [44] then .inl (.loop (s.drop 1) (fs.dropLast ++ [f.add x]) d)
      else if Lib.hasPrefix s (endL f.kind) then .inl (.close (f.add x).val (s.drop 1) fs.dropLast d)
      else .inr .bad

inductive Leads : Cfg → Out → Prop where
  | stop {c : Cfg} {o : Out} (h : step c = .inr o) : Leads c o
  | next {c c' : Cfg} {o : Out} (h : step c = .inl c') (k : Leads c' o) : Leads c o

theorem Leads.det {c : Cfg} {o o' : Out} (h : Leads c o) : Leads c o' → o = o' := by
  induction h with
  | stop h =>
    intro h'
    cases h' with
    | stop k => rw [h] at k; exact Sum.inr.inj k
    | next k _ => rw [h] at k; cases k
  | next h k ih =>
    intro h'
    cases h' with
    | stop k' => rw [h] at k'; cases k'
    | next k' k2 => rw [h] at k'; rw [Sum.inl.inj k'] at ih; exact ih k2

theorem close_nil (x : V) (s : List UInt8) (d : Nat) : step (.close x s [] d) = .inr (.done x s d) := rfl
theorem close_last (x : V) (s : List UInt8) (fs : List Fr) (f : Fr) (d : Nat) : step (.close x s (fs ++ [f]) d) =
    if Lib.hasPrefix s [44] then .inl (.loop (s.drop 1) (fs ++ [f.add x]) d) else if Lib.hasPrefix s (endL f.kind) then .inl (.close (f.add x).val (s.drop 1) fs d) else .inr .bad := by
  simp only [step, List.getLast?_concat, List.dropLast_concat]

/-- How much has begun. -/
def wt (fs : List Fr) : Nat := (fs.map fun f => 1 + f.xs.length + f.ks.length).sum
theorem wt_snoc (fs : List Fr) (f : Fr) : wt (fs ++ [f]) = wt fs + (1 + f.xs.length + f.ks.length) := by simp [wt]
theorem wt_len (fs : List Fr) : fs.length ≤ wt fs := by
  induction fs with
  | nil => simp [wt]
  | cons f fs ih => simp [wt] at ih ⊢; omega
theorem wt_mem (fs : List Fr) : ∀ f ∈ fs, f.xs.length + f.ks.length + 1 ≤ wt fs := by
  induction fs with
  | nil => intro f h; cases h
  | cons g fs ih =>
    intro f h
    have e : wt (g :: fs) = 1 + g.xs.length + g.ks.length + wt fs := by simp [wt]
    rcases List.mem_cons.1 h with rfl | h
    · omega
    · have := ih f h; omega

theorem keyP_wt {fs fs' : List Fr} {key : ByteArray} (h : keyP fs key = some fs') : wt fs' = wt fs + 1 := by
  rcases List.eq_nil_or_concat fs with rfl | ⟨fs0, f, rfl⟩
  · cases h
  · rw [List.concat_eq_append] at h ⊢
    unfold keyP at h
    rw [List.getLast?_concat, List.dropLast_concat] at h
    simp only at h
    split at h
    · injection h with h
      rw [← h, wt_snoc, wt_snoc]
      simp only [List.length_append, List.length_cons, List.length_nil]
      omega
    · cases h

theorem prefix_drop {s p : List UInt8} (h : Lib.hasPrefix s p = true) : (s.drop p.length).length + p.length = s.length := by
  have := hasPrefix_le h
  rw [List.length_drop]; omega

theorem litI_pos (n : Int) : 1 ≤ (Tl.litI n).length := by
  unfold Tl.litI
  split
  · simp
  · have h := (printL_num n).2
    cases hp : Num.printL n with
    | nil => exact absurd hp h
    | cons a t => simp
theorem number_len {s t : List UInt8} {n : Int} (h : numberP s = some (n, t)) : t.length < s.length := by
  unfold numberP at h
  split at h
  · split at h
    · rename_i hp
      injection h with h
      injection h with h1 h2
      have := prefix_drop hp
      have h3 := litI_pos (Num.parseL (Lib.trimPrefix (toldL s) [32])).1
      rw [← h2]
      omega
    · cases h
  · cases h
theorem text_len {s a t : List UInt8} (h : textP s = some (a, t)) : a.length + t.length ≤ s.length ∧ t.length < s.length := by
  unfold textP at h
  cases hi : innerP s with
  | none => rw [hi] at h; cases h
  | some q =>
    obtain ⟨a', t'⟩ := q
    have := inner_len hi
    rw [hi] at h
    simp only at h
    split at h
    · injection h with h
      injection h with h1 h2
      rw [← h1, ← h2]
      exact this
    · cases h

theorem endL_len (k : Int) : (endL k).length = 1 := by unfold endL; split <;> rfl

/-- A part loses an octet at least, and what has begun grows by no more than that. -/
def Loses (s : List UInt8) (fs : List Fr) : PR → Prop
  | .bad => True
  | .val _ s' fs' _ => fs' = fs ∧ s'.length < s.length
  | .more s' fs' _ => wt fs' + s'.length ≤ wt fs + s.length ∧ s'.length < s.length

theorem begin_loses (k : Int) {s s0 : List UInt8} (h0 : s.length + 1 = s0.length) (fs : List Fr) (d : Nat) : Loses s0 fs (beginP k s fs d) := by
  unfold beginP
  split
  · rename_i hp
    have := prefix_drop hp
    exact ⟨rfl, by rw [List.length_drop]; omega⟩
  · exact ⟨by rw [wt_snoc]; simp; omega, by omega⟩

theorem part_loses (s : List UInt8) (fs : List Fr) (d : Nat) : Loses s fs (partP s fs d) := by
  unfold partP
  split
  · rename_i hp; have := prefix_drop hp; simp only [List.length_drop, List.length_cons, List.length_nil] at this; exact ⟨rfl, by rw [List.length_drop]; omega⟩
  · split
    · rename_i hp; have := prefix_drop hp; simp only [List.length_drop, List.length_cons, List.length_nil] at this; exact ⟨rfl, by rw [List.length_drop]; omega⟩
    · split
      · rename_i hp; have := prefix_drop hp; simp only [List.length_drop, List.length_cons, List.length_nil] at this; exact ⟨rfl, by rw [List.length_drop]; omega⟩
      · split
        · rename_i hp; have := prefix_drop hp; simp only [List.length_drop, List.length_cons, List.length_nil] at this; exact begin_loses 5 (by rw [List.length_drop]; omega) fs d
        · split
          · rename_i hp; have := prefix_drop hp; simp only [List.length_drop, List.length_cons, List.length_nil] at this; exact begin_loses 6 (by rw [List.length_drop]; omega) fs d
          · split
            · unfold textOrKeyP
              cases ht : textP s with
              | none => trivial
              | some q =>
                obtain ⟨a, t⟩ := q
                have hl := text_len ht
                simp only
                split
                · rename_i hp
                  have h1 := prefix_drop hp
                  simp only [List.length_drop, List.length_cons, List.length_nil] at h1
                  cases hk : keyP fs (S a) with
                  | none => trivial
                  | some fs' => exact ⟨by rw [keyP_wt hk, List.length_drop]; omega, by rw [List.length_drop]; omega⟩
                · exact ⟨rfl, hl.2⟩
            · cases hn : numberP s with
              | none => trivial
              | some q =>
                obtain ⟨n, t⟩ := q
                exact ⟨rfl, number_len hn⟩
end Go.Proofs.YtgfbednfiejlfaaGreatDoor.Rd

/-
  Contract of the reader's put.
-/
namespace Go.Proofs.YtgfbednfiejlfaaGreatDoor.Rd
open Go.RowKit Go.Proofs.YtgfbednfiejlfaaGreatDoor.Oct Go.Proofs.YtgfbednfiejlfaaGreatDoor.Val

set_option maxHeartbeats 4000000 in
set_option maxRecDepth 100000 in
theorem put_c (N : Nat) (tag : Nat → Nat) (w : World) (R : Nat) (s : List UInt8) (fs : List Fr) (f : Fr) (deep : Nat) (ov : Value) (es : List E5) (h : RdAt N tag w R s (fs ++ [f]) deep ov es) (u0 u1 u2 u3 u4 : Value) (x : V) (hx : Holds (Dn N tag w) w (.agg #[u0, u1, u2, u3, u4]) x)
    (hn : f.xs.length + 1 ≤ 1099511627776) (hm : fs.length + 1 ≤ 1099511627776) :
    Calls Tryz.prog 44 #[.pointer (some ⟨R, 0, none⟩), .agg #[u0, u1, u2, u3, u4]] w fun en w' => en = .returned (.tuple #[]) ∧ ∃ tag' ov' es', RdAt N tag' w' R s (fs ++ [{ f with xs := f.xs ++ [x] }]) deep ov' es' ∧ Kp tag tag' w w' := by
  obtain ⟨g0, cap0, hov, hg3⟩ := h.row (by simp)
  have hlen : es.length = fs.length + 1 := by rw [h.len]; simp
  have hfl : (fs ++ [f]).length = fs.length + 1 := by simp
  obtain ⟨L, K, ys, hf⟩ := h.frs fs.length (by omega) (by omega)
  have hfi : (fs ++ [f])[fs.length]'(by omega) = f := by simp
  rw [hfi] at hf
  obtain ⟨lp, lc, hL⟩ := own_slice hf.rows
  obtain ⟨k0, n0, s0, p0, a0, b0, q0, c0, d0, rfl, rfl, rfl, rfl, rfl⟩ := holds_parts hx
  obtain ⟨w1, hw1⟩ : ∃ w1, w1 = w.alloc (.cells #[.int .i64 k0, .int .i64 n0, .string s0, .slice p0 a0 b0, .slice q0 c0 d0] 26) := ⟨_, rfl⟩
  have hb1 : Below w.heap.size w w1 := by rw [hw1]; exact (Below.refl _ w).alloc (Nat.le_refl _) _
  have h1 := h.keep hb1
  have hbx : Bx w1 w.heap.size (.int .i64 k0) (.int .i64 n0) (.string s0) (.slice p0 a0 b0) (.slice q0 c0 d0) := by rw [hw1]; exact Bx.new _ _ _ _ _ _
  have hi := innermost_c R g0 fs.length cap0 (S s) (.int .i64 deep) w1 (by omega) (by have := h1.rd; rw [hov, hfl] at this; exact this)
  have key : Hid (∀ W, Below w1.heap.size w1 W → Bx W w.heap.size (.int .i64 k0) (.int .i64 n0) (.string s0) (.slice p0 a0 b0) (.slice q0 c0 d0) ∧ RdAt N tag W R s (fs ++ [f]) deep ov es ∧ W.cell? ⟨g0, fs.length * 5 + 3, none⟩ = some (.slice lp f.xs.length lc)) := fun W hb => by
    have hW := h1.keep hb
    refine ⟨hbx.keep hb, hW, ?_⟩
    rw [slot_at (es := es) (m := fs.length) (by omega) (by omega) hW.own (by rw [hov]; rfl) (by rw [hlen, hfl]) ⟨cap0, hov⟩, hf.e, hL]
    rfl
  rw [hw1] at hi key
  clear hb1 hbx h1 hw1
  go_enter Tryz.func44, Tryz.ntmps44
  go_wp2_with (go_at_call 62; refine hi.mono ?_; rintro e2 W2 ⟨rfl, h2⟩; obtain ⟨m1, m2, m3⟩ := key.out W2 h2; obtain ⟨x0, x1, x2, x3, x4⟩ := m1.five; have H2 := Lib.hid (And.intro h2 (And.intro m1 m2)); clear h2 m1 m2)
  obtain ⟨i0, hi0, hz0, hz1, hz2⟩ := info_parts info_value
  have hmax : f.xs.length + 1 ≤ maxLen := by unfold maxLen; omega
  have hby : (f.xs.length + 1) * 80 ≤ 140737488355328 := by omega
  have HBW : Hid (Below w.heap.size w W2.drew) := (((Below.refl _ w).alloc (Nat.le_refl _) _).trans (H2.out.1.mono (by simp))).drew
  have hd2 := H2.out.2.2.keep (Below.refl _ W2).drew
  obtain ⟨L', K', ys2, hf2⟩ := hd2.frs fs.length (by omega) (by omega)
  rw [hfi] at hf2
  have heL : L' = .slice lp f.xs.length lc ∧ K' = K := by
    have h1 := hf2.e.symm.trans hf.e
    simp only [Prod.mk.injEq, true_and] at h1
    exact ⟨h1.1.trans hL, h1.2⟩
  obtain ⟨rfl, rfl⟩ := heL
  have HY := Lib.hid (And.intro hd2 (And.intro hf2 h))
  have hN := hd2.size
  have hA0 : (0 : Int) ≤ (f.xs.length : Int) := by omega
  have hA1 : (f.xs.length : Int) < (f.xs.length : Int) + 1 := by omega
  have ql := H2.out.2.1.lt
  have ql2 := (own_lt H2.out.2.2.own (r := g0) (by rw [hov]; rfl)).2
  have q1 : ¬ w.heap.size = W2.heap.size := by omega
  have q2 : ¬ g0 = W2.heap.size := by omega
  have HX : Hid (Holds (Dn N tag W2.drew) W2.drew (.agg #[.int .i64 k0, .int .i64 n0, .string s0, .slice p0 a0 b0, .slice q0 c0 d0]) x) := holds_dn hx (fun b hb _ => HBW.out.block b hb) (fun _ _ h => h)
  have HKW : Hid (Kp tag tag w W2.drew) := Kp.of HBW.out
  clear hi hf hf2 hd2 h hx
  go_region_law (first
    | (refine step_append_lies _ rfl (.tmp 10) (.tmp 13) 23 rfl N 26 i0 _ 5 80 Tryz.underlying23 hi0 hz0 hz1 hz2 rfl (by omega) (.slice lp f.xs.length lc) f.xs.length (flat ys2) (by simp [Act.eval, Act.put]) (HY.out.2.1.rows.alloc _) ⟨W2.heap.size, 0, none⟩ 1 1 [.int .i64 0, .int .i64 0, .string ⟨#[]⟩, .slice none 0 0, .slice none 0 0] (by simp [Act.eval, Act.put]) rfl (World.news_of_block (heap_alloc_new W2.drew _)) (by intro u hu; simp at hu; rcases hu with rfl | rfl | rfl | rfl | rfl <;> rfl) (by omega) hmax hby (by simp at hN ⊢; omega) (W2.heap.size + 1) (by simp) ?_; intro g cp wB hownB hgB hatB hltB; obtain ⟨⟨y0, y1, y2, y3, y4⟩, ⟨z0, z1, z2, z3, z4⟩, v3, r3⟩ := put_facts HY.out.1 hov HY.out.2.1 (fun _ => rfl) hownB hgB; obtain ⟨ne1, ne2⟩ := put_ne HY.out.1 hov HY.out.2.1 hatB (by simp); have HZ := Lib.hid (And.intro hownB (And.intro hgB (And.intro hatB hltB))); clear hownB hgB hatB hltB))
  all_goals
    clear y0 y1 y2 y3 y4 z0 z1 z2 z3 z4 v3 r3 x0 x1 x2 x3 x4
    go_wp2_with fail
    have e1 := HY.out.1
    have e2 := HY.out.2.1
    have e3 := HZ.out
    have e4 := HX.out
    have PF := fun Z hZ => put_fin HKW.out e1 hov e2 (fun _ => rfl) e3.1 e3.2.1 e3.2.2.1 e3.2.2.2 ne1 e4 Z hZ
    have PF1 := Lib.hid (PF _ (Or.inl rfl))
    have PF2 := Lib.hid (PF _ (Or.inr rfl))
    clear PF e1 e2 e3 e4
    go_end0
    first | with_reducible exact PF1.out | with_reducible exact PF2.out
end Go.Proofs.YtgfbednfiejlfaaGreatDoor.Rd

/-
  Contract of the reader's value.
-/
namespace Go.Proofs.YtgfbednfiejlfaaGreatDoor.Rd
open Go.RowKit Go.Proofs.YtgfbednfiejlfaaGreatDoor.Oct Go.Proofs.YtgfbednfiejlfaaGreatDoor.Val

/-- Ahead of a part. -/
def LoopAt (N : Nat) (tag0 : Nat → Nat) (w : World) (R : Nat) (c0 : Cfg) (T B : Nat) (wr : World) : Prop :=
  ∃ tag s fs d ov es, RdAt N tag wr R s fs d ov es ∧ Kp tag0 tag w wr ∧ Bx wr w.heap.size (.int .i64 0) (.int .i64 0) (.string ⟨#[]⟩) (.slice none 0 0) (.slice none 0 0) ∧ tag w.heap.size = 1 ∧
    (∀ o, Leads (.loop s fs d) o → Leads c0 o) ∧ wt fs + s.length ≤ T ∧ s.length < B
/-- Behind a value that is whole, which lies in the box q. -/
def CloseAt (N : Nat) (tag0 : Nat → Nat) (w : World) (R : Nat) (c0 : Cfg) (T B : Nat) (q : Nat) (wr : World) : Prop :=
  ∃ tag s fs d ov es, RdAt N tag wr R s fs d ov es ∧ Kp tag0 tag w wr ∧ Bx wr w.heap.size (.int .i64 0) (.int .i64 0) (.string ⟨#[]⟩) (.slice none 0 0) (.slice none 0 0) ∧ tag w.heap.size = 1 ∧
    wt fs + 1 + s.length ≤ T ∧ s.length < B ∧ tag q = 1 ∧ q ≠ w.heap.size ∧ w.heap.size ≤ q ∧
    ∃ v0 v1 v2 v3 v4 x, Bx wr q v0 v1 v2 v3 v4 ∧ Holds (Dn N tag wr) wr (.agg #[v0, v1, v2, v3, v4]) x ∧ (∀ o, Leads (.close x s fs d) o → Leads c0 o)
def InnerAt (N : Nat) (tag0 : Nat → Nat) (w : World) (R : Nat) (c0 : Cfg) (T B : Nat) (q : Nat) (b : Bool) (wr : World) : Prop :=
  if b then CloseAt N tag0 w R c0 T B q wr else LoopAt N tag0 w R c0 T B wr

theorem takes_at {N : Nat} {tag : Nat → Nat} {W : World} {R : Nat} {s : List UInt8} {fs : List Fr} {d : Nat} {ov : Value} {es : List E5} (p : List UInt8) (b : Bool) (hb : Lib.hasPrefix s p = b) (h : RdAt N tag W R s fs d ov es) :
    Calls Tryz.prog 45 #[.pointer (some ⟨R, 0, none⟩), .string (S p)] W fun e w' => e = .returned (.bool b) ∧ RdAt N tag w' R (if b then s.drop p.length else s) fs d ov es ∧ Kp tag tag W w' := by
  refine (takes_c R (S s) (S p) ov (.int .i64 d) W h.rd).mono ?_
  rintro e w' ⟨rfl, h5, h6⟩
  have hx : takesP (S p).data.toList (S s).data.toList = (b, if b then s.drop p.length else s) := by
    simp only
    unfold takesP
    rw [hb]
    cases b <;> rfl
  rw [hx] at h5 ⊢
  exact ⟨rfl, h.read h5 h6, Kp.save h.rmark h6⟩

theorem close_start {N : Nat} {tag0 : Nat → Nat} {w : World} {R : Nat} {c0 : Cfg} {T : Nat} {tag tg : Nat → Nat} {wr W1 : World} {s s' : List UInt8} {fs fs' : List Fr} {d d' : Nat} {ov' : Value} {es' : List E5} {x : V} {v0 v1 v2 v3 v4 : Value}
    (h2 : Kp tag0 tag w wr) (h3 : Bx wr w.heap.size (.int .i64 0) (.int .i64 0) (.string ⟨#[]⟩) (.slice none 0 0) (.slice none 0 0)) (h4 : tag w.heap.size = 1) (h5 : ∀ o, Leads (.loop s fs d) o → Leads c0 o) (h6 : wt fs + s.length ≤ T)
    (hp : partP s fs d = .val x s' fs' d') (k1 : RdAt N tg W1 R s' fs' d' ov' es') (k2 : Kp tag tg wr W1) (k3 : Holds (Dn N tg W1) W1 (.agg #[v0, v1, v2, v3, v4]) x) :
    CloseAt N tag0 w R c0 T s.length W1.heap.size (W1.alloc (.cells #[v0, v1, v2, v3, v4] 26)) := by
  have hls := part_loses s fs d
  rw [hp] at hls
  obtain ⟨rfl, hlt⟩ := hls
  obtain ⟨bx1, bx2⟩ := h3.kp k2 h4
  have hlt2 := bx1.lt
  have blw := (Below.refl _ W1).alloc (Nat.le_refl _) (.cells #[v0, v1, v2, v3, v4] 26)
  exact ⟨tg, s', fs', d', ov', es', k1.alloc _, (h2.trans k2).trans (Kp.of blw), bx1.keep blw, bx2, by omega, hlt, k1.out _ (.inr (Nat.le_refl _)), by omega, by omega, v0, v1, v2, v3, v4, x, Bx.new _ _ _ _ _ _,
    holds_dn k3 (fun b hb _ => blw.block b hb) (fun _ _ h => h), fun o ho => h5 o (.next (by simp only [step, hp]) ho)⟩

/-- What value leaves. -/
def ValueTo (N : Nat) (tag : Nat → Nat) (w : World) (R : Nat) (c0 : Cfg) (en : Ending) (w' : World) : Prop :=
  (en = Fault 33 ∧ Leads c0 .bad ∧ ∃ tag', Kp tag tag' w w') ∨
  ∃ e tag' ov' es' x t d, en = .returned (agg5 e) ∧ Leads c0 (.done x t d) ∧ RdAt N tag' w' R t [] d ov' es' ∧ Kp tag tag' w w' ∧ Holds (Dn N tag' w') w' (agg5 e) x

theorem more_start {N : Nat} {tag0 : Nat → Nat} {w : World} {R : Nat} {c0 : Cfg} {T : Nat} {tag tg : Nat → Nat} {wr W1 : World} {s s' : List UInt8} {fs fs' : List Fr} {d d' : Nat} {ov' : Value} {es' : List E5} (v0 v1 v2 v3 v4 : Value)
    (h2 : Kp tag0 tag w wr) (h3 : Bx wr w.heap.size (.int .i64 0) (.int .i64 0) (.string ⟨#[]⟩) (.slice none 0 0) (.slice none 0 0)) (h4 : tag w.heap.size = 1) (h5 : ∀ o, Leads (.loop s fs d) o → Leads c0 o) (h6 : wt fs + s.length ≤ T)
    (hp : partP s fs d = .more s' fs' d') (k1 : RdAt N tg W1 R s' fs' d' ov' es') (k2 : Kp tag tg wr W1) :
    LoopAt N tag0 w R c0 T s.length (W1.alloc (.cells #[v0, v1, v2, v3, v4] 26)) := by
  have hls := part_loses s fs d
  rw [hp] at hls
  obtain ⟨hw, hlt⟩ := hls
  obtain ⟨bx1, bx2⟩ := h3.kp k2 h4
  have blw := (Below.refl _ W1).alloc (Nat.le_refl _) (.cells #[v0, v1, v2, v3, v4] 26)
  exact ⟨tg, s', fs', d', ov', es', k1.alloc _, (h2.trans k2).trans (Kp.of blw), bx1.keep blw, bx2, fun o ho => h5 o (.next (by simp only [step, hp]) ho), by omega, hlt⟩

theorem value_done {N : Nat} {tag0 tag : Nat → Nat} {w W : World} {R : Nat} {c0 : Cfg} {s : List UInt8} {d : Nat} {ov : Value} {es : List E5} {x : V} {v0 v1 v2 v3 v4 : Value} (h : RdAt N tag W R s [] d ov es) (hk : Kp tag0 tag w W) (ht : tag w.heap.size = 1)
    (hh : Holds (Dn N tag W) W (.agg #[v0, v1, v2, v3, v4]) x) (hc : ∀ o, Leads (.close x s [] d) o → Leads c0 o) (Z : World) (hZ : Z = st5 W w.heap.size v0 v1 v2 v3 v4) :
    ValueTo N tag0 w R c0 (.returned (.agg #[v0, v1, v2, v3, v4])) Z := by
  have a1 := h.st5 ht v0 v1 v2 v3 v4
  have a2 := hk.own (st5_below (Below.refl _ W) (Nat.le_refl _) v0 v1 v2 v3 v4)
  have a3 := holds_dn (tag' := tag) hh (fun b hb h0 => st5_other W v0 v1 v2 v3 v4 (fun e => by rw [e, ht] at h0; cases h0)) (fun _ _ h => h)
  rw [← hZ] at a1 a2 a3
  exact .inr ⟨(v0, v1, v2, v3, v4), tag, _, _, x, s, d, rfl, hc _ (.stop (close_nil x s d)), a1, a2, a3⟩

/-- Behind a comma. -/
theorem close_comma {N : Nat} {tag0 tag tg : Nat → Nat} {w W W' : World} {R : Nat} {c0 : Cfg} {T B : Nat} {s : List UInt8} {fs : List Fr} {f : Fr} {d : Nat} {ov : Value} {es : List E5} {x : V} (h : RdAt N tg W' R (s.drop 1) (fs ++ [f.add x]) d ov es) (hp : Lib.hasPrefix s [44] = true)
    (h2 : Kp tag0 tag w W) (k2 : Kp tag tg W W') (h3 : Bx W w.heap.size (.int .i64 0) (.int .i64 0) (.string ⟨#[]⟩) (.slice none 0 0) (.slice none 0 0)) (h4 : tag w.heap.size = 1) (h6 : wt (fs ++ [f]) + 1 + s.length ≤ T) (h7 : s.length < B)
    (hc : ∀ o, Leads (.close x s (fs ++ [f]) d) o → Leads c0 o) : LoopAt N tag0 w R c0 T B W' := by
  obtain ⟨bx1, bx2⟩ := h3.kp k2 h4
  have hl : (s.drop 1).length + 1 = s.length := prefix_drop hp
  refine ⟨tg, s.drop 1, fs ++ [f.add x], d, ov, es, h, h2.trans k2, bx1, bx2, fun o ho => hc o (.next (by rw [close_last, if_pos hp]) ho), ?_, by omega⟩
  rw [wt_snoc] at h6 ⊢
  simp only [List.length_append, List.length_cons, List.length_nil]
  omega

/-- Behind an ending sign. -/
theorem close_end {N : Nat} {tag0 tag tg : Nat → Nat} {w W W' : World} {R : Nat} {c0 : Cfg} {T B q : Nat} {s : List UInt8} {fs : List Fr} {f : Fr} {d : Nat} {ov : Value} {es : List E5} {x : V} {v0 v1 v2 v3 v4 u0 u1 u2 u3 u4 : Value} (h : RdAt N tg W' R (s.drop 1) fs d ov es) (hn : Lib.hasPrefix s [44] = false) (hp : Lib.hasPrefix s (endL f.kind) = true)
    (h2 : Kp tag0 tag w W) (k2 : Kp tag tg W W') (h3 : Bx W w.heap.size (.int .i64 0) (.int .i64 0) (.string ⟨#[]⟩) (.slice none 0 0) (.slice none 0 0)) (h4 : tag w.heap.size = 1) (h6 : wt (fs ++ [f]) + 1 + s.length ≤ T) (h7 : s.length < B)
    (h8 : tag q = 1) (h9 : q ≠ w.heap.size) (h10 : w.heap.size ≤ q) (h11 : Bx W q u0 u1 u2 u3 u4) (hh : Holds (Dn N tg W') W' (.agg #[v0, v1, v2, v3, v4]) (f.add x).val)
    (hc : ∀ o, Leads (.close x s (fs ++ [f]) d) o → Leads c0 o) (Z : World) (hZ : Z = st5 W' q v0 v1 v2 v3 v4) : CloseAt N tag0 w R c0 T B q Z := by
  obtain ⟨bx1, bx2⟩ := h3.kp k2 h4
  obtain ⟨by1, by2⟩ := h11.kp k2 h8
  have hl := prefix_drop hp
  rw [endL_len] at hl
  have a1 := h.st5 by2 v0 v1 v2 v3 v4
  have a2 := (h2.trans k2).own (st5_below (Below.refl _ W') h10 v0 v1 v2 v3 v4)
  have a3 := holds_dn (tag' := tg) hh (fun b hb h0 => st5_other W' v0 v1 v2 v3 v4 (fun e => by rw [e, by2] at h0; cases h0)) (fun _ _ h => h)
  have a4 := bx1.other h9.symm v0 v1 v2 v3 v4
  have a5 := by1.st5 v0 v1 v2 v3 v4
  rw [← hZ] at a1 a2 a3 a4 a5
  refine ⟨tg, s.drop 1, fs, d, ov, es, a1, a2, a4, bx2, ?_, by omega, by2, h9, h10, v0, v1, v2, v3, v4, (f.add x).val, a5, a3, fun o ho => hc o (.next (by rw [close_last, hn, if_neg (by decide), if_pos hp]) ho)⟩
  rw [wt_snoc] at h6
  omega

set_option maxHeartbeats 4000000 in
set_option maxRecDepth 100000 in
theorem value_c (N : Nat) (tag0 : Nat → Nat) (w : World) (R : Nat) (s0 : List UInt8) (ov : Value) (es : List E5) (d0 : Nat) (h : RdAt N tag0 w R s0 [] d0 ov es) (hl : s0.length ≤ 274877906944) (hT : TabN N w) :
    Calls Tryz.prog 29 #[.pointer (some ⟨R, 0, none⟩)] w (ValueTo N tag0 w R (.loop s0 [] d0)) := by
  have H0 : Hid (LoopAt N tag0 w R (.loop s0 [] d0) s0.length (s0.length + 1) (zBox w)) := by
    obtain ⟨z1, z2, z3, z4, z5⟩ := zero_box h
    exact ⟨tag0, s0, [], d0, ov, es, z1, z3, z2, z4, fun o ho => ho, by simp [wt], by omega⟩
  have HLow : Hid (∀ tag W, Kp tag0 tag w W → TabN N W) := fun tag W hk => hT.to (h.low hk)
  generalize s0.length = T at hl H0
  generalize Cfg.loop s0 [] d0 = c0 at H0 ⊢
  clear h hT
  go_enter Tryz.func29, Tryz.ntmps29
  go_wp2_with fail
  go_loopw [] (fun wr => Hid (LoopAt N tag0 w R c0 T (T + 1) wr)) (fun wr => restLen R wr)
  case atStart => exact H0
  case round =>
    clear H0
    obtain ⟨tag, s, fs, d, ov, es, h1, h2, h3, h4, h5, h6, h7⟩ := hrel.out
    have hwm := wt_mem fs
    have hwl := wt_len fs
    have hpc := part_c N tag wr R s fs d ov es h1 (by omega) (fun f hf => by have := hwm f hf; omega) (by omega) (HLow.out _ _ h2)
    have hls := part_loses s fs d
    have HR := Lib.hid h1.rd.len
    have HS := Lib.hid (And.intro h1 (And.intro h2 (And.intro h3 (And.intro h4 (And.intro h5 (And.intro h6 h7))))))
    clear h1 h2 h3 h4 h5 h6 h7 hwm hwl hrel
    cases hp : partP s fs d with
    | bad =>
      rw [hp] at hpc
      go_wp2_with fail
      refine hpc.mono ?_
      rintro e1 W1 ⟨rfl, tg, k1⟩
      exact ⟨rfl, .inl ⟨rfl, HS.out.2.2.2.2.1 _ (.stop (by simp only [step, hp])), tg, HS.out.2.1.trans k1⟩⟩
    | more s' fs' d' =>
      rw [hp] at hpc
      go_wp2_with fail
      refine hpc.mono ?_
      rintro e1 W1 ⟨tg, ov', es', rfl, k1, k2⟩
      have H2 : Hid (LoopAt N tag0 w R c0 T s.length (W1.alloc (.cells #[.int .i64 0, .int .i64 0, .string ⟨#[]⟩, .slice none 0 0, .slice none 0 0] 26))) := by
        obtain ⟨h1, h2, h3, h4, h5, h6, h7⟩ := HS.out
        exact more_start _ _ _ _ _ h2 h3 h4 h5 h6 hp k1 k2
      clear k1 k2
      go_wp2_with fail
      go_loopw [4] (fun whole wr => whole = .bool false ∧ Hid (LoopAt N tag0 w R c0 T s.length wr)) (fun _ wr => restLen R wr)
      case atStart => exact ⟨rfl, H2⟩
      case round =>
        obtain ⟨rfl, hI⟩ := hrel
        clear H2
        go_wp2_with fail
        obtain ⟨tag, s2', fs2, d2', ov2, es2, c1, c2, c3, c4, c5, c6, c7⟩ := hI.out
        have hT6 := HS.out.2.2.2.2.2.1
        exact ⟨⟨tag, s2', fs2, d2', ov2, es2, c1, c2, c3, c4, c5, c6, by omega⟩, by rw [HR.out, c1.rd.len]; exact c7⟩
    | val x s' fs' d' =>
      rw [hp] at hpc
      go_wp2_with fail
      refine hpc.mono ?_
      rintro e1 W1 ⟨⟨v0, v1, v2, v3, v4⟩, tg, ov', es', rfl, k1, k2, k3⟩
      obtain ⟨kk, n2, s2, p2, a2, b3, q2, r2, d2, rfl, rfl, rfl, rfl, rfl⟩ := holds_parts k3
      have H1 := Lib.hid (And.intro k1 (And.intro k2 k3))
      clear k1 k2 k3
      have H2 : Hid (CloseAt N tag0 w R c0 T s.length W1.heap.size (W1.alloc (.cells #[.int .i64 kk, .int .i64 n2, .string s2, .slice p2 a2 b3, .slice q2 r2 d2] 26))) := by
        obtain ⟨h1, h2, h3, h4, h5, h6, h7⟩ := HS.out
        exact close_start h2 h3 h4 h5 h6 hp H1.out.1 H1.out.2.1 H1.out.2.2
      go_wp2_with fail
      go_loopw [4] (fun whole wr => ∃ b : Bool, whole = .bool b ∧ Hid (InnerAt N tag0 w R c0 T s.length W1.heap.size b wr)) (fun _ wr => restLen R wr)
      case atStart => exact ⟨true, rfl, H2⟩
      case round =>
        obtain ⟨b, rfl, hI⟩ := hrel
        clear H1 H2
        cases b with
        | false =>
          go_wp2_with fail
          have hI2 : LoopAt N tag0 w R c0 T s.length wr := hI.out
          obtain ⟨tg, s2', fs2, d2', ov2, es2, c1, c2, c3, c4, c5, c6, c7⟩ := hI2
          have hT6 := HS.out.2.2.2.2.2.1
          exact ⟨⟨tg, s2', fs2, d2', ov2, es2, c1, c2, c3, c4, c5, c6, by omega⟩, by rw [HR.out, c1.rd.len]; exact c7⟩
        | true =>
          obtain ⟨tag2, s2', fs2, d2', ov2, es2, c1, c2, c3, c4, c5, c6, c7, c8, c9, v0, v1, v2, v3, v4, y, c10, c11, c12⟩ : CloseAt N tag0 w R c0 T s.length W1.heap.size wr := hI.out
          clear hI
          obtain ⟨op, oc, rfl⟩ := own_slice c1.own
          obtain ⟨l0, l1, l2, lp, la, lb, lq, lr, ld, rfl, rfl, rfl, rfl, rfl⟩ := holds_parts c11
          obtain ⟨y0, y1, y2, y3, y4⟩ := c10.five
          have r1 := c1.rd.cell1
          rcases List.eq_nil_or_concat fs2 with rfl | ⟨fs0, f, rfl⟩
          · have HC := Lib.hid (And.intro c1 (And.intro c2 (And.intro c3 (And.intro c4 (And.intro c7 (And.intro c8 (And.intro c9 (And.intro c10 (And.intro c11 c12)))))))))
            clear c1 c2 c3 c4 c5 c6 c7 c8 c9 c10 c11 c12
            simp only [List.length_nil] at r1
            obtain ⟨t0, t1, t2, t3, t4⟩ := HC.out.2.2.1.froz
            obtain ⟨g0, g1, g2, g3, g4⟩ := HC.out.2.2.1.five
            go_wp2_with fail
            refine bodyPost_ret (v := .agg #[.int .i64 l0, .int .i64 l1, .string l2, .slice lp la lb, .slice lq lr ld]) (by simp [results, Tryz.results29, go_sem, g0, g1, g2, g3, g4]) rfl ?_
            have fin := fun Z hZ => value_done HC.out.1 HC.out.2.1 HC.out.2.2.2.1 HC.out.2.2.2.2.2.2.2.2.1 HC.out.2.2.2.2.2.2.2.2.2 Z hZ
            exact fin _ rfl
          · rw [List.concat_eq_append] at c1 c5 c12 r1
            have HC := Lib.hid (And.intro c1 (And.intro c2 (And.intro c3 (And.intro c4 (And.intro c5 (And.intro c6 (And.intro c7 (And.intro c8 (And.intro c9 (And.intro c10 (And.intro c11 c12)))))))))))
            have hc5 : fs0.length + 1 ≤ 1099511627776 ∧ f.xs.length + 1 ≤ 1099511627776 := by
              have := wt_len (fs0 ++ [f]); have := wt_mem (fs0 ++ [f]) f (by simp); rw [wt_snoc] at *; simp only [List.length_append, List.length_cons, List.length_nil] at *; omega
            have hput := put_c N tag2 wr R s2' fs0 f d2' _ es2 c1 (.int .i64 l0) (.int .i64 l1) (.string l2) (.slice lp la lb) (.slice lq lr ld) y c11 hc5.2 hc5.1
            have hg : (0 : Int) < ((fs0 ++ [f]).length : Nat) := by simp only [List.length_append, List.length_cons, List.length_nil]; omega
            clear c1 c2 c3 c4 c5 c6 c7 c8 c9 c10 c11 c12
            go_wp2_with fail
            refine hput.mono ?_
            rintro e2 W2 ⟨rfl, tg3, ov3, es3, m1, m2⟩
            clear hput y0 y1 y2 y3 y4 r1
            have H3 := Lib.hid (And.intro m1 m2)
            clear m1 m2
            cases hp44 : Lib.hasPrefix s2' [44] with
            | true =>
              have htk := takes_at [44] true hp44 H3.out.1
              go_wp2_with fail
              refine htk.mono ?_
              rintro e3 W3 ⟨rfl, m3, m4⟩
              have H4 := Lib.hid (And.intro m3 m4)
              clear m3 m4 htk
              go_wp2_with fail
              obtain ⟨c1, c2, c3, c4, c5, c6, c7, c8, c9, c10, c11, c12⟩ := HC.out
              have hkk := H3.out.2.trans H4.out.2
              have hrr := H4.out.1
              simp only [if_true] at hrr
              refine ⟨⟨false, rfl, (close_comma hrr hp44 c2 hkk c3 c4 c5 c6 c12 : LoopAt N tag0 w R c0 T s.length W3)⟩, ?_⟩
              rw [c1.rd.len, hrr.rd.len]
              have hl : (s2'.drop 1).length + 1 = s2'.length := prefix_drop hp44
              show (s2'.drop 1).length < s2'.length
              omega
            | false =>
              have htk := takes_at [44] false hp44 H3.out.1
              go_wp2_with fail
              refine htk.mono ?_
              rintro e3 W3 ⟨rfl, m3, m4⟩
              have H4 := Lib.hid (And.intro m3 m4)
              simp only [Bool.false_eq_true, if_false] at m3
              have hks : f.ks.length ≤ 1099511627776 := by
                have h5 := HC.out.2.2.2.2.1
                have := wt_mem (fs0 ++ [f]) f (by simp)
                omega
              have hend := end_c N tg3 W3 R s2' fs0 _ d2' _ _ m3 (by simp only [List.length_append, List.length_cons, List.length_nil]; exact hc5.2) hks hc5.1
              clear m3 m4 htk
              cases hpe : Lib.hasPrefix s2' (endL f.kind) with
              | false =>
                unfold EndsTo at hend
                rw [hpe] at hend
                simp only [Bool.false_eq_true, if_false] at hend
                go_wp2_with fail
                refine hend.mono ?_
                rintro e4 W4 ⟨rfl, m5⟩
                have c2 := HC.out.2.1
                have c12 := HC.out.2.2.2.2.2.2.2.2.2.2.2
                exact ⟨rfl, .inl ⟨rfl, c12 _ (.stop (by rw [close_last, hp44, if_neg (by decide), hpe, if_neg (by decide)])), tg3, ((c2.trans H3.out.2).trans H4.out.2).trans m5⟩⟩
              | true =>
                unfold EndsTo at hend
                rw [hpe] at hend
                simp only [if_true] at hend
                go_wp2_with fail
                refine hend.mono ?_
                rintro e4 W4 ⟨⟨j0, j1, j2, j3, j4⟩, tg4, ov4, es4, rfl, m5, m6, m7⟩
                obtain ⟨e0, e1, e2, ep, ea, eb, eq, er, ed, rfl, rfl, rfl, rfl, rfl⟩ := holds_parts m7
                have H5 := Lib.hid (And.intro m5 (And.intro m6 m7))
                clear m5 m6 m7 hend
                obtain ⟨by1, by2⟩ := HC.out.2.2.2.2.2.2.2.2.2.1.kp ((H3.out.2.trans H4.out.2).trans H5.out.2.1) HC.out.2.2.2.2.2.2.1
                obtain ⟨t0, t1, t2, t3, t4⟩ := by1.froz
                obtain ⟨y0, y1, y2, y3, y4⟩ := by1.five
                go_wp2_with fail
                have fin := fun Z hZ => close_end H5.out.1 hp44 hpe HC.out.2.1 ((H3.out.2.trans H4.out.2).trans H5.out.2.1) HC.out.2.2.1 HC.out.2.2.2.1 HC.out.2.2.2.2.1 HC.out.2.2.2.2.2.1 HC.out.2.2.2.2.2.2.1 HC.out.2.2.2.2.2.2.2.1 HC.out.2.2.2.2.2.2.2.2.1 HC.out.2.2.2.2.2.2.2.2.2.1 H5.out.2.2 HC.out.2.2.2.2.2.2.2.2.2.2.2 Z hZ
                have hlen := (H5.out.1.st5 by2 (.int .i64 e0) (.int .i64 e1) (.string e2) (.slice ep ea eb) (.slice eq er ed)).rd.len
                have hl : (s2'.drop 1).length + 1 = s2'.length := by have h0 := prefix_drop hpe; rw [endL_len] at h0; exact h0
                refine ⟨⟨true, rfl, fin _ rfl⟩, ?_⟩
                rw [HC.out.1.rd.len]
                refine Nat.lt_of_le_of_lt (Nat.le_of_eq hlen) ?_
                omega
end Go.Proofs.YtgfbednfiejlfaaGreatDoor.Rd
