/-
  Part 21: RdNumber, RdPart0, RdTok.
-/
import Derived.Test.YtganmmkdcaphfaaGreatDoorJsBaseP19
import Derived.Test.YtganmmkdcaphfaaGreatDoorJsBaseP20
import Derived.Test.YtganmmkdcaphfaaGreatDoorJsBaseP3
import Derived.Shelf.Strings.SlTrimAscii
import Derived.Test.YtganmmkdcaphfaaGreatDoorJsBaseP11
import Derived.Test.YtganmmkdcaphfaaGreatDoorJsBaseP13
/-
  Contract of the reader's number.
-/
namespace Go.Proofs.YtganmmkdcaphfaaGreatDoor.Rd
open Go.RowKit Go.Proofs.YtganmmkdcaphfaaGreatDoor.Oct Go.Proofs.YtganmmkdcaphfaaGreatDoor.Num Go.Proofs.YtganmmkdcaphfaaGreatDoor.Build Go.Proofs.YtganmmkdcaphfaaGreatDoor.Val Go.Proofs.YtganmmkdcaphfaaGreatDoor.Lit Go.Proofs.YtganmmkdcaphfaaGreatDoor.Tl

/-- The octets of numbers. -/
abbrev numCs : List UInt8 := [32, 45, 48, 49, 50, 51, 52, 53, 54, 55, 56, 57]
/-- What is told of a number. -/
def toldL (l : List UInt8) : List UInt8 := l.take (l.length - (Lib.trimLeftS l numCs).length)

theorem trim_c (l : List UInt8) (w : World) : Calls Tryz.prog 75 #[.string (S l), .string (S numCs)] w fun e w' => e = .returned (.string (S (Lib.trimLeftS l numCs))) ∧ Below w.heap.size w w' :=
  Any.strings_TrimLeft_ascii Tryz.lays161 (fun w => by kernel_rfl) (by kernel_rfl) (S l) (S numCs) w (by decide) (fun j b h => by
    have : b ∈ numCs := List.mem_of_getElem? h
    simp at this
    rcases this with rfl | rfl | rfl | rfl | rfl | rfl | rfl | rfl | rfl | rfl | rfl | rfl <;> decide)

/-- What number reads. -/
def numberP (l : List UInt8) : Option (Int × List UInt8) :=
  if (parseL (Lib.trimPrefix (toldL l) [32])).2 = 0 then
    if Lib.hasPrefix l (litI (parseL (Lib.trimPrefix (toldL l) [32])).1) then some ((parseL (Lib.trimPrefix (toldL l) [32])).1, l.drop (litI (parseL (Lib.trimPrefix (toldL l) [32])).1).length) else none
  else none

theorem trimLeft_le (l cs : List UInt8) : (Lib.trimLeftS l cs).length ≤ l.length := by
  unfold Lib.trimLeftS
  exact (List.dropWhile_suffix _).length_le

abbrev intV (n : Int) : Value := .agg #[.int .i64 3, .int .i64 n, .string ⟨#[]⟩, .slice none 0 0, .slice none 0 0]
abbrev asI (o : Option (Int × List UInt8)) : Option (Value × List UInt8) := o.map fun (a, t) => (intV a, t)

theorem int_c (n : Int) (w : World) : Calls Tryz.prog 78 #[.int .i64 n] w fun e w' => e = .returned (.agg #[.int .i64 3, .int .i64 n, .string ⟨#[]⟩, .slice none 0 0, .slice none 0 0]) ∧ Below w.heap.size w w' := by
  go_enter Tryz.func78, Tryz.ntmps78
  go_wp2
  refine bodyPost_ret (v := .agg #[.int .i64 3, .int .i64 n, .string ⟨#[]⟩, .slice none 0 0, .slice none 0 0]) (by simp [results, Tryz.results78, go_sem]) rfl ?_
  exact ⟨rfl, (Below.refl _ w).alloc (Nat.le_refl _) _⟩

theorem signed_range (u : Nat) (b : Bool) : -9223372036854775808 ≤ (signedL u b).1 ∧ (signedL u b).1 ≤ 9223372036854775807 := by
  unfold signedL
  cases b with
  | true =>
    rw [if_pos rfl]
    by_cases h : u ≤ 9223372036854775808
    · rw [if_pos h]; show _ ≤ -(u : Int) ∧ -(u : Int) ≤ _; omega
    · rw [if_neg h]; exact ⟨by decide, by decide⟩
  | false =>
    rw [if_neg (by simp)]
    by_cases h : u ≤ 9223372036854775807
    · rw [if_pos h]; show _ ≤ (u : Int) ∧ (u : Int) ≤ _; omega
    · rw [if_neg h]; exact ⟨by decide, by decide⟩
theorem zero_range (k : Nat) : -9223372036854775808 ≤ ((0, k) : Int × Nat).1 ∧ ((0, k) : Int × Nat).1 ≤ 9223372036854775807 := ⟨by show (-9223372036854775808 : Int) ≤ 0; decide, by show (0 : Int) ≤ 9223372036854775807; decide⟩
theorem parseT_range (b : Bool) (t : List UInt8) : -9223372036854775808 ≤ (parseT b t).1 ∧ (parseT b t).1 ≤ 9223372036854775807 := by
  unfold parseT
  split
  · exact zero_range _
  · split
    · exact zero_range _
    · split
      · exact zero_range _
      · split
        · exact zero_range _
        · exact signed_range _ _
theorem parseL_range (t : List UInt8) : -9223372036854775808 ≤ (parseL t).1 ∧ (parseL t).1 ≤ 9223372036854775807 := by
  unfold parseL
  split
  · exact parseT_range _ _
  · exact parseT_range _ _

theorem prefix_c (l : List UInt8) (w : World) : Calls Tryz.prog 77 #[.string (S l), .string (S [32])] w fun e w' => e = .returned (.string (S (Lib.trimPrefix l [32]))) ∧ w' = w := Tryz.strings_TrimPrefix (S l) (S [32]) w

abbrev zeroBox (w : World) : World := w.alloc (.cells #[.int .i64 0, .int .i64 0, .string ⟨#[]⟩, .slice none 0 0, .slice none 0 0] 25)

theorem num_chain {R : Nat} {w W6 W7 W8 : World} {L0 : ByteArray} {ov dv : Value} {v : Int} (hR : Rd R L0 ov dv (zeroBox w)) (hlt : R < w.heap.size)
    (h3 : Below (zeroBox w).drew.heap.size (zeroBox w).drew W6) (h7 : Below W6.heap.size W6 W7)
    (h8 : Below (W7.alloc (.cells #[.int .i64 3, .int .i64 v, .string ⟨#[]⟩, .slice none 0 0, .slice none 0 0] 25)).heap.size (W7.alloc (.cells #[.int .i64 3, .int .i64 v, .string ⟨#[]⟩, .slice none 0 0, .slice none 0 0] 25)) W8) :
    Rd R L0 ov dv W8 ∧ Save R w W8 ∧ Bx W8 w.heap.size (.int .i64 0) (.int .i64 0) (.string ⟨#[]⟩) (.slice none 0 0) (.slice none 0 0) ∧
      Bx W8 W7.heap.size (.int .i64 3) (.int .i64 v) (.string ⟨#[]⟩) (.slice none 0 0) (.slice none 0 0) ∧ W7.heap.size ≠ R ∧ w.heap.size ≠ R := by
  have hz : (zeroBox w).heap.size = w.heap.size + 1 := by simp
  have b3 : Below (zeroBox w).heap.size (zeroBox w) W6 := (Below.refl _ _).drew.trans h3
  have b7 : Below (zeroBox w).heap.size (zeroBox w) W7 := b3.trans (h7.mono b3.size)
  have b8 : Below (zeroBox w).heap.size (zeroBox w) W8 := (b7.alloc b7.size _).trans (h8.mono (by have := b7.size; simp at this ⊢; omega))
  have hs7 := b7.size
  refine ⟨hR.keep b8, Save.of (((Below.refl _ w).alloc (Nat.le_refl _) _).trans (b8.mono (by omega))), (Bx.new w _ _ _ _ _).keep b8, (Bx.new W7 _ _ _ _ _).keep h8, by omega, by omega⟩

set_option maxHeartbeats 4000000 in
set_option maxRecDepth 100000 in
theorem number_c (R : Nat) (l : List UInt8) (ov dv : Value) (w : World) (hl : l.length ≤ 1099511627776) (h : Rd R (S l) ov dv w) :
    Calls Tryz.prog 68 #[.pointer (some ⟨R, 0, none⟩)] w (Reads R ov dv w (asI (numberP l))) := by
  obtain ⟨w1, hw1⟩ : ∃ w1, w1 = w.alloc (.cells #[.int .i64 0, .int .i64 0, .string ⟨#[]⟩, .slice none 0 0, .slice none 0 0] 25) := ⟨_, rfl⟩
  have hb1 : Below w.heap.size w w1 := by rw [hw1]; exact (Below.refl _ w).alloc (Nat.le_refl _) _
  have hbx : Bx w1 w.heap.size (.int .i64 0) (.int .i64 0) (.string ⟨#[]⟩) (.slice none 0 0) (.slice none 0 0) := by rw [hw1]; exact Bx.new _ _ _ _ _ _
  have hR1 := h.keep hb1
  have hRlt := h.lt
  have HT := Lib.hid (fun W => trim_c l W)
  obtain ⟨n, hn⟩ : ∃ n, n = l.length - (Lib.trimLeftS l numCs).length := ⟨_, rfl⟩
  have hn2 := trimLeft_le l numCs
  have hn1 : (n : Int) ≤ ((S l).size : Int) := by rw [size_S]; omega
  have hn0 : (0 : Int) ≤ (n : Int) := by omega
  have hnw : IntKind.i64.wrap (n : Int) = n := by rw [IntKind.wrap_i64]; omega
  have hsub : ((S l).size : Int) - ((S (Lib.trimLeftS l numCs)).size : Int) = (n : Int) := by rw [size_S, size_S]; omega
  have hcut : (S l).extract 0 n = S (toldL l) := by rw [cut_front, hn]; rfl
  have HP := Lib.hid (fun W => prefix_c (toldL l) W)
  have hpl : (S (Lib.trimPrefix (toldL l) [32])).size ≤ 9223372036854775807 := by
    rw [size_S]
    have h1 : (toldL l).length ≤ l.length := by unfold toldL; rw [List.length_take]; omega
    have h2 : (Lib.trimPrefix (toldL l) [32]).length ≤ (toldL l).length := by unfold Lib.trimPrefix; split <;> simp
    omega
  have HQ := Lib.hid (fun W => parse_c (S (Lib.trimPrefix (toldL l) [32])) W hpl)
  rw [list_S] at HQ
  have hpr := parseL_range (Lib.trimPrefix (toldL l) [32])
  unfold numberP
  generalize parseL (Lib.trimPrefix (toldL l) [32]) = pr at HQ hpr ⊢
  obtain ⟨v, er⟩ := pr
  simp only at hpr HQ
  have c0 := hR1.cell0
  have HB := Lib.hid (And.intro hb1 (And.intro hbx (And.intro hR1 hRlt)))
  have HL := Lib.hid (fun W => literal_int v hpr.1 hpr.2 W)
  generalize Lib.trimPrefix (toldL l) [32] = T2 at HP HQ hpl
  rw [hw1] at c0 HB
  clear hb1 hbx hR1 h hn2 hn hw1
  generalize S (Lib.trimLeftS l numCs) = T1 at HT hsub
  obtain ⟨T3, hT3⟩ : ∃ T3, S (toldL l) = T3 := ⟨_, rfl⟩
  rw [hT3] at HP hcut
  clear hT3
  have HM := Lib.hid (fun W (h : Rd R (S l) ov dv W) => must_c R (S l) (S (litI v)) ov dv W h)
  simp only at HM
  unfold mustP at HM
  simp only
  have hwl : Hid (w.heap.size < (w.alloc (.cells #[.int .i64 0, .int .i64 0, .string ⟨#[]⟩, .slice none 0 0, .slice none 0 0] 25)).heap.size) := by show _ < _; simp
  generalize S l = L0 at HT HB HM hcut hsub hn1 c0
  by_cases he : er = 0
  · rw [if_pos he]
    subst he
    cases hp : Lib.hasPrefix l (litI v) with
    | false =>
      rw [hp] at HM
      go_enter Tryz.func68, Tryz.ntmps68
      go_wp2_with fail
      have c1 := HB.out.2.2.1.drew.cell0
      go_region_held3 (fun w' => w'.cell? ⟨R, 0, none⟩ = some (.string L0))
        (first | with_reducible exact c1 | with_reducible exact b0)
        (first
          | (go_at_call 75; refine (HT.out _).mono ?_; rintro e3 W3 ⟨rfl, h3⟩; have b0 := (HB.out.2.2.1.keep ((Below.refl _ _).drew.trans h3)).cell0; have H3 := Lib.hid h3; clear h3))
      go_wp2_with (first
        | (go_at_call 77; refine (HP.out _).mono ?_; rintro e4 W4 ⟨rfl, rfl⟩)
        | (go_at_call 76; refine (HQ.out _).mono ?_; rintro e5 W5 ⟨rfl, rfl⟩)
        | (go_at_call 57; refine (demand_yes _ _).mono ?_; rintro e6 W6 ⟨rfl, rfl⟩)
        | (go_at_call 78; refine (int_c _ _).mono ?_; rintro e7 W7 ⟨rfl, h7⟩; have H7 := Lib.hid h7; clear h7)
        | (go_at_call 79; refine (HL.out _).mono ?_; rintro e8 W8 ⟨rfl, h8⟩; have H8 := Lib.hid h8; clear h8)
        | (go_at_call 71; obtain ⟨k1, k2, k3, k4, k5, k6⟩ := num_chain HB.out.2.2.1 hRlt H3.out H7.out H8.out; refine (HM.out _ k1).mono ?_; rintro e9 W9 ⟨rfl, h9⟩; have H9 := Lib.hid h9; clear h9))
      exact ⟨rfl, rfl, k2.trans H9.out⟩
    | true =>
      rw [hp] at HM
      simp only [if_true] at HM
      go_enter Tryz.func68, Tryz.ntmps68
      go_wp2_with fail
      have c1 := HB.out.2.2.1.drew.cell0
      go_region_held3 (fun w' => w'.cell? ⟨R, 0, none⟩ = some (.string L0))
        (first | with_reducible exact c1 | with_reducible exact b0)
        (first
          | (go_at_call 75; refine (HT.out _).mono ?_; rintro e3 W3 ⟨rfl, h3⟩; have b0 := (HB.out.2.2.1.keep ((Below.refl _ _).drew.trans h3)).cell0; have H3 := Lib.hid h3; clear h3))
      go_wp2_with (first
        | (go_at_call 77; refine (HP.out _).mono ?_; rintro e4 W4 ⟨rfl, rfl⟩)
        | (go_at_call 76; refine (HQ.out _).mono ?_; rintro e5 W5 ⟨rfl, rfl⟩)
        | (go_at_call 57; refine (demand_yes _ _).mono ?_; rintro e6 W6 ⟨rfl, rfl⟩)
        | (go_at_call 78; refine (int_c _ _).mono ?_; rintro e7 W7 ⟨rfl, h7⟩; have H7 := Lib.hid h7; clear h7)
        | (go_at_call 79; refine (HL.out _).mono ?_; rintro e8 W8 ⟨rfl, h8⟩; have H8 := Lib.hid h8; clear h8)
        | (go_at_call 71; obtain ⟨k1, k2, k3, k4, k5, k6⟩ := num_chain HB.out.2.2.1 hRlt H3.out H7.out H8.out; refine (HM.out _ k1).mono ?_; rintro e9 W9 ⟨rfl, h9, h10⟩; have m3 := k3.save h10 k6; have m4 := k4.save h10 k5; obtain ⟨x0, x1, x2, x3, x4⟩ := m4.five; obtain ⟨y0, y1, y2, y3, y4⟩ := m3.five; obtain ⟨z0, z1, z2, z3, z4⟩ := m3.froz; have H9 := Lib.hid (And.intro h9 (And.intro h10 (And.intro k2 k6))); clear h9 h10 k1 k2 k3 k4 m3 m4))
      refine bodyPost_ret (v := .agg #[.int .i64 3, .int .i64 v, .string ⟨#[]⟩, .slice none 0 0, .slice none 0 0]) (by simp [results, Tryz.results68, go_sem, y0, y1, y2, y3, y4]) rfl ?_
      exact ⟨rfl, H9.out.1.st5 (Ne.symm H9.out.2.2.2) _ _ _ _ _, (H9.out.2.2.1.trans H9.out.2.1).st5 (Nat.le_refl _) _ _ _ _ _⟩
  · rw [if_neg he]
    have he' : ((er : Int) == 0) = false := by simp; omega
    go_enter Tryz.func68, Tryz.ntmps68
    go_wp2_with fail
    have c1 := HB.out.2.2.1.drew.cell0
    go_region_held3 (fun w' => w'.cell? ⟨R, 0, none⟩ = some (.string L0))
      (first | with_reducible exact c1 | with_reducible exact b0)
      (first
        | (go_at_call 75; refine (HT.out _).mono ?_; rintro e3 W3 ⟨rfl, h3⟩; have b0 := (HB.out.2.2.1.keep ((Below.refl _ _).drew.trans h3)).cell0; have H3 := Lib.hid h3; clear h3))
    go_wp2_with (first
      | (go_at_call 77; refine (HP.out _).mono ?_; rintro e4 W4 ⟨rfl, rfl⟩)
      | (go_at_call 76; refine (HQ.out _).mono ?_; rintro e5 W5 ⟨rfl, rfl⟩)
      | (go_at_call 57; refine (demand_no _ _).mono ?_; rintro e6 W6 ⟨rfl, rfl⟩))
    exact ⟨rfl, rfl, Save.of (HB.out.1.trans ((((Below.refl _ _).drew.trans H3.out)).mono (Nat.le_of_lt hwl.out)))⟩
end Go.Proofs.YtganmmkdcaphfaaGreatDoor.Rd

/-
  What the reader reads next, plainly.
-/
namespace Go.Proofs.YtganmmkdcaphfaaGreatDoor.Rd
open Go.RowKit Go.Proofs.YtganmmkdcaphfaaGreatDoor.Oct Go.Proofs.YtganmmkdcaphfaaGreatDoor.Val

/-- A fault; a value that is whole; or something ahead of a value. -/
inductive PR where
  | bad
  | val (x : V) (s : List UInt8) (fs : List Fr) (d : Nat)
  | more (s : List UInt8) (fs : List Fr) (d : Nat)

/-- A value with nothing in it. -/
abbrev leafV (k n : Int) (t : ByteArray) : V := .mk k n t [] []

/-- Those that have begun, with a key for the innermost one. -/
def keyP (fs : List Fr) (key : ByteArray) : Option (List Fr) :=
  match fs.getLast? with
  | none => none
  | some f => if f.kind = 6 ∧ f.ks.length = f.xs.length then some (fs.dropLast ++ [{ f with ks := f.ks ++ [key] }]) else none

def beginP (k : Int) (s : List UInt8) (fs : List Fr) (d : Nat) : PR :=
  if Lib.hasPrefix s (endL k) then .val (fresh0 k).val (s.drop 1) fs (max d (fs.length + 1)) else .more s (fs ++ [fresh0 k]) (max d (fs.length + 1))

def textOrKeyP (s : List UInt8) (fs : List Fr) (d : Nat) : PR :=
  match textP s with
  | none => .bad
  | some (a, t) =>
    if Lib.hasPrefix t [58] then
      match keyP fs (S a) with
      | none => .bad
      | some fs' => .more (t.drop 1) fs' d
    else .val (leafV 4 0 (S a)) t fs d

def partP (s : List UInt8) (fs : List Fr) (d : Nat) : PR :=
  if Lib.hasPrefix s [110, 117, 108, 108] then .val (leafV 0 0 ⟨#[]⟩) (s.drop 4) fs d
  else if Lib.hasPrefix s [102, 97, 108, 115, 101] then .val (leafV 1 0 ⟨#[]⟩) (s.drop 5) fs d
  else if Lib.hasPrefix s [116, 114, 117, 101] then .val (leafV 2 0 ⟨#[]⟩) (s.drop 4) fs d
  else if Lib.hasPrefix s [91] then beginP 5 (s.drop 1) fs d
  else if Lib.hasPrefix s [123] then beginP 6 (s.drop 1) fs d
  else if Lib.hasPrefix s [34] then textOrKeyP s fs d
  else match numberP s with
    | none => .bad
    | some (n, t) => .val (leafV 3 n ⟨#[]⟩) t fs d

/-- What such a call leaves. -/
def PartTo (N : Nat) (tag : Nat → Nat) (w : World) (R : Nat) (r : PR) (en : Ending) (w' : World) : Prop :=
  match r with
  | .bad => en = Fault 33 ∧ ∃ tag', Kp tag tag' w w'
  | .val x s fs d => ∃ e tag' ov' es', en = .returned (.tuple #[agg5 e, .bool true]) ∧ RdAt N tag' w' R s fs d ov' es' ∧ Kp tag tag' w w' ∧ Holds (Dn N tag' w') w' (agg5 e) x
  | .more s fs d => ∃ tag' ov' es', en = .returned (.tuple #[.agg #[.int .i64 0, .int .i64 0, .string ⟨#[]⟩, .slice none 0 0, .slice none 0 0], .bool false]) ∧ RdAt N tag' w' R s fs d ov' es' ∧ Kp tag tag' w w'

theorem leaf_holds {C : Cond} {w : World} (k n : Int) (t : ByteArray) (hk : -9223372036854775808 ≤ k ∧ k ≤ 9223372036854775807) (hn : -9223372036854775808 ≤ n ∧ n ≤ 9223372036854775807) (ht : t.size ≤ 140737488351232) :
    Holds C w (.agg #[.int .i64 k, .int .i64 n, .string t, .slice none 0 0, .slice none 0 0]) (leafV k n t) :=
  .mk k n t none 0 (.slice none 0 0) [] [] 0 0 (fun _ _ => undef) ⟨hk.1, hk.2, hn.1, hn.2, ht, by simp⟩ (fun h => absurd h (by simp)) (fun i j h => absurd h (by simp)) ⟨none, 0, 0, 0, rfl, ⟨by simp, fun s hs => absurd hs (by simp)⟩, fun h => absurd h (by simp), fun i h => absurd h (by simp)⟩ (fun i h => absurd h (by simp))

theorem begin_part {N : Nat} {tag : Nat → Nat} {w w' : World} {R : Nat} {s : List UInt8} {fs : List Fr} {k : Int} {d : Nat} {en : Ending} (h : BeginTo N tag w R s fs k d en w') : PartTo N tag w R (beginP k s fs d) en w' := by
  unfold BeginTo at h
  unfold beginP
  split at h
  · rename_i hp; rw [if_pos hp]; exact h
  · rename_i hp; rw [if_neg hp]; exact h
end Go.Proofs.YtganmmkdcaphfaaGreatDoor.Rd

/-
  Contract of the reader's textOrKey.
-/
namespace Go.Proofs.YtganmmkdcaphfaaGreatDoor.Rd
open Go.RowKit Go.Proofs.YtganmmkdcaphfaaGreatDoor.Oct Go.Proofs.YtganmmkdcaphfaaGreatDoor.Val Go.Proofs.YtganmmkdcaphfaaGreatDoor.Utf

/-- Go's two tables lie below N. -/
def TabN (N : Nat) (w : World) : Prop := ∀ W, Below N w W → Tabs W
theorem TabN.to {N : Nat} {w W : World} (h : TabN N w) (hb : Below N w W) : TabN N W := fun X hX => h X (hb.trans hX)
theorem RdAt.base {N : Nat} {tag : Nat → Nat} {w : World} {R : Nat} {s : List UInt8} {fs : List Fr} {deep : Nat} {ov : Value} {es : List E5} (h : RdAt N tag w R s fs deep ov es) : N ≤ R := by
  rcases Nat.lt_or_ge R N with h1 | h1
  · have := h.out R (.inl h1); rw [h.rmark] at this; omega
  · exact h1
theorem RdAt.low {N : Nat} {tag : Nat → Nat} {w : World} {R : Nat} {s : List UInt8} {fs : List Fr} {deep : Nat} {ov : Value} {es : List E5} (h : RdAt N tag w R s fs deep ov es) {tag' : Nat → Nat} {W : World} (hk : Kp tag tag' w W) : Below N w W :=
  hk.below h.size (fun b hb => h.out b (.inl hb))

theorem zero_box {N : Nat} {tag : Nat → Nat} {w : World} {R : Nat} {s : List UInt8} {fs : List Fr} {deep : Nat} {ov : Value} {es : List E5} (h : RdAt N tag w R s fs deep ov es) :
    RdAt N tag (zBox w) R s fs deep ov es ∧ Bx (zBox w) w.heap.size (.int .i64 0) (.int .i64 0) (.string ⟨#[]⟩) (.slice none 0 0) (.slice none 0 0) ∧ Kp tag tag w (zBox w) ∧ tag w.heap.size = 1 ∧ w.heap.size ≠ R :=
  ⟨h.alloc _, Bx.new _ _ _ _ _ _, Kp.of ((Below.refl _ w).alloc (Nat.le_refl _) _), h.out _ (.inr (Nat.le_refl _)), by have := h.rd.lt; omega⟩

/-- A value is written into the result's box, and told. -/
theorem part_val {N : Nat} {tag tag' : Nat → Nat} {w W : World} {R : Nat} {s : List UInt8} {fs : List Fr} {d : Nat} {ov : Value} {es : List E5} {x : V} (h : RdAt N tag' W R s fs d ov es) (hk : Kp tag tag' w W) (ht : tag' w.heap.size = 1) {v0 v1 v2 v3 v4 : Value}
    (hh : Holds (Dn N tag' W) W (.agg #[v0, v1, v2, v3, v4]) x) (Z : World) (hZ : Z = st5 W w.heap.size v0 v1 v2 v3 v4) :
    PartTo N tag w R (.val x s fs d) (.returned (.tuple #[.agg #[v0, v1, v2, v3, v4], .bool true])) Z := by
  have a1 := h.st5 ht v0 v1 v2 v3 v4
  have a2 := hk.own (st5_below (Below.refl _ W) (Nat.le_refl _) v0 v1 v2 v3 v4)
  have a3 := holds_dn (tag' := tag') hh (fun b hb h0 => st5_other W v0 v1 v2 v3 v4 (fun e => by rw [e, ht] at h0; cases h0)) (fun _ _ h => h)
  rw [← hZ] at a1 a2 a3
  exact ⟨(v0, v1, v2, v3, v4), tag', _, _, rfl, a1, a2, a3⟩
theorem part_more {N : Nat} {tag tag' : Nat → Nat} {w W : World} {R : Nat} {s : List UInt8} {fs : List Fr} {d : Nat} {ov : Value} {es : List E5} (h : RdAt N tag' W R s fs d ov es) (hk : Kp tag tag' w W) (ht : tag' w.heap.size = 1)
    (Z : World) (hZ : Z = st5 W w.heap.size (.int .i64 0) (.int .i64 0) (.string ⟨#[]⟩) (.slice none 0 0) (.slice none 0 0)) :
    PartTo N tag w R (.more s fs d) (.returned (.tuple #[.agg #[.int .i64 0, .int .i64 0, .string ⟨#[]⟩, .slice none 0 0, .slice none 0 0], .bool false])) Z := by
  have a1 := h.st5 ht (.int .i64 0) (.int .i64 0) (.string ⟨#[]⟩) (.slice none 0 0) (.slice none 0 0)
  have a2 := hk.own (st5_below (Below.refl _ W) (Nat.le_refl _) (.int .i64 0) (.int .i64 0) (.string ⟨#[]⟩) (.slice none 0 0) (.slice none 0 0))
  rw [← hZ] at a1 a2
  exact ⟨tag', _, _, rfl, a1, a2⟩

/-- What putKey leaves, whatever has begun. -/
def KeyOf (N : Nat) (tag : Nat → Nat) (w : World) (R : Nat) (s : List UInt8) (o : Option (List Fr)) (d : Nat) (en : Ending) (w' : World) : Prop :=
  match o with
  | some fs => en = .returned (.tuple #[]) ∧ ∃ tag' ov' es', RdAt N tag' w' R s fs d ov' es' ∧ Kp tag tag' w w'
  | none => en = Fault 33 ∧ Kp tag tag w w'

theorem keyOf_c (N : Nat) (tag : Nat → Nat) (w : World) (R : Nat) (s : List UInt8) (fs : List Fr) (deep : Nat) (ov : Value) (es : List E5) (h : RdAt N tag w R s fs deep ov es) (key : ByteArray) (hkey : key.size ≤ 140737488351232)
    (hk : ∀ f ∈ fs, f.ks.length + 1 ≤ 1099511627776) (hm : fs.length ≤ 1099511627776) :
    Calls Tryz.prog 74 #[.pointer (some ⟨R, 0, none⟩), .string key] w (KeyOf N tag w R s (keyP fs key) deep) := by
  rcases List.eq_nil_or_concat fs with rfl | ⟨fs0, f, rfl⟩
  · exact key_none N tag w R s deep ov es h key
  · rw [List.concat_eq_append] at h hk hm ⊢
    refine (key_c N tag w R s fs0 f deep ov es h key hkey (hk f (by simp)) (by simpa using hm)).mono fun en w' hh => ?_
    unfold KeyTo at hh
    unfold keyP
    rw [List.getLast?_concat, List.dropLast_concat]
    simp only
    by_cases hc : f.kind = 6 ∧ f.ks.length = f.xs.length
    · rw [if_pos hc] at hh ⊢; exact hh
    · rw [if_neg hc] at hh ⊢; exact hh

set_option maxHeartbeats 4000000 in
set_option maxRecDepth 100000 in
theorem textOrKey_c (N : Nat) (tag : Nat → Nat) (w : World) (R : Nat) (s : List UInt8) (fs : List Fr) (d : Nat) (ov : Value) (es : List E5) (h : RdAt N tag w R s fs d ov es) (hl : s.length ≤ 1099511627776)
    (hk : ∀ f ∈ fs, f.ks.length + 1 ≤ 1099511627776) (hm : fs.length ≤ 1099511627776) (hT : TabN N w) :
    Calls Tryz.prog 67 #[.pointer (some ⟨R, 0, none⟩)] w (PartTo N tag w R (textOrKeyP s fs d)) := by
  obtain ⟨z1, z2, z3, z4, z5⟩ := zero_box h
  have htx := text_c R s ov (.int .i64 d) (zBox w) hl z1.rd (fun W hs => hT W (h.low (z3.trans (Kp.save h.rmark hs))))
  unfold textOrKeyP
  have HZ := Lib.hid (And.intro z1 (And.intro z2 (And.intro z3 (And.intro z4 z5))))
  clear z1 z2 z3 h
  cases hk1 : textP s with
  | none =>
    rw [hk1] at htx
    go_enter Tryz.func67, Tryz.ntmps67
    go_wp2_with (go_at_call 73; refine htx.mono ?_; rintro e1 W1 ⟨rfl, h1⟩)
    exact ⟨rfl, rfl, tag, HZ.out.2.2.1.trans (Kp.save HZ.out.1.rmark h1)⟩
  | some q =>
    obtain ⟨a, t⟩ := q
    rw [hk1] at htx
    have hal : (S a).size ≤ 1099511627776 := by
      unfold textP at hk1
      cases hi : innerP s with
      | none => rw [hi] at hk1; cases hk1
      | some q =>
        obtain ⟨a', t'⟩ := q
        rw [hi] at hk1
        simp only at hk1
        have := (inner_len hi).1
        split at hk1
        · injection hk1 with h1
          injection h1 with h2 h3
          rw [size_S, ← h2]
          omega
        · cases hk1
    simp only
    have HTK := Lib.hid (fun W (hr : Rd R (S t) ov (.int .i64 d) W) => takes_c R (S t) (S [58]) ov (.int .i64 d) W hr)
    simp only at HTK
    unfold takesP at HTK
    have hd1 : ([58] : List UInt8).length = 1 := rfl
    rw [hd1] at HTK
    cases hp : Lib.hasPrefix t [58] with
    | false =>
      rw [hp] at HTK
      simp only [Bool.false_eq_true, if_false] at HTK ⊢
      go_enter Tryz.func67, Tryz.ntmps67
      go_wp2_with (first
        | (go_at_call 73; refine htx.mono ?_; rintro e1 W1 ⟨rfl, h1, h2⟩; have H1 := Lib.hid (And.intro h1 h2); clear h1 h2)
        | (go_at_call 63; refine (HTK.out _ H1.out.1).mono ?_; rintro e2 W2 ⟨rfl, h3, h4⟩; have r2 := (HZ.out.1.read H1.out.1 H1.out.2).read h3 h4; have b2 := (HZ.out.2.1.save H1.out.2 z5).save h4 z5; obtain ⟨y0, y1, y2, y3, y4⟩ := b2.five; obtain ⟨t0, t1, t2, t3, t4⟩ := b2.froz; have H2 := Lib.hid (And.intro r2 (HZ.out.2.2.1.trans ((Kp.save HZ.out.1.rmark H1.out.2).trans (Kp.save HZ.out.1.rmark h4)))); clear h3 h4 r2 b2))
      refine bodyPost_ret (v := .tuple #[.agg #[.int .i64 4, .int .i64 0, .string (S a), .slice none 0 0, .slice none 0 0], .bool true]) (by simp [results, Tryz.results67, go_sem, y0, y1, y2, y3, y4]) rfl ?_
      have fin := fun Z hZ => part_val (w := w) H2.out.1 H2.out.2 z4 (leaf_holds 4 0 (S a) (by decide) (by decide) (by omega)) Z hZ
      exact fin _ rfl
    | true =>
      rw [hp] at HTK
      simp only [if_true] at HTK ⊢
      have HKY := Lib.hid (fun W (hr : RdAt N tag W R (t.drop 1) fs d ov es) => keyOf_c N tag W R (t.drop 1) fs d ov es hr (S a) (by omega) hk hm)
      cases hky : keyP fs (S a) with
      | none =>
        rw [hky] at HKY
        go_enter Tryz.func67, Tryz.ntmps67
        go_wp2_with (first
          | (go_at_call 73; refine htx.mono ?_; rintro e1 W1 ⟨rfl, h1, h2⟩; have H1 := Lib.hid (And.intro h1 h2); clear h1 h2)
          | (go_at_call 63; refine (HTK.out _ H1.out.1).mono ?_; rintro e2 W2 ⟨rfl, h3, h4⟩; have H2 := Lib.hid (And.intro h3 h4); clear h3 h4)
          | (go_at_call 74; refine (HKY.out _ ((HZ.out.1.read H1.out.1 H1.out.2).read H2.out.1 H2.out.2)).mono ?_; rintro e3 W3 ⟨rfl, h5⟩))
        exact ⟨rfl, rfl, tag, (HZ.out.2.2.1.trans ((Kp.save HZ.out.1.rmark H1.out.2).trans (Kp.save HZ.out.1.rmark H2.out.2))).trans h5⟩
      | some fs' =>
        rw [hky] at HKY
        go_enter Tryz.func67, Tryz.ntmps67
        go_wp2_with (first
          | (go_at_call 73; refine htx.mono ?_; rintro e1 W1 ⟨rfl, h1, h2⟩; have H1 := Lib.hid (And.intro h1 h2); clear h1 h2)
          | (go_at_call 63; refine (HTK.out _ H1.out.1).mono ?_; rintro e2 W2 ⟨rfl, h3, h4⟩; have H2 := Lib.hid (And.intro h3 h4); clear h3 h4)
          | (go_at_call 74; refine (HKY.out _ ((HZ.out.1.read H1.out.1 H1.out.2).read H2.out.1 H2.out.2)).mono ?_; rintro e3 W3 ⟨rfl, tag', ov', es', h5, h6⟩; obtain ⟨b3, b4⟩ := ((HZ.out.2.1.save H1.out.2 z5).save H2.out.2 z5).kp h6 z4; obtain ⟨y0, y1, y2, y3, y4⟩ := b3.five; obtain ⟨t0, t1, t2, t3, t4⟩ := b3.froz; have H3 := Lib.hid (And.intro h5 (And.intro ((HZ.out.2.2.1.trans ((Kp.save HZ.out.1.rmark H1.out.2).trans (Kp.save HZ.out.1.rmark H2.out.2))).trans h6) b4)); clear h5 h6 b3 b4))
        refine bodyPost_ret (v := .tuple #[.agg #[.int .i64 0, .int .i64 0, .string ⟨#[]⟩, .slice none 0 0, .slice none 0 0], .bool false]) (by simp [results, Tryz.results67, go_sem, y0, y1, y2, y3, y4]) rfl ?_
        have fin := fun Z hZ => part_more (w := w) H3.out.1 H3.out.2.1 H3.out.2.2 Z hZ
        exact fin _ rfl
end Go.Proofs.YtganmmkdcaphfaaGreatDoor.Rd
