/-
  The page's example of layer 18; what the laws ask of a text (opened, blank); pieces as the laws read them.
-/
import Derived.Test.YtbchjmldjdhjiaaLxwItems
namespace Go.Proofs.Ytbchjmldjdhjiaa.Lxw
open Go.RowKit Go.Proofs.Ytbchjmldjdhjiaa.Oct Go.Proofs.Ytbchjmldjdhjiaa.Lex

theorem flat_cell {α : Type} (f : α → List Value) (m : Nat) (hf : ∀ x, (f x).length = m) (l : List α) : ∀ (i : Nat) (h : i < l.length) (j : Nat), j < m → (l.flatMap f)[i * m + j]? = (f l[i])[j]? := by
  induction l with
  | nil => intro i h; exact absurd h (Nat.not_lt_zero _)
  | cons x t ih =>
    intro i h j hj
    rw [List.flatMap_cons]
    cases i with
    | zero =>
      rw [Nat.zero_mul, Nat.zero_add, List.getElem?_append_left (by rw [hf]; exact hj)]
      rfl
    | succ i =>
      rw [List.getElem?_append_right (by rw [hf, Nat.succ_mul]; omega)]
      have e : (i + 1) * m + j - (f x).length = i * m + j := by rw [hf, Nat.succ_mul]; omega
      rw [e]
      exact ih i (by simpa using h) j hj
/-- A row that is not empty: its block, and its cells. -/
theorem own_cells {w : World} {B size n : Nat} {e : TypeId} {v : Value} {xs : List Value} (h : w.ownsRow B e size v n xs) (hn : 0 < n) : ∃ g cap, v = .slice (some ⟨g, 0, none⟩) n cap ∧ B ≤ g ∧ ∀ j u, xs[j]? = some u → w.cell? ⟨g, j, none⟩ = some u := by
  rcases h.2 with ⟨rfl, h0⟩ | ⟨g, cap, cur, rfl, hb, hg, rest⟩
  · omega
  · refine ⟨g, cap, rfl, hb, fun j u hu => ?_⟩
    have hlt : j < xs.length := (List.getElem?_eq_some_iff.1 hu).1
    rw [h.cellAt j (by rw [← h.1]; exact hlt)]
    exact hu
/-- A piece of a list as it is read: its three cells. -/
structure ItAt (w : World) (g i : Nat) (t : It) : Prop where
  k : w.cell? ⟨g, i * 3, none⟩ = some (.int .i64 (t.k : Int))
  x : w.cell? ⟨g, i * 3 + 1, none⟩ = some (.string (S t.x))
  p : w.cell? ⟨g, i * 3 + 2, none⟩ = some (.int .i64 (t.p : Int))
theorem ItAt.keep {w w' : World} {g i : Nat} {t : It} (h : ItAt w g i t) (hb : Below w.heap.size w w') : ItAt w' g i t :=
  ⟨(hb.cell (World.block_lt_of_cell? _ _ h.k)).trans h.k, (hb.cell (World.block_lt_of_cell? _ _ h.x)).trans h.x, (hb.cell (World.block_lt_of_cell? _ _ h.p)).trans h.p⟩
theorem items_at {B : Nat} {w : World} {v : Value} {ts : List It} (h : ItR B w v ts) (hn : 0 < ts.length) : ∃ g cap, v = .slice (some ⟨g, 0, none⟩) ts.length cap ∧ ∀ i (hi : i < ts.length), ItAt w g i ts[i] := by
  obtain ⟨g, cap, hv, hB, hc⟩ := own_cells h hn
  refine ⟨g, cap, hv, fun i hi => ?_⟩
  have e := fun j (hj : j < 3) => flat_cell itCs 3 (fun _ => rfl) ts i hi j hj
  exact ⟨hc _ _ (e 0 (by decide)), hc _ _ (e 1 (by decide)), hc _ _ (e 2 (by decide))⟩
/-- Items at a text whose pieces are known. -/
theorem items_ok (l : List UInt8) (its : List It) (hi : itemsL l = .ok its) (hl : l.length ≤ 16384) (w : World) (hM : MaxAt w) :
    Calls Try.prog 11 #[.string (S l)] w fun e w' => (∃ v, e = .returned (.tuple #[v, .int .i64 (l.length : Int), .int .i64 0]) ∧ ItR w.heap.size w' v its) ∧ Below w.heap.size w w' := by
  refine (items_c l w hM).mono ?_
  rintro e w' ⟨h, hb⟩
  refine ⟨?_, hb⟩
  cases h with
  | long h _ => omega
  | fault _ k h _ => rw [hi] at h; cases h
  | done _ v its' h he ho =>
    rw [hi] at h
    injection h with h
    subst h
    exact ⟨v, he, ho⟩

theorem num_c (n : Int) (w : World) : Calls Try.prog 10 #[.int .i64 n] w fun e w' => e = .returned (.int .i64 n) ∧ w = w' := by
  go_enter Try.func10, Try.ntmps10
  go_wp2
  go_ret
  exact ⟨rfl, rfl⟩
theorem lex_alive : itemsL [97, 123, 123, 46, 98, 125, 125, 99] = .ok [⟨1, [97], 0⟩, ⟨2, [46, 98], 1⟩, ⟨1, [99], 7⟩] := by rfl
set_option maxRecDepth 100000 in
theorem alive_c (w : World) (hM : MaxAt w) : Calls Try.prog 7 #[] w fun e w' => e = .returned (.bool true) ∧ Below w.heap.size w w' := by
  have h1 := items_ok [97, 123, 123, 46, 98, 125, 125, 99] _ lex_alive (by decide) w hM
  have hn := num_c
  clear hM
  go_enter Try.func7, Try.ntmps7
  go_wp2_with fail
  refine h1.mono ?_
  clear h1
  rintro e w1 ⟨⟨v, rfl, ho⟩, hb1⟩
  obtain ⟨g, cap, rfl, hat⟩ := items_at ho (by decide)
  have x1 : w1.cell? ⟨g, 1 * 3 + 1, none⟩ = some (.string (S [46, 98])) := (hat 1 (by decide)).x
  have HB := Lib.hid hb1
  clear hat hb1 ho
  go_wp2_with (go_at_call 10; refine (hn _ _).mono ?_; rintro e w2 ⟨rfl, rfl⟩)
  go_ret
  exact ⟨rfl, HB.out⟩

/-! ### opened, blank -/
def opB (l : List UInt8) : Bool := (findL [123, 123] l).isSome
theorem op_long {l : List UInt8} {k : Nat} (h : l.length ≤ k + 1) : opB (l.drop k) = false := by
  unfold opB
  rw [find_long (by rw [List.length_drop]; simp; omega)]
  rfl
theorem op_yes {l : List UInt8} {k : Nat} (h : k + 1 < l.length) (h1 : l[k] = 123) (h2 : l[k + 1] = 123) : opB (l.drop k) = true := by
  unfold opB
  rw [List.drop_eq_getElem_cons (by omega), List.drop_eq_getElem_cons h, h1, h2, find_yes (by simp [List.isPrefixOf])]
  rfl
theorem op_next {l : List UInt8} {k : Nat} (h : k + 1 < l.length) (hn : ¬ (l[k] = 123 ∧ l[k + 1] = 123)) : opB (l.drop k) = opB (l.drop (k + 1)) := by
  unfold opB
  have hp : [123, 123].isPrefixOf (l.drop k) = false := by
    rw [List.drop_eq_getElem_cons (by omega), List.drop_eq_getElem_cons h]
    simp only [List.isPrefixOf, Bool.and_true]
    rw [Bool.and_eq_false_iff]
    by_cases h1 : l[k] = 123
    · exact .inr (by rw [beq_eq_false_iff_ne]; exact fun e => hn ⟨h1, e.symm⟩)
    · exact .inl (by rw [beq_eq_false_iff_ne]; exact fun e => h1 e.symm)
  rw [find_no hp (by rw [List.length_drop]; simp; omega), List.drop_drop, Option.isSome_map]
theorem op_plain {l : List UInt8} (h : opB l = false) : Plain l := by
  unfold opB at h
  unfold Plain
  cases hf : findL [123, 123] l with
  | none => rfl
  | some n => rw [hf] at h; cases h

set_option maxHeartbeats 1000000 in
theorem opened_c (l : List UInt8) (hl : l.length ≤ 4611686018427387904) (w : World) :
    Calls Try.prog 12 #[.string (S l)] w fun e w' => e = .returned (.bool (opB l)) ∧ w = w' := by
  have hsz : ((S l).size : Int) = (l.length : Int) := by rw [size_S]
  have HAt := Lib.hid (fun k (h : k < l.length) => at_S l k h)
  go_enter Try.func12, Try.ntmps12
  go_wp2_with fail
  go_loop [3] (fun i => ∃ k : Nat, k ≤ l.length ∧ i = .int .i64 k ∧ Hid (opB l = opB (l.drop k))) (fun i => l.length - (intOf i).toNat)
  case atStart => exact ⟨0, Nat.zero_le _, rfl, (by show _ = _; rw [List.drop_zero])⟩
  case round =>
    obtain ⟨k, hk, rfl, hE⟩ := hrel
    have i0 : (0 : Int) ≤ (k : Int) := by omega
    have i1 : (k : Int) ≤ 4611686018427387904 := by omega
    by_cases hlt : k + 1 < l.length
    · have i2 : (k : Int) + 1 < (l.length : Int) := by omega
      have hd : decide ((k : Int) + 1 < (l.length : Int)) = true := decide_eq_true i2
      have i4 : (k : Int) < (l.length : Int) := by omega
      have i5 : ((k : Int) + 1).toNat = k + 1 := by omega
      have i6 : (0 : Int) ≤ (k : Int) + 1 := by omega
      have h1 := HAt.out k (by omega)
      have h2 := HAt.out (k + 1) hlt
      have hc1 : ((l[k]).toNat : Int) ≤ 255 := by have := (l[k]).toNat_lt; omega
      have hc2 : ((l[k + 1]).toNat : Int) ≤ 255 := by have := (l[k + 1]).toNat_lt; omega
      by_cases ha : l[k] = 123
      · have e1 : ((l[k]).toNat : Int) = 123 := by rw [ha]; rfl
        by_cases hb : l[k + 1] = 123
        · have e2 : ((l[k + 1]).toNat : Int) = 123 := by rw [hb]; rfl
          have HN : Hid (opB l = true) := hE.out.trans (op_yes hlt ha hb)
          clear hE ha hb
          generalize l[k] = c at *
          generalize l[k + 1] = d at *
          go_wp2_with fail
          go_ret
          exact ⟨ret_bool HN.out.symm, rfl⟩
        · have e2 : (((l[k + 1]).toNat : Int) == 123) = false := oct_ne (n := 123) hb (by decide)
          have n2 : ¬ ((l[k + 1]).toNat : Int) = 123 := by rw [beq_eq_false_iff_ne] at e2; exact e2
          have HN : Hid (opB l = opB (l.drop (k + 1))) := hE.out.trans (op_next hlt (fun h => hb h.2))
          clear hE ha hb
          generalize l[k] = c at *
          generalize l[k + 1] = d at *
          go_wp2_with fail
          go_round
          case rel => exact ⟨k + 1, by omega, by go_num, HN⟩
          case measure => simp [intOf]; omega
      · have e1 : (((l[k]).toNat : Int) == 123) = false := oct_ne (n := 123) ha (by decide)
        have n1 : ¬ ((l[k]).toNat : Int) = 123 := by rw [beq_eq_false_iff_ne] at e1; exact e1
        have HN : Hid (opB l = opB (l.drop (k + 1))) := hE.out.trans (op_next hlt (fun h => ha h.1))
        clear hE ha
        generalize l[k] = c at *
        generalize l[k + 1] = d at *
        go_wp2_with fail
        go_round
        case rel => exact ⟨k + 1, by omega, by go_num, HN⟩
        case measure => simp [intOf]; omega
    · have HN : Hid (opB l = false) := hE.out.trans (op_long (by omega))
      have hd : decide ((k : Int) + 1 < (l.length : Int)) = false := decide_eq_false (by omega)
      have i2 : ¬ (k : Int) + 1 < (l.length : Int) := by omega
      clear hE
      go_wp2_with fail
      go_ret
      exact ⟨ret_bool HN.out.symm, rfl⟩
theorem lblank_c (n : Int) (w : World) (h0 : 0 ≤ n) (h1 : n ≤ 255) :
    Calls Try.prog 13 #[.int .u8 n] w fun e w' => e = .returned (.bool (blankI n)) ∧ w = w' := by
  go_enter Try.func13, Try.ntmps13
  go_wp2
  all_goals go_ret
  all_goals (refine ⟨ret_bool ?_, rfl⟩; rw [Bool.eq_iff_iff]; simp [blankI]; try omega)
end Go.Proofs.Ytbchjmldjdhjiaa.Lxw
