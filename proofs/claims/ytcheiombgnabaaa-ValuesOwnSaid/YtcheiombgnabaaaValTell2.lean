/-
  Contracts of values.tellEach and values.tell at a list of numbers, and of values.Print at a text and at a list of numbers.
-/
import Derived.Test.YtcheiombgnabaaaValTell
namespace Go.Proofs.Ytcheiombgnabaaa.Val
open Go.RowKit Go.Proofs.Ytcheiombgnabaaa.Oct Go.Proofs.Ytcheiombgnabaaa.Num Go.Proofs.Ytcheiombgnabaaa.Build

/-- The first k numbers' digits, a blank between. -/
def joinAt (ns : List Int) : Nat → List UInt8
  | 0 => []
  | k + 1 => joinAt ns k ++ ((if k = 0 then [] else [32]) ++ printL (ns.getD k 0))
theorem joinAt_le (ns : List Int) {j k : Nat} (h : j ≤ k) : (joinAt ns j).length ≤ (joinAt ns k).length := by
  induction k with
  | zero => have : j = 0 := by omega
            subst this; exact Nat.le_refl _
  | succ k ih =>
    rcases Nat.lt_or_ge k j with h1 | h1
    · have : j = k + 1 := by omega
      subst this; exact Nat.le_refl _
    · have := ih h1
      simp only [joinAt, List.length_append]
      omega

theorem enter_tell1 : ∀ args w, (callFunc 39 args).run Try.prog w = .ok (.enter 39 args) w := enters_of Try.func39 (by kernel_rfl) rfl
theorem tell1_c (k : Int) (w : World) : Calls Try.prog 39 #[.int .i64 k] w fun e w' => e = .returned (.tuple #[]) ∧ w' = w := by
  go_enter Try.func39, Try.ntmps39
  go_wp2
  go_end0
  exact ⟨rfl, rfl⟩

/-- The numbers of a list in memory. -/
def Ints (bk off : Nat) (ns : List Int) (W : World) : Prop :=
  (∃ cur fz, W.heap[bk]? = some (.cells cur 25 fz)) ∧ ∀ i, i < ns.length → W.cell? ⟨bk, off + i * 5, none⟩ = some (.int .i64 3) ∧ W.cell? ⟨bk, off + i * 5 + 1, none⟩ = some (.int .i64 (ns.getD i 0)) ∧
    W.cell? ⟨bk, off + i * 5 + 2, none⟩ = some (.string ⟨#[]⟩) ∧ W.cell? ⟨bk, off + i * 5 + 3, none⟩ = some (.slice none 0 0) ∧ W.cell? ⟨bk, off + i * 5 + 4, none⟩ = some (.slice none 0 0)

theorem Ints.kept {bk off b : Nat} {ns : List Int} {W W' : World} (h : Ints bk off ns W) (hb : bk ≠ b) (ho : Others b W W') : Ints bk off ns W' := by
  obtain ⟨⟨cur, fz, h1⟩, h2⟩ := h
  have e1 : W'.heap[bk]? = some (.cells cur 25 fz) := ho _ _ h1 (by simpa using hb) (fun c fz e => by cases e)
  refine ⟨⟨cur, fz, e1⟩, fun i hi => ?_⟩
  have e : ∀ o, W'.cell? ⟨bk, o, none⟩ = W.cell? ⟨bk, o, none⟩ := fun o => World.cell?_of_block (a := ⟨bk, o, none⟩) (e1.trans h1.symm)
  rw [e, e, e, e, e]
  exact h2 i hi

/-- What holds between two rounds of tellEach. -/
def EachAt (B b : Nat) (l : List UInt8) (ns : List Int) (W : World) (k : Nat) (wr : World) : Prop :=
  Has B b (l ++ joinAt ns k) wr ∧ Below B W wr ∧ Others b W wr

abbrev box3 (n : Int) : Obj := .cells #[.int .i64 3, .int .i64 n, .string ⟨#[]⟩, .slice none 0 0, .slice none 0 0] 25

theorem box_cells {X Y : World} {n : Int} {b : Nat} (hb : b < X.heap.size) (h : Others b (X.alloc (box3 n)) Y) :
    Y.cell? ⟨X.heap.size, 0, none⟩ = some (.int .i64 3) ∧ Y.cell? ⟨X.heap.size, 1, none⟩ = some (.int .i64 n) ∧ Y.cell? ⟨X.heap.size, 2, none⟩ = some (.string ⟨#[]⟩) ∧ Y.cell? ⟨X.heap.size, 3, none⟩ = some (.slice none 0 0) ∧ Y.cell? ⟨X.heap.size, 4, none⟩ = some (.slice none 0 0) := by
  have e : Y.heap[X.heap.size]? = some (.cells #[.int .i64 3, .int .i64 n, .string ⟨#[]⟩, .slice none 0 0, .slice none 0 0] 25 (0, 0)) := h _ _ (heap_alloc_new X _) (by simp; omega) (fun c fz e => by cases e)
  exact ⟨cell_of_row Y _ 0 _ _ _ e, cell_of_row Y _ 1 _ _ _ e, cell_of_row Y _ 2 _ _ _ e, cell_of_row Y _ 3 _ _ _ e, cell_of_row Y _ 4 _ _ _ e⟩

theorem each_next {B b : Nat} {l t : List UInt8} {ns : List Int} {W wr Y Z : World} {k : Nat} {o : Obj} {e : Ending} (hBW : B ≤ W.heap.size) (h : EachAt B b l ns W k wr) (hY : Below B (wr.alloc o) Y ∧ Others b (wr.alloc o) Y)
    (hZ : Put B b ((l ++ joinAt ns k ++ t) ++ printL (ns.getD k 0)) Y e Z) (ht : t = if k = 0 then [] else [32]) : EachAt B b l ns W (k + 1) Z := by
  obtain ⟨h1, h2, h3⟩ := h
  refine ⟨?_, ?_, ?_⟩
  · have e1 : (l ++ joinAt ns k ++ t) ++ printL (ns.getD k 0) = l ++ joinAt ns (k + 1) := by simp only [joinAt, ht, List.append_assoc]
    rw [← e1]
    exact hZ.2.1
  · exact ((h2.alloc (by have := h2.size; omega) o).trans hY.1).trans hZ.2.2.1
  · exact (((h3.alloc o)).trans hY.2).trans hZ.2.2.2

set_option maxHeartbeats 4000000 in
set_option maxRecDepth 100000 in
theorem tellEach_c (B b : Nat) (l : List UInt8) (ns : List Int) (bk off cap : Nat) (W : World) (h : Has B b l W) (hbig : l.length + (joinAt ns ns.length).length ≤ 140737488355328) (hBW : B ≤ W.heap.size)
    (hr : ∀ i, -9223372036854775808 ≤ ns.getD i 0 ∧ ns.getD i 0 ≤ 9223372036854775807) (hI : Ints bk off ns W) (hne : bk ≠ b) (hn : ns.length ≤ 140737488351232) :
    Calls Try.prog 38 #[.slice (some ⟨bk, off, none⟩) ns.length cap, putF b, .func (.func 39) #[] #[]] W (Put B b (l ++ joinAt ns ns.length) W) := by
  have e29 := enter_put
  have e39 := enter_tell1
  have HH := Lib.hid (And.intro h (And.intro hbig (And.intro hBW (And.intro hr (And.intro hI hne)))))
  clear h hbig hBW hr hI hne
  obtain ⟨n, hnn⟩ : ∃ n, ns.length = n := ⟨_, rfl⟩
  rw [hnn] at hn ⊢
  go_enter Try.func38, Try.ntmps38
  go_wp2_with fail
  go_loopw [6, 7, 10] (fun _ _ i wr => ∃ k : Nat, k ≤ n ∧ i = .int .i64 k ∧ Hid (EachAt B b l ns W k wr)) (fun _ _ i _ => n - (intOf i).toNat)
  case atStart => exact ⟨0, Nat.zero_le _, rfl, by simpa [joinAt] using HH.out.1, Below.refl _ _, Lib.OthersKept.refl _ _ _⟩
  case round =>
    obtain ⟨k, hk, rfl, hat⟩ := hrel
    by_cases hlt : k < n
    · obtain ⟨h, hbig, hBW, hr, hI, hne⟩ := HH.out
      obtain ⟨hHas, hBel, hOth⟩ := hat.out
      have hbl := (has_lt hHas).2
      obtain ⟨c0, c1, c2, c3, c4⟩ := (hI.kept hne hOth).2 k (by omega)
      obtain ⟨m, hm⟩ : ∃ m, ns.getD k 0 = m := ⟨_, rfl⟩
      have hrk := hr k
      rw [hm] at c1 hrk
      have hle : l.length + (joinAt ns (k + 1)).length ≤ 140737488355328 := by have := joinAt_le ns (show k + 1 ≤ ns.length by omega); omega
      simp only [joinAt, List.length_append, hm] at hle
      have zW := hBel.size
      have hHas1 : Has B b (l ++ joinAt ns k) (wr.alloc (box3 m)) := has_below hHas ((Below.refl _ wr).alloc (Nat.le_refl _) _)
      have h1 : (0 : Int) ≤ (k : Int) := by omega
      have h2 : (k : Int) < (n : Int) := by omega
      by_cases hk0 : k = 0
      · subst hk0
        simp only [↓reduceIte, List.length_nil, Nat.zero_add] at hle
        rw [Nat.zero_mul, Nat.add_zero] at c0 c1 c2 c3 c4
        have hcall := tell_int B b (l ++ joinAt ns 0) m ⟨#[]⟩ none 0 0 none 0 0 (wr.alloc (box3 m)) hHas1 (by simp only [List.length_append]; omega) (by simp; omega) hrk.1 hrk.2
        have HN : Hid (∀ e Z, Put B b ((l ++ joinAt ns 0) ++ printL m) (wr.alloc (box3 m)) e Z → EachAt B b l ns W (0 + 1) Z) := fun e Z hZ =>
          each_next (t := []) (o := box3 m) (Y := wr.alloc (box3 m)) hBW hat.out ⟨Below.refl _ _, Lib.OthersKept.refl _ _ _⟩ (by rw [List.append_nil, hm]; exact hZ) rfl
        clear h hbig hBW hr hI hne hHas hBel hOth hHas1 hle hrk zW hm
        go_wp2_with (first
          | (go_at_fn 39; refine (tell1_c _ _).mono ?_; rintro e X ⟨rfl, rfl⟩)
          | (go_at_call 28; refine hcall.mono ?_; rintro e Z hZ; obtain rfl := hZ.1; have HZ := HN.out _ _ hZ; clear hZ))
        go_roundw
        case rel => exact ⟨0 + 1, by omega, by go_num, HZ⟩
        case measure => simp [intOf]; omega
      · rw [if_neg hk0] at hle
        simp only [List.length_cons, List.length_nil] at hle
        have hput := put_c B b (l ++ joinAt ns k) ⟨#[32]⟩ (wr.alloc (box3 m)) hHas1 (by simp [ByteArray.size]; omega) (by simp; omega)
        have hgt : (0 : Int) < (k : Int) := by omega
        have HC : Hid (∀ Y, Put B b (l ++ joinAt ns k ++ [32]) (wr.alloc (box3 m)) (.returned (.tuple #[])) Y → (Y.cell? ⟨wr.heap.size, 0, none⟩ = some (.int .i64 3) ∧ Y.cell? ⟨wr.heap.size, 1, none⟩ = some (.int .i64 m) ∧ Y.cell? ⟨wr.heap.size, 2, none⟩ = some (.string ⟨#[]⟩) ∧ Y.cell? ⟨wr.heap.size, 3, none⟩ = some (.slice none 0 0) ∧ Y.cell? ⟨wr.heap.size, 4, none⟩ = some (.slice none 0 0)) ∧
            Calls Try.prog 28 #[.agg #[.int .i64 3, .int .i64 m, .string ⟨#[]⟩, .slice none 0 0, .slice none 0 0], putF b] Y (Put B b ((l ++ joinAt ns k ++ [32]) ++ printL m) Y)) := fun Y hY => by
          refine ⟨box_cells hbl hY.2.2.2, tell_int B b (l ++ joinAt ns k ++ [32]) m ⟨#[]⟩ none 0 0 none 0 0 Y hY.2.1 (by simp only [List.length_append, List.length_cons, List.length_nil]; omega) (by have := hY.2.2.1.size; simp at this; omega) hrk.1 hrk.2⟩
        have HN : Hid (∀ Y, Put B b (l ++ joinAt ns k ++ [32]) (wr.alloc (box3 m)) (.returned (.tuple #[])) Y → ∀ e Z, Put B b ((l ++ joinAt ns k ++ [32]) ++ printL m) Y e Z → EachAt B b l ns W (k + 1) Z) := fun Y hY e Z hZ =>
          each_next (t := [32]) (o := box3 m) hBW hat.out ⟨hY.2.2.1, hY.2.2.2⟩ (by rw [hm]; exact hZ) (by rw [if_neg hk0])
        clear h hbig hBW hr hI hne hHas hBel hOth hHas1 hle hrk zW hm
        go_wp2_with (first
          | (go_at_fn 29; refine hput.mono ?_; rintro e Y hY; obtain rfl := hY.1; obtain ⟨⟨x0, x1, x2, x3, x4⟩, hcall⟩ := HC.out Y hY; have HY := HN.out Y hY; clear hY)
          | (go_at_fn 39; refine (tell1_c _ _).mono ?_; rintro e X ⟨rfl, rfl⟩)
          | (go_at_call 28; refine hcall.mono ?_; rintro e Z hZ; obtain rfl := hZ.1; have HZ := HY _ _ hZ; clear hZ))
        go_roundw
        case rel => exact ⟨k + 1, by omega, by go_num, HZ⟩
        case measure => simp [intOf]; omega
    · have hkn : k = n := by omega
      subst hkn
      go_wp2
      go_end0
      exact ⟨rfl, hat.out⟩
end Go.Proofs.Ytcheiombgnabaaa.Val
