/-
  Part 1: OctPure, TabPure, ScnState, TabPage.
-/
import Derived.WalkKit
import Derived.Test.YtbpccbdgkkfdpaaDoorProg
import Derived.Lib.Hide
import Derived.Deep.QuietTactic
import Derived.BigQuiet
import Derived.Lib.Strings
/-
  Plain facts on octets and lists of octets, with no program: what a blank, a letter, a digit is; small and great letters; the first place of a property; digits of base 16.
-/
namespace Go.Proofs.YtbpccbdgkkfdpaaDoor.Oct
open Go.RowKit

/-- A text of these octets. -/
abbrev S (l : List UInt8) : ByteArray := ⟨l.toArray⟩

theorem S_list (s : ByteArray) : S s.data.toList = s := by cases s; simp [S]
theorem list_S (l : List UInt8) : (S l).data.toList = l := by simp
theorem size_S (l : List UInt8) : (S l).size = l.length := by simp [ByteArray.size]
theorem S_append (a b : List UInt8) : S a ++ S b = S (a ++ b) := by simp [S, ByteArray.mk_append_mk]
theorem size_list (s : ByteArray) : s.data.toList.length = s.size := by rw [Array.length_toList]; rfl

def blankI (n : Int) : Bool := decide (n = 9 ∨ n = 10 ∨ n = 12 ∨ n = 13 ∨ n = 32)
def smallI (n : Int) : Bool := decide (97 ≤ n ∧ n ≤ 122)
def greatI (n : Int) : Bool := decide (65 ≤ n ∧ n ≤ 90)
def letterI (n : Int) : Bool := decide ((97 ≤ n ∧ n ≤ 122) ∨ (65 ≤ n ∧ n ≤ 90))
def digitI (n : Int) : Bool := decide (48 ≤ n ∧ n ≤ 57)
def nameI (n : Int) : Bool := decide ((97 ≤ n ∧ n ≤ 122) ∨ (65 ≤ n ∧ n ≤ 90) ∨ (48 ≤ n ∧ n ≤ 57) ∨ n = 95)
def lowI (n : Int) : Int := if 65 ≤ n ∧ n ≤ 90 then n + 32 else n
def upI (n : Int) : Int := if 97 ≤ n ∧ n ≤ 122 then n - 32 else n
/-- What a digit of base 16 counts; -1: none. -/
def hexI (n : Int) : Int := if 48 ≤ n ∧ n ≤ 57 then n - 48 else if 97 ≤ n ∧ n ≤ 102 then n - 87 else if 65 ≤ n ∧ n ≤ 70 then n - 55 else -1

theorem ret_bool {a b : Bool} (h : a = b) : Ending.returned (.bool a) = .returned (.bool b) := by rw [h]
theorem ret_int {k : IntKind} {a b : Int} (h : a = b) : Ending.returned (.int k a) = .returned (.int k b) := by rw [h]

theorem lowI_range {n : Int} (h0 : 0 ≤ n) (h1 : n ≤ 255) : 0 ≤ lowI n ∧ lowI n ≤ 255 := by unfold lowI; split <;> omega
theorem upI_range {n : Int} (h0 : 0 ≤ n) (h1 : n ≤ 255) : 0 ≤ upI n ∧ upI n ≤ 255 := by unfold upI; split <;> omega
theorem hexI_range (n : Int) : -1 ≤ hexI n ∧ hexI n ≤ 15 := by
  unfold hexI
  repeat' split
  all_goals omega

/-- A letter, small; great. -/
def low (c : UInt8) : UInt8 := if 65 ≤ c ∧ c ≤ 90 then c + 32 else c
def up (c : UInt8) : UInt8 := if 97 ≤ c ∧ c ≤ 122 then c - 32 else c

theorem low_all : ∀ k : Fin 256, (((low (UInt8.ofNat k.val)).toNat : Nat) : Int) = lowI ((UInt8.ofNat k.val).toNat : Int) := by decide +kernel
theorem up_all : ∀ k : Fin 256, (((up (UInt8.ofNat k.val)).toNat : Nat) : Int) = upI ((UInt8.ofNat k.val).toNat : Int) := by decide +kernel
theorem low_toNat (c : UInt8) : ((low c).toNat : Int) = lowI (c.toNat : Int) := by
  have := low_all ⟨c.toNat, c.toNat_lt⟩
  simpa using this
theorem up_toNat (c : UInt8) : ((up c).toNat : Int) = upI (c.toNat : Int) := by
  have := up_all ⟨c.toNat, c.toNat_lt⟩
  simpa using this

/-- The octet at a place of a text; 0 behind its end. -/
def at' (s : ByteArray) (k : Nat) : UInt8 := s.data.toList.getD k 0
theorem at_eq (s : ByteArray) (k : Nat) (h : k < s.size) : s[k] = at' s k := by
  have h' : k < s.data.toList.length := by rw [size_list]; exact h
  unfold at'
  rw [List.getD_eq_getElem?_getD, List.getElem?_eq_getElem h', Option.getD_some, Array.getElem_toList]
  rfl
theorem map_at (s : ByteArray) (f : UInt8 → UInt8) : (List.range s.size).map (fun k => f (at' s k)) = s.data.toList.map f := by
  apply List.ext_getElem
  · simp
  · intro i h1 h2
    have h : i < s.data.toList.length := by simpa using h2
    simp only [List.getElem_map, List.getElem_range]
    unfold at'
    rw [List.getD_eq_getElem?_getD, List.getElem?_eq_getElem h, Option.getD_some]

theorem all_at (s : ByteArray) (q : UInt8 → Bool) : (List.range s.size).all (fun k => q (at' s k)) = s.data.toList.all q := by
  have h := map_at s (fun c => if q c then 1 else 0)
  have e : ∀ l : List UInt8, (l.map (fun c => if q c then (1 : UInt8) else 0)).all (· == 1) = l.all q := by
    intro l
    induction l with
    | nil => rfl
    | cons c l ih =>
      simp only [List.map_cons, List.all_cons, ih]
      cases q c <;> simp
  rw [← e, ← h, List.all_map]
  congr 1
  funext k
  simp only [Function.comp]
  cases q (at' s k) <;> simp

theorem at_zero (s : ByteArray) : s.data.toList.getD 0 0 = at' s 0 := rfl

/-- A name, as the page says. -/
def nameB (l : List UInt8) : Bool := decide (1 ≤ l.length ∧ l.length ≤ 32) && !digitI ((l.getD 0 0).toNat : Int) && l.all (fun c => nameI (c.toNat : Int))
end Go.Proofs.YtbpccbdgkkfdpaaDoor.Oct

/-
  Plain facts on the tables of elements and attributes, with no program.
-/
namespace Go.Proofs.YtbpccbdgkkfdpaaDoor.Tab
open Go.Proofs.YtbpccbdgkkfdpaaDoor.Oct

abbrev elsL : List (List UInt8) := [[116, 105, 116, 108, 101], [116, 101, 120, 116, 97, 114, 101, 97], [115, 116, 121, 108, 101], [115, 99, 114, 105, 112, 116], [112, 108, 97, 105, 110, 116, 101, 120, 116], [120, 109, 112], [105, 102, 114, 97, 109, 101], [110, 111, 101, 109, 98, 101, 100], [110, 111, 102, 114, 97, 109, 101, 115], [110, 111, 115, 99, 114, 105, 112, 116]]
abbrev urlsL : List (List UInt8) := [[104, 114, 101, 102], [115, 114, 99], [97, 99, 116, 105, 111, 110], [102, 111, 114, 109, 97, 99, 116, 105, 111, 110], [99, 105, 116, 101], [112, 111, 115, 116, 101, 114], [98, 97, 99, 107, 103, 114, 111, 117, 110, 100], [108, 111, 110, 103, 100, 101, 115, 99], [109, 97, 110, 105, 102, 101, 115, 116], [105, 99, 111, 110]]
abbrev nosL : List (List UInt8) := [[115, 114, 99, 100, 111, 99], [115, 114, 99, 115, 101, 116], [104, 116, 116, 112, 45, 101, 113, 117, 105, 118], [112, 105, 110, 103]]
abbrev voidsL : List (List UInt8) := [[97, 114, 101, 97], [98, 97, 115, 101], [98, 114], [99, 111, 108], [101, 109, 98, 101, 100], [104, 114], [105, 109, 103], [105, 110, 112, 117, 116], [108, 105, 110, 107], [109, 101, 116, 97], [112, 97, 114, 97, 109], [115, 111, 117, 114, 99, 101], [116, 114, 97, 99, 107], [119, 98, 114]]
abbrev dataL : List UInt8 := [100, 97, 116, 97]
abbrev objectL : List UInt8 := [111, 98, 106, 101, 99, 116]
abbrev onL : List UInt8 := [111, 110]
abbrev styleL : List UInt8 := [115, 116, 121, 108, 101]
abbrev xmlnsL : List UInt8 := [120, 109, 108, 110, 115]
/-- What an element's number is by its place. -/
def codeN (i : Nat) : Nat := if i < 2 then 1 else if i < 4 then i else 4
/-- The first place of a text in a list. -/
def placeL (s : List UInt8) : List (List UInt8) → Option Nat
  | [] => none
  | x :: r => if x = s then some 0 else (placeL s r).map (· + 1)
def elemN (s : List UInt8) : Nat := match placeL s elsL with
  | some i => codeN i
  | none => 0
def inL (l : List (List UInt8)) (s : List UInt8) : Bool := decide (s ∈ l)
def preL (p s : List UInt8) : Bool := decide (p <+: s)
def attrN (elem attr : List UInt8) : Nat :=
  if inL urlsL attr = true ∨ (attr = dataL ∧ elem = objectL) then 1 else if preL onL attr = true then 2 else if attr = styleL then 3
  else if attr = [] ∨ inL nosL attr = true ∨ preL xmlnsL attr = true then 4 else 0
def voidB (s : List UInt8) : Bool := inL voidsL s

theorem take_ne {p s : List UInt8} {l : List (List UInt8)} (h : ∀ x ∈ l, x.take p.length ≠ p) : inL l (p ++ s) = false := by
  refine decide_eq_false fun hm => h _ hm ?_
  rw [List.take_left]
theorem attr_on (elem s : List UInt8) : attrN elem (onL ++ s) = 2 := by
  unfold attrN
  have h1 : inL urlsL (onL ++ s) = false := take_ne (by decide)
  have h2 : onL ++ s ≠ dataL := fun h => absurd (congrArg (List.take 1) h) (by simp)
  have h3 : preL onL (onL ++ s) = true := decide_eq_true (List.prefix_append ..)
  rw [if_neg (by rw [h1]; exact fun h => h.elim (fun h => Bool.noConfusion h) (fun h => h2 h.1)), if_pos h3]
theorem attr_q (elem s : List UInt8) : attrN elem ([113, 45, 111, 110] ++ s) = 0 := by
  unfold attrN
  have h1 : inL urlsL ([113, 45, 111, 110] ++ s) = false := take_ne (by decide)
  have h2 : [113, 45, 111, 110] ++ s ≠ dataL := fun h => absurd (congrArg (List.take 1) h) (by simp)
  have h3 : preL onL ([113, 45, 111, 110] ++ s) = false := decide_eq_false (by rintro ⟨t, ht⟩; simp at ht)
  have h4 : [113, 45, 111, 110] ++ s ≠ styleL := fun h => absurd (congrArg (List.take 1) h) (by simp)
  have h5 : [113, 45, 111, 110] ++ s ≠ [] := by simp
  have h6 : inL nosL ([113, 45, 111, 110] ++ s) = false := take_ne (by decide)
  have h7 : preL xmlnsL ([113, 45, 111, 110] ++ s) = false := decide_eq_false (by rintro ⟨t, ht⟩; simp at ht)
  rw [if_neg (by rw [h1]; exact fun h => h.elim (fun h => Bool.noConfusion h) (fun h => h2 h.1)), if_neg (by rw [h3]; simp), if_neg h4, if_neg (by rw [h6, h7]; exact fun h => h.elim h5 (fun h => h.elim (fun h => Bool.noConfusion h) (fun h => Bool.noConfusion h)))]

/-! ### A loop that looks a text up -/
theorem place_none {s : List UInt8} : ∀ {l : List (List UInt8)}, (∀ k, (h : k < l.length) → l[k] ≠ s) → placeL s l = none
  | [], _ => rfl
  | x :: r, h => by
    unfold placeL
    rw [if_neg (show x ≠ s from h 0 (by simp)), place_none (fun k hk => by have := h (k + 1) (by simp; omega); simpa using this)]
    rfl
theorem place_some {s : List UInt8} : ∀ {l : List (List UInt8)} {k : Nat} (hk : k < l.length), (∀ j, (h : j < l.length) → j < k → l[j] ≠ s) → l[k] = s → placeL s l = some k
  | [], k, hk, _, _ => absurd hk (by simp)
  | x :: r, 0, _, _, he => by
    unfold placeL
    rw [if_pos (show x = s from he)]
  | x :: r, k + 1, hk, hn, he => by
    unfold placeL
    rw [if_neg (show x ≠ s from hn 0 (by simp) (by omega)), place_some (k := k) (by simpa using hk) (fun j h hj => by have := hn (j + 1) (by simp; omega) (by omega); simpa using this) (by simpa using he)]
    rfl
theorem in_yes {l : List (List UInt8)} {s : List UInt8} {k : Nat} (hk : k < l.length) (he : l[k] = s) : inL l s = true := decide_eq_true (he ▸ List.getElem_mem hk)
theorem in_no {l : List (List UInt8)} {s : List UInt8} (h : ∀ k, (h : k < l.length) → l[k] ≠ s) : inL l s = false := by
  refine decide_eq_false fun hm => ?_
  obtain ⟨k, hk, he⟩ := List.getElem_of_mem hm
  exact h k hk he
end Go.Proofs.YtbpccbdgkkfdpaaDoor.Tab

/-
  A place in HTML as a plain state, with no program: its language, whether it may be.
-/
namespace Go.Proofs.YtbpccbdgkkfdpaaDoor.Scn
open Go.Proofs.YtbpccbdgkkfdpaaDoor.Oct Go.Proofs.YtbpccbdgkkfdpaaDoor.Tab

/-- A state: its kind, element, attribute, quote, what is pending, the reference, the part and the word. -/
structure Sc where
  k : Nat
  e : List UInt8
  a : List UInt8
  d : UInt8
  p : List UInt8
  r : List UInt8
  n : Int
  w : List UInt8
deriving DecidableEq
abbrev sc0 : Sc := ⟨0, [], [], 0, [], [], 0, []⟩
abbrev scK (k : Nat) (e : List UInt8) : Sc := ⟨k, e, [], 0, [], [], 0, []⟩

/-- Is it an end tag's? -/
def endE (e : List UInt8) : Bool := e.head? == some 47
def attK (s : Sc) : Nat := if (s.k < 8 ∨ 10 < s.k) ∨ endE s.e = true then 0 else attrN s.e s.a
def langN (s : Sc) : Nat := if s.k = 18 then 3 else if s.k = 19 then 2 else if s.k = 9 ∨ s.k = 10 then (if attK s < 4 then attK s else 0) else 0
def elemK (k : Nat) : Bool := decide ((3 ≤ k ∧ k ≤ 12) ∨ 17 ≤ k)
def attrK (k : Nat) : Bool := decide (6 ≤ k ∧ k ≤ 10)
def refK (k : Nat) : Bool := decide (k = 0 ∨ k = 9 ∨ k = 10 ∨ k = 17)
/-- Whether a state may be. -/
def checkS (s : Sc) : Nat :=
  if 19 < s.k then 4
  else if 33 < s.e.length ∨ 32 < s.a.length ∨ 34 < s.p.length ∨ 16 < s.r.length ∨ 16 < s.w.length then 9
  else if s.n < 0 ∨ 15 < s.n then 9
  else if (elemK s.k = false ∧ s.e ≠ []) ∨ (attrK s.k = false ∧ s.a ≠ []) ∨ (s.k < 16 ∧ s.p ≠ []) ∨ (refK s.k = false ∧ s.r ≠ []) then 9
  else if (s.k = 9 ∧ s.d ≠ 34 ∧ s.d ≠ 39) ∨ (s.k ≠ 9 ∧ s.d ≠ 0) then 9
  else if langN s = 0 ∧ (s.n ≠ 0 ∨ s.w ≠ []) then 9
  else 0
/-- The same of a kind that is any number. -/
def checkI (k : Int) (e a : List UInt8) (d : UInt8) (p r : List UInt8) (n : Int) (w : List UInt8) : Nat :=
  if k < 0 then 4 else checkS ⟨k.toNat, e, a, d, p, r, n, w⟩
end Go.Proofs.YtbpccbdgkkfdpaaDoor.Scn

/-
  Contracts of the page's Elements, Element, Attribute and Void.
-/
namespace Go.Proofs.YtbpccbdgkkfdpaaDoor.Tab
open Go.RowKit Go.Proofs.YtbpccbdgkkfdpaaDoor.Oct

theorem eqT (a b : List UInt8) : ((S a).toList == (S b).toList) = decide (a = b) := by
  rw [ByteArray.toList_eq, ByteArray.toList_eq, list_S, list_S, Bool.eq_iff_iff]
  simp
theorem eqTL (a b : List UInt8) : ((S a).toList == b) = decide (a = b) := by
  rw [ByteArray.toList_eq, list_S, Bool.eq_iff_iff]
  simp
/-- A list of texts that lies in a block. -/
def Texts (g : Nat) (ls : List (List UInt8)) (w : World) : Prop := ∀ j, (h : j < ls.length) → w.cell? ⟨g, j, none⟩ = some (.string (S ls[j]))

set_option maxHeartbeats 1000000 in
theorem rone_c (ls : List (List UInt8)) (hl : ls.length ≤ 1000) (g cap : Nat) (s : List UInt8) (w : World) (h : Texts g ls w) :
    Calls Tryd.prog 64 #[.slice (some ⟨g, 0, none⟩) ls.length cap, .string (S s)] w fun e w' => e = .returned (.bool (inL ls s)) ∧ w = w' := by
  have H := Lib.hid h
  clear h
  have HE := Lib.hid (fun a => eqT a s)
  generalize S s = T at HE
  have hli : (ls.length : Int) ≤ 1000 := by omega
  go_enter Tryd.func64, Tryd.ntmps64
  go_wp2_with fail
  go_loop [5] (fun i => ∃ k : Nat, k ≤ ls.length ∧ i = .int .i64 k ∧ Hid (∀ j, (h : j < ls.length) → j < k → ls[j] ≠ s)) (fun i => ls.length - (intOf i).toNat)
  case atStart => exact ⟨0, Nat.zero_le _, rfl, fun j _ h => absurd h (by omega)⟩
  case round =>
    obtain ⟨k, hk, rfl, hno⟩ := hrel
    by_cases hlt : k < ls.length
    · have hc := H.out k hlt
      have he := HE.out ls[k]
      have i0 : (0 : Int) ≤ (k : Int) := by omega
      have i1 : (k : Int) < (ls.length : Int) := by omega
      by_cases hq : ls[k] = s
      · have HR : Hid (inL ls s = true) := in_yes hlt hq
        rw [decide_eq_true hq] at he
        clear hq
        generalize S ls[k] = X at hc he
        go_wp2_with fail
        go_ret
        exact ⟨ret_bool HR.out.symm, rfl⟩
      · have HN : Hid (∀ j, (h : j < ls.length) → j < k + 1 → ls[j] ≠ s) := fun j h hj => by
          rcases Nat.lt_or_ge j k with h2 | h2
          · exact hno.out j h h2
          · obtain rfl : j = k := by omega
            exact hq
        rw [decide_eq_false hq] at he
        clear hq
        generalize S ls[k] = X at hc he
        go_wp2_with fail
        go_round
        case rel => exact ⟨k + 1, by omega, by go_num, HN⟩
        case measure => simp [intOf]; omega
    · have HR : Hid (inL ls s = false) := in_no fun j h => hno.out j h (by omega)
      go_wp2_with fail
      go_ret
      exact ⟨ret_bool HR.out.symm, rfl⟩

theorem laid_texts (ls : List (List UInt8)) (w : World) : Texts w.heap.size ls (w.alloc (.cells (ls.map (fun l => Value.string (S l))).toArray 9)) := by
  intro j h
  have hh : (w.alloc (.cells (ls.map (fun l => Value.string (S l))).toArray 9)).heap[w.heap.size]? = some (.cells (ls.map (fun l => Value.string (S l))).toArray 9 (0, 0)) := heap_alloc_new w _
  unfold World.cell?
  rw [hh]
  simp [h]

/-- Contract of the page's Begins. -/
theorem rpre_c (p l : List UInt8) (w : World) :
    Calls Tryd.prog 47 #[.string (S p), .string (S l)] w fun e w' => e = .returned (.bool (preL p l)) ∧ w = w' := by
  have z1 : ((S p).size : Int) = (p.length : Int) := by rw [size_S]
  have z2 : ((S l).size : Int) = (l.length : Int) := by rw [size_S]
  by_cases h : p.length ≤ l.length
  · have hcut : (S l).extract 0 p.length = S (l.take p.length) := by rw [Lib.extract_eq]; simp [S]
    have HE : Hid (preL p l = ((S (l.take p.length)).toList == (S p).toList)) := by
      show _ = _
      rw [eqT]
      unfold preL
      rw [Bool.eq_iff_iff, decide_eq_true_eq, decide_eq_true_eq, List.prefix_iff_eq_take]
      exact eq_comm
    generalize S (l.take p.length) = T at hcut HE
    generalize S p = P at z1 HE
    generalize S l = L at z2 hcut
    have h1 : (p.length : Int) ≤ (l.length : Int) := by omega
    have h2 : (0 : Int) ≤ (p.length : Int) := by omega
    go_enter Tryd.func47, Tryd.ntmps47
    go_wp2
    go_ret
    exact ⟨by rw [HE.out]; rfl, rfl⟩
  · have HE : Hid (preL p l = false) := decide_eq_false fun hp => h hp.length_le
    generalize S p = P at z1
    generalize S l = L at z2
    have h1 : decide ((p.length : Int) ≤ (l.length : Int)) = false := decide_eq_false (by omega)
    have h2 : decide (p.length ≤ l.length) = false := decide_eq_false h
    go_enter Tryd.func47, Tryd.ntmps47
    go_wp2
    go_ret
    exact ⟨by rw [HE.out]; rfl, rfl⟩

set_option maxHeartbeats 2000000 in
set_option maxRecDepth 100000 in
theorem rAttribute_c (elem attr : List UInt8) (w : World) :
    Calls Tryd.prog 48 #[.string (S elem), .string (S attr)] w fun e w' => e = .returned (.int .i64 (attrN elem attr : Nat)) ∧ Below w.heap.size w w' := by
  have h1 := fun w => rone_c urlsL (by decide) w.heap.size 10 attr _ (laid_texts urlsL w)
  have h2 := fun (W : World) (n : Nat) (hn : W.heap.size = n) => rone_c nosL (by decide) n 4 attr (W.alloc (.cells (nosL.map (fun l => Value.string (S l))).toArray 9)) (hn ▸ laid_texts nosL W)
  have h3 := fun w => rpre_c onL attr w
  have h4 := fun w => rpre_c xmlnsL attr w
  have e1 : ((S attr).toList == [100, 97, 116, 97]) = decide (attr = dataL) := eqTL attr dataL
  have e2 : ((S elem).toList == [111, 98, 106, 101, 99, 116]) = decide (elem = objectL) := eqTL elem objectL
  have e3 : ((S attr).toList == [115, 116, 121, 108, 101]) = decide (attr = styleL) := eqTL attr styleL
  have e4 : ((S attr).toList == []) = decide (attr = []) := eqTL attr []
  have E : Hid (attrN elem attr = if inL urlsL attr = true ∨ (decide (attr = dataL) = true ∧ decide (elem = objectL) = true) then 1 else if preL onL attr = true then 2 else if decide (attr = styleL) = true then 3
    else if decide (attr = []) = true ∨ inL nosL attr = true ∨ preL xmlnsL attr = true then 4 else 0) := by
    show _ = _
    unfold attrN
    simp only [decide_eq_true_eq]
  generalize inL urlsL attr = b1 at h1 E
  generalize inL nosL attr = b7 at h2 E
  generalize preL onL attr = b4 at h3 E
  generalize preL xmlnsL attr = b8 at h4 E
  generalize decide (attr = dataL) = b2 at e1 E
  generalize decide (elem = objectL) = b3 at e2 E
  generalize decide (attr = styleL) = b5 at e3 E
  generalize decide (attr = []) = b6 at e4 E
  generalize attrN elem attr = ans at E ⊢
  generalize S attr = T at h1 h2 h3 h4 e1 e3 e4
  generalize S elem = U at e2
  cases b1 with
  | true =>
    go_enter Tryd.func48, Tryd.ntmps48
    go_wp2_with fail
    refine (h1 w).mono ?_
    rintro e w1 ⟨rfl, rfl⟩
    go_wp2_with fail
    go_ret
    exact ⟨ret_int (by rw [E.out]; rfl), (Below.refl _ w).alloc (Nat.le_refl _) _⟩
  | false =>
    cases b2 with
    | true =>
      cases b3 with
      | true =>
        go_enter Tryd.func48, Tryd.ntmps48
        go_wp2_with fail
        refine (h1 w).mono ?_
        rintro e w1 ⟨rfl, rfl⟩
        go_wp2_with fail
        go_ret
        exact ⟨ret_int (by rw [E.out]; rfl), (Below.refl _ w).alloc (Nat.le_refl _) _⟩
      | false =>
        cases b4 with
        | true =>
          go_enter Tryd.func48, Tryd.ntmps48
          go_wp2_with fail
          refine (h1 w).mono ?_
          rintro e w1 ⟨rfl, rfl⟩
          go_wp2_with fail
          refine (h3 _).mono ?_
          rintro e w2 ⟨rfl, rfl⟩
          go_wp2_with fail
          go_ret
          exact ⟨ret_int (by rw [E.out]; rfl), (Below.refl _ w).alloc (Nat.le_refl _) _⟩
        | false =>
          cases b5 with
          | true =>
            go_enter Tryd.func48, Tryd.ntmps48
            go_wp2_with fail
            refine (h1 w).mono ?_
            rintro e w1 ⟨rfl, rfl⟩
            go_wp2_with fail
            refine (h3 _).mono ?_
            rintro e w2 ⟨rfl, rfl⟩
            go_wp2_with fail
            go_ret
            exact ⟨ret_int (by rw [E.out]; rfl), (Below.refl _ w).alloc (Nat.le_refl _) _⟩
          | false =>
            cases b6 with
            | true =>
              go_enter Tryd.func48, Tryd.ntmps48
              go_wp2_with fail
              refine (h1 w).mono ?_
              rintro e w1 ⟨rfl, rfl⟩
              go_wp2_with fail
              refine (h3 _).mono ?_
              rintro e w2 ⟨rfl, rfl⟩
              go_wp2_with fail
              go_ret
              exact ⟨ret_int (by rw [E.out]; rfl), (Below.refl _ w).alloc (Nat.le_refl _) _⟩
            | false =>
              cases b7 with
              | true =>
                go_enter Tryd.func48, Tryd.ntmps48
                go_wp2_with fail
                refine (h1 w).mono ?_
                rintro e w1 ⟨rfl, rfl⟩
                go_wp2_with fail
                refine (h3 _).mono ?_
                rintro e w2 ⟨rfl, rfl⟩
                go_wp2_with fail
                refine (h2 _ _ (by simp)).mono ?_
                rintro e w3 ⟨rfl, rfl⟩
                go_wp2_with fail
                go_ret
                exact ⟨ret_int (by rw [E.out]; rfl), ((Below.refl _ w).alloc (Nat.le_refl _) _).alloc (by simp) _⟩
              | false =>
                cases b8 with
                | true =>
                  go_enter Tryd.func48, Tryd.ntmps48
                  go_wp2_with fail
                  refine (h1 w).mono ?_
                  rintro e w1 ⟨rfl, rfl⟩
                  go_wp2_with fail
                  refine (h3 _).mono ?_
                  rintro e w2 ⟨rfl, rfl⟩
                  go_wp2_with fail
                  refine (h2 _ _ (by simp)).mono ?_
                  rintro e w3 ⟨rfl, rfl⟩
                  go_wp2_with fail
                  refine (h4 _).mono ?_
                  rintro e w4 ⟨rfl, rfl⟩
                  go_wp2_with fail
                  go_ret
                  exact ⟨ret_int (by rw [E.out]; rfl), ((Below.refl _ w).alloc (Nat.le_refl _) _).alloc (by simp) _⟩
                | false =>
                  go_enter Tryd.func48, Tryd.ntmps48
                  go_wp2_with fail
                  refine (h1 w).mono ?_
                  rintro e w1 ⟨rfl, rfl⟩
                  go_wp2_with fail
                  refine (h3 _).mono ?_
                  rintro e w2 ⟨rfl, rfl⟩
                  go_wp2_with fail
                  refine (h2 _ _ (by simp)).mono ?_
                  rintro e w3 ⟨rfl, rfl⟩
                  go_wp2_with fail
                  refine (h4 _).mono ?_
                  rintro e w4 ⟨rfl, rfl⟩
                  go_wp2_with fail
                  go_ret
                  exact ⟨ret_int (by rw [E.out]; rfl), ((Below.refl _ w).alloc (Nat.le_refl _) _).alloc (by simp) _⟩
    | false =>
      cases b4 with
      | true =>
        go_enter Tryd.func48, Tryd.ntmps48
        go_wp2_with fail
        refine (h1 w).mono ?_
        rintro e w1 ⟨rfl, rfl⟩
        go_wp2_with fail
        refine (h3 _).mono ?_
        rintro e w2 ⟨rfl, rfl⟩
        go_wp2_with fail
        go_ret
        exact ⟨ret_int (by rw [E.out]; rfl), (Below.refl _ w).alloc (Nat.le_refl _) _⟩
      | false =>
        cases b5 with
        | true =>
          go_enter Tryd.func48, Tryd.ntmps48
          go_wp2_with fail
          refine (h1 w).mono ?_
          rintro e w1 ⟨rfl, rfl⟩
          go_wp2_with fail
          refine (h3 _).mono ?_
          rintro e w2 ⟨rfl, rfl⟩
          go_wp2_with fail
          go_ret
          exact ⟨ret_int (by rw [E.out]; rfl), (Below.refl _ w).alloc (Nat.le_refl _) _⟩
        | false =>
          cases b6 with
          | true =>
            go_enter Tryd.func48, Tryd.ntmps48
            go_wp2_with fail
            refine (h1 w).mono ?_
            rintro e w1 ⟨rfl, rfl⟩
            go_wp2_with fail
            refine (h3 _).mono ?_
            rintro e w2 ⟨rfl, rfl⟩
            go_wp2_with fail
            go_ret
            exact ⟨ret_int (by rw [E.out]; rfl), (Below.refl _ w).alloc (Nat.le_refl _) _⟩
          | false =>
            cases b7 with
            | true =>
              go_enter Tryd.func48, Tryd.ntmps48
              go_wp2_with fail
              refine (h1 w).mono ?_
              rintro e w1 ⟨rfl, rfl⟩
              go_wp2_with fail
              refine (h3 _).mono ?_
              rintro e w2 ⟨rfl, rfl⟩
              go_wp2_with fail
              refine (h2 _ _ (by simp)).mono ?_
              rintro e w3 ⟨rfl, rfl⟩
              go_wp2_with fail
              go_ret
              exact ⟨ret_int (by rw [E.out]; rfl), ((Below.refl _ w).alloc (Nat.le_refl _) _).alloc (by simp) _⟩
            | false =>
              cases b8 with
              | true =>
                go_enter Tryd.func48, Tryd.ntmps48
                go_wp2_with fail
                refine (h1 w).mono ?_
                rintro e w1 ⟨rfl, rfl⟩
                go_wp2_with fail
                refine (h3 _).mono ?_
                rintro e w2 ⟨rfl, rfl⟩
                go_wp2_with fail
                refine (h2 _ _ (by simp)).mono ?_
                rintro e w3 ⟨rfl, rfl⟩
                go_wp2_with fail
                refine (h4 _).mono ?_
                rintro e w4 ⟨rfl, rfl⟩
                go_wp2_with fail
                go_ret
                exact ⟨ret_int (by rw [E.out]; rfl), ((Below.refl _ w).alloc (Nat.le_refl _) _).alloc (by simp) _⟩
              | false =>
                go_enter Tryd.func48, Tryd.ntmps48
                go_wp2_with fail
                refine (h1 w).mono ?_
                rintro e w1 ⟨rfl, rfl⟩
                go_wp2_with fail
                refine (h3 _).mono ?_
                rintro e w2 ⟨rfl, rfl⟩
                go_wp2_with fail
                refine (h2 _ _ (by simp)).mono ?_
                rintro e w3 ⟨rfl, rfl⟩
                go_wp2_with fail
                refine (h4 _).mono ?_
                rintro e w4 ⟨rfl, rfl⟩
                go_wp2_with fail
                go_ret
                exact ⟨ret_int (by rw [E.out]; rfl), ((Below.refl _ w).alloc (Nat.le_refl _) _).alloc (by simp) _⟩
end Go.Proofs.YtbpccbdgkkfdpaaDoor.Tab
