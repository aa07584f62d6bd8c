/-
  Part 1: OctPure, Shelf, RdBase, ValTree, RdBox, ValSame.
-/
import Derived.WalkKit
import Derived.Shelf.Strings.Builder1
import Derived.Shelf.Strings.Trim
import Derived.Shelf.Small.Utf8
import Derived.Shelf.Small.Strs
import Derived.Shelf.Small.Wraps
import Derived.Shelf.Strings.BuilderF
import Derived.Shelf.Strings.BuilderK
import Derived.Shelf.Utf8.AppendRune
import Derived.Shelf.Utf8.AppendRunePlain
import Derived.Shelf.Strings.Search1
import Derived.Shelf.Strings.Prefix
import Derived.Shelf.Strings.Runes
import Derived.Shelf.Strings.AsciiSet
import Derived.Shelf.Unicode.DecodeSlow
import Derived.Shelf.Unicode.DecodeAny
import Derived.Test.YtgfbednfiejlfaaGreatDoorProg
import Derived.Lib.Hide
import Derived.Laws.Rows
import Derived.Deep.QuietTactic
import Derived.BigQuiet
import Derived.StillTailTactics
import Derived.WalkSmall
/-
  Plain facts on octets and lists of octets, with no program: what a blank, a letter, a digit is; small and great letters; the first place of a property; digits of base 16.
-/
namespace Go.Proofs.YtgfbednfiejlfaaGreatDoor.Oct
open Go.RowKit

/-- A text of these octets. -/
abbrev S (l : List UInt8) : ByteArray := ⟨l.toArray⟩

theorem S_list (s : ByteArray) : S s.data.toList = s := by cases s; simp [S]
theorem list_S (l : List UInt8) : (S l).data.toList = l := by simp
theorem size_S (l : List UInt8) : (S l).size = l.length := by simp [ByteArray.size]
theorem S_append (a b : List UInt8) : S a ++ S b = S (a ++ b) := by simp [S, ByteArray.mk_append_mk]
theorem size_list (s : ByteArray) : s.data.toList.length = s.size := by rw [Array.length_toList]; rfl

def blankI (n : Int) : Bool := decide (n = 9 ∨ n = 10 ∨ n = 12 ∨ n = 13 ∨ n = 32)
def smallI (n : Int) : Bool := decide (97 ≤ n ∧ n ≤ 122)
def greatI (n : Int) : Bool := decide (65 ≤ n ∧ n ≤ 90)
def letterI (n : Int) : Bool := decide ((97 ≤ n ∧ n ≤ 122) ∨ (65 ≤ n ∧ n ≤ 90))
def digitI (n : Int) : Bool := decide (48 ≤ n ∧ n ≤ 57)
def nameI (n : Int) : Bool := decide ((97 ≤ n ∧ n ≤ 122) ∨ (65 ≤ n ∧ n ≤ 90) ∨ (48 ≤ n ∧ n ≤ 57) ∨ n = 95)
def lowI (n : Int) : Int := if 65 ≤ n ∧ n ≤ 90 then n + 32 else n
def upI (n : Int) : Int := if 97 ≤ n ∧ n ≤ 122 then n - 32 else n
/-- What a digit of base 16 counts; -1: none. -/
def hexI (n : Int) : Int := if 48 ≤ n ∧ n ≤ 57 then n - 48 else if 97 ≤ n ∧ n ≤ 102 then n - 87 else if 65 ≤ n ∧ n ≤ 70 then n - 55 else -1

theorem ret_bool {a b : Bool} (h : a = b) : Ending.returned (.bool a) = .returned (.bool b) := by rw [h]
theorem ret_int {k : IntKind} {a b : Int} (h : a = b) : Ending.returned (.int k a) = .returned (.int k b) := by rw [h]

theorem lowI_range {n : Int} (h0 : 0 ≤ n) (h1 : n ≤ 255) : 0 ≤ lowI n ∧ lowI n ≤ 255 := by unfold lowI; split <;> omega
theorem upI_range {n : Int} (h0 : 0 ≤ n) (h1 : n ≤ 255) : 0 ≤ upI n ∧ upI n ≤ 255 := by unfold upI; split <;> omega
theorem hexI_range (n : Int) : -1 ≤ hexI n ∧ hexI n ≤ 15 := by
  unfold hexI
  repeat' split
  all_goals omega

/-- A letter, small; great. -/
def low (c : UInt8) : UInt8 := if 65 ≤ c ∧ c ≤ 90 then c + 32 else c
def up (c : UInt8) : UInt8 := if 97 ≤ c ∧ c ≤ 122 then c - 32 else c

theorem low_all : ∀ k : Fin 256, (((low (UInt8.ofNat k.val)).toNat : Nat) : Int) = lowI ((UInt8.ofNat k.val).toNat : Int) := by decide +kernel
theorem up_all : ∀ k : Fin 256, (((up (UInt8.ofNat k.val)).toNat : Nat) : Int) = upI ((UInt8.ofNat k.val).toNat : Int) := by decide +kernel
theorem low_toNat (c : UInt8) : ((low c).toNat : Int) = lowI (c.toNat : Int) := by
  have := low_all ⟨c.toNat, c.toNat_lt⟩
  simpa using this
theorem up_toNat (c : UInt8) : ((up c).toNat : Int) = upI (c.toNat : Int) := by
  have := up_all ⟨c.toNat, c.toNat_lt⟩
  simpa using this

/-- The octet at a place of a text; 0 behind its end. -/
def at' (s : ByteArray) (k : Nat) : UInt8 := s.data.toList.getD k 0
theorem at_eq (s : ByteArray) (k : Nat) (h : k < s.size) : s[k] = at' s k := by
  have h' : k < s.data.toList.length := by rw [size_list]; exact h
  unfold at'
  rw [List.getD_eq_getElem?_getD, List.getElem?_eq_getElem h', Option.getD_some, Array.getElem_toList]
  rfl
theorem map_at (s : ByteArray) (f : UInt8 → UInt8) : (List.range s.size).map (fun k => f (at' s k)) = s.data.toList.map f := by
  apply List.ext_getElem
  · simp
  · intro i h1 h2
    have h : i < s.data.toList.length := by simpa using h2
    simp only [List.getElem_map, List.getElem_range]
    unfold at'
    rw [List.getD_eq_getElem?_getD, List.getElem?_eq_getElem h, Option.getD_some]

theorem all_at (s : ByteArray) (q : UInt8 → Bool) : (List.range s.size).all (fun k => q (at' s k)) = s.data.toList.all q := by
  have h := map_at s (fun c => if q c then 1 else 0)
  have e : ∀ l : List UInt8, (l.map (fun c => if q c then (1 : UInt8) else 0)).all (· == 1) = l.all q := by
    intro l
    induction l with
    | nil => rfl
    | cons c l ih =>
      simp only [List.map_cons, List.all_cons, ih]
      cases q c <;> simp
  rw [← e, ← h, List.all_map]
  congr 1
  funext k
  simp only [Function.comp]
  cases q (at' s k) <;> simp

theorem at_zero (s : ByteArray) : s.data.toList.getD 0 0 = at' s 0 := rfl

/-- A name, as the page says. -/
def nameB (l : List UInt8) : Bool := decide (1 ≤ l.length ∧ l.length ≤ 32) && !digitI ((l.getD 0 0).toNat : Int) && l.all (fun c => nameI (c.toNat : Int))
end Go.Proofs.YtgfbednfiejlfaaGreatDoor.Oct

/-
  DERIVED: THE SHELF's CONTRACTS AT THIS DUMP, IN PLAIN WORDS (tools/lay-plain.mjs out of 'YtgfbednfiejlfaaGreatDoorShelf.lean', which tools/lay-shelf.mjs wrote): THE SAME DECLARATIONS UNDER THE SAME NAMES: 'import', 'namespace', 'open', 'def', 'theorem' AND NOTHING ELSE: no command of the shelf's: FOR A HAND-IN. Each laying: the table of numbers ('.._ren') and one theorem, a field a fact of the dump's own or the kernel's comparison; each contract: ONE APPLICATION.
-/
namespace Go.Proofs
open Go.Shelf
def Tryz.lays169_ren : Go.Shelf.Ren := ⟨fun | 169 => 35 | n => n, fun | 70 => 58 | 9 => 9 | 0 => 0 | 72 => 61 | 37 => 59 | 127 => 79 | 3 => 3 | 5 => 5 | n => n, fun | n => n⟩
theorem Tryz.lays169 : Go.Proofs.Lays.n169 Tryz.prog Tryz.lays169_ren := {
  mixed := by kernel_rfl
  f169 := Tryz.func35.trans (congrArg some (by kernel_rfl))
  t0 := Tryz.underlying0
  a0 := Tryz.isAgg0
  z0 := Tryz.sizeOf0
  v0 := Tryz.zeroValue0
  t3 := Tryz.underlying3
  a3 := Tryz.isAgg3
  z3 := Tryz.sizeOf3
  v3 := Tryz.zeroValue3
  t9 := Tryz.underlying9
  a9 := Tryz.isAgg9
  z9 := Tryz.sizeOf9
  v9 := Tryz.zeroValue9
  t37 := Tryz.underlying59
  a37 := Tryz.isAgg59
  z37 := Tryz.sizeOf59
  v37 := Tryz.zeroValue59
  t70 := Tryz.underlying58
  a70 := Tryz.isAgg58
  z70 := Tryz.sizeOf58
  v70 := Tryz.zeroValue58
  t72 := Tryz.underlying61
  a72 := Tryz.isAgg61
  z72 := Tryz.sizeOf61
  v72 := Tryz.zeroValue61
  t127 := Tryz.underlying79
  a127 := Tryz.isAgg79
  z127 := Tryz.sizeOf79
  v127 := Tryz.zeroValue79 }
theorem Tryz.Builder_Extra_169 : Builder.Extra Tryz.prog Tryz.lays169_ren := {
  sizeBuilder := by kernel_rfl
  liesBuilder := by kernel_rfl
  t5 := Tryz.underlying5
  a5 := Tryz.isAgg5
  z5 := Tryz.sizeOf5
  v5 := Tryz.zeroValue5
  infoByte := by kernel_rfl
  cellsByte := by kernel_rfl
  sizeByte := by kernel_rfl
  neB5 := by decide }
open Go.RowKit in
/-- (*strings.Builder).String: "String returns the accumulated string.": OF A BUILDER THAT HOLDS AT LEAST ONE BYTE. ✋ THE MODEL FREEZES THOSE BYTES IN THE BUFFER (unsafe.String): a later write INTO them ends the model's run without an answer; a later append BEHIND them goes on. The statement's order of evaluation is drawn: one draw. (LAID: no walk: one application.) -/
theorem Tryz.Builder_String (B b : Nat) (l : List UInt8) (w : World) (h : Lib.IsBuilder 61 5 B b (Lib.byteCells l) w) (h0 : l ≠ []) :
    Calls Tryz.prog 35 #[.pointer (some ⟨b, 0, none⟩)] w fun e w' => e = .returned (.string ⟨l.toArray⟩) ∧ Below B w w' := Any.Builder_String Tryz.lays169 Tryz.Builder_Extra_169 B b l w h h0
open Go.RowKit in
/-- (*strings.Builder).String OF A BUILDER THAT HOLDS NO BYTE: the empty string. (Its buffer is nil, or a row of which it has taken nothing yet; where that row has NO capacity the model lays one new block for unsafe.SliceData's 'some address'.) One draw. (LAID: no walk: one application.) -/
theorem Tryz.Builder_String_empty (B b : Nat) (w : World) (h : Lib.IsBuilder 61 5 B b [] w) (hBw : B ≤ w.heap.size) :
    Calls Tryz.prog 35 #[.pointer (some ⟨b, 0, none⟩)] w fun e w' => e = .returned (.string ⟨#[]⟩) ∧ Below B w w' := Any.Builder_String_empty Tryz.lays169 Tryz.Builder_Extra_169 B b w h hBw
open Go.RowKit in
/-- (*strings.Builder).String: "String returns the accumulated string.": WHATEVER THE BUILDER HOLDS. (LAID: no walk: one application.) -/
theorem Tryz.Builder_String_any (B b : Nat) (l : List UInt8) (w : World) (h : Lib.IsBuilder 61 5 B b (Lib.byteCells l) w) (hBw : B ≤ w.heap.size) :
    Calls Tryz.prog 35 #[.pointer (some ⟨b, 0, none⟩)] w fun e w' => e = .returned (.string ⟨l.toArray⟩) ∧ Below B w w' := Any.Builder_String_any Tryz.lays169 Tryz.Builder_Extra_169 B b l w h hBw
def Tryz.lays231_ren : Go.Shelf.Ren := ⟨fun | 231 => 97 | n => n, fun | 9 => 9 | 5 => 5 | 3 => 3 | 4 => 4 | n => n, fun | n => n⟩
theorem Tryz.lays231 : Go.Proofs.Lays.n231 Tryz.prog Tryz.lays231_ren := {
  mixed := by kernel_rfl
  f231 := Tryz.func97.trans (congrArg some (by kernel_rfl))
  t3 := Tryz.underlying3
  a3 := Tryz.isAgg3
  z3 := Tryz.sizeOf3
  v3 := Tryz.zeroValue3
  t4 := Tryz.underlying4
  a4 := Tryz.isAgg4
  z4 := Tryz.sizeOf4
  v4 := Tryz.zeroValue4
  t5 := Tryz.underlying5
  a5 := Tryz.isAgg5
  z5 := Tryz.sizeOf5
  v5 := Tryz.zeroValue5
  t9 := Tryz.underlying9
  a9 := Tryz.isAgg9
  z9 := Tryz.sizeOf9
  v9 := Tryz.zeroValue9 }
open Go.RowKit in
/-- strings.trimLeftByte (no doc; what TrimLeft and Trim call at a cutset of one ASCII byte): the leading bytes that are c are cut off. The world is as it was. (LAID: no walk: one application.) -/
theorem Tryz.strings_trimLeftByte (s : ByteArray) (c : UInt8) (w : World) :
    Calls Tryz.prog 97 #[.string s, .int .u8 c.toNat] w fun e w' => e = .returned (.string ⟨(Lib.trimLeftB s.data.toList c).toArray⟩) ∧ w' = w := Any.strings_trimLeftByte Tryz.lays231 s c w
def Tryz.lays161_ren : Go.Shelf.Ren := ⟨fun | 161 => 82 | 231 => 97 | 227 => 98 | 233 => 99 | 235 => 100 | 228 => 111 | 197 => 106 | 151 => 112 | 260 => 113 | 152 => 116 | 137 => 77 | 119 => 120 | 224 => 121 | 225 => 122 | 217 => 92 | 266 => 107 | n => n, fun | 9 => 9 | 4 => 4 | 3 => 3 | 5 => 5 | 117 => 117 | 116 => 116 | 0 => 0 | 124 => 120 | 105 => 124 | 21 => 21 | 119 => 131 | 46 => 82 | 139 => 134 | 138 => 133 | n => n, fun | 3 => 1 | 4 => 2 | n => n⟩
theorem Tryz.lays161 : Go.Proofs.Lays.n161 Tryz.prog Tryz.lays161_ren := {
  mixed := by kernel_rfl
  f119 := Tryz.func120.trans (congrArg some (by kernel_rfl))
  f137 := Tryz.func77.trans (congrArg some (by kernel_rfl))
  f151 := Tryz.func112.trans (congrArg some (by kernel_rfl))
  f152 := Tryz.func116.trans (congrArg some (by kernel_rfl))
  f161 := Tryz.func82.trans (congrArg some (by kernel_rfl))
  f197 := Tryz.func106.trans (congrArg some (by kernel_rfl))
  f217 := Tryz.func92.trans (congrArg some (by kernel_rfl))
  f224 := Tryz.func121.trans (congrArg some (by kernel_rfl))
  f225 := Tryz.func122.trans (congrArg some (by kernel_rfl))
  f227 := Tryz.func98.trans (congrArg some (by kernel_rfl))
  f228 := Tryz.func111.trans (congrArg some (by kernel_rfl))
  f231 := Tryz.func97.trans (congrArg some (by kernel_rfl))
  f233 := Tryz.func99.trans (congrArg some (by kernel_rfl))
  f235 := Tryz.func100.trans (congrArg some (by kernel_rfl))
  f260 := Tryz.func113.trans (congrArg some (by kernel_rfl))
  f266 := Tryz.func107.trans (congrArg some (by kernel_rfl))
  t0 := Tryz.underlying0
  a0 := Tryz.isAgg0
  z0 := Tryz.sizeOf0
  v0 := Tryz.zeroValue0
  t3 := Tryz.underlying3
  a3 := Tryz.isAgg3
  z3 := Tryz.sizeOf3
  v3 := Tryz.zeroValue3
  t4 := Tryz.underlying4
  a4 := Tryz.isAgg4
  z4 := Tryz.sizeOf4
  v4 := Tryz.zeroValue4
  t5 := Tryz.underlying5
  a5 := Tryz.isAgg5
  z5 := Tryz.sizeOf5
  v5 := Tryz.zeroValue5
  t9 := Tryz.underlying9
  a9 := Tryz.isAgg9
  z9 := Tryz.sizeOf9
  v9 := Tryz.zeroValue9
  t21 := Tryz.underlying21
  a21 := Tryz.isAgg21
  z21 := Tryz.sizeOf21
  v21 := Tryz.zeroValue21
  t46 := Tryz.underlying82
  a46 := Tryz.isAgg82
  z46 := Tryz.sizeOf82
  v46 := Tryz.zeroValue82
  t105 := Tryz.underlying124
  a105 := Tryz.isAgg124
  z105 := Tryz.sizeOf124
  v105 := Tryz.zeroValue124
  t116 := Tryz.underlying116
  a116 := Tryz.isAgg116
  z116 := Tryz.sizeOf116
  t117 := Tryz.underlying117
  a117 := Tryz.isAgg117
  z117 := Tryz.sizeOf117
  v117 := Tryz.zeroValue117
  t119 := Tryz.underlying131
  a119 := Tryz.isAgg131
  z119 := Tryz.sizeOf131
  t124 := Tryz.underlying120
  a124 := Tryz.isAgg120
  z124 := Tryz.sizeOf120
  v124 := Tryz.zeroValue120
  t138 := Tryz.underlying133
  a138 := Tryz.isAgg133
  z138 := Tryz.sizeOf133
  v138 := Tryz.zeroValue133
  t139 := Tryz.underlying134
  a139 := Tryz.isAgg134
  z139 := Tryz.sizeOf134
  v139 := Tryz.zeroValue134
  g3 := by kernel_rfl
  g4 := by kernel_rfl }
open Go.RowKit in
/-- strings.TrimLeft: "TrimLeft returns a slice of the string s with all leading Unicode code points contained in cutset removed.": AT A cutset OF ONE ASCII BYTE. The world is as it was. (LAID: no walk: one application.) -/
theorem Tryz.strings_TrimLeft_one (s : ByteArray) (c : UInt8) (hc : c.toNat < 128) (w : World) :
    Calls Tryz.prog 82 #[.string s, .string ⟨#[c]⟩] w fun e w' => e = .returned (.string ⟨(Lib.trimLeftB s.data.toList c).toArray⟩) ∧ w' = w := Any.strings_TrimLeft_one Tryz.lays161 s c hc w
def Tryz.lays119_ren : Go.Shelf.Ren := ⟨fun | 119 => 120 | n => n, fun | 21 => 21 | 4 => 4 | n => n, fun | n => n⟩
theorem Tryz.lays119 : Go.Proofs.Lays.n119 Tryz.prog Tryz.lays119_ren := {
  mixed := by kernel_rfl
  f119 := Tryz.func120.trans (congrArg some (by kernel_rfl))
  t4 := Tryz.underlying4
  a4 := Tryz.isAgg4
  z4 := Tryz.sizeOf4
  v4 := Tryz.zeroValue4
  t21 := Tryz.underlying21
  a21 := Tryz.isAgg21
  z21 := Tryz.sizeOf21
  v21 := Tryz.zeroValue21 }
/-- utf8.ValidRune: "ValidRune reports whether r can be legally encoded as UTF-8. Code points that are out of range or a surrogate half are illegal.": IT RETURNS 'Lib.validRune r'; the world is as it was. (LAID: no walk: one application.) -/
theorem Tryz.utf8_ValidRune (r : Int) (w : World) :
    Calls Tryz.prog 120 #[.int .i32 r] w fun e w' => e = .returned (.bool (Lib.validRune r)) ∧ w' = w := Any.utf8_ValidRune Tryz.lays119 r w
def Tryz.lays137_ren : Go.Shelf.Ren := ⟨fun | 137 => 77 | 217 => 92 | 266 => 107 | n => n, fun | 9 => 9 | 5 => 5 | 3 => 3 | n => n, fun | n => n⟩
theorem Tryz.lays137 : Go.Proofs.Lays.n137 Tryz.prog Tryz.lays137_ren := {
  mixed := by kernel_rfl
  f137 := Tryz.func77.trans (congrArg some (by kernel_rfl))
  f217 := Tryz.func92.trans (congrArg some (by kernel_rfl))
  f266 := Tryz.func107.trans (congrArg some (by kernel_rfl))
  t3 := Tryz.underlying3
  a3 := Tryz.isAgg3
  z3 := Tryz.sizeOf3
  v3 := Tryz.zeroValue3
  t5 := Tryz.underlying5
  a5 := Tryz.isAgg5
  z5 := Tryz.sizeOf5
  v5 := Tryz.zeroValue5
  t9 := Tryz.underlying9
  a9 := Tryz.isAgg9
  z9 := Tryz.sizeOf9
  v9 := Tryz.zeroValue9 }
open Go.RowKit in
/-- strings.IndexByte: "IndexByte returns the index of the first instance of c in s, or -1 if c is not present in s.": IT RETURNS 'Lib.indexByte s c'; the world is as it was. (LAID: no walk: one application.) -/
theorem Tryz.strings_IndexByte (s : ByteArray) (c : Int) (w : World) :
    Calls Tryz.prog 77 #[.string s, .int .u8 c] w fun e w' => e = .returned (.int .i64 (Lib.indexByte s.data.toList c.toNat.toUInt8)) ∧ w' = w := Any.strings_IndexByte Tryz.lays137 s c w
def Tryz.lays210_ren : Go.Shelf.Ren := ⟨fun | 210 => 86 | 206 => 79 | n => n, fun | 9 => 9 | 4 => 4 | 3 => 3 | n => n, fun | n => n⟩
theorem Tryz.lays210 : Go.Proofs.Lays.n210 Tryz.prog Tryz.lays210_ren := {
  mixed := by kernel_rfl
  f206 := Tryz.func79.trans (congrArg some (by kernel_rfl))
  f210 := Tryz.func86.trans (congrArg some (by kernel_rfl))
  t3 := Tryz.underlying3
  a3 := Tryz.isAgg3
  z3 := Tryz.sizeOf3
  v3 := Tryz.zeroValue3
  t4 := Tryz.underlying4
  a4 := Tryz.isAgg4
  z4 := Tryz.sizeOf4
  v4 := Tryz.zeroValue4
  t9 := Tryz.underlying9
  a9 := Tryz.isAgg9
  z9 := Tryz.sizeOf9
  v9 := Tryz.zeroValue9 }
open Go.RowKit in
/-- internal/stringslite.CutPrefix (what strings.CutPrefix calls). (LAID: no walk: one application.) -/
theorem Tryz.stringslite_CutPrefix (s p : ByteArray) (w : World) :
    Calls Tryz.prog 86 #[.string s, .string p] w fun e w' => e = .returned (.tuple #[.string ⟨(Lib.trimPrefix s.data.toList p.data.toList).toArray⟩, .bool (Lib.hasPrefix s.data.toList p.data.toList)]) ∧ w' = w := Any.stringslite_CutPrefix Tryz.lays210 s p w
def Tryz.lays103_ren : Go.Shelf.Ren := ⟨fun | 103 => 63 | 210 => 86 | 206 => 79 | n => n, fun | 9 => 9 | 4 => 4 | 24 => 87 | 3 => 3 | n => n, fun | n => n⟩
theorem Tryz.lays103 : Go.Proofs.Lays.n103 Tryz.prog Tryz.lays103_ren := {
  mixed := by kernel_rfl
  f103 := Tryz.func63.trans (congrArg some (by kernel_rfl))
  f206 := Tryz.func79.trans (congrArg some (by kernel_rfl))
  f210 := Tryz.func86.trans (congrArg some (by kernel_rfl))
  t3 := Tryz.underlying3
  a3 := Tryz.isAgg3
  z3 := Tryz.sizeOf3
  v3 := Tryz.zeroValue3
  t4 := Tryz.underlying4
  a4 := Tryz.isAgg4
  z4 := Tryz.sizeOf4
  v4 := Tryz.zeroValue4
  t9 := Tryz.underlying9
  a9 := Tryz.isAgg9
  z9 := Tryz.sizeOf9
  v9 := Tryz.zeroValue9
  t24 := Tryz.underlying87
  a24 := Tryz.isAgg87
  z24 := Tryz.sizeOf87
  v24 := Tryz.zeroValue87 }
open Go.RowKit in
/-- strings.CutPrefix: "CutPrefix returns s without the provided leading prefix string and reports whether it found the prefix. If s doesn't start with prefix, CutPrefix returns s, false. If prefix is the empty string, CutPrefix returns s, true.": IT RETURNS '(Lib.trimPrefix s p, Lib.hasPrefix s p)'; the world is as it was. (LAID: no walk: one application.) -/
theorem Tryz.strings_CutPrefix (s p : ByteArray) (w : World) :
    Calls Tryz.prog 63 #[.string s, .string p] w fun e w' => e = .returned (.tuple #[.string ⟨(Lib.trimPrefix s.data.toList p.data.toList).toArray⟩, .bool (Lib.hasPrefix s.data.toList p.data.toList)]) ∧ w' = w := Any.strings_CutPrefix Tryz.lays103 s p w
open Go.RowKit in
/-- (*strings.Builder).String: "String returns the accumulated string.": OF A BUILDER THAT HOLDS AT LEAST ONE BYTE. ✋ THE MODEL FREEZES THOSE BYTES IN THE BUFFER (unsafe.String): a later write INTO them ends the model's run without an answer; a later append BEHIND them goes on. The statement's order of evaluation is drawn: one draw. THE FORM '_f': IT SAYS BESIDES THAT THE BUILDER IS A BUILDER STILL ('Lib.IsBuilderF', the same bytes): SO IT CAN BE WRITTEN ON: 'b.WriteString(b.String()[:k])'. (LAID: no walk: one application.) -/
theorem Tryz.Builder_String_f (B b : Nat) (l : List UInt8) (w : World) (h : Lib.IsBuilderF 61 5 B b (Lib.byteCells l) w) (h0 : l ≠ []) :
    Calls Tryz.prog 35 #[.pointer (some ⟨b, 0, none⟩)] w fun e w' => e = .returned (.string ⟨l.toArray⟩) ∧ (Lib.IsBuilderF 61 5 B b (Lib.byteCells l) w' ∧ Below B w w') := Any.Builder_String_f Tryz.lays169 Tryz.Builder_Extra_169 B b l w h h0
open Go.RowKit in
/-- (*strings.Builder).String OF A BUILDER THAT HOLDS NO BYTE: the empty string; THE FORM '_f': a builder still. (LAID: no walk: one application.) -/
theorem Tryz.Builder_String_empty_f (B b : Nat) (w : World) (h : Lib.IsBuilderF 61 5 B b [] w) (hBw : B ≤ w.heap.size) :
    Calls Tryz.prog 35 #[.pointer (some ⟨b, 0, none⟩)] w fun e w' => e = .returned (.string ⟨#[]⟩) ∧ (Lib.IsBuilderF 61 5 B b [] w' ∧ Below B w w') := Any.Builder_String_empty_f Tryz.lays169 Tryz.Builder_Extra_169 B b w h hBw
open Go.RowKit in
/-- (*strings.Builder).String: "String returns the accumulated string.": WHATEVER THE BUILDER HOLDS; THE FORM '_f': OF A BUILDER THAT MAY HAVE BEEN READ BEFORE; AND IT IS A BUILDER STILL, holding the same bytes: it can be written on. (LAID: no walk: one application.) -/
theorem Tryz.Builder_String_any_f (B b : Nat) (l : List UInt8) (w : World) (h : Lib.IsBuilderF 61 5 B b (Lib.byteCells l) w) (hBw : B ≤ w.heap.size) :
    Calls Tryz.prog 35 #[.pointer (some ⟨b, 0, none⟩)] w fun e w' => e = .returned (.string ⟨l.toArray⟩) ∧ (Lib.IsBuilderF 61 5 B b (Lib.byteCells l) w' ∧ Below B w w') := Any.Builder_String_any_f Tryz.lays169 Tryz.Builder_Extra_169 B b l w h hBw
open Go.RowKit in
/-- (*strings.Builder).String: "String returns the accumulated string.": OF A BUILDER THAT HOLDS AT LEAST ONE BYTE. ✋ THE MODEL FREEZES THOSE BYTES IN THE BUFFER (unsafe.String): a later write INTO them ends the model's run without an answer; a later append BEHIND them goes on. The statement's order of evaluation is drawn: one draw. THE FORM '_k': OVER 'Lib.IsBuilderF' (a builder that 'String()' may have read), AND WITH THE FRAME THAT REACHES ABOVE THE BUILDER: 'Lib.OthersKept': every block that is not b and is no row of uint8's stands as it stood: the iterator of a range among them. (LAID: no walk: one application.) -/
theorem Tryz.Builder_String_k (B b : Nat) (l : List UInt8) (w : World) (h : Lib.IsBuilderF 61 5 B b (Lib.byteCells l) w) (h0 : l ≠ []) :
    Calls Tryz.prog 35 #[.pointer (some ⟨b, 0, none⟩)] w fun e w' => e = .returned (.string ⟨l.toArray⟩) ∧ (Lib.IsBuilderF 61 5 B b (Lib.byteCells l) w' ∧ Below B w w' ∧ Lib.OthersKept 5 (some b) w w') := Any.Builder_String_k Tryz.lays169 Tryz.Builder_Extra_169 B b l w h h0
open Go.RowKit in
/-- (*strings.Builder).String OF A BUILDER THAT HOLDS NO BYTE: the empty string; THE FORM '_k': OVER 'Lib.IsBuilderF' (a builder that 'String()' may have read), AND WITH THE FRAME THAT REACHES ABOVE THE BUILDER: 'Lib.OthersKept': every block that is not b and is no row of uint8's stands as it stood: the iterator of a range among them. (LAID: no walk: one application.) -/
theorem Tryz.Builder_String_empty_k (B b : Nat) (w : World) (h : Lib.IsBuilderF 61 5 B b [] w) (hBw : B ≤ w.heap.size) :
    Calls Tryz.prog 35 #[.pointer (some ⟨b, 0, none⟩)] w fun e w' => e = .returned (.string ⟨#[]⟩) ∧ (Lib.IsBuilderF 61 5 B b [] w' ∧ Below B w w' ∧ Lib.OthersKept 5 (some b) w w') := Any.Builder_String_empty_k Tryz.lays169 Tryz.Builder_Extra_169 B b w h hBw
open Go.RowKit in
/-- (*strings.Builder).String: "String returns the accumulated string.": WHATEVER THE BUILDER HOLDS; THE FORM '_k': OVER 'Lib.IsBuilderF' (a builder that 'String()' may have read), AND WITH THE FRAME THAT REACHES ABOVE THE BUILDER: 'Lib.OthersKept': every block that is not b and is no row of uint8's stands as it stood: the iterator of a range among them. (LAID: no walk: one application.) -/
theorem Tryz.Builder_String_any_k (B b : Nat) (l : List UInt8) (w : World) (h : Lib.IsBuilderF 61 5 B b (Lib.byteCells l) w) (hBw : B ≤ w.heap.size) :
    Calls Tryz.prog 35 #[.pointer (some ⟨b, 0, none⟩)] w fun e w' => e = .returned (.string ⟨l.toArray⟩) ∧ (Lib.IsBuilderF 61 5 B b (Lib.byteCells l) w' ∧ Below B w w' ∧ Lib.OthersKept 5 (some b) w w') := Any.Builder_String_any_k Tryz.lays169 Tryz.Builder_Extra_169 B b l w h hBw
def Tryz.lays278_ren : Go.Shelf.Ren := ⟨fun | 278 => 74 | n => n, fun | 37 => 59 | 21 => 21 | 51 => 101 | 4 => 4 | 46 => 82 | 5 => 5 | n => n, fun | n => n⟩
theorem Tryz.lays278 : Go.Proofs.Lays.n278 Tryz.prog Tryz.lays278_ren := {
  mixed := by kernel_rfl
  f278 := Tryz.func74.trans (congrArg some (by kernel_rfl))
  t4 := Tryz.underlying4
  a4 := Tryz.isAgg4
  z4 := Tryz.sizeOf4
  v4 := Tryz.zeroValue4
  t5 := Tryz.underlying5
  a5 := Tryz.isAgg5
  z5 := Tryz.sizeOf5
  v5 := Tryz.zeroValue5
  t21 := Tryz.underlying21
  a21 := Tryz.isAgg21
  z21 := Tryz.sizeOf21
  v21 := Tryz.zeroValue21
  t37 := Tryz.underlying59
  a37 := Tryz.isAgg59
  z37 := Tryz.sizeOf59
  v37 := Tryz.zeroValue59
  t46 := Tryz.underlying82
  a46 := Tryz.isAgg82
  z46 := Tryz.sizeOf82
  v46 := Tryz.zeroValue82
  t51 := Tryz.underlying101
  a51 := Tryz.isAgg101
  z51 := Tryz.sizeOf101
  v51 := Tryz.zeroValue101 }
open Go.RowKit in
/-- unicode/utf8.appendRuneNonASCII (what AppendRune calls for all but ASCII), ONTO A ROW OF BYTES THAT THE CALL OWNS: every int32 that is no ASCII rune: 'Lib.runeCells r' goes in behind what the row holds. (LAID: no walk: one application.) -/
theorem Tryz.utf8_appendRuneNonASCII_row (B : Nat) (v : Value) (n : Nat) (xs : List Value) (r : Int) (hr0 : -2147483648 ≤ r) (hr1 : r ≤ 2147483647) (hna : r < 0 ∨ 128 ≤ r) (w : World) (hown : w.ownsRowF B 5 1 v n xs) (hlen : n + 4 ≤ 140737488355328) (hBw : B ≤ w.heap.size) :
    Calls Tryz.prog 74 #[v, .int .i32 r] w fun e w' => ∃ v', e = .returned v' ∧ w'.ownsRowF B 5 1 v' (n + (Lib.runeCells r).length) (xs ++ Lib.runeCells r) ∧ ∃ o, (w.alloc o).grownBy w' v.ownBlock := Any.utf8_appendRuneNonASCII_row Tryz.lays278 (by kernel_rfl) B v n xs r hr0 hr1 hna w hown hlen hBw
def Tryz.lays242_ren : Go.Shelf.Ren := ⟨fun | 242 => 55 | 278 => 74 | n => n, fun | 37 => 59 | 21 => 21 | 51 => 101 | 4 => 4 | 5 => 5 | 46 => 82 | n => n, fun | n => n⟩
theorem Tryz.lays242 : Go.Proofs.Lays.n242 Tryz.prog Tryz.lays242_ren := {
  mixed := by kernel_rfl
  f242 := Tryz.func55.trans (congrArg some (by kernel_rfl))
  f278 := Tryz.func74.trans (congrArg some (by kernel_rfl))
  t4 := Tryz.underlying4
  a4 := Tryz.isAgg4
  z4 := Tryz.sizeOf4
  v4 := Tryz.zeroValue4
  t5 := Tryz.underlying5
  a5 := Tryz.isAgg5
  z5 := Tryz.sizeOf5
  v5 := Tryz.zeroValue5
  t21 := Tryz.underlying21
  a21 := Tryz.isAgg21
  z21 := Tryz.sizeOf21
  v21 := Tryz.zeroValue21
  t37 := Tryz.underlying59
  a37 := Tryz.isAgg59
  z37 := Tryz.sizeOf59
  v37 := Tryz.zeroValue59
  t46 := Tryz.underlying82
  a46 := Tryz.isAgg82
  z46 := Tryz.sizeOf82
  v46 := Tryz.zeroValue82
  t51 := Tryz.underlying101
  a51 := Tryz.isAgg101
  z51 := Tryz.sizeOf101
  v51 := Tryz.zeroValue101 }
open Go.RowKit in
/-- unicode/utf8.AppendRune: "AppendRune appends the UTF-8 encoding of r to the end of p and returns the extended buffer. If the rune is out of range, it appends the encoding of RuneError.": ONTO A ROW OF BYTES THAT THE CALL OWNS (its head frozen or not): EVERY int32: 'Lib.runeCells r' goes in behind what the row holds; the world: one new block (the bytes as the call's variadic argument), then what 'append' does to the row. (LAID: no walk: one application.) -/
theorem Tryz.utf8_AppendRune_row (B : Nat) (v : Value) (n : Nat) (xs : List Value) (r : Int) (hr0 : -2147483648 ≤ r) (hr1 : r ≤ 2147483647) (w : World) (hown : w.ownsRowF B 5 1 v n xs) (hlen : n + 4 ≤ 140737488355328) (hBw : B ≤ w.heap.size) :
    Calls Tryz.prog 55 #[v, .int .i32 r] w fun e w' => ∃ v', e = .returned v' ∧ w'.ownsRowF B 5 1 v' (n + (Lib.runeCells r).length) (xs ++ Lib.runeCells r) ∧ ∃ o, (w.alloc o).grownBy w' v.ownBlock := Any.utf8_AppendRune_row Tryz.lays242 (by kernel_rfl) B v n xs r hr0 hr1 w hown hlen hBw
open Go.RowKit in
/-- unicode/utf8.appendRuneNonASCII (what AppendRune calls for all but ASCII), ONTO A ROW OF BYTES THAT THE CALL OWNS: every int32 that is no ASCII rune: 'Lib.runeCells r' goes in behind what the row holds. (LAID: no walk: one application.) -/
theorem Tryz.utf8_appendRuneNonASCII_plain (B : Nat) (v : Value) (n : Nat) (xs : List Value) (r : Int) (hr0 : -2147483648 ≤ r) (hr1 : r ≤ 2147483647) (hna : r < 0 ∨ 128 ≤ r) (w : World) (hown : w.ownsRow B 5 1 v n xs) (hlen : n + 4 ≤ 140737488355328) (hBw : B ≤ w.heap.size) :
    Calls Tryz.prog 74 #[v, .int .i32 r] w fun e w' => ∃ v', e = .returned v' ∧ w'.ownsRow B 5 1 v' (n + (Lib.runeCells r).length) (xs ++ Lib.runeCells r) ∧ ∃ o, (w.alloc o).grownBy w' v.ownBlock := Any.utf8_appendRuneNonASCII_plain Tryz.lays278 (by kernel_rfl) B v n xs r hr0 hr1 hna w hown hlen hBw
open Go.RowKit in
/-- unicode/utf8.AppendRune: "AppendRune appends the UTF-8 encoding of r to the end of p and returns the extended buffer. If the rune is out of range, it appends the encoding of RuneError.": ONTO A ROW OF BYTES THAT THE CALL OWNS (its head frozen or not): EVERY int32: 'Lib.runeCells r' goes in behind what the row holds; the world: one new block (the bytes as the call's variadic argument), then what 'append' does to the row. (LAID: no walk: one application.) -/
theorem Tryz.utf8_AppendRune_plain (B : Nat) (v : Value) (n : Nat) (xs : List Value) (r : Int) (hr0 : -2147483648 ≤ r) (hr1 : r ≤ 2147483647) (w : World) (hown : w.ownsRow B 5 1 v n xs) (hlen : n + 4 ≤ 140737488355328) (hBw : B ≤ w.heap.size) :
    Calls Tryz.prog 55 #[v, .int .i32 r] w fun e w' => ∃ v', e = .returned v' ∧ w'.ownsRow B 5 1 v' (n + (Lib.runeCells r).length) (xs ++ Lib.runeCells r) ∧ ∃ o, (w.alloc o).grownBy w' v.ownBlock := Any.utf8_AppendRune_plain Tryz.lays242 (by kernel_rfl) B v n xs r hr0 hr1 w hown hlen hBw
def Tryz.lays217_ren : Go.Shelf.Ren := ⟨fun | 217 => 92 | 266 => 107 | n => n, fun | 9 => 9 | 5 => 5 | 3 => 3 | n => n, fun | n => n⟩
theorem Tryz.lays217 : Go.Proofs.Lays.n217 Tryz.prog Tryz.lays217_ren := {
  mixed := by kernel_rfl
  f217 := Tryz.func92.trans (congrArg some (by kernel_rfl))
  f266 := Tryz.func107.trans (congrArg some (by kernel_rfl))
  t3 := Tryz.underlying3
  a3 := Tryz.isAgg3
  z3 := Tryz.sizeOf3
  v3 := Tryz.zeroValue3
  t5 := Tryz.underlying5
  a5 := Tryz.isAgg5
  z5 := Tryz.sizeOf5
  v5 := Tryz.zeroValue5
  t9 := Tryz.underlying9
  a9 := Tryz.isAgg9
  z9 := Tryz.sizeOf9
  v9 := Tryz.zeroValue9 }
open Go.RowKit Go.Lib in
/-- internal/stringslite.IndexByte (what strings.IndexByte calls): IT RETURNS 'Lib.indexByte s c'; the world is as it was. (LAID: no walk: one application.) -/
theorem Tryz.stringslite_IndexByte (s : ByteArray) (c : Int) (w : World) :
    Calls Tryz.prog 92 #[.string s, .int .u8 c] w fun e w' => e = .returned (.int .i64 (Lib.indexByte s.data.toList c.toNat.toUInt8)) ∧ w' = w := Any.stringslite_IndexByte Tryz.lays217 s c w
def Tryz.lays224_ren : Go.Shelf.Ren := ⟨fun | 224 => 121 | n => n, fun | 3 => 3 | n => n, fun | n => n⟩
theorem Tryz.lays224 : Go.Proofs.Lays.n224 Tryz.prog Tryz.lays224_ren := {
  mixed := by kernel_rfl
  f224 := Tryz.func121.trans (congrArg some (by kernel_rfl))
  t3 := Tryz.underlying3
  a3 := Tryz.isAgg3
  z3 := Tryz.sizeOf3
  v3 := Tryz.zeroValue3 }
open Go.RowKit Go.Lib in
/-- internal/bytealg.Cutover: "Cutover reports the number of failures of IndexByte we should tolerate before switching over to Index. n is the number of bytes processed so far.": on amd64: (n + 16) / 8. (LAID: no walk: one application.) -/
theorem Tryz.bytealg_Cutover (n : Int) (h0 : 0 ≤ n) (h1 : n < 4611686018427387904) (w : World) :
    Calls Tryz.prog 121 #[.int .i64 n] w fun e w' => e = .returned (.int .i64 ((n + 16) / 8)) ∧ w' = w := Any.bytealg_Cutover Tryz.lays224 n h0 h1 w
def Tryz.lays206_ren : Go.Shelf.Ren := ⟨fun | 206 => 79 | n => n, fun | 9 => 9 | 4 => 4 | 3 => 3 | n => n, fun | n => n⟩
theorem Tryz.lays206 : Go.Proofs.Lays.n206 Tryz.prog Tryz.lays206_ren := {
  mixed := by kernel_rfl
  f206 := Tryz.func79.trans (congrArg some (by kernel_rfl))
  t3 := Tryz.underlying3
  a3 := Tryz.isAgg3
  z3 := Tryz.sizeOf3
  v3 := Tryz.zeroValue3
  t4 := Tryz.underlying4
  a4 := Tryz.isAgg4
  z4 := Tryz.sizeOf4
  v4 := Tryz.zeroValue4
  t9 := Tryz.underlying9
  a9 := Tryz.isAgg9
  z9 := Tryz.sizeOf9
  v9 := Tryz.zeroValue9 }
open Go.RowKit Go.Lib in
/-- internal/stringslite.HasPrefix (what strings.HasPrefix calls). (LAID: no walk: one application.) -/
theorem Tryz.stringslite_HasPrefix (s p : ByteArray) (w : World) :
    Calls Tryz.prog 79 #[.string s, .string p] w fun e w' => e = .returned (.bool (Lib.hasPrefix s.data.toList p.data.toList)) ∧ w' = w := Any.stringslite_HasPrefix Tryz.lays206 s p w
def Tryz.lays99_ren : Go.Shelf.Ren := ⟨fun | 99 => 59 | 206 => 79 | n => n, fun | 9 => 9 | 4 => 4 | 3 => 3 | n => n, fun | n => n⟩
theorem Tryz.lays99 : Go.Proofs.Lays.n99 Tryz.prog Tryz.lays99_ren := {
  mixed := by kernel_rfl
  f99 := Tryz.func59.trans (congrArg some (by kernel_rfl))
  f206 := Tryz.func79.trans (congrArg some (by kernel_rfl))
  t3 := Tryz.underlying3
  a3 := Tryz.isAgg3
  z3 := Tryz.sizeOf3
  v3 := Tryz.zeroValue3
  t4 := Tryz.underlying4
  a4 := Tryz.isAgg4
  z4 := Tryz.sizeOf4
  v4 := Tryz.zeroValue4
  t9 := Tryz.underlying9
  a9 := Tryz.isAgg9
  z9 := Tryz.sizeOf9
  v9 := Tryz.zeroValue9 }
open Go.RowKit Go.Lib in
/-- strings.HasPrefix: "HasPrefix reports whether the string s begins with prefix.": IT RETURNS 'Lib.hasPrefix s prefix'; the world is as it was. (LAID: no walk: one application.) -/
theorem Tryz.strings_HasPrefix (s p : ByteArray) (w : World) :
    Calls Tryz.prog 59 #[.string s, .string p] w fun e w' => e = .returned (.bool (Lib.hasPrefix s.data.toList p.data.toList)) ∧ w' = w := Any.strings_HasPrefix Tryz.lays99 s p w
def Tryz.lays208_ren : Go.Shelf.Ren := ⟨fun | 208 => 105 | 206 => 79 | n => n, fun | 9 => 9 | 4 => 4 | 3 => 3 | n => n, fun | n => n⟩
theorem Tryz.lays208 : Go.Proofs.Lays.n208 Tryz.prog Tryz.lays208_ren := {
  mixed := by kernel_rfl
  f206 := Tryz.func79.trans (congrArg some (by kernel_rfl))
  f208 := Tryz.func105.trans (congrArg some (by kernel_rfl))
  t3 := Tryz.underlying3
  a3 := Tryz.isAgg3
  z3 := Tryz.sizeOf3
  v3 := Tryz.zeroValue3
  t4 := Tryz.underlying4
  a4 := Tryz.isAgg4
  z4 := Tryz.sizeOf4
  v4 := Tryz.zeroValue4
  t9 := Tryz.underlying9
  a9 := Tryz.isAgg9
  z9 := Tryz.sizeOf9
  v9 := Tryz.zeroValue9 }
open Go.RowKit Go.Lib in
/-- internal/stringslite.TrimPrefix (what strings.TrimPrefix calls). (LAID: no walk: one application.) -/
theorem Tryz.stringslite_TrimPrefix (s p : ByteArray) (w : World) :
    Calls Tryz.prog 105 #[.string s, .string p] w fun e w' => e = .returned (.string ⟨(Lib.trimPrefix s.data.toList p.data.toList).toArray⟩) ∧ w' = w := Any.stringslite_TrimPrefix Tryz.lays208 s p w
def Tryz.lays101_ren : Go.Shelf.Ren := ⟨fun | 101 => 84 | 208 => 105 | 206 => 79 | n => n, fun | 9 => 9 | 4 => 4 | 3 => 3 | n => n, fun | n => n⟩
theorem Tryz.lays101 : Go.Proofs.Lays.n101 Tryz.prog Tryz.lays101_ren := {
  mixed := by kernel_rfl
  f101 := Tryz.func84.trans (congrArg some (by kernel_rfl))
  f206 := Tryz.func79.trans (congrArg some (by kernel_rfl))
  f208 := Tryz.func105.trans (congrArg some (by kernel_rfl))
  t3 := Tryz.underlying3
  a3 := Tryz.isAgg3
  z3 := Tryz.sizeOf3
  v3 := Tryz.zeroValue3
  t4 := Tryz.underlying4
  a4 := Tryz.isAgg4
  z4 := Tryz.sizeOf4
  v4 := Tryz.zeroValue4
  t9 := Tryz.underlying9
  a9 := Tryz.isAgg9
  z9 := Tryz.sizeOf9
  v9 := Tryz.zeroValue9 }
open Go.RowKit Go.Lib in
/-- strings.TrimPrefix: "TrimPrefix returns s without the provided leading prefix string. If s doesn't start with prefix, s is returned unchanged.": IT RETURNS 'Lib.trimPrefix s prefix'; the world is as it was. (LAID: no walk: one application.) -/
theorem Tryz.strings_TrimPrefix (s p : ByteArray) (w : World) :
    Calls Tryz.prog 84 #[.string s, .string p] w fun e w' => e = .returned (.string ⟨(Lib.trimPrefix s.data.toList p.data.toList).toArray⟩) ∧ w' = w := Any.strings_TrimPrefix Tryz.lays101 s p w
def Tryz.lays152_ren : Go.Shelf.Ren := ⟨fun | 152 => 116 | 137 => 77 | 119 => 120 | 224 => 121 | 225 => 122 | 217 => 92 | 266 => 107 | n => n, fun | 9 => 9 | 21 => 21 | 3 => 3 | 4 => 4 | 5 => 5 | 0 => 0 | 46 => 82 | n => n, fun | n => n⟩
theorem Tryz.lays152 : Go.Proofs.Lays.n152 Tryz.prog Tryz.lays152_ren := {
  mixed := by kernel_rfl
  f119 := Tryz.func120.trans (congrArg some (by kernel_rfl))
  f137 := Tryz.func77.trans (congrArg some (by kernel_rfl))
  f152 := Tryz.func116.trans (congrArg some (by kernel_rfl))
  f217 := Tryz.func92.trans (congrArg some (by kernel_rfl))
  f224 := Tryz.func121.trans (congrArg some (by kernel_rfl))
  f225 := Tryz.func122.trans (congrArg some (by kernel_rfl))
  f266 := Tryz.func107.trans (congrArg some (by kernel_rfl))
  t0 := Tryz.underlying0
  a0 := Tryz.isAgg0
  z0 := Tryz.sizeOf0
  v0 := Tryz.zeroValue0
  t3 := Tryz.underlying3
  a3 := Tryz.isAgg3
  z3 := Tryz.sizeOf3
  v3 := Tryz.zeroValue3
  t4 := Tryz.underlying4
  a4 := Tryz.isAgg4
  z4 := Tryz.sizeOf4
  v4 := Tryz.zeroValue4
  t5 := Tryz.underlying5
  a5 := Tryz.isAgg5
  z5 := Tryz.sizeOf5
  v5 := Tryz.zeroValue5
  t9 := Tryz.underlying9
  a9 := Tryz.isAgg9
  z9 := Tryz.sizeOf9
  v9 := Tryz.zeroValue9
  t21 := Tryz.underlying21
  a21 := Tryz.isAgg21
  z21 := Tryz.sizeOf21
  v21 := Tryz.zeroValue21
  t46 := Tryz.underlying82
  a46 := Tryz.isAgg82
  z46 := Tryz.sizeOf82
  v46 := Tryz.zeroValue82 }
open Go.RowKit Go.Lib in
theorem Tryz.strings_IndexRune_ascii (s : ByteArray) (r : Int) (w : World) (h0 : 0 ≤ r) (h1 : r < 128) :
    Calls Tryz.prog 116 #[.string s, .int .i32 r] w fun e w' => e = .returned (.int .i64 (Lib.indexByte s.data.toList r.toNat.toUInt8)) ∧ w' = w := Any.strings_IndexRune_ascii Tryz.lays152 s r w h0 h1
def Tryz.lays151_ren : Go.Shelf.Ren := ⟨fun | 151 => 112 | 152 => 116 | 137 => 77 | 119 => 120 | 224 => 121 | 225 => 122 | 217 => 92 | 266 => 107 | n => n, fun | 9 => 9 | 21 => 21 | 4 => 4 | 3 => 3 | 5 => 5 | 0 => 0 | 46 => 82 | n => n, fun | n => n⟩
theorem Tryz.lays151 : Go.Proofs.Lays.n151 Tryz.prog Tryz.lays151_ren := {
  mixed := by kernel_rfl
  f119 := Tryz.func120.trans (congrArg some (by kernel_rfl))
  f137 := Tryz.func77.trans (congrArg some (by kernel_rfl))
  f151 := Tryz.func112.trans (congrArg some (by kernel_rfl))
  f152 := Tryz.func116.trans (congrArg some (by kernel_rfl))
  f217 := Tryz.func92.trans (congrArg some (by kernel_rfl))
  f224 := Tryz.func121.trans (congrArg some (by kernel_rfl))
  f225 := Tryz.func122.trans (congrArg some (by kernel_rfl))
  f266 := Tryz.func107.trans (congrArg some (by kernel_rfl))
  t0 := Tryz.underlying0
  a0 := Tryz.isAgg0
  z0 := Tryz.sizeOf0
  v0 := Tryz.zeroValue0
  t3 := Tryz.underlying3
  a3 := Tryz.isAgg3
  z3 := Tryz.sizeOf3
  v3 := Tryz.zeroValue3
  t4 := Tryz.underlying4
  a4 := Tryz.isAgg4
  z4 := Tryz.sizeOf4
  v4 := Tryz.zeroValue4
  t5 := Tryz.underlying5
  a5 := Tryz.isAgg5
  z5 := Tryz.sizeOf5
  v5 := Tryz.zeroValue5
  t9 := Tryz.underlying9
  a9 := Tryz.isAgg9
  z9 := Tryz.sizeOf9
  v9 := Tryz.zeroValue9
  t21 := Tryz.underlying21
  a21 := Tryz.isAgg21
  z21 := Tryz.sizeOf21
  v21 := Tryz.zeroValue21
  t46 := Tryz.underlying82
  a46 := Tryz.isAgg82
  z46 := Tryz.sizeOf82
  v46 := Tryz.zeroValue82 }
open Go.RowKit Go.Lib in
theorem Tryz.strings_ContainsRune_ascii (s : ByteArray) (r : Int) (w : World) (h0 : 0 ≤ r) (h1 : r < 128) :
    Calls Tryz.prog 112 #[.string s, .int .i32 r] w fun e w' => e = .returned (.bool (decide (0 ≤ Lib.indexByte s.data.toList r.toNat.toUInt8))) ∧ w' = w := Any.strings_ContainsRune_ascii Tryz.lays151 s r w h0 h1
def Tryz.lays227_ren : Go.Shelf.Ren := ⟨fun | 227 => 98 | n => n, fun | 9 => 9 | 116 => 116 | 4 => 4 | 0 => 0 | 3 => 3 | 5 => 5 | n => n, fun | n => n⟩
theorem Tryz.lays227 : Go.Proofs.Lays.n227 Tryz.prog Tryz.lays227_ren := {
  mixed := by kernel_rfl
  f227 := Tryz.func98.trans (congrArg some (by kernel_rfl))
  t0 := Tryz.underlying0
  a0 := Tryz.isAgg0
  z0 := Tryz.sizeOf0
  v0 := Tryz.zeroValue0
  t3 := Tryz.underlying3
  a3 := Tryz.isAgg3
  z3 := Tryz.sizeOf3
  v3 := Tryz.zeroValue3
  t4 := Tryz.underlying4
  a4 := Tryz.isAgg4
  z4 := Tryz.sizeOf4
  v4 := Tryz.zeroValue4
  t5 := Tryz.underlying5
  a5 := Tryz.isAgg5
  z5 := Tryz.sizeOf5
  v5 := Tryz.zeroValue5
  t9 := Tryz.underlying9
  a9 := Tryz.isAgg9
  z9 := Tryz.sizeOf9
  v9 := Tryz.zeroValue9
  t116 := Tryz.underlying116
  a116 := Tryz.isAgg116
  z116 := Tryz.sizeOf116 }
open Go.RowKit Go.Lib in
theorem Tryz.strings_makeASCIISet (hv116 : ∀ w, (zeroValue 116).run Tryz.prog w = .ok (.agg (Array.replicate 256 (.bool false))) w) (chars : ByteArray) (w : World) (hs : chars.size < 4294967281) (hascii : ∀ (j : Nat) b, chars.data.toList[j]? = some b → b.toNat < 128) :
    Calls Tryz.prog 98 #[.string chars] w fun e w' => e = .returned (.tuple #[.agg (Lib.setCells chars.data.toList), .bool true]) ∧ w' = w.alloc (.cells (Lib.setCells chars.data.toList) 116) := Any.strings_makeASCIISet Tryz.lays227 hv116 (by kernel_rfl) chars w hs hascii
def Tryz.lays228_ren : Go.Shelf.Ren := ⟨fun | 228 => 111 | n => n, fun | 124 => 120 | 5 => 5 | 4 => 4 | 0 => 0 | 116 => 116 | n => n, fun | n => n⟩
theorem Tryz.lays228 : Go.Proofs.Lays.n228 Tryz.prog Tryz.lays228_ren := {
  mixed := by kernel_rfl
  f228 := Tryz.func111.trans (congrArg some (by kernel_rfl))
  t0 := Tryz.underlying0
  a0 := Tryz.isAgg0
  z0 := Tryz.sizeOf0
  v0 := Tryz.zeroValue0
  t4 := Tryz.underlying4
  a4 := Tryz.isAgg4
  z4 := Tryz.sizeOf4
  v4 := Tryz.zeroValue4
  t5 := Tryz.underlying5
  a5 := Tryz.isAgg5
  z5 := Tryz.sizeOf5
  v5 := Tryz.zeroValue5
  t116 := Tryz.underlying116
  a116 := Tryz.isAgg116
  z116 := Tryz.sizeOf116
  t124 := Tryz.underlying120
  a124 := Tryz.isAgg120
  z124 := Tryz.sizeOf120
  v124 := Tryz.zeroValue120 }
open Go.RowKit Go.Lib in
/-- '(as *asciiSet) contains(c)': 'as[c]': the set lies at block b, whole. (LAID: no walk: one application.) -/
theorem Tryz.asciiSet_contains (b : Nat) (x : UInt8) (v : Bool) (w : World) (hc : w.cell? ⟨b, x.toNat, none⟩ = some (.bool v)) :
    Calls Tryz.prog 111 #[.pointer (some ⟨b, 0, none⟩), .int .u8 x.toNat] w fun e w' => e = .returned (.bool v) ∧ w' = w := Any.asciiSet_contains Tryz.lays228 b x v w hc
def Tryz.lays260_ren : Go.Shelf.Ren := ⟨fun | 260 => 113 | n => n, fun | 9 => 9 | 21 => 21 | 3 => 3 | 4 => 4 | 5 => 5 | 119 => 131 | 0 => 0 | 46 => 82 | 139 => 134 | 138 => 133 | n => n, fun | 3 => 1 | 4 => 2 | n => n⟩
theorem Tryz.lays260 : Go.Proofs.Lays.n260 Tryz.prog Tryz.lays260_ren := {
  mixed := by kernel_rfl
  f260 := Tryz.func113.trans (congrArg some (by kernel_rfl))
  t0 := Tryz.underlying0
  a0 := Tryz.isAgg0
  z0 := Tryz.sizeOf0
  v0 := Tryz.zeroValue0
  t3 := Tryz.underlying3
  a3 := Tryz.isAgg3
  z3 := Tryz.sizeOf3
  v3 := Tryz.zeroValue3
  t4 := Tryz.underlying4
  a4 := Tryz.isAgg4
  z4 := Tryz.sizeOf4
  v4 := Tryz.zeroValue4
  t5 := Tryz.underlying5
  a5 := Tryz.isAgg5
  z5 := Tryz.sizeOf5
  v5 := Tryz.zeroValue5
  t9 := Tryz.underlying9
  a9 := Tryz.isAgg9
  z9 := Tryz.sizeOf9
  v9 := Tryz.zeroValue9
  t21 := Tryz.underlying21
  a21 := Tryz.isAgg21
  z21 := Tryz.sizeOf21
  v21 := Tryz.zeroValue21
  t46 := Tryz.underlying82
  a46 := Tryz.isAgg82
  z46 := Tryz.sizeOf82
  v46 := Tryz.zeroValue82
  t119 := Tryz.underlying131
  a119 := Tryz.isAgg131
  z119 := Tryz.sizeOf131
  t138 := Tryz.underlying133
  a138 := Tryz.isAgg133
  z138 := Tryz.sizeOf133
  v138 := Tryz.zeroValue133
  t139 := Tryz.underlying134
  a139 := Tryz.isAgg134
  z139 := Tryz.sizeOf134
  v139 := Tryz.zeroValue134
  g3 := by kernel_rfl
  g4 := by kernel_rfl }
open Go.RowKit Go.Lib in
theorem Tryz.utf8_decodeRuneInStringSlow (s : ByteArray) (w : World) (hT : Lib.Utf8Tabs 1 2 w) :
    Calls Tryz.prog 113 #[.string s] w fun e w' => e = .returned (.tuple #[.int .i32 (Lib.decodeGo s).1, .int .i64 (Lib.decodeGo s).2]) ∧ Below w.heap.size w w' := Any.utf8_decodeRuneInStringSlow Tryz.lays260 s w hT
def Tryz.lays197_ren : Go.Shelf.Ren := ⟨fun | 197 => 106 | 260 => 113 | n => n, fun | 9 => 9 | 21 => 21 | 3 => 3 | 4 => 4 | 5 => 5 | 105 => 124 | 119 => 131 | 0 => 0 | 46 => 82 | 139 => 134 | 138 => 133 | n => n, fun | 3 => 1 | 4 => 2 | n => n⟩
theorem Tryz.lays197 : Go.Proofs.Lays.n197 Tryz.prog Tryz.lays197_ren := {
  mixed := by kernel_rfl
  f197 := Tryz.func106.trans (congrArg some (by kernel_rfl))
  f260 := Tryz.func113.trans (congrArg some (by kernel_rfl))
  t0 := Tryz.underlying0
  a0 := Tryz.isAgg0
  z0 := Tryz.sizeOf0
  v0 := Tryz.zeroValue0
  t3 := Tryz.underlying3
  a3 := Tryz.isAgg3
  z3 := Tryz.sizeOf3
  v3 := Tryz.zeroValue3
  t4 := Tryz.underlying4
  a4 := Tryz.isAgg4
  z4 := Tryz.sizeOf4
  v4 := Tryz.zeroValue4
  t5 := Tryz.underlying5
  a5 := Tryz.isAgg5
  z5 := Tryz.sizeOf5
  v5 := Tryz.zeroValue5
  t9 := Tryz.underlying9
  a9 := Tryz.isAgg9
  z9 := Tryz.sizeOf9
  v9 := Tryz.zeroValue9
  t21 := Tryz.underlying21
  a21 := Tryz.isAgg21
  z21 := Tryz.sizeOf21
  v21 := Tryz.zeroValue21
  t46 := Tryz.underlying82
  a46 := Tryz.isAgg82
  z46 := Tryz.sizeOf82
  v46 := Tryz.zeroValue82
  t105 := Tryz.underlying124
  a105 := Tryz.isAgg124
  z105 := Tryz.sizeOf124
  v105 := Tryz.zeroValue124
  t119 := Tryz.underlying131
  a119 := Tryz.isAgg131
  z119 := Tryz.sizeOf131
  t138 := Tryz.underlying133
  a138 := Tryz.isAgg133
  z138 := Tryz.sizeOf133
  v138 := Tryz.zeroValue133
  t139 := Tryz.underlying134
  a139 := Tryz.isAgg134
  z139 := Tryz.sizeOf134
  v139 := Tryz.zeroValue134
  g3 := by kernel_rfl
  g4 := by kernel_rfl }
open Go.RowKit Go.Lib in
/-- **unicode/utf8.DecodeRuneInString AT EVERY STRING.** (LAID: no walk: one application.) -/
theorem Tryz.utf8_DecodeRuneInString (s : ByteArray) (w : World) (hT : Lib.Utf8Tabs 1 2 w) :
    Calls Tryz.prog 106 #[.string s] w fun e w' => e = .returned (.tuple #[.int .i32 (Lib.decodeGo s).1, .int .i64 (Lib.decodeGo s).2]) ∧ Below w.heap.size w w' := Any.utf8_DecodeRuneInString Tryz.lays197 s w hT
end Go.Proofs

/-
  A reader in memory: its box, what stays beside it, and the fault that it panics with; contracts of demand, takes, must, take, ending.
-/
namespace Go.Proofs.YtgfbednfiejlfaaGreatDoor.Rd
open Go.RowKit Go.Proofs.YtgfbednfiejlfaaGreatDoor.Oct

/-- What the reader panics with. -/
abbrev faultV (n : Int) : Value := .iface 51 (.agg #[.int .i64 n])
abbrev Fault (n : Int) : Ending := .panicked [{ v := faultV n, recovered := false }]

/-- The reader's box. -/
def Rd (R : Nat) (s : ByteArray) (ov dv : Value) (w : World) : Prop := w.heap[R]? = some (.cells #[.string s, ov, dv] 54 (0, 0))

/-- All that lay in w lies as it lay, but for the block R. -/
structure Save (R : Nat) (w w' : World) : Prop where
  os : w'.os = w.os
  tape : w'.tape = w.tape
  output : w'.output = w.output
  size : w.heap.size ≤ w'.heap.size
  block : ∀ k, k < w.heap.size → k ≠ R → w'.heap[k]? = w.heap[k]?

theorem Save.refl (R : Nat) (w : World) : Save R w w := ⟨rfl, rfl, rfl, Nat.le_refl _, fun _ _ _ => rfl⟩
theorem Save.trans {R : Nat} {a b c : World} (h : Save R a b) (k : Save R b c) : Save R a c :=
  ⟨k.os.trans h.os, k.tape.trans h.tape, k.output.trans h.output, Nat.le_trans h.size k.size, fun i hi hR => (k.block i (Nat.lt_of_lt_of_le hi h.size) hR).trans (h.block i hi hR)⟩
theorem Save.of {R : Nat} {w w' : World} (h : Below w.heap.size w w') : Save R w w' := ⟨h.os, h.tape, h.output, h.size, fun k hk _ => h.block k hk⟩
theorem Save.setR {R i : Nat} (w : World) (v : Value) : Save R w (w.setCell ⟨R, i, none⟩ v) :=
  ⟨rfl, rfl, rfl, by simp [World.setCell], fun k _ hR => heap_setCell_other _ _ _ _ (by simpa using hR)⟩
theorem Save.drew {R : Nat} {a w : World} (h : Save R a w) : Save R a w.drew := ⟨h.os, h.tape, h.output, h.size, h.block⟩
theorem Save.below {R : Nat} {w w' : World} (h : Save R w w') : Below R w w' ∨ w.heap.size ≤ R := by
  rcases Nat.lt_or_ge R w.heap.size with h1 | h1
  · exact .inl ⟨h.os, h.tape, h.output, h.size, fun k hk => h.block k (by omega) (by omega)⟩
  · exact .inr h1

theorem Rd.lt {R : Nat} {s : ByteArray} {ov dv : Value} {w : World} (h : Rd R s ov dv w) : R < w.heap.size := (Array.getElem?_eq_some_iff.1 h).1
theorem Rd.cell0 {R : Nat} {s : ByteArray} {ov dv : Value} {w : World} (h : Rd R s ov dv w) : w.cell? ⟨R, 0, none⟩ = some (.string s) := (cell_of_row w R 0 _ _ _ h).trans rfl
theorem Rd.cell1 {R : Nat} {s : ByteArray} {ov dv : Value} {w : World} (h : Rd R s ov dv w) : w.cell? ⟨R, 1, none⟩ = some ov := (cell_of_row w R 1 _ _ _ h).trans rfl
theorem Rd.cell2 {R : Nat} {s : ByteArray} {ov dv : Value} {w : World} (h : Rd R s ov dv w) : w.cell? ⟨R, 2, none⟩ = some dv := (cell_of_row w R 2 _ _ _ h).trans rfl
theorem Rd.frozen {R : Nat} {s : ByteArray} {ov dv : Value} {w : World} (h : Rd R s ov dv w) (i : Nat) : w.frozen? ⟨R, i, none⟩ = false := frozen_of_row w R i _ _ h
theorem Rd.set {R : Nat} {s : ByteArray} {ov dv : Value} {w : World} (h : Rd R s ov dv w) (t : ByteArray) : Rd R t ov dv (w.setCell ⟨R, 0, none⟩ (.string t)) := by
  have e := heap_setCell_same w R 0 _ _ (.string t) h
  exact e
theorem Rd.keep {R : Nat} {s : ByteArray} {ov dv : Value} {w w' : World} (h : Rd R s ov dv w) (hb : Below w.heap.size w w') : Rd R s ov dv w' := by
  unfold Rd; rw [hb.block R h.lt]; exact h
theorem Rd.drew {R : Nat} {s : ByteArray} {ov dv : Value} {w : World} (h : Rd R s ov dv w) : Rd R s ov dv w.drew := h

/-- What a reader's call leaves that reads text alone: its answer and the rest, or the fault. -/
def Reads (R : Nat) (ov dv : Value) (w : World) (o : Option (Value × List UInt8)) (e : Ending) (w' : World) : Prop :=
  match o with
  | some (v, t) => e = .returned v ∧ Rd R (S t) ov dv w' ∧ Save R w w'
  | none => e = Fault 33 ∧ Save R w w'

theorem demand_yes (n : Int) (w : World) : Calls Tryz.prog 30 #[.bool true, .int .i64 n] w fun e w' => e = .returned (.tuple #[]) ∧ w' = w := by
  go_enter Tryz.func30, Tryz.ntmps30
  go_wp2
  go_end0
  exact ⟨rfl, rfl⟩
theorem demand_no (n : Int) (w : World) : Calls Tryz.prog 30 #[.bool false, .int .i64 n] w fun e w' => e = Fault n ∧ w' = w := by
  go_enter Tryz.func30, Tryz.ntmps30
  go_wp2
  exact ⟨rfl, rfl, rfl⟩

/-- What takes reads. -/
def takesP (sign l : List UInt8) : Bool × List UInt8 := if Lib.hasPrefix l sign then (true, l.drop sign.length) else (false, l)

theorem takes_c (R : Nat) (s p : ByteArray) (ov dv : Value) (w : World) (h : Rd R s ov dv w) :
    Calls Tryz.prog 45 #[.pointer (some ⟨R, 0, none⟩), .string p] w fun e w' => e = .returned (.bool (takesP p.data.toList s.data.toList).1) ∧ Rd R (S (takesP p.data.toList s.data.toList).2) ov dv w' ∧ Save R w w' := by
  have c0 := h.cell0
  have z0 := h.frozen 0
  have H := Lib.hid h
  have hc := Tryz.strings_CutPrefix s p w
  have e1 : (⟨(Lib.trimPrefix s.data.toList p.data.toList).toArray⟩ : ByteArray) = S (takesP p.data.toList s.data.toList).2 := by
    unfold takesP Lib.trimPrefix
    split <;> rfl
  have e2 : Lib.hasPrefix s.data.toList p.data.toList = (takesP p.data.toList s.data.toList).1 := by
    unfold takesP
    split <;> simp_all
  rw [e1, e2] at hc
  generalize takesP p.data.toList s.data.toList = q at hc ⊢
  obtain ⟨b, t⟩ := q
  clear e1 e2 h
  go_enter Tryz.func45, Tryz.ntmps45
  go_wp2_with (go_at_call 63; refine hc.mono ?_; rintro e w1 ⟨rfl, rfl⟩)
  go_ret
  exact ⟨rfl, H.out.set _, Save.setR _ _⟩

/-- What must reads. -/
def mustP (sign l : List UInt8) : Option (Value × List UInt8) := if Lib.hasPrefix l sign then some (.tuple #[], l.drop sign.length) else none

theorem must_c (R : Nat) (s p : ByteArray) (ov dv : Value) (w : World) (h : Rd R s ov dv w) :
    Calls Tryz.prog 64 #[.pointer (some ⟨R, 0, none⟩), .string p] w (Reads R ov dv w (mustP p.data.toList s.data.toList)) := by
  have hc := takes_c R s p ov dv w h
  unfold takesP at hc
  unfold mustP
  cases hp : Lib.hasPrefix s.data.toList p.data.toList with
  | true =>
    rw [hp] at hc
    simp only [if_true] at hc ⊢
    go_enter Tryz.func64, Tryz.ntmps64
    go_wp2_with (first | (go_at_call 45; refine hc.mono ?_; rintro e w1 ⟨rfl, h1, h2⟩; have HX := Lib.hid (And.intro h1 h2); clear h1 h2) | (go_at_call 30; refine (demand_yes _ _).mono ?_; rintro e w2 ⟨rfl, rfl⟩))
    go_end0
    exact ⟨rfl, HX.out.1, HX.out.2⟩
  | false =>
    rw [hp] at hc
    simp only [Bool.false_eq_true, if_false] at hc ⊢
    go_enter Tryz.func64, Tryz.ntmps64
    go_wp2_with (first | (go_at_call 45; refine hc.mono ?_; rintro e w1 ⟨rfl, h1, h2⟩; have HX := Lib.hid (And.intro h1 h2); clear h1 h2) | (go_at_call 30; refine (demand_no _ _).mono ?_; rintro e w2 ⟨rfl, rfl⟩))
    exact ⟨rfl, rfl, HX.out.2⟩
end Go.Proofs.YtgfbednfiejlfaaGreatDoor.Rd

/-
  Values in memory: a value as a tree of plain data, and what a world must hold so that it reads as that tree.
-/
namespace Go.Proofs.YtgfbednfiejlfaaGreatDoor.Val
open Go.RowKit Go.Proofs.YtgfbednfiejlfaaGreatDoor.Oct

/-- A value: kind, number, text, values, keys. -/
inductive V where
  | mk (kind num : Int) (text : ByteArray) (list : List V) (keys : List ByteArray)

/-- What is asked of each block that is reached: is it one of texts?, the block, the place in it, how many. -/
abbrev Cond := Bool → Nat → Nat → Nat → Prop

/-- A slice of texts reads as ks. -/
def Texts (C : Cond) (w : World) (K : Value) (ks : List ByteArray) : Prop :=
  ∃ (p : Option Addr) (cap b off : Nat), K = .slice p ks.length cap ∧ (ks.length * 16 ≤ 140737488351232 ∧ ∀ s ∈ ks, s.size ≤ 140737488351232) ∧
    (0 < ks.length → p = some ⟨b, off, none⟩ ∧ C true b off ks.length) ∧ ∀ i (h : i < ks.length), w.cell? ⟨b, off + i, none⟩ = some (.string ks[i])

/-- A value reads as a tree. -/
inductive Holds (C : Cond) (w : World) : Value → V → Prop where
  | mk (k n : Int) (s : ByteArray) (p : Option Addr) (cap : Nat) (K : Value) (l : List V) (ks : List ByteArray) (b off : Nat) (c : Nat → Nat → Value)
      (hr : -9223372036854775808 ≤ k ∧ k ≤ 9223372036854775807 ∧ -9223372036854775808 ≤ n ∧ n ≤ 9223372036854775807 ∧ s.size ≤ 140737488351232 ∧ l.length * 80 ≤ 140737488351232)
      (hp : 0 < l.length → p = some ⟨b, off, none⟩ ∧ C false b off l.length)
      (hc : ∀ i j, i < l.length → j < 5 → w.cell? ⟨b, off + (i * 5 + j), none⟩ = some (c i j))
      (hK : Texts C w K ks)
      (hl : ∀ i (h : i < l.length), Holds C w (.agg #[c i 0, c i 1, c i 2, c i 3, c i 4]) l[i]) :
      Holds C w (.agg #[.int .i64 k, .int .i64 n, .string s, .slice p l.length cap, K]) (.mk k n s l ks)

theorem Texts.frame {C C' : Cond} {w w' : World} {K : Value} {ks : List ByteArray} (h : Texts C w K ks) (hC : ∀ t b off n, C t b off n → w'.heap[b]? = w.heap[b]?) (hC' : ∀ t b off n, C t b off n → C' t b off n) : Texts C' w' K ks := by
  obtain ⟨p, cap, b, off, h1, h2, h3, h4⟩ := h
  refine ⟨p, cap, b, off, h1, h2, fun h0 => ⟨(h3 h0).1, hC' _ _ _ _ (h3 h0).2⟩, fun i hi => ?_⟩
  have := hC _ _ _ _ (h3 (by omega)).2
  rw [← h4 i hi]
  simp [World.cell?, this]

theorem Holds.frame {C C' : Cond} {w w' : World} {v : Value} {x : V} (h : Holds C w v x) (hC : ∀ t b off n, C t b off n → w'.heap[b]? = w.heap[b]?) (hC' : ∀ t b off n, C t b off n → C' t b off n) : Holds C' w' v x := by
  induction h with
  | mk k n s p cap K l ks b off c hr hp hc hK hl ih =>
    refine .mk k n s p cap K l ks b off c hr (fun h0 => ⟨(hp h0).1, hC' _ _ _ _ (hp h0).2⟩) (fun i j hi hj => ?_) (hK.frame hC hC') (fun i hi => ih i hi)
    have := hC _ _ _ _ (hp (by omega)).2
    rw [← hc i j hi hj]
    simp [World.cell?, this]

/-- What lies below n. -/
abbrev Old (n : Nat) : Cond := fun _ b _ _ => b < n

theorem Holds.kept {n : Nat} {w w' : World} {v : Value} {x : V} (h : Holds (Old n) w v x) (hb : Below n w w') : Holds (Old n) w' v x :=
  h.frame (fun _ b _ _ hb' => hb.block b hb') (fun _ _ _ _ h => h)
theorem Holds.older {n m : Nat} {w : World} {v : Value} {x : V} (h : Holds (Old n) w v x) (hnm : n ≤ m) : Holds (Old m) w v x :=
  h.frame (fun _ _ _ _ _ => rfl) (fun _ _ _ _ h => Nat.lt_of_lt_of_le h hnm)
end Go.Proofs.YtgfbednfiejlfaaGreatDoor.Val

/-
  A box of one value: written whole, and what stays.
-/
namespace Go.Proofs.YtgfbednfiejlfaaGreatDoor.Rd
open Go.RowKit Go.Proofs.YtgfbednfiejlfaaGreatDoor.Oct

/-- A box in block q that holds a value. -/
def Bx (W : World) (q : Nat) (u0 u1 u2 u3 u4 : Value) : Prop := W.heap[q]? = some (.cells #[u0, u1, u2, u3, u4] 26 (0, 0))
/-- A value is written into it. -/
abbrev st5 (W : World) (q : Nat) (v0 v1 v2 v3 v4 : Value) : World :=
  ((((W.setCell ⟨q, 0, none⟩ v0).setCell ⟨q, 1, none⟩ v1).setCell ⟨q, 2, none⟩ v2).setCell ⟨q, 3, none⟩ v3).setCell ⟨q, 4, none⟩ v4

theorem Bx.lt {W : World} {q : Nat} {u0 u1 u2 u3 u4 : Value} (h : Bx W q u0 u1 u2 u3 u4) : q < W.heap.size := (Array.getElem?_eq_some_iff.1 h).1
theorem Bx.five {W : World} {q : Nat} {u0 u1 u2 u3 u4 : Value} (h : Bx W q u0 u1 u2 u3 u4) :
    W.cell? ⟨q, 0, none⟩ = some u0 ∧ W.cell? ⟨q, 1, none⟩ = some u1 ∧ W.cell? ⟨q, 2, none⟩ = some u2 ∧ W.cell? ⟨q, 3, none⟩ = some u3 ∧ W.cell? ⟨q, 4, none⟩ = some u4 :=
  ⟨cell_of_row W q 0 _ _ _ h, cell_of_row W q 1 _ _ _ h, cell_of_row W q 2 _ _ _ h, cell_of_row W q 3 _ _ _ h, cell_of_row W q 4 _ _ _ h⟩
theorem Bx.froz {W : World} {q : Nat} {u0 u1 u2 u3 u4 : Value} (h : Bx W q u0 u1 u2 u3 u4) :
    W.frozen? ⟨q, 0, none⟩ = false ∧ W.frozen? ⟨q, 1, none⟩ = false ∧ W.frozen? ⟨q, 2, none⟩ = false ∧ W.frozen? ⟨q, 3, none⟩ = false ∧ W.frozen? ⟨q, 4, none⟩ = false :=
  ⟨frozen_of_row W q 0 _ _ h, frozen_of_row W q 1 _ _ h, frozen_of_row W q 2 _ _ h, frozen_of_row W q 3 _ _ h, frozen_of_row W q 4 _ _ h⟩
theorem Bx.new (W : World) (u0 u1 u2 u3 u4 : Value) : Bx (W.alloc (.cells #[u0, u1, u2, u3, u4] 26)) W.heap.size u0 u1 u2 u3 u4 := heap_alloc_new W _
theorem Bx.st5 {W : World} {q : Nat} {u0 u1 u2 u3 u4 : Value} (h : Bx W q u0 u1 u2 u3 u4) (v0 v1 v2 v3 v4 : Value) : Bx (st5 W q v0 v1 v2 v3 v4) q v0 v1 v2 v3 v4 := by
  have h0 := heap_setCell_same W q 0 _ _ v0 h
  have h1 := heap_setCell_same _ q 1 _ _ v1 h0
  have h2 := heap_setCell_same _ q 2 _ _ v2 h1
  have h3 := heap_setCell_same _ q 3 _ _ v3 h2
  have h4 := heap_setCell_same _ q 4 _ _ v4 h3
  exact h4
theorem st5_other (W : World) {q b : Nat} (v0 v1 v2 v3 v4 : Value) (h : b ≠ q) : (st5 W q v0 v1 v2 v3 v4).heap[b]? = W.heap[b]? := by
  rw [heap_setCell_other _ _ _ _ (by simpa using h), heap_setCell_other _ _ _ _ (by simpa using h), heap_setCell_other _ _ _ _ (by simpa using h), heap_setCell_other _ _ _ _ (by simpa using h), heap_setCell_other _ _ _ _ (by simpa using h)]
theorem st5_size (W : World) (q : Nat) (v0 v1 v2 v3 v4 : Value) : (st5 W q v0 v1 v2 v3 v4).heap.size = W.heap.size := by simp [World.setCell]
theorem Bx.save {R : Nat} {W W' : World} {q : Nat} {u0 u1 u2 u3 u4 : Value} (h : Bx W q u0 u1 u2 u3 u4) (hs : Save R W W') (hq : q ≠ R) : Bx W' q u0 u1 u2 u3 u4 := by
  unfold Bx; rw [hs.block q h.lt hq]; exact h
theorem Bx.keep {W W' : World} {q : Nat} {u0 u1 u2 u3 u4 : Value} (h : Bx W q u0 u1 u2 u3 u4) (hs : Below W.heap.size W W') : Bx W' q u0 u1 u2 u3 u4 := by
  unfold Bx; rw [hs.block q h.lt]; exact h
theorem Bx.other {W : World} {q p : Nat} {u0 u1 u2 u3 u4 : Value} (h : Bx W q u0 u1 u2 u3 u4) (hq : q ≠ p) (v0 v1 v2 v3 v4 : Value) : Bx (Rd.st5 W p v0 v1 v2 v3 v4) q u0 u1 u2 u3 u4 := by
  unfold Bx; rw [st5_other W v0 v1 v2 v3 v4 hq]; exact h
theorem st5_below {n : Nat} {w W : World} (h : Below n w W) {q : Nat} (hq : n ≤ q) (v0 v1 v2 v3 v4 : Value) : Below n w (st5 W q v0 v1 v2 v3 v4) :=
  ((((h.setCell (p := ⟨q, 0, none⟩) hq _).setCell (p := ⟨q, 1, none⟩) hq _).setCell (p := ⟨q, 2, none⟩) hq _).setCell (p := ⟨q, 3, none⟩) hq _).setCell (p := ⟨q, 4, none⟩) hq _
theorem Save.own {R : Nat} {w W W' : World} (h : Save R w W) (k : Below w.heap.size W W') : Save R w W' :=
  ⟨k.os.trans h.os, k.tape.trans h.tape, k.output.trans h.output, Nat.le_trans h.size k.size, fun i hi hR => (k.block i hi).trans (h.block i hi hR)⟩
theorem Save.st5 {R : Nat} {w W : World} (h : Save R w W) {q : Nat} (hq : w.heap.size ≤ q) (v0 v1 v2 v3 v4 : Value) : Save R w (st5 W q v0 v1 v2 v3 v4) := h.own (st5_below (Below.refl _ _) hq _ _ _ _ _)
theorem Save.alloc {R : Nat} {w W : World} (h : Save R w W) (o : Obj) : Save R w (W.alloc o) := h.own ((Below.refl _ _).alloc h.size _)
theorem Rd.st5 {R q : Nat} {s : ByteArray} {ov dv : Value} {W : World} (h : Rd R s ov dv W) (hR : R ≠ q) (v0 v1 v2 v3 v4 : Value) : Rd R s ov dv (st5 W q v0 v1 v2 v3 v4) := by
  unfold Rd; rw [st5_other W v0 v1 v2 v3 v4 hR]; exact h
theorem Rd.alloc {R : Nat} {s : ByteArray} {ov dv : Value} {W : World} (h : Rd R s ov dv W) (o : Obj) : Rd R s ov dv (W.alloc o) := h.keep ((Below.refl _ _).alloc (Nat.le_refl _) _)
end Go.Proofs.YtgfbednfiejlfaaGreatDoor.Rd

/-
  Contract of the page's Same, at two values that read as one tree: true; all older memory lies as it lay.
-/
namespace Go.Proofs.YtgfbednfiejlfaaGreatDoor.Val
open Go.RowKit Go.Proofs.YtgfbednfiejlfaaGreatDoor.Oct

theorem Holds.cases {C : Cond} {w : World} {v : Value} {k n : Int} {s : ByteArray} {l : List V} {ks : List ByteArray} (h : Holds C w v (.mk k n s l ks)) :
    ∃ (p : Option Addr) (cap : Nat) (K : Value) (b off : Nat) (c : Nat → Nat → Value), v = .agg #[.int .i64 k, .int .i64 n, .string s, .slice p l.length cap, K] ∧
      (0 < l.length → p = some ⟨b, off, none⟩ ∧ C false b off l.length) ∧ (∀ i j, i < l.length → j < 5 → w.cell? ⟨b, off + (i * 5 + j), none⟩ = some (c i j)) ∧ Texts C w K ks ∧
      ∀ i (h : i < l.length), Holds C w (.agg #[c i 0, c i 1, c i 2, c i 3, c i 4]) l[i] := by
  cases h with
  | mk _ _ _ p cap K _ _ b off c hr hp hc hK hl => exact ⟨p, cap, K, b, off, c, rfl, hp, hc, hK, hl⟩

set_option maxHeartbeats 2000000 in
set_option maxRecDepth 100000 in
theorem same_c (N : Nat) (w : World) {a : Value} {x : V} (ha : Holds (Old N) w a x) : ∀ (b : Value) (_ : Holds (Old N) w b x) (W : World), N ≤ W.heap.size → Below N w W →
    Calls Tryz.prog 14 #[a, b] W fun e W' => e = .returned (.bool true) ∧ Below W.heap.size W W' := by
  induction ha with
  | mk k n s p cap K l ks bl off c hr hp hc hK hl ih =>
    intro v hv W hN hW
    obtain ⟨p', cap', K', bl', off', c', rfl, hp', hc', hK', hl'⟩ := hv.cases
    obtain ⟨q, qc, qb, qo, rfl, ⟨hq1, -⟩, hq2, hq3⟩ := hK
    obtain ⟨q', qc', qb', qo', rfl, ⟨hq1', -⟩, hq2', hq3'⟩ := hK'
    have es : (s.toList == s.toList) = true := by simp
    go_enter Tryz.func14, Tryz.ntmps14
    go_wp2_with fail
    generalize hW2 : ((W.alloc (.cells #[.int .i64 k, .int .i64 n, .string s, .slice p l.length cap, .slice q ks.length qc] 26)).alloc (.cells #[.int .i64 k, .int .i64 n, .string s, .slice p' l.length cap', .slice q' ks.length qc'] 26)) = W2
    have B2 : Below W.heap.size W W2 := by rw [← hW2]; exact ((Below.refl _ W).alloc (Nat.le_refl _) _).alloc (by simp) _
    have Z2 : W2.heap.size = W.heap.size + 2 := by rw [← hW2]; simp
    have A3 : W2.cell? ⟨W.heap.size, 3, none⟩ = some (.slice p l.length cap) := by rw [← hW2]; simp
    have A4 : W2.cell? ⟨W.heap.size, 4, none⟩ = some (.slice q ks.length qc) := by rw [← hW2]; simp
    have A3' : W2.cell? ⟨W.heap.size + 1, 3, none⟩ = some (.slice p' l.length cap') := by rw [← hW2]; simp
    have A4' : W2.cell? ⟨W.heap.size + 1, 4, none⟩ = some (.slice q' ks.length qc') := by rw [← hW2]; simp
    have HF := Lib.hid (And.intro B2 (And.intro Z2 (And.intro A3 (And.intro A4 (And.intro A3' A4')))))
    clear hW2 B2 Z2 A3 A4 A3' A4'
    have HG := Lib.hid (And.intro hN hW)
    have HKS := Lib.hid (And.intro hq2 (And.intro hq3 (And.intro hq2' hq3')))
    have HLS := Lib.hid (And.intro hp (And.intro hc (And.intro hl (And.intro hp' (And.intro hc' hl')))))
    have HIH := Lib.hid ih
    clear hN hW hq2 hq3 hq2' hq3' hp hc hl hp' hc' hl' ih hv
    obtain ⟨hr1, hr2, hr3, hr4, hr5, hr6⟩ := hr
    go_loopw [5] (fun i wr => ∃ j : Nat, j ≤ ks.length ∧ i = .int .i64 j ∧ Hid (Below W2.heap.size W2 wr)) (fun i _ => ks.length - (intOf i).toNat)
    case atStart => exact ⟨0, Nat.zero_le _, rfl, Below.refl _ _⟩
    case round =>
      obtain ⟨j, hj, rfl, hwr⟩ := hrel
      have Z2 := HF.out.2.1
      have C4 : wr.cell? ⟨W.heap.size, 4, none⟩ = some (.slice q ks.length qc) := by rw [hwr.out.cell (by show W.heap.size < _; omega)]; exact HF.out.2.2.2.1
      have C4' : wr.cell? ⟨W.heap.size + 1, 4, none⟩ = some (.slice q' ks.length qc') := by rw [hwr.out.cell (by show W.heap.size + 1 < _; omega)]; exact HF.out.2.2.2.2.2
      clear Z2
      by_cases hlt : j < ks.length
      · obtain ⟨⟨rfl, hx⟩, hk1, ⟨⟨rfl, hx'⟩, hk2⟩⟩ : (q = some ⟨qb, qo, none⟩ ∧ qb < N) ∧ wr.cell? ⟨qb, qo + j, none⟩ = some (.string ks[j]) ∧ (q' = some ⟨qb', qo', none⟩ ∧ qb' < N) ∧ wr.cell? ⟨qb', qo' + j, none⟩ = some (.string ks[j]) := by
          have n0 : 0 < ks.length := by omega
          have g := fun (b o : Nat) (hb : b < N) => (hwr.out.cell (p := ⟨b, o, none⟩) (show b < _ by have := HG.out.1; have := HF.out.1.size; omega)).trans ((HF.out.1.cell (p := ⟨b, o, none⟩) (show b < _ by have := HG.out.1; omega)).trans (HG.out.2.cell (p := ⟨b, o, none⟩) (show b < _ from hb)))
          refine ⟨HKS.out.1 n0, ?_, HKS.out.2.2.1 n0, ?_⟩
          · rw [g _ _ (HKS.out.1 n0).2]; exact HKS.out.2.1 j hlt
          · rw [g _ _ (HKS.out.2.2.1 n0).2]; exact HKS.out.2.2.2 j hlt
        have es2 : (ks[j].toList == ks[j].toList) = true := by simp
        generalize ks[j] = key at hk1 hk2 es2
        have h1 : (0 : Int) ≤ (j : Int) := by omega
        have h2 : (j : Int) < (ks.length : Int) := by omega
        go_wp2_with fail
        go_quiet (fail)
        go_wp2_with fail
        go_roundw
        case rel => exact ⟨j + 1, by omega, by go_num, below_drewN hwr.out _⟩
        case measure => simp [intOf]; omega
      · go_wp2_with fail
        clear C4 C4'
        go_loopw [6] (fun i wr => ∃ j : Nat, j ≤ l.length ∧ i = .int .i64 j ∧ Hid (Below W2.heap.size W2 wr)) (fun i _ => l.length - (intOf i).toNat)
        case atStart => exact ⟨0, Nat.zero_le _, rfl, hwr⟩
        case round =>
          clear hwr
          obtain ⟨m, hm, rfl, hwr2⟩ := hrel
          have Z2 := HF.out.2.1
          have C3 : wr.cell? ⟨W.heap.size, 3, none⟩ = some (.slice p l.length cap) := by rw [hwr2.out.cell (by show W.heap.size < _; omega)]; exact HF.out.2.2.1
          have C3' : wr.cell? ⟨W.heap.size + 1, 3, none⟩ = some (.slice p' l.length cap') := by rw [hwr2.out.cell (by show W.heap.size + 1 < _; omega)]; exact HF.out.2.2.2.2.1
          clear Z2
          by_cases hlm : m < l.length
          · have n0 : 0 < l.length := by omega
            obtain ⟨rfl, hbN⟩ := HLS.out.1 n0
            obtain ⟨rfl, hbN'⟩ := HLS.out.2.2.2.1 n0
            have g := fun (b o : Nat) (hb : b < N) => (hwr2.out.cell (p := ⟨b, o, none⟩) (show b < _ by have := HG.out.1; have := HF.out.1.size; omega)).trans ((HF.out.1.cell (p := ⟨b, o, none⟩) (show b < _ by have := HG.out.1; omega)).trans (HG.out.2.cell (p := ⟨b, o, none⟩) (show b < _ from hb)))
            have hcs : ∀ j, j < 5 → wr.cell? ⟨bl, off + (m * 5 + j), none⟩ = some (c m j) := fun j hj => by rw [g _ _ hbN]; exact HLS.out.2.1 m j hlm hj
            have hcs' : ∀ j, j < 5 → wr.cell? ⟨bl', off' + (m * 5 + j), none⟩ = some (c' m j) := fun j hj => by rw [g _ _ hbN']; exact HLS.out.2.2.2.2.1 m j hlm hj
            have e0 : wr.cell? ⟨bl, off + m * 5, none⟩ = some (c m 0) := hcs 0 (by omega)
            have e1 : wr.cell? ⟨bl, off + m * 5 + 1, none⟩ = some (c m 1) := hcs 1 (by omega)
            have e2 : wr.cell? ⟨bl, off + m * 5 + 2, none⟩ = some (c m 2) := hcs 2 (by omega)
            have e3 : wr.cell? ⟨bl, off + m * 5 + 3, none⟩ = some (c m 3) := hcs 3 (by omega)
            have e4 : wr.cell? ⟨bl, off + m * 5 + 4, none⟩ = some (c m 4) := hcs 4 (by omega)
            have f0 : wr.cell? ⟨bl', off' + m * 5, none⟩ = some (c' m 0) := hcs' 0 (by omega)
            have f1 : wr.cell? ⟨bl', off' + m * 5 + 1, none⟩ = some (c' m 1) := hcs' 1 (by omega)
            have f2 : wr.cell? ⟨bl', off' + m * 5 + 2, none⟩ = some (c' m 2) := hcs' 2 (by omega)
            have f3 : wr.cell? ⟨bl', off' + m * 5 + 3, none⟩ = some (c' m 3) := hcs' 3 (by omega)
            have f4 : wr.cell? ⟨bl', off' + m * 5 + 4, none⟩ = some (c' m 4) := hcs' 4 (by omega)
            have hcall : ∀ W', Below wr.heap.size wr W' → Calls Tryz.prog 14 #[.agg #[c m 0, c m 1, c m 2, c m 3, c m 4], .agg #[c' m 0, c' m 1, c' m 2, c' m 3, c' m 4]] W' fun e W'' => e = .returned (.bool true) ∧ Below W'.heap.size W' W'' := fun W' hb' =>
              HIH.out m hlm _ (HLS.out.2.2.2.2.2 m hlm) W' (by have := HG.out.1; have := HF.out.1.size; have := hwr2.out.size; have := hb'.size; omega)
                (HG.out.2.trans ((HF.out.1.mono HG.out.1).trans ((hwr2.out.mono (by have := HG.out.1; have := HF.out.1.size; omega)).trans (hb'.mono (by have := HG.out.1; have := HF.out.1.size; have := hwr2.out.size; omega)))))
            clear hcs hcs' g
            have h1 : (0 : Int) ≤ (m : Int) := by omega
            have h2 : (m : Int) < (l.length : Int) := by omega
            go_wp2_with fail
            go_still_tail 10, (by kernel_rfl)
            change wpList _ _ _ _ _ wr.drew
            have hdr : Below wr.heap.size wr wr.drew := (Below.refl _ wr).drew
            have hsd : wr.drew.heap.size = wr.heap.size := rfl
            have hc2 := hcall wr.drew hdr
            rw [hsd] at hc2
            generalize wr.drew = wd at hdr hc2
            clear hcall hsd
            go_wp2_with fail
            refine hc2.mono ?_
            rintro e w' ⟨rfl, hb'⟩
            clear hc2 e0 e1 e2 e3 e4 f0 f1 f2 f3 f4 C3 C3'
            have HN : Hid (Below W2.heap.size W2 w') := hwr2.out.trans ((hdr.mono hwr2.out.size).trans (hb'.mono hwr2.out.size))
            clear hb' hdr
            go_wp2_with fail
            go_roundw
            case rel => exact ⟨m + 1, by omega, by go_num, HN⟩
            case measure => simp [intOf]; omega
          · go_wp2_with fail
            go_ret
            exact ⟨rfl, HF.out.1.trans (hwr2.out.mono HF.out.1.size)⟩
end Go.Proofs.YtgfbednfiejlfaaGreatDoor.Val
