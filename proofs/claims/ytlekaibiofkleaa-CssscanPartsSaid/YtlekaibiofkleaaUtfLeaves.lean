/-
  Contracts of utf.character, Encode, Decode, and of the law's own num.
-/
import Derived.Test.YtlekaibiofkleaaUtfPure
import Derived.Lib.Small
import Derived.Test.YtlekaibiofkleaaMem
import Derived.Test.YtlekaibiofkleaaShelf
namespace Go.Proofs.Ytlekaibiofkleaa.Utf
open Go.RowKit Go.Proofs.Ytlekaibiofkleaa.Oct Go.Proofs.Ytlekaibiofkleaa.Mem
open Go.Lib (encodeRune)

theorem valid_eq (c : Int) : Lib.validRune c = charB c := by unfold Lib.validRune charB isChar; rfl

theorem runeCells_eq (c : Int) : Lib.runeCells c = (encodeRune c).map bv := (Lib.byteCells_encodeRune c).symm

end Go.Proofs.Ytlekaibiofkleaa.Utf
