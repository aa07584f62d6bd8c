/-
  Contracts of strings.Clone and of Allowed of package schemes.
-/
import Derived.Test.YtomclpaedbgdfaaSchPgA
import Derived.Test.YtomclpaedbgdfaaOctTexts
namespace Go.Proofs.Ytomclpaedbgdfaa.Sch
open Go.RowKit Go.Proofs.Ytomclpaedbgdfaa.Oct Go.Proofs.Ytomclpaedbgdfaa.Utf Go.Proofs.Ytomclpaedbgdfaa.Pct

theorem sclone_c (s : ByteArray) (hs : s.size ≤ 140737488351232) (w : World) :
    Calls Try.prog 11 #[.string s] w fun e w' => e = .returned (.string s) ∧ Below w.heap.size w w' := by
  go_enter Try.func11, Try.ntmps11
  go_wp2_with (go_at_call 15; refine (Try.stringslite_Clone _ _ (by omega)).mono ?_; rintro e w' ⟨rfl, hb⟩)
  go_ret
  exact ⟨rfl, hb⟩

theorem allowed_c (l : List UInt8) (w : World) :
    Calls Try.prog 16 #[.string (S l)] w fun e w' => e = .returned (.bool (allowL l)) ∧ w = w' := by
  have e1 : ((S l).toList == [104, 116, 116, 112]) = decide (l = httpL) := eqL l httpL
  have e2 : ((S l).toList == [104, 116, 116, 112, 115]) = decide (l = httpsL) := eqL l httpsL
  have e3 : ((S l).toList == [109, 97, 105, 108, 116, 111]) = decide (l = mailtoL) := eqL l mailtoL
  have E : Hid (allowL l = (decide (l = httpL) || (decide (l = httpsL) || decide (l = mailtoL)))) := by
    show _ = _
    unfold allowL
    rw [Bool.eq_iff_iff]
    simp
  generalize decide (l = httpL) = b1 at e1 E
  generalize decide (l = httpsL) = b2 at e2 E
  generalize decide (l = mailtoL) = b3 at e3 E
  generalize allowL l = ans at E ⊢
  generalize S l = T at e1 e2 e3
  cases b1 with
  | true =>
    go_enter Try.func16, Try.ntmps16
    go_wp2_with fail
    go_ret
    exact ⟨ret_bool (by rw [E.out]; rfl), rfl⟩
  | false =>
    cases b2 with
    | true =>
      go_enter Try.func16, Try.ntmps16
      go_wp2_with fail
      go_ret
      exact ⟨ret_bool (by rw [E.out]; rfl), rfl⟩
    | false =>
      cases b3 with
      | true =>
        go_enter Try.func16, Try.ntmps16
        go_wp2_with fail
        go_ret
        exact ⟨ret_bool (by rw [E.out]; rfl), rfl⟩
      | false =>
        go_enter Try.func16, Try.ntmps16
        go_wp2_with fail
        go_ret
        exact ⟨ret_bool (by rw [E.out]; rfl), rfl⟩

end Go.Proofs.Ytomclpaedbgdfaa.Sch
