/-
  Contracts of octets.Name, Starts and Trim: as plain functions of lists of octets.
-/
import Derived.Test.YtamenccdnobjkaaDoorOctLists
namespace Go.Proofs.YtamenccdnobjkaaDoor.Oct
open Go.RowKit

theorem name_none (s : ByteArray) : (firstOf (fun k => !nameI ((at' s k).toNat : Int)) 0 s.size == s.size) = s.data.toList.all (fun c => nameI (c.toNat : Int)) := by
  rw [firstOf_all, ← all_at]
  simp


theorem starts_c (s p : ByteArray) (w : World) (hp : p.size ≤ 9223372036854775807) :
    Calls Tryd.prog 60 #[.string s, .string p] w fun e w' => e = .returned (.bool (startsB s.data.toList p.data.toList)) ∧ Below w.heap.size w w' := by
  by_cases hl : s.size < p.size
  · go_enter Tryd.func60, Tryd.ntmps60
    go_wp2
    go_ret
    exact ⟨ret_bool (by unfold startsB; rw [size_list, size_list, decide_eq_false (by omega)]; rfl), ((Below.refl _ w).alloc (Nat.le_refl _) _).alloc (by simp) _⟩
  · have hl' : p.size ≤ s.size := by omega
    have hn := none_c p.size 72 #[.pointer (some ⟨w.heap.size, 0, none⟩), .pointer (some ⟨w.heap.size + 1, 0, none⟩)] (fun k => low (at' s k) != low (at' p k))
      ((w.alloc (.cells #[.string s] 9)).alloc (.cells #[.string p] 9)) hp enter_starts
      (fun k W hk hb => (starts1_c s p k w.heap.size (w.heap.size + 1) W (by omega) hk (by rw [hb.cell (by simp; omega)]; simp) (by rw [hb.cell (by simp)]; simp)).mono
        fun _ _ ⟨he, q, hw⟩ => ⟨he, hw ▸ below_drewN hb q⟩)
    rw [starts_none s p hl'] at hn
    go_enter Tryd.func60, Tryd.ntmps60
    go_wp2_with (go_at_call 71; refine hn.mono ?_; rintro e w' ⟨rfl, hb⟩)
    go_ret
    exact ⟨rfl, (((Below.refl _ w).alloc (Nat.le_refl _) _).alloc (by simp) _).trans (hb.mono (by simp; omega))⟩

theorem clone_c (s : ByteArray) (w : World) (hs : s.size ≤ 281474976710656) :
    Calls Tryd.prog 24 #[.string s] w fun e w' => e = .returned (.string s) ∧ Below w.heap.size w w' := by
  go_enter Tryd.func24, Tryd.ntmps24
  go_wp2_with (go_at_call 40; refine (Tryd.stringslite_Clone _ _ hs).mono ?_; rintro e w' ⟨rfl, hb⟩)
  go_ret
  exact ⟨rfl, hb⟩

end Go.Proofs.YtamenccdnobjkaaDoor.Oct
