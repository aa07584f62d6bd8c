/-
  Part 16: ScwAsk2.
-/
import Derived.Test.YtklpbkjplecdpaaGreatSxBaseP15
/-
  Contracts of the walker of package scan: ask at each kind of state; values, remarks, what is bogus.
-/
namespace Go.Proofs.YtklpbkjplecdpaaGreat.Scw
open Go.RowKit Oct Crf Scn Tab Tok

set_option maxHeartbeats 1000000 in
set_option maxRecDepth 100000 in
theorem ask0_c (c : UInt8) (R : Nat) (s : Sc) (hk : s.k = 0) (x : Res) (w : World) (h : Wk R 47 (Octet c) s w) (hq : Calls Tryz.prog 38 #[.pointer (some ⟨R, 0, none⟩)] w (AskTo R c w x)) :
    Calls Tryz.prog 23 #[.pointer (some ⟨R, 0, none⟩)] w (AskTo R c w x) := by
  have c0 : w.cell? ⟨R, 0, none⟩ = some (.int .i64 0) := by have q := h.cells.1; rw [hk] at q; exact q
  clear h hk
  go_enter Tryz.func23, Tryz.ntmps23
  go_wp2_with fail
  refine hq.mono ?_
  intro e w2 h3
  clear hq
  cases x with
  | error n =>
    obtain ⟨hk, rfl⟩ := h3
    exact ⟨rfl, To.err hk⟩
  | ok u =>
    obtain ⟨hk, rfl, hw⟩ := h3
    have K2 := Lib.hid (To.ok hk hw)
    clear hk hw
    go_wp2_with fail
    go_end0
    exact K2.out
set_option maxHeartbeats 1000000 in
set_option maxRecDepth 100000 in
theorem ask1_c (c : UInt8) (R : Nat) (s : Sc) (hk : s.k = 1) (x : Res) (w : World) (h : Wk R 47 (Octet c) s w) (hq : Calls Tryz.prog 39 #[.pointer (some ⟨R, 0, none⟩)] w (AskTo R c w x)) :
    Calls Tryz.prog 23 #[.pointer (some ⟨R, 0, none⟩)] w (AskTo R c w x) := by
  have c0 : w.cell? ⟨R, 0, none⟩ = some (.int .i64 1) := by have q := h.cells.1; rw [hk] at q; exact q
  clear h hk
  go_enter Tryz.func23, Tryz.ntmps23
  go_wp2_with fail
  refine hq.mono ?_
  intro e w2 h3
  clear hq
  cases x with
  | error n =>
    obtain ⟨hk, rfl⟩ := h3
    exact ⟨rfl, To.err hk⟩
  | ok u =>
    obtain ⟨hk, rfl, hw⟩ := h3
    have K2 := Lib.hid (To.ok hk hw)
    clear hk hw
    go_wp2_with fail
    go_end0
    exact K2.out
set_option maxHeartbeats 1000000 in
set_option maxRecDepth 100000 in
theorem ask2_c (c : UInt8) (R : Nat) (s : Sc) (hk : s.k = 2) (x : Res) (w : World) (h : Wk R 47 (Octet c) s w) (hq : Calls Tryz.prog 40 #[.pointer (some ⟨R, 0, none⟩)] w (AskTo R c w x)) :
    Calls Tryz.prog 23 #[.pointer (some ⟨R, 0, none⟩)] w (AskTo R c w x) := by
  have c0 : w.cell? ⟨R, 0, none⟩ = some (.int .i64 2) := by have q := h.cells.1; rw [hk] at q; exact q
  clear h hk
  go_enter Tryz.func23, Tryz.ntmps23
  go_wp2_with fail
  refine hq.mono ?_
  intro e w2 h3
  clear hq
  cases x with
  | error n =>
    obtain ⟨hk, rfl⟩ := h3
    exact ⟨rfl, To.err hk⟩
  | ok u =>
    obtain ⟨hk, rfl, hw⟩ := h3
    have K2 := Lib.hid (To.ok hk hw)
    clear hk hw
    go_wp2_with fail
    go_end0
    exact K2.out
set_option maxHeartbeats 1000000 in
set_option maxRecDepth 100000 in
theorem ask3_c (c : UInt8) (R : Nat) (s : Sc) (hk : s.k = 3) (x : Res) (w : World) (h : Wk R 47 (Octet c) s w) (hq : Calls Tryz.prog 41 #[.pointer (some ⟨R, 0, none⟩)] w (AskTo R c w x)) :
    Calls Tryz.prog 23 #[.pointer (some ⟨R, 0, none⟩)] w (AskTo R c w x) := by
  have c0 : w.cell? ⟨R, 0, none⟩ = some (.int .i64 3) := by have q := h.cells.1; rw [hk] at q; exact q
  clear h hk
  go_enter Tryz.func23, Tryz.ntmps23
  go_wp2_with fail
  refine hq.mono ?_
  intro e w2 h3
  clear hq
  cases x with
  | error n =>
    obtain ⟨hk, rfl⟩ := h3
    exact ⟨rfl, To.err hk⟩
  | ok u =>
    obtain ⟨hk, rfl, hw⟩ := h3
    have K2 := Lib.hid (To.ok hk hw)
    clear hk hw
    go_wp2_with fail
    go_end0
    exact K2.out
set_option maxHeartbeats 1000000 in
set_option maxRecDepth 100000 in
theorem ask4_c (c : UInt8) (R : Nat) (s : Sc) (hk : s.k = 4) (x : Res) (w : World) (h : Wk R 47 (Octet c) s w) (hq : Calls Tryz.prog 41 #[.pointer (some ⟨R, 0, none⟩)] w (AskTo R c w x)) :
    Calls Tryz.prog 23 #[.pointer (some ⟨R, 0, none⟩)] w (AskTo R c w x) := by
  have c0 : w.cell? ⟨R, 0, none⟩ = some (.int .i64 4) := by have q := h.cells.1; rw [hk] at q; exact q
  clear h hk
  go_enter Tryz.func23, Tryz.ntmps23
  go_wp2_with fail
  refine hq.mono ?_
  intro e w2 h3
  clear hq
  cases x with
  | error n =>
    obtain ⟨hk, rfl⟩ := h3
    exact ⟨rfl, To.err hk⟩
  | ok u =>
    obtain ⟨hk, rfl, hw⟩ := h3
    have K2 := Lib.hid (To.ok hk hw)
    clear hk hw
    go_wp2_with fail
    go_end0
    exact K2.out
set_option maxHeartbeats 1000000 in
set_option maxRecDepth 100000 in
theorem ask5_c (c : UInt8) (R : Nat) (s : Sc) (hk : s.k = 5) (x : Res) (w : World) (h : Wk R 47 (Octet c) s w) (hq : Calls Tryz.prog 42 #[.pointer (some ⟨R, 0, none⟩)] w (AskTo R c w x)) :
    Calls Tryz.prog 23 #[.pointer (some ⟨R, 0, none⟩)] w (AskTo R c w x) := by
  have c0 : w.cell? ⟨R, 0, none⟩ = some (.int .i64 5) := by have q := h.cells.1; rw [hk] at q; exact q
  clear h hk
  go_enter Tryz.func23, Tryz.ntmps23
  go_wp2_with fail
  refine hq.mono ?_
  intro e w2 h3
  clear hq
  cases x with
  | error n =>
    obtain ⟨hk, rfl⟩ := h3
    exact ⟨rfl, To.err hk⟩
  | ok u =>
    obtain ⟨hk, rfl, hw⟩ := h3
    have K2 := Lib.hid (To.ok hk hw)
    clear hk hw
    go_wp2_with fail
    go_end0
    exact K2.out
set_option maxHeartbeats 1000000 in
set_option maxRecDepth 100000 in
theorem ask6_c (c : UInt8) (R : Nat) (s : Sc) (hk : s.k = 6) (x : Res) (w : World) (h : Wk R 47 (Octet c) s w) (hq : Calls Tryz.prog 43 #[.pointer (some ⟨R, 0, none⟩)] w (AskTo R c w x)) :
    Calls Tryz.prog 23 #[.pointer (some ⟨R, 0, none⟩)] w (AskTo R c w x) := by
  have c0 : w.cell? ⟨R, 0, none⟩ = some (.int .i64 6) := by have q := h.cells.1; rw [hk] at q; exact q
  clear h hk
  go_enter Tryz.func23, Tryz.ntmps23
  go_wp2_with fail
  refine hq.mono ?_
  intro e w2 h3
  clear hq
  cases x with
  | error n =>
    obtain ⟨hk, rfl⟩ := h3
    exact ⟨rfl, To.err hk⟩
  | ok u =>
    obtain ⟨hk, rfl, hw⟩ := h3
    have K2 := Lib.hid (To.ok hk hw)
    clear hk hw
    go_wp2_with fail
    go_end0
    exact K2.out
set_option maxHeartbeats 1000000 in
set_option maxRecDepth 100000 in
theorem ask7_c (c : UInt8) (R : Nat) (s : Sc) (hk : s.k = 7) (x : Res) (w : World) (h : Wk R 47 (Octet c) s w) (hq : Calls Tryz.prog 44 #[.pointer (some ⟨R, 0, none⟩)] w (AskTo R c w x)) :
    Calls Tryz.prog 23 #[.pointer (some ⟨R, 0, none⟩)] w (AskTo R c w x) := by
  have c0 : w.cell? ⟨R, 0, none⟩ = some (.int .i64 7) := by have q := h.cells.1; rw [hk] at q; exact q
  clear h hk
  go_enter Tryz.func23, Tryz.ntmps23
  go_wp2_with fail
  refine hq.mono ?_
  intro e w2 h3
  clear hq
  cases x with
  | error n =>
    obtain ⟨hk, rfl⟩ := h3
    exact ⟨rfl, To.err hk⟩
  | ok u =>
    obtain ⟨hk, rfl, hw⟩ := h3
    have K2 := Lib.hid (To.ok hk hw)
    clear hk hw
    go_wp2_with fail
    go_end0
    exact K2.out
set_option maxHeartbeats 1000000 in
set_option maxRecDepth 100000 in
theorem ask8_c (c : UInt8) (R : Nat) (s : Sc) (hk : s.k = 8) (x : Res) (w : World) (h : Wk R 47 (Octet c) s w) (hq : Calls Tryz.prog 45 #[.pointer (some ⟨R, 0, none⟩)] w (AskTo R c w x)) :
    Calls Tryz.prog 23 #[.pointer (some ⟨R, 0, none⟩)] w (AskTo R c w x) := by
  have c0 : w.cell? ⟨R, 0, none⟩ = some (.int .i64 8) := by have q := h.cells.1; rw [hk] at q; exact q
  clear h hk
  go_enter Tryz.func23, Tryz.ntmps23
  go_wp2_with fail
  refine hq.mono ?_
  intro e w2 h3
  clear hq
  cases x with
  | error n =>
    obtain ⟨hk, rfl⟩ := h3
    exact ⟨rfl, To.err hk⟩
  | ok u =>
    obtain ⟨hk, rfl, hw⟩ := h3
    have K2 := Lib.hid (To.ok hk hw)
    clear hk hw
    go_wp2_with fail
    go_end0
    exact K2.out
set_option maxHeartbeats 1000000 in
set_option maxRecDepth 100000 in
theorem ask9_c (c : UInt8) (R : Nat) (s : Sc) (hk : s.k = 9) (x : Res) (w : World) (h : Wk R 47 (Octet c) s w) (hq : Calls Tryz.prog 46 #[.pointer (some ⟨R, 0, none⟩)] w (AskTo R c w x)) :
    Calls Tryz.prog 23 #[.pointer (some ⟨R, 0, none⟩)] w (AskTo R c w x) := by
  have c0 : w.cell? ⟨R, 0, none⟩ = some (.int .i64 9) := by have q := h.cells.1; rw [hk] at q; exact q
  clear h hk
  go_enter Tryz.func23, Tryz.ntmps23
  go_wp2_with fail
  refine hq.mono ?_
  intro e w2 h3
  clear hq
  cases x with
  | error n =>
    obtain ⟨hk, rfl⟩ := h3
    exact ⟨rfl, To.err hk⟩
  | ok u =>
    obtain ⟨hk, rfl, hw⟩ := h3
    have K2 := Lib.hid (To.ok hk hw)
    clear hk hw
    go_wp2_with fail
    go_end0
    exact K2.out
set_option maxHeartbeats 1000000 in
set_option maxRecDepth 100000 in
theorem ask10_c (c : UInt8) (R : Nat) (s : Sc) (hk : s.k = 10) (x : Res) (w : World) (h : Wk R 47 (Octet c) s w) (hq : Calls Tryz.prog 47 #[.pointer (some ⟨R, 0, none⟩)] w (AskTo R c w x)) :
    Calls Tryz.prog 23 #[.pointer (some ⟨R, 0, none⟩)] w (AskTo R c w x) := by
  have c0 : w.cell? ⟨R, 0, none⟩ = some (.int .i64 10) := by have q := h.cells.1; rw [hk] at q; exact q
  clear h hk
  go_enter Tryz.func23, Tryz.ntmps23
  go_wp2_with fail
  refine hq.mono ?_
  intro e w2 h3
  clear hq
  cases x with
  | error n =>
    obtain ⟨hk, rfl⟩ := h3
    exact ⟨rfl, To.err hk⟩
  | ok u =>
    obtain ⟨hk, rfl, hw⟩ := h3
    have K2 := Lib.hid (To.ok hk hw)
    clear hk hw
    go_wp2_with fail
    go_end0
    exact K2.out
set_option maxHeartbeats 1000000 in
set_option maxRecDepth 100000 in
theorem ask11_c (c : UInt8) (R : Nat) (s : Sc) (hk : s.k = 11) (x : Res) (w : World) (h : Wk R 47 (Octet c) s w) (hq : Calls Tryz.prog 42 #[.pointer (some ⟨R, 0, none⟩)] w (AskTo R c w x)) :
    Calls Tryz.prog 23 #[.pointer (some ⟨R, 0, none⟩)] w (AskTo R c w x) := by
  have c0 : w.cell? ⟨R, 0, none⟩ = some (.int .i64 11) := by have q := h.cells.1; rw [hk] at q; exact q
  clear h hk
  go_enter Tryz.func23, Tryz.ntmps23
  go_wp2_with fail
  refine hq.mono ?_
  intro e w2 h3
  clear hq
  cases x with
  | error n =>
    obtain ⟨hk, rfl⟩ := h3
    exact ⟨rfl, To.err hk⟩
  | ok u =>
    obtain ⟨hk, rfl, hw⟩ := h3
    have K2 := Lib.hid (To.ok hk hw)
    clear hk hw
    go_wp2_with fail
    go_end0
    exact K2.out
set_option maxHeartbeats 1000000 in
set_option maxRecDepth 100000 in
theorem ask12_c (c : UInt8) (R : Nat) (s : Sc) (hk : s.k = 12) (x : Res) (w : World) (h : Wk R 47 (Octet c) s w) (hq : Calls Tryz.prog 42 #[.pointer (some ⟨R, 0, none⟩)] w (AskTo R c w x)) :
    Calls Tryz.prog 23 #[.pointer (some ⟨R, 0, none⟩)] w (AskTo R c w x) := by
  have c0 : w.cell? ⟨R, 0, none⟩ = some (.int .i64 12) := by have q := h.cells.1; rw [hk] at q; exact q
  clear h hk
  go_enter Tryz.func23, Tryz.ntmps23
  go_wp2_with fail
  refine hq.mono ?_
  intro e w2 h3
  clear hq
  cases x with
  | error n =>
    obtain ⟨hk, rfl⟩ := h3
    exact ⟨rfl, To.err hk⟩
  | ok u =>
    obtain ⟨hk, rfl, hw⟩ := h3
    have K2 := Lib.hid (To.ok hk hw)
    clear hk hw
    go_wp2_with fail
    go_end0
    exact K2.out
set_option maxHeartbeats 1000000 in
set_option maxRecDepth 100000 in
theorem ask13_c (c : UInt8) (R : Nat) (s : Sc) (hk : s.k = 13) (x : Res) (w : World) (h : Wk R 47 (Octet c) s w) (hq : Calls Tryz.prog 48 #[.pointer (some ⟨R, 0, none⟩)] w (AskTo R c w x)) :
    Calls Tryz.prog 23 #[.pointer (some ⟨R, 0, none⟩)] w (AskTo R c w x) := by
  have c0 : w.cell? ⟨R, 0, none⟩ = some (.int .i64 13) := by have q := h.cells.1; rw [hk] at q; exact q
  clear h hk
  go_enter Tryz.func23, Tryz.ntmps23
  go_wp2_with fail
  refine hq.mono ?_
  intro e w2 h3
  clear hq
  cases x with
  | error n =>
    obtain ⟨hk, rfl⟩ := h3
    exact ⟨rfl, To.err hk⟩
  | ok u =>
    obtain ⟨hk, rfl, hw⟩ := h3
    have K2 := Lib.hid (To.ok hk hw)
    clear hk hw
    go_wp2_with fail
    go_end0
    exact K2.out
set_option maxHeartbeats 1000000 in
set_option maxRecDepth 100000 in
theorem ask14_c (c : UInt8) (R : Nat) (s : Sc) (hk : s.k = 14) (x : Res) (w : World) (h : Wk R 47 (Octet c) s w) (hq : Calls Tryz.prog 48 #[.pointer (some ⟨R, 0, none⟩)] w (AskTo R c w x)) :
    Calls Tryz.prog 23 #[.pointer (some ⟨R, 0, none⟩)] w (AskTo R c w x) := by
  have c0 : w.cell? ⟨R, 0, none⟩ = some (.int .i64 14) := by have q := h.cells.1; rw [hk] at q; exact q
  clear h hk
  go_enter Tryz.func23, Tryz.ntmps23
  go_wp2_with fail
  refine hq.mono ?_
  intro e w2 h3
  clear hq
  cases x with
  | error n =>
    obtain ⟨hk, rfl⟩ := h3
    exact ⟨rfl, To.err hk⟩
  | ok u =>
    obtain ⟨hk, rfl, hw⟩ := h3
    have K2 := Lib.hid (To.ok hk hw)
    clear hk hw
    go_wp2_with fail
    go_end0
    exact K2.out
set_option maxHeartbeats 1000000 in
set_option maxRecDepth 100000 in
theorem ask15_c (c : UInt8) (R : Nat) (s : Sc) (hk : s.k = 15) (x : Res) (w : World) (h : Wk R 47 (Octet c) s w) (hq : Calls Tryz.prog 49 #[.pointer (some ⟨R, 0, none⟩)] w (AskTo R c w x)) :
    Calls Tryz.prog 23 #[.pointer (some ⟨R, 0, none⟩)] w (AskTo R c w x) := by
  have c0 : w.cell? ⟨R, 0, none⟩ = some (.int .i64 15) := by have q := h.cells.1; rw [hk] at q; exact q
  clear h hk
  go_enter Tryz.func23, Tryz.ntmps23
  go_wp2_with fail
  refine hq.mono ?_
  intro e w2 h3
  clear hq
  cases x with
  | error n =>
    obtain ⟨hk, rfl⟩ := h3
    exact ⟨rfl, To.err hk⟩
  | ok u =>
    obtain ⟨hk, rfl, hw⟩ := h3
    have K2 := Lib.hid (To.ok hk hw)
    clear hk hw
    go_wp2_with fail
    go_end0
    exact K2.out
set_option maxHeartbeats 1000000 in
set_option maxRecDepth 100000 in
theorem ask16_c (c : UInt8) (R : Nat) (s : Sc) (hk : s.k = 16) (x : Res) (w : World) (h : Wk R 47 (Octet c) s w) (hq : Calls Tryz.prog 50 #[.pointer (some ⟨R, 0, none⟩)] w (AskTo R c w x)) :
    Calls Tryz.prog 23 #[.pointer (some ⟨R, 0, none⟩)] w (AskTo R c w x) := by
  have c0 : w.cell? ⟨R, 0, none⟩ = some (.int .i64 16) := by have q := h.cells.1; rw [hk] at q; exact q
  clear h hk
  go_enter Tryz.func23, Tryz.ntmps23
  go_wp2_with fail
  refine hq.mono ?_
  intro e w2 h3
  clear hq
  cases x with
  | error n =>
    obtain ⟨hk, rfl⟩ := h3
    exact ⟨rfl, To.err hk⟩
  | ok u =>
    obtain ⟨hk, rfl, hw⟩ := h3
    have K2 := Lib.hid (To.ok hk hw)
    clear hk hw
    go_wp2_with fail
    go_end0
    exact K2.out
set_option maxHeartbeats 1000000 in
set_option maxRecDepth 100000 in
theorem ask17_c (c : UInt8) (R : Nat) (s : Sc) (hk : s.k = 17) (x : Res) (w : World) (h : Wk R 47 (Octet c) s w) (hq : Calls Tryz.prog 51 #[.pointer (some ⟨R, 0, none⟩)] w (AskTo R c w x)) :
    Calls Tryz.prog 23 #[.pointer (some ⟨R, 0, none⟩)] w (AskTo R c w x) := by
  have c0 : w.cell? ⟨R, 0, none⟩ = some (.int .i64 17) := by have q := h.cells.1; rw [hk] at q; exact q
  clear h hk
  go_enter Tryz.func23, Tryz.ntmps23
  go_wp2_with fail
  refine hq.mono ?_
  intro e w2 h3
  clear hq
  cases x with
  | error n =>
    obtain ⟨hk, rfl⟩ := h3
    exact ⟨rfl, To.err hk⟩
  | ok u =>
    obtain ⟨hk, rfl, hw⟩ := h3
    have K2 := Lib.hid (To.ok hk hw)
    clear hk hw
    go_wp2_with fail
    go_end0
    exact K2.out
set_option maxHeartbeats 1000000 in
set_option maxRecDepth 100000 in
theorem ask18_c (c : UInt8) (R : Nat) (s : Sc) (hk : s.k = 18) (x : Res) (w : World) (h : Wk R 47 (Octet c) s w) (hq : Calls Tryz.prog 51 #[.pointer (some ⟨R, 0, none⟩)] w (AskTo R c w x)) :
    Calls Tryz.prog 23 #[.pointer (some ⟨R, 0, none⟩)] w (AskTo R c w x) := by
  have c0 : w.cell? ⟨R, 0, none⟩ = some (.int .i64 18) := by have q := h.cells.1; rw [hk] at q; exact q
  clear h hk
  go_enter Tryz.func23, Tryz.ntmps23
  go_wp2_with fail
  refine hq.mono ?_
  intro e w2 h3
  clear hq
  cases x with
  | error n =>
    obtain ⟨hk, rfl⟩ := h3
    exact ⟨rfl, To.err hk⟩
  | ok u =>
    obtain ⟨hk, rfl, hw⟩ := h3
    have K2 := Lib.hid (To.ok hk hw)
    clear hk hw
    go_wp2_with fail
    go_end0
    exact K2.out
set_option maxHeartbeats 1000000 in
set_option maxRecDepth 100000 in
theorem ask19_c (c : UInt8) (R : Nat) (s : Sc) (hk : s.k = 19) (x : Res) (w : World) (h : Wk R 47 (Octet c) s w) (hq : Calls Tryz.prog 51 #[.pointer (some ⟨R, 0, none⟩)] w (AskTo R c w x)) :
    Calls Tryz.prog 23 #[.pointer (some ⟨R, 0, none⟩)] w (AskTo R c w x) := by
  have c0 : w.cell? ⟨R, 0, none⟩ = some (.int .i64 19) := by have q := h.cells.1; rw [hk] at q; exact q
  clear h hk
  go_enter Tryz.func23, Tryz.ntmps23
  go_wp2_with fail
  refine hq.mono ?_
  intro e w2 h3
  clear hq
  cases x with
  | error n =>
    obtain ⟨hk, rfl⟩ := h3
    exact ⟨rfl, To.err hk⟩
  | ok u =>
    obtain ⟨hk, rfl, hw⟩ := h3
    have K2 := Lib.hid (To.ok hk hw)
    clear hk hw
    go_wp2_with fail
    go_end0
    exact K2.out

theorem ref_good {s u : Sc} {c : UInt8} {b : Bool} (hg : Scn.Good (s.n, s.w)) (g : refC s c = .ok (u, b)) : Scn.Good (u.n, u.w) := by
  have g0 : ∀ v, Scn.Good (v.n, v.w) → ref0 v c = .ok (u, b) → Scn.Good (u.n, u.w) := fun v hv q => by
    unfold ref0 at q
    split at q
    · injection q with q; injection q with q _; subst q; exact hv
    · injection q with q; injection q with q _; subst q; exact hv
  have gb : ∀ x f, thenB x f = .ok (u, b) → ∃ v, x = .ok v ∧ f v = .ok (u, b) := fun x f q => by
    cases x with
    | error e => cases q
    | ok v => exact ⟨v, rfl, q⟩
  unfold refC at g
  split at g
  · exact g0 _ hg g
  · split at g
    · injection g with g; injection g with g _; subst g; exact hg
    · split at g
      · obtain ⟨v, h1, h2⟩ := gb _ _ g
        injection h2 with h2; injection h2 with h2 _; subst h2
        exact (fol_good _ (s := { s with r := [] }) hg h1).1
      · obtain ⟨v, h1, h2⟩ := gb _ _ g
        exact g0 _ (fol_good _ (s := { s with r := [] }) hg h1).1 h2
abbrev RulesC (R : Nat) (c : UInt8) (u : Sc) : Prop := ∀ W, Wk R 47 (Octet c) u W → Calls Tryz.prog 82 #[.pointer (some ⟨R, 0, none⟩)] W fun e w' => e = .returned (.int .i64 (rulN u : Nat)) ∧ Below W.heap.size W w'
theorem rulesS_c (R : Nat) (c : UInt8) (u : Sc) : RulesC R c u := fun W g => by
  have q := rules_c u.e u.a R _ _ (u.k : Int) u.d (S u.p) (S u.r) u.n (S u.w) W g
  rw [rul_nat] at q
  exact q
abbrev DemC (R : Nat) (c : UInt8) (u : Sc) : Prop := ∀ W, Wk R 47 (Octet c) u W → Calls Tryz.prog 81 #[.pointer (some ⟨R, 0, none⟩), .int .i64 (rulN u : Nat)] W fun e w' => e = (match demS (rulN u) u with | .ok _ => .returned (.tuple #[]) | .error n => Fault (n : Int)) ∧ W = w'
theorem demC_c (R : Nat) (c : UInt8) (u : Sc) : DemC R c u := fun W g => demandFollowed_c (rulN u) R _ _ u W g
abbrev FolC (R : Nat) (c : UInt8) (u : Sc) : Prop := ∀ W, Wk R 47 (Octet c) u W → Calls Tryz.prog 83 #[.pointer (some ⟨R, 0, none⟩), .string (S [c])] W (To R 47 (Octet c) W (folS (rulN u) [c] u))
theorem folC_c (R : Nat) (c : UInt8) (u : Sc) (hg : Scn.Good (u.n, u.w)) : FolC R c u := fun W g => follow_c [c] (by simp) R _ _ u hg W g
abbrev SaidC (R : Nat) (c : UInt8) (u : Sc) : Prop := ∀ W, Wk R 47 (Octet c) u W → Calls Tryz.prog 84 #[.pointer (some ⟨R, 0, none⟩)] W fun e w' => e = .returned (.string (S [c])) ∧ Below W.heap.size W w'
theorem saidC_c (R : Nat) (c : UInt8) (u : Sc) : SaidC R c u := fun W g => said_c c R _ _ _ _ _ _ _ _ _ W g
theorem eq_oo (c d : UInt8) : ((c.toNat : Int) == (d.toNat : Int)) = decide (c = d) := by
  rw [Bool.eq_iff_iff, beq_iff_eq, decide_eq_true_iff, Int.natCast_inj, UInt8.toNat_inj]
set_option maxHeartbeats 1000000 in
set_option maxRecDepth 100000 in
theorem askValue_c (c : UInt8) (R : Nat) (s : Sc) (hr16 : s.r.length ≤ 16) (hg : Scn.Good (s.n, s.w)) (w : World) (h : Wk R 47 (Octet c) s w) :
    Calls Tryz.prog 46 #[.pointer (some ⟨R, 0, none⟩)] w (AskTo R c w (valC s c)) := by
  have hf := refers_c c R s hr16 hg w h
  have E : Hid (valC s c = thenR (refC s c) fun u b => if b = true then .ok u else if c = u.d then andThen (demS (rulN u) u) fun v => .ok (entS 11 v) else folS (rulN u) [c] u) := by show _ = _; rfl
  have HG : Hid (∀ u b, refC s c = .ok (u, b) → Scn.Good (u.n, u.w)) := fun u b g => ref_good hg g
  have HC : Hid (∀ u W, Wk R 47 (Octet c) u W → W.cell? ⟨R, 8, none⟩ = some (.int .u8 (c.toNat : Int)) ∧ W.cell? ⟨R, 3, none⟩ = some (.int .u8 (u.d.toNat : Int))) := fun u W g => ⟨g.last, g.cells.2.2.2.1⟩
  clear h hr16 hg
  generalize valC s c = res at E ⊢
  generalize refC s c = x at hf E HG
  go_enter Tryz.func46, Tryz.ntmps46
  go_wp2_with fail
  refine hf.mono ?_
  rintro e w1 ⟨hk, hx⟩
  clear hf
  cases x with
  | error n =>
    subst hx
    obtain rfl : res = .error n := E.out
    exact ⟨rfl, To.err hk⟩
  | ok p =>
    obtain ⟨u, b⟩ := p
    obtain ⟨rfl, hw⟩ := hx
    have E2 : Hid (res = if b = true then .ok u else if c = u.d then andThen (demS (rulN u) u) fun v => .ok (entS 11 v) else folS (rulN u) [c] u) := E.out
    have KU := Lib.hid (And.intro hw hk)
    have hgu := HG.out u b rfl
    have HFo := Lib.hid (folC_c R c u hgu)
    have HSd := Lib.hid (saidC_c R c u)
    have HRu := Lib.hid (rulesS_c R c u)
    have hde := demC_c R c u
    have hsm : ∀ v, demS (rulN u) u = .ok v → v = u := fun v g => dem_same g
    have HNx : Hid (∀ W, Wk R 47 (Octet c) u W → Calls Tryz.prog 72 #[.pointer (some ⟨R, 0, none⟩), .int .i64 11] W (To R 47 (Octet c) W (.ok (entS 11 u)))) :=
      fun W g => (enterS_c 11 11 rfl R _ _ u W g).mono fun _ _ ⟨he, hw, hk⟩ => ⟨hk, he, hw⟩
    obtain ⟨c8, c3⟩ := HC.out _ _ hw
    clear hw hk E HC HG hgu
    cases b with
    | true =>
      obtain rfl : res = .ok u := by have q := E2.out; rwa [if_pos rfl] at q
      go_wp2_with fail
      go_end0
      exact To.ok KU.out.2 KU.out.1
    | false =>
      have ed := eq_oo c u.d
      by_cases hd : c = u.d
      · have ER : Hid (res = andThen (demS (rulN u) u) fun v => .ok (entS 11 v)) := by have q := E2.out; rwa [if_neg (by simp), if_pos hd] at q
        rw [decide_eq_true hd] at ed
        clear E2 hd
        have HDe : Hid (∀ W, Wk R 47 (Octet c) u W → Calls Tryz.prog 81 #[.pointer (some ⟨R, 0, none⟩), .int .i64 (rulN u : Nat)] W fun e w' => e = (match demS (rulN u) u with | .ok _ => .returned (.tuple #[]) | .error n => Fault (n : Int)) ∧ W = w') := hde
        have HSm := Lib.hid hsm
        clear hde hsm
        generalize demS (rulN u) u = y at HDe HSm ER
        go_wp2_with fail
        go_quiet (fail)
        have KV := Lib.hid (And.intro (KU.out.1.keep (Oct.below_drewN (Below.refl _ w1) nq)) (KU.out.2.drewN nq))
        generalize w1.drewN nq = W1 at KV ⊢
        have KVd := Lib.hid (And.intro (KV.out.1.keep ((Below.refl _ _).drew)) (KV.out.2.trans (Keeps.of ((Below.refl _ _).drew))))
        cases y with
        | error n =>
          go_wp2_with fail
          refine wp_region_held_drew (S := (fun _ => True)) (by kernel_rfl) trivial (fun hHeld => ?_)
          refine wpAnyH_take (i := 0) (v := ?_) rfl (by kernel_rfl) (by kernel_rfl) (by kernel_rfl) (fun _ _ _ h => h) (Or.inl ⟨by rfl, ?_⟩) (by assumption) ?_
          rotate_left
          · intro w hSw
            try dsimp only at hSw
            go_simp
            try with_reducible rfl
          (try simp only [List.getElem_toArray, List.getElem_cons_zero, Act.put, List.setIfInBounds_toArray, List.set_cons_succ, List.set_cons_zero])
          refine wpAnyH_take (i := 1) (v := ?_) rfl (by kernel_rfl) (by kernel_rfl) (by kernel_rfl) (fun _ _ _ h => h) (Or.inl ⟨by rfl, ?_⟩) (by assumption) ?_
          rotate_left
          · intro w hSw
            try dsimp only at hSw
            go_simp
            try with_reducible rfl
          (try simp only [List.getElem_toArray, List.getElem_cons_succ, List.getElem_cons_zero, Act.put, List.setIfInBounds_toArray, List.set_cons_succ, List.set_cons_zero])
          refine wpAnyH_take (i := 2) (v := ?_) rfl (by kernel_rfl) (by kernel_rfl) (by kernel_rfl) (fun _ _ _ h => h) (Or.inl ⟨by rfl, ?_⟩) (by assumption) ?_
          rotate_left
          · intro w hSw
            try dsimp only at hSw
            go_simp
            try with_reducible rfl
          (try simp only [List.getElem_toArray, List.getElem_cons_succ, List.getElem_cons_zero, Act.put, List.setIfInBounds_toArray, List.set_cons_succ, List.set_cons_zero])
          refine wpAnyH_take (i := 3) (v := ?_) rfl (by kernel_rfl) (by kernel_rfl) (by kernel_rfl) (fun _ _ _ h => h) (Or.inl ⟨by rfl, ?_⟩) (by assumption) ?_
          rotate_left
          · intro w hSw
            try dsimp only at hSw
            go_simp
            try with_reducible rfl
          (try simp only [List.getElem_toArray, List.getElem_cons_succ, List.getElem_cons_zero, Act.put, List.setIfInBounds_toArray, List.set_cons_succ, List.set_cons_zero])
          refine wpAnyH_take (i := 4) (v := ?_) rfl (by kernel_rfl) (by kernel_rfl) (by kernel_rfl) (fun _ _ _ h => h) (Or.inl ⟨by rfl, ?_⟩) (by assumption) ?_
          rotate_left
          · intro w hSw
            try dsimp only at hSw
            go_simp
            try with_reducible rfl
          (try simp only [List.getElem_toArray, List.getElem_cons_succ, List.getElem_cons_zero, Act.put, List.setIfInBounds_toArray, List.set_cons_succ, List.set_cons_zero])
          refine wpAnyH_take (i := 5) (v := ?_) rfl (by kernel_rfl) (by kernel_rfl) (by kernel_rfl) (fun _ _ _ h => h) (Or.inl ⟨by rfl, ?_⟩) (by assumption) ?_
          rotate_left
          · intro w hSw
            try dsimp only at hSw
            go_simp
            try with_reducible rfl
          (try simp only [List.getElem_toArray, List.getElem_cons_succ, List.getElem_cons_zero, Act.put, List.setIfInBounds_toArray, List.set_cons_succ, List.set_cons_zero])
          refine wpAnyH_ready (rs := [6]) (by kernel_rfl) (by simp) ?_
          refine AllReadyH.cons rfl (fun K hK => ?_) AllReadyH.nil
          go_simp
          refine (HRu.out _ KVd.out.1).mono ?_
          rintro e w3 ⟨rfl, hb3⟩
          have K3 := Lib.hid (And.intro (KVd.out.1.keep hb3) (KVd.out.2.trans (Keeps.of hb3)))
          clear hb3
          refine hK.out _ _ (by exact trivial) (fun hHeld => ?_)
          clear hK K
          (try simp only [List.getElem_toArray, List.getElem_cons_succ, List.getElem_cons_zero, Act.put, List.setIfInBounds_toArray, List.set_cons_succ, List.set_cons_zero])
          refine wpAnyH_ready (rs := [7]) (by kernel_rfl) (by simp) ?_
          refine AllReadyH.cons rfl (fun K hK => ?_) AllReadyH.nil
          go_simp
          refine (HDe.out _ K3.out.1).mono ?_
          rintro e w4 ⟨he, rfl⟩
          subst he
          have q := To.err (T := 47) (tl := Octet c) (n := n) K3.out.2
          have er : res = .error n := ER.out
          rw [← er] at q
          exact ⟨rfl, q⟩
        | ok v =>
          obtain rfl := HSm.out v rfl
          have ER2 : Hid (res = .ok (entS 11 v)) := ER.out
          clear ER
          go_wp2_with fail
          refine wp_region_held_drew (S := (fun _ => True)) (by kernel_rfl) trivial (fun hHeld => ?_)
          refine wpAnyH_take (i := 0) (v := ?_) rfl (by kernel_rfl) (by kernel_rfl) (by kernel_rfl) (fun _ _ _ h => h) (Or.inl ⟨by rfl, ?_⟩) (by assumption) ?_
          rotate_left
          · intro w hSw
            try dsimp only at hSw
            go_simp
            try with_reducible rfl
          (try simp only [List.getElem_toArray, List.getElem_cons_zero, Act.put, List.setIfInBounds_toArray, List.set_cons_succ, List.set_cons_zero])
          refine wpAnyH_take (i := 1) (v := ?_) rfl (by kernel_rfl) (by kernel_rfl) (by kernel_rfl) (fun _ _ _ h => h) (Or.inl ⟨by rfl, ?_⟩) (by assumption) ?_
          rotate_left
          · intro w hSw
            try dsimp only at hSw
            go_simp
            try with_reducible rfl
          (try simp only [List.getElem_toArray, List.getElem_cons_succ, List.getElem_cons_zero, Act.put, List.setIfInBounds_toArray, List.set_cons_succ, List.set_cons_zero])
          refine wpAnyH_take (i := 2) (v := ?_) rfl (by kernel_rfl) (by kernel_rfl) (by kernel_rfl) (fun _ _ _ h => h) (Or.inl ⟨by rfl, ?_⟩) (by assumption) ?_
          rotate_left
          · intro w hSw
            try dsimp only at hSw
            go_simp
            try with_reducible rfl
          (try simp only [List.getElem_toArray, List.getElem_cons_succ, List.getElem_cons_zero, Act.put, List.setIfInBounds_toArray, List.set_cons_succ, List.set_cons_zero])
          refine wpAnyH_take (i := 3) (v := ?_) rfl (by kernel_rfl) (by kernel_rfl) (by kernel_rfl) (fun _ _ _ h => h) (Or.inl ⟨by rfl, ?_⟩) (by assumption) ?_
          rotate_left
          · intro w hSw
            try dsimp only at hSw
            go_simp
            try with_reducible rfl
          (try simp only [List.getElem_toArray, List.getElem_cons_succ, List.getElem_cons_zero, Act.put, List.setIfInBounds_toArray, List.set_cons_succ, List.set_cons_zero])
          refine wpAnyH_take (i := 4) (v := ?_) rfl (by kernel_rfl) (by kernel_rfl) (by kernel_rfl) (fun _ _ _ h => h) (Or.inl ⟨by rfl, ?_⟩) (by assumption) ?_
          rotate_left
          · intro w hSw
            try dsimp only at hSw
            go_simp
            try with_reducible rfl
          (try simp only [List.getElem_toArray, List.getElem_cons_succ, List.getElem_cons_zero, Act.put, List.setIfInBounds_toArray, List.set_cons_succ, List.set_cons_zero])
          refine wpAnyH_take (i := 5) (v := ?_) rfl (by kernel_rfl) (by kernel_rfl) (by kernel_rfl) (fun _ _ _ h => h) (Or.inl ⟨by rfl, ?_⟩) (by assumption) ?_
          rotate_left
          · intro w hSw
            try dsimp only at hSw
            go_simp
            try with_reducible rfl
          (try simp only [List.getElem_toArray, List.getElem_cons_succ, List.getElem_cons_zero, Act.put, List.setIfInBounds_toArray, List.set_cons_succ, List.set_cons_zero])
          refine wpAnyH_ready (rs := [6]) (by kernel_rfl) (by simp) ?_
          refine AllReadyH.cons rfl (fun K hK => ?_) AllReadyH.nil
          go_simp
          refine (HRu.out _ KVd.out.1).mono ?_
          rintro e w3 ⟨rfl, hb3⟩
          have K3 := Lib.hid (And.intro (KVd.out.1.keep hb3) (KVd.out.2.trans (Keeps.of hb3)))
          clear hb3
          refine hK.out _ _ (by exact trivial) (fun hHeld => ?_)
          clear hK K
          (try simp only [List.getElem_toArray, List.getElem_cons_succ, List.getElem_cons_zero, Act.put, List.setIfInBounds_toArray, List.set_cons_succ, List.set_cons_zero])
          refine wpAnyH_ready (rs := [7]) (by kernel_rfl) (by simp) ?_
          refine AllReadyH.cons rfl (fun K hK => ?_) AllReadyH.nil
          go_simp
          refine (HDe.out _ K3.out.1).mono ?_
          rintro e w4 ⟨he, rfl⟩
          subst he
          refine hK.out _ _ (by exact trivial) (fun hHeld => ?_)
          clear hK K
          (try simp only [List.getElem_toArray, List.getElem_cons_succ, List.getElem_cons_zero, Act.put, List.setIfInBounds_toArray, List.set_cons_succ, List.set_cons_zero])
          refine wpAnyH_done (by kernel_rfl) ?_ _
          go_wp2_with fail
          refine (HNx.out _ K3.out.1).mono ?_
          intro e w5 h5
          have h7 := To.trans K3.out.2 h5
          clear h5
          rw [← ER2.out] at h7
          cases res with
          | error n =>
            obtain ⟨hk, rfl⟩ := h7
            exact ⟨rfl, To.err hk⟩
          | ok v' =>
            obtain ⟨hk, rfl, hw⟩ := h7
            have K7 := Lib.hid (To.ok hk hw)
            clear hk hw
            go_wp2_with fail
            go_end0
            exact K7.out
      · have ER : Hid (res = folS (rulN u) [c] u) := by have q := E2.out; rwa [if_neg (by simp), if_neg hd] at q
        rw [decide_eq_false hd] at ed
        clear E2 hd hde hsm HNx
        go_wp2_with fail
        go_quiet (fail)
        have KV := Lib.hid (And.intro (KU.out.1.keep (Oct.below_drewN (Below.refl _ w1) nq)) (KU.out.2.drewN nq))
        generalize w1.drewN nq = W1 at KV ⊢
        have KVd := Lib.hid (And.intro (KV.out.1.keep ((Below.refl _ _).drew)) (KV.out.2.trans (Keeps.of ((Below.refl _ _).drew))))
        cases res with
        | error n =>
          go_wp2_with fail
          refine wp_region_held_drew (S := (fun _ => True)) (by kernel_rfl) trivial (fun hHeld => ?_)
          refine wpAnyH_take (i := 0) (v := ?_) rfl (by kernel_rfl) (by kernel_rfl) (by kernel_rfl) (fun _ _ _ h => h) (Or.inl ⟨by rfl, ?_⟩) (by assumption) ?_
          rotate_left
          · intro w hSw
            try dsimp only at hSw
            go_simp
            try with_reducible rfl
          (try simp only [List.getElem_toArray, List.getElem_cons_zero, Act.put, List.setIfInBounds_toArray, List.set_cons_succ, List.set_cons_zero])
          refine wpAnyH_take (i := 1) (v := ?_) rfl (by kernel_rfl) (by kernel_rfl) (by kernel_rfl) (fun _ _ _ h => h) (Or.inl ⟨by rfl, ?_⟩) (by assumption) ?_
          rotate_left
          · intro w hSw
            try dsimp only at hSw
            go_simp
            try with_reducible rfl
          (try simp only [List.getElem_toArray, List.getElem_cons_succ, List.getElem_cons_zero, Act.put, List.setIfInBounds_toArray, List.set_cons_succ, List.set_cons_zero])
          refine wpAnyH_take (i := 2) (v := ?_) rfl (by kernel_rfl) (by kernel_rfl) (by kernel_rfl) (fun _ _ _ h => h) (Or.inl ⟨by rfl, ?_⟩) (by assumption) ?_
          rotate_left
          · intro w hSw
            try dsimp only at hSw
            go_simp
            try with_reducible rfl
          (try simp only [List.getElem_toArray, List.getElem_cons_succ, List.getElem_cons_zero, Act.put, List.setIfInBounds_toArray, List.set_cons_succ, List.set_cons_zero])
          refine wpAnyH_take (i := 3) (v := ?_) rfl (by kernel_rfl) (by kernel_rfl) (by kernel_rfl) (fun _ _ _ h => h) (Or.inl ⟨by rfl, ?_⟩) (by assumption) ?_
          rotate_left
          · intro w hSw
            try dsimp only at hSw
            go_simp
            try with_reducible rfl
          (try simp only [List.getElem_toArray, List.getElem_cons_succ, List.getElem_cons_zero, Act.put, List.setIfInBounds_toArray, List.set_cons_succ, List.set_cons_zero])
          refine wpAnyH_ready (rs := [4]) (by kernel_rfl) (by simp) ?_
          refine AllReadyH.cons rfl (fun K hK => ?_) AllReadyH.nil
          go_simp
          refine (HSd.out _ KVd.out.1).mono ?_
          rintro e w5 ⟨rfl, hb5⟩
          have K5 := Lib.hid (And.intro (KVd.out.1.keep hb5) (KVd.out.2.trans (Keeps.of hb5)))
          clear hb5
          refine hK.out _ _ (by exact trivial) (fun hHeld => ?_)
          clear hK K
          (try simp only [List.getElem_toArray, List.getElem_cons_succ, List.getElem_cons_zero, Act.put, List.setIfInBounds_toArray, List.set_cons_succ, List.set_cons_zero])
          refine wpAnyH_ready (rs := [5]) (by kernel_rfl) (by simp) ?_
          refine AllReadyH.cons rfl (fun K hK => ?_) AllReadyH.nil
          go_simp
          refine (HFo.out _ K5.out.1).mono ?_
          rintro e w6 h6
          have h7 := To.trans K5.out.2 h6
          clear h6
          rw [← ER.out] at h7
          obtain ⟨hk, rfl⟩ := h7
          exact ⟨rfl, To.err hk⟩
        | ok v =>
          go_wp2_with fail
          refine wp_region_held_drew (S := (fun _ => True)) (by kernel_rfl) trivial (fun hHeld => ?_)
          refine wpAnyH_take (i := 0) (v := ?_) rfl (by kernel_rfl) (by kernel_rfl) (by kernel_rfl) (fun _ _ _ h => h) (Or.inl ⟨by rfl, ?_⟩) (by assumption) ?_
          rotate_left
          · intro w hSw
            try dsimp only at hSw
            go_simp
            try with_reducible rfl
          (try simp only [List.getElem_toArray, List.getElem_cons_zero, Act.put, List.setIfInBounds_toArray, List.set_cons_succ, List.set_cons_zero])
          refine wpAnyH_take (i := 1) (v := ?_) rfl (by kernel_rfl) (by kernel_rfl) (by kernel_rfl) (fun _ _ _ h => h) (Or.inl ⟨by rfl, ?_⟩) (by assumption) ?_
          rotate_left
          · intro w hSw
            try dsimp only at hSw
            go_simp
            try with_reducible rfl
          (try simp only [List.getElem_toArray, List.getElem_cons_succ, List.getElem_cons_zero, Act.put, List.setIfInBounds_toArray, List.set_cons_succ, List.set_cons_zero])
          refine wpAnyH_take (i := 2) (v := ?_) rfl (by kernel_rfl) (by kernel_rfl) (by kernel_rfl) (fun _ _ _ h => h) (Or.inl ⟨by rfl, ?_⟩) (by assumption) ?_
          rotate_left
          · intro w hSw
            try dsimp only at hSw
            go_simp
            try with_reducible rfl
          (try simp only [List.getElem_toArray, List.getElem_cons_succ, List.getElem_cons_zero, Act.put, List.setIfInBounds_toArray, List.set_cons_succ, List.set_cons_zero])
          refine wpAnyH_take (i := 3) (v := ?_) rfl (by kernel_rfl) (by kernel_rfl) (by kernel_rfl) (fun _ _ _ h => h) (Or.inl ⟨by rfl, ?_⟩) (by assumption) ?_
          rotate_left
          · intro w hSw
            try dsimp only at hSw
            go_simp
            try with_reducible rfl
          (try simp only [List.getElem_toArray, List.getElem_cons_succ, List.getElem_cons_zero, Act.put, List.setIfInBounds_toArray, List.set_cons_succ, List.set_cons_zero])
          refine wpAnyH_ready (rs := [4]) (by kernel_rfl) (by simp) ?_
          refine AllReadyH.cons rfl (fun K hK => ?_) AllReadyH.nil
          go_simp
          refine (HSd.out _ KVd.out.1).mono ?_
          rintro e w5 ⟨rfl, hb5⟩
          have K5 := Lib.hid (And.intro (KVd.out.1.keep hb5) (KVd.out.2.trans (Keeps.of hb5)))
          clear hb5
          refine hK.out _ _ (by exact trivial) (fun hHeld => ?_)
          clear hK K
          (try simp only [List.getElem_toArray, List.getElem_cons_succ, List.getElem_cons_zero, Act.put, List.setIfInBounds_toArray, List.set_cons_succ, List.set_cons_zero])
          refine wpAnyH_ready (rs := [5]) (by kernel_rfl) (by simp) ?_
          refine AllReadyH.cons rfl (fun K hK => ?_) AllReadyH.nil
          go_simp
          refine (HFo.out _ K5.out.1).mono ?_
          rintro e w6 h6
          have h7 := To.trans K5.out.2 h6
          clear h6
          rw [← ER.out] at h7
          obtain ⟨hk, rfl, hw⟩ := h7
          have K7 := Lib.hid (To.ok hk hw)
          clear hk hw
          refine hK.out _ _ (by exact trivial) (fun hHeld => ?_)
          clear hK K
          (try simp only [List.getElem_toArray, List.getElem_cons_succ, List.getElem_cons_zero, Act.put, List.setIfInBounds_toArray, List.set_cons_succ, List.set_cons_zero])
          refine wpAnyH_done (by kernel_rfl) ?_ _
          go_wp2_with fail
          go_end0
          exact K7.out
set_option maxHeartbeats 1000000 in
set_option maxRecDepth 100000 in
theorem askUnquoted_c (c : UInt8) (R : Nat) (s : Sc) (hr16 : s.r.length ≤ 16) (hg : Scn.Good (s.n, s.w)) (w : World) (h : Wk R 47 (Octet c) s w) :
    Calls Tryz.prog 47 #[.pointer (some ⟨R, 0, none⟩)] w (AskTo R c w (barC s c)) := by
  have c8 := h.last
  have e62 : ((c.toNat : Int) == 62) = decide (c = 62) := eq_u8 c 62 (by decide)
  have hbl : ∀ w, Calls Tryz.prog 79 #[.int .u8 (c.toNat : Int)] w fun e w' => e = .returned (.bool (blB c)) ∧ w = w' := fun w => blank_c (c.toNat : Int) w
  have hdo := demandOpen_c s.e R _ _ _ _ _ _ _ _ _ w h
  by_cases h91 : c = 62 ∧ elemN s.e = 4
  · have er : barC s c = .error 91 := by unfold barC; rw [if_pos h91]
    rw [er]
    rw [decide_eq_true h91.1] at e62
    rw [if_pos h91.2] at hdo
    clear er h91 hbl h
    go_enter Tryz.func47, Tryz.ntmps47
    go_wp2_with fail
    refine hdo.mono ?_
    rintro e w1 ⟨rfl, hb⟩
    exact ⟨rfl, To.err (Keeps.of hb)⟩
  have E : Hid (barC s c = thenR (refC s c) fun u b => if b = true then .ok u else if blB c = true then andThen (demS (rulN u) u) fun v => .ok (entS 5 v) else if c = 62 then andThen (demS (rulN u) u) fun v => endS v.e else folS (rulN u) [c] u) := by
    show _ = _
    unfold barC
    rw [if_neg h91]
  have HF : Hid (∀ W, Below w.heap.size w W → Calls Tryz.prog 71 #[.pointer (some ⟨R, 0, none⟩)] W (RefTo R c W (refC s c))) := fun W hb => refers_c c R s hr16 hg W (h.keep hb)
  have HG : Hid (∀ u b, refC s c = .ok (u, b) → Scn.Good (u.n, u.w)) := fun u b g => ref_good hg g
  have HC : Hid (∀ u W, Wk R 47 (Octet c) u W → W.cell? ⟨R, 8, none⟩ = some (.int .u8 (c.toNat : Int))) := fun u W g => g.last
  have Hdo : Hid (c = 62 → Calls Tryz.prog 85 #[.pointer (some ⟨R, 0, none⟩)] w fun e w' => e = .returned (.tuple #[]) ∧ Below w.heap.size w w') := fun h62 => by
    have h4 : ¬ elemN s.e = 4 := fun g => h91 ⟨h62, g⟩
    rw [if_neg h4] at hdo
    exact hdo
  have HBl := Lib.hid hbl
  clear h hr16 hg hdo h91 hbl
  generalize barC s c = res at E ⊢
  generalize refC s c = x at HF E HG
  by_cases h62 : c = 62
  · have hdo := Hdo.out h62
    rw [decide_eq_true h62] at e62
    have hbl62 : blB c = false := by rw [h62]; decide
    have E1 : Hid (res = thenR x fun u b => if b = true then .ok u else andThen (demS (rulN u) u) fun v => endS v.e) := by
      have q := E.out
      simp only [hbl62, if_pos h62, Bool.false_eq_true, if_false] at q
      exact q
    clear E Hdo h62
    go_enter Tryz.func47, Tryz.ntmps47
    go_wp2_with fail
    refine hdo.mono ?_
    rintro e w0 ⟨rfl, hb0⟩
    have hf := HF.out _ hb0
    have B0 := Lib.hid hb0
    clear hb0 hdo HF c8
    go_wp2_with fail
    refine hf.mono ?_
    rintro e w1 ⟨hk, hx⟩
    clear hf
    cases x with
    | error n =>
      subst hx
      obtain rfl : res = .error n := E1.out
      exact ⟨rfl, To.err ((Keeps.of B0.out).trans hk)⟩
    | ok p =>
      obtain ⟨u, b⟩ := p
      obtain ⟨rfl, hw⟩ := hx
      have KU := Lib.hid (And.intro hw ((Keeps.of B0.out).trans hk))
      have hgu := HG.out u b rfl
      have HFo := Lib.hid (folC_c R c u hgu)
      have HSd := Lib.hid (saidC_c R c u)
      have HRu := Lib.hid (rulesS_c R c u)
      have hde := demC_c R c u
      have hsm : ∀ v, demS (rulN u) u = .ok v → v = u := fun v g => dem_same g
      have d8 := HC.out _ _ hw
      have HNx0 : Hid (∀ W, Wk R 47 (Octet c) u W → Calls Tryz.prog 72 #[.pointer (some ⟨R, 0, none⟩), .int .i64 5] W (To R 47 (Octet c) W (.ok (entS 5 u)))) :=
        fun W g => (enterS_c 5 5 rfl R _ _ u W g).mono fun _ _ ⟨he, hw, hk⟩ => ⟨hk, he, hw⟩
      have HNx1 : Hid (∀ W, Wk R 47 (Octet c) u W → Calls Tryz.prog 80 #[.pointer (some ⟨R, 0, none⟩)] W (To R 47 (Octet c) W (endS u.e))) :=
        fun W g => leaveTag_c R _ _ u W g
      clear hw hk HC HG hgu 
      cases b with
      | true =>
        obtain rfl : res = .ok u := E1.out
        go_wp2_with fail
        go_end0
        exact To.ok KU.out.2 KU.out.1
      | false =>
        have ER : Hid (res = andThen (demS (rulN u) u) fun v => endS v.e) := E1.out
        have HDe : Hid (∀ W, Wk R 47 (Octet c) u W → Calls Tryz.prog 81 #[.pointer (some ⟨R, 0, none⟩), .int .i64 (rulN u : Nat)] W fun e w' => e = (match demS (rulN u) u with | .ok _ => .returned (.tuple #[]) | .error n => Fault (n : Int)) ∧ W = w') := hde
        have HSm := Lib.hid hsm
        have HNx := HNx1
        have hbl := HBl.out
        rw [hbl62] at hbl
        clear hde hsm E1 HNx0 HNx1 hbl62 HBl
        generalize demS (rulN u) u = y at HDe HSm ER
        go_wp2_with fail
        refine (hbl _).mono ?_
        rintro e w2 ⟨rfl, rfl⟩
        clear hbl
        have KUd := Lib.hid (And.intro (KU.out.1.keep ((Below.refl _ _).drew)) (KU.out.2.trans (Keeps.of ((Below.refl _ _).drew))))
        cases y with
        | error n =>
          go_wp2_with fail
          refine wp_region_held_drew (S := (fun _ => True)) (by kernel_rfl) trivial (fun hHeld => ?_)
          refine wpAnyH_take (i := 0) (v := ?_) rfl (by kernel_rfl) (by kernel_rfl) (by kernel_rfl) (fun _ _ _ h => h) (Or.inl ⟨by rfl, ?_⟩) (by assumption) ?_
          rotate_left
          · intro w hSw
            try dsimp only at hSw
            go_simp
            try with_reducible rfl
          (try simp only [List.getElem_toArray, List.getElem_cons_zero, Act.put, List.setIfInBounds_toArray, List.set_cons_succ, List.set_cons_zero])
          refine wpAnyH_take (i := 1) (v := ?_) rfl (by kernel_rfl) (by kernel_rfl) (by kernel_rfl) (fun _ _ _ h => h) (Or.inl ⟨by rfl, ?_⟩) (by assumption) ?_
          rotate_left
          · intro w hSw
            try dsimp only at hSw
            go_simp
            try with_reducible rfl
          (try simp only [List.getElem_toArray, List.getElem_cons_succ, List.getElem_cons_zero, Act.put, List.setIfInBounds_toArray, List.set_cons_succ, List.set_cons_zero])
          refine wpAnyH_take (i := 2) (v := ?_) rfl (by kernel_rfl) (by kernel_rfl) (by kernel_rfl) (fun _ _ _ h => h) (Or.inl ⟨by rfl, ?_⟩) (by assumption) ?_
          rotate_left
          · intro w hSw
            try dsimp only at hSw
            go_simp
            try with_reducible rfl
          (try simp only [List.getElem_toArray, List.getElem_cons_succ, List.getElem_cons_zero, Act.put, List.setIfInBounds_toArray, List.set_cons_succ, List.set_cons_zero])
          refine wpAnyH_take (i := 3) (v := ?_) rfl (by kernel_rfl) (by kernel_rfl) (by kernel_rfl) (fun _ _ _ h => h) (Or.inl ⟨by rfl, ?_⟩) (by assumption) ?_
          rotate_left
          · intro w hSw
            try dsimp only at hSw
            go_simp
            try with_reducible rfl
          (try simp only [List.getElem_toArray, List.getElem_cons_succ, List.getElem_cons_zero, Act.put, List.setIfInBounds_toArray, List.set_cons_succ, List.set_cons_zero])
          refine wpAnyH_take (i := 4) (v := ?_) rfl (by kernel_rfl) (by kernel_rfl) (by kernel_rfl) (fun _ _ _ h => h) (Or.inl ⟨by rfl, ?_⟩) (by assumption) ?_
          rotate_left
          · intro w hSw
            try dsimp only at hSw
            go_simp
            try with_reducible rfl
          (try simp only [List.getElem_toArray, List.getElem_cons_succ, List.getElem_cons_zero, Act.put, List.setIfInBounds_toArray, List.set_cons_succ, List.set_cons_zero])
          refine wpAnyH_take (i := 5) (v := ?_) rfl (by kernel_rfl) (by kernel_rfl) (by kernel_rfl) (fun _ _ _ h => h) (Or.inl ⟨by rfl, ?_⟩) (by assumption) ?_
          rotate_left
          · intro w hSw
            try dsimp only at hSw
            go_simp
            try with_reducible rfl
          (try simp only [List.getElem_toArray, List.getElem_cons_succ, List.getElem_cons_zero, Act.put, List.setIfInBounds_toArray, List.set_cons_succ, List.set_cons_zero])
          refine wpAnyH_ready (rs := [6]) (by kernel_rfl) (by simp) ?_
          refine AllReadyH.cons rfl (fun K hK => ?_) AllReadyH.nil
          go_simp
          refine (HRu.out _ KUd.out.1).mono ?_
          rintro e w3 ⟨rfl, hb3⟩
          have K3 := Lib.hid (And.intro (KUd.out.1.keep hb3) (KUd.out.2.trans (Keeps.of hb3)))
          clear hb3
          refine hK.out _ _ (by exact trivial) (fun hHeld => ?_)
          clear hK K
          (try simp only [List.getElem_toArray, List.getElem_cons_succ, List.getElem_cons_zero, Act.put, List.setIfInBounds_toArray, List.set_cons_succ, List.set_cons_zero])
          refine wpAnyH_ready (rs := [7]) (by kernel_rfl) (by simp) ?_
          refine AllReadyH.cons rfl (fun K hK => ?_) AllReadyH.nil
          go_simp
          refine (HDe.out _ K3.out.1).mono ?_
          rintro e w4 ⟨he, rfl⟩
          subst he
          have q := To.err (T := 47) (tl := Octet c) (n := n) K3.out.2
          have er : res = .error n := ER.out
          rw [← er] at q
          exact ⟨rfl, q⟩
        | ok v =>
          obtain rfl := HSm.out v rfl
          have ER2 : Hid (res = endS v.e) := ER.out
          clear ER
          go_wp2_with fail
          refine wp_region_held_drew (S := (fun _ => True)) (by kernel_rfl) trivial (fun hHeld => ?_)
          refine wpAnyH_take (i := 0) (v := ?_) rfl (by kernel_rfl) (by kernel_rfl) (by kernel_rfl) (fun _ _ _ h => h) (Or.inl ⟨by rfl, ?_⟩) (by assumption) ?_
          rotate_left
          · intro w hSw
            try dsimp only at hSw
            go_simp
            try with_reducible rfl
          (try simp only [List.getElem_toArray, List.getElem_cons_zero, Act.put, List.setIfInBounds_toArray, List.set_cons_succ, List.set_cons_zero])
          refine wpAnyH_take (i := 1) (v := ?_) rfl (by kernel_rfl) (by kernel_rfl) (by kernel_rfl) (fun _ _ _ h => h) (Or.inl ⟨by rfl, ?_⟩) (by assumption) ?_
          rotate_left
          · intro w hSw
            try dsimp only at hSw
            go_simp
            try with_reducible rfl
          (try simp only [List.getElem_toArray, List.getElem_cons_succ, List.getElem_cons_zero, Act.put, List.setIfInBounds_toArray, List.set_cons_succ, List.set_cons_zero])
          refine wpAnyH_take (i := 2) (v := ?_) rfl (by kernel_rfl) (by kernel_rfl) (by kernel_rfl) (fun _ _ _ h => h) (Or.inl ⟨by rfl, ?_⟩) (by assumption) ?_
          rotate_left
          · intro w hSw
            try dsimp only at hSw
            go_simp
            try with_reducible rfl
          (try simp only [List.getElem_toArray, List.getElem_cons_succ, List.getElem_cons_zero, Act.put, List.setIfInBounds_toArray, List.set_cons_succ, List.set_cons_zero])
          refine wpAnyH_take (i := 3) (v := ?_) rfl (by kernel_rfl) (by kernel_rfl) (by kernel_rfl) (fun _ _ _ h => h) (Or.inl ⟨by rfl, ?_⟩) (by assumption) ?_
          rotate_left
          · intro w hSw
            try dsimp only at hSw
            go_simp
            try with_reducible rfl
          (try simp only [List.getElem_toArray, List.getElem_cons_succ, List.getElem_cons_zero, Act.put, List.setIfInBounds_toArray, List.set_cons_succ, List.set_cons_zero])
          refine wpAnyH_take (i := 4) (v := ?_) rfl (by kernel_rfl) (by kernel_rfl) (by kernel_rfl) (fun _ _ _ h => h) (Or.inl ⟨by rfl, ?_⟩) (by assumption) ?_
          rotate_left
          · intro w hSw
            try dsimp only at hSw
            go_simp
            try with_reducible rfl
          (try simp only [List.getElem_toArray, List.getElem_cons_succ, List.getElem_cons_zero, Act.put, List.setIfInBounds_toArray, List.set_cons_succ, List.set_cons_zero])
          refine wpAnyH_take (i := 5) (v := ?_) rfl (by kernel_rfl) (by kernel_rfl) (by kernel_rfl) (fun _ _ _ h => h) (Or.inl ⟨by rfl, ?_⟩) (by assumption) ?_
          rotate_left
          · intro w hSw
            try dsimp only at hSw
            go_simp
            try with_reducible rfl
          (try simp only [List.getElem_toArray, List.getElem_cons_succ, List.getElem_cons_zero, Act.put, List.setIfInBounds_toArray, List.set_cons_succ, List.set_cons_zero])
          refine wpAnyH_ready (rs := [6]) (by kernel_rfl) (by simp) ?_
          refine AllReadyH.cons rfl (fun K hK => ?_) AllReadyH.nil
          go_simp
          refine (HRu.out _ KUd.out.1).mono ?_
          rintro e w3 ⟨rfl, hb3⟩
          have K3 := Lib.hid (And.intro (KUd.out.1.keep hb3) (KUd.out.2.trans (Keeps.of hb3)))
          clear hb3
          refine hK.out _ _ (by exact trivial) (fun hHeld => ?_)
          clear hK K
          (try simp only [List.getElem_toArray, List.getElem_cons_succ, List.getElem_cons_zero, Act.put, List.setIfInBounds_toArray, List.set_cons_succ, List.set_cons_zero])
          refine wpAnyH_ready (rs := [7]) (by kernel_rfl) (by simp) ?_
          refine AllReadyH.cons rfl (fun K hK => ?_) AllReadyH.nil
          go_simp
          refine (HDe.out _ K3.out.1).mono ?_
          rintro e w4 ⟨he, rfl⟩
          subst he
          refine hK.out _ _ (by exact trivial) (fun hHeld => ?_)
          clear hK K
          (try simp only [List.getElem_toArray, List.getElem_cons_succ, List.getElem_cons_zero, Act.put, List.setIfInBounds_toArray, List.set_cons_succ, List.set_cons_zero])
          refine wpAnyH_done (by kernel_rfl) ?_ _
          go_wp2_with fail
          refine (HNx.out _ K3.out.1).mono ?_
          intro e w5 h5
          have h7 := To.trans K3.out.2 h5
          clear h5
          rw [← ER2.out] at h7
          cases res with
          | error n =>
            obtain ⟨hk, rfl⟩ := h7
            exact ⟨rfl, To.err hk⟩
          | ok v' =>
            obtain ⟨hk, rfl, hw⟩ := h7
            have K7 := Lib.hid (To.ok hk hw)
            clear hk hw
            go_wp2_with fail
            go_end0
            exact K7.out
  · rw [decide_eq_false h62] at e62
    have E1 : Hid (res = thenR x fun u b => if b = true then .ok u else if blB c = true then andThen (demS (rulN u) u) fun v => .ok (entS 5 v) else folS (rulN u) [c] u) := by
      have q := E.out
      simp only [if_neg h62] at q
      exact q
    have hf := HF.out _ (Below.refl _ w)
    have B0 := Lib.hid (Below.refl w.heap.size w)
    clear E Hdo h62 HF
    go_enter Tryz.func47, Tryz.ntmps47
    go_wp2_with fail
    refine hf.mono ?_
    rintro e w1 ⟨hk, hx⟩
    clear hf
    cases x with
    | error n =>
      subst hx
      obtain rfl : res = .error n := E1.out
      exact ⟨rfl, To.err ((Keeps.of B0.out).trans hk)⟩
    | ok p =>
      obtain ⟨u, b⟩ := p
      obtain ⟨rfl, hw⟩ := hx
      have KU := Lib.hid (And.intro hw ((Keeps.of B0.out).trans hk))
      have hgu := HG.out u b rfl
      have HFo := Lib.hid (folC_c R c u hgu)
      have HSd := Lib.hid (saidC_c R c u)
      have HRu := Lib.hid (rulesS_c R c u)
      have hde := demC_c R c u
      have hsm : ∀ v, demS (rulN u) u = .ok v → v = u := fun v g => dem_same g
      have d8 := HC.out _ _ hw
      have HNx0 : Hid (∀ W, Wk R 47 (Octet c) u W → Calls Tryz.prog 72 #[.pointer (some ⟨R, 0, none⟩), .int .i64 5] W (To R 47 (Octet c) W (.ok (entS 5 u)))) :=
        fun W g => (enterS_c 5 5 rfl R _ _ u W g).mono fun _ _ ⟨he, hw, hk⟩ => ⟨hk, he, hw⟩
      have HNx1 : Hid (∀ W, Wk R 47 (Octet c) u W → Calls Tryz.prog 80 #[.pointer (some ⟨R, 0, none⟩)] W (To R 47 (Octet c) W (endS u.e))) :=
        fun W g => leaveTag_c R _ _ u W g
      clear hw hk HC HG hgu c8
      cases b with
      | true =>
        obtain rfl : res = .ok u := E1.out
        go_wp2_with fail
        go_end0
        exact To.ok KU.out.2 KU.out.1
      | false =>
        have hbl := HBl.out
        by_cases hb : blB c = true
        · have ER : Hid (res = andThen (demS (rulN u) u) fun v => .ok (entS 5 v)) := by have q : res = (if blB c = true then _ else _) := E1.out; rwa [if_pos hb] at q
          have HDe : Hid (∀ W, Wk R 47 (Octet c) u W → Calls Tryz.prog 81 #[.pointer (some ⟨R, 0, none⟩), .int .i64 (rulN u : Nat)] W fun e w' => e = (match demS (rulN u) u with | .ok _ => .returned (.tuple #[]) | .error n => Fault (n : Int)) ∧ W = w') := hde
          have HSm := Lib.hid hsm
          have HNx := HNx0
          rw [hb] at hbl
          clear hde hsm E1 HNx0 HNx1 hb HBl
          generalize demS (rulN u) u = y at HDe HSm ER
          go_wp2_with fail
          refine (hbl _).mono ?_
          rintro e w2 ⟨rfl, rfl⟩
          clear hbl
          have KUd := Lib.hid (And.intro (KU.out.1.keep ((Below.refl _ _).drew)) (KU.out.2.trans (Keeps.of ((Below.refl _ _).drew))))
          cases y with
          | error n =>
            go_wp2_with fail
            refine wp_region_held_drew (S := (fun _ => True)) (by kernel_rfl) trivial (fun hHeld => ?_)
            refine wpAnyH_take (i := 0) (v := ?_) rfl (by kernel_rfl) (by kernel_rfl) (by kernel_rfl) (fun _ _ _ h => h) (Or.inl ⟨by rfl, ?_⟩) (by assumption) ?_
            rotate_left
            · intro w hSw
              try dsimp only at hSw
              go_simp
              try with_reducible rfl
            (try simp only [List.getElem_toArray, List.getElem_cons_zero, Act.put, List.setIfInBounds_toArray, List.set_cons_succ, List.set_cons_zero])
            refine wpAnyH_take (i := 1) (v := ?_) rfl (by kernel_rfl) (by kernel_rfl) (by kernel_rfl) (fun _ _ _ h => h) (Or.inl ⟨by rfl, ?_⟩) (by assumption) ?_
            rotate_left
            · intro w hSw
              try dsimp only at hSw
              go_simp
              try with_reducible rfl
            (try simp only [List.getElem_toArray, List.getElem_cons_succ, List.getElem_cons_zero, Act.put, List.setIfInBounds_toArray, List.set_cons_succ, List.set_cons_zero])
            refine wpAnyH_take (i := 2) (v := ?_) rfl (by kernel_rfl) (by kernel_rfl) (by kernel_rfl) (fun _ _ _ h => h) (Or.inl ⟨by rfl, ?_⟩) (by assumption) ?_
            rotate_left
            · intro w hSw
              try dsimp only at hSw
              go_simp
              try with_reducible rfl
            (try simp only [List.getElem_toArray, List.getElem_cons_succ, List.getElem_cons_zero, Act.put, List.setIfInBounds_toArray, List.set_cons_succ, List.set_cons_zero])
            refine wpAnyH_take (i := 3) (v := ?_) rfl (by kernel_rfl) (by kernel_rfl) (by kernel_rfl) (fun _ _ _ h => h) (Or.inl ⟨by rfl, ?_⟩) (by assumption) ?_
            rotate_left
            · intro w hSw
              try dsimp only at hSw
              go_simp
              try with_reducible rfl
            (try simp only [List.getElem_toArray, List.getElem_cons_succ, List.getElem_cons_zero, Act.put, List.setIfInBounds_toArray, List.set_cons_succ, List.set_cons_zero])
            refine wpAnyH_take (i := 4) (v := ?_) rfl (by kernel_rfl) (by kernel_rfl) (by kernel_rfl) (fun _ _ _ h => h) (Or.inl ⟨by rfl, ?_⟩) (by assumption) ?_
            rotate_left
            · intro w hSw
              try dsimp only at hSw
              go_simp
              try with_reducible rfl
            (try simp only [List.getElem_toArray, List.getElem_cons_succ, List.getElem_cons_zero, Act.put, List.setIfInBounds_toArray, List.set_cons_succ, List.set_cons_zero])
            refine wpAnyH_take (i := 5) (v := ?_) rfl (by kernel_rfl) (by kernel_rfl) (by kernel_rfl) (fun _ _ _ h => h) (Or.inl ⟨by rfl, ?_⟩) (by assumption) ?_
            rotate_left
            · intro w hSw
              try dsimp only at hSw
              go_simp
              try with_reducible rfl
            (try simp only [List.getElem_toArray, List.getElem_cons_succ, List.getElem_cons_zero, Act.put, List.setIfInBounds_toArray, List.set_cons_succ, List.set_cons_zero])
            refine wpAnyH_ready (rs := [6]) (by kernel_rfl) (by simp) ?_
            refine AllReadyH.cons rfl (fun K hK => ?_) AllReadyH.nil
            go_simp
            refine (HRu.out _ KUd.out.1).mono ?_
            rintro e w3 ⟨rfl, hb3⟩
            have K3 := Lib.hid (And.intro (KUd.out.1.keep hb3) (KUd.out.2.trans (Keeps.of hb3)))
            clear hb3
            refine hK.out _ _ (by exact trivial) (fun hHeld => ?_)
            clear hK K
            (try simp only [List.getElem_toArray, List.getElem_cons_succ, List.getElem_cons_zero, Act.put, List.setIfInBounds_toArray, List.set_cons_succ, List.set_cons_zero])
            refine wpAnyH_ready (rs := [7]) (by kernel_rfl) (by simp) ?_
            refine AllReadyH.cons rfl (fun K hK => ?_) AllReadyH.nil
            go_simp
            refine (HDe.out _ K3.out.1).mono ?_
            rintro e w4 ⟨he, rfl⟩
            subst he
            have q := To.err (T := 47) (tl := Octet c) (n := n) K3.out.2
            have er : res = .error n := ER.out
            rw [← er] at q
            exact ⟨rfl, q⟩
          | ok v =>
            obtain rfl := HSm.out v rfl
            have ER2 : Hid (res = .ok (entS 5 v)) := ER.out
            clear ER
            go_wp2_with fail
            refine wp_region_held_drew (S := (fun _ => True)) (by kernel_rfl) trivial (fun hHeld => ?_)
            refine wpAnyH_take (i := 0) (v := ?_) rfl (by kernel_rfl) (by kernel_rfl) (by kernel_rfl) (fun _ _ _ h => h) (Or.inl ⟨by rfl, ?_⟩) (by assumption) ?_
            rotate_left
            · intro w hSw
              try dsimp only at hSw
              go_simp
              try with_reducible rfl
            (try simp only [List.getElem_toArray, List.getElem_cons_zero, Act.put, List.setIfInBounds_toArray, List.set_cons_succ, List.set_cons_zero])
            refine wpAnyH_take (i := 1) (v := ?_) rfl (by kernel_rfl) (by kernel_rfl) (by kernel_rfl) (fun _ _ _ h => h) (Or.inl ⟨by rfl, ?_⟩) (by assumption) ?_
            rotate_left
            · intro w hSw
              try dsimp only at hSw
              go_simp
              try with_reducible rfl
            (try simp only [List.getElem_toArray, List.getElem_cons_succ, List.getElem_cons_zero, Act.put, List.setIfInBounds_toArray, List.set_cons_succ, List.set_cons_zero])
            refine wpAnyH_take (i := 2) (v := ?_) rfl (by kernel_rfl) (by kernel_rfl) (by kernel_rfl) (fun _ _ _ h => h) (Or.inl ⟨by rfl, ?_⟩) (by assumption) ?_
            rotate_left
            · intro w hSw
              try dsimp only at hSw
              go_simp
              try with_reducible rfl
            (try simp only [List.getElem_toArray, List.getElem_cons_succ, List.getElem_cons_zero, Act.put, List.setIfInBounds_toArray, List.set_cons_succ, List.set_cons_zero])
            refine wpAnyH_take (i := 3) (v := ?_) rfl (by kernel_rfl) (by kernel_rfl) (by kernel_rfl) (fun _ _ _ h => h) (Or.inl ⟨by rfl, ?_⟩) (by assumption) ?_
            rotate_left
            · intro w hSw
              try dsimp only at hSw
              go_simp
              try with_reducible rfl
            (try simp only [List.getElem_toArray, List.getElem_cons_succ, List.getElem_cons_zero, Act.put, List.setIfInBounds_toArray, List.set_cons_succ, List.set_cons_zero])
            refine wpAnyH_take (i := 4) (v := ?_) rfl (by kernel_rfl) (by kernel_rfl) (by kernel_rfl) (fun _ _ _ h => h) (Or.inl ⟨by rfl, ?_⟩) (by assumption) ?_
            rotate_left
            · intro w hSw
              try dsimp only at hSw
              go_simp
              try with_reducible rfl
            (try simp only [List.getElem_toArray, List.getElem_cons_succ, List.getElem_cons_zero, Act.put, List.setIfInBounds_toArray, List.set_cons_succ, List.set_cons_zero])
            refine wpAnyH_take (i := 5) (v := ?_) rfl (by kernel_rfl) (by kernel_rfl) (by kernel_rfl) (fun _ _ _ h => h) (Or.inl ⟨by rfl, ?_⟩) (by assumption) ?_
            rotate_left
            · intro w hSw
              try dsimp only at hSw
              go_simp
              try with_reducible rfl
            (try simp only [List.getElem_toArray, List.getElem_cons_succ, List.getElem_cons_zero, Act.put, List.setIfInBounds_toArray, List.set_cons_succ, List.set_cons_zero])
            refine wpAnyH_ready (rs := [6]) (by kernel_rfl) (by simp) ?_
            refine AllReadyH.cons rfl (fun K hK => ?_) AllReadyH.nil
            go_simp
            refine (HRu.out _ KUd.out.1).mono ?_
            rintro e w3 ⟨rfl, hb3⟩
            have K3 := Lib.hid (And.intro (KUd.out.1.keep hb3) (KUd.out.2.trans (Keeps.of hb3)))
            clear hb3
            refine hK.out _ _ (by exact trivial) (fun hHeld => ?_)
            clear hK K
            (try simp only [List.getElem_toArray, List.getElem_cons_succ, List.getElem_cons_zero, Act.put, List.setIfInBounds_toArray, List.set_cons_succ, List.set_cons_zero])
            refine wpAnyH_ready (rs := [7]) (by kernel_rfl) (by simp) ?_
            refine AllReadyH.cons rfl (fun K hK => ?_) AllReadyH.nil
            go_simp
            refine (HDe.out _ K3.out.1).mono ?_
            rintro e w4 ⟨he, rfl⟩
            subst he
            refine hK.out _ _ (by exact trivial) (fun hHeld => ?_)
            clear hK K
            (try simp only [List.getElem_toArray, List.getElem_cons_succ, List.getElem_cons_zero, Act.put, List.setIfInBounds_toArray, List.set_cons_succ, List.set_cons_zero])
            refine wpAnyH_done (by kernel_rfl) ?_ _
            go_wp2_with fail
            refine (HNx.out _ K3.out.1).mono ?_
            intro e w5 h5
            have h7 := To.trans K3.out.2 h5
            clear h5
            rw [← ER2.out] at h7
            cases res with
            | error n =>
              obtain ⟨hk, rfl⟩ := h7
              exact ⟨rfl, To.err hk⟩
            | ok v' =>
              obtain ⟨hk, rfl, hw⟩ := h7
              have K7 := Lib.hid (To.ok hk hw)
              clear hk hw
              go_wp2_with fail
              go_end0
              exact K7.out
        · have ER : Hid (res = folS (rulN u) [c] u) := by have q : res = (if blB c = true then _ else _) := E1.out; rwa [if_neg hb] at q
          rw [Bool.eq_false_iff.2 hb] at hbl
          clear hde hsm E1 HNx0 HNx1 hb HBl
          go_wp2_with fail
          refine (hbl _).mono ?_
          rintro e w2 ⟨rfl, rfl⟩
          clear hbl
          have KUd := Lib.hid (And.intro (KU.out.1.keep ((Below.refl _ _).drew)) (KU.out.2.trans (Keeps.of ((Below.refl _ _).drew))))
          cases res with
          | error n =>
            go_wp2_with fail
            refine wp_region_held_drew (S := (fun _ => True)) (by kernel_rfl) trivial (fun hHeld => ?_)
            refine wpAnyH_take (i := 0) (v := ?_) rfl (by kernel_rfl) (by kernel_rfl) (by kernel_rfl) (fun _ _ _ h => h) (Or.inl ⟨by rfl, ?_⟩) (by assumption) ?_
            rotate_left
            · intro w hSw
              try dsimp only at hSw
              go_simp
              try with_reducible rfl
            (try simp only [List.getElem_toArray, List.getElem_cons_zero, Act.put, List.setIfInBounds_toArray, List.set_cons_succ, List.set_cons_zero])
            refine wpAnyH_take (i := 1) (v := ?_) rfl (by kernel_rfl) (by kernel_rfl) (by kernel_rfl) (fun _ _ _ h => h) (Or.inl ⟨by rfl, ?_⟩) (by assumption) ?_
            rotate_left
            · intro w hSw
              try dsimp only at hSw
              go_simp
              try with_reducible rfl
            (try simp only [List.getElem_toArray, List.getElem_cons_succ, List.getElem_cons_zero, Act.put, List.setIfInBounds_toArray, List.set_cons_succ, List.set_cons_zero])
            refine wpAnyH_take (i := 2) (v := ?_) rfl (by kernel_rfl) (by kernel_rfl) (by kernel_rfl) (fun _ _ _ h => h) (Or.inl ⟨by rfl, ?_⟩) (by assumption) ?_
            rotate_left
            · intro w hSw
              try dsimp only at hSw
              go_simp
              try with_reducible rfl
            (try simp only [List.getElem_toArray, List.getElem_cons_succ, List.getElem_cons_zero, Act.put, List.setIfInBounds_toArray, List.set_cons_succ, List.set_cons_zero])
            refine wpAnyH_take (i := 3) (v := ?_) rfl (by kernel_rfl) (by kernel_rfl) (by kernel_rfl) (fun _ _ _ h => h) (Or.inl ⟨by rfl, ?_⟩) (by assumption) ?_
            rotate_left
            · intro w hSw
              try dsimp only at hSw
              go_simp
              try with_reducible rfl
            (try simp only [List.getElem_toArray, List.getElem_cons_succ, List.getElem_cons_zero, Act.put, List.setIfInBounds_toArray, List.set_cons_succ, List.set_cons_zero])
            refine wpAnyH_ready (rs := [4]) (by kernel_rfl) (by simp) ?_
            refine AllReadyH.cons rfl (fun K hK => ?_) AllReadyH.nil
            go_simp
            refine (HSd.out _ KUd.out.1).mono ?_
            rintro e w5 ⟨rfl, hb5⟩
            have K5 := Lib.hid (And.intro (KUd.out.1.keep hb5) (KUd.out.2.trans (Keeps.of hb5)))
            clear hb5
            refine hK.out _ _ (by exact trivial) (fun hHeld => ?_)
            clear hK K
            (try simp only [List.getElem_toArray, List.getElem_cons_succ, List.getElem_cons_zero, Act.put, List.setIfInBounds_toArray, List.set_cons_succ, List.set_cons_zero])
            refine wpAnyH_ready (rs := [5]) (by kernel_rfl) (by simp) ?_
            refine AllReadyH.cons rfl (fun K hK => ?_) AllReadyH.nil
            go_simp
            refine (HFo.out _ K5.out.1).mono ?_
            rintro e w6 h6
            have h7 := To.trans K5.out.2 h6
            clear h6
            rw [← ER.out] at h7
            obtain ⟨hk, rfl⟩ := h7
            exact ⟨rfl, To.err hk⟩
          | ok v =>
            go_wp2_with fail
            refine wp_region_held_drew (S := (fun _ => True)) (by kernel_rfl) trivial (fun hHeld => ?_)
            refine wpAnyH_take (i := 0) (v := ?_) rfl (by kernel_rfl) (by kernel_rfl) (by kernel_rfl) (fun _ _ _ h => h) (Or.inl ⟨by rfl, ?_⟩) (by assumption) ?_
            rotate_left
            · intro w hSw
              try dsimp only at hSw
              go_simp
              try with_reducible rfl
            (try simp only [List.getElem_toArray, List.getElem_cons_zero, Act.put, List.setIfInBounds_toArray, List.set_cons_succ, List.set_cons_zero])
            refine wpAnyH_take (i := 1) (v := ?_) rfl (by kernel_rfl) (by kernel_rfl) (by kernel_rfl) (fun _ _ _ h => h) (Or.inl ⟨by rfl, ?_⟩) (by assumption) ?_
            rotate_left
            · intro w hSw
              try dsimp only at hSw
              go_simp
              try with_reducible rfl
            (try simp only [List.getElem_toArray, List.getElem_cons_succ, List.getElem_cons_zero, Act.put, List.setIfInBounds_toArray, List.set_cons_succ, List.set_cons_zero])
            refine wpAnyH_take (i := 2) (v := ?_) rfl (by kernel_rfl) (by kernel_rfl) (by kernel_rfl) (fun _ _ _ h => h) (Or.inl ⟨by rfl, ?_⟩) (by assumption) ?_
            rotate_left
            · intro w hSw
              try dsimp only at hSw
              go_simp
              try with_reducible rfl
            (try simp only [List.getElem_toArray, List.getElem_cons_succ, List.getElem_cons_zero, Act.put, List.setIfInBounds_toArray, List.set_cons_succ, List.set_cons_zero])
            refine wpAnyH_take (i := 3) (v := ?_) rfl (by kernel_rfl) (by kernel_rfl) (by kernel_rfl) (fun _ _ _ h => h) (Or.inl ⟨by rfl, ?_⟩) (by assumption) ?_
            rotate_left
            · intro w hSw
              try dsimp only at hSw
              go_simp
              try with_reducible rfl
            (try simp only [List.getElem_toArray, List.getElem_cons_succ, List.getElem_cons_zero, Act.put, List.setIfInBounds_toArray, List.set_cons_succ, List.set_cons_zero])
            refine wpAnyH_ready (rs := [4]) (by kernel_rfl) (by simp) ?_
            refine AllReadyH.cons rfl (fun K hK => ?_) AllReadyH.nil
            go_simp
            refine (HSd.out _ KUd.out.1).mono ?_
            rintro e w5 ⟨rfl, hb5⟩
            have K5 := Lib.hid (And.intro (KUd.out.1.keep hb5) (KUd.out.2.trans (Keeps.of hb5)))
            clear hb5
            refine hK.out _ _ (by exact trivial) (fun hHeld => ?_)
            clear hK K
            (try simp only [List.getElem_toArray, List.getElem_cons_succ, List.getElem_cons_zero, Act.put, List.setIfInBounds_toArray, List.set_cons_succ, List.set_cons_zero])
            refine wpAnyH_ready (rs := [5]) (by kernel_rfl) (by simp) ?_
            refine AllReadyH.cons rfl (fun K hK => ?_) AllReadyH.nil
            go_simp
            refine (HFo.out _ K5.out.1).mono ?_
            rintro e w6 h6
            have h7 := To.trans K5.out.2 h6
            clear h6
            rw [← ER.out] at h7
            obtain ⟨hk, rfl, hw⟩ := h7
            have K7 := Lib.hid (To.ok hk hw)
            clear hk hw
            refine hK.out _ _ (by exact trivial) (fun hHeld => ?_)
            clear hK K
            (try simp only [List.getElem_toArray, List.getElem_cons_succ, List.getElem_cons_zero, Act.put, List.setIfInBounds_toArray, List.set_cons_succ, List.set_cons_zero])
            refine wpAnyH_done (by kernel_rfl) ?_ _
            go_wp2_with fail
            go_end0
            exact K7.out
end Go.Proofs.YtklpbkjplecdpaaGreat.Scw
