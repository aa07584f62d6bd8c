/-
  The law LexQuotes: a text, quoted, is one word, which is it; within an action it hides what ends it.
-/
import Derived.Test.YtbchjmldjdhjiaaLxwLaws
import Derived.Test.YtbchjmldjdhjiaaLxwWords
import Derived.Test.YtbchjmldjdhjiaaLxwQuote
namespace Go.Proofs.Ytbchjmldjdhjiaa.Lxw
open Go.RowKit Go.Proofs.Ytbchjmldjdhjiaa.Oct Go.Proofs.Ytbchjmldjdhjiaa.Lex

set_option maxHeartbeats 2000000 in
set_option maxRecDepth 100000 in
theorem law_quotes (W : World) (s : ByteArray) (hs : s.size ≤ 1048576) (hM : MaxAt W) :
    Calls Try.prog 3 #[.string s] W fun e W' => e = .returned (.bool true) ∧ Below W.heap.size W W' := by
  obtain ⟨l, rfl⟩ : ∃ l, s = S l := ⟨s.data.toList, (S_list s).symm⟩
  have hsz : ((S l).size : Int) = (l.length : Int) := by rw [size_S]
  rw [size_S] at hs
  have hli : (l.length : Int) ≤ 1048576 := by omega
  have hal := alive_c W hM
  have hqu := fun w => quote_c l hs w
  have hql : (quoteQ l).length ≤ 2 * l.length + 2 := by
    have := inQ_len l
    unfold quoteQ
    simp only [List.length_cons, List.length_append, List.length_nil]
    omega
  have hwo := fun w => words_text (l := quoteQ l) (t := inQ l ++ [34]) rfl (by omega) (str_quote l []) w
  have hn := num_c
  have HM := Lib.hid hM
  clear hM
  by_cases hlong : 4096 < l.length
  · have hd : decide (4096 < (l.length : Int)) = true := decide_eq_true (by omega)
    have hd2 : 4096 < (l.length : Int) := by omega
    generalize quoteQ l = q at *
    go_enter Try.func3, Try.ntmps3
    go_wp2_with (go_at_call 7; refine hal.mono ?_; rintro e w1 ⟨rfl, hb1⟩)
    refine (hqu _).mono ?_
    rintro e w2 ⟨rfl, hb2⟩
    have HB2 := Lib.hid (hb1.trans (hb2.mono hb1.size))
    clear hb2
    go_wp2_with fail
    refine (hwo _).mono ?_
    rintro e w3 ⟨hb3, (⟨hx, _⟩ | ⟨_, rfl⟩)⟩
    · omega
    · have HB3 := Lib.hid (HB2.out.trans (hb3.mono HB2.out.size))
      clear hb3
      go_wp2_with (go_at_call 10; refine (hn _ _).mono ?_; rintro e w4 ⟨rfl, rfl⟩)
      go_ret
      exact ⟨rfl, HB3.out⟩
  · have hd : decide (4096 < (l.length : Int)) = false := decide_eq_false (by omega)
    have hd2 : ¬ 4096 < (l.length : Int) := by omega
    have hit := fun w hw => items_ok _ _ (lex_quote l) (by simp only [List.length_cons, List.length_append, List.length_nil]; omega) w hw
    have hap : ((⟨#[123, 123]⟩ : ByteArray) ++ S (quoteQ l)) ++ (⟨#[125, 125, 121]⟩ : ByteArray) = S (123 :: 123 :: (quoteQ l ++ [125, 125, 121])) := by
      rw [show (⟨#[123, 123]⟩ : ByteArray) = S [123, 123] from rfl, show (⟨#[125, 125, 121]⟩ : ByteArray) = S [125, 125, 121] from rfl, S_append, S_append]
      rfl
    rw [← hap] at hit
    have hqz : ((S (quoteQ l)).size : Int) = ((quoteQ l).length : Int) := by rw [size_S]
    have hqi : ((quoteQ l).length : Int) ≤ 8194 := by omega
    generalize quoteQ l = q at *
    clear hap
    go_enter Try.func3, Try.ntmps3
    go_wp2_with (go_at_call 7; refine hal.mono ?_; rintro e w1 ⟨rfl, hb1⟩)
    refine (hqu _).mono ?_
    rintro e w2 ⟨rfl, hb2⟩
    have HB2 := Lib.hid (hb1.trans (hb2.mono hb1.size))
    clear hb2
    go_wp2_with fail
    refine (hwo _).mono ?_
    rintro e w3 ⟨hb3, (⟨_, v, rfl, ho⟩ | ⟨hx, _⟩)⟩
    · have HB3 := Lib.hid (HB2.out.trans (hb3.mono HB2.out.size))
      obtain ⟨g, cap, rfl, _, hc⟩ := own_cells ho (by decide)
      have HC := Lib.hid (fun j u h => hc j u h)
      clear hb3 ho hc
      go_wp2_with fail
      refine (hit _ (HM.out.kept HB3.out)).mono ?_
      clear hit
      rintro e w4 ⟨⟨v2, rfl, ho2⟩, hb4⟩
      have HB4 := Lib.hid (HB3.out.trans (hb4.mono HB3.out.size))
      obtain ⟨g2, cap2, rfl, hat⟩ := items_at ho2 (by simp)
      have x0 : w4.cell? ⟨g2, 0 * 3 + 1, none⟩ = some (.string (S q)) := (hat 0 (by simp)).x
      have x1 : w4.cell? ⟨g2, 1 * 3 + 1, none⟩ = some (.string (S [121])) := (hat 1 (by simp)).x
      have k0 : w4.cell? ⟨g, 0, none⟩ = some (.int .i64 5) := (hb4.cell (World.block_lt_of_cell? _ _ (HC.out 0 _ rfl))).trans (HC.out 0 _ rfl)
      have k1 : w4.cell? ⟨g, 1, none⟩ = some (.string (S l)) := (hb4.cell (World.block_lt_of_cell? _ _ (HC.out 1 _ rfl))).trans (HC.out 1 _ rfl)
      clear hat ho2 hb4 HC
      go_wp2_with (go_at_call 10; refine (hn _ _).mono ?_; rintro e w5 ⟨rfl, rfl⟩)
      go_ret
      exact ⟨rfl, HB4.out⟩
    · omega
end Go.Proofs.Ytbchjmldjdhjiaa.Lxw
