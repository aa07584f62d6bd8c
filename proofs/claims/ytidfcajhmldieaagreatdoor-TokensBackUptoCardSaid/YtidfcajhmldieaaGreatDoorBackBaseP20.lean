/-
  Part 20: TkcTagJ, TkcTag0.
-/
import Derived.Test.YtidfcajhmldieaaGreatDoorBackBaseP19
/-
  The function tag: its frame, what holds at each of its labels, and what it leaves.
-/
namespace Go.Proofs.YtidfcajhmldieaaGreatDoor.Tkc
open Go.RowKit Go.Proofs.YtidfcajhmldieaaGreatDoor.Oct Go.Proofs.YtidfcajhmldieaaGreatDoor.Utf Go.Proofs.YtidfcajhmldieaaGreatDoor.Crf Go.Proofs.YtidfcajhmldieaaGreatDoor.Tab Go.Proofs.YtidfcajhmldieaaGreatDoor.Tok

/-- The function's body within its scope. -/
def bodyOf (c : Option Code) : Code := match c with
  | some (.seq _ (.scope c)) => c
  | _ => .skip
/-- The frame: the boxes in their slots; all other slots hold whatever they hold. -/
structure Fr (R : Nat) (w0 : World) (a : Act) : Prop where
  defers : a.defers = []
  size : a.tmps.size = 112
  s0 : a.tmps[0]? = some (.pointer (some ⟨R, 0, none⟩))
  s1 : a.tmps[1]? = some (.pointer (some ⟨w0.heap.size, 0, none⟩))
  s2 : a.tmps[2]? = some (.pointer (some ⟨w0.heap.size + 1, 0, none⟩))
  s4 : a.tmps[4]? = some (.pointer (some ⟨w0.heap.size + 2, 0, none⟩))
  s5 : a.tmps[5]? = some (.pointer (some ⟨w0.heap.size + 3, 0, none⟩))
  s6 : a.tmps[6]? = some (.pointer (some ⟨w0.heap.size + 4, 0, none⟩))
  s7 : a.tmps[7]? = some (.func (.func 76) #[] #[.pointer (some ⟨w0.heap.size + 4, 0, none⟩)])
  s8 : a.tmps[8]? = some (.func (.func 77) #[] #[.pointer (some ⟨w0.heap.size, 0, none⟩), .pointer (some ⟨w0.heap.size + 3, 0, none⟩), .pointer (some ⟨w0.heap.size + 2, 0, none⟩)])
theorem cons_of {n : Nat} {l : List Value} (h : l.length = n + 1) : ∃ x t, l = x :: t ∧ t.length = n := by
  cases l with
  | nil => cases h
  | cons x t => exact ⟨x, t, rfl, by simpa using h⟩
set_option maxRecDepth 100000 in
set_option maxHeartbeats 4000000 in
theorem Fr.elim {R : Nat} {w0 : World} {P : Act → Prop} {a : Act} (h : Fr R w0 a) (hP : ∀ u3 u9 u10 u11 u12 u13 u14 u15 u16 u17 u18 u19 u20 u21 u22 u23 u24 u25 u26 u27 u28 u29 u30 u31 u32 u33 u34 u35 u36 u37 u38 u39 u40 u41 u42 u43 u44 u45 u46 u47 u48 u49 u50 u51 u52 u53 u54 u55 u56 u57 u58 u59 u60 u61 u62 u63 u64 u65 u66 u67 u68 u69 u70 u71 u72 u73 u74 u75 u76 u77 u78 u79 u80 u81 u82 u83 u84 u85 u86 u87 u88 u89 u90 u91 u92 u93 u94 u95 u96 u97 u98 u99 u100 u101 u102 u103 u104 u105 u106 u107 u108 u109 u110 u111 : Value, P { tmps := (.pointer (some ⟨R, 0, none⟩) :: .pointer (some ⟨w0.heap.size, 0, none⟩) :: .pointer (some ⟨w0.heap.size + 1, 0, none⟩) :: u3 :: .pointer (some ⟨w0.heap.size + 2, 0, none⟩) :: .pointer (some ⟨w0.heap.size + 3, 0, none⟩) :: .pointer (some ⟨w0.heap.size + 4, 0, none⟩) :: .func (.func 76) #[] #[.pointer (some ⟨w0.heap.size + 4, 0, none⟩)] :: .func (.func 77) #[] #[.pointer (some ⟨w0.heap.size, 0, none⟩), .pointer (some ⟨w0.heap.size + 3, 0, none⟩), .pointer (some ⟨w0.heap.size + 2, 0, none⟩)] :: u9 :: u10 :: u11 :: u12 :: u13 :: u14 :: u15 :: u16 :: u17 :: u18 :: u19 :: u20 :: u21 :: u22 :: u23 :: u24 :: u25 :: u26 :: u27 :: u28 :: u29 :: u30 :: u31 :: u32 :: u33 :: u34 :: u35 :: u36 :: u37 :: u38 :: u39 :: u40 :: u41 :: u42 :: u43 :: u44 :: u45 :: u46 :: u47 :: u48 :: u49 :: u50 :: u51 :: u52 :: u53 :: u54 :: u55 :: u56 :: u57 :: u58 :: u59 :: u60 :: u61 :: u62 :: u63 :: u64 :: u65 :: u66 :: u67 :: u68 :: u69 :: u70 :: u71 :: u72 :: u73 :: u74 :: u75 :: u76 :: u77 :: u78 :: u79 :: u80 :: u81 :: u82 :: u83 :: u84 :: u85 :: u86 :: u87 :: u88 :: u89 :: u90 :: u91 :: u92 :: u93 :: u94 :: u95 :: u96 :: u97 :: u98 :: u99 :: u100 :: u101 :: u102 :: u103 :: u104 :: u105 :: u106 :: u107 :: u108 :: u109 :: u110 :: u111 :: ([] : List Value)).toArray, defers := [] }) : P a := by
  obtain ⟨hd, hs, h0, h1, h2, h4, h5, h6, h7, h8⟩ := h
  obtain ⟨⟨l⟩, d⟩ := a
  simp only at hd hs
  subst hd
  have hl : l.length = 112 := hs
  clear hs
  obtain ⟨u0, t1, e0, hl⟩ := cons_of hl
  obtain ⟨u1, t2, e1, hl⟩ := cons_of hl
  obtain ⟨u2, t3, e2, hl⟩ := cons_of hl
  obtain ⟨u3, t4, e3, hl⟩ := cons_of hl
  obtain ⟨u4, t5, e4, hl⟩ := cons_of hl
  obtain ⟨u5, t6, e5, hl⟩ := cons_of hl
  obtain ⟨u6, t7, e6, hl⟩ := cons_of hl
  obtain ⟨u7, t8, e7, hl⟩ := cons_of hl
  obtain ⟨u8, t9, e8, hl⟩ := cons_of hl
  obtain ⟨u9, t10, e9, hl⟩ := cons_of hl
  obtain ⟨u10, t11, e10, hl⟩ := cons_of hl
  obtain ⟨u11, t12, e11, hl⟩ := cons_of hl
  obtain ⟨u12, t13, e12, hl⟩ := cons_of hl
  obtain ⟨u13, t14, e13, hl⟩ := cons_of hl
  obtain ⟨u14, t15, e14, hl⟩ := cons_of hl
  obtain ⟨u15, t16, e15, hl⟩ := cons_of hl
  obtain ⟨u16, t17, e16, hl⟩ := cons_of hl
  obtain ⟨u17, t18, e17, hl⟩ := cons_of hl
  obtain ⟨u18, t19, e18, hl⟩ := cons_of hl
  obtain ⟨u19, t20, e19, hl⟩ := cons_of hl
  obtain ⟨u20, t21, e20, hl⟩ := cons_of hl
  obtain ⟨u21, t22, e21, hl⟩ := cons_of hl
  obtain ⟨u22, t23, e22, hl⟩ := cons_of hl
  obtain ⟨u23, t24, e23, hl⟩ := cons_of hl
  obtain ⟨u24, t25, e24, hl⟩ := cons_of hl
  obtain ⟨u25, t26, e25, hl⟩ := cons_of hl
  obtain ⟨u26, t27, e26, hl⟩ := cons_of hl
  obtain ⟨u27, t28, e27, hl⟩ := cons_of hl
  obtain ⟨u28, t29, e28, hl⟩ := cons_of hl
  obtain ⟨u29, t30, e29, hl⟩ := cons_of hl
  obtain ⟨u30, t31, e30, hl⟩ := cons_of hl
  obtain ⟨u31, t32, e31, hl⟩ := cons_of hl
  obtain ⟨u32, t33, e32, hl⟩ := cons_of hl
  obtain ⟨u33, t34, e33, hl⟩ := cons_of hl
  obtain ⟨u34, t35, e34, hl⟩ := cons_of hl
  obtain ⟨u35, t36, e35, hl⟩ := cons_of hl
  obtain ⟨u36, t37, e36, hl⟩ := cons_of hl
  obtain ⟨u37, t38, e37, hl⟩ := cons_of hl
  obtain ⟨u38, t39, e38, hl⟩ := cons_of hl
  obtain ⟨u39, t40, e39, hl⟩ := cons_of hl
  obtain ⟨u40, t41, e40, hl⟩ := cons_of hl
  obtain ⟨u41, t42, e41, hl⟩ := cons_of hl
  obtain ⟨u42, t43, e42, hl⟩ := cons_of hl
  obtain ⟨u43, t44, e43, hl⟩ := cons_of hl
  obtain ⟨u44, t45, e44, hl⟩ := cons_of hl
  obtain ⟨u45, t46, e45, hl⟩ := cons_of hl
  obtain ⟨u46, t47, e46, hl⟩ := cons_of hl
  obtain ⟨u47, t48, e47, hl⟩ := cons_of hl
  obtain ⟨u48, t49, e48, hl⟩ := cons_of hl
  obtain ⟨u49, t50, e49, hl⟩ := cons_of hl
  obtain ⟨u50, t51, e50, hl⟩ := cons_of hl
  obtain ⟨u51, t52, e51, hl⟩ := cons_of hl
  obtain ⟨u52, t53, e52, hl⟩ := cons_of hl
  obtain ⟨u53, t54, e53, hl⟩ := cons_of hl
  obtain ⟨u54, t55, e54, hl⟩ := cons_of hl
  obtain ⟨u55, t56, e55, hl⟩ := cons_of hl
  obtain ⟨u56, t57, e56, hl⟩ := cons_of hl
  obtain ⟨u57, t58, e57, hl⟩ := cons_of hl
  obtain ⟨u58, t59, e58, hl⟩ := cons_of hl
  obtain ⟨u59, t60, e59, hl⟩ := cons_of hl
  obtain ⟨u60, t61, e60, hl⟩ := cons_of hl
  obtain ⟨u61, t62, e61, hl⟩ := cons_of hl
  obtain ⟨u62, t63, e62, hl⟩ := cons_of hl
  obtain ⟨u63, t64, e63, hl⟩ := cons_of hl
  obtain ⟨u64, t65, e64, hl⟩ := cons_of hl
  obtain ⟨u65, t66, e65, hl⟩ := cons_of hl
  obtain ⟨u66, t67, e66, hl⟩ := cons_of hl
  obtain ⟨u67, t68, e67, hl⟩ := cons_of hl
  obtain ⟨u68, t69, e68, hl⟩ := cons_of hl
  obtain ⟨u69, t70, e69, hl⟩ := cons_of hl
  obtain ⟨u70, t71, e70, hl⟩ := cons_of hl
  obtain ⟨u71, t72, e71, hl⟩ := cons_of hl
  obtain ⟨u72, t73, e72, hl⟩ := cons_of hl
  obtain ⟨u73, t74, e73, hl⟩ := cons_of hl
  obtain ⟨u74, t75, e74, hl⟩ := cons_of hl
  obtain ⟨u75, t76, e75, hl⟩ := cons_of hl
  obtain ⟨u76, t77, e76, hl⟩ := cons_of hl
  obtain ⟨u77, t78, e77, hl⟩ := cons_of hl
  obtain ⟨u78, t79, e78, hl⟩ := cons_of hl
  obtain ⟨u79, t80, e79, hl⟩ := cons_of hl
  obtain ⟨u80, t81, e80, hl⟩ := cons_of hl
  obtain ⟨u81, t82, e81, hl⟩ := cons_of hl
  obtain ⟨u82, t83, e82, hl⟩ := cons_of hl
  obtain ⟨u83, t84, e83, hl⟩ := cons_of hl
  obtain ⟨u84, t85, e84, hl⟩ := cons_of hl
  obtain ⟨u85, t86, e85, hl⟩ := cons_of hl
  obtain ⟨u86, t87, e86, hl⟩ := cons_of hl
  obtain ⟨u87, t88, e87, hl⟩ := cons_of hl
  obtain ⟨u88, t89, e88, hl⟩ := cons_of hl
  obtain ⟨u89, t90, e89, hl⟩ := cons_of hl
  obtain ⟨u90, t91, e90, hl⟩ := cons_of hl
  obtain ⟨u91, t92, e91, hl⟩ := cons_of hl
  obtain ⟨u92, t93, e92, hl⟩ := cons_of hl
  obtain ⟨u93, t94, e93, hl⟩ := cons_of hl
  obtain ⟨u94, t95, e94, hl⟩ := cons_of hl
  obtain ⟨u95, t96, e95, hl⟩ := cons_of hl
  obtain ⟨u96, t97, e96, hl⟩ := cons_of hl
  obtain ⟨u97, t98, e97, hl⟩ := cons_of hl
  obtain ⟨u98, t99, e98, hl⟩ := cons_of hl
  obtain ⟨u99, t100, e99, hl⟩ := cons_of hl
  obtain ⟨u100, t101, e100, hl⟩ := cons_of hl
  obtain ⟨u101, t102, e101, hl⟩ := cons_of hl
  obtain ⟨u102, t103, e102, hl⟩ := cons_of hl
  obtain ⟨u103, t104, e103, hl⟩ := cons_of hl
  obtain ⟨u104, t105, e104, hl⟩ := cons_of hl
  obtain ⟨u105, t106, e105, hl⟩ := cons_of hl
  obtain ⟨u106, t107, e106, hl⟩ := cons_of hl
  obtain ⟨u107, t108, e107, hl⟩ := cons_of hl
  obtain ⟨u108, t109, e108, hl⟩ := cons_of hl
  obtain ⟨u109, t110, e109, hl⟩ := cons_of hl
  obtain ⟨u110, t111, e110, hl⟩ := cons_of hl
  obtain ⟨u111, t112, e111, hl⟩ := cons_of hl
  have e112 : t112 = [] := List.eq_nil_of_length_eq_zero hl
  subst e112 e111 e110 e109 e108 e107 e106 e105 e104 e103 e102 e101 e100 e99 e98 e97 e96 e95 e94 e93 e92 e91 e90 e89 e88 e87 e86 e85 e84 e83 e82 e81 e80 e79 e78 e77 e76 e75 e74 e73 e72 e71 e70 e69 e68 e67 e66 e65 e64 e63 e62 e61 e60 e59 e58 e57 e56 e55 e54 e53 e52 e51 e50 e49 e48 e47 e46 e45 e44 e43 e42 e41 e40 e39 e38 e37 e36 e35 e34 e33 e32 e31 e30 e29 e28 e27 e26 e25 e24 e23 e22 e21 e20 e19 e18 e17 e16 e15 e14 e13 e12 e11 e10 e9 e8 e7 e6 e5 e4 e3 e2 e1 e0
  simp only [List.getElem?_toArray, List.getElem?_cons_zero, List.getElem?_cons_succ, Option.some.injEq] at h0 h1 h2 h4 h5 h6 h7 h8
  subst h0 h1 h2 h4 h5 h6 h7 h8
  exact hP u3 u9 u10 u11 u12 u13 u14 u15 u16 u17 u18 u19 u20 u21 u22 u23 u24 u25 u26 u27 u28 u29 u30 u31 u32 u33 u34 u35 u36 u37 u38 u39 u40 u41 u42 u43 u44 u45 u46 u47 u48 u49 u50 u51 u52 u53 u54 u55 u56 u57 u58 u59 u60 u61 u62 u63 u64 u65 u66 u67 u68 u69 u70 u71 u72 u73 u74 u75 u76 u77 u78 u79 u80 u81 u82 u83 u84 u85 u86 u87 u88 u89 u90 u91 u92 u93 u94 u95 u96 u97 u98 u99 u100 u101 u102 u103 u104 u105 u106 u107 u108 u109 u110 u111

/-- Where the reader stands. -/
def atOf (R : Nat) (w : World) : Nat := match w.cell? ⟨R, 1, none⟩ with
  | some (.int _ q) => q.toNat
  | _ => 0
theorem Bx.atOf {R : Nat} {l : List UInt8} {k : Nat} {vo : Value} {w : World} (h : Bx R l k vo w) : atOf R w = k := by
  unfold Tkc.atOf
  rw [h.cell 1]
  exact Int.toNat_natCast k
def rankL (b : Nat) : Nat := if b = 1 then 0 else if b = 0 ∨ b = 4 ∨ b = 6 ∨ b = 7 then 2 else 1
def moreL (b : Nat) : Nat := if b = 4 ∨ b = 5 ∨ b = 6 ∨ b = 8 ∨ b = 7 then 1 else 0
section
variable (R : Nat) (l : List UInt8) (vo : Value) (w0 : World) (k0 : Nat) (r0 : Rd) (kd : Int)
/-- What holds at each label. -/
def St (b : Nat) (w : World) : Prop := ∃ (k : Nat) (nm : List UInt8) (va : Value) (al : List At) (f : Nat) (qs a : List UInt8) (q : UInt8), k ≤ l.length ∧ f ≤ k ∧ al.length + moreL b + 1 ≤ k ∧ k0 ≤ k ∧
  (if b = 0 then TagW R l vo w0 k [] false va [] k0 qs w ∧ TagAt l k0 r0 kd 3 k ((cut l k0 k).map low) [] yes ∧ k0 ≤ k
   else if b = 1 ∨ b = 3 then TagW R l vo w0 k nm false va al f qs w ∧ TagAt l k0 r0 kd 4 k nm al yes
   else if b = 2 then TagW R l vo w0 k nm false va al f qs w ∧ TagAt l k0 r0 kd 11 k nm al yes
   else if b = 4 then TagW R l vo w0 k nm false va al f qs w ∧ TagAt l k0 r0 kd 5 k nm al (avIs ((cut l f k).map low) [])
   else if b = 5 then TagW R l vo w0 k nm false va (al ++ [⟨a, []⟩]) f qs w ∧ TagAt l k0 r0 kd 6 k nm al (avIs a [])
   else if b = 6 then TagW R l vo w0 k nm false va (al ++ [⟨a, []⟩]) f qs w ∧ TagAt l k0 r0 kd 7 k nm al (avIs a [])
   else if b = 8 then TagW R l vo w0 k nm false va (al ++ [⟨a, []⟩]) f qs w ∧ TagAt l k0 r0 kd 9 k nm al (avIs a (cut l f k))
   else if b = 7 then TagW R l vo w0 k nm false va (al ++ [⟨a, []⟩]) f [q] w ∧ TagAt l k0 r0 kd 8 k nm al (avq a (cut l f k) q)
   else False)
def Jt (b : Nat) (a : Act) (w : World) : Prop := Fr R w0 a ∧ St R l vo w0 k0 r0 kd b w
def mt (b : Nat) (_ : Act) (w : World) : Nat := 3 * (l.length - atOf R w) + rankL b
/-- What the function leaves. -/
inductive Left (w : World) : Bool → Prop
  | ended (k : Nat) (nm : List UInt8) (va : Value) (al : List At) (cl : Bool) (hk : k ≤ l.length) (hk0 : k0 ≤ k) (box : Bx R l k vo w) (res : w.heap[w0.heap.size + 1]? = some (.cells (tagC nm va cl) 34 (0, 0))) (att : AtR (w0.heap.size + 5) w va al) (keeps : Keeps R w0 w) (te : TagEnd l k0 r0 kd k nm al cl) : Left w true
  | none (box : Bx R l l.length vo w) (res : w.heap[w0.heap.size + 1]? = some (.cells zeroT 34 (0, 0))) (keeps : Keeps R w0 w) (te : LL l k0 r0 = r0.out) : Left w false
/-- What is asked of the post at the function's end. -/
def Ends (Q : Exit → Act → World → Prop) : Prop := ∀ (b : Bool) (a : Act) (w : World), a.defers = [] → a.tmps[2]? = some (.pointer (some ⟨w0.heap.size + 1, 0, none⟩)) → a.tmps[3]? = some (.bool b) → Left R l vo w0 k0 r0 kd w b → Q .ret a w
end
theorem pass_true {p : UInt8 → Bool} {l : List UInt8} {k : Nat} (h : passB p l k = true) : ∃ hk : k < l.length, p l[k] = true := by
  unfold passB at h
  by_cases hk : k < l.length
  · rw [List.getElem?_eq_getElem hk] at h
    exact ⟨hk, h⟩
  · rw [List.getElem?_eq_none (by omega)] at h
    cases h
theorem pass_false {p : UInt8 → Bool} {l : List UInt8} {k : Nat} (h : passB p l k = false) (hk : k < l.length) : p l[k] = false := by
  unfold passB at h
  rw [List.getElem?_eq_getElem hk] at h
  exact h
theorem take_one (c : UInt8) (l : List UInt8) (k : Nat) : takeB [c] l k = passB (· == c) l k := by
  unfold takeB passB
  by_cases hk : k < l.length
  · rw [List.getElem?_eq_getElem hk, List.drop_eq_getElem_cons hk]
    show (c == l[k] && List.isPrefixOf [] (l.drop (k + 1))) = (l[k] == c)
    rw [show List.isPrefixOf [] (l.drop (k + 1)) = true by simp [List.isPrefixOf], Bool.and_true]
    by_cases hc : c = l[k]
    · rw [hc]
    · rw [beq_eq_false_iff_ne.2 hc, beq_eq_false_iff_ne.2 (Ne.symm hc)]
  · rw [List.getElem?_eq_none (by omega), List.drop_eq_nil_of_le (by omega)]
    rfl
theorem less_mk {R : Nat} {l : List UInt8} {vo : Value} {w0 : World} {k0 : Nat} {r0 : Rd} {kd : Int} {n b k : Nat} {a : Act} {w : World} (hF : Fr R w0 a) (hS : St R l vo w0 k0 r0 kd b w) (hb : Bx R l k vo w) (hlt : 3 * (l.length - k) + rankL b < n) : Less (Jt R l vo w0 k0 r0 kd) (mt R l) n b a w := by
  refine ⟨⟨hF, hS⟩, ?_⟩
  unfold mt
  rw [hb.atOf]
  exact hlt
section
variable {R : Nat} {l : List UInt8} {k : Nat} {vo : Value} {w : World}
theorem pass_yes (h : Bx R l k vo w) (hl : l.length ≤ 65536) (hk0 : k ≤ l.length) (g : Nat) (lb : Array Value) (p : UInt8 → Bool)
    (eg : ∀ args w, (callFunc g args).run Tryz.prog w = .ok (.enter g args) w) (hp : Asks g lb p w) (hb : passB p l k = true) :
    Calls Tryz.prog 78 #[.pointer (some ⟨R, 0, none⟩), .func (.func g) #[] lb] w fun e w' => e = .returned (.bool true) ∧ Bx R l (k + 1) vo w' ∧ Keeps R w w' := by
  have hc := passes_c R l k vo w h hl hk0 g lb p eg hp
  rw [hb] at hc
  exact hc
theorem pass_no (h : Bx R l k vo w) (hl : l.length ≤ 65536) (hk0 : k ≤ l.length) (g : Nat) (lb : Array Value) (p : UInt8 → Bool)
    (eg : ∀ args w, (callFunc g args).run Tryz.prog w = .ok (.enter g args) w) (hp : Asks g lb p w) (hb : passB p l k = false) :
    Calls Tryz.prog 78 #[.pointer (some ⟨R, 0, none⟩), .func (.func g) #[] lb] w fun e w' => e = .returned (.bool false) ∧ Bx R l k vo w' ∧ Keeps R w w' := by
  have hc := passes_c R l k vo w h hl hk0 g lb p eg hp
  rw [hb] at hc
  exact hc
theorem take_yes (h : Bx R l k vo w) (hl : l.length ≤ 65536) (hk0 : k ≤ l.length) (c : UInt8) (hb : passB (· == c) l k = true) :
    Calls Tryz.prog 82 #[.pointer (some ⟨R, 0, none⟩), .string (S [c])] w fun e w' => e = .returned (.bool true) ∧ Bx R l (k + 1) vo w' ∧ Keeps R w w' := by
  have hc := takes_c R l [c] k vo w h hl hk0 (by simp)
  rw [take_one, hb] at hc
  exact hc
theorem take_no (h : Bx R l k vo w) (hl : l.length ≤ 65536) (hk0 : k ≤ l.length) (c : UInt8) (hb : passB (· == c) l k = false) :
    Calls Tryz.prog 82 #[.pointer (some ⟨R, 0, none⟩), .string (S [c])] w fun e w' => e = .returned (.bool false) ∧ Bx R l k vo w' ∧ Keeps R w w' := by
  have hc := takes_c R l [c] k vo w h hl hk0 (by simp)
  rw [take_one, hb] at hc
  exact hc
theorem enter_put : ∀ args w, (callFunc 77 args).run Tryz.prog w = .ok (.enter 77 args) w := enters_of Tryz.func77 (by kernel_rfl) rfl
theorem asks_nm (w : World) : Asks 79 #[] inNm w := fun c n => by simpa using nm_c c (w.drewN n)
theorem asks_at (w : World) : Asks 83 #[] inAt w := fun c n => by simpa using at_c c (w.drewN n)
theorem asks_bare (w : World) : Asks 84 #[] inBare w := fun c n => by simpa using bare_c c (w.drewN n)
theorem asks_blank (w : World) : Asks 81 #[] blB w := fun c n => by
  have hb : ∀ w, Calls Tryz.prog 81 #[.int .u8 (c.toNat : Int)] w fun e w' => e = .returned (.bool (blB c)) ∧ w = w' := fun w => blank_c (c.toNat : Int) w
  simpa using hb (w.drewN n)
theorem asks_quote (q : UInt8) (b : Nat) (w : World) (hq : w.cell? ⟨b, 0, none⟩ = some (.string (S [q]))) : Asks 76 #[.pointer (some ⟨b, 0, none⟩)] (fun c => !(c == q)) w := fun c n => by
  have hlt := World.block_lt_of_cell? w _ hq
  simpa using quote_c c q b (w.drewN n) (((Oct.below_drewN (Below.refl _ w) n).cell (p := ⟨b, 0, none⟩) hlt).trans hq)
end
section
variable {R : Nat} {l : List UInt8} {vo : Value} {w0 : World} {k0 : Nat} {r0 : Rd} {kd : Int} {k : Nat} {nm : List UInt8} {cl : Bool} {va : Value} {al : List At} {f : Nat} {qs : List UInt8} {w : World}
/-- The tag is told. -/
theorem TagW.ended (h : TagW R l vo w0 k nm cl va al f qs w) (hk : k ≤ l.length) (hk0 : k0 ≤ k) (te : TagEnd l k0 r0 kd k nm al cl) :
    Left R l vo w0 k0 r0 kd (((((w.setCell ⟨w0.heap.size + 1, 0, none⟩ (.int .i64 0)).setCell ⟨w0.heap.size + 1, 1, none⟩ (.string (S nm))).setCell ⟨w0.heap.size + 1, 2, none⟩ (.string ⟨#[]⟩)).setCell ⟨w0.heap.size + 1, 3, none⟩ va).setCell ⟨w0.heap.size + 1, 4, none⟩ (.bool cl)) true := by
  have hlow := h.low
  refine .ended k nm va al cl hk hk0 ?_ ?_ ?_ ?_ te
  · exact set_oth (by omega) (set_oth (by omega) (set_oth (by omega) (set_oth (by omega) (set_oth (by omega) h.box))))
  · exact box_set 4 _ (box_set 3 _ (box_set 2 _ (box_set 1 _ (box_set 0 _ h.b2))))
  · exact own_same h.att fun b hb _ => set_oth (by omega) (set_oth (by omega) (set_oth (by omega) (set_oth (by omega) (set_oth (by omega) rfl))))
  · exact ((((h.keeps.high (by omega) _).high (by omega) _).high (by omega) _).high (by omega) _).high (by omega) _
/-- Nothing is told. -/
theorem TagW.nothing (h : TagW R l vo w0 k nm cl va al f qs w) (hk : k = l.length) (te : LL l k0 r0 = r0.out) :
    Left R l vo w0 k0 r0 kd (((((w.setCell ⟨w0.heap.size + 1, 0, none⟩ (.int .i64 0)).setCell ⟨w0.heap.size + 1, 1, none⟩ (.string ⟨#[]⟩)).setCell ⟨w0.heap.size + 1, 2, none⟩ (.string ⟨#[]⟩)).setCell ⟨w0.heap.size + 1, 3, none⟩ (.slice none 0 0)).setCell ⟨w0.heap.size + 1, 4, none⟩ (.bool false)) false := by
  have hlow := h.low
  refine .none ?_ ?_ ?_ te
  · rw [← hk]
    exact set_oth (by omega) (set_oth (by omega) (set_oth (by omega) (set_oth (by omega) (set_oth (by omega) h.box))))
  · exact box_set 4 _ (box_set 3 _ (box_set 2 _ (box_set 1 _ (box_set 0 _ h.b2))))
  · exact ((((h.keeps.high (by omega) _).high (by omega) _).high (by omega) _).high (by omega) _).high (by omega) _
end
theorem stBox {R : Nat} {l : List UInt8} {vo : Value} {w0 : World} {k0 : Nat} {r0 : Rd} {kd : Int} {b k : Nat} {nm : List UInt8} {va : Value} {al : List At} {f : Nat} {qs a : List UInt8} {q : UInt8} {w : World}
    (h : if b = 0 then TagW R l vo w0 k [] false va [] k0 qs w ∧ TagAt l k0 r0 kd 3 k ((cut l k0 k).map low) [] yes ∧ k0 ≤ k
   else if b = 1 ∨ b = 3 then TagW R l vo w0 k nm false va al f qs w ∧ TagAt l k0 r0 kd 4 k nm al yes
   else if b = 2 then TagW R l vo w0 k nm false va al f qs w ∧ TagAt l k0 r0 kd 11 k nm al yes
   else if b = 4 then TagW R l vo w0 k nm false va al f qs w ∧ TagAt l k0 r0 kd 5 k nm al (avIs ((cut l f k).map low) [])
   else if b = 5 then TagW R l vo w0 k nm false va (al ++ [⟨a, []⟩]) f qs w ∧ TagAt l k0 r0 kd 6 k nm al (avIs a [])
   else if b = 6 then TagW R l vo w0 k nm false va (al ++ [⟨a, []⟩]) f qs w ∧ TagAt l k0 r0 kd 7 k nm al (avIs a [])
   else if b = 8 then TagW R l vo w0 k nm false va (al ++ [⟨a, []⟩]) f qs w ∧ TagAt l k0 r0 kd 9 k nm al (avIs a (cut l f k))
   else if b = 7 then TagW R l vo w0 k nm false va (al ++ [⟨a, []⟩]) f [q] w ∧ TagAt l k0 r0 kd 8 k nm al (avq a (cut l f k) q)
   else False) : Bx R l k vo w ∧ True := by
  refine ⟨?_, trivial⟩
  repeat' split at h
  all_goals first | exact h.1.box | exact h.elim
theorem wp_jumps_ret {J : Nat → Act → World → Prop} {Q : Exit → Act → World → Prop} {a : Act} {w : World} (h : Q .ret a w) : jumps J Q .ret a w := h
end Go.Proofs.YtidfcajhmldieaaGreatDoor.Tkc

/-
  The function tag from its label 0 on.
-/
namespace Go.Proofs.YtidfcajhmldieaaGreatDoor.Tkc
open Go.RowKit Go.Proofs.YtidfcajhmldieaaGreatDoor.Oct Go.Proofs.YtidfcajhmldieaaGreatDoor.Utf Go.Proofs.YtidfcajhmldieaaGreatDoor.Crf Go.Proofs.YtidfcajhmldieaaGreatDoor.Tab Go.Proofs.YtidfcajhmldieaaGreatDoor.Tok

set_option maxRecDepth 100000 in
set_option maxHeartbeats 4000000 in
theorem pass0 (R : Nat) (l : List UInt8) (hl : l.length ≤ 65536) (vo : Value) (w0 : World) (k0 : Nat) (r0 : Rd) (kd : Int) (Q : Exit → Act → World → Prop) (hQ : Ends R l vo w0 k0 r0 kd Q) (n : Nat) (a : Act) (w : World)
    (hJ : Jt R l vo w0 k0 r0 kd 0 a w) (hm : mt R l 0 a w = n) (ih : Goes Tryz.prog (bodyOf Tryz.f56.body) (Less (Jt R l vo w0 k0 r0 kd) (mt R l) n) (Less (Jt R l vo w0 k0 r0 kd) (mt R l) n) Q) :
    ∃ X, findLabel (bodyOf Tryz.f56.body) 0 = some (.seq .skip X) ∧ X.wp Tryz.prog (jumps (Less (Jt R l vo w0 k0 r0 kd) (mt R l) n) Q) a w := by
  have _ : True := (fun _ _ => trivial) hQ hl
  have _ : True := (fun _ => trivial) ih
  obtain ⟨hF, k, nm, va, al, f, qs, an, q, hk, hf, hal, hkk, hS⟩ := hJ
  have hn : n = 3 * (l.length - k) + rankL 0 := by
    obtain ⟨hT, _⟩ := stBox hS
    rw [← hm]
    unfold mt
    rw [hT.atOf]
  clear hm
  refine Fr.elim (P := fun a => ∃ X, findLabel (bodyOf Tryz.f56.body) 0 = some (.seq .skip X) ∧ X.wp Tryz.prog (jumps (Less (Jt R l vo w0 k0 r0 kd) (mt R l) n) Q) a w) hF ?_
  clear hF a
  intro u3 u9 u10 u11 u12 u13 u14 u15 u16 u17 u18 u19 u20 u21 u22 u23 u24 u25 u26 u27 u28 u29 u30 u31 u32 u33 u34 u35 u36 u37 u38 u39 u40 u41 u42 u43 u44 u45 u46 u47 u48 u49 u50 u51 u52 u53 u54 u55 u56 u57 u58 u59 u60 u61 u62 u63 u64 u65 u66 u67 u68 u69 u70 u71 u72 u73 u74 u75 u76 u77 u78 u79 u80 u81 u82 u83 u84 u85 u86 u87 u88 u89 u90 u91 u92 u93 u94 u95 u96 u97 u98 u99 u100 u101 u102 u103 u104 u105 u106 u107 u108 u109 u110 u111
  refine ⟨_, rfl, ?_⟩
  have rk0 : rankL 0 = 2 := rfl
  have rk1 : rankL 1 = 0 := rfl
  have rk2 : rankL 2 = 1 := rfl
  have rk3 : rankL 3 = 1 := rfl
  have rk4 : rankL 4 = 2 := rfl
  have rk5 : rankL 5 = 1 := rfl
  have rk6 : rankL 6 = 2 := rfl
  have rk7 : rankL 7 = 2 := rfl
  have rk8 : rankL 8 = 1 := rfl
  have mk0 : moreL 0 = 0 := rfl
  have mk1 : moreL 1 = 0 := rfl
  have mk2 : moreL 2 = 0 := rfl
  have mk3 : moreL 3 = 0 := rfl
  have mk4 : moreL 4 = 1 := rfl
  have mk5 : moreL 5 = 1 := rfl
  have mk6 : moreL 6 = 1 := rfl
  have mk7 : moreL 7 = 1 := rfl
  have mk8 : moreL 8 = 1 := rfl
  obtain ⟨hT, hM, hk0⟩ := hS
  have c1 := hT.c1
  have HT0 := Lib.hid hT
  cases hb : passB inNm l k with
  | true =>
    obtain ⟨hk2, hc⟩ := pass_true hb
    have p1 := fun W (h : Bx R l k vo W) => pass_yes h hl hk 79 #[] inNm enter_nm (asks_nm W) hb
    go_wp2_with (first
      | (have _ := HT0; go_at_call 78; refine (p1 _ HT0.out.box).mono ?_; rintro e w1 ⟨rfl, hbx, hkp⟩; have T := HT0.out.keep hkp hbx; have d1 := T.c1; have HT1 := Lib.hid T; clear hbx hkp T))
    exact wp_goto (show Less _ _ n 0 _ _ from less_mk (b := 0) ⟨rfl, rfl, rfl, rfl, rfl, rfl, rfl, rfl, rfl, rfl⟩ ⟨k + 1, nm, va, al, f, qs, an, q, by omega, by omega, by omega, by omega, HT1.out, (by have h := name_pass hk2 hc hM; rw [cut_succ hk2 hk0, List.map_append]; exact h), by omega⟩ HT1.out.box (by omega))
  | false =>
    have p1 := fun W (h : Bx R l k vo W) => pass_no h hl hk 79 #[] inNm enter_nm (asks_nm W) hb
    have hsi := fun w1 (h : Bx R l k vo w1) => since_c R l k k0 vo w1 h hk0 hk
    have hlo := lower_c (cut l k0 k) (Nat.le_trans (cut_len_le l k0 k) hl)
    go_wp2_with (first
      | (have _ := HT0; go_at_call 78; refine (p1 _ HT0.out.box).mono ?_; rintro e w1 ⟨rfl, hbx, hkp⟩; have T := HT0.out.keep hkp hbx; have d1 := T.c1; have d5 := T.c5; have HT1 := Lib.hid T; clear hbx hkp T)
      | (go_at_call 29; refine (hsi _ HT1.out.box).mono ?_; rintro e w2 ⟨rfl, m2, hw2⟩; have HT2 := Lib.hid (HT1.out.grow (grown_of hw2)); clear hw2)
      | (go_at_call 80; refine (hlo _).mono ?_; rintro e w3 ⟨rfl, h3⟩; have T3 := HT2.out.grow h3; have e1 := T3.cn; have z1 := T3.z4 1; have HT3 := Lib.hid T3; clear h3 T3))
    rename_i K hK
    exact wp_label (hK _ _ (ih 3 _ _ _ (less_mk (b := 3) ⟨rfl, rfl, rfl, rfl, rfl, rfl, rfl, rfl, rfl, rfl⟩ ⟨k, _, va, [], k0, qs, an, q, by omega, by omega, (by rw [List.length_nil]; omega), by omega, HT3.out.setN _, name_stop (pass_false hb) hM⟩ (HT3.out.setN _).box (by omega)) rfl))
end Go.Proofs.YtidfcajhmldieaaGreatDoor.Tkc
