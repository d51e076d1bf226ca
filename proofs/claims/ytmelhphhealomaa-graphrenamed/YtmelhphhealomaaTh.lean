/- The region of GraphRenamed that numbers a graph from another object on: whichever order is drawn. -/
import Derived.Test.YtmelhphhealomaaProg
import Derived.Test.YtmelhphhealomaaMem
import Derived.Test.YtmelhphhealomaaTc
import Derived.Test.YtmelhphhealomaaTg
namespace Go.Proofs.Ytmelhphhealomaa
set_option linter.unusedSimpArgs false
set_option linter.unusedVariables false
open Go.RowKit

structure Ctx4 where
  U : World
  a0 : Act
  bg : Nat
  ao : Option Addr
  aoc : Nat
  ar : Option Addr
  arc : Nat
  g : Gr
  k : Nat

/-- The graph, numbered from the k-th object on. -/
def Ctx4.H (c : Ctx4) : Gr := renG c.g (rotL c.g.objs.length (c.k % c.g.objs.length) c.g.objs.length)

def ds4 : List Nat := [6, 32, 33, 34, 35, 36, 37]

structure Ok4 (c : Ctx4) : Prop where
  z : c.a0.tmps.size = 74
  p2 : (c.a0.tmps[2]?.getD undef) = .pointer (some ⟨c.bg, 0, none⟩)
  p1 : (c.a0.tmps[1]?.getD undef) = .int .u8 c.k
  p5 : (c.a0.tmps[5]?.getD undef) = .int .i64 c.g.objs.length
  g0 : c.U.cell? ⟨c.bg, 0, none⟩ = some (.slice c.ao c.g.objs.length c.aoc)
  g1 : c.U.cell? ⟨c.bg, 1, none⟩ = some (.slice c.ar c.g.roots.length c.arc)
  bgl : c.bg < c.U.heap.size
  ho : Objs c.U.heap.size c.U c.ao c.g.objs
  hr : Vals c.U.heap.size c.U c.ar c.g.roots
  hG : Good c.g
  hn : 0 < c.g.objs.length
  k8 : c.k < 256

/-- What the call hands back, in the world behind it. -/
def Res4 (c : Ctx4) (B : Nat) (w : World) (v : Value) : Prop := ∃ ao' co' ar' cr' base es, v = .agg #[.slice ao' c.H.objs.length co', .slice ar' c.H.roots.length cr'] ∧ B ≤ base ∧ ObjRow w base (.slice ao' c.H.objs.length co') c.H.objs es ∧ Vals w.heap.size w ar' c.H.roots ∧ ∀ b off, ar' = some ⟨b, off, none⟩ → B ≤ b

/-- It lies in a box. -/
def Laid4 (c : Ctx4) (b6 : Nat) (w : World) : Prop := ∃ ao' co' ar' cr', w.cell? ⟨b6, 0, none⟩ = some (.slice ao' c.H.objs.length co') ∧ w.cell? ⟨b6, 1, none⟩ = some (.slice ar' c.H.roots.length cr') ∧ Objs w.heap.size w ao' c.H.objs ∧ Vals w.heap.size w ar' c.H.roots

structure R4 (c : Ctx4) (L : Nat → Prop) (b6 : Nat) (a : Act) (w : World) : Prop where
  hb : Below c.U.heap.size c.U w
  ag : Agr ds4 c.a0 a
  c7a : L 7 → L 5
  c7b : L 7 → L 6
  s0 : L 0 → (a.tmps[32]?.getD undef) = .agg #[.slice c.ao c.g.objs.length c.aoc, .slice c.ar c.g.roots.length c.arc]
  s1 : L 1 → (a.tmps[33]?.getD undef) = .int .u8 c.k
  s2 : L 2 → (a.tmps[34]?.getD undef) = .int .i64 c.k
  s3 : L 3 → (a.tmps[35]?.getD undef) = .int .i64 c.g.objs.length
  s4 : L 4 → (a.tmps[36]?.getD undef) = .int .i64 ((c.k % c.g.objs.length : Nat) : Int)
  s5 : L 5 → ¬ L 7 → ∃ B w5, Res4 c B w5 (a.tmps[37]?.getD undef) ∧ c.U.heap.size ≤ B ∧ B ≤ w5.heap.size ∧ Below w5.heap.size w5 w ∧ (L 6 → b6 < B ∨ w5.heap.size ≤ b6)
  s6 : L 6 → (a.tmps[6]?.getD undef) = .pointer (some ⟨b6, 0, none⟩) ∧ c.U.heap.size ≤ b6 ∧ b6 < w.heap.size ∧ w.frozen? ⟨b6, 0, none⟩ = false ∧ w.frozen? ⟨b6, 1, none⟩ = false ∧ (∃ u, w.cell? ⟨b6, 0, none⟩ = some u) ∧ (∃ u, w.cell? ⟨b6, 1, none⟩ = some u)
  s7 : L 7 → Laid4 c b6 w

theorem R4.sz {c : Ctx4} (hc : Ok4 c) {L : Nat → Prop} {b6 : Nat} {a : Act} {w : World} (h : R4 c L b6 a w) {d : Nat} (hd : d < 74) : d < a.tmps.size := by rw [h.ag.size, hc.z]; exact hd
theorem R4.t2 {c : Ctx4} (hc : Ok4 c) {L : Nat → Prop} {b6 : Nat} {a : Act} {w : World} (h : R4 c L b6 a w) : (a.tmps[2]?.getD undef) = .pointer (some ⟨c.bg, 0, none⟩) := by rw [h.ag.same 2 (by decide)]; exact hc.p2
theorem R4.t1 {c : Ctx4} (hc : Ok4 c) {L : Nat → Prop} {b6 : Nat} {a : Act} {w : World} (h : R4 c L b6 a w) : (a.tmps[1]?.getD undef) = .int .u8 c.k := by rw [h.ag.same 1 (by decide)]; exact hc.p1
theorem R4.t5 {c : Ctx4} (hc : Ok4 c) {L : Nat → Prop} {b6 : Nat} {a : Act} {w : World} (h : R4 c L b6 a w) : (a.tmps[5]?.getD undef) = .int .i64 c.g.objs.length := by rw [h.ag.same 5 (by decide)]; exact hc.p5

theorem R4.d0 {c : Ctx4} (hc : Ok4 c) {L : Nat → Prop} {b6 : Nat} {a : Act} {w : World}  (h : R4 c L b6 a w) (hi : ¬ L 0)  :
    R4 c (fun j => j = 0 ∨ L j) b6 (a.put (some 32) (.agg #[.slice c.ao c.g.objs.length c.aoc, .slice c.ar c.g.roots.length c.arc])) w := by
  have hd := h.sz hc (show 32 < 74 by omega)
  refine ⟨?hb, ?ag, ?c7a, ?c7b, ?s0, ?s1, ?s2, ?s3, ?s4, ?s5, ?s6, ?s7⟩
  case hb => first | exact h.hb | (have hh := h.hb; simp only [tmp_put hd, Nat.reduceEqDiff, if_true, if_false, false_or, true_or, reduceIte, forall_const, true_implies, not_true, not_false_iff, false_implies, implies_true] at hh ⊢; exact hh) | (simp only [tmp_put hd, Nat.reduceEqDiff, if_true, if_false, false_or, true_or, reduceIte, forall_const, true_implies, not_true, not_false_iff, false_implies, implies_true])
  case ag => exact h.ag.put (by decide) _
  case c7a => first | exact h.c7a | (have hh := h.c7a; simp only [tmp_put hd, Nat.reduceEqDiff, if_true, if_false, false_or, true_or, reduceIte, forall_const, true_implies, not_true, not_false_iff, false_implies, implies_true] at hh ⊢; exact hh) | (simp only [tmp_put hd, Nat.reduceEqDiff, if_true, if_false, false_or, true_or, reduceIte, forall_const, true_implies, not_true, not_false_iff, false_implies, implies_true])
  case c7b => first | exact h.c7b | (have hh := h.c7b; simp only [tmp_put hd, Nat.reduceEqDiff, if_true, if_false, false_or, true_or, reduceIte, forall_const, true_implies, not_true, not_false_iff, false_implies, implies_true] at hh ⊢; exact hh) | (simp only [tmp_put hd, Nat.reduceEqDiff, if_true, if_false, false_or, true_or, reduceIte, forall_const, true_implies, not_true, not_false_iff, false_implies, implies_true])
  case s0 => first | exact h.s0 | (have hh := h.s0; simp only [tmp_put hd, Nat.reduceEqDiff, if_true, if_false, false_or, true_or, reduceIte, forall_const, true_implies, not_true, not_false_iff, false_implies, implies_true] at hh ⊢; exact hh) | (simp only [tmp_put hd, Nat.reduceEqDiff, if_true, if_false, false_or, true_or, reduceIte, forall_const, true_implies, not_true, not_false_iff, false_implies, implies_true])
  case s1 => first | exact h.s1 | (have hh := h.s1; simp only [tmp_put hd, Nat.reduceEqDiff, if_true, if_false, false_or, true_or, reduceIte, forall_const, true_implies, not_true, not_false_iff, false_implies, implies_true] at hh ⊢; exact hh) | (simp only [tmp_put hd, Nat.reduceEqDiff, if_true, if_false, false_or, true_or, reduceIte, forall_const, true_implies, not_true, not_false_iff, false_implies, implies_true])
  case s2 => first | exact h.s2 | (have hh := h.s2; simp only [tmp_put hd, Nat.reduceEqDiff, if_true, if_false, false_or, true_or, reduceIte, forall_const, true_implies, not_true, not_false_iff, false_implies, implies_true] at hh ⊢; exact hh) | (simp only [tmp_put hd, Nat.reduceEqDiff, if_true, if_false, false_or, true_or, reduceIte, forall_const, true_implies, not_true, not_false_iff, false_implies, implies_true])
  case s3 => first | exact h.s3 | (have hh := h.s3; simp only [tmp_put hd, Nat.reduceEqDiff, if_true, if_false, false_or, true_or, reduceIte, forall_const, true_implies, not_true, not_false_iff, false_implies, implies_true] at hh ⊢; exact hh) | (simp only [tmp_put hd, Nat.reduceEqDiff, if_true, if_false, false_or, true_or, reduceIte, forall_const, true_implies, not_true, not_false_iff, false_implies, implies_true])
  case s4 => first | exact h.s4 | (have hh := h.s4; simp only [tmp_put hd, Nat.reduceEqDiff, if_true, if_false, false_or, true_or, reduceIte, forall_const, true_implies, not_true, not_false_iff, false_implies, implies_true] at hh ⊢; exact hh) | (simp only [tmp_put hd, Nat.reduceEqDiff, if_true, if_false, false_or, true_or, reduceIte, forall_const, true_implies, not_true, not_false_iff, false_implies, implies_true])
  case s5 => first | exact h.s5 | (have hh := h.s5; simp only [tmp_put hd, Nat.reduceEqDiff, if_true, if_false, false_or, true_or, reduceIte, forall_const, true_implies, not_true, not_false_iff, false_implies, implies_true] at hh ⊢; exact hh) | (simp only [tmp_put hd, Nat.reduceEqDiff, if_true, if_false, false_or, true_or, reduceIte, forall_const, true_implies, not_true, not_false_iff, false_implies, implies_true])
  case s6 => first | exact h.s6 | (have hh := h.s6; simp only [tmp_put hd, Nat.reduceEqDiff, if_true, if_false, false_or, true_or, reduceIte, forall_const, true_implies, not_true, not_false_iff, false_implies, implies_true] at hh ⊢; exact hh) | (simp only [tmp_put hd, Nat.reduceEqDiff, if_true, if_false, false_or, true_or, reduceIte, forall_const, true_implies, not_true, not_false_iff, false_implies, implies_true])
  case s7 => first | exact h.s7 | (have hh := h.s7; simp only [tmp_put hd, Nat.reduceEqDiff, if_true, if_false, false_or, true_or, reduceIte, forall_const, true_implies, not_true, not_false_iff, false_implies, implies_true] at hh ⊢; exact hh) | (simp only [tmp_put hd, Nat.reduceEqDiff, if_true, if_false, false_or, true_or, reduceIte, forall_const, true_implies, not_true, not_false_iff, false_implies, implies_true])

theorem R4.d1 {c : Ctx4} (hc : Ok4 c) {L : Nat → Prop} {b6 : Nat} {a : Act} {w : World}  (h : R4 c L b6 a w) (hi : ¬ L 1)  :
    R4 c (fun j => j = 1 ∨ L j) b6 (a.put (some 33) (.int .u8 c.k)) w := by
  have hd := h.sz hc (show 33 < 74 by omega)
  refine ⟨?hb, ?ag, ?c7a, ?c7b, ?s0, ?s1, ?s2, ?s3, ?s4, ?s5, ?s6, ?s7⟩
  case hb => first | exact h.hb | (have hh := h.hb; simp only [tmp_put hd, Nat.reduceEqDiff, if_true, if_false, false_or, true_or, reduceIte, forall_const, true_implies, not_true, not_false_iff, false_implies, implies_true] at hh ⊢; exact hh) | (simp only [tmp_put hd, Nat.reduceEqDiff, if_true, if_false, false_or, true_or, reduceIte, forall_const, true_implies, not_true, not_false_iff, false_implies, implies_true])
  case ag => exact h.ag.put (by decide) _
  case c7a => first | exact h.c7a | (have hh := h.c7a; simp only [tmp_put hd, Nat.reduceEqDiff, if_true, if_false, false_or, true_or, reduceIte, forall_const, true_implies, not_true, not_false_iff, false_implies, implies_true] at hh ⊢; exact hh) | (simp only [tmp_put hd, Nat.reduceEqDiff, if_true, if_false, false_or, true_or, reduceIte, forall_const, true_implies, not_true, not_false_iff, false_implies, implies_true])
  case c7b => first | exact h.c7b | (have hh := h.c7b; simp only [tmp_put hd, Nat.reduceEqDiff, if_true, if_false, false_or, true_or, reduceIte, forall_const, true_implies, not_true, not_false_iff, false_implies, implies_true] at hh ⊢; exact hh) | (simp only [tmp_put hd, Nat.reduceEqDiff, if_true, if_false, false_or, true_or, reduceIte, forall_const, true_implies, not_true, not_false_iff, false_implies, implies_true])
  case s0 => first | exact h.s0 | (have hh := h.s0; simp only [tmp_put hd, Nat.reduceEqDiff, if_true, if_false, false_or, true_or, reduceIte, forall_const, true_implies, not_true, not_false_iff, false_implies, implies_true] at hh ⊢; exact hh) | (simp only [tmp_put hd, Nat.reduceEqDiff, if_true, if_false, false_or, true_or, reduceIte, forall_const, true_implies, not_true, not_false_iff, false_implies, implies_true])
  case s1 => first | exact h.s1 | (have hh := h.s1; simp only [tmp_put hd, Nat.reduceEqDiff, if_true, if_false, false_or, true_or, reduceIte, forall_const, true_implies, not_true, not_false_iff, false_implies, implies_true] at hh ⊢; exact hh) | (simp only [tmp_put hd, Nat.reduceEqDiff, if_true, if_false, false_or, true_or, reduceIte, forall_const, true_implies, not_true, not_false_iff, false_implies, implies_true])
  case s2 => first | exact h.s2 | (have hh := h.s2; simp only [tmp_put hd, Nat.reduceEqDiff, if_true, if_false, false_or, true_or, reduceIte, forall_const, true_implies, not_true, not_false_iff, false_implies, implies_true] at hh ⊢; exact hh) | (simp only [tmp_put hd, Nat.reduceEqDiff, if_true, if_false, false_or, true_or, reduceIte, forall_const, true_implies, not_true, not_false_iff, false_implies, implies_true])
  case s3 => first | exact h.s3 | (have hh := h.s3; simp only [tmp_put hd, Nat.reduceEqDiff, if_true, if_false, false_or, true_or, reduceIte, forall_const, true_implies, not_true, not_false_iff, false_implies, implies_true] at hh ⊢; exact hh) | (simp only [tmp_put hd, Nat.reduceEqDiff, if_true, if_false, false_or, true_or, reduceIte, forall_const, true_implies, not_true, not_false_iff, false_implies, implies_true])
  case s4 => first | exact h.s4 | (have hh := h.s4; simp only [tmp_put hd, Nat.reduceEqDiff, if_true, if_false, false_or, true_or, reduceIte, forall_const, true_implies, not_true, not_false_iff, false_implies, implies_true] at hh ⊢; exact hh) | (simp only [tmp_put hd, Nat.reduceEqDiff, if_true, if_false, false_or, true_or, reduceIte, forall_const, true_implies, not_true, not_false_iff, false_implies, implies_true])
  case s5 => first | exact h.s5 | (have hh := h.s5; simp only [tmp_put hd, Nat.reduceEqDiff, if_true, if_false, false_or, true_or, reduceIte, forall_const, true_implies, not_true, not_false_iff, false_implies, implies_true] at hh ⊢; exact hh) | (simp only [tmp_put hd, Nat.reduceEqDiff, if_true, if_false, false_or, true_or, reduceIte, forall_const, true_implies, not_true, not_false_iff, false_implies, implies_true])
  case s6 => first | exact h.s6 | (have hh := h.s6; simp only [tmp_put hd, Nat.reduceEqDiff, if_true, if_false, false_or, true_or, reduceIte, forall_const, true_implies, not_true, not_false_iff, false_implies, implies_true] at hh ⊢; exact hh) | (simp only [tmp_put hd, Nat.reduceEqDiff, if_true, if_false, false_or, true_or, reduceIte, forall_const, true_implies, not_true, not_false_iff, false_implies, implies_true])
  case s7 => first | exact h.s7 | (have hh := h.s7; simp only [tmp_put hd, Nat.reduceEqDiff, if_true, if_false, false_or, true_or, reduceIte, forall_const, true_implies, not_true, not_false_iff, false_implies, implies_true] at hh ⊢; exact hh) | (simp only [tmp_put hd, Nat.reduceEqDiff, if_true, if_false, false_or, true_or, reduceIte, forall_const, true_implies, not_true, not_false_iff, false_implies, implies_true])

theorem R4.d2 {c : Ctx4} (hc : Ok4 c) {L : Nat → Prop} {b6 : Nat} {a : Act} {w : World}  (h : R4 c L b6 a w) (hi : ¬ L 2)  :
    R4 c (fun j => j = 2 ∨ L j) b6 (a.put (some 34) (.int .i64 c.k)) w := by
  have hd := h.sz hc (show 34 < 74 by omega)
  refine ⟨?hb, ?ag, ?c7a, ?c7b, ?s0, ?s1, ?s2, ?s3, ?s4, ?s5, ?s6, ?s7⟩
  case hb => first | exact h.hb | (have hh := h.hb; simp only [tmp_put hd, Nat.reduceEqDiff, if_true, if_false, false_or, true_or, reduceIte, forall_const, true_implies, not_true, not_false_iff, false_implies, implies_true] at hh ⊢; exact hh) | (simp only [tmp_put hd, Nat.reduceEqDiff, if_true, if_false, false_or, true_or, reduceIte, forall_const, true_implies, not_true, not_false_iff, false_implies, implies_true])
  case ag => exact h.ag.put (by decide) _
  case c7a => first | exact h.c7a | (have hh := h.c7a; simp only [tmp_put hd, Nat.reduceEqDiff, if_true, if_false, false_or, true_or, reduceIte, forall_const, true_implies, not_true, not_false_iff, false_implies, implies_true] at hh ⊢; exact hh) | (simp only [tmp_put hd, Nat.reduceEqDiff, if_true, if_false, false_or, true_or, reduceIte, forall_const, true_implies, not_true, not_false_iff, false_implies, implies_true])
  case c7b => first | exact h.c7b | (have hh := h.c7b; simp only [tmp_put hd, Nat.reduceEqDiff, if_true, if_false, false_or, true_or, reduceIte, forall_const, true_implies, not_true, not_false_iff, false_implies, implies_true] at hh ⊢; exact hh) | (simp only [tmp_put hd, Nat.reduceEqDiff, if_true, if_false, false_or, true_or, reduceIte, forall_const, true_implies, not_true, not_false_iff, false_implies, implies_true])
  case s0 => first | exact h.s0 | (have hh := h.s0; simp only [tmp_put hd, Nat.reduceEqDiff, if_true, if_false, false_or, true_or, reduceIte, forall_const, true_implies, not_true, not_false_iff, false_implies, implies_true] at hh ⊢; exact hh) | (simp only [tmp_put hd, Nat.reduceEqDiff, if_true, if_false, false_or, true_or, reduceIte, forall_const, true_implies, not_true, not_false_iff, false_implies, implies_true])
  case s1 => first | exact h.s1 | (have hh := h.s1; simp only [tmp_put hd, Nat.reduceEqDiff, if_true, if_false, false_or, true_or, reduceIte, forall_const, true_implies, not_true, not_false_iff, false_implies, implies_true] at hh ⊢; exact hh) | (simp only [tmp_put hd, Nat.reduceEqDiff, if_true, if_false, false_or, true_or, reduceIte, forall_const, true_implies, not_true, not_false_iff, false_implies, implies_true])
  case s2 => first | exact h.s2 | (have hh := h.s2; simp only [tmp_put hd, Nat.reduceEqDiff, if_true, if_false, false_or, true_or, reduceIte, forall_const, true_implies, not_true, not_false_iff, false_implies, implies_true] at hh ⊢; exact hh) | (simp only [tmp_put hd, Nat.reduceEqDiff, if_true, if_false, false_or, true_or, reduceIte, forall_const, true_implies, not_true, not_false_iff, false_implies, implies_true])
  case s3 => first | exact h.s3 | (have hh := h.s3; simp only [tmp_put hd, Nat.reduceEqDiff, if_true, if_false, false_or, true_or, reduceIte, forall_const, true_implies, not_true, not_false_iff, false_implies, implies_true] at hh ⊢; exact hh) | (simp only [tmp_put hd, Nat.reduceEqDiff, if_true, if_false, false_or, true_or, reduceIte, forall_const, true_implies, not_true, not_false_iff, false_implies, implies_true])
  case s4 => first | exact h.s4 | (have hh := h.s4; simp only [tmp_put hd, Nat.reduceEqDiff, if_true, if_false, false_or, true_or, reduceIte, forall_const, true_implies, not_true, not_false_iff, false_implies, implies_true] at hh ⊢; exact hh) | (simp only [tmp_put hd, Nat.reduceEqDiff, if_true, if_false, false_or, true_or, reduceIte, forall_const, true_implies, not_true, not_false_iff, false_implies, implies_true])
  case s5 => first | exact h.s5 | (have hh := h.s5; simp only [tmp_put hd, Nat.reduceEqDiff, if_true, if_false, false_or, true_or, reduceIte, forall_const, true_implies, not_true, not_false_iff, false_implies, implies_true] at hh ⊢; exact hh) | (simp only [tmp_put hd, Nat.reduceEqDiff, if_true, if_false, false_or, true_or, reduceIte, forall_const, true_implies, not_true, not_false_iff, false_implies, implies_true])
  case s6 => first | exact h.s6 | (have hh := h.s6; simp only [tmp_put hd, Nat.reduceEqDiff, if_true, if_false, false_or, true_or, reduceIte, forall_const, true_implies, not_true, not_false_iff, false_implies, implies_true] at hh ⊢; exact hh) | (simp only [tmp_put hd, Nat.reduceEqDiff, if_true, if_false, false_or, true_or, reduceIte, forall_const, true_implies, not_true, not_false_iff, false_implies, implies_true])
  case s7 => first | exact h.s7 | (have hh := h.s7; simp only [tmp_put hd, Nat.reduceEqDiff, if_true, if_false, false_or, true_or, reduceIte, forall_const, true_implies, not_true, not_false_iff, false_implies, implies_true] at hh ⊢; exact hh) | (simp only [tmp_put hd, Nat.reduceEqDiff, if_true, if_false, false_or, true_or, reduceIte, forall_const, true_implies, not_true, not_false_iff, false_implies, implies_true])

theorem R4.d3 {c : Ctx4} (hc : Ok4 c) {L : Nat → Prop} {b6 : Nat} {a : Act} {w : World}  (h : R4 c L b6 a w) (hi : ¬ L 3)  :
    R4 c (fun j => j = 3 ∨ L j) b6 (a.put (some 35) (.int .i64 c.g.objs.length)) w := by
  have hd := h.sz hc (show 35 < 74 by omega)
  refine ⟨?hb, ?ag, ?c7a, ?c7b, ?s0, ?s1, ?s2, ?s3, ?s4, ?s5, ?s6, ?s7⟩
  case hb => first | exact h.hb | (have hh := h.hb; simp only [tmp_put hd, Nat.reduceEqDiff, if_true, if_false, false_or, true_or, reduceIte, forall_const, true_implies, not_true, not_false_iff, false_implies, implies_true] at hh ⊢; exact hh) | (simp only [tmp_put hd, Nat.reduceEqDiff, if_true, if_false, false_or, true_or, reduceIte, forall_const, true_implies, not_true, not_false_iff, false_implies, implies_true])
  case ag => exact h.ag.put (by decide) _
  case c7a => first | exact h.c7a | (have hh := h.c7a; simp only [tmp_put hd, Nat.reduceEqDiff, if_true, if_false, false_or, true_or, reduceIte, forall_const, true_implies, not_true, not_false_iff, false_implies, implies_true] at hh ⊢; exact hh) | (simp only [tmp_put hd, Nat.reduceEqDiff, if_true, if_false, false_or, true_or, reduceIte, forall_const, true_implies, not_true, not_false_iff, false_implies, implies_true])
  case c7b => first | exact h.c7b | (have hh := h.c7b; simp only [tmp_put hd, Nat.reduceEqDiff, if_true, if_false, false_or, true_or, reduceIte, forall_const, true_implies, not_true, not_false_iff, false_implies, implies_true] at hh ⊢; exact hh) | (simp only [tmp_put hd, Nat.reduceEqDiff, if_true, if_false, false_or, true_or, reduceIte, forall_const, true_implies, not_true, not_false_iff, false_implies, implies_true])
  case s0 => first | exact h.s0 | (have hh := h.s0; simp only [tmp_put hd, Nat.reduceEqDiff, if_true, if_false, false_or, true_or, reduceIte, forall_const, true_implies, not_true, not_false_iff, false_implies, implies_true] at hh ⊢; exact hh) | (simp only [tmp_put hd, Nat.reduceEqDiff, if_true, if_false, false_or, true_or, reduceIte, forall_const, true_implies, not_true, not_false_iff, false_implies, implies_true])
  case s1 => first | exact h.s1 | (have hh := h.s1; simp only [tmp_put hd, Nat.reduceEqDiff, if_true, if_false, false_or, true_or, reduceIte, forall_const, true_implies, not_true, not_false_iff, false_implies, implies_true] at hh ⊢; exact hh) | (simp only [tmp_put hd, Nat.reduceEqDiff, if_true, if_false, false_or, true_or, reduceIte, forall_const, true_implies, not_true, not_false_iff, false_implies, implies_true])
  case s2 => first | exact h.s2 | (have hh := h.s2; simp only [tmp_put hd, Nat.reduceEqDiff, if_true, if_false, false_or, true_or, reduceIte, forall_const, true_implies, not_true, not_false_iff, false_implies, implies_true] at hh ⊢; exact hh) | (simp only [tmp_put hd, Nat.reduceEqDiff, if_true, if_false, false_or, true_or, reduceIte, forall_const, true_implies, not_true, not_false_iff, false_implies, implies_true])
  case s3 => first | exact h.s3 | (have hh := h.s3; simp only [tmp_put hd, Nat.reduceEqDiff, if_true, if_false, false_or, true_or, reduceIte, forall_const, true_implies, not_true, not_false_iff, false_implies, implies_true] at hh ⊢; exact hh) | (simp only [tmp_put hd, Nat.reduceEqDiff, if_true, if_false, false_or, true_or, reduceIte, forall_const, true_implies, not_true, not_false_iff, false_implies, implies_true])
  case s4 => first | exact h.s4 | (have hh := h.s4; simp only [tmp_put hd, Nat.reduceEqDiff, if_true, if_false, false_or, true_or, reduceIte, forall_const, true_implies, not_true, not_false_iff, false_implies, implies_true] at hh ⊢; exact hh) | (simp only [tmp_put hd, Nat.reduceEqDiff, if_true, if_false, false_or, true_or, reduceIte, forall_const, true_implies, not_true, not_false_iff, false_implies, implies_true])
  case s5 => first | exact h.s5 | (have hh := h.s5; simp only [tmp_put hd, Nat.reduceEqDiff, if_true, if_false, false_or, true_or, reduceIte, forall_const, true_implies, not_true, not_false_iff, false_implies, implies_true] at hh ⊢; exact hh) | (simp only [tmp_put hd, Nat.reduceEqDiff, if_true, if_false, false_or, true_or, reduceIte, forall_const, true_implies, not_true, not_false_iff, false_implies, implies_true])
  case s6 => first | exact h.s6 | (have hh := h.s6; simp only [tmp_put hd, Nat.reduceEqDiff, if_true, if_false, false_or, true_or, reduceIte, forall_const, true_implies, not_true, not_false_iff, false_implies, implies_true] at hh ⊢; exact hh) | (simp only [tmp_put hd, Nat.reduceEqDiff, if_true, if_false, false_or, true_or, reduceIte, forall_const, true_implies, not_true, not_false_iff, false_implies, implies_true])
  case s7 => first | exact h.s7 | (have hh := h.s7; simp only [tmp_put hd, Nat.reduceEqDiff, if_true, if_false, false_or, true_or, reduceIte, forall_const, true_implies, not_true, not_false_iff, false_implies, implies_true] at hh ⊢; exact hh) | (simp only [tmp_put hd, Nat.reduceEqDiff, if_true, if_false, false_or, true_or, reduceIte, forall_const, true_implies, not_true, not_false_iff, false_implies, implies_true])

theorem R4.d4 {c : Ctx4} (hc : Ok4 c) {L : Nat → Prop} {b6 : Nat} {a : Act} {w : World}  (h : R4 c L b6 a w) (hi : ¬ L 4)  :
    R4 c (fun j => j = 4 ∨ L j) b6 (a.put (some 36) (.int .i64 ((c.k % c.g.objs.length : Nat) : Int))) w := by
  have hd := h.sz hc (show 36 < 74 by omega)
  refine ⟨?hb, ?ag, ?c7a, ?c7b, ?s0, ?s1, ?s2, ?s3, ?s4, ?s5, ?s6, ?s7⟩
  case hb => first | exact h.hb | (have hh := h.hb; simp only [tmp_put hd, Nat.reduceEqDiff, if_true, if_false, false_or, true_or, reduceIte, forall_const, true_implies, not_true, not_false_iff, false_implies, implies_true] at hh ⊢; exact hh) | (simp only [tmp_put hd, Nat.reduceEqDiff, if_true, if_false, false_or, true_or, reduceIte, forall_const, true_implies, not_true, not_false_iff, false_implies, implies_true])
  case ag => exact h.ag.put (by decide) _
  case c7a => first | exact h.c7a | (have hh := h.c7a; simp only [tmp_put hd, Nat.reduceEqDiff, if_true, if_false, false_or, true_or, reduceIte, forall_const, true_implies, not_true, not_false_iff, false_implies, implies_true] at hh ⊢; exact hh) | (simp only [tmp_put hd, Nat.reduceEqDiff, if_true, if_false, false_or, true_or, reduceIte, forall_const, true_implies, not_true, not_false_iff, false_implies, implies_true])
  case c7b => first | exact h.c7b | (have hh := h.c7b; simp only [tmp_put hd, Nat.reduceEqDiff, if_true, if_false, false_or, true_or, reduceIte, forall_const, true_implies, not_true, not_false_iff, false_implies, implies_true] at hh ⊢; exact hh) | (simp only [tmp_put hd, Nat.reduceEqDiff, if_true, if_false, false_or, true_or, reduceIte, forall_const, true_implies, not_true, not_false_iff, false_implies, implies_true])
  case s0 => first | exact h.s0 | (have hh := h.s0; simp only [tmp_put hd, Nat.reduceEqDiff, if_true, if_false, false_or, true_or, reduceIte, forall_const, true_implies, not_true, not_false_iff, false_implies, implies_true] at hh ⊢; exact hh) | (simp only [tmp_put hd, Nat.reduceEqDiff, if_true, if_false, false_or, true_or, reduceIte, forall_const, true_implies, not_true, not_false_iff, false_implies, implies_true])
  case s1 => first | exact h.s1 | (have hh := h.s1; simp only [tmp_put hd, Nat.reduceEqDiff, if_true, if_false, false_or, true_or, reduceIte, forall_const, true_implies, not_true, not_false_iff, false_implies, implies_true] at hh ⊢; exact hh) | (simp only [tmp_put hd, Nat.reduceEqDiff, if_true, if_false, false_or, true_or, reduceIte, forall_const, true_implies, not_true, not_false_iff, false_implies, implies_true])
  case s2 => first | exact h.s2 | (have hh := h.s2; simp only [tmp_put hd, Nat.reduceEqDiff, if_true, if_false, false_or, true_or, reduceIte, forall_const, true_implies, not_true, not_false_iff, false_implies, implies_true] at hh ⊢; exact hh) | (simp only [tmp_put hd, Nat.reduceEqDiff, if_true, if_false, false_or, true_or, reduceIte, forall_const, true_implies, not_true, not_false_iff, false_implies, implies_true])
  case s3 => first | exact h.s3 | (have hh := h.s3; simp only [tmp_put hd, Nat.reduceEqDiff, if_true, if_false, false_or, true_or, reduceIte, forall_const, true_implies, not_true, not_false_iff, false_implies, implies_true] at hh ⊢; exact hh) | (simp only [tmp_put hd, Nat.reduceEqDiff, if_true, if_false, false_or, true_or, reduceIte, forall_const, true_implies, not_true, not_false_iff, false_implies, implies_true])
  case s4 => first | exact h.s4 | (have hh := h.s4; simp only [tmp_put hd, Nat.reduceEqDiff, if_true, if_false, false_or, true_or, reduceIte, forall_const, true_implies, not_true, not_false_iff, false_implies, implies_true] at hh ⊢; exact hh) | (simp only [tmp_put hd, Nat.reduceEqDiff, if_true, if_false, false_or, true_or, reduceIte, forall_const, true_implies, not_true, not_false_iff, false_implies, implies_true])
  case s5 => first | exact h.s5 | (have hh := h.s5; simp only [tmp_put hd, Nat.reduceEqDiff, if_true, if_false, false_or, true_or, reduceIte, forall_const, true_implies, not_true, not_false_iff, false_implies, implies_true] at hh ⊢; exact hh) | (simp only [tmp_put hd, Nat.reduceEqDiff, if_true, if_false, false_or, true_or, reduceIte, forall_const, true_implies, not_true, not_false_iff, false_implies, implies_true])
  case s6 => first | exact h.s6 | (have hh := h.s6; simp only [tmp_put hd, Nat.reduceEqDiff, if_true, if_false, false_or, true_or, reduceIte, forall_const, true_implies, not_true, not_false_iff, false_implies, implies_true] at hh ⊢; exact hh) | (simp only [tmp_put hd, Nat.reduceEqDiff, if_true, if_false, false_or, true_or, reduceIte, forall_const, true_implies, not_true, not_false_iff, false_implies, implies_true])
  case s7 => first | exact h.s7 | (have hh := h.s7; simp only [tmp_put hd, Nat.reduceEqDiff, if_true, if_false, false_or, true_or, reduceIte, forall_const, true_implies, not_true, not_false_iff, false_implies, implies_true] at hh ⊢; exact hh) | (simp only [tmp_put hd, Nat.reduceEqDiff, if_true, if_false, false_or, true_or, reduceIte, forall_const, true_implies, not_true, not_false_iff, false_implies, implies_true])

theorem R4.d5 {c : Ctx4} (hc : Ok4 c) {L : Nat → Prop} {b6 : Nat} {a : Act} {w : World} {w' : World} {v : Value} (h : R4 c L b6 a w) (hi : ¬ L 5) (hres : Res4 c w.heap.size w' v) (hbw : Below w.heap.size w w') :
    R4 c (fun j => j = 5 ∨ L j) b6 (a.put (some 37) (v)) w' := by
  have hd := h.sz hc (show 37 < 74 by omega)
  have hU := h.hb.size
  have hS := hbw.size
  refine ⟨?hb, ?ag, ?c7a, ?c7b, ?s0, ?s1, ?s2, ?s3, ?s4, ?s5, ?s6, ?s7⟩
  case hb => exact h.hb.trans (hbw.mono hU)
  case ag => exact h.ag.put (by decide) _
  case c7a => intro _; exact .inl rfl
  case c7b => first | exact h.c7b | (have hh := h.c7b; simp only [tmp_put hd, Nat.reduceEqDiff, if_true, if_false, false_or, true_or, reduceIte, forall_const, true_implies, not_true, not_false_iff, false_implies, implies_true] at hh ⊢; exact hh) | (simp only [tmp_put hd, Nat.reduceEqDiff, if_true, if_false, false_or, true_or, reduceIte, forall_const, true_implies, not_true, not_false_iff, false_implies, implies_true])
  case s0 => first | exact h.s0 | (have hh := h.s0; simp only [tmp_put hd, Nat.reduceEqDiff, if_true, if_false, false_or, true_or, reduceIte, forall_const, true_implies, not_true, not_false_iff, false_implies, implies_true] at hh ⊢; exact hh) | (simp only [tmp_put hd, Nat.reduceEqDiff, if_true, if_false, false_or, true_or, reduceIte, forall_const, true_implies, not_true, not_false_iff, false_implies, implies_true])
  case s1 => first | exact h.s1 | (have hh := h.s1; simp only [tmp_put hd, Nat.reduceEqDiff, if_true, if_false, false_or, true_or, reduceIte, forall_const, true_implies, not_true, not_false_iff, false_implies, implies_true] at hh ⊢; exact hh) | (simp only [tmp_put hd, Nat.reduceEqDiff, if_true, if_false, false_or, true_or, reduceIte, forall_const, true_implies, not_true, not_false_iff, false_implies, implies_true])
  case s2 => first | exact h.s2 | (have hh := h.s2; simp only [tmp_put hd, Nat.reduceEqDiff, if_true, if_false, false_or, true_or, reduceIte, forall_const, true_implies, not_true, not_false_iff, false_implies, implies_true] at hh ⊢; exact hh) | (simp only [tmp_put hd, Nat.reduceEqDiff, if_true, if_false, false_or, true_or, reduceIte, forall_const, true_implies, not_true, not_false_iff, false_implies, implies_true])
  case s3 => first | exact h.s3 | (have hh := h.s3; simp only [tmp_put hd, Nat.reduceEqDiff, if_true, if_false, false_or, true_or, reduceIte, forall_const, true_implies, not_true, not_false_iff, false_implies, implies_true] at hh ⊢; exact hh) | (simp only [tmp_put hd, Nat.reduceEqDiff, if_true, if_false, false_or, true_or, reduceIte, forall_const, true_implies, not_true, not_false_iff, false_implies, implies_true])
  case s4 => first | exact h.s4 | (have hh := h.s4; simp only [tmp_put hd, Nat.reduceEqDiff, if_true, if_false, false_or, true_or, reduceIte, forall_const, true_implies, not_true, not_false_iff, false_implies, implies_true] at hh ⊢; exact hh) | (simp only [tmp_put hd, Nat.reduceEqDiff, if_true, if_false, false_or, true_or, reduceIte, forall_const, true_implies, not_true, not_false_iff, false_implies, implies_true])
  case s5 => intro _ _; rw [tmp_put hd, if_pos rfl]; exact ⟨w.heap.size, w', hres, hU, hS, Below.refl _ _, fun hl => by simp only [Nat.reduceEqDiff, false_or] at hl; exact .inl (h.s6 hl).2.2.1⟩
  case s6 => intro hl; simp only [Nat.reduceEqDiff, false_or] at hl; obtain ⟨r1, r2, r3, r4, r5, ⟨u0, r6⟩, ⟨u1, r7⟩⟩ := h.s6 hl; rw [tmp_put hd, if_neg (by decide)]; exact ⟨r1, r2, by omega, (hbw.frozen (p := ⟨b6, 0, none⟩) r3).trans r4, (hbw.frozen (p := ⟨b6, 1, none⟩) r3).trans r5, ⟨u0, (hbw.cell (p := ⟨b6, 0, none⟩) r3).trans r6⟩, ⟨u1, (hbw.cell (p := ⟨b6, 1, none⟩) r3).trans r7⟩⟩
  case s7 => intro hl; simp only [Nat.reduceEqDiff, false_or] at hl; exact absurd (h.c7a hl) hi

theorem R4.d6 {c : Ctx4} (hc : Ok4 c) {L : Nat → Prop} {b6 : Nat} {a : Act} {w : World}  (h : R4 c L b6 a w) (hi : ¬ L 6)  :
    R4 c (fun j => j = 6 ∨ L j) w.heap.size (a.put (some 6) (.pointer (some ⟨w.heap.size, 0, none⟩))) (w.alloc (.cells #[.slice none 0 0, .slice none 0 0] 25)) := by
  have hd := h.sz hc (show 6 < 74 by omega)
  have hU := h.hb.size
  refine ⟨?hb, ?ag, ?c7a, ?c7b, ?s0, ?s1, ?s2, ?s3, ?s4, ?s5, ?s6, ?s7⟩
  case hb => exact h.hb.alloc hU _
  case ag => exact h.ag.put (by decide) _
  case c7a => first | exact h.c7a | (have hh := h.c7a; simp only [tmp_put hd, Nat.reduceEqDiff, if_true, if_false, false_or, true_or, reduceIte, forall_const, true_implies, not_true, not_false_iff, false_implies, implies_true] at hh ⊢; exact hh) | (simp only [tmp_put hd, Nat.reduceEqDiff, if_true, if_false, false_or, true_or, reduceIte, forall_const, true_implies, not_true, not_false_iff, false_implies, implies_true])
  case c7b => intro _; exact .inl rfl
  case s0 => first | exact h.s0 | (have hh := h.s0; simp only [tmp_put hd, Nat.reduceEqDiff, if_true, if_false, false_or, true_or, reduceIte, forall_const, true_implies, not_true, not_false_iff, false_implies, implies_true] at hh ⊢; exact hh) | (simp only [tmp_put hd, Nat.reduceEqDiff, if_true, if_false, false_or, true_or, reduceIte, forall_const, true_implies, not_true, not_false_iff, false_implies, implies_true])
  case s1 => first | exact h.s1 | (have hh := h.s1; simp only [tmp_put hd, Nat.reduceEqDiff, if_true, if_false, false_or, true_or, reduceIte, forall_const, true_implies, not_true, not_false_iff, false_implies, implies_true] at hh ⊢; exact hh) | (simp only [tmp_put hd, Nat.reduceEqDiff, if_true, if_false, false_or, true_or, reduceIte, forall_const, true_implies, not_true, not_false_iff, false_implies, implies_true])
  case s2 => first | exact h.s2 | (have hh := h.s2; simp only [tmp_put hd, Nat.reduceEqDiff, if_true, if_false, false_or, true_or, reduceIte, forall_const, true_implies, not_true, not_false_iff, false_implies, implies_true] at hh ⊢; exact hh) | (simp only [tmp_put hd, Nat.reduceEqDiff, if_true, if_false, false_or, true_or, reduceIte, forall_const, true_implies, not_true, not_false_iff, false_implies, implies_true])
  case s3 => first | exact h.s3 | (have hh := h.s3; simp only [tmp_put hd, Nat.reduceEqDiff, if_true, if_false, false_or, true_or, reduceIte, forall_const, true_implies, not_true, not_false_iff, false_implies, implies_true] at hh ⊢; exact hh) | (simp only [tmp_put hd, Nat.reduceEqDiff, if_true, if_false, false_or, true_or, reduceIte, forall_const, true_implies, not_true, not_false_iff, false_implies, implies_true])
  case s4 => first | exact h.s4 | (have hh := h.s4; simp only [tmp_put hd, Nat.reduceEqDiff, if_true, if_false, false_or, true_or, reduceIte, forall_const, true_implies, not_true, not_false_iff, false_implies, implies_true] at hh ⊢; exact hh) | (simp only [tmp_put hd, Nat.reduceEqDiff, if_true, if_false, false_or, true_or, reduceIte, forall_const, true_implies, not_true, not_false_iff, false_implies, implies_true])
  case s5 => intro hl h7; simp only [Nat.reduceEqDiff, false_or] at hl h7; obtain ⟨B, w5, r1, r2, r3, r4, _⟩ := h.s5 hl h7; rw [tmp_put hd, if_neg (by decide)]; exact ⟨B, w5, r1, r2, r3, r4.alloc r4.size _, fun _ => .inr r4.size⟩
  case s6 => intro _; rw [tmp_put hd, if_pos rfl]; exact ⟨rfl, hU, by simp, by simp [go_sem], by simp [go_sem], ⟨_, by simp [go_sem]; rfl⟩, ⟨_, by simp [go_sem]; rfl⟩⟩
  case s7 => intro hl; simp only [Nat.reduceEqDiff, false_or] at hl; exact absurd (h.c7b hl) hi

theorem R4.d7 {c : Ctx4} (hc : Ok4 c) {L : Nat → Prop} {b6 : Nat} {a : Act} {w : World} {x y : Value} (h : R4 c L b6 a w) (hi : ¬ L 7) (h5 : L 5) (h6 : L 6) (hv : (a.tmps[37]?.getD undef) = .agg #[x, y]) :
    R4 c (fun j => j = 7 ∨ L j) b6 a ((w.setCell ⟨b6, 0, none⟩ x).setCell ⟨b6, 1, none⟩ y) := by
  obtain ⟨r1, r2, r3, r4, r5, ⟨u0, r6⟩, ⟨u1, r7⟩⟩ := h.s6 h6
  obtain ⟨B, w5, ⟨ao', co', ar', cr', base, es, hv5, hbase, hO, hV, hbs⟩, hB1, hB2, hbw, hap⟩ := h.s5 h5 hi
  rw [hv] at hv5
  injection hv5 with hv5
  injection hv5 with hv5
  injection hv5 with hx hv5
  injection hv5 with hy _
  subst hx hy
  have kc0 : ((w.setCell ⟨b6, 0, none⟩ (.slice ao' c.H.objs.length co')).setCell ⟨b6, 1, none⟩ (.slice ar' c.H.roots.length cr')).cell? ⟨b6, 0, none⟩ = some (.slice ao' c.H.objs.length co') := (World.cell?_setCell_other _ ⟨b6, 1, none⟩ ⟨b6, 0, none⟩ _ (by simp)).trans (World.cell?_setCell_same' _ _ _ (by rw [r6]; rfl))
  have kc1 : ((w.setCell ⟨b6, 0, none⟩ (.slice ao' c.H.objs.length co')).setCell ⟨b6, 1, none⟩ (.slice ar' c.H.roots.length cr')).cell? ⟨b6, 1, none⟩ = some (.slice ar' c.H.roots.length cr') := World.cell?_setCell_same' _ _ _ (by rw [World.cell?_setCell_other _ ⟨b6, 0, none⟩ ⟨b6, 1, none⟩ _ (by simp), r7]; rfl)
  have hsz : ((w.setCell ⟨b6, 0, none⟩ (.slice ao' c.H.objs.length co')).setCell ⟨b6, 1, none⟩ (.slice ar' c.H.roots.length cr')).heap.size = w.heap.size := by simp [World.setCell]
  have hl24 : c.H.objs.length ≤ 9223372036854775807 := by unfold Ctx4.H; simp only [renG, List.length_map, rotL_len]; have := hc.hG.n24; omega
  have hfin : Laid4 c b6 ((w.setCell ⟨b6, 0, none⟩ (.slice ao' c.H.objs.length co')).setCell ⟨b6, 1, none⟩ (.slice ar' c.H.roots.length cr')) := by
    refine ⟨ao', co', ar', cr', kc0, kc1, ?_, ?_⟩
    · rcases hap h6 with hlt | hge
      · obtain ⟨va, vc, hv', hO'⟩ := (((hO.below hbw).setCell (p := ⟨b6, 0, none⟩) (by simp; omega) (.slice ao' c.H.objs.length co')).setCell (p := ⟨b6, 1, none⟩) (by simp; omega) (.slice ar' c.H.roots.length cr')).objs hl24
        injection hv' with e1 _ e3
        subst e1 e3
        exact hO'
      · have hbb : Below w5.heap.size w5 ((w.setCell ⟨b6, 0, none⟩ (.slice ao' c.H.objs.length co')).setCell ⟨b6, 1, none⟩ (.slice ar' c.H.roots.length cr')) := (hbw.setCell (p := ⟨b6, 0, none⟩) hge _).setCell (p := ⟨b6, 1, none⟩) hge _
        obtain ⟨va, vc, hv', hO'⟩ := (hO.below hbb).objs hl24
        injection hv' with e1 _ e3
        subst e1 e3
        exact hO'
    · rcases hap h6 with hlt | hge
      · refine Vals.mono ((((hV.below hbw).mono (B' := w.heap.size) hbw.size).setCell ⟨b6, 0, none⟩ (.slice ao' c.H.objs.length co') (fun b off e => ?_)).setCell ⟨b6, 1, none⟩ (.slice ar' c.H.roots.length cr') (fun b off e => ?_)) (by simp [World.setCell])
        · have := hbs b off e; simp; omega
        · have := hbs b off e; simp; omega
      · have hbb : Below w5.heap.size w5 ((w.setCell ⟨b6, 0, none⟩ (.slice ao' c.H.objs.length co')).setCell ⟨b6, 1, none⟩ (.slice ar' c.H.roots.length cr')) := (hbw.setCell (p := ⟨b6, 0, none⟩) hge _).setCell (p := ⟨b6, 1, none⟩) hge _
        exact (hV.below hbb).mono hbb.size
  refine ⟨?hb, ?ag, ?c7a, ?c7b, ?s0, ?s1, ?s2, ?s3, ?s4, ?s5, ?s6, ?s7⟩
  case hb => exact (h.hb.setCell (p := ⟨b6, 0, none⟩) r2 _).setCell (p := ⟨b6, 1, none⟩) r2 _
  case ag => exact h.ag
  case c7a => intro _; exact .inr h5
  case c7b => intro _; exact .inr h6
  case s0 => first | exact h.s0 | (have hh := h.s0; simp only [Nat.reduceEqDiff, if_true, if_false, false_or, true_or, reduceIte, forall_const, true_implies, not_true, not_false_iff, false_implies, implies_true] at hh ⊢; exact hh) | (simp only [Nat.reduceEqDiff, if_true, if_false, false_or, true_or, reduceIte, forall_const, true_implies, not_true, not_false_iff, false_implies, implies_true])
  case s1 => first | exact h.s1 | (have hh := h.s1; simp only [Nat.reduceEqDiff, if_true, if_false, false_or, true_or, reduceIte, forall_const, true_implies, not_true, not_false_iff, false_implies, implies_true] at hh ⊢; exact hh) | (simp only [Nat.reduceEqDiff, if_true, if_false, false_or, true_or, reduceIte, forall_const, true_implies, not_true, not_false_iff, false_implies, implies_true])
  case s2 => first | exact h.s2 | (have hh := h.s2; simp only [Nat.reduceEqDiff, if_true, if_false, false_or, true_or, reduceIte, forall_const, true_implies, not_true, not_false_iff, false_implies, implies_true] at hh ⊢; exact hh) | (simp only [Nat.reduceEqDiff, if_true, if_false, false_or, true_or, reduceIte, forall_const, true_implies, not_true, not_false_iff, false_implies, implies_true])
  case s3 => first | exact h.s3 | (have hh := h.s3; simp only [Nat.reduceEqDiff, if_true, if_false, false_or, true_or, reduceIte, forall_const, true_implies, not_true, not_false_iff, false_implies, implies_true] at hh ⊢; exact hh) | (simp only [Nat.reduceEqDiff, if_true, if_false, false_or, true_or, reduceIte, forall_const, true_implies, not_true, not_false_iff, false_implies, implies_true])
  case s4 => first | exact h.s4 | (have hh := h.s4; simp only [Nat.reduceEqDiff, if_true, if_false, false_or, true_or, reduceIte, forall_const, true_implies, not_true, not_false_iff, false_implies, implies_true] at hh ⊢; exact hh) | (simp only [Nat.reduceEqDiff, if_true, if_false, false_or, true_or, reduceIte, forall_const, true_implies, not_true, not_false_iff, false_implies, implies_true])
  case s5 => intro _ hn; exact absurd (.inl rfl) hn
  case s6 => intro _; exact ⟨r1, r2, by rw [hsz]; exact r3, by rw [World.frozen?_setCell, World.frozen?_setCell]; exact r4, by rw [World.frozen?_setCell, World.frozen?_setCell]; exact r5, ⟨_, kc0⟩, ⟨_, kc1⟩⟩
  case s7 => intro _; exact hfin

def op4_0 : Oper := { dst := some 32, op := Op.load 25 (Operand.tmp 2), type := 25, pos := "low.go:158", after := #[], guard := none }
def op4_1 : Oper := { dst := some 33, op := Op.move (Operand.tmp 1), type := 5, pos := "low.go:158", after := #[], guard := none }
def op4_2 : Oper := { dst := some 34, op := Op.convert 5 3 (Operand.tmp 33), type := 3, pos := "low.go:158", after := #[{ on := 1, ground := Ground.data }], guard := none }
def op4_3 : Oper := { dst := some 35, op := Op.move (Operand.tmp 5), type := 3, pos := "low.go:158", after := #[], guard := none }
def op4_4 : Oper := { dst := some 36, op := Op.binOp BinOp.rem 3 (Operand.tmp 34) (Operand.tmp 35) 3, type := 3, pos := "low.go:158", after := #[{ on := 2, ground := Ground.data }, { on := 3, ground := Ground.data }], guard := none }
def op4_5 : Oper := { dst := some 37, op := Op.call { callee := Callee.value (Operand.func 19), args := #[Operand.tmp 32, Operand.tmp 36], argTypes := #[25, 3] }, type := 25, pos := "low.go:158", after := #[{ on := 0, ground := Ground.data }, { on := 4, ground := Ground.data }], guard := none }
def op4_6 : Oper := { dst := some 6, op := Op.alloc 25, type := 0, pos := "low.go:158", after := #[], guard := none }
def op4_7 : Oper := { dst := none, op := Op.store 25 (Operand.tmp 6) (Operand.tmp 37), type := 0, pos := "low.go:158", after := #[{ on := 6, ground := Ground.data }, { on := 5, ground := Ground.data }, { on := 5, ground := Ground.chain }, { on := 0, ground := Ground.phase }, { on := 1, ground := Ground.phase }, { on := 2, ground := Ground.phase }, { on := 3, ground := Ground.phase }, { on := 4, ground := Ground.phase }, { on := 5, ground := Ground.phase }, { on := 6, ground := Ground.phase }], guard := none }
def ops4 : Array Oper := #[op4_0, op4_1, op4_2, op4_3, op4_4, op4_5, op4_6, op4_7]

theorem o4_0 {Q : Exit → Act → World → Prop} {K : Act → World → Prop} {a : Act} {w : World} {bg : Nat} {x y : Option Addr} {n1 q1 n2 q2 : Nat} (h : (a.tmps[2]?.getD undef) = .pointer (some ⟨bg, 0, none⟩)) (c0 : w.cell? ⟨bg, 0, none⟩ = some (.slice x n1 q1)) (c1 : w.cell? ⟨bg, 1, none⟩ = some (.slice y n2 q2)) (hK : K (a.put (some 32) (.agg #[.slice x n1 q1, .slice y n2 q2])) w) : Oper.wp Try.prog op4_0 a w K Q := by
  unfold Oper.wp op4_0
  go_simp
  exact hK

theorem o4_1 {Q : Exit → Act → World → Prop} {K : Act → World → Prop} {a : Act} {w : World} {k : Nat} (h : (a.tmps[1]?.getD undef) = .int .u8 k) (hK : K (a.put (some 33) (.int .u8 k)) w) : Oper.wp Try.prog op4_1 a w K Q := by
  unfold Oper.wp op4_1
  go_simp
  exact hK

theorem o4_2 {Q : Exit → Act → World → Prop} {K : Act → World → Prop} {a : Act} {w : World} {k : Nat} (h : (a.tmps[33]?.getD undef) = .int .u8 k) (hk : k < 256) (hK : K (a.put (some 34) (.int .i64 k)) w) : Oper.wp Try.prog op4_2 a w K Q := by
  unfold Oper.wp op4_2
  have hw : IntKind.i64.wrap (k : Int) = (k : Int) := by rw [IntKind.wrap_i64]; omega
  go_simp
  exact hK

theorem o4_3 {Q : Exit → Act → World → Prop} {K : Act → World → Prop} {a : Act} {w : World} {n : Nat} (h : (a.tmps[5]?.getD undef) = .int .i64 n) (hK : K (a.put (some 35) (.int .i64 n)) w) : Oper.wp Try.prog op4_3 a w K Q := by
  unfold Oper.wp op4_3
  go_simp
  exact hK

theorem o4_4 {Q : Exit → Act → World → Prop} {K : Act → World → Prop} {a : Act} {w : World} {k n : Nat} (h1 : (a.tmps[34]?.getD undef) = .int .i64 k) (h2 : (a.tmps[35]?.getD undef) = .int .i64 n) (hn : 0 < n) (hk : k < 256) (hK : K (a.put (some 36) (.int .i64 ((k % n : Nat) : Int))) w) : Oper.wp Try.prog op4_4 a w K Q := by
  unfold Oper.wp op4_4
  have hm : (k : Int).tmod (n : Int) = ((k % n : Nat) : Int) := by rw [Int.ofNat_tmod]
  have hlt : k % n ≤ k := Nat.mod_le _ _
  have hw : IntKind.i64.wrap ((k % n : Nat) : Int) = ((k % n : Nat) : Int) := by rw [IntKind.wrap_i64]; omega
  have hn0 : ¬ (n : Int) = 0 := by omega
  have hn1 : ¬ n = 0 := by omega
  go_simp
  exact hK

theorem o4_6 {Q : Exit → Act → World → Prop} {K : Act → World → Prop} {a : Act} {w : World}  (hK : K (a.put (some 6) (.pointer (some ⟨w.heap.size, 0, none⟩))) (w.alloc (.cells #[.slice none 0 0, .slice none 0 0] 25))) : Oper.wp Try.prog op4_6 a w K Q := by
  unfold Oper.wp op4_6
  go_simp
  exact hK

theorem o4_7 {Q : Exit → Act → World → Prop} {K : Act → World → Prop} {a : Act} {w : World} {b : Nat} {x y : Option Addr} {n1 q1 n2 q2 : Nat} {u0 u1 : Value} (h1 : (a.tmps[6]?.getD undef) = .pointer (some ⟨b, 0, none⟩)) (h2 : (a.tmps[37]?.getD undef) = .agg #[.slice x n1 q1, .slice y n2 q2]) (c0 : w.cell? ⟨b, 0, none⟩ = some u0) (c1 : w.cell? ⟨b, 1, none⟩ = some u1) (f0 : w.frozen? ⟨b, 0, none⟩ = false) (f1 : w.frozen? ⟨b, 1, none⟩ = false) (hK : K a ((w.setCell ⟨b, 0, none⟩ (.slice x n1 q1)).setCell ⟨b, 1, none⟩ (.slice y n2 q2))) : Oper.wp Try.prog op4_7 a w K Q := by
  unfold Oper.wp op4_7
  go_simp
  exact hK

theorem o4_5 {Q : Exit → Act → World → Prop} {K : Act → World → Prop} {a : Act} {w : World} {x y : Value} (h1 : (a.tmps[32]?.getD undef) = x) (h2 : (a.tmps[36]?.getD undef) = y) (hc : Calls Try.prog 19 #[x, y] w fun e w' => ∃ v, e = .returned v ∧ K (a.put (some 37) v) w') : Oper.wp Try.prog op4_5 a w K Q := by
  have hex : (execOp a.eval op4_5).run Try.prog w = .ok (.enter 19 #[x, y]) w := by
    unfold op4_5
    subst h1 h2
    go_simp
  unfold Oper.wp
  rw [hex, Oper.upon_enter]
  refine hc.mono ?_
  rintro e w' ⟨v, rfl, hr⟩
  exact hr

def I4 (c : Ctx4) (listed : Array Bool) (a : Act) (w : World) : Prop := listed.size = 8 ∧ ∃ b6, R4 c (fun j => listed.getD j false = true) b6 a w

theorem I4_put {c : Ctx4} {listed : Array Bool} (hs : listed.size = 8) {i : Nat} (hi : i < 8) {b6 : Nat} {a : Act} {w : World} (h : R4 c (fun j => j = i ∨ listed.getD j false = true) b6 a w) : I4 c (listed.setIfInBounds i true) a w := by
  refine ⟨by simp [hs], b6, ?_⟩
  have e : (fun j => (listed.setIfInBounds i true).getD j false = true) = (fun j => j = i ∨ listed.getD j false = true) := by
    funext j
    apply propext
    by_cases hj : j = i
    · subst hj
      simp [hs, hi]
    · simp only [hj, false_or, Array.getD_eq_getD_getElem?, Array.getElem?_setIfInBounds_ne (fun h => hj h.symm)]
  rw [e]
  exact h

theorem ready4 {listed : Array Bool} {i : Nat} (h : i ∈ Region.ready .any ops4 listed) : listed.getD i true = false ∧ ∃ o, ops4[i]? = some o ∧ ∀ e ∈ o.after, Region.binds .any e = true → listed.getD e.on false = true := mem_ready.1 h

theorem st4_0 {c : Ctx4} (hc : Ok4 c) {Q : Exit → Act → World → Prop} {listed : Array Bool} {a : Act} {w : World} (hI : I4 c listed a w) (hm : 0 ∈ Region.ready .any ops4 listed) : wpOp Try.prog ops4 Q 0 (I4 c (listed.setIfInBounds 0 true)) a w := by
  obtain ⟨hs, b6, h⟩ := hI
  obtain ⟨hn, o, ho, hall⟩ := ready4 hm
  have hn := not_done hn
  obtain rfl : op4_0 = o := by injection ho
  refine wpOp_of (o := op4_0) rfl rfl ?_
  exact o4_0 (h.t2 hc) ((h.hb.cell (p := ⟨c.bg, 0, none⟩) hc.bgl).trans hc.g0) ((h.hb.cell (p := ⟨c.bg, 1, none⟩) hc.bgl).trans hc.g1) (I4_put hs (by omega) (h.d0 hc hn))

theorem st4_1 {c : Ctx4} (hc : Ok4 c) {Q : Exit → Act → World → Prop} {listed : Array Bool} {a : Act} {w : World} (hI : I4 c listed a w) (hm : 1 ∈ Region.ready .any ops4 listed) : wpOp Try.prog ops4 Q 1 (I4 c (listed.setIfInBounds 1 true)) a w := by
  obtain ⟨hs, b6, h⟩ := hI
  obtain ⟨hn, o, ho, hall⟩ := ready4 hm
  have hn := not_done hn
  obtain rfl : op4_1 = o := by injection ho
  refine wpOp_of (o := op4_1) rfl rfl ?_
  exact o4_1 (h.t1 hc) (I4_put hs (by omega) (h.d1 hc hn))

theorem st4_2 {c : Ctx4} (hc : Ok4 c) {Q : Exit → Act → World → Prop} {listed : Array Bool} {a : Act} {w : World} (hI : I4 c listed a w) (hm : 2 ∈ Region.ready .any ops4 listed) : wpOp Try.prog ops4 Q 2 (I4 c (listed.setIfInBounds 2 true)) a w := by
  obtain ⟨hs, b6, h⟩ := hI
  obtain ⟨hn, o, ho, hall⟩ := ready4 hm
  have hn := not_done hn
  obtain rfl : op4_2 = o := by injection ho
  refine wpOp_of (o := op4_2) rfl rfl ?_
  have l1 : listed.getD 1 false = true := hall ⟨1, .data⟩ (by simp [op4_2]) rfl
  exact o4_2 (h.s1 l1) hc.k8 (I4_put hs (by omega) (h.d2 hc hn))

theorem st4_3 {c : Ctx4} (hc : Ok4 c) {Q : Exit → Act → World → Prop} {listed : Array Bool} {a : Act} {w : World} (hI : I4 c listed a w) (hm : 3 ∈ Region.ready .any ops4 listed) : wpOp Try.prog ops4 Q 3 (I4 c (listed.setIfInBounds 3 true)) a w := by
  obtain ⟨hs, b6, h⟩ := hI
  obtain ⟨hn, o, ho, hall⟩ := ready4 hm
  have hn := not_done hn
  obtain rfl : op4_3 = o := by injection ho
  refine wpOp_of (o := op4_3) rfl rfl ?_
  exact o4_3 (h.t5 hc) (I4_put hs (by omega) (h.d3 hc hn))

theorem st4_4 {c : Ctx4} (hc : Ok4 c) {Q : Exit → Act → World → Prop} {listed : Array Bool} {a : Act} {w : World} (hI : I4 c listed a w) (hm : 4 ∈ Region.ready .any ops4 listed) : wpOp Try.prog ops4 Q 4 (I4 c (listed.setIfInBounds 4 true)) a w := by
  obtain ⟨hs, b6, h⟩ := hI
  obtain ⟨hn, o, ho, hall⟩ := ready4 hm
  have hn := not_done hn
  obtain rfl : op4_4 = o := by injection ho
  refine wpOp_of (o := op4_4) rfl rfl ?_
  have l2 : listed.getD 2 false = true := hall ⟨2, .data⟩ (by simp [op4_4]) rfl
  have l3 : listed.getD 3 false = true := hall ⟨3, .data⟩ (by simp [op4_4]) rfl
  exact o4_4 (h.s2 l2) (h.s3 l3) hc.hn hc.k8 (I4_put hs (by omega) (h.d4 hc hn))

theorem st4_5 {c : Ctx4} (hc : Ok4 c) {Q : Exit → Act → World → Prop} {listed : Array Bool} {a : Act} {w : World} (hI : I4 c listed a w) (hm : 5 ∈ Region.ready .any ops4 listed) : wpOp Try.prog ops4 Q 5 (I4 c (listed.setIfInBounds 5 true)) a w := by
  obtain ⟨hs, b6, h⟩ := hI
  obtain ⟨hn, o, ho, hall⟩ := ready4 hm
  have hn := not_done hn
  obtain rfl : op4_5 = o := by injection ho
  refine wpOp_of (o := op4_5) rfl rfl ?_
  have l0 : listed.getD 0 false = true := hall ⟨0, .data⟩ (by simp [op4_5]) rfl
  have l4 : listed.getD 4 false = true := hall ⟨4, .data⟩ (by simp [op4_5]) rfl
  have hU := h.hb.size
  refine o4_5 (h.s0 l0) (h.s4 l4) ((rot_c c.ao c.ar c.aoc c.arc c.g (c.k % c.g.objs.length) w ((hc.ho.below h.hb).mono hU) ((hc.hr.below h.hb).mono hU) hc.hG hc.hn (Nat.mod_lt _ hc.hn)).mono ?_)
  rintro e w' ⟨ao', co', ar', cr', rfl, ⟨base, es, hbase, hO⟩, hV, hbs, hb⟩
  exact ⟨_, rfl, I4_put hs (by omega) (h.d5 hc hn ⟨ao', co', ar', cr', base, es, rfl, hbase, hO, hV, hbs⟩ hb)⟩

theorem st4_6 {c : Ctx4} (hc : Ok4 c) {Q : Exit → Act → World → Prop} {listed : Array Bool} {a : Act} {w : World} (hI : I4 c listed a w) (hm : 6 ∈ Region.ready .any ops4 listed) : wpOp Try.prog ops4 Q 6 (I4 c (listed.setIfInBounds 6 true)) a w := by
  obtain ⟨hs, b6, h⟩ := hI
  obtain ⟨hn, o, ho, hall⟩ := ready4 hm
  have hn := not_done hn
  obtain rfl : op4_6 = o := by injection ho
  refine wpOp_of (o := op4_6) rfl rfl ?_
  exact o4_6 (I4_put hs (by omega) (h.d6 hc hn))

theorem st4_7 {c : Ctx4} (hc : Ok4 c) {Q : Exit → Act → World → Prop} {listed : Array Bool} {a : Act} {w : World} (hI : I4 c listed a w) (hm : 7 ∈ Region.ready .any ops4 listed) : wpOp Try.prog ops4 Q 7 (I4 c (listed.setIfInBounds 7 true)) a w := by
  obtain ⟨hs, b6, h⟩ := hI
  obtain ⟨hn, o, ho, hall⟩ := ready4 hm
  have hn := not_done hn
  obtain rfl : op4_7 = o := by injection ho
  refine wpOp_of (o := op4_7) rfl rfl ?_
  have l6 : listed.getD 6 false = true := hall ⟨6, .data⟩ (by simp [op4_7]) rfl
  have l5 : listed.getD 5 false = true := hall ⟨5, .data⟩ (by simp [op4_7]) rfl
  obtain ⟨B, w5, ⟨ao', co', ar', cr', base, es, hv5, hbase, hO, hV, hbs⟩, hB1, hB2, hbw, hap⟩ := h.s5 l5 hn
  obtain ⟨r1, r2, r3, r4, r5, ⟨u0, r6⟩, ⟨u1, r7⟩⟩ := h.s6 l6
  exact o4_7 r1 hv5 r6 r7 r4 r5 (I4_put hs (by omega) (h.d7 hc hn l5 l6 hv5))

theorem after4 : ∀ (i : Nat) (o : Oper), ops4[i]? = some o → ∀ e ∈ o.after, e.on < i := by
  intro i o ho
  have hlt : i < 8 := (Array.getElem?_eq_some_iff.1 ho).1
  match i, hlt with
  | 0, _ => exact (by obtain rfl : op4_0 = o := (by injection ho); simp [op4_0])
  | 1, _ => exact (by obtain rfl : op4_1 = o := (by injection ho); simp [op4_1])
  | 2, _ => exact (by obtain rfl : op4_2 = o := (by injection ho); simp [op4_2])
  | 3, _ => exact (by obtain rfl : op4_3 = o := (by injection ho); simp [op4_3])
  | 4, _ => exact (by obtain rfl : op4_4 = o := (by injection ho); simp [op4_4])
  | 5, _ => exact (by obtain rfl : op4_5 = o := (by injection ho); simp [op4_5])
  | 6, _ => exact (by obtain rfl : op4_6 = o := (by injection ho); simp [op4_6])
  | 7, _ => exact (by obtain rfl : op4_7 = o := (by injection ho); simp [op4_7])

theorem region4 {c : Ctx4} (hc : Ok4 c) {Q : Exit → Act → World → Prop} {w : World} {rid : Nat} (hw : c.U = w.drew)
    (hdone : ∀ a' w' b6, Agr ds4 c.a0 a' → (a'.tmps[6]?.getD undef) = .pointer (some ⟨b6, 0, none⟩) → c.U.heap.size ≤ b6 → b6 < w'.heap.size → Below c.U.heap.size c.U w' → Laid4 c b6 w' → Q .normal a' w') : (Code.region rid ops4 true).wp Try.prog Q c.a0 w := by
  refine wp_region_inv Try.mixed (I4 c) (fun listed a w h => h.1) ?_ ?_ ?_
  · refine ⟨rfl, 0, ?_⟩
    have hL : (fun j => (Array.replicate ops4.size false).getD j false = true) = (fun _ => False) := by
      funext j
      apply propext
      by_cases hj : j < ops4.size <;> simp [hj]
    rw [hL, ← hw]
    exact ⟨Below.refl _ _, Agr.refl _ _, id, id, fun h => h.elim, fun h => h.elim, fun h => h.elim, fun h => h.elim, fun h => h.elim, fun h => h.elim, fun h => h.elim, fun h => h.elim⟩
  · intro listed a w i hI hm
    have hlt : i < 8 := by
      obtain ⟨_, o, ho, _⟩ := ready4 hm
      exact (Array.getElem?_eq_some_iff.1 ho).1
    match i, hlt with
    | 0, _ => exact st4_0 hc hI hm
    | 1, _ => exact st4_1 hc hI hm
    | 2, _ => exact st4_2 hc hI hm
    | 3, _ => exact st4_3 hc hI hm
    | 4, _ => exact st4_4 hc hI hm
    | 5, _ => exact st4_5 hc hI hm
    | 6, _ => exact st4_6 hc hI hm
    | 7, _ => exact st4_7 hc hI hm
  · rintro listed a w ⟨hs, b6, h⟩ hr
    have hall := ready_none after4 hs hr
    have l6 := hall 6 (by decide)
    have l7 := hall 7 (by decide)
    obtain ⟨r1, r2, r3, _⟩ := h.s6 l6
    exact hdone a w b6 h.ag r1 r2 r3 h.hb (h.s7 l7)

end Go.Proofs.Ytmelhphhealomaa
