/- The region of GraphRenamed that lays one more object, walked by its invariant. -/
import Derived.Test.YtmelhphhealomaaProg
import Derived.Test.YtmelhphhealomaaMem
import Derived.Test.YtmelhphhealomaaTe
import Derived.Test.YtmelhphhealomaaWl
namespace Go.Proofs.Ytmelhphhealomaa
set_option linter.unusedSimpArgs false
set_option linter.unusedVariables false
open Go.RowKit

def op6_0 : Oper := { dst := some 44, op := Op.fieldAddr 25 (Operand.tmp 2) 1, type := 0, pos := "low.go:160", after := #[], guard := none }
def op6_1 : Oper := { dst := some 45, op := Op.load 23 (Operand.tmp 44), type := 23, pos := "low.go:160", after := #[{ on := 0, ground := Ground.data }], guard := none }
def op6_2 : Oper := { dst := some 46, op := Op.buildSlice 22 0 #[], type := 22, pos := "low.go:160", after := #[], guard := none }
def op6_3 : Oper := { dst := some 47, op := Op.fieldAddr 25 (Operand.tmp 2) 0, type := 0, pos := "low.go:160", after := #[], guard := none }
def op6_4 : Oper := { dst := some 48, op := Op.load 22 (Operand.tmp 47), type := 22, pos := "low.go:160", after := #[{ on := 3, ground := Ground.data }], guard := none }
def op6_5 : Oper := { dst := some 49, op := Op.call { callee := Callee.builtin Builtin.append, args := #[Operand.tmp 46, Operand.tmp 48], argTypes := #[22, 22] }, type := 22, pos := "low.go:160", after := #[{ on := 2, ground := Ground.data }, { on := 4, ground := Ground.data }], guard := none }
def op6_6 : Oper := { dst := some 50, op := Op.build 35 #[(0, Operand.const (Value.bool true))], type := 35, pos := "low.go:160", after := #[], guard := none }
def op6_7 : Oper := { dst := some 51, op := Op.buildSlice 23 1 #[(0, Operand.tmp 50)], type := 23, pos := "low.go:160", after := #[{ on := 6, ground := Ground.data }], guard := none }
def op6_8 : Oper := { dst := some 52, op := Op.build 43 #[(0, Operand.tmp 51)], type := 43, pos := "low.go:160", after := #[{ on := 7, ground := Ground.data }], guard := none }
def op6_9 : Oper := { dst := some 53, op := Op.buildSlice 22 1 #[(0, Operand.tmp 52)], type := 22, pos := "low.go:160", after := #[{ on := 8, ground := Ground.data }], guard := none }
def op6_10 : Oper := { dst := some 54, op := Op.call { callee := Callee.builtin Builtin.append, args := #[Operand.tmp 49, Operand.tmp 53], argTypes := #[22, 22] }, type := 22, pos := "low.go:160", after := #[{ on := 5, ground := Ground.data }, { on := 9, ground := Ground.data }, { on := 5, ground := Ground.chain }], guard := none }
def op6_11 : Oper := { dst := some 55, op := Op.build 25 #[(1, Operand.tmp 45), (0, Operand.tmp 54)], type := 25, pos := "low.go:160", after := #[{ on := 1, ground := Ground.data }, { on := 10, ground := Ground.data }], guard := none }
def op6_12 : Oper := { dst := some 9, op := Op.alloc 25, type := 0, pos := "low.go:160", after := #[], guard := none }
def op6_13 : Oper := { dst := none, op := Op.store 25 (Operand.tmp 9) (Operand.tmp 55), type := 0, pos := "low.go:160", after := #[{ on := 12, ground := Ground.data }, { on := 11, ground := Ground.data }, { on := 10, ground := Ground.chain }, { on := 0, ground := Ground.phase }, { on := 1, ground := Ground.phase }, { on := 2, ground := Ground.phase }, { on := 3, ground := Ground.phase }, { on := 4, ground := Ground.phase }, { on := 5, ground := Ground.phase }, { on := 6, ground := Ground.phase }, { on := 7, ground := Ground.phase }, { on := 8, ground := Ground.phase }, { on := 9, ground := Ground.phase }, { on := 10, ground := Ground.phase }, { on := 11, ground := Ground.phase }, { on := 12, ground := Ground.phase }], guard := none }
def ops6 : Array Oper := #[op6_0, op6_1, op6_2, op6_3, op6_4, op6_5, op6_6, op6_7, op6_8, op6_9, op6_10, op6_11, op6_12, op6_13]

theorem o6_0 {Q : Exit → Act → World → Prop} {K : Act → World → Prop} {a : Act} {w : World} {bg : Nat} (h : (a.tmps[2]?.getD undef) = .pointer (some ⟨bg, 0, none⟩)) (hK : K (a.put (some 44) (.pointer (some ⟨bg, 1, none⟩))) w) : Oper.wp Try.prog op6_0 a w K Q := by
  unfold Oper.wp op6_0
  go_simp
  exact hK

theorem o6_1 {Q : Exit → Act → World → Prop} {K : Act → World → Prop} {a : Act} {w : World} {bg : Nat} {x : Option Addr} {m q : Nat} (h : (a.tmps[44]?.getD undef) = .pointer (some ⟨bg, 1, none⟩)) (hc : w.cell? ⟨bg, 1, none⟩ = some (.slice x m q)) (hK : K (a.put (some 45) (.slice x m q)) w) : Oper.wp Try.prog op6_1 a w K Q := by
  unfold Oper.wp op6_1
  go_simp
  exact hK

theorem o6_2 {Q : Exit → Act → World → Prop} {K : Act → World → Prop} {a : Act} {w : World}  (hK : K (a.put (some 46) (.slice (some ⟨w.heap.size, 0, none⟩) 0 0)) (w.alloc (.cells #[] 43))) : Oper.wp Try.prog op6_2 a w K Q := by
  unfold Oper.wp op6_2
  go_simp
  exact hK

theorem o6_3 {Q : Exit → Act → World → Prop} {K : Act → World → Prop} {a : Act} {w : World} {bg : Nat} (h : (a.tmps[2]?.getD undef) = .pointer (some ⟨bg, 0, none⟩)) (hK : K (a.put (some 47) (.pointer (some ⟨bg, 0, none⟩))) w) : Oper.wp Try.prog op6_3 a w K Q := by
  unfold Oper.wp op6_3
  go_simp
  exact hK

theorem o6_4 {Q : Exit → Act → World → Prop} {K : Act → World → Prop} {a : Act} {w : World} {bg : Nat} {x : Option Addr} {m q : Nat} (h : (a.tmps[47]?.getD undef) = .pointer (some ⟨bg, 0, none⟩)) (hc : w.cell? ⟨bg, 0, none⟩ = some (.slice x m q)) (hK : K (a.put (some 48) (.slice x m q)) w) : Oper.wp Try.prog op6_4 a w K Q := by
  unfold Oper.wp op6_4
  go_simp
  exact hK

theorem o6_6 {Q : Exit → Act → World → Prop} {K : Act → World → Prop} {a : Act} {w : World}  (hK : K (a.put (some 50) (.agg #[.bool true, .int .i64 0])) w) : Oper.wp Try.prog op6_6 a w K Q := by
  unfold Oper.wp op6_6
  go_simp
  exact hK

theorem o6_7 {Q : Exit → Act → World → Prop} {K : Act → World → Prop} {a : Act} {w : World} (h : (a.tmps[50]?.getD undef) = .agg #[.bool true, .int .i64 0]) (hK : K (a.put (some 51) (S1 w.heap.size)) (w.alloc (.cells #[.bool true, .int .i64 0] 35))) : Oper.wp Try.prog op6_7 a w K Q := by
  unfold Oper.wp op6_7
  unfold S1 at hK
  go_simp
  exact hK

theorem o6_8 {Q : Exit → Act → World → Prop} {K : Act → World → Prop} {a : Act} {w : World} {b : Nat} (h : (a.tmps[51]?.getD undef) = S1 b) (hK : K (a.put (some 52) (.agg #[S1 b])) w) : Oper.wp Try.prog op6_8 a w K Q := by
  unfold Oper.wp op6_8
  unfold S1 at h hK
  go_simp
  exact hK

theorem o6_9 {Q : Exit → Act → World → Prop} {K : Act → World → Prop} {a : Act} {w : World} {b : Nat} (h : (a.tmps[52]?.getD undef) = .agg #[S1 b]) (hK : K (a.put (some 53) (S1 w.heap.size)) (w.alloc (.cells #[S1 b] 43))) : Oper.wp Try.prog op6_9 a w K Q := by
  unfold Oper.wp op6_9
  unfold S1 at h hK
  go_simp
  exact hK

theorem o6_11 {Q : Exit → Act → World → Prop} {K : Act → World → Prop} {a : Act} {w : World} {x y : Option Addr} {n1 q1 n2 q2 : Nat} (h1 : (a.tmps[54]?.getD undef) = .slice x n1 q1) (h2 : (a.tmps[45]?.getD undef) = .slice y n2 q2) (hK : K (a.put (some 55) (.agg #[.slice x n1 q1, .slice y n2 q2])) w) : Oper.wp Try.prog op6_11 a w K Q := by
  unfold Oper.wp op6_11
  go_simp
  exact hK

theorem o6_12 {Q : Exit → Act → World → Prop} {K : Act → World → Prop} {a : Act} {w : World}  (hK : K (a.put (some 9) (.pointer (some ⟨w.heap.size, 0, none⟩))) (w.alloc (.cells #[.slice none 0 0, .slice none 0 0] 25))) : Oper.wp Try.prog op6_12 a w K Q := by
  unfold Oper.wp op6_12
  go_simp
  exact hK

theorem o6_13 {Q : Exit → Act → World → Prop} {K : Act → World → Prop} {a : Act} {w : World} {b : Nat} {x y : Option Addr} {n1 q1 n2 q2 : Nat} {u0 u1 : Value} (h1 : (a.tmps[9]?.getD undef) = .pointer (some ⟨b, 0, none⟩)) (h2 : (a.tmps[55]?.getD undef) = .agg #[.slice x n1 q1, .slice y n2 q2]) (c0 : w.cell? ⟨b, 0, none⟩ = some u0) (c1 : w.cell? ⟨b, 1, none⟩ = some u1) (f0 : w.frozen? ⟨b, 0, none⟩ = false) (f1 : w.frozen? ⟨b, 1, none⟩ = false) (hK : K a ((w.setCell ⟨b, 0, none⟩ (.slice x n1 q1)).setCell ⟨b, 1, none⟩ (.slice y n2 q2))) : Oper.wp Try.prog op6_13 a w K Q := by
  unfold Oper.wp op6_13
  go_simp
  exact hK

end Go.Proofs.Ytmelhphhealomaa
