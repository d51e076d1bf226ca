/- Plain: the words of values and headers. -/
import Derived.WalkKit
import Derived.WalkSpells
import Derived.WalkLawsBesides
import Derived.Laws.BitsAllLaws
import Derived.Test.YtahdalejmfbkeaaMem
namespace Go.Proofs.Ytahdalejmfbkeaa
set_option linter.unusedSimpArgs false
set_option linter.unusedVariables false
open Go.RowKit

/-- The word of a value, and what is wrong with it. -/
def packW (r : Bool) (n : Int) : Int :=
  if r then (if n < 0 ∨ 256 ≤ n then 0 else 2 * n) else (if n < -4611686018427387904 ∨ 4611686018427387903 < n then 0 else (2 * n + 1) % 18446744073709551616)
def packE (r : Bool) (n : Int) : Int :=
  if r then (if n < 0 ∨ 256 ≤ n then 2 else 0) else (if n < -4611686018427387904 ∨ 4611686018427387903 < n then 3 else 0)

/-- The value of a word, and what is wrong with it. -/
def unRef (x : Int) : Bool := decide (x % 2 = 0 ∧ x < 512)
def unNum (x : Int) : Int := if x % 2 = 0 then (if x < 512 then x / 2 else 0) else if x < 9223372036854775808 then x / 2 else x / 2 - 9223372036854775808
def unErr (x : Int) : Int := if x % 2 = 0 then (if x < 512 then 0 else 2) else 0

/-- The word of a header, and what is wrong with it. -/
def headOk (l a : Int) : Bool := decide (0 ≤ l ∧ l ≤ 4 ∧ 0 ≤ a ∧ a ≤ 7)
def headW (l : Int) (m : Bool) (a : Int) : Int := if headOk l a then 11889503016258109440 + a * 512 + l + (if m then 256 else 0) else 0
def headE (l a : Int) : Int := if headOk l a then 0 else 3

/-- The header of a word. -/
def unheadOk (x : Int) : Bool := decide (x % 256 ≤ 4 ∧ x / 4096 = 2902710697328640)
def uhL (x : Int) : Int := if unheadOk x then x % 256 else 0
def uhM (x : Int) : Bool := unheadOk x && decide (x / 256 % 2 = 1)
def uhA (x : Int) : Int := if unheadOk x then x / 512 % 8 else 0
def uhE (x : Int) : Int := if unheadOk x then 0 else 4

theorem ret_two {a b c d : Int} (h1 : a = c) (h2 : b = d) : Ending.returned (.tuple #[.int .u64 a, .int .i64 b]) = .returned (.tuple #[.int .u64 c, .int .i64 d]) := by rw [h1, h2]

theorem or_nat (a b : Int) (i : Nat) (h1 : 0 ≤ a) (h2 : a < 18446744073709551616) (h3 : 0 ≤ b) (h4 : b < 18446744073709551616) (ha : a.toNat % 2 ^ i = 0) (hb : b.toNat < 2 ^ i) : bits .or .u64 a b = a + b := by
  rw [u64_or a b h1 h2 h3 h4, nat_join i _ _ ha hb]; omega

theorem pack_or (n : Int) : bits .or .u64 (IntKind.u64.wrap (IntKind.u64.wrap n * 2)) 1 = (2 * n + 1) % 18446744073709551616 := by
  rw [IntKind.wrap_u64, IntKind.wrap_u64, or_nat _ _ 1 (by omega) (by omega) (by omega) (by omega) (by omega) (by omega)]; omega

theorem head_or (l a : Int) (h1 : 0 ≤ l) (h2 : l ≤ 4) (h3 : 0 ≤ a) (h4 : a ≤ 7) : bits .or .u64 (bits .or .u64 11889503016258109440 (a * 512)) l = 11889503016258109440 + a * 512 + l := by
  rw [or_nat 11889503016258109440 (a * 512) 12 (by omega) (by omega) (by omega) (by omega) (by omega) (by omega), or_nat (11889503016258109440 + a * 512) l 9 (by omega) (by omega) (by omega) (by omega) (by omega) (by omega)]

theorem head_mark (l a : Int) (h1 : 0 ≤ l) (h2 : l ≤ 4) (h3 : 0 ≤ a) (h4 : a ≤ 7) : bits .or .u64 (bits .or .u64 (bits .or .u64 11889503016258109440 (a * 512)) l) 256 = 11889503016258109440 + a * 512 + l + 256 := by
  have e : (11889503016258109440 + a * 512 + l).toNat ||| 256 = (11889503016258109440 + a * 512).toNat ||| (l.toNat ||| 256) := by
    rw [← Nat.or_assoc, nat_join 9 _ l.toNat (by omega) (by omega)]; congr 1; omega
  rw [head_or l a h1 h2 h3 h4, u64_or _ _ (by omega) (by omega) (by omega) (by omega), show (256 : Int).toNat = 256 from rfl, e, Nat.or_comm l.toNat 256, nat_join 8 256 _ (by omega) (by omega), nat_join 9 _ _ (by omega) (by omega)]
  omega

end Go.Proofs.Ytahdalejmfbkeaa
