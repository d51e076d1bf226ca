/- Walks: the iterator over references. -/
import Derived.Test.YtmelhphhealomaaProg
import Derived.Test.YtmelhphhealomaaMem
import Derived.Test.YtmelhphhealomaaWg
namespace Go.Proofs.Ytmelhphhealomaa
set_option linter.unusedSimpArgs false
set_option linter.unusedVariables false
open Go.RowKit Go.Shelf
attribute [local go_sem] Oper.semAt_some

/-- An object's number. -/
abbrev Ob := { x : Int // 0 ≤ x ∧ x < 24 }

def obOf (v : V) : Option Ob := if h : v.1 = true ∧ 0 ≤ v.2 ∧ v.2 < 24 then some ⟨v.2, h.2⟩ else none

/-- The objects to which a list of values refers. -/
def obsOf (l : List V) : List Ob := l.filterMap obOf

/-- All references are to numbers of objects. -/
def RefsOk (l : List V) : Prop := ∀ v ∈ l, v.1 = true → 0 ≤ v.2 ∧ v.2 < 24

theorem obsOf_no {l : List V} {k : Nat} (hk : k < l.length) {n : Int} (h : l[k] = (false, n)) : obsOf (l.take (k + 1)) = obsOf (l.take k) := by
  rw [List.take_succ_eq_append_getElem hk, h]
  simp [obsOf, obOf]

theorem obsOf_yes {l : List V} {k : Nat} (hk : k < l.length) {n : Int} (h : l[k] = (true, n)) (hn : 0 ≤ n ∧ n < 24) : obsOf (l.take (k + 1)) = obsOf (l.take k) ++ [⟨n, hn⟩] := by
  rw [List.take_succ_eq_append_getElem hk, h]
  simp [obsOf, obOf, hn]

theorem obsOf_len (l : List V) : (obsOf l).length ≤ l.length := List.length_filterMap_le _ _

theorem obsOf_prefix (l : List V) (k : Nat) : obsOf (l.take k) <+: obsOf l := by
  refine ⟨obsOf (l.drop k), ?_⟩
  unfold obsOf
  rw [← List.filterMap_append, List.take_append_drop]

def encO (x : Ob) : Array Value := #[.int .i64 x.1]

set_option maxRecDepth 100000 in
set_option maxHeartbeats 2000000 in
theorem refs1_in (n : Nat) (hn : 1 ≤ n) (l' Bs n₀ : Nat) (a : Option Addr) (cap : Nat) (l : List V) (hok : RefsOk l) (J Jx : List Ob → World → Prop)
    (hY : ∀ pre x W, J pre W → pre.length < l.length → YieldAt Fence.wide (n - 1) Try.prog l' (encO x) W fun e W' =>
      (e = .returned (.bool true) ∧ J (pre ++ [x]) W' ∧ Below n₀ W W') ∨ (e = .returned (.bool false) ∧ Jx (pre ++ [x]) W'))
    (W : World) (hJa : ∀ pre X o, J pre X → J pre (X.alloc o)) (hn0 : n₀ ≤ W.heap.size) (hc0 : W.cell? ⟨Bs, 0, none⟩ = some (.slice a l.length cap))
    (hl : Vals n₀ W a l) (h0 : J [] W) :
    CallsIn Fence.wide n Try.prog 45 #[.func (.yield l') #[] #[], .pointer (some ⟨Bs, 0, none⟩)] W fun e W' => (∃ v, e = .returned v) ∧
      ((∃ ys, ys = obsOf l ∧ J ys W') ∨ (∃ pre, pre <+: obsOf l ∧ Jx pre W')) := by
  have hl1 := hl.1
  refine callsIn_of_wp Try.func45 rfl trivial ?_ rfl
  simp only [Try.ntmps45, List.size_toArray, List.length_cons, List.length_nil, Nat.reduceAdd, Nat.reduceSub, Array.replicate_succ, Array.replicate_zero, List.push_toArray, List.append_toArray, List.nil_append, List.cons_append]
  gi_wp2
  gi_loopw [7] (fun i wr => ∃ k : Nat, k ≤ l.length ∧ i = .int .i64 k ∧ J (obsOf (l.take k)) wr ∧ Below n₀ W wr) (fun i _ => l.length - (intOf i).toNat)
  case atStart => exact ⟨0, Nat.zero_le _, rfl, by simpa [obsOf] using h0, Below.refl _ _⟩
  case round =>
    obtain ⟨k, hk, rfl, hJ, hb⟩ := hrel
    have hsz := hb.size
    by_cases hlt : k < l.length
    · obtain ⟨b, off, r, m, rfl, hbB, hd1, hd2, Hv⟩ := (hl.below hb).at hlt
      cases r
      · have HT := hide (obsOf_no hlt Hv.out)
        gi_wp2
        refine ⟨fun _ h => (by cases h), ?_⟩
        gi_wp2
        go_roundw
        case rel => exact ⟨k + 1, by omega, by go_num, by rw [unhide HT]; exact hJa _ _ _ hJ, hb.alloc (by omega) _⟩
        case measure => simp [intOf]; omega
      · have hm := hok l[k] (List.getElem_mem hlt)
        rw [Hv.out] at hm
        have hm := hm rfl
        have HT := hide (obsOf_yes hlt Hv.out hm)
        have HP := hide (obsOf_prefix l (k + 1))
        obtain ⟨fn, tmps, assign, body, hy, hR⟩ := hY _ ⟨m, hm⟩ (wr.alloc (.cells #[.bool true, .int .i64 m] 35)) (hJa _ _ _ hJ) (by have := obsOf_len (l.take k); simp only [List.length_take] at this; omega)
        dsimp only [encO] at hy
        obtain ⟨hm1, hm2⟩ := hm
        gi_wp2
        refine hR.mono ?_
        rintro e W3 (⟨rfl, hJ3, hk3⟩ | ⟨rfl, hJx3⟩)
        · gi_wp2
          go_roundw
          case rel => exact ⟨k + 1, by omega, by go_num, by rw [unhide HT]; exact hJ3, (hb.alloc (by omega) _).trans hk3⟩
          case measure => simp [intOf]; omega
        · gi_wp2
          refine bodyPost_ret (results_none rfl _ _ _) rfl ?_
          exact ⟨⟨_, rfl⟩, .inr ⟨_, by rw [← unhide HT]; exact unhide HP, hJx3⟩⟩
    · obtain rfl : k = l.length := by omega
      rw [List.take_length] at hJ
      gi_wp2
      go_end0
      exact ⟨⟨_, rfl⟩, .inl ⟨_, rfl, hJ⟩⟩

theorem refs1_stops (n : Nat) (hn : 1 ≤ n) (Bs n₀ : Nat) (a : Option Addr) (cap : Nat) (l : List V) (hok : RefsOk l) (w : World) (hn0 : n₀ ≤ w.heap.size) (hBs : Bs < w.heap.size)
    (hc0 : w.cell? ⟨Bs, 0, none⟩ = some (.slice a l.length cap)) (hl : Vals n₀ w a l) :
    SeqStopsK Fence.wide n Try.prog 45 #[.pointer (some ⟨Bs, 0, none⟩)] encO (Below n₀) (fun ys => ys = obsOf l) (fun pre => pre <+: obsOf l) l.length w := fun l' J Jx W hW hJ _ hY h0 => by
  have := hW.size
  exact refs1_in n hn l' Bs n₀ a cap l hok J Jx hY W (fun pre X o hj => hJ pre X _ none hj (World.grownBy_alloc X o none) (fun r e => by cases e)) (by omega)
    ((hW.cell (p := ⟨Bs, 0, none⟩) hBs).trans hc0) (hl.below (hW.mono hn0)) h0

set_option maxHeartbeats 400000 in
theorem refs_c (a : Option Addr) (len cap : Nat) (w : World) :
    Calls Try.prog 38 #[.slice a len cap] w fun e w' => e = .returned (.func (.func 45) #[] #[.pointer (some ⟨w.heap.size, 0, none⟩)]) ∧ w' = w.alloc (.cells #[.slice a len cap] 23) := by
  go_enter Try.func38, Try.ntmps38
  go_wp2
  go_ret
  exact ⟨rfl, rfl⟩

end Go.Proofs.Ytmelhphhealomaa
