/- Walks: the iterator over references, to objects of a list. -/
import Derived.Test.YtkoidbekfjlfjaaProg
import Derived.Test.YtkoidbekfjlfjaaMem
import Derived.Test.YtkoidbekfjlfjaaWi
import Derived.Test.YtkoidbekfjlfjaaXa
import Derived.Test.YtkoidbekfjlfjaaIb
namespace Go.Proofs.Ytkoidbekfjlfjaa
set_option linter.unusedSimpArgs false
set_option linter.unusedVariables false
open Go.RowKit Go.Shelf
attribute [local go_sem] Oper.semAt_some

/-- The number of one of some objects. -/
abbrev ObS (S : List Int) := { x : Int // x ∈ S }

def obOfS (S : List Int) (v : V) : Option (ObS S) := if h : v.1 = true ∧ v.2 ∈ S then some ⟨v.2, h.2⟩ else none

def obsOfS (S : List Int) (l : List V) : List (ObS S) := l.filterMap (obOfS S)

def RefsOkS (S : List Int) (l : List V) : Prop := ∀ v ∈ l, v.1 = true → v.2 ∈ S

theorem obsOfS_no {S : List Int} {l : List V} {k : Nat} (hk : k < l.length) {n : Int} (h : l[k] = (false, n)) : obsOfS S (l.take (k + 1)) = obsOfS S (l.take k) := by
  rw [List.take_succ_eq_append_getElem hk, h]
  simp [obsOfS, obOfS]

theorem obsOfS_yes {S : List Int} {l : List V} {k : Nat} (hk : k < l.length) {n : Int} (h : l[k] = (true, n)) (hn : n ∈ S) : obsOfS S (l.take (k + 1)) = obsOfS S (l.take k) ++ [⟨n, hn⟩] := by
  rw [List.take_succ_eq_append_getElem hk, h]
  simp [obsOfS, obOfS, hn]

theorem obsOfS_len (S : List Int) (l : List V) : (obsOfS S l).length ≤ l.length := List.length_filterMap_le _ _

theorem obsOfS_prefix (S : List Int) (l : List V) (k : Nat) : obsOfS S (l.take k) <+: obsOfS S l := by
  refine ⟨obsOfS S (l.drop k), ?_⟩
  unfold obsOfS
  rw [← List.filterMap_append, List.take_append_drop]

def valsS {S : List Int} (xs : List (ObS S)) : List Int := xs.map (·.1)

theorem vals_obsS {S : List Int} (hN : ∀ x ∈ S, 0 ≤ x ∧ x < 24) : ∀ (l : List V), RefsOkS S l → valsS (obsOfS S l) = refsL l
  | [], _ => rfl
  | v :: l, h => by
    have ih := vals_obsS hN l (fun u hu => h u (by simp [hu]))
    unfold valsS obsOfS refsL valsOf obsOf at *
    rcases v with ⟨r, n⟩
    cases r
    · simpa [obOfS, obOf] using ih
    · have hn := h (true, n) (by simp) rfl
      have h24 : 0 ≤ n ∧ n < 24 := hN n hn
      simp at hn
      simp only [List.filterMap_cons]
      have e1 : obOfS S (true, n) = some ⟨n, hn⟩ := by simp [obOfS, hn]
      have e2 : obOf (true, n) = some ⟨n, h24⟩ := by simp [obOf, h24]
      rw [e1, e2]
      simp [ih]

def encS {S : List Int} (x : ObS S) : Array Value := #[.int .i64 x.1]

set_option maxRecDepth 100000 in
set_option maxHeartbeats 2000000 in
theorem refs1S_in {S : List Int} (hN : ∀ x ∈ S, 0 ≤ x ∧ x < 24) (n : Nat) (hn : 1 ≤ n) (l' Bs n₀ : Nat) (a : Option Addr) (cap : Nat) (l : List V) (hok : RefsOkS S l) (J Jx : List (ObS S) → World → Prop)
    (hY : ∀ pre x W, J pre W → pre.length < l.length → YieldAt Fence.wide (n - 1) Try.prog l' (encS x) W fun e W' =>
      (e = .returned (.bool true) ∧ J (pre ++ [x]) W' ∧ Below n₀ W W') ∨ (e = .returned (.bool false) ∧ Jx (pre ++ [x]) W'))
    (W : World) (hJa : ∀ pre X o, J pre X → J pre (X.alloc o)) (hn0 : n₀ ≤ W.heap.size) (hc0 : W.cell? ⟨Bs, 0, none⟩ = some (.slice a l.length cap))
    (hl : Vals n₀ W a l) (h0 : J [] W) :
    CallsIn Fence.wide n Try.prog 48 #[.func (.yield l') #[] #[], .pointer (some ⟨Bs, 0, none⟩)] W fun e W' => (∃ v, e = .returned v) ∧
      ((∃ ys, ys = obsOfS S l ∧ J ys W') ∨ (∃ pre, pre <+: obsOfS S l ∧ Jx pre W')) := by
  have hl1 := hl.1
  refine callsIn_of_wp Try.func48 rfl trivial ?_ rfl
  simp only [Try.ntmps48, List.size_toArray, List.length_cons, List.length_nil, Nat.reduceAdd, Nat.reduceSub, Array.replicate_succ, Array.replicate_zero, List.push_toArray, List.append_toArray, List.nil_append, List.cons_append]
  gi_wp2
  gi_loopw [7] (fun i wr => ∃ k : Nat, k ≤ l.length ∧ i = .int .i64 k ∧ J (obsOfS S (l.take k)) wr ∧ Below n₀ W wr) (fun i _ => l.length - (intOf i).toNat)
  case atStart => exact ⟨0, Nat.zero_le _, rfl, by simpa [obsOfS] using h0, Below.refl _ _⟩
  case round =>
    obtain ⟨k, hk, rfl, hJ, hb⟩ := hrel
    have hsz := hb.size
    by_cases hlt : k < l.length
    · obtain ⟨b, off, r, m, rfl, hbB, hd1, hd2, Hv⟩ := (hl.below hb).at hlt
      cases r
      · have HT := hide (obsOfS_no (S := S) hlt Hv.out)
        gi_wp2
        refine ⟨fun _ h => (by cases h), ?_⟩
        gi_wp2
        go_roundw
        case rel => exact ⟨k + 1, by omega, by go_num, by rw [unhide HT]; exact hJa _ _ _ hJ, hb.alloc (by omega) _⟩
        case measure => simp [intOf]; omega
      · have hm := hok l[k] (List.getElem_mem hlt)
        rw [Hv.out] at hm
        have hm := hm rfl
        have HT := hide (obsOfS_yes hlt Hv.out hm)
        have HP := hide (obsOfS_prefix S l (k + 1))
        obtain ⟨fn, tmps, assign, body, hy, hR⟩ := hY _ ⟨m, hm⟩ (wr.alloc (.cells #[.bool true, .int .i64 m] 54)) (hJa _ _ _ hJ) (by have := obsOfS_len S (l.take k); simp only [List.length_take] at this; omega)
        dsimp only [encS] at hy
        have hm1 : 0 ≤ m := (hN m hm).1
        have hm3 : m < 24 := (hN m hm).2
        gi_wp2
        refine hR.mono ?_
        rintro e W3 (⟨rfl, hJ3, hk3⟩ | ⟨rfl, hJx3⟩)
        · gi_wp2
          go_roundw
          case rel => exact ⟨k + 1, by omega, by go_num, by rw [unhide HT]; exact hJ3, (hb.alloc (by omega) _).trans hk3⟩
          case measure => simp [intOf]; omega
        · gi_wp2
          refine bodyPost_ret (results_none rfl _ _ _) rfl ?_
          exact ⟨⟨_, rfl⟩, .inr ⟨_, by rw [← unhide HT]; exact unhide HP, hJx3⟩⟩
    · obtain rfl : k = l.length := by omega
      rw [List.take_length] at hJ
      gi_wp2
      go_end0
      exact ⟨⟨_, rfl⟩, .inl ⟨_, rfl, hJ⟩⟩

theorem refs1S_stops {S : List Int} (hN : ∀ x ∈ S, 0 ≤ x ∧ x < 24) (n : Nat) (hn : 1 ≤ n) (Bs n₀ : Nat) (a : Option Addr) (cap : Nat) (l : List V) (hok : RefsOkS S l) (w : World) (hn0 : n₀ ≤ w.heap.size) (hBs : Bs < w.heap.size)
    (hc0 : w.cell? ⟨Bs, 0, none⟩ = some (.slice a l.length cap)) (hl : Vals n₀ w a l) :
    SeqStopsK Fence.wide n Try.prog 48 #[.pointer (some ⟨Bs, 0, none⟩)] encS (Below n₀) (fun ys => ys = obsOfS S l) (fun pre => pre <+: obsOfS S l) l.length w := fun l' J Jx W hW hJ _ hY h0 => by
  have := hW.size
  exact refs1S_in hN n hn l' Bs n₀ a cap l hok J Jx hY W (fun pre X o hj => hJ pre X _ none hj (World.grownBy_alloc X o none) (fun r e => by cases e)) (by omega)
    ((hW.cell (p := ⟨Bs, 0, none⟩) hBs).trans hc0) (hl.below (hW.mono hn0)) h0


end Go.Proofs.Ytkoidbekfjlfjaa
