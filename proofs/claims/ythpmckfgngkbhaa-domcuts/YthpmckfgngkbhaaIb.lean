/- Walks: the iterator over references, to objects below a number. -/
import Derived.Test.YthpmckfgngkbhaaProg
import Derived.Test.YthpmckfgngkbhaaMem
import Derived.Test.YthpmckfgngkbhaaWi
import Derived.Test.YthpmckfgngkbhaaXa
namespace Go.Proofs.Ythpmckfgngkbhaa
set_option linter.unusedSimpArgs false
set_option linter.unusedVariables false
open Go.RowKit Go.Shelf
attribute [local go_sem] Oper.semAt_some

/-- The number of one of N objects. -/
abbrev ObN (N : Nat) := { x : Int // 0 ≤ x ∧ x < N }

def obOfN (N : Nat) (v : V) : Option (ObN N) := if h : v.1 = true ∧ 0 ≤ v.2 ∧ v.2 < N then some ⟨v.2, h.2⟩ else none

def obsOfN (N : Nat) (l : List V) : List (ObN N) := l.filterMap (obOfN N)

def RefsOkN (N : Nat) (l : List V) : Prop := ∀ v ∈ l, v.1 = true → 0 ≤ v.2 ∧ v.2 < N

theorem obsOfN_no {N : Nat} {l : List V} {k : Nat} (hk : k < l.length) {n : Int} (h : l[k] = (false, n)) : obsOfN N (l.take (k + 1)) = obsOfN N (l.take k) := by
  rw [List.take_succ_eq_append_getElem hk, h]
  simp [obsOfN, obOfN]

theorem obsOfN_yes {N : Nat} {l : List V} {k : Nat} (hk : k < l.length) {n : Int} (h : l[k] = (true, n)) (hn : 0 ≤ n ∧ n < N) : obsOfN N (l.take (k + 1)) = obsOfN N (l.take k) ++ [⟨n, hn⟩] := by
  rw [List.take_succ_eq_append_getElem hk, h]
  simp [obsOfN, obOfN, hn]

theorem obsOfN_len (N : Nat) (l : List V) : (obsOfN N l).length ≤ l.length := List.length_filterMap_le _ _

theorem obsOfN_prefix (N : Nat) (l : List V) (k : Nat) : obsOfN N (l.take k) <+: obsOfN N l := by
  refine ⟨obsOfN N (l.drop k), ?_⟩
  unfold obsOfN
  rw [← List.filterMap_append, List.take_append_drop]

def valsN {N : Nat} (xs : List (ObN N)) : List Int := xs.map (·.1)

theorem vals_obsN {N : Nat} (hN : N ≤ 24) : ∀ (l : List V), RefsOkN N l → valsN (obsOfN N l) = refsL l
  | [], _ => rfl
  | v :: l, h => by
    have ih := vals_obsN hN l (fun u hu => h u (by simp [hu]))
    unfold valsN obsOfN refsL valsOf obsOf at *
    rcases v with ⟨r, n⟩
    cases r
    · simpa [obOfN, obOf] using ih
    · have hn := h (true, n) (by simp) rfl
      have h24 : 0 ≤ n ∧ n < 24 := by simp at hn; omega
      simp at hn
      simp only [List.filterMap_cons]
      have e1 : obOfN N (true, n) = some ⟨n, hn⟩ := by simp [obOfN, hn]
      have e2 : obOf (true, n) = some ⟨n, h24⟩ := by simp [obOf, h24]
      rw [e1, e2]
      simp [ih]

def encN {N : Nat} (x : ObN N) : Array Value := #[.int .i64 x.1]

set_option maxRecDepth 100000 in
set_option maxHeartbeats 2000000 in
theorem refs1N_in {N : Nat} (hN : N ≤ 24) (n : Nat) (hn : 1 ≤ n) (l' Bs n₀ : Nat) (a : Option Addr) (cap : Nat) (l : List V) (hok : RefsOkN N l) (J Jx : List (ObN N) → World → Prop)
    (hY : ∀ pre x W, J pre W → pre.length < l.length → YieldAt Fence.wide (n - 1) Try.prog l' (encN x) W fun e W' =>
      (e = .returned (.bool true) ∧ J (pre ++ [x]) W' ∧ Below n₀ W W') ∨ (e = .returned (.bool false) ∧ Jx (pre ++ [x]) W'))
    (W : World) (hJa : ∀ pre X o, J pre X → J pre (X.alloc o)) (hn0 : n₀ ≤ W.heap.size) (hc0 : W.cell? ⟨Bs, 0, none⟩ = some (.slice a l.length cap))
    (hl : Vals n₀ W a l) (h0 : J [] W) :
    CallsIn Fence.wide n Try.prog 48 #[.func (.yield l') #[] #[], .pointer (some ⟨Bs, 0, none⟩)] W fun e W' => (∃ v, e = .returned v) ∧
      ((∃ ys, ys = obsOfN N l ∧ J ys W') ∨ (∃ pre, pre <+: obsOfN N l ∧ Jx pre W')) := by
  have hl1 := hl.1
  refine callsIn_of_wp Try.func48 rfl trivial ?_ rfl
  simp only [Try.ntmps48, List.size_toArray, List.length_cons, List.length_nil, Nat.reduceAdd, Nat.reduceSub, Array.replicate_succ, Array.replicate_zero, List.push_toArray, List.append_toArray, List.nil_append, List.cons_append]
  gi_wp2
  gi_loopw [7] (fun i wr => ∃ k : Nat, k ≤ l.length ∧ i = .int .i64 k ∧ J (obsOfN N (l.take k)) wr ∧ Below n₀ W wr) (fun i _ => l.length - (intOf i).toNat)
  case atStart => exact ⟨0, Nat.zero_le _, rfl, by simpa [obsOfN] using h0, Below.refl _ _⟩
  case round =>
    obtain ⟨k, hk, rfl, hJ, hb⟩ := hrel
    have hsz := hb.size
    by_cases hlt : k < l.length
    · obtain ⟨b, off, r, m, rfl, hbB, hd1, hd2, Hv⟩ := (hl.below hb).at hlt
      cases r
      · have HT := hide (obsOfN_no (N := N) hlt Hv.out)
        gi_wp2
        refine ⟨fun _ h => (by cases h), ?_⟩
        gi_wp2
        go_roundw
        case rel => exact ⟨k + 1, by omega, by go_num, by rw [unhide HT]; exact hJa _ _ _ hJ, hb.alloc (by omega) _⟩
        case measure => simp [intOf]; omega
      · have hm := hok l[k] (List.getElem_mem hlt)
        rw [Hv.out] at hm
        have hm := hm rfl
        have HT := hide (obsOfN_yes hlt Hv.out hm)
        have HP := hide (obsOfN_prefix N l (k + 1))
        obtain ⟨fn, tmps, assign, body, hy, hR⟩ := hY _ ⟨m, hm⟩ (wr.alloc (.cells #[.bool true, .int .i64 m] 54)) (hJa _ _ _ hJ) (by have := obsOfN_len N (l.take k); simp only [List.length_take] at this; omega)
        dsimp only [encN] at hy
        obtain ⟨hm1, hm2⟩ := hm
        have hm3 : m < 24 := by omega
        gi_wp2
        refine hR.mono ?_
        rintro e W3 (⟨rfl, hJ3, hk3⟩ | ⟨rfl, hJx3⟩)
        · gi_wp2
          go_roundw
          case rel => exact ⟨k + 1, by omega, by go_num, by rw [unhide HT]; exact hJ3, (hb.alloc (by omega) _).trans hk3⟩
          case measure => simp [intOf]; omega
        · gi_wp2
          refine bodyPost_ret (results_none rfl _ _ _) rfl ?_
          exact ⟨⟨_, rfl⟩, .inr ⟨_, by rw [← unhide HT]; exact unhide HP, hJx3⟩⟩
    · obtain rfl : k = l.length := by omega
      rw [List.take_length] at hJ
      gi_wp2
      go_end0
      exact ⟨⟨_, rfl⟩, .inl ⟨_, rfl, hJ⟩⟩

theorem refs1N_stops {N : Nat} (hN : N ≤ 24) (n : Nat) (hn : 1 ≤ n) (Bs n₀ : Nat) (a : Option Addr) (cap : Nat) (l : List V) (hok : RefsOkN N l) (w : World) (hn0 : n₀ ≤ w.heap.size) (hBs : Bs < w.heap.size)
    (hc0 : w.cell? ⟨Bs, 0, none⟩ = some (.slice a l.length cap)) (hl : Vals n₀ w a l) :
    SeqStopsK Fence.wide n Try.prog 48 #[.pointer (some ⟨Bs, 0, none⟩)] encN (Below n₀) (fun ys => ys = obsOfN N l) (fun pre => pre <+: obsOfN N l) l.length w := fun l' J Jx W hW hJ _ hY h0 => by
  have := hW.size
  exact refs1N_in hN n hn l' Bs n₀ a cap l hok J Jx hY W (fun pre X o hj => hJ pre X _ none hj (World.grownBy_alloc X o none) (fun r e => by cases e)) (by omega)
    ((hW.cell (p := ⟨Bs, 0, none⟩) hBs).trans hc0) (hl.below (hW.mono hn0)) h0


end Go.Proofs.Ythpmckfgngkbhaa
