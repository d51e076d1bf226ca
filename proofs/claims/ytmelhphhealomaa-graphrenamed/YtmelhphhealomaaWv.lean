/- Walks: at: the value that a way of fields comes to. -/
import Derived.Test.YtmelhphhealomaaProg
import Derived.Test.YtmelhphhealomaaMem
import Derived.Test.YtmelhphhealomaaWp
namespace Go.Proofs.Ytmelhphhealomaa
set_option linter.unusedSimpArgs false
set_option linter.unusedVariables false
open Go.RowKit

/-- A slice of numbers, that lies below block B. -/
def Ints (B : Nat) (w : World) (a : Option Addr) (l : List Int) : Prop :=
  l.length ≤ 9223372036854775807 ∧ (l ≠ [] → ∃ b off, a = some ⟨b, off, none⟩ ∧ b < B ∧ ∀ k v, l[k]? = some v → w.cell? ⟨b, off + k, none⟩ = some (.int .i64 v))

theorem Ints.below {B : Nat} {w w' : World} {a : Option Addr} {l : List Int} (h : Ints B w a l) (hb : Below B w w') : Ints B w' a l := by
  refine ⟨h.1, fun hne => ?_⟩
  obtain ⟨b, off, rfl, hB, hc⟩ := h.2 hne
  refine ⟨b, off, rfl, hB, fun k v hk => ?_⟩
  rw [hb.cell (p := ⟨b, off + k, none⟩) hB]
  exact hc k v hk

theorem Ints.mono {B B' : Nat} {w : World} {a : Option Addr} {l : List Int} (h : Ints B w a l) (hb : B ≤ B') : Ints B' w a l := by
  refine ⟨h.1, fun hne => ?_⟩
  obtain ⟨b, off, rfl, hB, hc⟩ := h.2 hne
  exact ⟨b, off, rfl, by omega, hc⟩

theorem Ints.at {B : Nat} {w : World} {a : Option Addr} {l : List Int} (h : Ints B w a l) {k : Nat} (hk : k < l.length) :
    ∃ b off, a = some ⟨b, off, none⟩ ∧ b < B ∧ w.cell? ⟨b, off + k, none⟩ = some (.int .i64 l[k]) := by
  obtain ⟨b, off, rfl, hB, hc⟩ := h.2 (by intro e; subst e; simp at hk)
  exact ⟨b, off, rfl, hB, hc k l[k] (by simp [hk])⟩

def stepG (g : Gr) (v : V) (k : Int) : Option V :=
  if v.1 = true ∧ 0 ≤ v.2 ∧ v.2 < g.objs.length then (if 0 ≤ k ∧ k < (fieldsOf g v.2).length then (fieldsOf g v.2)[k.toNat]? else none) else none
def wayG (g : Gr) : V → List Int → Option V
  | v, [] => some v
  | v, k :: ks => (stepG g v k).bind (fun u => wayG g u ks)
def atG (g : Gr) (root : Int) (way : List Int) : Option V :=
  if 0 ≤ root ∧ root < g.roots.length then (g.roots[root.toNat]?).bind (fun v => wayG g v way) else none

/-- What at tells. -/
def atR (o : Option V) : Value := match o with
  | some v => .tuple #[.agg #[.bool v.1, .int .i64 v.2], .bool true]
  | none => .tuple #[.agg #[.bool false, .int .i64 0], .bool false]

set_option maxRecDepth 100000 in
set_option maxHeartbeats 2000000 in
theorem at_c (ao ar ai : Option Addr) (co cr ci : Nat) (g : Gr) (root : Int) (way : List Int) (B : Nat) (w : World) (ho : Objs B w ao g.objs) (hr : Vals B w ar g.roots) (hw : Ints B w ai way) (hB : B ≤ w.heap.size) :
    Calls Try.prog 12 #[.agg #[.slice ao g.objs.length co, .slice ar g.roots.length cr], .int .i64 root, .slice ai way.length ci] w fun e w' => e = .returned (atR (atG g root way)) ∧ Below w.heap.size w w' := by
  have ho1 := ho.1
  have hr1 := hr.1
  have hw1 := hw.1
  have hb1 := ((Below.refl w.heap.size w).alloc (Nat.le_refl _) (.cells #[.slice ao g.objs.length co, .slice ar g.roots.length cr] 25)).alloc (by simp) (.cells #[.bool false, .int .i64 0] 35)
  by_cases hr0 : root < 0
  · have hat : atG g root way = none := by simp [atG]; omega
    rw [hat]
    go_enter Try.func12, Try.ntmps12
    go_wp2
    exact bodyPost_ret (v := .tuple #[.agg #[.bool false, .int .i64 0], .bool false]) (by simp [results, Try.results12, go_sem]) rfl ⟨rfl, hb1⟩
  · have d0 : decide (root < 0) = false := by simpa using hr0
    by_cases hrl : (g.roots.length : Int) ≤ root
    · have hat : atG g root way = none := by simp [atG]; omega
      rw [hat]
      go_enter Try.func12, Try.ntmps12
      go_wp2
      exact bodyPost_ret (v := .tuple #[.agg #[.bool false, .int .i64 0], .bool false]) (by simp [results, Try.results12, go_sem]) rfl ⟨rfl, hb1⟩
    · have d1 : decide ((g.roots.length : Int) ≤ root) = false := by simpa using hrl
      obtain ⟨root, rfl⟩ := Int.eq_ofNat_of_zero_le (show 0 ≤ root by omega)
      have hlt : root < g.roots.length := by omega
      obtain ⟨b, off, r, m, rfl, hbB, hc1, hc2, Hv⟩ := hr.at hlt
      have Hat : Hid (atG g (root : Int) way = wayG g (r, m) way) := by
        show atG g (root : Int) way = wayG g (r, m) way
        unfold atG
        rw [if_pos (by omega), Int.toNat_natCast, List.getElem?_eq_getElem hlt, Hv.out]; rfl
      have hq : b < w.heap.size := by omega
      have hrI : (root : Int) < (g.roots.length : Int) := by omega
      go_enter Try.func12, Try.ntmps12
      go_wp2
      have hW2 : Below (w.heap.size + 2) ((w.alloc (.cells #[.slice ao g.objs.length co, .slice (some ⟨b, off, none⟩) g.roots.length cr] 25)).alloc (.cells #[.bool false, .int .i64 0] 35)) (((w.alloc (.cells #[.slice ao g.objs.length co, .slice (some ⟨b, off, none⟩) g.roots.length cr] 25)).alloc (.cells #[.bool false, .int .i64 0] 35)).alloc (.cells #[.bool r, .int .i64 m] 35)) := (Below.refl _ _).alloc (by simp) _
      have hW2' : ∀ X, Below (w.heap.size + 2) ((w.alloc (.cells #[.slice ao g.objs.length co, .slice (some ⟨b, off, none⟩) g.roots.length cr] 25)).alloc (.cells #[.bool false, .int .i64 0] 35)) X → X.cell? ⟨w.heap.size, 0, none⟩ = some (.slice ao g.objs.length co) ∧ X.cell? ⟨w.heap.size + 1, 0, none⟩ = some (.bool false) ∧ X.cell? ⟨w.heap.size + 1, 1, none⟩ = some (.int .i64 0) ∧ X.frozen? ⟨w.heap.size + 1, 0, none⟩ = false ∧ X.frozen? ⟨w.heap.size + 1, 1, none⟩ = false := by
        intro X hX
        refine ⟨?_, ?_, ?_, ?_, ?_⟩
        · rw [hX.cell (p := ⟨w.heap.size, 0, none⟩) (by simp)]; simp [go_sem]
        · rw [hX.cell (p := ⟨w.heap.size + 1, 0, none⟩) (by simp)]; simp [go_sem]
        · rw [hX.cell (p := ⟨w.heap.size + 1, 1, none⟩) (by simp)]; simp [go_sem]
        · rw [hX.frozen (p := ⟨w.heap.size + 1, 0, none⟩) (by simp)]; simp [go_sem]
        · rw [hX.frozen (p := ⟨w.heap.size + 1, 1, none⟩) (by simp)]; simp [go_sem]
      have HW2 := hide hW2'
      clear hW2'
      go_loopw [28] (fun i wr => ∃ (k : Nat) (r : Bool) (m : Int), k ≤ way.length ∧ i = .int .i64 k ∧ Hid (atG g (root : Int) way = wayG g (r, m) (way.drop k)) ∧ wr.cell? ⟨w.heap.size + 1 + 1, 0, none⟩ = some (.bool r) ∧ wr.cell? ⟨w.heap.size + 1 + 1, 1, none⟩ = some (.int .i64 m) ∧ wr.frozen? ⟨w.heap.size + 1 + 1, 0, none⟩ = false ∧ wr.frozen? ⟨w.heap.size + 1 + 1, 1, none⟩ = false ∧ Below (w.heap.size + 2) ((w.alloc (.cells #[.slice ao g.objs.length co, .slice (some ⟨b, off, none⟩) g.roots.length cr] 25)).alloc (.cells #[.bool false, .int .i64 0] 35)) wr) (fun i _ => way.length - (intOf i).toNat)
      case atStart => exact ⟨0, r, m, Nat.zero_le _, rfl, Hat, by simp [go_sem], by simp [go_sem], by simp [go_sem], by simp [go_sem], hW2⟩
      case round =>
        clear hc1 hc2 Hv Hat hW2
        obtain ⟨k, r, m, hk, rfl, Hat, c0, c1, f0, f1, hb⟩ := hrel
        obtain ⟨g0, q0, q1, e0, e1⟩ := unhide HW2 wr hb
        have hbw : Below w.heap.size w wr := hb1.trans (hb.mono (by omega))
        by_cases hltw : k < way.length
        · obtain ⟨bi, oi, rfl, hbi, hci⟩ := (hw.below (hbw.mono hB)).at hltw
          have Hdr := hide (List.drop_eq_getElem_cons hltw)
          generalize way[k] = kk at *
          have hno : stepG g (r, m) kk = none → atG g (root : Int) way = none := by
            intro h; rw [unhide Hat, unhide Hdr, wayG, h]; rfl
          have hyes : ∀ u, stepG g (r, m) kk = some u → atG g (root : Int) way = wayG g u (way.drop (k + 1)) := by
            intro u h; rw [unhide Hat, unhide Hdr, wayG, h]; rfl
          have Hno := hide hno
          have Hyes := hide hyes
          clear hno hyes
          have hfin : Below w.heap.size w ((wr.setCell ⟨w.heap.size + 1, 0, none⟩ (.bool false)).setCell ⟨w.heap.size + 1, 1, none⟩ (.int .i64 0)) := (hbw.setCell (p := ⟨w.heap.size + 1, 0, none⟩) (by simp) _).setCell (p := ⟨w.heap.size + 1, 1, none⟩) (by simp) _
          cases r
          · go_wp2
            refine bodyPost_ret (v := .tuple #[.agg #[.bool false, .int .i64 0], .bool false]) (by simp [results, Try.results12, go_sem, q0, q1]) rfl ⟨?_, hfin⟩
            rw [unhide Hno (by simp [stepG])]; rfl
          · by_cases hm0 : m < 0
            · go_wp2
              refine bodyPost_ret (v := .tuple #[.agg #[.bool false, .int .i64 0], .bool false]) (by simp [results, Try.results12, go_sem, q0, q1]) rfl ⟨?_, hfin⟩
              rw [unhide Hno (by simp [stepG]; omega)]; rfl
            · have dm0 : decide (m < 0) = false := by simpa using hm0
              by_cases hml : (g.objs.length : Int) ≤ m
              · go_wp2
                refine bodyPost_ret (v := .tuple #[.agg #[.bool false, .int .i64 0], .bool false]) (by simp [results, Try.results12, go_sem, q0, q1]) rfl ⟨?_, hfin⟩
                rw [unhide Hno (by simp [stepG]; omega)]; rfl
              · have dml : decide ((g.objs.length : Int) ≤ m) = false := by simpa using hml
                obtain ⟨m, rfl⟩ := Int.eq_ofNat_of_zero_le (show 0 ≤ m by omega)
                have hmN : m < g.objs.length := by omega
                have hmI : (m : Int) < (g.objs.length : Int) := by omega
                obtain ⟨bo, oo, fi, fc, rfl, hbo, hco, hva⟩ := (ho.below (hbw.mono hB)).at hmN
                have Hfs := hide (show fieldsOf g (m : Int) = g.objs[m] by simp [fieldsOf, hmN])
                generalize g.objs[m] = fs at *
                have hfs1 := hva.1
                by_cases hk0 : kk < 0
                · go_wp2
                  refine bodyPost_ret (v := .tuple #[.agg #[.bool false, .int .i64 0], .bool false]) (by simp [results, Try.results12, go_sem, q0, q1]) rfl ⟨?_, hfin⟩
                  rw [unhide Hno (by simp [stepG]; omega)]; rfl
                · have dk0 : decide (kk < 0) = false := by simpa using hk0
                  by_cases hkl : (fs.length : Int) ≤ kk
                  · go_wp2
                    refine bodyPost_ret (v := .tuple #[.agg #[.bool false, .int .i64 0], .bool false]) (by simp [results, Try.results12, go_sem, q0, q1]) rfl ⟨?_, hfin⟩
                    rw [unhide Hno (by simp only [stepG]; rw [unhide Hfs]; simp; omega)]; rfl
                  · have dkl : decide ((fs.length : Int) ≤ kk) = false := by simpa using hkl
                    obtain ⟨kk, rfl⟩ := Int.eq_ofNat_of_zero_le (show 0 ≤ kk by omega)
                    have hkN : kk < fs.length := by omega
                    have hkI : (kk : Int) < (fs.length : Int) := by omega
                    obtain ⟨bf, off2, r2, m2, rfl, hbf, hd1, hd2, Hv2⟩ := hva.at hkN
                    have Hst := hide (show stepG g (true, (m : Int)) (kk : Int) = some (r2, m2) from by
                      simp only [stepG]
                      rw [if_pos ⟨trivial, by omega, hmI⟩, unhide Hfs, if_pos ⟨by omega, hkI⟩, Int.toNat_natCast, List.getElem?_eq_getElem hkN, Hv2.out])
                    go_wp2
                    go_roundw
                    case rel =>
                      refine ⟨k + 1, r2, m2, by omega, by go_num, unhide Hyes _ (unhide Hst), ?_, ?_, ?_, ?_, ?_⟩
                      · rw [World.cell?_setCell_other _ _ _ _ (by simp)]; exact World.cell?_setCell_same' _ _ _ (by rw [c0]; rfl)
                      · exact World.cell?_setCell_same' _ _ _ (by rw [World.cell?_setCell_other _ _ _ _ (by simp), c1]; rfl)
                      · rw [World.frozen?_setCell, World.frozen?_setCell]; exact f0
                      · rw [World.frozen?_setCell, World.frozen?_setCell]; exact f1
                      · exact (hb.setCell (p := ⟨w.heap.size + 1 + 1, 0, none⟩) (by simp) _).setCell (p := ⟨w.heap.size + 1 + 1, 1, none⟩) (by simp) _
                    case measure => simp [intOf]; omega
        · obtain rfl : k = way.length := by omega
          have Hat2 : Hid (atG g (root : Int) way = some (r, m)) := by
            show atG g (root : Int) way = some (r, m)
            rw [unhide Hat, List.drop_length]; rfl
          go_wp2
          refine bodyPost_ret (v := .tuple #[.agg #[.bool r, .int .i64 m], .bool true]) (by simp [results, Try.results12, go_sem, q0, q1]) rfl ⟨?_, (hbw.setCell (p := ⟨w.heap.size + 1, 0, none⟩) (by simp) _).setCell (p := ⟨w.heap.size + 1, 1, none⟩) (by simp) _⟩
          rw [unhide Hat2]; rfl

end Go.Proofs.Ytmelhphhealomaa
