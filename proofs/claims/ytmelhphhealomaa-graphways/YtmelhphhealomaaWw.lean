/- Walks: GraphWays. -/
import Derived.Test.YtmelhphhealomaaProg
import Derived.Test.YtmelhphhealomaaMem
import Derived.Test.YtmelhphhealomaaWs
import Derived.Test.YtmelhphhealomaaWu
import Derived.Test.YtmelhphhealomaaWv
import Derived.Test.YtmelhphhealomaaXa
namespace Go.Proofs.Ytmelhphhealomaa
set_option linter.unusedSimpArgs false
set_option linter.unusedVariables false
open Go.RowKit

theorem fields_canon {g : Gr} (h : Good g) {x : Int} (hx : x ∈ orderOf g) : fieldsOf (canonG g) (placeOf (orderOf g) x) = (fieldsOf g x).map (renV (orderOf g)) := by
  show ((canonG g).objs[(placeOf (orderOf g) x).toNat]?).getD [] = _
  have : (canonG g).objs[(placeOf (orderOf g) x).toNat]? = some ((fieldsOf g x).map (renV (orderOf g))) := by
    show ((orderOf g).map _)[_]? = _
    rw [List.getElem?_map, placeOf_get hx]; rfl
  rw [this]; rfl

theorem renV_fst (order : List Int) (v : V) : (renV order v).1 = v.1 := by
  unfold renV; split
  · rename_i h; simp [h]
  · rfl

theorem stepG_in {g : Gr} {n k : Int} (h0 : 0 ≤ n) (h1 : n < g.objs.length) : stepG g (true, n) k = if 0 ≤ k ∧ k < (fieldsOf g n).length then (fieldsOf g n)[k.toNat]? else none := by
  simp only [stepG]
  rw [if_pos ⟨trivial, h0, h1⟩]

theorem step_canon {g : Gr} (h : Good g) {v : V} (hv : v.1 = true → v.2 ∈ orderOf g) (k : Int) :
    stepG (canonG g) (renV (orderOf g) v) k = (stepG g v k).map (renV (orderOf g)) ∧ ∀ u, stepG g v k = some u → u.1 = true → u.2 ∈ orderOf g := by
  obtain ⟨r, n⟩ := v
  cases r
  · simp [stepG, renV]
  · have hn : n ∈ orderOf g := hv rfl
    have hr := order_ok h hn
    have hp := placeOf_bounds hn
    have hlen : (canonG g).objs.length = (orderOf g).length := by simp [canonG]
    have e1 : renV (orderOf g) (true, n) = (true, placeOf (orderOf g) n) := by simp [renV]
    rw [e1]
    rw [stepG_in hp.1 (by rw [hlen]; exact hp.2), stepG_in hr.1 hr.2, fields_canon h hn, List.length_map]
    constructor
    · split
      · rw [List.getElem?_map]
      · rfl
    · intro u hu h1
      split at hu
      · have hm := List.mem_of_getElem? hu
        refine order_closed h hn u.2 ?_
        rw [mem_refsL (h.refsObjs (fieldsOf_mem hr.1 hr.2))]
        cases u; simp at h1; subst h1; exact hm
      · cases hu

theorem way_canon {g : Gr} (h : Good g) : ∀ (way : List Int) (v : V), (v.1 = true → v.2 ∈ orderOf g) →
    wayG (canonG g) (renV (orderOf g) v) way = (wayG g v way).map (renV (orderOf g)) ∧ ∀ u, wayG g v way = some u → u.1 = true → u.2 ∈ orderOf g
  | [], v, hv => ⟨rfl, fun u hu h1 => by simp only [wayG, Option.some.injEq] at hu; subst hu; exact hv h1⟩
  | k :: ks, v, hv => by
    obtain ⟨h1, h2⟩ := step_canon h hv k
    simp only [wayG]
    rw [h1]
    cases hs : stepG g v k with
    | none => simp
    | some u =>
      simp only [Option.map_some, Option.bind_some]
      exact way_canon h ks u (fun hu => h2 u hs hu)

theorem at_canon {g : Gr} (h : Good g) (root : Int) (way : List Int) :
    atG (canonG g) root way = (atG g root way).map (renV (orderOf g)) ∧ ∀ u, atG g root way = some u → u.1 = true → u.2 ∈ orderOf g := by
  have hl : (canonG g).roots.length = g.roots.length := by simp [canonG]
  unfold atG
  rw [hl]
  split
  · rename_i hr
    have e : (canonG g).roots[root.toNat]? = (g.roots[root.toNat]?).map (renV (orderOf g)) := by
      show (g.roots.map _)[_]? = _
      rw [List.getElem?_map]
    rw [e]
    cases hs : g.roots[root.toNat]? with
    | none => simp
    | some v =>
      simp only [Option.map_some, Option.bind_some]
      refine way_canon h way v (fun h1 => order_roots g v.2 ?_)
      rw [mem_refsL h.refsRoots]
      have hm := List.mem_of_getElem? hs
      cases v; simp at h1; subst h1; exact hm
  · simp

/-- What at tells of a graph and of what is left of it. -/
theorem at_pair {g : Gr} (h : Good g) (root : Int) (way : List Int) : ∃ (i r : Bool) (m m' : Int), atR (atG g root way) = .tuple #[.agg #[.bool r, .int .i64 m], .bool i] ∧ atR (atG (canonG g) root way) = .tuple #[.agg #[.bool r, .int .i64 m'], .bool i] ∧
    (r = false → m' = m) ∧ (i = true → r = true → m ∈ orderOf g ∧ m' = placeOf (orderOf g) m) := by
  obtain ⟨h1, h2⟩ := at_canon h root way
  rw [h1]
  cases hs : atG g root way with
  | none => exact ⟨false, false, 0, 0, rfl, rfl, fun _ => rfl, fun h => by cases h⟩
  | some v =>
    obtain ⟨r, m⟩ := v
    cases r
    · exact ⟨true, false, m, m, rfl, by simp [atR, renV], fun _ => rfl, fun _ h => by cases h⟩
    · exact ⟨true, true, m, placeOf (orderOf g) m, rfl, by simp [atR, renV], (fun h => by cases h), fun _ _ => ⟨h2 _ hs rfl, rfl⟩⟩

set_option maxRecDepth 100000 in
set_option maxHeartbeats 2000000 in
theorem ways_bad (ao ar a1 a2 : Option Addr) (aoc arc c1 c2 : Nat) (g : Gr) (root : Int) (la lb : List Int) (w : World) (ho : Objs w.heap.size w ao g.objs) (hr : Vals w.heap.size w ar g.roots) (h1 : Ints w.heap.size w a1 la) (h2 : Ints w.heap.size w a2 lb) (na : checkG g ≠ 0) :
    Calls Try.prog 4 #[.agg #[.slice ao g.objs.length aoc, .slice ar g.roots.length arc], .int .i64 root, .slice a1 la.length c1, .slice a2 lb.length c2] w fun e w' => e = .returned (.bool true) ∧ Below w.heap.size w w' := by
  have Ha := hide na
  clear na
  go_enter Try.func4, Try.ntmps4
  go_wp2_with fail
  obtain ⟨U0, hU⟩ : ∃ U0, w.alloc (.cells #[.slice ao g.objs.length aoc, .slice ar g.roots.length arc] 25) = U0 := ⟨_, rfl⟩
  rw [hU]
  have hz0 : U0.heap.size = w.heap.size + 1 := by rw [← hU]; simp
  have hw0 : Below w.heap.size w U0 := by rw [← hU]; exact (Below.refl _ _).alloc (Nat.le_refl _) _
  have g0 : U0.cell? ⟨w.heap.size, 0, none⟩ = some (.slice ao g.objs.length aoc) := by rw [← hU]; simp [go_sem]
  have g1 : U0.cell? ⟨w.heap.size, 1, none⟩ = some (.slice ar g.roots.length arc) := by rw [← hU]; simp [go_sem]
  clear hU
  refine (good_c _ _ _ _ g w.heap.size _ (ho.below hw0) (hr.below hw0) (by omega)).mono ?_
  rintro e u1 ⟨he, hb1⟩
  rw [checkG_beq' (unhide Ha)] at he
  subst he
  have hs1 := hb1.size
  have hw1 : Below w.heap.size w u1 := hw0.trans (hb1.mono (by omega))
  have g0 := (hb1.cell (p := ⟨w.heap.size, 0, none⟩) (by simp; omega)).trans g0
  have g1 := (hb1.cell (p := ⟨w.heap.size, 1, none⟩) (by simp; omega)).trans g1
  go_wp2_with fail
  refine (refused_c _ _ _ _ g w.heap.size _ (ho.below hw1) (hr.below hw1) (by omega)).mono ?_
  rintro e u2 ⟨he, hb2⟩
  rw [checkG_bne' (unhide Ha)] at he
  subst he
  go_wp2
  go_ret
  exact ⟨rfl, hw1.trans (hb2.mono (by omega))⟩

set_option maxRecDepth 100000 in
set_option maxHeartbeats 2000000 in
theorem ways_ok (ao ar a1 a2 : Option Addr) (aoc arc c1 c2 : Nat) (g : Gr) (root : Int) (la lb : List Int) (w : World) (ho : Objs w.heap.size w ao g.objs) (hr : Vals w.heap.size w ar g.roots) (h1 : Ints w.heap.size w a1 la) (h2 : Ints w.heap.size w a2 lb) (na : checkG g = 0) :
    Calls Try.prog 4 #[.agg #[.slice ao g.objs.length aoc, .slice ar g.roots.length arc], .int .i64 root, .slice a1 la.length c1, .slice a2 lb.length c2] w fun e w' => e = .returned (.bool true) ∧ Below w.heap.size w w' := by
  have hG := good_of_check na
  obtain ⟨i, r, m, m', E1, E2, e3, e4⟩ := at_pair hG root la
  obtain ⟨j, r2, n, n', F1, F2, f3, f4⟩ := at_pair hG root lb
  have hfin : i = true → j = true → r = true → r2 = true → ((m == n) == (m' == n')) = true := by
    intro hi hj hr1 hr2
    obtain ⟨x1, x2⟩ := e4 hi hr1
    obtain ⟨y1, y2⟩ := f4 hj hr2
    subst x2 y2
    by_cases hmn : m = n
    · subst hmn; simp
    · have : placeOf (orderOf g) m ≠ placeOf (orderOf g) n := fun e => hmn (placeOf_inj x1 y1 e)
      rw [beq_eq_false_iff_ne.2 hmn, beq_eq_false_iff_ne.2 this]; rfl
  have Ha := hide na
  have HE1 := hide E1
  have HE2 := hide E2
  have HF1 := hide F1
  have HF2 := hide F2
  have Hfin := hide hfin
  have Hr := hide e3
  clear na E1 E2 F1 F2 e3 e4 f3 f4 hfin
  go_enter Try.func4, Try.ntmps4
  go_wp2_with fail
  obtain ⟨U0, hU⟩ : ∃ U0, w.alloc (.cells #[.slice ao g.objs.length aoc, .slice ar g.roots.length arc] 25) = U0 := ⟨_, rfl⟩
  rw [hU]
  have hz0 : U0.heap.size = w.heap.size + 1 := by rw [← hU]; simp
  have hw0 : Below w.heap.size w U0 := by rw [← hU]; exact (Below.refl _ _).alloc (Nat.le_refl _) _
  have g0 : U0.cell? ⟨w.heap.size, 0, none⟩ = some (.slice ao g.objs.length aoc) := by rw [← hU]; simp [go_sem]
  have g1 : U0.cell? ⟨w.heap.size, 1, none⟩ = some (.slice ar g.roots.length arc) := by rw [← hU]; simp [go_sem]
  clear hU
  refine (good_c _ _ _ _ g w.heap.size _ (ho.below hw0) (hr.below hw0) (by omega)).mono ?_
  rintro e u1 ⟨he, hb1⟩
  rw [checkG_beq (unhide Ha)] at he
  subst he
  have hs1 := hb1.size
  have hw1 : Below w.heap.size w u1 := hw0.trans (hb1.mono (by omega))
  have g0 := (hb1.cell (p := ⟨w.heap.size, 0, none⟩) (by simp; omega)).trans g0
  have g1 := (hb1.cell (p := ⟨w.heap.size, 1, none⟩) (by simp; omega)).trans g1
  go_wp2_with fail
  refine (canon_ok _ _ _ _ g w.heap.size _ (ho.below hw1) (hr.below hw1) (by omega) (unhide Ha)).mono ?_
  rintro e u2 ⟨co, coc, cr, crc, rfl, hO, hV, hb2⟩
  have hs2 := hb2.size
  have hw2 : Below w.heap.size w u2 := hw1.trans (hb2.mono (by omega))
  have g0 := (hb2.cell (p := ⟨w.heap.size, 0, none⟩) (by simp; omega)).trans g0
  have g1 := (hb2.cell (p := ⟨w.heap.size, 1, none⟩) (by simp; omega)).trans g1
  have hqa : w.heap.size < u2.heap.size := by omega
  go_wp2_with fail
  obtain ⟨U2, hU⟩ : ∃ U2, u2.alloc (.cells #[.slice co (canonG g).objs.length coc, .slice cr (canonG g).roots.length crc] 25) = U2 := ⟨_, rfl⟩
  rw [hU]
  have hz2 : U2.heap.size = u2.heap.size + 1 := by rw [← hU]; simp
  have hx2 : Below u2.heap.size u2 U2 := by rw [← hU]; exact (Below.refl _ _).alloc (Nat.le_refl _) _
  have g0 := (hx2.cell (p := ⟨w.heap.size, 0, none⟩) (by simp; omega)).trans g0
  have g1 := (hx2.cell (p := ⟨w.heap.size, 1, none⟩) (by simp; omega)).trans g1
  have k0 : U2.cell? ⟨u2.heap.size, 0, none⟩ = some (.slice co (canonG g).objs.length coc) := by rw [← hU]; simp [go_sem]
  have k1 : U2.cell? ⟨u2.heap.size, 1, none⟩ = some (.slice cr (canonG g).roots.length crc) := by rw [← hU]; simp [go_sem]
  clear hU
  have hwU2 : Below w.heap.size w U2 := hw2.trans (hx2.mono (by omega))
  have hcU2 : Below u2.heap.size u2 U2 := hx2
  refine (at_c _ _ _ _ _ _ g root la w.heap.size _ (ho.below hwU2) (hr.below hwU2) (h1.below hwU2) (by omega)).mono ?_
  rintro e u3 ⟨he, hb3⟩
  rw [unhide HE1] at he
  subst he
  have hs3 := hb3.size
  have hwu3 : Below w.heap.size w u3 := hwU2.trans (hb3.mono (by omega))
  have hcu3 : Below u2.heap.size u2 u3 := hcU2.trans (hb3.mono (by omega))
  have g0 := (hb3.cell (p := ⟨w.heap.size, 0, none⟩) (by simp; omega)).trans g0
  have g1 := (hb3.cell (p := ⟨w.heap.size, 1, none⟩) (by simp; omega)).trans g1
  have k0 := (hb3.cell (p := ⟨u2.heap.size, 0, none⟩) (by simp; omega)).trans k0
  have k1 := (hb3.cell (p := ⟨u2.heap.size, 1, none⟩) (by simp; omega)).trans k1
  have hqb3 : w.heap.size < u3.heap.size := by omega
  have hqc3 : u2.heap.size < u3.heap.size := by omega
  go_wp2_with fail
  obtain ⟨U3, hU⟩ : ∃ U3, u3.alloc (.cells #[.bool r, .int .i64 m] 35) = U3 := ⟨_, rfl⟩
  rw [hU]
  have hz3 : U3.heap.size = u3.heap.size + 1 := by rw [← hU]; simp
  have hx3 : Below u3.heap.size u3 U3 := by rw [← hU]; exact (Below.refl _ _).alloc (Nat.le_refl _) _
  have g0 := (hx3.cell (p := ⟨w.heap.size, 0, none⟩) (by simp; omega)).trans g0
  have g1 := (hx3.cell (p := ⟨w.heap.size, 1, none⟩) (by simp; omega)).trans g1
  have k0 := (hx3.cell (p := ⟨u2.heap.size, 0, none⟩) (by simp; omega)).trans k0
  have k1 := (hx3.cell (p := ⟨u2.heap.size, 1, none⟩) (by simp; omega)).trans k1
  have va : U3.cell? ⟨u3.heap.size, 0, none⟩ = some (.bool r) := by rw [← hU]; simp [go_sem]
  have vb : U3.cell? ⟨u3.heap.size, 1, none⟩ = some (.int .i64 m) := by rw [← hU]; simp [go_sem]
  clear hU
  have hwU3 : Below w.heap.size w U3 := hwu3.trans (hx3.mono (by omega))
  have hcU3 : Below u2.heap.size u2 U3 := hcu3.trans (hx3.mono (by omega))
  refine (at_c _ _ _ _ _ _ (canonG g) root la u2.heap.size _ (hO.below hcU3) (hV.below hcU3) ((h1.below hwU3).mono (by omega)) (by omega)).mono ?_
  rintro e u4 ⟨he, hb4⟩
  rw [unhide HE2] at he
  subst he
  have hs4 := hb4.size
  have hwu4 : Below w.heap.size w u4 := hwU3.trans (hb4.mono (by omega))
  have hcu4 : Below u2.heap.size u2 u4 := hcU3.trans (hb4.mono (by omega))
  have g0 := (hb4.cell (p := ⟨w.heap.size, 0, none⟩) (by simp; omega)).trans g0
  have g1 := (hb4.cell (p := ⟨w.heap.size, 1, none⟩) (by simp; omega)).trans g1
  have k0 := (hb4.cell (p := ⟨u2.heap.size, 0, none⟩) (by simp; omega)).trans k0
  have k1 := (hb4.cell (p := ⟨u2.heap.size, 1, none⟩) (by simp; omega)).trans k1
  have va := (hb4.cell (p := ⟨u3.heap.size, 0, none⟩) (by simp; omega)).trans va
  have vb := (hb4.cell (p := ⟨u3.heap.size, 1, none⟩) (by simp; omega)).trans vb
  have hqb4 : w.heap.size < u4.heap.size := by omega
  have hqc4 : u2.heap.size < u4.heap.size := by omega
  go_wp2_with fail
  obtain ⟨U4, hU⟩ : ∃ U4, u4.alloc (.cells #[.bool r, .int .i64 m'] 35) = U4 := ⟨_, rfl⟩
  rw [hU]
  have hz4 : U4.heap.size = u4.heap.size + 1 := by rw [← hU]; simp
  have hx4 : Below u4.heap.size u4 U4 := by rw [← hU]; exact (Below.refl _ _).alloc (Nat.le_refl _) _
  have g0 := (hx4.cell (p := ⟨w.heap.size, 0, none⟩) (by simp; omega)).trans g0
  have g1 := (hx4.cell (p := ⟨w.heap.size, 1, none⟩) (by simp; omega)).trans g1
  have k0 := (hx4.cell (p := ⟨u2.heap.size, 0, none⟩) (by simp; omega)).trans k0
  have k1 := (hx4.cell (p := ⟨u2.heap.size, 1, none⟩) (by simp; omega)).trans k1
  have va := (hx4.cell (p := ⟨u3.heap.size, 0, none⟩) (by simp; omega)).trans va
  have vb := (hx4.cell (p := ⟨u3.heap.size, 1, none⟩) (by simp; omega)).trans vb
  have wa : U4.cell? ⟨u4.heap.size, 0, none⟩ = some (.bool r) := by rw [← hU]; simp [go_sem]
  have wb : U4.cell? ⟨u4.heap.size, 1, none⟩ = some (.int .i64 m') := by rw [← hU]; simp [go_sem]
  clear hU
  have hwU4 : Below w.heap.size w U4 := hwu4.trans (hx4.mono (by omega))
  have hcU4 : Below u2.heap.size u2 U4 := hcu4.trans (hx4.mono (by omega))
  refine (at_c _ _ _ _ _ _ g root lb w.heap.size _ (ho.below hwU4) (hr.below hwU4) (h2.below hwU4) (by omega)).mono ?_
  rintro e u5 ⟨he, hb5⟩
  rw [unhide HF1] at he
  subst he
  have hs5 := hb5.size
  have hwu5 : Below w.heap.size w u5 := hwU4.trans (hb5.mono (by omega))
  have hcu5 : Below u2.heap.size u2 u5 := hcU4.trans (hb5.mono (by omega))
  have g0 := (hb5.cell (p := ⟨w.heap.size, 0, none⟩) (by simp; omega)).trans g0
  have g1 := (hb5.cell (p := ⟨w.heap.size, 1, none⟩) (by simp; omega)).trans g1
  have k0 := (hb5.cell (p := ⟨u2.heap.size, 0, none⟩) (by simp; omega)).trans k0
  have k1 := (hb5.cell (p := ⟨u2.heap.size, 1, none⟩) (by simp; omega)).trans k1
  have va := (hb5.cell (p := ⟨u3.heap.size, 0, none⟩) (by simp; omega)).trans va
  have vb := (hb5.cell (p := ⟨u3.heap.size, 1, none⟩) (by simp; omega)).trans vb
  have wa := (hb5.cell (p := ⟨u4.heap.size, 0, none⟩) (by simp; omega)).trans wa
  have wb := (hb5.cell (p := ⟨u4.heap.size, 1, none⟩) (by simp; omega)).trans wb
  have hqb5 : w.heap.size < u5.heap.size := by omega
  have hqc5 : u2.heap.size < u5.heap.size := by omega
  go_wp2_with fail
  obtain ⟨U5, hU⟩ : ∃ U5, u5.alloc (.cells #[.bool r2, .int .i64 n] 35) = U5 := ⟨_, rfl⟩
  rw [hU]
  have hz5 : U5.heap.size = u5.heap.size + 1 := by rw [← hU]; simp
  have hx5 : Below u5.heap.size u5 U5 := by rw [← hU]; exact (Below.refl _ _).alloc (Nat.le_refl _) _
  have g0 := (hx5.cell (p := ⟨w.heap.size, 0, none⟩) (by simp; omega)).trans g0
  have g1 := (hx5.cell (p := ⟨w.heap.size, 1, none⟩) (by simp; omega)).trans g1
  have k0 := (hx5.cell (p := ⟨u2.heap.size, 0, none⟩) (by simp; omega)).trans k0
  have k1 := (hx5.cell (p := ⟨u2.heap.size, 1, none⟩) (by simp; omega)).trans k1
  have va := (hx5.cell (p := ⟨u3.heap.size, 0, none⟩) (by simp; omega)).trans va
  have vb := (hx5.cell (p := ⟨u3.heap.size, 1, none⟩) (by simp; omega)).trans vb
  have wa := (hx5.cell (p := ⟨u4.heap.size, 0, none⟩) (by simp; omega)).trans wa
  have wb := (hx5.cell (p := ⟨u4.heap.size, 1, none⟩) (by simp; omega)).trans wb
  have xa : U5.cell? ⟨u5.heap.size, 0, none⟩ = some (.bool r2) := by rw [← hU]; simp [go_sem]
  have xb : U5.cell? ⟨u5.heap.size, 1, none⟩ = some (.int .i64 n) := by rw [← hU]; simp [go_sem]
  clear hU
  have hwU5 : Below w.heap.size w U5 := hwu5.trans (hx5.mono (by omega))
  have hcU5 : Below u2.heap.size u2 U5 := hcu5.trans (hx5.mono (by omega))
  refine (at_c _ _ _ _ _ _ (canonG g) root lb u2.heap.size _ (hO.below hcU5) (hV.below hcU5) ((h2.below hwU5).mono (by omega)) (by omega)).mono ?_
  rintro e u6 ⟨he, hb6⟩
  rw [unhide HF2] at he
  subst he
  have hs6 := hb6.size
  have hwu6 : Below w.heap.size w u6 := hwU5.trans (hb6.mono (by omega))
  have hcu6 : Below u2.heap.size u2 u6 := hcU5.trans (hb6.mono (by omega))
  have g0 := (hb6.cell (p := ⟨w.heap.size, 0, none⟩) (by simp; omega)).trans g0
  have g1 := (hb6.cell (p := ⟨w.heap.size, 1, none⟩) (by simp; omega)).trans g1
  have k0 := (hb6.cell (p := ⟨u2.heap.size, 0, none⟩) (by simp; omega)).trans k0
  have k1 := (hb6.cell (p := ⟨u2.heap.size, 1, none⟩) (by simp; omega)).trans k1
  have va := (hb6.cell (p := ⟨u3.heap.size, 0, none⟩) (by simp; omega)).trans va
  have vb := (hb6.cell (p := ⟨u3.heap.size, 1, none⟩) (by simp; omega)).trans vb
  have wa := (hb6.cell (p := ⟨u4.heap.size, 0, none⟩) (by simp; omega)).trans wa
  have wb := (hb6.cell (p := ⟨u4.heap.size, 1, none⟩) (by simp; omega)).trans wb
  have xa := (hb6.cell (p := ⟨u5.heap.size, 0, none⟩) (by simp; omega)).trans xa
  have xb := (hb6.cell (p := ⟨u5.heap.size, 1, none⟩) (by simp; omega)).trans xb
  have hqb6 : w.heap.size < u6.heap.size := by omega
  have hqc6 : u2.heap.size < u6.heap.size := by omega
  have hq3 : u3.heap.size < u6.heap.size := by omega
  have hq4 : u4.heap.size < u6.heap.size := by omega
  have hq5 : u5.heap.size < u6.heap.size := by omega
  have hwU6 : Below w.heap.size w (u6.alloc (.cells #[.bool r2, .int .i64 n'] 35)) := hwu6.alloc (by omega) _
  have hgd := guard35
  have hi0 : (i != i) = false := by simp
  have hj0 : (j != j) = false := by simp
  have hr0 : (r != r) = false := by simp
  have hr20 : (r2 != r2) = false := by simp
  cases r
  · obtain rfl : m' = m := unhide Hr rfl
    have he : ∀ w, (Op.equalIn 10000 35 (.agg #[.bool false, .int .i64 m']) (.agg #[.bool false, .int .i64 m'])).run Try.prog w = .ok true w := fun w => by rw [eql_in]; simp
    cases i
    · cases j <;> cases r2
      all_goals
        go_wp2
        go_ret
        exact ⟨rfl, hwU6⟩
    · cases j <;> cases r2
      all_goals
        go_wp2
        go_ret
        exact ⟨rfl, hwU6⟩
  · cases i
    · cases j <;> cases r2
      all_goals
        go_wp2
        go_ret
        exact ⟨rfl, hwU6⟩
    · cases j
      · cases r2
        all_goals
          go_wp2
          go_ret
          exact ⟨rfl, hwU6⟩
      · cases r2
        · go_wp2
          go_ret
          exact ⟨rfl, hwU6⟩
        · have hf := unhide Hfin rfl rfl rfl rfl
          have Hf := hide hf
          clear hf
          go_wp2
          go_ret
          exact ⟨ret_bool (unhide Hf), hwU6⟩

theorem ways_c (ao ar a1 a2 : Option Addr) (aoc arc c1 c2 : Nat) (g : Gr) (root : Int) (la lb : List Int) (w : World) (ho : Objs w.heap.size w ao g.objs) (hr : Vals w.heap.size w ar g.roots) (h1 : Ints w.heap.size w a1 la) (h2 : Ints w.heap.size w a2 lb) :
    Calls Try.prog 4 #[.agg #[.slice ao g.objs.length aoc, .slice ar g.roots.length arc], .int .i64 root, .slice a1 la.length c1, .slice a2 lb.length c2] w fun e w' => e = .returned (.bool true) ∧ Below w.heap.size w w' := by
  by_cases na : checkG g = 0
  · exact ways_ok ao ar a1 a2 aoc arc c1 c2 g root la lb w ho hr h1 h2 na
  · exact ways_bad ao ar a1 a2 aoc arc c1 c2 g root la lb w ho hr h1 h2 na

end Go.Proofs.Ytmelhphhealomaa
