/- Lists of lists in memory; walks: components. -/
import Derived.Test.YtohofkfajmeohaaProg
import Derived.Test.YtohofkfajmeohaaMem
import Derived.Test.YtohofkfajmeohaaCf
namespace Go.Proofs.Ytohofkfajmeohaa
set_option linter.unusedSimpArgs false
set_option linter.unusedVariables false
open Go.RowKit

theorem Try.info30 : (Try.prog.info? 30).map (fun i => (i.zero, i.size, i.bytes)) = some (some (.slice none 0 0), 1, 24) := by kernel_rfl

/-- A slice, as plain data. -/
abbrev Sl := Option Addr × Nat × Nat
def encS (s : Sl) : Value := .slice s.1 s.2.1 s.2.2

def slsV (cs : List Sl) : List Value := cs.map encS
theorem slsV_snoc (cs : List Sl) (s : Sl) : slsV (cs ++ [s]) = slsV cs ++ [encS s] := by simp [slsV]

/-- A row of slices, each of which holds a list of numbers. -/
structure LRow (W : World) (base : Nat) (v : Value) (cs : List Sl) (LL : List (List Int)) : Prop where
  row : W.ownsRow base 30 1 v cs.length (slsV cs)
  len : LL.length = cs.length
  each : ∀ (k : Nat) (s : Sl) (l : List Int), cs[k]? = some s → LL[k]? = some l → W.ownsRow base 3 1 (encS s) l.length (intsV l)

theorem lrow_nil (W : World) (base : Nat) : LRow W base (.slice none 0 0) [] [] := ⟨World.ownsRow_nil _ _ _ _, rfl, by simp⟩

theorem LRow.below {W W' : World} {base : Nat} {v : Value} {cs : List Sl} {LL : List (List Int)} (h : LRow W base v cs LL) (hb : Below W.heap.size W W') : LRow W' base v cs LL :=
  ⟨h.row.kept (grownBy_of_below hb) (own_none _), h.len, fun k s l hs hl => (h.each k s l hs hl).kept (grownBy_of_below hb) (own_none _)⟩

/-- What is turned is no row of numbers. -/
def NoInts (W : World) (row : Option Nat) : Prop := ∀ r, row = some r → ∀ cur p, W.heap[r]? ≠ some (.cells cur 3 p)

theorem ints_kept {W W' : World} {row : Option Nat} {base : Nat} {v : Value} {n : Nat} {xs : List Value} (h : W.ownsRow base 3 1 v n xs) (hg : W.grownBy W' row) (hn : NoInts W row) : W'.ownsRow base 3 1 v n xs := by
  refine h.kept hg ?_
  rcases h.2 with ⟨rfl, _⟩ | ⟨g, cap, cur, rfl, _, hgb, _⟩
  · exact .inl rfl
  · refine .inr fun e => ?_
    exact hn g (by simpa [Value.ownBlock] using e.symm) _ _ hgb

theorem noInts_row {W : World} {base : Nat} {v : Value} {n : Nat} {xs : List Value} (h : W.ownsRow base 30 1 v n xs) : NoInts W v.ownBlock := by
  intro r hr cur p hc
  rcases h.2 with ⟨rfl, _⟩ | ⟨g, cap, cur', rfl, _, hgb, _⟩
  · simp [Value.ownBlock] at hr
  · simp [Value.ownBlock] at hr
    subst hr
    rw [hgb] at hc
    simp at hc

theorem noInts_map {W : World} {r : Nat} {es : Array MapEntry} {clock : Nat} (h : W.heap[r]? = some (.map es clock)) : NoInts W (some r) := by
  intro r' hr cur p hc
  injection hr with hr
  subst hr
  rw [h] at hc
  cases hc

theorem LRow.own {W W' : World} {row : Option Nat} {base : Nat} {v : Value} {cs : List Sl} {LL : List (List Int)} (h : LRow W base v cs LL) (hg : W.grownBy W' row) (h1 : v.ownBlock = none ∨ v.ownBlock ≠ row) (h2 : NoInts W row) : LRow W' base v cs LL :=
  ⟨h.row.kept hg h1, h.len, fun k s l hs hl => ints_kept (h.each k s l hs hl) hg h2⟩

theorem LRow.mono {W : World} {base base' : Nat} {v : Value} {cs : List Sl} {LL : List (List Int)} (h : LRow W base v cs LL) (hb : base' ≤ base) : LRow W base' v cs LL :=
  ⟨⟨h.row.1, h.row.2.imp id fun ⟨g', cap, cur, h1, h2, h3⟩ => ⟨g', cap, cur, h1, by omega, h3⟩⟩, h.len, fun k s l hs hl =>
    ⟨(h.each k s l hs hl).1, (h.each k s l hs hl).2.imp id fun ⟨g', cap, cur, h1, h2, h3⟩ => ⟨g', cap, cur, h1, by omega, h3⟩⟩⟩

/-- One list more. -/
theorem LRow.snoc {W W' : World} {base : Nat} {v v' : Value} {cs : List Sl} {LL : List (List Int)} {s : Sl} {l : List Int} (h : LRow W base v cs LL) (hs : W.ownsRow base 3 1 (encS s) l.length (intsV l))
    (hrow : W'.ownsRow base 30 1 v' (cs.length + 1) (slsV cs ++ [encS s])) (hg : W.grownBy W' v.ownBlock) : LRow W' base v' (cs ++ [s]) (LL ++ [l]) := by
  have hn := noInts_row h.row
  refine ⟨by rw [slsV_snoc, List.length_append]; exact hrow, by simp [h.len], ?_⟩
  intro k x lx hk hl
  by_cases hlt : k < cs.length
  · rw [List.getElem?_append_left hlt] at hk
    rw [List.getElem?_append_left (by rw [h.len]; exact hlt)] at hl
    exact ints_kept (h.each k x lx hk hl) hg hn
  · have hl' := (List.getElem?_eq_some_iff.1 hk).1
    simp at hl'
    have hkl : k = cs.length := by omega
    rw [List.getElem?_append_right (by omega), hkl, Nat.sub_self] at hk
    rw [List.getElem?_append_right (by rw [h.len]; omega), hkl, h.len, Nat.sub_self] at hl
    simp at hk hl
    subst hk hl
    exact ints_kept hs hg hn

theorem slice_enc {W : World} {base : Nat} {e : TypeId} {size : Nat} {v : Value} {n : Nat} {xs : List Value} (h : W.ownsRow base e size v n xs) : ∃ s : Sl, v = encS s ∧ s.2.1 = n := by
  obtain ⟨a, c, rfl⟩ := ownsRow_slice h
  exact ⟨(a, n, c), rfl, rfl⟩

set_option maxRecDepth 100000 in
set_option maxHeartbeats 4000000 in
theorem components_c (ao ar al : Option Addr) (co nr cr nl cl : Nat) (g : Gr) (base : Nat) (ms : List Nat) (w : World) (hL : Led w base (.slice al nl cl) ms (ledK g g.objs.length)) (hG : Good g) :
    Calls Try.prog 23 #[.agg #[.slice ao g.objs.length co, .slice ar nr cr, .slice al nl cl]] w fun e w' => ∃ v cs, e = .returned v ∧ LRow w' w.heap.size v cs (compsK g g.objs.length) ∧ Below w.heap.size w w' := by
  obtain ⟨i0, hi, hz0, hz1, hz2⟩ := info_parts Try.info30
  have hn24 := hG.n24
  have hb1 := (Below.refl w.heap.size w).alloc (Nat.le_refl _) (.cells #[.slice ao g.objs.length co, .slice ar nr cr, .slice al nl cl] 47)
  have hX0 : SBox (w.alloc (.cells #[.slice ao g.objs.length co, .slice ar nr cr, .slice al nl cl] 47)) w.heap.size ao ar g.objs.length co nr cr (.slice al nl cl) := ⟨by simp [go_sem], by simp [go_sem], by simp [go_sem], by simp [go_sem]⟩
  go_enter Try.func23, Try.ntmps23
  go_wp2
  generalize hW : w.alloc (.cells #[.slice ao g.objs.length co, .slice ar nr cr, .slice al nl cl] 47) = W0 at *
  have hs0 : W0.heap.size = w.heap.size + 1 := by rw [← hW]; simp
  clear hW
  go_loopw [3, 10] (fun s i wr => ∃ k : Nat, k ≤ g.objs.length ∧ i = .int .i64 k ∧ (∃ cs, LRow wr W0.heap.size s cs (compsK g k)) ∧ Below W0.heap.size W0 wr) (fun _ i _ => g.objs.length - (intOf i).toNat)
  case atStart => exact ⟨0, Nat.zero_le _, rfl, ⟨[], lrow_nil _ _⟩, Below.refl _ _⟩
  case round =>
    obtain ⟨k, hk, rfl, ⟨cs, hR⟩, hb⟩ := hrel
    have hsz := hb.size
    have hbw : Below w.heap.size w wr := hb1.trans (hb.mono (by omega))
    have hX := hX0.kept (hb.block w.heap.size (by omega))
    have hc0 := hX.c0
    have hc1 := hX.c1
    have hc2 := hX.c2
    have hLr := hL.below hbw
    have hcsl : cs.length ≤ k := by rw [← hR.len]; exact compsK_len g k
    by_cases hlt : k < g.objs.length
    · go_wp2_with fail
      refine (component_c _ _ _ _ _ _ _ _ g k base ms _ hLr hG hlt).mono ?_
      rintro e wa ⟨vc, rfl, hrc, hba⟩
      have hsa := hba.size
      have hRa := hR.below hba
      have hhd : 0 < (compL g k).length := List.length_pos_of_mem (head_mem (by omega) (by omega))
      obtain ⟨gc, capc, rfl, hcc, hgl⟩ := ints_at hrc hhd
      have hh := head_get (g := g) (o := k) (by omega) (by omega)
      rw [List.getElem?_eq_getElem hhd] at hh
      injection hh with hh
      rw [hh] at hcc
      have hcl := compK_len g k g.objs.length
      have hcl' : (compL g k).length ≤ g.objs.length := hcl
      have hbB : Below W0.heap.size W0 wa := hb.trans (hba.mono (by omega))
      have hrcB : wa.ownsRow W0.heap.size 3 1 (encS (some ⟨gc, 0, none⟩, (compL g k).length, capc)) (compL g k).length (intsV (compL g k)) := ⟨hrc.1, hrc.2.imp id fun ⟨g', cap, cur, h1, h2, h3⟩ => ⟨g', cap, cur, h1, by omega, h3⟩⟩
      have Hrc := hide hrcB
      clear hh hcl hrc hrcB
      by_cases hhd' : isHead g k = true
      · have HT := hide (compsK_yes hhd')
        have hke : headOf g k = k := by simpa [isHead] using hhd'
        rw [hke] at hcc
        clear hhd' hke
        go_wp2_with (at_builtin; go_must (refine wpList_append_own _ rfl _ _ 26 rfl W0.heap.size 30 i0 _ 1 24 Try.underlying26 hi hz0 hz1 hz2 rfl (by decide) _ _ _ rfl (hRa.row.alloc _) ⟨wa.heap.size, 0, none⟩ 1 1 [.slice (some ⟨gc, 0, none⟩) (compL g k).length capc] rfl rfl (cell_one_at _ _ _ _ (by simp)) (by simp [Value.oneCell']) (by simp only [maxLen]; omega) (by omega) (by simp; omega) ?_); intro v' w1 hrow' hgrow _)
        go_roundw
        case rel =>
          refine ⟨k + 1, by omega, by go_num, ⟨cs ++ [(some ⟨gc, 0, none⟩, (compL g k).length, capc)], ?_⟩, (hbB.alloc (by omega) _).grown hgrow (by simp; omega) (fun q e => (hRa.row.lt q e).1)⟩
          rw [unhide HT]
          exact LRow.snoc (hRa.below ((Below.refl _ _).alloc (Nat.le_refl _) _)) ((unhide Hrc).alloc _) hrow' hgrow
        case measure => simp [intOf]; omega
      · have hno : isHead g k = false := by simpa using hhd'
        have HT := hide (compsK_no hno)
        have hne : ¬ headOf g k = (k : Int) := by simpa [isHead] using hno
        have d1 : decide (headOf g k = (k : Int)) = false := by simpa using hne
        have d2 : (headOf g k == (k : Int)) = false := by simpa using hne
        clear hhd' hno
        generalize headOf g k = hd at *
        go_wp2
        go_roundw
        case rel => exact ⟨k + 1, by omega, by go_num, ⟨cs, by rw [unhide HT]; exact hRa⟩, hbB⟩
        case measure => simp [intOf]; omega
    · obtain rfl : k = g.objs.length := by omega
      have HR := hide hR
      obtain ⟨sa, sc, hv⟩ := ownsRow_slice hR.row
      subst hv
      clear hR
      go_wp2
      go_ret
      exact ⟨_, cs, rfl, (unhide HR).mono (by omega), hbw⟩

end Go.Proofs.Ytohofkfajmeohaa
