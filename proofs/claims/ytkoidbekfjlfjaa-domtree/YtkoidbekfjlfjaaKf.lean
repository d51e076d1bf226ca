/- Walks: referrers. -/
import Derived.Test.YtkoidbekfjlfjaaProg
import Derived.Test.YtkoidbekfjlfjaaMem
import Derived.Test.YtkoidbekfjlfjaaKe
import Derived.Test.YtkoidbekfjlfjaaKc
import Derived.Test.YtkoidbekfjlfjaaDe
namespace Go.Proofs.Ytkoidbekfjlfjaa
set_option linter.unusedSimpArgs false
set_option linter.unusedVariables false
open Go.RowKit Go.Shelf

theorem Try.info26 : (Try.prog.info? 26).map (fun i => (i.zero, i.size, i.bytes)) = some (some (.slice none 0 0), 1, 24) := by kernel_rfl

/-- Who refers to whom, of the first k on the way back. -/
def fromK (g : Gr) (ord : List Int) : Nat → List (List Int)
  | 0 => List.replicate ord.length []
  | k + 1 => noteL ord (k : Int) (fromK g ord k) (refsL (fieldsOf g (ord.getD k 0)))

def fromL (g : Gr) (ord : List Int) : List (List Int) := noteL ord (ord.length : Int) (fromK g ord ord.length) (refsL g.roots)

theorem fromK_len (g : Gr) (ord : List Int) : ∀ k, (fromK g ord k).length = ord.length
  | 0 => by simp [fromK]
  | k + 1 => by rw [fromK, noteL_len]; exact fromK_len g ord k

theorem fromL_len (g : Gr) (ord : List Int) : (fromL g ord).length = ord.length := by rw [fromL, noteL_len, fromK_len]

theorem refsL_len (l : List V) : (refsL l).length ≤ l.length := by
  unfold refsL valsOf obsOf
  rw [List.length_map]
  exact List.length_filterMap_le _ _

theorem fieldsOf_len {g : Gr} (h : Good g) (i : Int) : (fieldsOf g i).length ≤ 4 := by
  by_cases hi : i.toNat < g.objs.length
  · have e : fieldsOf g i = g.objs[i.toNat] := by unfold fieldsOf; simp [hi]
    rw [e]; exact h.n4 _ (List.getElem_mem hi)
  · have e : fieldsOf g i = [] := by unfold fieldsOf; simp [hi]
    rw [e]; simp

theorem fromK_le {g : Gr} (h : Good g) (ord : List Int) : ∀ k, ∀ q ∈ fromK g ord k, q.length ≤ 4 * k
  | 0, q, hq => by simp [fromK] at hq; simp [hq.2]
  | k + 1, q, hq => by
    have h1 := noteL_le ord (k : Int) (refsL (fieldsOf g (ord.getD k 0))) (fromK g ord k) (4 * k) (fromK_le h ord k) q hq
    have h2 := refsL_len (fieldsOf g (ord.getD k 0))
    have h3 := fieldsOf_len h (ord.getD k 0)
    omega

theorem noteL_mem {ord : List Int} (hnd : ord.Nodup) (n : Int) : ∀ (xs : List Int) (L : List (List Int)), L.length = ord.length → (∀ x ∈ xs, x ∈ ord) → ∀ (m : Nat) (hm : m < ord.length) (y : Int), y ∈ (noteL ord n L xs).getD m [] ↔ y ∈ L.getD m [] ∨ (y = n ∧ ord[m] ∈ xs)
  | [], L, _, _, m, hm, y => by simp [noteL]
  | x :: xs, L, hL, hx, m, hm, y => by
    have hxo := hx x (by simp)
    have hi : ord.idxOf x < ord.length := List.idxOf_lt_length_iff.2 hxo
    have ih := noteL_mem hnd n xs (L.set (ord.idxOf x) ((L.getD (ord.idxOf x) []) ++ [n])) (by simp [hL]) (fun z hz => hx z (by simp [hz])) m hm y
    have e : noteL ord n L (x :: xs) = noteL ord n (L.set (ord.idxOf x) ((L.getD (ord.idxOf x) []) ++ [n])) xs := by simp [noteL]
    rw [e, ih]
    by_cases em : m = ord.idxOf x
    · have hox : ord[m] = x := by subst em; exact List.getElem_idxOf hi
      have e2 : (L.set (ord.idxOf x) ((L.getD (ord.idxOf x) []) ++ [n])).getD m [] = L.getD m [] ++ [n] := by
        subst em
        rw [List.getD_eq_getElem?_getD, List.getElem?_set_self (by rw [hL]; exact hi)]
        rfl
      rw [e2, List.mem_append, List.mem_singleton, hox]
      constructor
      · rintro ((h | h) | ⟨h, h2⟩)
        · exact .inl h
        · exact .inr ⟨h, by simp⟩
        · exact .inr ⟨h, by simp [h2]⟩
      · rintro (h | ⟨h, _⟩)
        · exact .inl (.inl h)
        · exact .inl (.inr h)
    · have hox : ord[m] ≠ x := fun e3 => em (by
        have h1 : ord[ord.idxOf x] = x := List.getElem_idxOf hi
        refine (List.getElem?_inj hm hnd).1 ?_
        rw [List.getElem?_eq_getElem hm, List.getElem?_eq_getElem hi, e3, h1])
      have e2 : (L.set (ord.idxOf x) ((L.getD (ord.idxOf x) []) ++ [n])).getD m [] = L.getD m [] := by
        rw [List.getD_eq_getElem?_getD, List.getElem?_set_ne (fun e3 => em e3.symm), List.getD_eq_getElem?_getD]
      rw [e2]
      constructor
      · rintro (h | ⟨h, h2⟩)
        · exact .inl h
        · exact .inr ⟨h, by simp [h2]⟩
      · rintro (h | ⟨h, h2⟩)
        · exact .inl h
        · rcases List.mem_cons.1 h2 with h3 | h3
          · exact absurd h3 hox
          · exact .inr ⟨h, h3⟩

theorem fromK_mem {g : Gr} {ord : List Int} (hnd : ord.Nodup) (hcl : ∀ x ∈ ord, ∀ y ∈ refsL (fieldsOf g x), y ∈ ord) : ∀ (k : Nat), k ≤ ord.length → ∀ (m : Nat) (hm : m < ord.length) (y : Int), y ∈ (fromK g ord k).getD m [] ↔ ∃ (p : Nat) (hp : p < ord.length), p < k ∧ y = (p : Int) ∧ ord[m] ∈ refsL (fieldsOf g ord[p])
  | 0, _, m, hm, y => by
    simp only [fromK, List.getD_eq_getElem?_getD, List.getElem?_replicate]
    rw [if_pos hm]
    simp
  | k + 1, hk, m, hm, y => by
    have hkl : k < ord.length := by omega
    have e : ord.getD k 0 = ord[k] := by simp [hkl]
    rw [fromK, e, noteL_mem hnd _ _ _ (fromK_len g ord k) (hcl _ (List.getElem_mem hkl)) m hm y, fromK_mem hnd hcl k (by omega) m hm y]
    constructor
    · rintro (⟨p, hp, h1, h2, h3⟩ | ⟨h1, h2⟩)
      · exact ⟨p, hp, by omega, h2, h3⟩
      · exact ⟨k, hkl, by omega, h1, h2⟩
    · rintro ⟨p, hp, h1, h2, h3⟩
      by_cases ep : p = k
      · subst ep; exact .inr ⟨h2, h3⟩
      · exact .inl ⟨p, hp, by omega, h2, h3⟩

/-- p refers to m, by their numbers; the roots' is the last. -/
def EG (g : Gr) (ord : List Int) (p m : Nat) : Prop := ∃ hm : m < ord.length, (∃ hp : p < ord.length, ord[m] ∈ refsL (fieldsOf g ord[p])) ∨ (p = ord.length ∧ ord[m] ∈ refsL g.roots)

theorem fromL_mem {g : Gr} {ord : List Int} (hnd : ord.Nodup) (hcl : ∀ x ∈ ord, ∀ y ∈ refsL (fieldsOf g x), y ∈ ord) (hrt : ∀ y ∈ refsL g.roots, y ∈ ord) {m : Nat} (hm : m < ord.length) (y : Int) : y ∈ (fromL g ord).getD m [] ↔ ∃ p : Nat, y = (p : Int) ∧ EG g ord p m := by
  unfold fromL
  rw [noteL_mem hnd _ _ _ (fromK_len g ord _) hrt m hm y, fromK_mem hnd hcl _ (Nat.le_refl _) m hm y]
  constructor
  · rintro (⟨p, hp, _, h2, h3⟩ | ⟨h1, h2⟩)
    · exact ⟨p, h2, hm, .inl ⟨hp, h3⟩⟩
    · exact ⟨ord.length, h1, hm, .inr ⟨rfl, h2⟩⟩
  · rintro ⟨p, h1, _, ⟨hp, h3⟩ | ⟨rfl, h3⟩⟩
    · exact .inl ⟨p, hp, hp, h1, h3⟩
    · exact .inr ⟨h1, h3⟩

theorem eof_eg {g : Gr} {ord : List Int} (hnd : ord.Nodup) (hcl : ∀ x ∈ ord, ∀ y ∈ refsL (fieldsOf g x), y ∈ ord) (hrt : ∀ y ∈ refsL g.roots, y ∈ ord) (p m : Nat) : Eof (fromL g ord) p m ↔ EG g ord p m := by
  constructor
  · rintro ⟨l, hl, hp⟩
    have hm : m < ord.length := by rw [← fromL_len g ord]; exact (List.getElem?_eq_some_iff.1 hl).1
    obtain ⟨q, h1, h2⟩ := (fromL_mem hnd hcl hrt hm (p : Int)).1 (by rw [List.getD_eq_getElem?_getD, hl]; exact hp)
    obtain rfl : p = q := by omega
    exact h2
  · intro h
    have hm : m < ord.length := h.1
    have hl : (fromL g ord)[m]? = some ((fromL g ord)[m]'(by rw [fromL_len]; exact hm)) := List.getElem?_eq_getElem (by rw [fromL_len]; exact hm)
    refine ⟨_, hl, ?_⟩
    have := (fromL_mem hnd hcl hrt hm (p : Int)).2 ⟨p, rfl, h⟩
    rw [List.getD_eq_getElem?_getD, hl] at this
    exact this

/-- The table, when it is made, can be read. -/
theorem RB.tab {W : World} {b N gb : Nat} {o0 o1 : Obj} {ord : List Int} {L : List (List Int)} {es : List Value} (h : RB W b N gb o0 o1 ord L es) (hs : ord.length ≤ 1000) (hq : ∀ q ∈ L, q.length ≤ 1000) : Tab W.heap.size W (some ⟨b + 2, 0, none⟩) L := by
  refine ⟨by rw [h.len]; omega, fun _ => ⟨b + 2, 0, rfl, by have := h.lt; omega, fun k l hk => ?_⟩⟩
  obtain ⟨v, hv, hvr⟩ := h.el k l hk
  have hl := hq l (List.mem_of_getElem? hk)
  obtain ⟨va, vc, rfl, hI, _⟩ := ints_of_owns hvr rfl (by omega)
  refine ⟨va, vc, ?_, hI⟩
  rw [Nat.zero_add]
  exact row_at h.row hv

theorem refsOkS_fields {g : Gr} (h : Good g) {ord : List Int} (hcl : ∀ x ∈ ord, ∀ y ∈ refsL (fieldsOf g x), y ∈ ord) {x : Int} (hx : x ∈ ord) : RefsOkS ord (fieldsOf g x) := by
  rintro ⟨r, y⟩ hv hr
  obtain rfl : r = true := hr
  exact hcl x hx y ((mem_refsL (refsOk_fieldsOf h x) y).2 hv)

theorem refsOkS_roots {g : Gr} (h : Good g) {ord : List Int} (hrt : ∀ y ∈ refsL g.roots, y ∈ ord) : RefsOkS ord g.roots := by
  rintro ⟨r, y⟩ hv hr
  obtain rfl : r = true := hr
  exact hrt y ((mem_refsL h.refsRoots y).2 hv)

theorem box_cells {W : World} {b : Nat} {x y : Value} {t : TypeId} (h : W.heap[b]? = some (.cells #[x, y] t)) : W.cell? ⟨b, 0, none⟩ = some x ∧ W.cell? ⟨b, 1, none⟩ = some y := ⟨by simp [World.cell?, h], by simp [World.cell?, h]⟩

set_option maxRecDepth 100000 in
set_option maxHeartbeats 4000000 in
theorem referrers_c (oa ao ar : Option Addr) (oc co cr gb : Nat) (g : Gr) (ord : List Int) (w : World) (hO : Ints w.heap.size w oa ord) (hNm : Ints w.heap.size w (some ⟨gb, 0, none⟩) (numL g.objs.length ord)) (ho : Objs w.heap.size w ao g.objs) (hr : Vals w.heap.size w ar g.roots) (hG : Good g)
    (hrg : ∀ x ∈ ord, 0 ≤ x ∧ x < (g.objs.length : Int)) (hol : ord.length ≤ 24) (hcl : ∀ x ∈ ord, ∀ y ∈ refsL (fieldsOf g x), y ∈ ord) (hrt : ∀ y ∈ refsL g.roots, y ∈ ord) :
    Calls Try.prog 26 #[.agg #[.slice oa ord.length oc, .slice (some ⟨gb, 0, none⟩) g.objs.length g.objs.length], .agg #[.slice ao g.objs.length co, .slice ar g.roots.length cr]] w fun e w' =>
      e = .returned (.slice (some ⟨w.heap.size + 2, 0, none⟩) ord.length ord.length) ∧ Tab w'.heap.size w' (some ⟨w.heap.size + 2, 0, none⟩) (fromL g ord) ∧ Below w.heap.size w w' := by
  obtain ⟨i0, hi, hz0, hz1, hz2⟩ := info_parts Try.info26
  have hn24 := hG.n24
  have hn8 := hG.n8
  have ho1 := ho.1
  have hr1 := hr.1
  have Hrg := hide hrg
  have Hcl := hide hcl
  have Hrt := hide hrt
  clear hrg hcl hrt
  obtain ⟨W2, hW2⟩ : ∃ W2, (w.alloc (.cells #[.slice oa ord.length oc, .slice (some ⟨gb, 0, none⟩) g.objs.length g.objs.length] 43)).alloc (.cells #[.slice ao g.objs.length co, .slice ar g.roots.length cr] 25) = W2 := ⟨_, rfl⟩
  have hs2 : W2.heap.size = w.heap.size + 2 := by rw [← hW2]; simp
  have hb2 : Below w.heap.size w W2 := by rw [← hW2]; exact ((Below.refl _ _).alloc (Nat.le_refl _) _).alloc (by simp) _
  have hh0 : W2.heap[w.heap.size]? = some (.cells #[.slice oa ord.length oc, .slice (some ⟨gb, 0, none⟩) g.objs.length g.objs.length] 43) := by rw [← hW2]; exact (Below.heap_alloc _ _ _ (by simp)).trans (World.alloc_heap_new' _ _ _ rfl)
  have hh1 : W2.heap[w.heap.size + 1]? = some (.cells #[.slice ao g.objs.length co, .slice ar g.roots.length cr] 25) := by rw [← hW2]; exact World.alloc_heap_new' _ _ _ (by simp)
  have c0 : W2.cell? ⟨w.heap.size, 0, none⟩ = some (.slice oa ord.length oc) := by rw [← hW2]; simp [go_sem]
  go_enter Try.func26, Try.ntmps26
  go_wp2_with (at_make; go_must (refine wpList_make_at _ rfl _ _ 40 rfl (w.heap.size + 2) 26 i0 _ 1 Try.underlying40 hi hz0 hz1 .i64 .i64 _ _ ord.length rfl rfl rfl rfl (by rw [hz2]; omega) (by simp only [maxLen]; omega) (by omega) ?_); go_must (intro w5 hown5 hg5 hs5; rw [hs2] at hown5 hs5 ⊢; have c05 := hg5.cell c0 (by simp); have hb5 : w.heap.size < w5.heap.size := (by omega); have Hs5 := hide hs5; clear hs5))
  simp only [unhide Hs5, Nat.add_assoc, Nat.reduceAdd]
  obtain ⟨W6, hW6⟩ : ∃ W6, w5.alloc (.cells #[.slice (some ⟨w.heap.size + 2, 0, none⟩) ord.length ord.length] 40) = W6 := ⟨_, rfl⟩
  rw [hW6]
  have hw5 : Below w.heap.size w w5 := hb2.grown hg5 (by omega) (fun k e => by cases e)
  have hs5 := unhide Hs5
  have hw6 : Below w.heap.size w W6 := by rw [← hW6]; exact hw5.alloc (by omega) _
  have hk6 : ∀ k, k < w.heap.size + 3 → W6.heap[k]? = w5.heap[k]? := fun k hk => by rw [← hW6]; exact Below.heap_alloc _ _ k (by omega)
  have hk5 : ∀ k, k < w.heap.size + 2 → W6.heap[k]? = W2.heap[k]? := fun k hk => (hk6 k (by omega)).trans (hg5.block k (by omega) (by simp))
  have hRB : RB W6 w.heap.size g.objs.length gb (.cells #[.slice oa ord.length oc, .slice (some ⟨gb, 0, none⟩) g.objs.length g.objs.length] 43) (.cells #[.slice ao g.objs.length co, .slice ar g.roots.length cr] 25) ord (fromK g ord 0) (List.replicate ord.length (.slice none 0 0)) := by
    refine ⟨(hk5 _ (by omega)).trans hh0, (hk5 _ (by omega)).trans hh1, (box_cells ((hk5 _ (by omega)).trans hh0)).2, hNm.below hw6, ?_, by simp [fromK], ?_, ?_, ?_⟩
    · rw [← hW6, show w.heap.size + 3 = w5.heap.size by omega]; simp [go_sem]
    · have e : (madeCells (Value.slice none 0 0).cells (ord.length * 1)).toList = List.replicate ord.length (.slice none 0 0) := by rw [Nat.mul_one]; exact toList_madeCells_one _ _
      rw [e] at hown5
      exact row_block hown5 (hk6 _ (by omega))
    · intro k l hk
      simp only [fromK, List.getElem?_replicate] at hk
      split at hk
      · rename_i hkl
        injection hk with hk
        subst hk
        exact ⟨.slice none 0 0, by simp [hkl], World.ownsRow_nil _ _ _ _⟩
      · cases hk
    · intro j k vj vk x hj _ hjx _
      simp only [List.getElem?_replicate] at hj
      split at hj
      · injection hj with hj
        subst hj
        simp [Value.ownBlock] at hjx
      · cases hj
  clear hW6 hk6 hk5 hown5 hg5 hh0 hh1 c0 c05 hb5 hs5 Hs5 hw5 hs2 hb2 hW2
  obtain ⟨o0, ho0⟩ : ∃ o0, Obj.cells #[.slice oa ord.length oc, .slice (some ⟨gb, 0, none⟩) g.objs.length g.objs.length] 43 = o0 := ⟨_, rfl⟩
  obtain ⟨o1, ho1'⟩ : ∃ o1, Obj.cells #[.slice ao g.objs.length co, .slice ar g.roots.length cr] 25 = o1 := ⟨_, rfl⟩
  rw [ho0, ho1'] at hRB
  have Ho0 := hide ho0
  have Ho1 := hide ho1'
  clear ho0 ho1'
  go_loopw [17] (fun i wr => ∃ (k : Nat) (es : List Value), k ≤ ord.length ∧ i = .int .i64 k ∧ RB wr w.heap.size g.objs.length gb o0 o1 ord (fromK g ord k) es ∧ Below w.heap.size w wr) (fun i _ => ord.length - (intOf i).toNat)
  case atStart => exact ⟨0, _, Nat.zero_le _, rfl, hRB, hw6⟩
  case round =>
    clear hRB hw6
    obtain ⟨k, es, hk, rfl, hR, hb⟩ := hrel
    have hsz := hR.lt
    have q0 := hR.b0
    rw [← unhide Ho0] at q0
    have c0 := (box_cells q0).1
    have q1 := hR.b1
    rw [← unhide Ho1] at q1
    obtain ⟨c10, c11⟩ := box_cells q1
    have Hle := hide (fromK_le hG ord k)
    clear q0 q1
    by_cases hlt : k < ord.length
    · obtain ⟨b, off, rfl, hbB, hcx⟩ := (hO.below hb).at hlt
      have hxr := unhide Hrg _ (List.getElem_mem hlt)
      have Hok := hide (refsOkS_fields hG (unhide Hcl) (List.getElem_mem hlt))
      have HK : Hid (fromK g ord (k + 1) = noteL ord (k : Int) (fromK g ord k) (refsL (fieldsOf g ord[k]))) := by show _ = _; rw [fromK]; simp [hlt]
      generalize ord[k] = x at *
      obtain ⟨x, rfl⟩ := Int.eq_ofNat_of_zero_le hxr.1
      have hxN : x < g.objs.length := by omega
      have hxI : (x : Int) < (g.objs.length : Int) := by omega
      obtain ⟨b2, off2, ai, ci, rfl, hbB2, hcb, hva⟩ := (ho.below hb).at hxN
      have hfe : fieldsOf g (x : Int) = g.objs[x] := by simp [fieldsOf, hxN]
      rw [hfe] at Hok HK
      have hl4 := hG.n4 _ (List.getElem_mem hxN)
      clear hfe
      generalize g.objs[x] = fs at *
      go_wp2_with fail
      refine (note_c g.objs.length gb w.heap.size o0 o1 ord (unhide Hrg) hn24 (k : Int) ai ci fs (fromK g ord k) (4 * k) wr es hR hva (unhide Hok) (by omega) (unhide Hle) (by omega)).mono ?_
      rintro e wu ⟨rfl, ⟨es2, hR2⟩, hb2⟩
      go_wp2
      go_roundw
      case rel => exact ⟨k + 1, es2, by omega, by go_num, by rw [unhide HK]; exact hR2, hb.trans hb2⟩
      case measure => simp [intOf]; omega
    · obtain rfl : k = ord.length := by omega
      go_wp2_with fail
      refine (note_c g.objs.length gb w.heap.size o0 o1 ord (unhide Hrg) hn24 (ord.length : Int) ar cr g.roots (fromK g ord ord.length) (4 * ord.length) wr es hR (hr.below hb) (refsOkS_roots hG (unhide Hrt)) (by omega) (unhide Hle) (by omega)).mono ?_
      rintro e wu ⟨rfl, ⟨es2, hR2⟩, hb2⟩
      have HT : Hid (Tab wu.heap.size wu (some ⟨w.heap.size + 2, 0, none⟩) (fromL g ord)) := by
        refine hR2.tab (by omega) (fun q hq => ?_)
        have h1 := noteL_le ord (ord.length : Int) (refsL g.roots) (fromK g ord ord.length) (4 * ord.length) (unhide Hle) q hq
        have h2 := refsL_len g.roots
        omega
      have hcf := hR2.cf
      clear c0 c10 c11
      go_wp2
      go_ret
      exact ⟨rfl, unhide HT, hb.trans hb2⟩

end Go.Proofs.Ytkoidbekfjlfjaa
