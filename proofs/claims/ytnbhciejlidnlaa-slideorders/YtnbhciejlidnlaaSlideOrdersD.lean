/- Merged texts: Qa Qb Qc Qd Qe Qf Qg Qh Sf Fa Fb. -/
import Derived.Test.YtnbhciejlidnlaaProg
import Derived.Test.YtnbhciejlidnlaaSlideOrdersC
import Derived.StillTailTactics

/- Plain: the words that the mover lays. -/
namespace Go.Proofs.Ytnbhciejlidnlaa
set_option linter.unusedSimpArgs false
set_option linter.unusedVariables false
open Go.RowKit

/-- A header's word, without a mark, one older. -/
def ageW (x : Int) : Int := headW (uhL x) false (min (uhA x + 1) 7)

theorem ageE (x : Int) : headE (uhL x) (min (uhA x + 1) 7) = 0 := by
  have h : headOk (uhL x) (min (uhA x + 1) 7) = true := by
    unfold headOk uhL uhA
    split
    · rename_i h
      simp [unheadOk] at h
      simp
      omega
    · simp; omega
  simp [headE, h]

theorem ageW_ok (x : Int) : unheadOk (ageW x) = true ∧ uhL (ageW x) = uhL x ∧ uhM (ageW x) = false ∧ uhA (ageW x) = min (uhA x + 1) 7 ∧ 0 ≤ ageW x ∧ ageW x < 18446744073709551616 := by
  obtain ⟨h1, h2, h3, h4, h5, h6⟩ := un_head (uhL x) (min (uhA x + 1) 7) false (ageE x)
  exact ⟨uh_of_zero h6, h3, h4, h5, h1, h2⟩

theorem ageW_wlen {x : Int} (h : unheadOk x = true) : wlen (ageW x) = wlen x := by
  have h1 := ageW_ok x
  have h2 := uhL_wlen h1.1
  have h3 := uhL_wlen h
  have := h1.2.1
  omega

/-- The fields of an object by its number. -/
def fO (fs : List (List Int)) (o : Int) : List Int := fs.getD o.toNat []
def hO (hs : List Int) (o : Int) : Int := ageW (hs.getD o.toNat 0)

/-- Some numbers of objects, each once. -/
structure OOk (fs : List (List Int)) (O : List Int) : Prop where
  nd : O.Nodup
  rng : ∀ o ∈ O, 0 ≤ o ∧ o < fs.length

theorem sum_sub {α : Type} [BEq α] [LawfulBEq α] (f : α → Nat) : ∀ (l m : List α), l.Nodup → (∀ x ∈ l, x ∈ m) → (l.map f).sum ≤ (m.map f).sum
  | [], m, _, _ => by simp
  | x :: l, m, hn, h => by
    rw [List.nodup_cons] at hn
    have hx := h x (by simp)
    have hp := ((List.perm_cons_erase hx).map f).sum_nat
    have ih := sum_sub f l (m.erase x) hn.2 (fun y hy => by
      have : y ≠ x := fun e => hn.1 (e ▸ hy)
      exact (List.mem_erase_of_ne this).2 (h y (by simp [hy])))
    simp only [List.map_cons, List.sum_cons] at hp ⊢
    omega

theorem range_objs (fs : List (List Int)) : ((List.range fs.length).map fun i => (fs.getD i []).length + 1) = fs.map fun f => f.length + 1 := by
  apply List.ext_getElem?
  intro k
  by_cases h : k < fs.length
  · simp [h, List.getD_eq_getElem?_getD]
  · simp [List.getElem?_eq_none (show fs.length ≤ k by omega), h]

theorem OOk.tot_le {fs : List (List Int)} {O : List Int} (h : OOk fs O) : tot (O.map (fO fs)) ≤ tot fs := by
  have h1 := sum_sub (fun o : Int => (fO fs o).length + 1) O ((List.range fs.length).map Int.ofNat) h.nd (fun o ho => by
    have := h.rng o ho
    exact List.mem_map.2 ⟨o.toNat, List.mem_range.2 (by omega), by show ((o.toNat : Nat) : Int) = o; omega⟩)
  have h2 : tot (O.map (fO fs)) = (O.map fun o => (fO fs o).length + 1).sum := by unfold tot; rw [List.map_map]; rfl
  have h3 : (((List.range fs.length).map Int.ofNat).map fun o => (fO fs o).length + 1).sum = tot fs := by
    unfold tot
    rw [← range_objs, List.map_map]
    rfl
  omega

theorem OOk.len {fs : List (List Int)} {O : List Int} (h : OOk fs O) : O.length ≤ tot fs := by
  have := h.tot_le
  have := tot_len (O.map (fO fs))
  simp at this
  omega

theorem OOk.nil (fs : List (List Int)) : OOk fs [] := ⟨by simp, by simp⟩
theorem OOk.snoc {fs : List (List Int)} {O : List Int} (h : OOk fs O) {j : Nat} (hj : j < fs.length) (hn : (j : Int) ∉ O) : OOk fs (O ++ [(j : Int)]) := by
  refine ⟨?_, fun o ho => ?_⟩
  · rw [List.nodup_append]; exact ⟨h.nd, by simp, by intro a ha b hb; simp at hb; subst hb; exact fun e => hn (e ▸ ha)⟩
  · rcases List.mem_append.1 ho with ho | ho
    · exact h.rng o ho
    · simp at ho; subst ho; omega

/-- The word that stands for an old one. -/
def twW (fs : List (List Int)) (O : List Int) (x : Int) : Int := packV (stF 0 (O.map (fO fs))) (renV O (valW (stF 0 fs) x))

theorem map_prefix {α β : Type} {f : α → β} {l m : List α} (h : l <+: m) : l.map f <+: m.map f := by
  obtain ⟨t, rfl⟩ := h
  rw [List.map_append]
  exact List.prefix_append _ _

theorem prefix_take {α : Type} {l m : List α} (h : l <+: m) {k : Nat} (hk : k ≤ l.length) : m.take k = l.take k := by
  obtain ⟨t, rfl⟩ := h
  rw [List.take_append_of_le_length hk]

theorem twW_ref {fs : List (List Int)} {O : List Int} {x : Int} {j : Nat} (hv : valW (stF 0 fs) x = (true, (j : Int))) (hj : (j : Int) ∈ O) :
    twW fs O x = packW true ((tot ((O.map (fO fs)).take (O.idxOf (j : Int))) : Nat) : Int) := by
  have hi := List.idxOf_lt_length_iff.2 hj
  have hg := stF_get (O.map (fO fs)) 0 (O.idxOf (j : Int)) (by simpa using hi)
  have e : renV O (valW (stF 0 fs) x) = (true, ((O.idxOf (j : Int) : Nat) : Int)) := by rw [hv]; simp [renV, placeOf, hj]
  unfold twW
  rw [e]
  simp only [packV, if_true, Int.toNat_natCast]
  rw [List.getD_eq_getElem?_getD, hg, Option.getD_some, Nat.zero_add]

theorem twW_num {fs : List (List Int)} {O : List Int} {x : Int} (h : unRef x = false) (h1 : 0 ≤ x) (h2 : x < 18446744073709551616) (he : unErr x = 0) : twW fs O x = x := by
  obtain ⟨p1, p2⟩ := pack_un x h1 h2 he
  unfold twW
  rw [valW_num h]
  simp only [renV, Bool.false_eq_true, if_false]
  rw [packV_num]
  rw [h] at p2
  exact p2

theorem twW_prefix {fs : List (List Int)} {O O' : List Int} (h : O <+: O') {x : Int} (hx : (valW (stF 0 fs) x).1 = true → (valW (stF 0 fs) x).2 ∈ O) : twW fs O' x = twW fs O x := by
  unfold twW
  rw [renV_prefix h hx]
  cases hv : (valW (stF 0 fs) x).1
  · have e : renV O (valW (stF 0 fs) x) = (false, (valW (stF 0 fs) x).2) := by
      rw [show valW (stF 0 fs) x = (false, (valW (stF 0 fs) x).2) from Prod.ext hv rfl]; simp [renV]
    rw [e, packV_num, packV_num]
  · have hm := hx hv
    have e : renV O (valW (stF 0 fs) x) = (true, ((O.idxOf (valW (stF 0 fs) x).2 : Nat) : Int)) := by
      rw [renV, if_pos hv, placeOf, if_pos hm]
    have hi := List.idxOf_lt_length_iff.2 hm
    have hl : O.length ≤ O'.length := h.length_le
    have hg := stF_get (O.map (fO fs)) 0 (O.idxOf (valW (stF 0 fs) x).2) (by simpa using hi)
    have hg' := stF_get (O'.map (fO fs)) 0 (O.idxOf (valW (stF 0 fs) x).2) (by simp; omega)
    rw [prefix_take (map_prefix (f := fO fs) h) (by simp; omega)] at hg'
    rw [e]
    simp only [packV, if_true, Int.toNat_natCast]
    rw [List.getD_eq_getElem?_getD, List.getD_eq_getElem?_getD, hg, hg']

/-- The words of objects: which are headers. -/
def oE (hs : List Int) (fs : List (List Int)) (o : Int) : List (Bool × Int) := (true, hO hs o) :: (fO fs o).map (Prod.mk false)
def uE (hs : List Int) (fs : List (List Int)) (O : List Int) : List (Bool × Int) := O.flatMap (oE hs fs)

theorem oE_len (hs : List Int) (fs : List (List Int)) (o : Int) : (oE hs fs o).length = (fO fs o).length + 1 := by simp [oE]
theorem uE_snoc (hs : List Int) (fs : List (List Int)) (O : List Int) (o : Int) : uE hs fs (O ++ [o]) = uE hs fs O ++ oE hs fs o := by simp [uE]
theorem uE_len (hs : List Int) (fs : List (List Int)) : ∀ (O : List Int), (uE hs fs O).length = tot (O.map (fO fs))
  | [] => rfl
  | o :: O => by
    have ih := uE_len hs fs O
    simp only [uE, List.flatMap_cons, List.length_append, List.map_cons, tot_cons, oE_len] at *
    omega

theorem uE_append (hs : List Int) (fs : List (List Int)) (O O' : List Int) : uE hs fs (O ++ O') = uE hs fs O ++ uE hs fs O' := by simp [uE]

theorem uE_split {hs : List Int} {fs : List (List Int)} {O : List Int} {k : Nat} (hk : k < O.length) : uE hs fs O = uE hs fs (O.take k) ++ (oE hs fs O[k] ++ uE hs fs (O.drop (k + 1))) := by
  conv => lhs; rw [← List.take_append_drop k O, List.drop_eq_getElem_cons hk]
  rw [uE_append]
  rfl

theorem uE_at {hs : List Int} {fs : List (List Int)} {O : List Int} {k : Nat} (hk : k < O.length) {i : Nat} {e : Bool × Int} (he : (oE hs fs O[k])[i]? = some e) : (uE hs fs O)[tot ((O.map (fO fs)).take k) + i]? = some e := by
  have hl : (uE hs fs (O.take k)).length = tot ((O.map (fO fs)).take k) := by rw [uE_len, List.map_take]
  rw [uE_split hk, ← hl, List.getElem?_append_right (by omega), Nat.add_sub_cancel_left, List.getElem?_append_left (List.getElem?_eq_some_iff.1 he).1]
  exact he

theorem uE_head {hs : List Int} {fs : List (List Int)} {O : List Int} {k : Nat} (hk : k < O.length) : (uE hs fs O)[tot ((O.map (fO fs)).take k)]? = some (true, hO hs O[k]) :=
  uE_at hk (i := 0) (by simp [oE])
theorem uE_field {hs : List Int} {fs : List (List Int)} {O : List Int} {k d : Nat} {x : Int} (hk : k < O.length) (hx : (fO fs O[k])[d]? = some x) : (uE hs fs O)[tot ((O.map (fO fs)).take k) + 1 + d]? = some (false, x) := by
  rw [Nat.add_assoc]
  exact uE_at hk (i := 1 + d) (by rw [Nat.add_comm 1 d]; simp [oE, hx])

def twE (fs : List (List Int)) (O : List Int) (e : Bool × Int) : Int := if e.1 then e.2 else twW fs O e.2

/-- What was laid, the first t words of it turned. -/
def madeW (hs : List Int) (fs : List (List Int)) (O : List Int) (t : Nat) : List Int := ((uE hs fs O).take t).map (twE fs O) ++ ((uE hs fs O).drop t).map Prod.snd

theorem madeW_len (hs : List Int) (fs : List (List Int)) (O : List Int) (t : Nat) : (madeW hs fs O t).length = tot (O.map (fO fs)) := by
  have := uE_len hs fs O
  simp only [madeW, List.length_append, List.length_map, List.length_take, List.length_drop]
  omega

theorem madeW_nil (hs : List Int) (fs : List (List Int)) (t : Nat) : madeW hs fs [] t = [] := by simp [madeW, uE]

/-- Of all that was turned the objects were laid. -/
def Done (hs : List Int) (fs : List (List Int)) (O : List Int) (t : Nat) : Prop :=
  ∀ x, (false, x) ∈ (uE hs fs O).take t → (valW (stF 0 fs) x).1 = true → (valW (stF 0 fs) x).2 ∈ O

theorem done_zero (hs : List Int) (fs : List (List Int)) (O : List Int) : Done hs fs O 0 := by intro x hx; simp at hx

theorem Done.snoc {hs : List Int} {fs : List (List Int)} {O : List Int} {t : Nat} (h : Done hs fs O t) (ht : t ≤ tot (O.map (fO fs))) (o : Int) : Done hs fs (O ++ [o]) t := by
  intro x hx hv
  rw [uE_snoc, List.take_append_of_le_length (by rw [uE_len]; exact ht)] at hx
  exact List.mem_append.2 (.inl (h x hx hv))

theorem Done.ins {hs : List Int} {fs : List (List Int)} {O : List Int} {t : Nat} (h : Done hs fs O t) (ht : t ≤ tot (O.map (fO fs))) (v : V) : Done hs fs (ins O v) t := by
  unfold Ytnbhciejlidnlaa.ins
  split
  · split
    · exact h
    · exact h.snoc ht _
  · exact h

theorem Done.head {hs : List Int} {fs : List (List Int)} {O : List Int} {t : Nat} (h : Done hs fs O t) {y : Int} (hy : (uE hs fs O)[t]? = some (true, y)) : Done hs fs O (t + 1) := by
  intro x hx hv
  rw [List.take_add_one, hy] at hx
  simp at hx
  exact h x hx hv

theorem Done.step {hs : List Int} {fs : List (List Int)} {O : List Int} {t : Nat} (h : Done hs fs O t) {y : Int} (hy : (uE hs fs O)[t]? = some (false, y)) (hm : (valW (stF 0 fs) y).1 = true → (valW (stF 0 fs) y).2 ∈ O) : Done hs fs O (t + 1) := by
  intro x hx hv
  rw [List.take_add_one, hy] at hx
  simp at hx
  rcases hx with hx | rfl
  · exact h x hx hv
  · exact hm hv

theorem madeW_snoc {hs : List Int} {fs : List (List Int)} {O : List Int} {t : Nat} (h : Done hs fs O t) (ht : t ≤ tot (O.map (fO fs))) (o : Int) : madeW hs fs (O ++ [o]) t = madeW hs fs O t ++ (hO hs o :: fO fs o) := by
  have hl := uE_len hs fs O
  unfold madeW
  rw [uE_snoc, List.take_append_of_le_length (by omega), List.drop_append_of_le_length (by omega), List.map_append, List.append_assoc]
  congr 1
  · apply List.map_congr_left
    rintro ⟨b, x⟩ he
    cases b
    · simp only [twE, Bool.false_eq_true, if_false]
      exact twW_prefix (List.prefix_append _ _) (h x he)
    · simp [twE]
  · congr 1
    simp [oE, List.map_map, Function.comp_def]

theorem madeW_get {hs : List Int} {fs : List (List Int)} {O : List Int} {t : Nat} {e : Bool × Int} (he : (uE hs fs O)[t]? = some e) : (madeW hs fs O t)[t]? = some e.2 := by
  have hlt := (List.getElem?_eq_some_iff.1 he).1
  unfold madeW
  rw [List.getElem?_append_right (by simp; omega)]
  simp only [List.length_map, List.length_take, Nat.min_eq_left (Nat.le_of_lt hlt), Nat.sub_self, List.getElem?_map, List.getElem?_drop, Nat.add_zero, he, Option.map_some]

theorem madeW_succ {hs : List Int} {fs : List (List Int)} {O : List Int} {t : Nat} {e : Bool × Int} (he : (uE hs fs O)[t]? = some e) : (madeW hs fs O t).set t (twE fs O e) = madeW hs fs O (t + 1) := by
  have hlt := (List.getElem?_eq_some_iff.1 he).1
  have hd : (uE hs fs O).drop t = e :: (uE hs fs O).drop (t + 1) := by
    rw [List.drop_eq_getElem_cons hlt, (List.getElem?_eq_some_iff.1 he).2]
  unfold madeW
  rw [List.take_add_one, he, hd, List.set_append_right _ _ (by simp; omega)]
  rw [List.length_map, List.length_take, Nat.min_eq_left (Nat.le_of_lt hlt), Nat.sub_self]
  simp

theorem madeW_head {hs : List Int} {fs : List (List Int)} {O : List Int} {t : Nat} {y : Int} (he : (uE hs fs O)[t]? = some (true, y)) : madeW hs fs O t = madeW hs fs O (t + 1) := by
  rw [← madeW_succ he]
  have h1 := madeW_get he
  apply List.ext_getElem?
  intro k
  rw [List.getElem?_set]
  split
  · rename_i e
    subst e
    rw [if_pos (List.getElem?_eq_some_iff.1 h1).1, h1]
    simp [twE]
  · rfl

theorem madeW_field {hs : List Int} {fs : List (List Int)} {O : List Int} {t : Nat} {x : Int} (he : (uE hs fs O)[t]? = some (false, x)) : (madeW hs fs O t).set t (twW fs O x) = madeW hs fs O (t + 1) := madeW_succ he

theorem uE_join (hs : List Int) (fs : List (List Int)) (O : List Int) : ∀ (L : List Int), (uE hs fs L).map (twE fs O) = joinW (L.map (hO hs)) (L.map fun o => (fO fs o).map (twW fs O))
  | [] => rfl
  | o :: L => by
    have ih := uE_join hs fs O L
    simp only [uE, List.flatMap_cons, List.map_append, List.map_cons, joinW] at *
    rw [ih]
    simp [oE, twE, List.map_map, Function.comp_def]

theorem madeW_all {hs : List Int} {fs : List (List Int)} {O : List Int} {t : Nat} (ht : tot (O.map (fO fs)) ≤ t) : madeW hs fs O t = joinW (O.map (hO hs)) (O.map fun o => (fO fs o).map (twW fs O)) := by
  have hl := uE_len hs fs O
  unfold madeW
  rw [List.take_of_length_le (by omega), List.drop_of_length_le (by omega), List.map_nil, List.append_nil]
  exact uE_join hs fs O O

end Go.Proofs.Ytnbhciejlidnlaa

/- What a mover holds, in memory. -/
namespace Go.Proofs.Ytnbhciejlidnlaa
set_option linter.unusedSimpArgs false
set_option linter.unusedVariables false
open Go.RowKit Go.Shelf

/-- The three cells of a mover. -/
structure VBox (W : World) (vb : Nat) (vo vm : Value) (mb : Nat) : Prop where
  c0 : W.cell? ⟨vb, 0, none⟩ = some vo
  c1 : W.cell? ⟨vb, 1, none⟩ = some vm
  c2 : W.cell? ⟨vb, 2, none⟩ = some (.map (some mb))
  fr : ∀ j, W.frozen? ⟨vb, j, none⟩ = false

theorem VBox.kept {W W' : World} {vb mb : Nat} {vo vm : Value} (h : VBox W vb vo vm mb) (hb : W'.heap[vb]? = W.heap[vb]?) : VBox W' vb vo vm mb :=
  ⟨(World.cell?_of_block (a := ⟨vb, 0, none⟩) hb).trans h.c0, (World.cell?_of_block (a := ⟨vb, 1, none⟩) hb).trans h.c1, (World.cell?_of_block (a := ⟨vb, 2, none⟩) hb).trans h.c2,
    fun j => (World.frozen?_of_block (a := ⟨vb, j, none⟩) hb).trans (h.fr j)⟩

theorem VBox.lt {W : World} {vb mb : Nat} {vo vm : Value} (h : VBox W vb vo vm mb) : vb < W.heap.size := World.block_lt_of_cell? W _ h.c0

theorem VBox.set1 {W : World} {vb mb : Nat} {vo vm : Value} (h : VBox W vb vo vm mb) (v : Value) : VBox (W.setCell ⟨vb, 1, none⟩ v) vb vo v mb := by
  refine ⟨?_, World.cell?_setCell_same' _ _ _ (by rw [h.c1]; rfl), ?_, fun j => by rw [World.frozen?_setCell]; exact h.fr j⟩
  · rw [World.cell?_setCell_other _ _ _ _ (by simp)]; exact h.c0
  · rw [World.cell?_setCell_other _ _ _ _ (by simp)]; exact h.c2

/-- A mover: what it reads, what it laid, where objects are now. -/
structure Mv (W : World) (N vb mb : Nat) (vo vm : Value) (L : List Int) (n : Nat) (M : DataW Unit) : Prop where
  box : VBox W vb vo vm mb
  lo : N ≤ vb
  lm : N ≤ mb
  mo : W.ownsRow N 51 1 vm L.length (wordsV L)
  map : W.ownsMap Try.prog 3 (plainElem Try.prog 3) mb n M
  bm : vb ≠ mb
  am : vm.ownBlock ≠ some vb
  mm : vm.ownBlock ≠ some mb

theorem Mv.below {W W' : World} {N vb mb : Nat} {vo vm : Value} {L : List Int} {n : Nat} {M : DataW Unit} (h : Mv W N vb mb vo vm L n M) (hb : Below W.heap.size W W') : Mv W' N vb mb vo vm L n M :=
  ⟨h.box.kept (hb.block _ h.box.lt), h.lo, h.lm, ownsRow_below h.mo hb, h.map.kept (grown_none hb) (by simp), h.bm, h.am, h.mm⟩

theorem Mv.alloc {W : World} {N vb mb : Nat} {vo vm : Value} {L : List Int} {n : Nat} {M : DataW Unit} (h : Mv W N vb mb vo vm L n M) (o : Obj) : Mv (W.alloc o) N vb mb vo vm L n M :=
  h.below ((Below.refl _ _).alloc (Nat.le_refl _) _)

/-- Behind a store of a place. -/
theorem Mv.setM {W W' : World} {N vb mb : Nat} {vo vm : Value} {L : List Int} {n n' : Nat} {M M' : DataW Unit} (h : Mv W N vb mb vo vm L n M) (hg : W.grownBy W' (some mb)) (hm : W'.ownsMap Try.prog 3 (plainElem Try.prog 3) mb n' M') : Mv W' N vb mb vo vm L n' M' :=
  ⟨h.box.kept (hg.block _ h.box.lt (fun e => h.bm (by injection e))), h.lo, h.lm, h.mo.kept hg (or_ne h.mm), hm, h.bm, h.am, h.mm⟩

/-- Behind a store into a block of another kind. -/
theorem Mv.setO {W : World} {N vb mb b : Nat} {vo vm : Value} {L : List Int} {n : Nat} {M : DataW Unit} (h : Mv W N vb mb vo vm L n M) (h1 : b ≠ vb) (h2 : b ≠ mb) (h3 : vm.ownBlock ≠ some b) (j : Nat) (u : Value) : Mv (W.setCell ⟨b, j, none⟩ u) N vb mb vo vm L n M := by
  have hg := grown_set W b j u
  exact ⟨h.box.kept (hg.block _ h.box.lt (fun e => h1 (by injection e with e; exact e.symm))), h.lo, h.lm, h.mo.kept hg (or_ne h3), h.map.kept hg (fun e => h2 (by injection e with e; exact e.symm)), h.bm, h.am, h.mm⟩

/-- Behind a store of a word. -/
theorem Mv.setW {W : World} {N vb mb g cap m : Nat} {vo : Value} {L : List Int} {n : Nat} {M : DataW Unit} (h : Mv W N vb mb vo (.slice (some ⟨g, 0, none⟩) m cap) L n M) (hm : m = L.length) (j : Nat) (y : Int) :
    Mv (W.setCell ⟨g, j, none⟩ (.int .u64 y)) N vb mb vo (.slice (some ⟨g, 0, none⟩) m cap) (L.set j y) n M := by
  subst hm
  have hg := grown_set W g j (.int .u64 y)
  have e : wordsV (L.set j y) = (wordsV L).set j (.int .u64 y) := by simp [wordsV, List.map_set]
  refine ⟨h.box.kept (hg.block _ h.box.lt (fun e => h.am e.symm)), h.lo, h.lm, ?_, h.map.kept hg (fun e => h.mm e.symm), h.bm, h.am, h.mm⟩
  rw [e, List.length_set]
  exact (h.mo.stored j (.int .u64 y)).1

theorem Mv.wcell {W : World} {N vb mb g cap m : Nat} {vo : Value} {L : List Int} {n : Nat} {M : DataW Unit} (h : Mv W N vb mb vo (.slice (some ⟨g, 0, none⟩) m cap) L n M) (hm : m = L.length) {j : Nat} {x : Int} (hx : L[j]? = some x) :
    W.cell? ⟨g, j, none⟩ = some (.int .u64 x) ∧ W.frozen? ⟨g, j, none⟩ = false := by
  subst hm
  have hlt := (List.getElem?_eq_some_iff.1 hx).1
  refine ⟨?_, h.mo.frozenAt j⟩
  rw [h.mo.cellAt j (by omega)]
  simp [wordsV, hx]

/-- All other blocks are as they were. -/
def Kp (W W' : World) (vb mb : Nat) (vm vm' : Value) : Prop :=
  W.heap.size ≤ W'.heap.size ∧ ∀ k, k < W.heap.size → k ≠ vb → k ≠ mb → vm.ownBlock ≠ some k → W'.heap[k]? = W.heap[k]? ∧ vm'.ownBlock ≠ some k

theorem Kp.refl (W : World) (vb mb : Nat) (vm : Value) : Kp W W vb mb vm vm := ⟨Nat.le_refl _, fun k _ _ _ h => ⟨rfl, h⟩⟩
theorem Kp.trans {W W' W'' : World} {vb mb : Nat} {vm vm' vm'' : Value} (h : Kp W W' vb mb vm vm') (h' : Kp W' W'' vb mb vm' vm'') : Kp W W'' vb mb vm vm'' :=
  ⟨by have := h.1; have := h'.1; omega, fun k h1 h2 h3 h4 => by
    have a := h.2 k h1 h2 h3 h4
    have b := h'.2 k (by have := h.1; omega) h2 h3 a.2
    exact ⟨b.1.trans a.1, b.2⟩⟩
theorem Kp.below {W W' W'' : World} {vb mb : Nat} {vm vm' : Value} (h : Kp W W' vb mb vm vm') (hb : Below W'.heap.size W' W'') : Kp W W'' vb mb vm vm' :=
  h.trans ⟨hb.size, fun k h1 _ _ h4 => ⟨hb.block k h1, h4⟩⟩
theorem Kp.alloc {W W' : World} {vb mb : Nat} {vm vm' : Value} (h : Kp W W' vb mb vm vm') (o : Obj) : Kp W (W'.alloc o) vb mb vm vm' := h.below ((Below.refl _ _).alloc (Nat.le_refl _) _)
theorem Kp.map {W W' W'' : World} {vb mb : Nat} {vm vm' : Value} (h : Kp W W' vb mb vm vm') (hg : W'.grownBy W'' (some mb)) : Kp W W'' vb mb vm vm' :=
  h.trans ⟨hg.size, fun k h1 _ h3 h4 => ⟨hg.block k h1 (fun e => h3 (by injection e)), h4⟩⟩
theorem Kp.set {W W' : World} {vb mb b : Nat} {vm vm' : Value} (h : Kp W W' vb mb vm vm') (hb : W.heap.size ≤ b) (j : Nat) (u : Value) : Kp W (W'.setCell ⟨b, j, none⟩ u) vb mb vm vm' :=
  ⟨by have := h.1; simp [World.setCell]; omega, fun k h1 h2 h3 h4 => ⟨(Below.heap_setCell W' ⟨b, j, none⟩ u k (by show k ≠ b; omega)).trans (h.2 k h1 h2 h3 h4).1, (h.2 k h1 h2 h3 h4).2⟩⟩
theorem Kp.word {W W' : World} {vb mb g m cap : Nat} {vm : Value} (h : Kp W W' vb mb vm (.slice (some ⟨g, 0, none⟩) m cap)) (j : Nat) (u : Value) : Kp W (W'.setCell ⟨g, j, none⟩ u) vb mb vm (.slice (some ⟨g, 0, none⟩) m cap) :=
  h.trans ⟨by simp [World.setCell], fun k h1 h2 h3 h4 => ⟨Below.heap_setCell W' ⟨g, j, none⟩ u k (fun e => h4 (by simp at e; simp [Value.ownBlock, e])), h4⟩⟩

/-- Some words more: behind the append and the store. -/
theorem Mv.push {W w1 : World} {N vb mb : Nat} {vo vm v' : Value} {L l : List Int} {n : Nat} {M : DataW Unit} (h : Mv W N vb mb vo vm L n M) (hrow : w1.ownsRow N 51 1 v' (L.length + l.length) (wordsV L ++ wordsV l)) (hg : W.grownBy w1 vm.ownBlock)
    (hat : v'.ownBlock = vm.ownBlock ∨ v'.ownBlock = some W.heap.size) : VBox w1 vb vo vm mb ∧ Mv (w1.setCell ⟨vb, 1, none⟩ v') N vb mb vo v' (L ++ l) n M ∧ Kp W (w1.setCell ⟨vb, 1, none⟩ v') vb mb vm v' := by
  have hbox : VBox w1 vb vo vm mb := h.box.kept (hg.block _ h.box.lt (fun e => h.am e.symm))
  have hg2 := grown_set w1 vb 1 v'
  have hml := h.map.lt
  have ne : ∀ {k : Nat}, k < W.heap.size → vm.ownBlock ≠ some k → v'.ownBlock ≠ some k := by
    intro k hk h2 e
    rcases hat with h | h
    · exact h2 (h ▸ e)
    · rw [h] at e; injection e with e; omega
  refine ⟨hbox, ⟨hbox.set1 v', h.lo, h.lm, ?_, (h.map.kept hg (fun e => h.mm e.symm)).setCell (fun e => h.bm e.symm) _, h.bm, ne h.box.lt h.am, ne hml h.mm⟩, ?_, ?_⟩
  · rw [wordsV_append, List.length_append]
    exact hrow.kept hg2 (or_ne (ne h.box.lt h.am))
  · have := hg.size; simp [World.setCell]; omega
  · intro k h1 h2 h3 h4
    exact ⟨(hg2.block k (by have := hg.size; omega) (fun e => h2 (by injection e))).trans (hg.block k h1 (fun e => h4 e.symm)), ne h1 h4⟩

/-- The map tells where each object is now. -/
def NowD (fs : List (List Int)) (M : DataW Unit) (O : List Int) : Prop :=
  ∀ i, i < fs.length → Maps.has M (.int .i64 (tot (fs.take i) : Nat)) = decide ((i : Int) ∈ O) ∧
    ((i : Int) ∈ O → M.atKey (.int .i64 (tot (fs.take i) : Nat)) (.lit (.int .i64 0)) = .lit (.int .i64 ((tot ((O.map (fO fs)).take (O.idxOf (i : Int))) : Nat) : Int)))

theorem nowD_nil (fs : List (List Int)) : NowD fs (.map []) [] := fun i _ => ⟨by simp [Maps.has_eq], fun h => by simp at h⟩

theorem NowD.put {fs : List (List Int)} {M : DataW Unit} {O : List Int} (h : NowD fs M O) (hM : Maps.IsMap M) {i : Nat} (hi : i < fs.length) (hn : (i : Int) ∉ O) :
    NowD fs (M.put (.int .i64 (tot (fs.take i) : Nat)) (.lit (.int .i64 ((tot (O.map (fO fs)) : Nat) : Int)))) (O ++ [(i : Int)]) := by
  have hk : WideAt.IsKeyLit (.int .i64 (tot (fs.take i) : Nat)) := trivial
  intro k hkl
  by_cases e : k = i
  · subst e
    refine ⟨by rw [Maps.has_put_same hM hk]; simp, fun _ => ?_⟩
    rw [Maps.atKey_put_same hM hk, idxOf_ge hn, List.map_append, List.take_append_of_le_length (by simp), List.take_of_length_le (by simp)]
  · have hne : ((tot (fs.take k) : Nat) : Int) ≠ ((tot (fs.take i) : Nat) : Int) := fun e' => e (pl_inj hkl hi (by omega))
    rw [Maps.has_put_other (by simpa using hne), Maps.atKey_put_other (by simpa using hne)]
    obtain ⟨h1, h2⟩ := h k hkl
    refine ⟨by rw [h1]; simp [show ¬ ((k : Int) = (i : Int)) by omega], fun hm => ?_⟩
    have hm' : (k : Int) ∈ O := by
      rcases List.mem_append.1 hm with hm | hm
      · exact hm
      · simp at hm; omega
    rw [h2 hm', idxOf_append_left hm', List.map_append, List.take_append_of_le_length (by have := List.idxOf_lt_length_iff.2 hm'; simp; omega)]

/-- A mover of an arena, of which t words are turned. -/
def MvA (W : World) (N vb mb : Nat) (vo vm : Value) (hs : List Int) (fs : List (List Int)) (O : List Int) (t : Nat) : Prop := ∃ M, Mv W N vb mb vo vm (madeW hs fs O t) O.length M ∧ NowD fs M O

theorem MvA.below {W W' : World} {N vb mb : Nat} {vo vm : Value} {hs : List Int} {fs : List (List Int)} {O : List Int} {t : Nat} (h : MvA W N vb mb vo vm hs fs O t) (hb : Below W.heap.size W W') : MvA W' N vb mb vo vm hs fs O t := by
  obtain ⟨M, h1, h2⟩ := h
  exact ⟨M, h1.below hb, h2⟩

set_option maxRecDepth 100000 in
/-- Is an object there? -/
theorem MvA.lookOk {W : World} {N vb mb : Nat} {vo vm : Value} {hs : List Int} {fs : List (List Int)} {O : List Int} {t i : Nat} (h : MvA W N vb mb vo vm hs fs O t) (hi : i < fs.length) (h256 : tot fs ≤ 256) :
    ∃ d : Int, (Instr.lookup 47 (.map (some mb)) (.int .i64 (tot (fs.take i) : Nat)) true).run Try.prog W = .ok (.tuple #[.int .i64 d, .bool (decide ((i : Int) ∈ O))]) W := by
  obtain ⟨M, h1, h2⟩ := h
  have hpl := place_lt hi
  obtain ⟨v, ps, e1, e2⟩ := h1.map.look_ok (Maps.int_keyed Try.underlying3) Try.underlying47 (Try.zeroValue3 _) (plainElem_int Try.underlying3 (by decide)) (Maps.keyOf_int_mk Try.underlying3 (wf_i64 (x := ((tot (fs.take i) : Nat) : Int)) (by omega) (by omega)))
  obtain ⟨d, rfl, _, _⟩ := plainElem_int_inv Try.underlying3 e2
  rw [(h2 i hi).1] at e1
  exact ⟨d, e1⟩

set_option maxRecDepth 100000 in
/-- Where is it? -/
theorem MvA.look {W : World} {N vb mb : Nat} {vo vm : Value} {hs : List Int} {fs : List (List Int)} {O : List Int} {t i : Nat} (h : MvA W N vb mb vo vm hs fs O t) (hi : i < fs.length) (h256 : tot fs ≤ 256) (hm : (i : Int) ∈ O) :
    (Instr.lookup 47 (.map (some mb)) (.int .i64 (tot (fs.take i) : Nat)) false).run Try.prog W = .ok (.int .i64 ((tot ((O.map (fO fs)).take (O.idxOf (i : Int))) : Nat) : Int)) W := by
  obtain ⟨M, h1, h2⟩ := h
  have hpl := place_lt hi
  obtain ⟨d, e1, e2, _⟩ := h1.map.lookup_int (Maps.int_keyed Try.underlying3) Try.underlying47 Try.underlying3 (Try.zeroValue3 _) (Maps.keyOf_int_mk Try.underlying3 (wf_i64 (x := ((tot (fs.take i) : Nat) : Int)) (by omega) (by omega)))
  rw [(h2 i hi).2 hm] at e2
  injection e2 with e2
  injection e2 with _ e2
  rw [e1, e2]

end Go.Proofs.Ytnbhciejlidnlaa

/- Walks: the mover's header, move. -/
namespace Go.Proofs.Ytnbhciejlidnlaa
set_option linter.unusedSimpArgs false
set_option linter.unusedVariables false
open Go.RowKit Go.Shelf
attribute [local go_sem] field47_0

set_option maxRecDepth 100000 in
set_option maxHeartbeats 1000000 in
theorem mheader_c (x : Int) (w : World) (h1 : 0 ≤ x) (h2 : x < 18446744073709551616) :
    Calls Try.prog 55 #[.int .u64 x] w fun e w' => e = .returned (.agg #[.int .i64 (uhL x), .bool (uhM x), .int .i64 (uhA x)]) ∧ Below w.heap.size w w' := by
  have hb0 : Below w.heap.size w (w.alloc (.cells #[.int .i64 0, .bool false, .int .i64 0] 42)) := (Below.refl _ _).alloc (Nat.le_refl _) _
  go_enter Try.func55, Try.ntmps55
  go_wp2_with fail
  refine (unhead_c x _ h1 h2).mono ?_
  rintro e w2 ⟨rfl, hb2⟩
  simp only [World.size_alloc] at hb2
  have g0 := hb2.cell (p := ⟨w.heap.size, 0, none⟩) (show w.heap.size < _ by omega)
  have g1 := hb2.cell (p := ⟨w.heap.size, 1, none⟩) (show w.heap.size < _ by omega)
  have g2 := hb2.cell (p := ⟨w.heap.size, 2, none⟩) (show w.heap.size < _ by omega)
  have f0 := hb2.frozen (p := ⟨w.heap.size, 0, none⟩) (show w.heap.size < _ by omega)
  have f1 := hb2.frozen (p := ⟨w.heap.size, 1, none⟩) (show w.heap.size < _ by omega)
  have f2 := hb2.frozen (p := ⟨w.heap.size, 2, none⟩) (show w.heap.size < _ by omega)
  simp [go_sem] at g0 g1 g2 f0 f1 f2
  have hs2 := hb2.size
  simp only [World.size_alloc] at hs2
  have hlt2 : w.heap.size < w2.heap.size := by omega
  have hbw2 := hb0.trans (hb2.mono (by omega))
  clear hb0 hb2
  go_wp2
  obtain ⟨W3, hW3⟩ : ∃ W3, ((w2.setCell ⟨w.heap.size, 0, none⟩ (.int .i64 (uhL x))).setCell ⟨w.heap.size, 1, none⟩ (.bool (uhM x))).setCell ⟨w.heap.size, 2, none⟩ (.int .i64 (uhA x)) = W3 := ⟨_, rfl⟩
  have i0 : W3.cell? ⟨w.heap.size, 0, none⟩ = some (.int .i64 (uhL x)) := by rw [← hW3]; simp [go_sem, g0, g1, g2]
  have i1 : W3.cell? ⟨w.heap.size, 1, none⟩ = some (.bool (uhM x)) := by rw [← hW3]; simp [go_sem, g0, g1, g2]
  have i2 : W3.cell? ⟨w.heap.size, 2, none⟩ = some (.int .i64 (uhA x)) := by rw [← hW3]; simp [go_sem, g0, g1, g2]
  have hlt3 : w.heap.size < W3.heap.size := by rw [← hW3]; simpa [World.setCell] using hlt2
  have hb3 : Below w.heap.size w W3 := by rw [← hW3]; exact ((hbw2.setCell (p := ⟨w.heap.size, 0, none⟩) (Nat.le_refl _) _).setCell (p := ⟨w.heap.size, 1, none⟩) (Nat.le_refl _) _).setCell (p := ⟨w.heap.size, 2, none⟩) (Nat.le_refl _) _
  rw [hW3]
  clear hW3
  obtain ⟨W4, hW4⟩ : ∃ W4, W3.alloc (.cells #[.int .i64 (uhL x), .bool (uhM x), .int .i64 (uhA x)] 42) = W4 := ⟨_, rfl⟩
  rw [hW4]
  have hb4 : Below w.heap.size w W4 := by rw [← hW4]; exact hb3.alloc (by omega) _
  have k0 : W4.cell? ⟨w.heap.size, 0, none⟩ = some (.int .i64 (uhL x)) := by rw [← hW4, World.cell?_alloc_past _ _ _ hlt3]; exact i0
  have k1 : W4.cell? ⟨w.heap.size, 1, none⟩ = some (.bool (uhM x)) := by rw [← hW4, World.cell?_alloc_past _ _ _ hlt3]; exact i1
  have k2 : W4.cell? ⟨w.heap.size, 2, none⟩ = some (.int .i64 (uhA x)) := by rw [← hW4, World.cell?_alloc_past _ _ _ hlt3]; exact i2
  refine bodyPost_ret (v := .agg #[.int .i64 (uhL x), .bool (uhM x), .int .i64 (uhA x)]) (by simp [results, Try.results55, go_sem, k0, k1, k2]) rfl ?_
  exact ⟨rfl, hb4⟩

set_option maxRecDepth 100000 in
set_option maxHeartbeats 1000000 in
theorem headAt_c (aw ar : Option Addr) (cw nr cr : Nat) (ws : List Int) (i : Nat) (x : Int) (B : Nat) (w : World) (hW : Wds B w aw ws) (hB : B ≤ w.heap.size) (hx : ws[i]? = some x) (h1 : 0 ≤ x) (h2 : x < 18446744073709551616) :
    Calls Try.prog 17 #[.agg #[.slice aw ws.length cw, .slice ar nr cr], .int .i64 (i : Nat)] w fun e w' => e = .returned (.tuple #[.agg #[.int .i64 (uhL x), .bool (uhM x), .int .i64 (uhA x)], .bool (uhE x == 0)]) ∧ Below w.heap.size w w' := by
  have hlt : i < ws.length := (List.getElem?_eq_some_iff.1 hx).1
  obtain ⟨W1, hW1⟩ : ∃ W1, (w.alloc (.cells #[.slice aw ws.length cw, .slice ar nr cr] 24)).alloc (.cells #[.int .i64 0, .bool false, .int .i64 0] 42) = W1 := ⟨_, rfl⟩
  have hb1 : Below w.heap.size w W1 := by rw [← hW1]; exact ((Below.refl w.heap.size w).alloc (Nat.le_refl _) _).alloc (by simp) _
  have hs1 : w.heap.size + 1 < W1.heap.size := by rw [← hW1]; simp
  have g0 : W1.cell? ⟨w.heap.size, 0, none⟩ = some (.slice aw ws.length cw) := by rw [← hW1]; simp [go_sem]
  have r0 : W1.cell? ⟨w.heap.size + 1, 0, none⟩ = some (.int .i64 0) := by rw [← hW1]; simp [go_sem]
  have r1 : W1.cell? ⟨w.heap.size + 1, 1, none⟩ = some (.bool false) := by rw [← hW1]; simp [go_sem]
  have r2 : W1.cell? ⟨w.heap.size + 1, 2, none⟩ = some (.int .i64 0) := by rw [← hW1]; simp [go_sem]
  have z0 : W1.frozen? ⟨w.heap.size + 1, 0, none⟩ = false := by rw [← hW1]; simp [go_sem]
  have z1 : W1.frozen? ⟨w.heap.size + 1, 1, none⟩ = false := by rw [← hW1]; simp [go_sem]
  have z2 : W1.frozen? ⟨w.heap.size + 1, 2, none⟩ = false := by rw [← hW1]; simp [go_sem]
  obtain ⟨b, off, rfl, hbB, hc⟩ := (hW.below (hb1.mono hB)).at hlt
  rw [(List.getElem?_eq_some_iff.1 hx).2] at hc
  have hlw : w.heap.size < W1.heap.size := by omega
  have hlb : b < W1.heap.size := by omega
  have hlI : (i : Int) < (ws.length : Int) := by omega
  have d1 : decide ((i : Int) < 0) = false := by simp
  have d2 : decide ((i : Int) ≥ (ws.length : Int)) = false := by simp; omega
  have d3 : decide ((ws.length : Int) ≤ (i : Int)) = false := by simp; omega
  clear hW
  go_enter Try.func17, Try.ntmps17
  go_wp2_with fail
  refine (runhead_c x _ h1 h2).mono ?_
  rintro e w2 ⟨rfl, hb2⟩
  clear hW1
  have hs2 := hb2.size
  replace r0 := (hb2.cell (p := ⟨w.heap.size + 1, 0, none⟩) hs1).trans r0
  replace r1 := (hb2.cell (p := ⟨w.heap.size + 1, 1, none⟩) hs1).trans r1
  replace r2 := (hb2.cell (p := ⟨w.heap.size + 1, 2, none⟩) hs1).trans r2
  replace z0 := (hb2.frozen (p := ⟨w.heap.size + 1, 0, none⟩) hs1).trans z0
  replace z1 := (hb2.frozen (p := ⟨w.heap.size + 1, 1, none⟩) hs1).trans z1
  replace z2 := (hb2.frozen (p := ⟨w.heap.size + 1, 2, none⟩) hs1).trans z2
  have hl2 : w.heap.size + 1 < w2.heap.size := by omega
  have hbw2 : Below w.heap.size w w2 := hb1.trans (hb2.mono (by omega))
  clear hb1 hb2
  go_wp2
  obtain ⟨W3, hW3⟩ : ∃ W3, ((w2.setCell ⟨w.heap.size + 1, 0, none⟩ (.int .i64 (uhL x))).setCell ⟨w.heap.size + 1, 1, none⟩ (.bool (uhM x))).setCell ⟨w.heap.size + 1, 2, none⟩ (.int .i64 (uhA x)) = W3 := ⟨_, rfl⟩
  have i0 : W3.cell? ⟨w.heap.size + 1, 0, none⟩ = some (.int .i64 (uhL x)) := by rw [← hW3]; simp [go_sem, r0, r1, r2]
  have i1 : W3.cell? ⟨w.heap.size + 1, 1, none⟩ = some (.bool (uhM x)) := by rw [← hW3]; simp [go_sem, r0, r1, r2]
  have i2 : W3.cell? ⟨w.heap.size + 1, 2, none⟩ = some (.int .i64 (uhA x)) := by rw [← hW3]; simp [go_sem, r0, r1, r2]
  have hlt3 : w.heap.size + 1 < W3.heap.size := by rw [← hW3]; simpa [World.setCell] using hl2
  have hb3 : Below w.heap.size w W3 := by rw [← hW3]; exact ((hbw2.setCell (p := ⟨w.heap.size + 1, 0, none⟩) (by simp) _).setCell (p := ⟨w.heap.size + 1, 1, none⟩) (by simp) _).setCell (p := ⟨w.heap.size + 1, 2, none⟩) (by simp) _
  rw [hW3]
  clear hW3
  obtain ⟨W4, hW4⟩ : ∃ W4, W3.alloc (.cells #[.int .i64 (uhL x), .bool (uhM x), .int .i64 (uhA x)] 42) = W4 := ⟨_, rfl⟩
  rw [hW4]
  have hb4 : Below w.heap.size w W4 := by rw [← hW4]; exact hb3.alloc (by omega) _
  have k0 : W4.cell? ⟨w.heap.size + 1, 0, none⟩ = some (.int .i64 (uhL x)) := by rw [← hW4, World.cell?_alloc_past _ _ _ hlt3]; exact i0
  have k1 : W4.cell? ⟨w.heap.size + 1, 1, none⟩ = some (.bool (uhM x)) := by rw [← hW4, World.cell?_alloc_past _ _ _ hlt3]; exact i1
  have k2 : W4.cell? ⟨w.heap.size + 1, 2, none⟩ = some (.int .i64 (uhA x)) := by rw [← hW4, World.cell?_alloc_past _ _ _ hlt3]; exact i2
  refine bodyPost_ret (v := .tuple #[.agg #[.int .i64 (uhL x), .bool (uhM x), .int .i64 (uhA x)], .bool (uhE x == 0)]) (by simp [results, Try.results17, go_sem, k0, k1, k2]) rfl ⟨rfl, hb4⟩

end Go.Proofs.Ytnbhciejlidnlaa

/- Walks: move. -/
namespace Go.Proofs.Ytnbhciejlidnlaa
set_option linter.unusedSimpArgs false
set_option linter.unusedVariables false
open Go.RowKit Go.Shelf

/-- What turns a mover tells. -/
def MvTo (N vb mb : Nat) (vo vm : Value) (hs : List Int) (fs : List (List Int)) (O : List Int) (t : Nat) (w w' : World) : Prop :=
  ∃ vm', MvA w' N vb mb vo vm' hs fs O t ∧ Kp w w' vb mb vm vm'

set_option maxRecDepth 100000 in
set_option maxHeartbeats 2000000 in
theorem move_c (hs : List Int) (fs : List (List Int)) (rs O : List Int) (t j N vb mb cw : Nat) (aw : Option Addr) (vm : Value) (w : World) (hA : Arn hs fs rs)
    (hM : MvA w N vb mb (.slice aw (tot fs : Nat) cw) vm hs fs O t) (hW : Wds N w aw (joinW hs fs)) (hcap : tot fs ≤ cw) (hOk : OOk fs O) (hD : Done hs fs O t) (ht : t ≤ tot (O.map (fO fs))) (hj : j < fs.length) (hn : (j : Int) ∉ O) :
    Calls Try.prog 54 #[.pointer (some ⟨vb, 0, none⟩), .int .i64 (tot (fs.take j) : Nat)] w fun e w' => (e = .returned (.tuple #[]) ∧ MvTo N vb mb (.slice aw (tot fs : Nat) cw) vm hs fs (O ++ [(j : Int)]) t w w') ∧ Below N w w' := by
  obtain ⟨i0, hi0, hz0, hz1, hz2⟩ := info_parts Try.info51m
  obtain ⟨M, hV, hF⟩ := hM
  have hpl := place_lt hj
  have h256 := hA.n256
  have hOl := hOk.len
  have hOt := hOk.tot_le
  obtain ⟨x, hx, hx1, hx2, hx3, hx4⟩ := fit_at hA.fit hj
  have hfj : fs[j]? = some fs[j] := List.getElem?_eq_getElem hj
  have hU := joinW_u64 hA hA.fit
  have Hfo : Hid (fO fs (j : Int) = fs[j]) := by show fO fs (j : Int) = fs[j]; simp [fO, List.getD_eq_getElem?_getD, hj]
  have Hho : Hid (hO hs (j : Int) = ageW x) := by show hO hs (j : Int) = ageW x; simp [Ytnbhciejlidnlaa.hO, List.getD_eq_getElem?_getD, hx]
  have Hml := hide (madeW_len hs fs O t)
  have hmo := hV.mo
  rw [madeW_len] at hmo
  obtain ⟨ra, rc, rfl⟩ := ownsRow_slice hmo
  have Hkey := hide (Maps.keyOf_int_mk Try.underlying3 (wf_i64 (x := ((tot (fs.take j) : Nat) : Int)) (by omega) (by omega)))
  have Hval := hide (show plainElem (H := Unit) Try.prog 3 (.int .i64 ((tot (O.map (fO fs)) : Nat) : Int)) = some (.lit (.int .i64 ((tot (O.map (fO fs)) : Nat) : Int)), []) from plainElem_int Try.underlying3 (wf_i64 (by omega) (by omega)))
  have HF2 := hide (hF.put hV.map.isMap hj hn)
  have hmp := hV.map
  have q0 := hV.box.c0
  have q1 := hV.box.c1
  have q2 := hV.box.c2
  have hlm := hV.box.lt
  have hlo := hV.lo
  have HV := hide hV
  have hwx : (joinW hs fs)[tot (fs.take j)]? = some x := by rw [joinW_get _ _ _ hA.fit.len hj]; exact hx
  have hjl := joinW_len hs fs hA.fit.len
  have hfl := joinW_fields hs fs j fs[j] hA.fit.len hfj
  have hpf : tot (fs.take j) + 1 + fs[j].length ≤ tot fs := by have := tot_take_succ hj; have := tot_take_le fs (j + 1); omega
  obtain ⟨b, off, rfl, hbN, hc⟩ := hW.2 (by intro e; rw [e] at hwx; simp at hwx)
  have hcx := hc _ _ hwx
  have Hfc : Hid (∀ k v, fs[j][k]? = some v → w.cell? ⟨b, off + (tot (fs.take j) + 1) + k, none⟩ = some (.int .u64 v)) := by
    intro k v hk
    have hkl := (List.getElem?_eq_some_iff.1 hk).1
    rw [Nat.add_assoc off]
    refine hc _ v ?_
    rw [← hfl, List.getElem?_take, if_pos hkl, List.getElem?_drop] at hk
    exact hk
  have Hwl : Hid (uhL x = (fs[j].length : Int)) := by show uhL x = _; rw [uhL_wlen hx1, hx2]
  have hq8 : 0 ≤ uhA x ∧ uhA x ≤ 7 := by
    unfold uhA; split
    · omega
    · omega
  have f4 := hA.f4 _ (List.getElem_mem hj)
  have Hc1 := hide (fun W => mheader_c x W hx3 hx4)
  have Hc2 := hide (fun W l a => head_c l a false W)
  clear hV hF hW hc hwx hfl hA hU hx hx1 hx2 hfj
  have Hsn := hide (madeW_snoc hD ht (j : Int))
  generalize fs[j] = f at *
  generalize hpe : tot (fs.take j) = p at *
  have Hpe := hide hpe
  clear hpe
  generalize hne : tot (O.map (fO fs)) = n at *
  have Hne := hide hne
  clear hne
  generalize hte : tot fs = T at *
  have Hte := hide hte
  clear hte hjl
  go_enter Try.func54, Try.ntmps54
  go_wp2_with fail
  go_still_tail 10, Try.mixed
  have hmpd := hmp.drew
  have Hkp0 : Hid (Kp w w.drew vb mb (.slice ra n rc) (.slice ra n rc)) := (Kp.refl w vb mb (.slice ra n rc)).below (Below.refl _ _).drew
  have hbN0 : Below N w w.drew := (Below.refl _ _).drew
  have HV0 := hide ((unhide HV).below (Below.refl _ _).drew)
  have hsd : w.drew.heap.size = w.heap.size := rfl
  have hcx0 : w.drew.cell? ⟨b, off + p, none⟩ = some (.int .u64 x) := hcx
  have Hfc0 : Hid (∀ k v, f[k]? = some v → w.drew.cell? ⟨b, off + (p + 1) + k, none⟩ = some (.int .u64 v)) := Hfc
  clear hcx HV hmp hmo q0 q1 q2 hlm
  change wpList _ _ _ _ _ w.drew
  generalize w.drew = wd at *
  have hNd : N ≤ wd.heap.size := by have := (unhide HV0).box.lt; omega
  go_wp2_with (at_mapUpdate; go_must (refine wpList_mapUpdate_own _ rfl _ _ _ 47 rfl 3 3 (Maps.int_keyed Try.underlying3) Try.underlying47 _ mb O.length M rfl hmpd (by simp only [maxLen]; omega) _ _ _ rfl rfl (unhide Hkey) _ [] (unhide Hval) ?_); go_must (intro w1 hmap1 hg1; have hV1 := (unhide HV0).setM hg1 hmap1; have Hkp1 := hide ((unhide Hkp0).map hg1); have hs1 := hg1.size; have q0 := hV1.box.c0; have q1 := hV1.box.c1; have hlm1 := hV1.box.lt; have hbN1 : Below N w w1 := hbN0.grown hg1 hNd (fun k e => by injection e with e; have := hV1.lm; omega); have HV1 := hide hV1; have hcx1 := hg1.cell hcx0 (fun e => by have := hV1.lm; simp at e; omega); have Hfc1 : Hid (∀ k v, f[k]? = some v → w1.cell? ⟨b, off + (p + 1) + k, none⟩ = some (.int .u64 v)) := fun k v hk => hg1.cell (unhide Hfc0 k v hk) (fun e => by have := hV1.lm; simp at e; omega); clear hV1))
  refine (unhide Hc1 w1).mono ?_
  rintro e w2 ⟨rfl, hb2⟩
  have hs2 := hb2.size
  have HH : Hid (hO hs (j : Int) = headW (f.length : Int) false (min (uhA x + 1) 7)) := by
    show hO hs (j : Int) = _
    rw [unhide Hho, ageW, unhide Hwl]
  rw [unhide Hwl]
  clear Hho Hwl Hc1 HV0 hmpd hmap1 hg1 Hfc0 hcx0 hcx1 Hfc1
  generalize uhA x = a at *
  generalize uhM x = m at *
  generalize hfe : f.length = fl at *
  have Hfl := hide hfe
  clear hfe
  have Hlt : Hid (vb < w1.heap.size ∧ mb < w1.heap.size ∧ ∀ k, (Value.slice ra n rc).ownBlock = some k → k < w1.heap.size) := ⟨(unhide HV1).box.lt, (unhide HV1).map.lt, fun k hk => ((unhide HV1).mo.lt k hk).2⟩
  obtain ⟨W3, hW3⟩ : ∃ W3, w2.alloc (.cells #[.int .i64 (fl : Int), .bool m, .int .i64 a] 42) = W3 := ⟨_, rfl⟩
  have hb3 : Below w1.heap.size w1 W3 := by rw [← hW3]; exact hb2.alloc hs2 _
  have hs3 : w2.heap.size < W3.heap.size := by rw [← hW3]; simp
  have h0 : W3.cell? ⟨w2.heap.size, 0, none⟩ = some (.int .i64 (fl : Int)) := by rw [← hW3]; simp [go_sem]
  have h1 : W3.cell? ⟨w2.heap.size, 1, none⟩ = some (.bool m) := by rw [← hW3]; simp [go_sem]
  have h2 : W3.cell? ⟨w2.heap.size, 2, none⟩ = some (.int .i64 a) := by rw [← hW3]; simp [go_sem]
  have z1 : W3.frozen? ⟨w2.heap.size, 1, none⟩ = false := by rw [← hW3]; simp [go_sem]
  have z2 : W3.frozen? ⟨w2.heap.size, 2, none⟩ = false := by rw [← hW3]; simp [go_sem]
  have HV3 := hide ((unhide HV1).below hb3)
  have Hkp3 := hide ((unhide Hkp1).below hb3)
  have hbN3 : Below N w W3 := hbN1.trans (hb3.mono (by omega))
  have q0 := (unhide HV3).box.c0
  have hlm3 := (unhide HV3).box.lt
  have hww : w.heap.size ≤ w2.heap.size := by have := (unhide Hkp1).1; omega
  clear HV1 Hkp1 hbN1 q1 hb2 hb3
  go_wp2_with fail
  clear hW3
  generalize w2.heap.size = hb at *
  have hlw1 : IntKind.i64.wrap ((p : Int) + 1) = (p : Int) + 1 := by rw [IntKind.wrap_i64]; omega
  have hlw2 : IntKind.i64.wrap (a + 1) = a + 1 := by rw [IntKind.wrap_i64]; omega
  have hv1 : hb ≠ vb := by have := (unhide Hlt).1; omega
  have hv2 : hb ≠ mb := by have := (unhide Hlt).2.1; omega
  have Hv3 : Hid ((Value.slice ra n rc).ownBlock ≠ some hb) := fun e => by have := (unhide Hlt).2.2 _ e; omega
  by_cases hcp : cw = p + 1
  · have hfl0 : fl = 0 := by omega
    subst hcp
    subst hfl0
    have Hsrc : Hid (∀ W, Below N w W → ∀ q u, (wordsV f)[q]? = some u → W.cell? ((⟨b, off, none⟩ : Addr).add q) = some u) := by
      intro W _ q u hq
      rw [List.getElem?_eq_none (by rw [wordsV_len, unhide Hfl]; omega)] at hq
      cases hq
    go_quiet (fail)
    have h0 : (W3.drewN nq).cell? ⟨hb, 0, none⟩ = some (.int .i64 0) := h0
    have h1 : (W3.drewN nq).cell? ⟨hb, 1, none⟩ = some (.bool m) := h1
    have h2 : (W3.drewN nq).cell? ⟨hb, 2, none⟩ = some (.int .i64 a) := h2
    have z1 : (W3.drewN nq).frozen? ⟨hb, 1, none⟩ = false := z1
    have z2 : (W3.drewN nq).frozen? ⟨hb, 2, none⟩ = false := z2
    have hbd := below_drewN (Below.refl W3.heap.size W3) nq
    have HV4 := hide ((unhide HV3).below hbd)
    have Hkp4 := hide ((unhide Hkp3).below hbd)
    have hbN4 : Below N w (W3.drewN nq) := hbN3.trans (hbd.mono (by omega))
    have hs4 : hb < (W3.drewN nq).heap.size := hs3
    clear hbd HV3 Hkp3 hbN3 q0 hlm3 hs3
    generalize W3.drewN nq = W4 at *
    have HV5 : Hid (∀ a', Mv ((W4.setCell ⟨hb, 1, none⟩ (.bool false)).setCell ⟨hb, 2, none⟩ (.int .i64 a')) N vb mb (.slice (some ⟨b, off, none⟩) T (p + 1)) (.slice ra n rc) (madeW hs fs O t) (O.length + 1) (M.put (.int .i64 (p : Nat)) (.lit (.int .i64 (n : Nat))))) := fun a' =>
      ((unhide HV4).setO hv1 hv2 (unhide Hv3) 1 _).setO hv1 hv2 (unhide Hv3) 2 _
    have Hkp5 : Hid (∀ a', Kp w ((W4.setCell ⟨hb, 1, none⟩ (.bool false)).setCell ⟨hb, 2, none⟩ (.int .i64 a')) vb mb (.slice ra n rc) (.slice ra n rc)) := fun a' =>
      ((unhide Hkp4).set hww 1 _).set hww 2 _
    have HbN5 : Hid (∀ a', Below N w ((W4.setCell ⟨hb, 1, none⟩ (.bool false)).setCell ⟨hb, 2, none⟩ (.int .i64 a'))) := fun a' =>
      (hbN4.setCell (p := ⟨hb, 1, none⟩) (by show N ≤ hb; omega) _).setCell (p := ⟨hb, 2, none⟩) (by show N ≤ hb; omega) _
    have hN5 : N ≤ W4.heap.size := by omega
    by_cases h7 : 7 < a + 1
    · have h7' : a = 7 := by omega
      subst h7'
      go_wp2_with fail
      refine (unhide Hc2 _ _ _).mono ?_
      rintro e w6 ⟨rfl, hb6⟩
      have HV6 := hide ((unhide HV5 (7)).below hb6)
      have Hkp6 := hide ((unhide Hkp5 (7)).below hb6)
      have hbN6 : Below N w w6 := (unhide HbN5 (7)).trans (hb6.mono (by simp [World.setCell]; omega))
      have q1 := (unhide HV6).box.c1
      have hlm6 := (unhide HV6).box.lt
      have hmo6 := (unhide HV6).mo
      rw [unhide Hml] at hmo6
      have hN6 : N ≤ w6.heap.size := by omega
      have Hhw : Hid (hO hs (j : Int) = headW 0 false (7)) := by show hO hs (j : Int) = _; rw [unhide HH]; congr 1 <;> omega
      clear HV4 Hkp4 hbN4 HV5 Hkp5 HbN5 h0 h1 h2 z1 z2 hb6 hs4 HH h7
      generalize headW 0 false (7) = hw at *
      go_wp2_with (first
        | (at_builtin; refine wpList_append_own_at _ rfl _ _ 22 rfl N 51 i0 _ 1 8 Try.underlying22 hi0 hz0 hz1 hz2 rfl (by decide) _ _ _ rfl hmo8 _ 0 _ (wordsV f) rfl (by rw [wordsV_len]; have := unhide Hfl; omega) (unhide Hsrc _ hbN8) (by intro u hu; simp only [wordsV, List.mem_map] at hu; obtain ⟨z, _, rfl⟩ := hu; rfl) (by simp only [maxLen]; omega) (by omega) hN8 ?_; go_must (intro v9 w9 hrow9 hg9 _ hat9; obtain ⟨g9, c9, hv9⟩ := ownsRow_slice hrow9; subst hv9; have hpush9 := (unhide HV8).push (l := f) (by rw [List.length_append, unhide Hml, unhide Hfl]; exact hrow9) hg9 hat9; have s1 := hpush9.1.c1; have t9 := hpush9.1.fr 1; have hlm9 := hpush9.1.lt; have HV9 := hide hpush9.2.1; have Hkp9 := hide ((unhide Hkp8).trans hpush9.2.2); have HbN9 : Hid (Below N w w9) := hbN8.grown hg9 hN8 (fun k e => (hmo8.lt k e).1); clear hpush9))
        | (at_builtin; go_must (refine wpList_append_own_at _ rfl _ _ 22 rfl N 51 i0 _ 1 8 Try.underlying22 hi0 hz0 hz1 hz2 rfl (by decide) _ _ _ rfl (hmo6.alloc _) ⟨w6.heap.size, 0, none⟩ 1 1 [.int .u64 hw] rfl rfl (cell_one_at _ _ _ _ (by simp)) (by simp [Value.oneCell']) (by simp only [maxLen]; omega) (by omega) (by simp; omega) ?_); go_must (intro v8 w8 hrow8 hg8 _ hat8; obtain ⟨g8, c8, hv8⟩ := ownsRow_succ hrow8; subst hv8; have hpush := ((unhide HV6).alloc (.cells #[.int .u64 hw] 51)).push (l := [hw]) (by rw [unhide Hml]; exact hrow8) hg8 hat8; have r1 := hpush.1.c1; have t1 := hpush.1.fr 1; have hlm8 := hpush.1.lt; have HV8 := hide hpush.2.1; have Hkp8 := hide (((unhide Hkp6).alloc _).trans hpush.2.2); have hbN8 : Below N w (w8.setCell ⟨vb, 1, none⟩ (.slice (some ⟨g8, 0, none⟩) (n + 1) c8)) := ((hbN6.alloc (by omega) _).grown hg8 (by simp; omega) (fun k e => (hmo6.lt k e).1)).setCell (p := ⟨vb, 1, none⟩) hlo _; have hN8 : N ≤ (w8.setCell ⟨vb, 1, none⟩ (.slice (some ⟨g8, 0, none⟩) (n + 1) c8)).heap.size := by { have := hg8.size; simp [World.setCell] at this ⊢; omega }; have hmo8 : (w8.setCell ⟨vb, 1, none⟩ (.slice (some ⟨g8, 0, none⟩) (n + 1) c8)).ownsRow N 51 1 (.slice (some ⟨g8, 0, none⟩) (n + 1) c8) (n + 1) (wordsV (madeW hs fs O t ++ [hw])) := by { have h := (unhide HV8).mo; rw [List.length_append, unhide Hml] at h; exact h }; clear hpush)))
      refine bodyPost_end (v := .tuple #[]) (results_none rfl _ _ _) rfl ⟨⟨rfl, _, ⟨_, ?_, unhide HF2⟩, unhide Hkp9⟩, (unhide HbN9).setCell (p := ⟨vb, 1, none⟩) hlo _⟩
      have h := unhide HV9
      rw [unhide Hsn, unhide Hhw, unhide Hfo, List.length_append]
      rw [List.append_assoc] at h
      exact h
    · go_wp2_with fail
      refine (unhide Hc2 _ _ _).mono ?_
      rintro e w6 ⟨rfl, hb6⟩
      have HV6 := hide ((unhide HV5 (a + 1)).below hb6)
      have Hkp6 := hide ((unhide Hkp5 (a + 1)).below hb6)
      have hbN6 : Below N w w6 := (unhide HbN5 (a + 1)).trans (hb6.mono (by simp [World.setCell]; omega))
      have q1 := (unhide HV6).box.c1
      have hlm6 := (unhide HV6).box.lt
      have hmo6 := (unhide HV6).mo
      rw [unhide Hml] at hmo6
      have hN6 : N ≤ w6.heap.size := by omega
      have Hhw : Hid (hO hs (j : Int) = headW 0 false (a + 1)) := by show hO hs (j : Int) = _; rw [unhide HH]; congr 1 <;> omega
      clear HV4 Hkp4 hbN4 HV5 Hkp5 HbN5 h0 h1 h2 z1 z2 hb6 hs4 HH h7
      generalize headW 0 false (a + 1) = hw at *
      go_wp2_with (first
        | (at_builtin; refine wpList_append_own_at _ rfl _ _ 22 rfl N 51 i0 _ 1 8 Try.underlying22 hi0 hz0 hz1 hz2 rfl (by decide) _ _ _ rfl hmo8 _ 0 _ (wordsV f) rfl (by rw [wordsV_len]; have := unhide Hfl; omega) (unhide Hsrc _ hbN8) (by intro u hu; simp only [wordsV, List.mem_map] at hu; obtain ⟨z, _, rfl⟩ := hu; rfl) (by simp only [maxLen]; omega) (by omega) hN8 ?_; go_must (intro v9 w9 hrow9 hg9 _ hat9; obtain ⟨g9, c9, hv9⟩ := ownsRow_slice hrow9; subst hv9; have hpush9 := (unhide HV8).push (l := f) (by rw [List.length_append, unhide Hml, unhide Hfl]; exact hrow9) hg9 hat9; have s1 := hpush9.1.c1; have t9 := hpush9.1.fr 1; have hlm9 := hpush9.1.lt; have HV9 := hide hpush9.2.1; have Hkp9 := hide ((unhide Hkp8).trans hpush9.2.2); have HbN9 : Hid (Below N w w9) := hbN8.grown hg9 hN8 (fun k e => (hmo8.lt k e).1); clear hpush9))
        | (at_builtin; go_must (refine wpList_append_own_at _ rfl _ _ 22 rfl N 51 i0 _ 1 8 Try.underlying22 hi0 hz0 hz1 hz2 rfl (by decide) _ _ _ rfl (hmo6.alloc _) ⟨w6.heap.size, 0, none⟩ 1 1 [.int .u64 hw] rfl rfl (cell_one_at _ _ _ _ (by simp)) (by simp [Value.oneCell']) (by simp only [maxLen]; omega) (by omega) (by simp; omega) ?_); go_must (intro v8 w8 hrow8 hg8 _ hat8; obtain ⟨g8, c8, hv8⟩ := ownsRow_succ hrow8; subst hv8; have hpush := ((unhide HV6).alloc (.cells #[.int .u64 hw] 51)).push (l := [hw]) (by rw [unhide Hml]; exact hrow8) hg8 hat8; have r1 := hpush.1.c1; have t1 := hpush.1.fr 1; have hlm8 := hpush.1.lt; have HV8 := hide hpush.2.1; have Hkp8 := hide (((unhide Hkp6).alloc _).trans hpush.2.2); have hbN8 : Below N w (w8.setCell ⟨vb, 1, none⟩ (.slice (some ⟨g8, 0, none⟩) (n + 1) c8)) := ((hbN6.alloc (by omega) _).grown hg8 (by simp; omega) (fun k e => (hmo6.lt k e).1)).setCell (p := ⟨vb, 1, none⟩) hlo _; have hN8 : N ≤ (w8.setCell ⟨vb, 1, none⟩ (.slice (some ⟨g8, 0, none⟩) (n + 1) c8)).heap.size := by { have := hg8.size; simp [World.setCell] at this ⊢; omega }; have hmo8 : (w8.setCell ⟨vb, 1, none⟩ (.slice (some ⟨g8, 0, none⟩) (n + 1) c8)).ownsRow N 51 1 (.slice (some ⟨g8, 0, none⟩) (n + 1) c8) (n + 1) (wordsV (madeW hs fs O t ++ [hw])) := by { have h := (unhide HV8).mo; rw [List.length_append, unhide Hml] at h; exact h }; clear hpush)))
      refine bodyPost_end (v := .tuple #[]) (results_none rfl _ _ _) rfl ⟨⟨rfl, _, ⟨_, ?_, unhide HF2⟩, unhide Hkp9⟩, (unhide HbN9).setCell (p := ⟨vb, 1, none⟩) hlo _⟩
      have h := unhide HV9
      rw [unhide Hsn, unhide Hhw, unhide Hfo, List.length_append]
      rw [List.append_assoc] at h
      exact h
  · have hcp1 : p + 1 < cw := by omega
    have Hsrc : Hid (∀ W, Below N w W → ∀ q u, (wordsV f)[q]? = some u → W.cell? ((⟨b, off + (p + 1), none⟩ : Addr).add q) = some u) := by
      intro W hb q u hq
      rw [Go.WideShapes.add_plain]
      simp only [wordsV, List.getElem?_map, Option.map_eq_some_iff] at hq
      obtain ⟨z, hz, rfl⟩ := hq
      exact (hb.cell (p := ⟨b, off + (p + 1) + q, none⟩) hbN).trans (unhide Hfc q z hz)
    go_quiet (fail)
    have h0 : (W3.drewN nq).cell? ⟨hb, 0, none⟩ = some (.int .i64 (fl : Int)) := h0
    have h1 : (W3.drewN nq).cell? ⟨hb, 1, none⟩ = some (.bool m) := h1
    have h2 : (W3.drewN nq).cell? ⟨hb, 2, none⟩ = some (.int .i64 a) := h2
    have z1 : (W3.drewN nq).frozen? ⟨hb, 1, none⟩ = false := z1
    have z2 : (W3.drewN nq).frozen? ⟨hb, 2, none⟩ = false := z2
    have hbd := below_drewN (Below.refl W3.heap.size W3) nq
    have HV4 := hide ((unhide HV3).below hbd)
    have Hkp4 := hide ((unhide Hkp3).below hbd)
    have hbN4 : Below N w (W3.drewN nq) := hbN3.trans (hbd.mono (by omega))
    have hs4 : hb < (W3.drewN nq).heap.size := hs3
    clear hbd HV3 Hkp3 hbN3 q0 hlm3 hs3
    generalize W3.drewN nq = W4 at *
    have HV5 : Hid (∀ a', Mv ((W4.setCell ⟨hb, 1, none⟩ (.bool false)).setCell ⟨hb, 2, none⟩ (.int .i64 a')) N vb mb (.slice (some ⟨b, off, none⟩) T cw) (.slice ra n rc) (madeW hs fs O t) (O.length + 1) (M.put (.int .i64 (p : Nat)) (.lit (.int .i64 (n : Nat))))) := fun a' =>
      ((unhide HV4).setO hv1 hv2 (unhide Hv3) 1 _).setO hv1 hv2 (unhide Hv3) 2 _
    have Hkp5 : Hid (∀ a', Kp w ((W4.setCell ⟨hb, 1, none⟩ (.bool false)).setCell ⟨hb, 2, none⟩ (.int .i64 a')) vb mb (.slice ra n rc) (.slice ra n rc)) := fun a' =>
      ((unhide Hkp4).set hww 1 _).set hww 2 _
    have HbN5 : Hid (∀ a', Below N w ((W4.setCell ⟨hb, 1, none⟩ (.bool false)).setCell ⟨hb, 2, none⟩ (.int .i64 a'))) := fun a' =>
      (hbN4.setCell (p := ⟨hb, 1, none⟩) (by show N ≤ hb; omega) _).setCell (p := ⟨hb, 2, none⟩) (by show N ≤ hb; omega) _
    have hN5 : N ≤ W4.heap.size := by omega
    by_cases h7 : 7 < a + 1
    · have h7' : a = 7 := by omega
      subst h7'
      go_wp2_with fail
      refine (unhide Hc2 _ _ _).mono ?_
      rintro e w6 ⟨rfl, hb6⟩
      have HV6 := hide ((unhide HV5 (7)).below hb6)
      have Hkp6 := hide ((unhide Hkp5 (7)).below hb6)
      have hbN6 : Below N w w6 := (unhide HbN5 (7)).trans (hb6.mono (by simp [World.setCell]; omega))
      have q1 := (unhide HV6).box.c1
      have hlm6 := (unhide HV6).box.lt
      have hmo6 := (unhide HV6).mo
      rw [unhide Hml] at hmo6
      have hN6 : N ≤ w6.heap.size := by omega
      have Hhw : Hid (hO hs (j : Int) = headW (fl : Int) false (7)) := by show hO hs (j : Int) = _; rw [unhide HH]; congr 1 <;> omega
      clear HV4 Hkp4 hbN4 HV5 Hkp5 HbN5 h0 h1 h2 z1 z2 hb6 hs4 HH h7
      generalize headW (fl : Int) false (7) = hw at *
      go_wp2_with (first
        | (at_builtin; refine wpList_append_own_at _ rfl _ _ 22 rfl N 51 i0 _ 1 8 Try.underlying22 hi0 hz0 hz1 hz2 rfl (by decide) _ _ _ rfl hmo8 _ fl _ (wordsV f) rfl (by rw [wordsV_len]; have := unhide Hfl; omega) (unhide Hsrc _ hbN8) (by intro u hu; simp only [wordsV, List.mem_map] at hu; obtain ⟨z, _, rfl⟩ := hu; rfl) (by simp only [maxLen]; omega) (by omega) hN8 ?_; go_must (intro v9 w9 hrow9 hg9 _ hat9; obtain ⟨g9, c9, hv9⟩ := ownsRow_slice hrow9; subst hv9; have hpush9 := (unhide HV8).push (l := f) (by rw [List.length_append, unhide Hml, unhide Hfl]; exact hrow9) hg9 hat9; have s1 := hpush9.1.c1; have t9 := hpush9.1.fr 1; have hlm9 := hpush9.1.lt; have HV9 := hide hpush9.2.1; have Hkp9 := hide ((unhide Hkp8).trans hpush9.2.2); have HbN9 : Hid (Below N w w9) := hbN8.grown hg9 hN8 (fun k e => (hmo8.lt k e).1); clear hpush9))
        | (at_builtin; go_must (refine wpList_append_own_at _ rfl _ _ 22 rfl N 51 i0 _ 1 8 Try.underlying22 hi0 hz0 hz1 hz2 rfl (by decide) _ _ _ rfl (hmo6.alloc _) ⟨w6.heap.size, 0, none⟩ 1 1 [.int .u64 hw] rfl rfl (cell_one_at _ _ _ _ (by simp)) (by simp [Value.oneCell']) (by simp only [maxLen]; omega) (by omega) (by simp; omega) ?_); go_must (intro v8 w8 hrow8 hg8 _ hat8; obtain ⟨g8, c8, hv8⟩ := ownsRow_succ hrow8; subst hv8; have hpush := ((unhide HV6).alloc (.cells #[.int .u64 hw] 51)).push (l := [hw]) (by rw [unhide Hml]; exact hrow8) hg8 hat8; have r1 := hpush.1.c1; have t1 := hpush.1.fr 1; have hlm8 := hpush.1.lt; have HV8 := hide hpush.2.1; have Hkp8 := hide (((unhide Hkp6).alloc _).trans hpush.2.2); have hbN8 : Below N w (w8.setCell ⟨vb, 1, none⟩ (.slice (some ⟨g8, 0, none⟩) (n + 1) c8)) := ((hbN6.alloc (by omega) _).grown hg8 (by simp; omega) (fun k e => (hmo6.lt k e).1)).setCell (p := ⟨vb, 1, none⟩) hlo _; have hN8 : N ≤ (w8.setCell ⟨vb, 1, none⟩ (.slice (some ⟨g8, 0, none⟩) (n + 1) c8)).heap.size := by { have := hg8.size; simp [World.setCell] at this ⊢; omega }; have hmo8 : (w8.setCell ⟨vb, 1, none⟩ (.slice (some ⟨g8, 0, none⟩) (n + 1) c8)).ownsRow N 51 1 (.slice (some ⟨g8, 0, none⟩) (n + 1) c8) (n + 1) (wordsV (madeW hs fs O t ++ [hw])) := by { have h := (unhide HV8).mo; rw [List.length_append, unhide Hml] at h; exact h }; clear hpush)))
      refine bodyPost_end (v := .tuple #[]) (results_none rfl _ _ _) rfl ⟨⟨rfl, _, ⟨_, ?_, unhide HF2⟩, unhide Hkp9⟩, (unhide HbN9).setCell (p := ⟨vb, 1, none⟩) hlo _⟩
      have h := unhide HV9
      rw [unhide Hsn, unhide Hhw, unhide Hfo, List.length_append]
      rw [List.append_assoc] at h
      exact h
    · go_wp2_with fail
      refine (unhide Hc2 _ _ _).mono ?_
      rintro e w6 ⟨rfl, hb6⟩
      have HV6 := hide ((unhide HV5 (a + 1)).below hb6)
      have Hkp6 := hide ((unhide Hkp5 (a + 1)).below hb6)
      have hbN6 : Below N w w6 := (unhide HbN5 (a + 1)).trans (hb6.mono (by simp [World.setCell]; omega))
      have q1 := (unhide HV6).box.c1
      have hlm6 := (unhide HV6).box.lt
      have hmo6 := (unhide HV6).mo
      rw [unhide Hml] at hmo6
      have hN6 : N ≤ w6.heap.size := by omega
      have Hhw : Hid (hO hs (j : Int) = headW (fl : Int) false (a + 1)) := by show hO hs (j : Int) = _; rw [unhide HH]; congr 1 <;> omega
      clear HV4 Hkp4 hbN4 HV5 Hkp5 HbN5 h0 h1 h2 z1 z2 hb6 hs4 HH h7
      generalize headW (fl : Int) false (a + 1) = hw at *
      go_wp2_with (first
        | (at_builtin; refine wpList_append_own_at _ rfl _ _ 22 rfl N 51 i0 _ 1 8 Try.underlying22 hi0 hz0 hz1 hz2 rfl (by decide) _ _ _ rfl hmo8 _ fl _ (wordsV f) rfl (by rw [wordsV_len]; have := unhide Hfl; omega) (unhide Hsrc _ hbN8) (by intro u hu; simp only [wordsV, List.mem_map] at hu; obtain ⟨z, _, rfl⟩ := hu; rfl) (by simp only [maxLen]; omega) (by omega) hN8 ?_; go_must (intro v9 w9 hrow9 hg9 _ hat9; obtain ⟨g9, c9, hv9⟩ := ownsRow_slice hrow9; subst hv9; have hpush9 := (unhide HV8).push (l := f) (by rw [List.length_append, unhide Hml, unhide Hfl]; exact hrow9) hg9 hat9; have s1 := hpush9.1.c1; have t9 := hpush9.1.fr 1; have hlm9 := hpush9.1.lt; have HV9 := hide hpush9.2.1; have Hkp9 := hide ((unhide Hkp8).trans hpush9.2.2); have HbN9 : Hid (Below N w w9) := hbN8.grown hg9 hN8 (fun k e => (hmo8.lt k e).1); clear hpush9))
        | (at_builtin; go_must (refine wpList_append_own_at _ rfl _ _ 22 rfl N 51 i0 _ 1 8 Try.underlying22 hi0 hz0 hz1 hz2 rfl (by decide) _ _ _ rfl (hmo6.alloc _) ⟨w6.heap.size, 0, none⟩ 1 1 [.int .u64 hw] rfl rfl (cell_one_at _ _ _ _ (by simp)) (by simp [Value.oneCell']) (by simp only [maxLen]; omega) (by omega) (by simp; omega) ?_); go_must (intro v8 w8 hrow8 hg8 _ hat8; obtain ⟨g8, c8, hv8⟩ := ownsRow_succ hrow8; subst hv8; have hpush := ((unhide HV6).alloc (.cells #[.int .u64 hw] 51)).push (l := [hw]) (by rw [unhide Hml]; exact hrow8) hg8 hat8; have r1 := hpush.1.c1; have t1 := hpush.1.fr 1; have hlm8 := hpush.1.lt; have HV8 := hide hpush.2.1; have Hkp8 := hide (((unhide Hkp6).alloc _).trans hpush.2.2); have hbN8 : Below N w (w8.setCell ⟨vb, 1, none⟩ (.slice (some ⟨g8, 0, none⟩) (n + 1) c8)) := ((hbN6.alloc (by omega) _).grown hg8 (by simp; omega) (fun k e => (hmo6.lt k e).1)).setCell (p := ⟨vb, 1, none⟩) hlo _; have hN8 : N ≤ (w8.setCell ⟨vb, 1, none⟩ (.slice (some ⟨g8, 0, none⟩) (n + 1) c8)).heap.size := by { have := hg8.size; simp [World.setCell] at this ⊢; omega }; have hmo8 : (w8.setCell ⟨vb, 1, none⟩ (.slice (some ⟨g8, 0, none⟩) (n + 1) c8)).ownsRow N 51 1 (.slice (some ⟨g8, 0, none⟩) (n + 1) c8) (n + 1) (wordsV (madeW hs fs O t ++ [hw])) := by { have h := (unhide HV8).mo; rw [List.length_append, unhide Hml] at h; exact h }; clear hpush)))
      refine bodyPost_end (v := .tuple #[]) (results_none rfl _ _ _) rfl ⟨⟨rfl, _, ⟨_, ?_, unhide HF2⟩, unhide Hkp9⟩, (unhide HbN9).setCell (p := ⟨vb, 1, none⟩) hlo _⟩
      have h := unhide HV9
      rw [unhide Hsn, unhide Hhw, unhide Hfo, List.length_append]
      rw [List.append_assoc] at h
      exact h

end Go.Proofs.Ytnbhciejlidnlaa

/- Walks: turn. -/
namespace Go.Proofs.Ytnbhciejlidnlaa
set_option linter.unusedSimpArgs false
set_option linter.unusedVariables false
open Go.RowKit Go.Shelf

theorem ins_old {O : List Int} {v : V} (h : v.1 = true → v.2 ∈ O) : ins O v = O := by
  unfold ins
  split
  · rename_i h1; rw [if_pos (h h1)]
  · rfl

theorem MvTo.below {N vb mb : Nat} {vo vm : Value} {hs : List Int} {fs : List (List Int)} {O : List Int} {t : Nat} {w w' w'' : World} (h : MvTo N vb mb vo vm hs fs O t w w') (hb : Below w'.heap.size w' w'') : MvTo N vb mb vo vm hs fs O t w w'' := by
  obtain ⟨vm', h1, h2⟩ := h
  exact ⟨vm', h1.below hb, h2.below hb⟩

theorem mvA_to {N vb mb : Nat} {vo vm : Value} {hs : List Int} {fs : List (List Int)} {O : List Int} {t : Nat} {w w' : World} (h : MvA w N vb mb vo vm hs fs O t) (hb : Below w.heap.size w w') : MvTo N vb mb vo vm hs fs O t w w' :=
  ⟨vm, h.below hb, (Kp.refl w vb mb vm).below hb⟩

/-- The place of an object that was laid. -/
theorem place_in {fs : List (List Int)} {O : List Int} (hOk : OOk fs O) {j : Nat} (hm : (j : Int) ∈ O) : tot ((O.map (fO fs)).take (O.idxOf (j : Int))) < tot fs := by
  have hi := List.idxOf_lt_length_iff.2 hm
  have := place_lt (fs := O.map (fO fs)) (i := O.idxOf (j : Int)) (by simpa using hi)
  have := hOk.tot_le
  omega

set_option maxRecDepth 100000 in
set_option maxHeartbeats 2000000 in
theorem turn_c (hs : List Int) (fs : List (List Int)) (rs O : List Int) (t N vb mb cw : Nat) (aw : Option Addr) (vm : Value) (x : Int) (w : World) (hA : Arn hs fs rs)
    (hM : MvA w N vb mb (.slice aw (tot fs : Nat) cw) vm hs fs O t) (hW : Wds N w aw (joinW hs fs)) (hcap : tot fs ≤ cw) (hOk : OOk fs O) (hD : Done hs fs O t) (ht : t ≤ tot (O.map (fO fs))) (h1 : 0 ≤ x) (h2 : x < 18446744073709551616) (hok : okW (stF 0 fs) x = true) :
    Calls Try.prog 38 #[.pointer (some ⟨vb, 0, none⟩), .int .u64 x] w fun e w' => (e = .returned (.int .u64 (twW fs (ins O (valW (stF 0 fs) x)) x)) ∧ MvTo N vb mb (.slice aw (tot fs : Nat) cw) vm hs fs (ins O (valW (stF 0 fs) x)) t w w') ∧ Below N w w' := by
  obtain ⟨M0, hV0, hF0⟩ := id hM
  have h256 := hA.n256
  have hlm := hV0.box.lt
  have hlo := hV0.lo
  have Hc1 := hide (unpack_c x w h1 h2)
  have Hok := hide (ok_ref hok)
  have Hnum : Hid (unRef x = false → twW fs O x = x) := fun h => twW_num h h1 h2 (ok_ref hok).1
  have HM := hide hM
  have HW := hide hW
  have HA := hide hA
  have HOk := hide hOk
  have HD := hide hD
  clear hV0 hF0 hM hok hA hW hOk hD
  go_enter Try.func38, Try.ntmps38
  go_wp2_with fail
  refine (unhide Hc1).mono ?_
  rintro e w3 ⟨rfl, hb3⟩
  have hs3 := hb3.size
  clear Hc1
  cases hr : unRef x
  · have Hr := hide hr
    clear hr
    have Hv : Hid (ins O (valW (stF 0 fs) x) = O) := ins_old (fun h => by rw [valW_num (unhide Hr)] at h; cases h)
    have Hx := hide ((unhide Hnum) (unhide Hr))
    go_wp2
    go_ret
    have hba := hb3.alloc hs3 (.cells #[.bool false, .int .i64 (unNum x)] 57)
    rw [unhide Hv]
    exact ⟨⟨by rw [unhide Hx]; rfl, mvA_to (unhide HM) hba⟩, hba.mono (by omega)⟩
  · obtain ⟨j, hj⟩ := (unhide Hok).2 hr
    have hjl : j < fs.length := by have := (List.getElem?_eq_some_iff.1 hj).1; rw [stF_len] at this; exact this
    have hj' := stF_get fs 0 j hjl
    rw [Nat.zero_add] at hj'
    have hnum : unNum x = ((tot (fs.take j) : Nat) : Int) := by
      have := hj.symm.trans hj'
      injection this
    have hvw : valW (stF 0 fs) x = (true, (j : Int)) := by rw [valW_ref hr, placeOf_nodup (stF_nodup fs 0) hj]
    have Hvw := hide hvw
    have hM3 := (unhide HM).below hb3
    have hpl := place_lt hjl
    have hMa := hM3.below ((Below.refl w3.heap.size w3).alloc (Nat.le_refl _) (.cells #[.bool true, .int .i64 (tot (fs.take j) : Nat)] 57))
    obtain ⟨d, hlk⟩ := hMa.lookOk hjl h256
    obtain ⟨Ma, hVa, _⟩ := id hMa
    have q2 := hVa.box.c2
    have hlma := hVa.box.lt
    have hba := hb3.alloc hs3 (.cells #[.bool true, .int .i64 (tot (fs.take j) : Nat)] 57)
    rw [hnum]
    by_cases hm : (j : Int) ∈ O
    · have Hins := hide (show ins O (true, (j : Int)) = O from ins_old (fun _ => hm))
      have hl2 := hMa.look hjl h256 hm
      have Hpk := hide (twW_ref hvw hm)
      have hpi := place_in (unhide HOk) hm
      have d1 : decide ((j : Int) ∈ O) = true := by simpa using hm
      rw [d1] at hlk
      have Hc2 := hide (fun W q (h : q < tot fs) => pack_c true (q : Nat) W (by omega) (by omega))
      clear hm d1 hMa hVa hM3 hvw hj hj' hnum hr
      generalize tot ((O.map (fO fs)).take (O.idxOf (j : Int))) = q at *
      generalize tot (fs.take j) = p at *
      go_wp2_with fail
      refine (unhide Hc2 _ q hpi).mono ?_
      rintro e w5 ⟨rfl, hb5⟩
      have Hb5 := hide hb5
      clear hb5
      go_wp2
      go_ret
      rw [unhide Hvw, unhide Hins, unhide Hpk]
      have hbb := hba.trans ((unhide Hb5).mono (hba.size))
      exact ⟨⟨rfl, mvA_to (unhide HM) hbb⟩, hbb.mono (by omega)⟩
    · have Hins := hide (show ins O (true, (j : Int)) = O ++ [(j : Int)] by simp [ins, hm])
      have d1 : decide ((j : Int) ∈ O) = false := by simpa using hm
      rw [d1] at hlk
      have hOk' := (unhide HOk).snoc hjl hm
      have hmj : (j : Int) ∈ O ++ [(j : Int)] := by simp
      have Hpk := hide (twW_ref hvw hmj)
      have hpi := place_in hOk' hmj
      have Hlk2 : Hid (∀ W vm', MvA W N vb mb (.slice aw (tot fs : Nat) cw) vm' hs fs (O ++ [(j : Int)]) t → (Instr.lookup 47 (.map (some mb)) (.int .i64 (tot (fs.take j) : Nat)) false).run Try.prog W = .ok (.int .i64 ((tot (((O ++ [(j : Int)]).map (fO fs)).take ((O ++ [(j : Int)]).idxOf (j : Int))) : Nat) : Int)) W) := fun W vm' h => h.look hjl h256 hmj
      have Hmv := hide (move_c hs fs rs O t j N vb mb cw aw vm _ (unhide HA) hMa ((unhide HW).below (hba.mono (by omega))) hcap (unhide HOk) (unhide HD) ht hjl hm)
      have Hc2 := hide (fun W q (h : q < tot fs) => pack_c true (q : Nat) W (by omega) (by omega))
      clear hm d1 hMa hVa hM3 hvw hj hj' hnum hr hmj hOk'
      generalize tot (((O ++ [(j : Int)]).map (fO fs)).take ((O ++ [(j : Int)]).idxOf (j : Int))) = q at *
      generalize tot (fs.take j) = p at *
      go_wp2_with fail
      refine (unhide Hmv).mono ?_
      rintro e w5 ⟨⟨rfl, vm', hM5, hk5⟩, hb5⟩
      have HM5 := hide hM5
      have Hk5 := hide hk5
      obtain ⟨M5, hV5, _⟩ := id hM5
      have q2' := hV5.box.c2
      have hlm5 := hV5.box.lt
      have hl2 := unhide Hlk2 w5 vm' hM5
      clear hM5 hk5 hV5 q2 hlma hlk Hmv
      go_wp2_with fail
      refine (unhide Hc2 _ q hpi).mono ?_
      rintro e w6 ⟨rfl, hb6⟩
      have Hb6 := hide hb6
      clear hb6
      go_wp2
      go_ret
      rw [unhide Hvw, unhide Hins, unhide Hpk]
      have hb6 := unhide Hb6
      have hs5 := hb5.size
      refine ⟨⟨rfl, vm', (unhide HM5).below hb6, (((Kp.refl w vb mb vm).below hba).trans (unhide Hk5)).below hb6⟩, ((hba.mono (by omega)).trans hb5).trans (hb6.mono (by omega))⟩

end Go.Proofs.Ytnbhciejlidnlaa

/- Plain: how the mover goes on, object by object, field by field. -/
namespace Go.Proofs.Ytnbhciejlidnlaa
set_option linter.unusedSimpArgs false
set_option linter.unusedVariables false
open Go.RowKit

/-- What was found, k objects gone through. -/
def oK (fs : List (List Int)) (rs : List Int) (k : Nat) : List Int := (searchN (readG fs rs) k).1
/-- .. and of the next one j fields. -/
def oKJ (fs : List (List Int)) (rs : List Int) (k : Nat) (f : List Int) (j : Nat) : List Int := insA (oK fs rs k) ((f.take j).map (valW (stF 0 fs)))

theorem oK_ok {hs : List Int} {fs : List (List Int)} {rs : List Int} (h : Arn hs fs rs) (k : Nat) : OOk fs (oK fs rs k) := by
  have := searchN_ok (good_read h) k
  refine ⟨this.nd, fun o ho => ?_⟩
  have := this.rng o ho
  rw [readG_len] at this
  exact this

theorem insA_snoc (F : List Int) (l : List V) (v : V) : insA F (l ++ [v]) = ins (insA F l) v := by simp [insA]

theorem oKJ_zero (fs : List (List Int)) (rs : List Int) (k : Nat) (f : List Int) : oKJ fs rs k f 0 = oK fs rs k := by simp [oKJ, insA]
theorem oKJ_succ {fs : List (List Int)} {rs : List Int} {k : Nat} {f : List Int} {j : Nat} (hj : j < f.length) : oKJ fs rs k f (j + 1) = ins (oKJ fs rs k f j) (valW (stF 0 fs) f[j]) := by
  unfold oKJ
  rw [List.take_succ_eq_append_getElem hj, List.map_append, List.map_cons, List.map_nil, insA_snoc]

theorem ok_val {hs : List Int} {fs : List (List Int)} {rs : List Int} (h : Arn hs fs rs) {x : Int} (hok : okW (stF 0 fs) x = true) (hv : (valW (stF 0 fs) x).1 = true) : ∃ j, j < fs.length ∧ valW (stF 0 fs) x = (true, (j : Int)) := by
  cases hr : unRef x
  · rw [valW_num hr] at hv; cases hv
  · obtain ⟨j, hj⟩ := (ok_ref hok).2 hr
    refine ⟨j, by have := (List.getElem?_eq_some_iff.1 hj).1; rw [stF_len] at this; exact this, ?_⟩
    rw [valW_ref hr, placeOf_nodup (stF_nodup fs 0) hj]

theorem OOk.ins {hs : List Int} {fs : List (List Int)} {rs O : List Int} (hO : OOk fs O) (h : Arn hs fs rs) {x : Int} (hok : okW (stF 0 fs) x = true) : OOk fs (ins O (valW (stF 0 fs) x)) := by
  unfold Ytnbhciejlidnlaa.ins
  split
  · rename_i h1
    split
    · exact hO
    · rename_i h2
      obtain ⟨j, hj, e⟩ := ok_val h hok h1
      rw [e] at h2 ⊢
      exact hO.snoc hj h2
  · exact hO

theorem oKJ_ok {hs : List Int} {fs : List (List Int)} {rs : List Int} (h : Arn hs fs rs) (k : Nat) {f : List Int} (hf : f ∈ fs) : ∀ (j : Nat), j ≤ f.length → OOk fs (oKJ fs rs k f j)
  | 0, _ => by rw [oKJ_zero]; exact oK_ok h k
  | j + 1, hj => by
    rw [oKJ_succ (by omega)]
    exact (oKJ_ok h k hf j (by omega)).ins h (h.okf f hf _ (List.getElem_mem (by omega)))

theorem oKJ_prefix (fs : List (List Int)) (rs : List Int) (k : Nat) (f : List Int) (j : Nat) : oK fs rs k <+: oKJ fs rs k f j := insA_prefix _ _

/-- The object whose turn it is. -/
theorem oK_at {hs : List Int} {fs : List (List Int)} {rs : List Int} (h : Arn hs fs rs) {k : Nat} (hk : k < (oK fs rs k).length) :
    ∃ i f, i < fs.length ∧ fs[i]? = some f ∧ (oK fs rs k)[k] = (i : Int) ∧ fO fs (i : Int) = f ∧ oK fs rs (k + 1) = oKJ fs rs k f f.length := by
  have hr := (oK_ok h k).rng _ (List.getElem_mem hk)
  generalize hoe : (oK fs rs k)[k] = o at *
  obtain ⟨i, rfl⟩ := Int.eq_ofNat_of_zero_le hr.1
  have hi : i < fs.length := by omega
  refine ⟨i, fs[i], hi, List.getElem?_eq_getElem hi, rfl, by simp [fO, List.getD_eq_getElem?_getD, hi], ?_⟩
  have hf : fieldsOf (readG fs rs) (i : Int) = fs[i].map (valW (stF 0 fs)) := fieldsOf_read (List.getElem?_eq_getElem hi)
  have hG := good_read h
  have hrf : RefsOk (fs[i].map (valW (stF 0 fs))) := by
    refine hG.refsObjs ?_
    unfold readG
    exact List.mem_map.2 ⟨fs[i], List.getElem_mem hi, rfl⟩
  have e : (searchN (readG fs rs) k).1[k]? = some (i : Int) := by
    have := List.getElem?_eq_getElem hk
    rw [hoe] at this
    exact this
  unfold oK oKJ
  rw [searchN_succ, e]
  simp only
  rw [hf, insA_findA _ _ hrf, List.take_length]
  rfl

theorem oK_zero {hs : List Int} {fs : List (List Int)} {rs : List Int} (h : Arn hs fs rs) : oK fs rs 0 = insA [] (rs.map (valW (stF 0 fs))) := by
  have hG := good_read h
  have := insA_findA 0 _ hG.refsRoots ([], [])
  exact this

theorem oK_end {hs : List Int} {fs : List (List Int)} {rs : List Int} (h : Arn hs fs rs) {k : Nat} (hk : (oK fs rs k).length ≤ k) : oK fs rs k = orderOf (readG fs rs) := by
  have hG := good_read h
  rcases Nat.le_total k (readG fs rs).objs.length with hl | hl
  · have := searchN_stable (readG fs rs) (k := k) hk ((readG fs rs).objs.length - k)
    rw [show k + ((readG fs rs).objs.length - k) = (readG fs rs).objs.length from by omega] at this
    unfold oK orderOf; rw [this]
  · unfold oK orderOf; rw [search_stable hG hl]

/-- Where the words of the object stand whose turn it is. -/
theorem turnAt {hs : List Int} {fs : List (List Int)} {O O' : List Int} (hp : O <+: O') {k i : Nat} {f : List Int} (hk : k < O.length) (ho : O[k] = (i : Int)) (hf : fO fs (i : Int) = f) :
    (uE hs fs O')[tot ((O.map (fO fs)).take k)]? = some (true, hO hs (i : Int)) ∧
    (∀ d x, f[d]? = some x → (uE hs fs O')[tot ((O.map (fO fs)).take k) + 1 + d]? = some (false, x)) ∧
    tot ((O'.map (fO fs)).take (k + 1)) = tot ((O.map (fO fs)).take k) + 1 + f.length ∧
    tot ((O.map (fO fs)).take k) + 1 + f.length ≤ tot (O'.map (fO fs)) := by
  have hl := hp.length_le
  have hk' : k < O'.length := by omega
  have e1 : O'[k] = (i : Int) := by
    have h1 := prefix_get hp (List.getElem?_eq_getElem hk)
    rw [List.getElem?_eq_getElem hk', Option.some.injEq] at h1
    rw [h1, ho]
  have e2 : (O'.map (fO fs)).take k = (O.map (fO fs)).take k := prefix_take (map_prefix hp) (by simp; omega)
  have hkm : k < (O'.map (fO fs)).length := by simpa using hk'
  have e3 := tot_take_succ hkm
  rw [List.getElem_map, e1, hf, e2] at e3
  have h1 := uE_head (hs := hs) (fs := fs) hk'
  rw [e1, e2] at h1
  refine ⟨h1, fun d x hx => ?_, by omega, by have := tot_take_le (O'.map (fO fs)) (k + 1); omega⟩
  have h2 := uE_field (hs := hs) (fs := fs) hk' (d := d) (x := x) (by rw [e1, hf]; exact hx)
  rw [e2] at h2
  exact h2

end Go.Proofs.Ytnbhciejlidnlaa

/- Walks: turnFields. -/
namespace Go.Proofs.Ytnbhciejlidnlaa
set_option linter.unusedSimpArgs false
set_option linter.unusedVariables false
open Go.RowKit Go.Shelf
attribute [local go_sem] field47_0

/-- Where the mover is: the words before p are turned, of k objects. -/
def MvAt (N vb mb : Nat) (vo vm0 : Value) (hs : List Int) (fs : List (List Int)) (O : List Int) (t : Nat) (w wr : World) : Prop :=
  MvTo N vb mb vo vm0 hs fs O t w wr ∧ OOk fs O ∧ Done hs fs O t ∧ t ≤ tot (O.map (fO fs)) ∧ Below N w wr

theorem MvAt.below {N vb mb : Nat} {vo vm0 : Value} {hs : List Int} {fs : List (List Int)} {O : List Int} {t : Nat} {w wr w' : World} (h : MvAt N vb mb vo vm0 hs fs O t w wr) (hb : Below wr.heap.size wr w') (hN : N ≤ wr.heap.size) : MvAt N vb mb vo vm0 hs fs O t w w' :=
  ⟨h.1.below hb, h.2.1, h.2.2.1, h.2.2.2.1, h.2.2.2.2.trans (hb.mono hN)⟩

/-- A header is passed by. -/
theorem MvAt.head {N vb mb : Nat} {vo vm0 : Value} {hs : List Int} {fs : List (List Int)} {O : List Int} {t : Nat} {w wr : World} (h : MvAt N vb mb vo vm0 hs fs O t w wr) {y : Int} (hy : (uE hs fs O)[t]? = some (true, y)) : MvAt N vb mb vo vm0 hs fs O (t + 1) w wr := by
  obtain ⟨⟨vm', ⟨M, hV, hF⟩, hk⟩, h2, h3, h4, h5⟩ := h
  rw [madeW_head hy] at hV
  have hlt := (List.getElem?_eq_some_iff.1 hy).1
  rw [uE_len] at hlt
  exact ⟨⟨vm', ⟨M, hV, hF⟩, hk⟩, h2, h3.head hy, by omega, h5⟩

theorem row_addr {w : World} {N n rc size : Nat} {e : TypeId} {ra : Option Addr} {xs : List Value} (h : w.ownsRow N e size (.slice ra n rc) n xs) (hn : 0 < n) : ∃ g, ra = some ⟨g, 0, none⟩ ∧ n ≤ rc ∧ g < w.heap.size := by
  rcases h.2 with ⟨_, h0⟩ | ⟨g, cap, cur, hv, h1, h2, h3, h4, h5, h6⟩
  · omega
  · injection hv with e1 e2 e3
    subst e3
    exact ⟨g, e1, h3, (Array.getElem?_eq_some_iff.1 h2).1⟩

/-- The mover at a word that is to be turned. -/
theorem MvA.word {W : World} {N vb mb : Nat} {vo vm : Value} {hs : List Int} {fs : List (List Int)} {O : List Int} {t : Nat} (h : MvA W N vb mb vo vm hs fs O t) {e : Bool × Int} (he : (uE hs fs O)[t]? = some e) :
    ∃ g rc n, vm = .slice (some ⟨g, 0, none⟩) n rc ∧ n = tot (O.map (fO fs)) ∧ t < n ∧ W.cell? ⟨vb, 1, none⟩ = some (.slice (some ⟨g, 0, none⟩) n rc) ∧ W.cell? ⟨g, t, none⟩ = some (.int .u64 e.2) ∧ W.frozen? ⟨g, t, none⟩ = false ∧ g < W.heap.size ∧ vb < W.heap.size := by
  obtain ⟨M, hV, hF⟩ := h
  have hlt := (List.getElem?_eq_some_iff.1 he).1
  rw [uE_len] at hlt
  have hmo := hV.mo
  rw [madeW_len] at hmo
  obtain ⟨ra, rc, rfl⟩ := ownsRow_slice hmo
  obtain ⟨g, rfl, _, hg⟩ := row_addr hmo (by omega)
  obtain ⟨h1, h2⟩ := hV.wcell (madeW_len hs fs O t).symm (madeW_get he)
  exact ⟨g, rc, _, rfl, rfl, hlt, hV.box.c1, h1, h2, hg, hV.box.lt⟩

/-- .. and behind it. -/
theorem MvA.stored {W : World} {N vb mb g rc n : Nat} {vo : Value} {hs : List Int} {fs : List (List Int)} {O : List Int} {t : Nat} (h : MvA W N vb mb vo (.slice (some ⟨g, 0, none⟩) n rc) hs fs O t) {x : Int} (he : (uE hs fs O)[t]? = some (false, x)) (hn : n = tot (O.map (fO fs))) :
    MvA (W.setCell ⟨g, t, none⟩ (.int .u64 (twW fs O x))) N vb mb vo (.slice (some ⟨g, 0, none⟩) n rc) hs fs O (t + 1) := by
  obtain ⟨M, hV, hF⟩ := h
  have h1 := hV.setW (by rw [madeW_len]; exact hn) t (twW fs O x)
  rw [madeW_field he] at h1
  exact ⟨M, h1, hF⟩

set_option maxRecDepth 100000 in
set_option maxHeartbeats 4000000 in
theorem turnFields_c (hs : List Int) (fs : List (List Int)) (rs : List Int) (N vb mb cw : Nat) (aw : Option Addr) (vm : Value) (w : World) (hA : Arn hs fs rs)
    (hM : MvA w N vb mb (.slice aw (tot fs : Nat) cw) vm hs fs (oK fs rs 0) 0) (hW : Wds N w aw (joinW hs fs)) (hcap : tot fs ≤ cw) :
    Calls Try.prog 39 #[.pointer (some ⟨vb, 0, none⟩)] w fun e w' => (e = .returned (.tuple #[]) ∧ MvTo N vb mb (.slice aw (tot fs : Nat) cw) vm hs fs (orderOf (readG fs rs)) (tot ((orderOf (readG fs rs)).map (fO fs))) w w') ∧ Below N w w' := by
  have h256 := hA.n256
  have hlm : vb < w.heap.size := by obtain ⟨_, hV, _⟩ := hM; exact hV.box.lt
  have hNv : N ≤ vb := by obtain ⟨_, hV, _⟩ := hM; exact hV.lo
  have Hst : Hid (MvAt N vb mb (.slice aw (tot fs : Nat) cw) vm hs fs (oK fs rs 0) 0 w w) := ⟨mvA_to hM (Below.refl _ _), oK_ok hA 0, done_zero _ _ _, Nat.zero_le _, Below.refl _ _⟩
  have HA := hide hA
  have HW := hide hW
  clear hM hA hW
  go_enter Try.func39, Try.ntmps39
  go_wp2_with fail
  go_loopw [2] (fun i wr => ∃ (k p : Nat), k ≤ (oK fs rs k).length ∧ i = .int .i64 (p : Int) ∧ p ≤ 256 ∧ Hid (p = tot (((oK fs rs k).map (fO fs)).take k)) ∧ Hid (MvAt N vb mb (.slice aw (tot fs : Nat) cw) vm hs fs (oK fs rs k) p w wr)) (fun i _ => 257 - (intOf i).toNat)
  case atStart => exact ⟨0, 0, Nat.zero_le _, rfl, by omega, by show 0 = _; simp [tot], Hst⟩
  case round =>
    obtain ⟨k, p, hk, rfl, hp, Hp, HS⟩ := hrel
    have hNr : N ≤ wr.heap.size := by obtain ⟨⟨_, ⟨_, hV, _⟩, _⟩, _⟩ := unhide HS; have := hV.box.lt; omega
    by_cases hlt : k < (oK fs rs k).length
    · obtain ⟨i, f, hi, hf, ho, hfo, hnext⟩ := oK_at (unhide HA) hlt
      obtain ⟨t1, t2, t3, t4⟩ := turnAt (hs := hs) (List.prefix_refl _) hlt ho hfo
      have hAt := unhide HS
      rw [← unhide Hp] at t1 t2 t3 t4
      obtain ⟨⟨vm1, hMA, hk1⟩, hO1, hD1, ht1, hb1⟩ := id hAt
      obtain ⟨g, rc, n, rfl, hn, hpn, q1, qc, _, hgl, hvl⟩ := hMA.word t1
      have hOl := hO1.tot_le
      obtain ⟨y, hy, hy1, hy2, hy3, hy4⟩ := fit_at (unhide HA).fit hi
      have hfy : fs[i] = f := by rw [List.getElem?_eq_getElem hi] at hf; injection hf
      rw [hfy] at hy2
      have hx := ageW_ok y
      have hhO : hO hs (i : Int) = ageW y := by simp [hO, List.getD_eq_getElem?_getD, hy]
      have Hx : Hid (uhL (hO hs (i : Int)) = (f.length : Int)) := by show uhL (hO hs (i : Int)) = _; rw [hhO, hx.2.1, uhL_wlen hy1, hy2]
      have hxb : 0 ≤ hO hs (i : Int) ∧ hO hs (i : Int) < 18446744073709551616 := by rw [hhO]; exact hx.2.2.2.2
      have Hc1 := hide (fun W => mheader_c (hO hs (i : Int)) W hxb.1 hxb.2)
      have hfm : f ∈ fs := List.mem_of_getElem? hf
      have Hfm := hide hfm
      have Hat1 : Hid (MvAt N vb mb (.slice aw (tot fs : Nat) cw) vm hs fs (oKJ fs rs k f 0) (p + 1) w wr) := by
        rw [oKJ_zero]; exact hAt.head t1
      have Hnx : Hid (oK fs rs (k + 1) = oKJ fs rs k f f.length) := hnext
      have Hpn : Hid (p + 1 + f.length = tot (((oK fs rs (k + 1)).map (fO fs)).take (k + 1))) := by
        show _ = _
        rw [hnext]
        have := (turnAt (hs := hs) (oKJ_prefix fs rs k f f.length) hlt ho hfo).2.2.1
        rw [← unhide Hp] at this
        exact this.symm
      have Hw : Hid (∀ j x, f[j]? = some x → ∀ j', (uE hs fs (oKJ fs rs k f j'))[p + 1 + j]? = some (false, x)) := fun j x hjx j' => by
        have := (turnAt (hs := hs) (oKJ_prefix fs rs k f j') hlt ho hfo).2.1 j x hjx
        rw [← unhide Hp] at this
        exact this
      have Hkl : Hid (k + 1 ≤ (oK fs rs (k + 1)).length) := by
        show k + 1 ≤ _
        rw [hnext]
        have := (oKJ_prefix fs rs k f f.length).length_le
        omega
      have hpf : p + 1 + f.length ≤ 256 := by omega
      generalize hO hs (i : Int) = x at *
      clear hAt hMA hk1 hO1 hD1 ht1 hb1 hy hy1 hy2 hy3 hy4 hx hhO hxb hnext ho hfo hf hfy hfm t1 t2 t3 t4 HS hn hOl
      generalize hfe : f.length = fl at *
      have Hfl := hide hfe
      clear hfe
      have hpI : (p : Int) < (n : Int) := by omega
      have hw1 : IntKind.i64.wrap ((p : Int) + 1) = (p : Int) + 1 := by rw [IntKind.wrap_i64]; omega
      have hw2 : IntKind.i64.wrap ((p : Int) + 1 + (fl : Int)) = (p : Int) + 1 + (fl : Int) := by rw [IntKind.wrap_i64]; omega
      go_wp2_with fail
      refine (unhide Hc1 wr).mono ?_
      rintro e w3 ⟨rfl, hb3⟩
      rw [unhide Hx]
      have Hat3 := hide ((unhide Hat1).below hb3 hNr)
      have hs3 := hb3.size
      clear Hat1 Hc1 Hx q1 qc hb3 hpI
      go_wp2
      go_loopw [4] (fun i wq => ∃ j : Nat, j ≤ fl ∧ i = .int .i64 ((p : Int) + 1 + (j : Int)) ∧ Hid (MvAt N vb mb (.slice aw (tot fs : Nat) cw) vm hs fs (oKJ fs rs k f j) (p + 1 + j) w wq)) (fun i _ => p + 1 + fl - (intOf i).toNat)
      case atStart => exact ⟨0, Nat.zero_le _, by simp, Hat3⟩
      case round =>
        clear Hat3 hs3
        obtain ⟨j, hj, rfl, HS⟩ := hrel
        have hNq : N ≤ wr.heap.size := by obtain ⟨⟨_, ⟨_, hV, _⟩, _⟩, _⟩ := unhide HS; have := hV.box.lt; omega
        by_cases hlj : j < fl
        · have hjf : j < f.length := by have := unhide Hfl; omega
          have hjx : f[j]? = some f[j] := List.getElem?_eq_getElem hjf
          obtain ⟨⟨vm1, hMA, hk1⟩, hO1, hD1, ht1, hb1⟩ := unhide HS
          obtain ⟨g, rc, n, rfl, hn, hpn, q1, qc, _, hgl, hvl⟩ := hMA.word (unhide Hw j _ hjx j)
          have hOl := hO1.tot_le
          have huf := (unhide HA).uf f (unhide Hfm) _ (List.getElem_mem hjf)
          have hok := (unhide HA).okf f (unhide Hfm) _ (List.getElem_mem hjf)
          have Hc := hide (turn_c hs fs rs (oKJ fs rs k f j) (p + 1 + j) N vb mb cw aw _ f[j] wr (unhide HA) hMA ((unhide HW).below hb1) hcap hO1 hD1 ht1 huf.1 huf.2 hok)
          have HO' := hide ((hO1.ins (unhide HA) hok))
          have Hsu : Hid (oKJ fs rs k f (j + 1) = ins (oKJ fs rs k f j) (valW (stF 0 fs) f[j])) := oKJ_succ hjf
          have Hwj := hide (unhide Hw j _ hjx (j + 1))
          have HD' := hide ((hD1.ins ht1 (valW (stF 0 fs) f[j])).step (y := f[j]) (by rw [← oKJ_succ hjf]; exact unhide Hw j _ hjx (j + 1)) (fun h => ins_mem h))
          have Hk1 := hide hk1
          have Hb1 := hide hb1
          rw [unhide Hsu] at Hwj
          generalize hxe : f[j] = x at *
          clear hxe hjx hok huf hD1 ht1 hO1 hk1 hb1 hMA HS hn hOl
          have hpI : (p : Int) + 1 + (j : Int) < (n : Int) := by omega
          have hpJ : ((p : Int) + 1 + (j : Int)).toNat = p + 1 + j := by omega
          have hpK : 0 ≤ (p : Int) + 1 + (j : Int) := by omega
          have hlI : (p : Int) + 1 + (j : Int) < (p : Int) + 1 + (fl : Int) := by omega
          have e3 : g < wr.heap.size := hgl
          go_wp2_with fail
          refine (unhide Hc).mono ?_
          rintro e w5 ⟨⟨rfl, vm5, hM5, hk5⟩, hb5⟩
          have hs5 := hb5.size
          obtain ⟨g5, rc5, n5, rfl, hn5, hpn5, q5, qc5, qf5, hgl5, hvl5⟩ := hM5.word (unhide Hwj)
          have HMs := hide (hM5.stored (unhide Hwj) hn5)
          have Hks := hide (((unhide Hk1).trans hk5).word (p + 1 + j) (.int .u64 (twW fs (ins (oKJ fs rs k f j) (valW (stF 0 fs) x)) x)))
          have Hts : Hid (p + 1 + j + 1 ≤ tot ((ins (oKJ fs rs k f j) (valW (stF 0 fs) x)).map (fO fs))) := by show _ ≤ _; omega
          have hNg5 : N ≤ g5 := by obtain ⟨_, hV, _⟩ := hM5; exact (hV.mo.lt g5 rfl).1
          have Hbs : Hid (Below N w (w5.setCell ⟨g5, p + 1 + j, none⟩ (.int .u64 (twW fs (ins (oKJ fs rs k f j) (valW (stF 0 fs) x)) x)))) := ((unhide Hb1).trans hb5).setCell (p := ⟨g5, p + 1 + j, none⟩) hNg5 _
          have hpI5 : (p : Int) + 1 + (j : Int) < (n5 : Int) := by omega
          clear Hc q1 qc hgl hvl hpI hk5 hb5 hM5 Hwj hn5 Hk1 Hb1 hs5 e3
          generalize twW fs (ins (oKJ fs rs k f j) (valW (stF 0 fs) x)) x = tw at *
          go_wp2
          go_roundw
          case rel =>
            refine ⟨j + 1, by omega, by go_num, ?_⟩
            show MvAt N vb mb (.slice aw (tot fs : Nat) cw) vm hs fs (oKJ fs rs k f (j + 1)) (p + 1 + j + 1) w _
            rw [unhide Hsu]
            exact ⟨⟨_, unhide HMs, unhide Hks⟩, unhide HO', unhide HD', unhide Hts, unhide Hbs⟩
          case measure => simp [intOf]; omega
        · obtain rfl : j = fl := by omega
          have hlI : ¬ ((p : Int) + 1 + (j : Int) < (p : Int) + 1 + (j : Int)) := by omega
          go_wp2
          go_roundw
          case rel =>
            refine ⟨k + 1, p + 1 + j, unhide Hkl, by go_num, by omega, unhide Hpn, ?_⟩
            show MvAt N vb mb (.slice aw (tot fs : Nat) cw) vm hs fs (oK fs rs (k + 1)) (p + 1 + j) w _
            rw [unhide Hnx]
            exact unhide HS
          case measure => simp [intOf]; omega
    · have hke : (oK fs rs k).length ≤ k := by omega
      have He := hide (oK_end (unhide HA) hke)
      have Hpe : Hid (p = tot ((oK fs rs k).map (fO fs))) := by
        show p = _
        rw [unhide Hp, List.take_of_length_le (by simpa using hke)]
      obtain ⟨⟨vm1, ⟨M, hV, hF⟩, hk1⟩, hO1, hD1, ht1, hb1⟩ := unhide HS
      have hmo := hV.mo
      rw [madeW_len, ← unhide Hpe] at hmo
      obtain ⟨ra, rc, rfl⟩ := ownsRow_slice hmo
      have q1 := hV.box.c1
      have hvl := hV.box.lt
      clear hmo hV hF hk1 hO1 hD1 ht1 hb1
      go_wp2
      refine bodyPost_end (v := .tuple #[]) (results_none rfl _ _ _) rfl ?_
      rw [← unhide He, ← unhide Hpe]
      exact ⟨⟨rfl, (unhide HS).1⟩, (unhide HS).2.2.2.2⟩

end Go.Proofs.Ytnbhciejlidnlaa

/- Walks: Copy. -/
namespace Go.Proofs.Ytnbhciejlidnlaa
set_option linter.unusedSimpArgs false
set_option linter.unusedVariables false
open Go.RowKit Go.Shelf

/-- The words of the arena that is made. -/
def mvL (hs : List Int) (fs : List (List Int)) (rs : List Int) : List Int := joinW ((orderOf (readG fs rs)).map (hO hs)) ((orderOf (readG fs rs)).map fun o => (fO fs o).map (twW fs (orderOf (readG fs rs))))
def mvR (fs : List (List Int)) (rs : List Int) : List Int := rs.map (twW fs (orderOf (readG fs rs)))

/-- What was found, k roots gone through. -/
def oR (fs : List (List Int)) (rs : List Int) (k : Nat) : List Int := insA [] ((rs.take k).map (valW (stF 0 fs)))

theorem oR_zero (fs : List (List Int)) (rs : List Int) : oR fs rs 0 = [] := by simp [oR, insA]
theorem oR_succ {fs : List (List Int)} {rs : List Int} {k : Nat} (hk : k < rs.length) : oR fs rs (k + 1) = ins (oR fs rs k) (valW (stF 0 fs) rs[k]) := by
  unfold oR
  rw [List.take_succ_eq_append_getElem hk, List.map_append, List.map_cons, List.map_nil, insA_snoc]
theorem oR_all {hs : List Int} {fs : List (List Int)} {rs : List Int} (h : Arn hs fs rs) : oR fs rs rs.length = oK fs rs 0 := by
  rw [oK_zero h]; unfold oR; rw [List.take_length]
theorem oR_ok {hs : List Int} {fs : List (List Int)} {rs : List Int} (h : Arn hs fs rs) : ∀ (k : Nat), k ≤ rs.length → OOk fs (oR fs rs k)
  | 0, _ => by rw [oR_zero]; exact OOk.nil fs
  | k + 1, hk => by
    rw [oR_succ (by omega)]
    exact (oR_ok h k (by omega)).ins h (h.okr _ (List.getElem_mem (by omega)))
theorem oR_prefix {hs : List Int} {fs : List (List Int)} {rs : List Int} (h : Arn hs fs rs) (k : Nat) : oR fs rs k <+: orderOf (readG fs rs) := by
  have h1 : oR fs rs k <+: oR fs rs rs.length := by
    unfold oR
    rw [List.take_length]
    conv => rhs; rw [← List.take_append_drop k rs, List.map_append]
    unfold insA
    rw [List.foldl_append]
    exact insA_prefix _ _
  rw [oR_all h] at h1
  exact h1.trans (order_prefix (good_read h) 0)

/-- Each root's word. -/
theorem oR_word {hs : List Int} {fs : List (List Int)} {rs : List Int} (h : Arn hs fs rs) {k : Nat} (hk : k < rs.length) : (mvR fs rs)[k]'(by simpa [mvR] using hk) = twW fs (ins (oR fs rs k) (valW (stF 0 fs) rs[k])) rs[k] := by
  unfold mvR
  rw [List.getElem_map]
  refine twW_prefix ?_ (fun hv => ins_mem hv)
  rw [← oR_succ hk]
  exact oR_prefix h (k + 1)

/-- What Copy tells. -/
def CpRes (base : Nat) (ws rs : List Int) (e : Ending) (W : World) : Prop :=
  (arenaE ws rs ≠ 0 ∧ e = .returned (.tuple #[.agg #[.slice none 0 0, .slice none 0 0], .int .i64 (arenaE ws rs)])) ∨
  (arenaE ws rs = 0 ∧ ∃ hs fs a c a' c', Arn hs fs rs ∧ ws = joinW hs fs ∧ e = .returned (.tuple #[.agg #[.slice a (mvL hs fs rs).length c, .slice a' rs.length c'], .int .i64 0]) ∧ WdsF base W a (mvL hs fs rs) ∧ (mvL hs fs rs).length ≤ c ∧ WdsF base W a' (mvR fs rs))

theorem owns_same {W W' : World} {base g n cap size : Nat} {e : TypeId} {xs : List Value} (h : W.ownsRow base e size (.slice (some ⟨g, 0, none⟩) n cap) n xs) (hb : W'.heap[g]? = W.heap[g]?) : W'.ownsRow base e size (.slice (some ⟨g, 0, none⟩) n cap) n xs := by
  refine ⟨h.1, ?_⟩
  rcases h.2 with ⟨h1, _⟩ | ⟨g', cap', cur, hv, h1, h2, h3⟩
  · cases h1
  · have e1 := hv
    injection e1 with e1
    injection e1 with e1
    injection e1 with e1
    subst e1
    exact .inr ⟨g, cap', cur, hv, h1, by rw [hb]; exact h2, h3⟩

theorem MvA.setO {W : World} {N vb mb b : Nat} {vo vm : Value} {hs : List Int} {fs : List (List Int)} {O : List Int} {t : Nat} (h : MvA W N vb mb vo vm hs fs O t) (h1 : b ≠ vb) (h2 : b ≠ mb) (h3 : vm.ownBlock ≠ some b) (j : Nat) (u : Value) : MvA (W.setCell ⟨b, j, none⟩ u) N vb mb vo vm hs fs O t := by
  obtain ⟨M, hV, hF⟩ := h
  exact ⟨M, hV.setO h1 h2 h3 j u, hF⟩

/-- A new mover. -/
theorem mv_start (w1 : World) (hs : List Int) (fs : List (List Int)) (vo : Value) :
    MvA ((w1.alloc (.map #[] 0)).alloc (.cells #[vo, .slice none 0 0, .map (some w1.heap.size)] 73)) w1.heap.size (w1.heap.size + 1) w1.heap.size vo (.slice none 0 0) hs fs [] 0 := by
  have hmp := World.ownsMap_made (H := Unit) w1 Try.prog 3 (plainElem Try.prog 3)
  refine ⟨.map [], ⟨⟨by simp [go_sem], by simp [go_sem], by simp [go_sem], fun j => by simp [go_sem]⟩, by omega, Nat.le_refl _, ?_, hmp.alloc _, by omega, by simp [Value.ownBlock], by simp [Value.ownBlock]⟩, nowD_nil fs⟩
  rw [madeW_nil]
  exact World.ownsRow_nil _ _ _ _

set_option maxRecDepth 100000 in
set_option maxHeartbeats 4000000 in
theorem copy_c (aw ar : Option Addr) (cw cr : Nat) (ws rs : List Int) (B : Nat) (w : World) (hW : Wds B w aw ws) (hR : Wds B w ar rs) (hUW : U64 ws) (hUR : U64 rs) (hB : B ≤ w.heap.size) (hcap : ws.length ≤ cw) :
    Calls Try.prog 18 #[.agg #[.slice aw ws.length cw, .slice ar rs.length cr]] w fun e w' => CpRes w.heap.size ws rs e w' ∧ Below w.heap.size w w' := by
  obtain ⟨i0, hi0, hz0, hz1, hz2⟩ := info_parts Try.info51m
  have hmm := @run_makeMap Try.prog
  obtain ⟨W0, hW0⟩ : ∃ W0, (w.alloc (.cells #[.slice aw ws.length cw, .slice ar rs.length cr] 24)).alloc (.cells #[.slice none 0 0, .slice none 0 0] 24) = W0 := ⟨_, rfl⟩
  have hb0 : Below w.heap.size w W0 := by rw [← hW0]; exact ((Below.refl w.heap.size w).alloc (Nat.le_refl _) _).alloc (by simp) _
  have hs0 : w.heap.size + 1 < W0.heap.size := by rw [← hW0]; simp
  have g0 : W0.cell? ⟨w.heap.size, 0, none⟩ = some (.slice aw ws.length cw) := by rw [← hW0]; simp [go_sem]
  have g1 : W0.cell? ⟨w.heap.size, 1, none⟩ = some (.slice ar rs.length cr) := by rw [← hW0]; simp [go_sem]
  have r0 : W0.cell? ⟨w.heap.size + 1, 0, none⟩ = some (.slice none 0 0) := by rw [← hW0]; simp [go_sem]
  have r1 : W0.cell? ⟨w.heap.size + 1, 1, none⟩ = some (.slice none 0 0) := by rw [← hW0]; simp [go_sem]
  have z0 : W0.frozen? ⟨w.heap.size + 1, 0, none⟩ = false := by rw [← hW0]; simp [go_sem]
  have z1 : W0.frozen? ⟨w.heap.size + 1, 1, none⟩ = false := by rw [← hW0]; simp [go_sem]
  have Hc1 := hide (acheck_c aw ar cw cr ws rs B W0 (hW.below (hb0.mono hB)) (hR.below (hb0.mono hB)) hUW hUR (by omega) hcap)
  go_enter Try.func18, Try.ntmps18
  go_wp2_with fail
  refine (unhide Hc1).mono ?_
  rintro e w1 ⟨rfl, hb1⟩
  clear hW0 Hc1
  have hs1 := hb1.size
  replace g0 := (hb1.cell (p := ⟨w.heap.size, 0, none⟩) (by simp; omega)).trans g0
  replace g1 := (hb1.cell (p := ⟨w.heap.size, 1, none⟩) (by simp; omega)).trans g1
  replace r0 := (hb1.cell (p := ⟨w.heap.size + 1, 0, none⟩) hs0).trans r0
  replace r1 := (hb1.cell (p := ⟨w.heap.size + 1, 1, none⟩) hs0).trans r1
  replace z0 := (hb1.frozen (p := ⟨w.heap.size + 1, 0, none⟩) hs0).trans z0
  replace z1 := (hb1.frozen (p := ⟨w.heap.size + 1, 1, none⟩) hs0).trans z1
  have hbw1 : Below w.heap.size w w1 := hb0.trans (hb1.mono (by omega))
  have hl1 : w.heap.size + 1 < w1.heap.size := by omega
  have hl1' : w.heap.size < w1.heap.size := by omega
  clear hb0 hb1 hs0 hs1
  by_cases hE : arenaE ws rs = 0
  · have HE := hide hE
    obtain ⟨hs, fs, hA, hws⟩ := arn_of hUW hUR hE
    have Htot : Hid (ws.length = tot fs) := by show _ = _; rw [hws, joinW_len _ _ hA.fit.len]
    rw [hE]
    have HW := hide (hW.below (hbw1.mono hB))
    have HR := hide (hR.below (hbw1.mono hB))
    have hn8 := hA.n8
    have h256 := hA.n256
    have HA := hide hA
    have Hws := hide hws
    have HUR := hide hUR
    clear hW hR hUW hUR hE hA hws
    have Hst := hide (mv_start w1 hs fs (.slice aw ws.length cw))
    have hHst : Hid (∀ w5, ((w1.alloc (.map #[] 0)).alloc (.cells #[.slice aw ws.length cw, .slice none 0 0, .map (some w1.heap.size)] 73)).grownBy w5 none → MvA w5 w1.heap.size (w1.heap.size + 1) w1.heap.size (.slice aw (tot fs : Nat) cw) (.slice none 0 0) hs fs (oR fs rs 0) 0) := by
      intro w5 hg
      have h := (unhide Hst).below ((Below.refl _ _).grown hg (Nat.le_refl _) (fun k e => by cases e))
      rw [unhide Htot] at h
      rw [oR_zero]
      exact h
    clear Hst
    go_upto_region 5 with fail
    go_wp2_with (at_make; go_must (refine wpList_make_at _ rfl _ _ 22 rfl w1.heap.size 51 i0 _ 1 Try.underlying22 hi0 hz0 hz1 .i64 .i64 _ _ rs.length rfl rfl rfl rfl (by rw [hz2]; omega) (by simp only [maxLen]; omega) (by simp; omega) ?_); go_must (intro w5 hown5 hg5 hs5; have hb5 : Below w1.heap.size w1 w5 := (((Below.refl w1.heap.size w1).alloc (Nat.le_refl _) _).alloc (by simp) _).grown hg5 (by simp; omega) (fun k e => by cases e); have g15 := (hb5.cell (p := ⟨w.heap.size, 1, none⟩) hl1').trans g1; have hl5 : w.heap.size < w5.heap.size := by { have := hb5.size; omega }))
    generalize (madeCells _ _).toList = cs0 at *
    simp only [World.size_alloc] at hown5 hs5
    have Hm5 := hide (unhide hHst w5 hg5)
    have hrb : w1.heap.size + 1 + 1 < w5.heap.size := by omega
    clear hHst hg5 hs5
    have hv1 : w1.heap.size + 1 + 1 ≠ w1.heap.size + 1 := by omega
    have hv2 : w1.heap.size + 1 + 1 ≠ w1.heap.size := by omega
    have hNrb : w1.heap.size ≤ w1.heap.size + 1 + 1 := by omega
    generalize w1.heap.size + 1 + 1 = rb at *
    generalize hvb : w1.heap.size + 1 = vb at *
    clear hvb
    have hrl : (mvR fs rs).length = rs.length := by simp [mvR]
    have hrl1 : (mvR fs rs).length ≤ rs.length := by omega
    have hrl2 : rs.length ≤ (mvR fs rs).length := by omega
    clear hrl
    go_loopw [26] (fun i wr => ∃ (k : Nat) (cs : List Value) (vm : Value), k ≤ rs.length ∧ i = .int .i64 k ∧ Hid (MvA wr w1.heap.size vb w1.heap.size (.slice aw (tot fs : Nat) cw) vm hs fs (oR fs rs k) 0) ∧ Hid (vm.ownBlock ≠ some rb) ∧
      wr.ownsRow w1.heap.size 51 1 (.slice (some ⟨rb, 0, none⟩) rs.length rs.length) rs.length cs ∧ Hid (cs.take k = wordsV ((mvR fs rs).take k)) ∧ Below w1.heap.size w1 wr ∧ rb < wr.heap.size) (fun i _ => rs.length - (intOf i).toNat)
    case atStart => exact ⟨0, cs0, .slice none 0 0, Nat.zero_le _, rfl, Hm5, hide (by simp [Value.ownBlock]), hown5, hide (by simp [wordsV]), hb5, hrb⟩
    case round =>
      clear hown5 Hm5 hb5 hrb g15 hl5
      obtain ⟨k, cs, vm, hk, rfl, Hm, Hvm, hown, Hcs, hb, hrb⟩ := hrel
      have hsz := hb.size
      by_cases hlt : k < rs.length
      · obtain ⟨b, off, rfl, hbB, hc⟩ := ((unhide HR).below (hb.mono (by omega))).at hlt
        have hur := (unhide HA).ur _ (List.getElem_mem hlt)
        have hok := (unhide HA).okr _ (List.getElem_mem hlt)
        have Hc := hide (turn_c hs fs rs (oR fs rs k) 0 w1.heap.size vb w1.heap.size cw aw vm rs[k] wr (unhide HA) (unhide Hm) (by rw [← unhide Hws]; exact ((unhide HW).below (hb.mono (by omega))).mono (by omega)) (by have := unhide Htot; omega) (oR_ok (unhide HA) k (by omega)) (done_zero _ _ _) (Nat.zero_le _) hur.1 hur.2 hok)
        have Hwd := hide (oR_word (unhide HA) hlt)
        have Hsu : Hid (oR fs rs (k + 1) = ins (oR fs rs k) (valW (stF 0 fs) rs[k])) := oR_succ hlt
        have hl0 := hown.1
        have hlc : k < cs.length := by omega
        obtain ⟨u1, hu1⟩ : ∃ u, cs[k]? = some u := ⟨cs[k], List.getElem?_eq_getElem hlc⟩
        have Hnew := hide (words_set (x := twW fs (ins (oR fs rs k) (valW (stF 0 fs) rs[k])) rs[k]) hlc (by simpa [mvR] using hlt) (unhide Hwd) (unhide Hcs))
        have hkI : (k : Int) < (rs.length : Int) := by omega
        generalize hxe : rs[k] = x at *
        have hbl : b < wr.heap.size := by omega
        clear hxe hur hok hl0 Hwd hlc
        go_wp2_with fail
        refine (unhide Hc).mono ?_
        rintro e w3 ⟨⟨rfl, vm3, hM3, hk3⟩, hb3⟩
        have hs3 := hb3.size
        have hkr := hk3.2 rb hrb hv1 hv2 (unhide Hvm)
        have hown3 := owns_same hown hkr.1
        have x1 := cellRow_at hown3 hu1
        have y1 := hown3.frozenAt k
        have HM3 := hide (hM3.setO hv1 hv2 hkr.2 k (.int .u64 (twW fs (ins (oR fs rs k) (valW (stF 0 fs) x)) x)))
        have Hvm3 := hide hkr.2
        have Hown3 := hide (hown3.stored k (.int .u64 (twW fs (ins (oR fs rs k) (valW (stF 0 fs) x)) x))).1
        have hbw3 : Below w1.heap.size w1 w3 := hb.trans hb3
        have hrb3 : rb < w3.heap.size := by have := hk3.1; omega
        clear hown hown3 hM3 hk3 hkr Hc hb3 hc
        generalize twW fs (ins (oR fs rs k) (valW (stF 0 fs) x)) x = tw at *
        go_wp2
        go_roundw
        case rel =>
          refine ⟨k + 1, _, vm3, by omega, by go_num, ?_, Hvm3, unhide Hown3, Hnew, hbw3.setCell (p := ⟨rb, k, none⟩) hNrb _, by simpa [World.setCell] using hrb3⟩
          show MvA _ _ _ _ _ _ _ _ (oR fs rs (k + 1)) 0
          rw [unhide Hsu]
          exact unhide HM3
        case measure => simp [intOf]; omega
      · obtain rfl : k = rs.length := by omega
        have hMk : MvA wr w1.heap.size vb w1.heap.size (.slice aw (tot fs : Nat) cw) vm hs fs (oK fs rs 0) 0 := by rw [← oR_all (unhide HA)]; exact unhide Hm
        have Hc := hide (turnFields_c hs fs rs w1.heap.size vb w1.heap.size cw aw vm wr (unhide HA) hMk (by rw [← unhide Hws]; exact ((unhide HW).below (hb.mono (by omega))).mono (by omega)) (by have := unhide Htot; omega))
        have hl0 := hown.1
        have hcs : cs = wordsV (mvR fs rs) := by
          have := unhide Hcs
          rw [List.take_of_length_le (by omega), List.take_of_length_le (by omega)] at this
          exact this
        clear hMk Hm hl0
        go_wp2_with fail
        refine (unhide Hc).mono ?_
        rintro e w3 ⟨⟨rfl, vm3, hM3, hk3⟩, hb3⟩
        have hkr := hk3.2 rb hrb hv1 hv2 (unhide Hvm)
        have hown3 := owns_same hown hkr.1
        rw [hcs] at hown3
        have hbw3 : Below w1.heap.size w1 w3 := hb.trans hb3
        have hs3 := hbw3.size
        obtain ⟨M3, hV3, _⟩ := hM3
        have hmo := hV3.mo
        have q1 := hV3.box.c1
        have hvl := hV3.box.lt
        rw [madeW_all (Nat.le_refl _)] at hmo
        have Hmo : Hid (w3.ownsRow w1.heap.size 51 1 vm3 (mvL hs fs rs).length (wordsV (mvL hs fs rs))) := hmo
        have hml : (mvL hs fs rs).length = tot ((orderOf (readG fs rs)).map (fO fs)) := by
          have := madeW_len hs fs (orderOf (readG fs rs)) (tot ((orderOf (readG fs rs)).map (fO fs)))
          rw [madeW_all (Nat.le_refl _)] at this
          exact this
        have hoo : OOk fs (orderOf (readG fs rs)) := oK_ok (unhide HA) _
        have hot := hoo.tot_le
        obtain ⟨a3, c3, hv3, hF3, hcl3⟩ := wordsF_of_owns (unhide Hmo) rfl (by omega)
        subst hv3
        obtain ⟨a4, c4, hv4, hF4, hcl4⟩ := wordsF_of_owns hown3 (by omega) (by omega)
        injection hv4 with e1 e2 e3
        subst e1
        have HF3 := hide hF3
        have HF4 := hide hF4
        have Hcl := hide hcl3
        replace r0 := (hbw3.cell (p := ⟨w.heap.size + 1, 0, none⟩) hl1).trans r0
        replace r1 := (hbw3.cell (p := ⟨w.heap.size + 1, 1, none⟩) hl1).trans r1
        replace z0 := (hbw3.frozen (p := ⟨w.heap.size + 1, 0, none⟩) hl1).trans z0
        replace z1 := (hbw3.frozen (p := ⟨w.heap.size + 1, 1, none⟩) hl1).trans z1
        have hl3 : w.heap.size + 1 < w3.heap.size := by omega
        have HbF := hide (hbw1.trans (hbw3.mono (by omega)))
        have hbp : (⟨w.heap.size + 1, 0, none⟩ : Addr).block < w1.heap.size := hl1
        clear hmo hV3 Hmo hml hoo hot hF3 hF4 hcl3 hcl4 hown hown3 hk3 hkr hb3 hbw3 hcs Hcs Hc e2 e3
        generalize hmle : (mvL hs fs rs).length = ml at *
        have Hml := hide hmle
        clear hmle
        go_wp2
        refine bodyPost_ret (v := .tuple #[.agg #[.slice a3 ml c3, .slice (some ⟨rb, 0, none⟩) rs.length rs.length], .int .i64 0]) (by simp [results, Try.results18, go_sem, r0, r1]) rfl ?_
        have hF3 := (((unhide HF3).setCell (p := ⟨w.heap.size + 1, 0, none⟩) hbp (.slice a3 ml c3)).setCell (p := ⟨w.heap.size + 1, 1, none⟩) hbp (.slice (some ⟨rb, 0, none⟩) rs.length rs.length)).base (base' := w.heap.size) (by omega)
        have hF4 := (((unhide HF4).setCell (p := ⟨w.heap.size + 1, 0, none⟩) hbp (.slice a3 ml c3)).setCell (p := ⟨w.heap.size + 1, 1, none⟩) hbp (.slice (some ⟨rb, 0, none⟩) rs.length rs.length)).base (base' := w.heap.size) (by omega)
        refine ⟨.inr ⟨unhide HE, hs, fs, a3, c3, _, _, unhide HA, unhide Hws, by rw [unhide Hml], hF3, by rw [unhide Hml]; exact unhide Hcl, hF4⟩, ?_⟩
        exact ((unhide HbF).setCell (p := ⟨w.heap.size + 1, 0, none⟩) (by simp) _).setCell (p := ⟨w.heap.size + 1, 1, none⟩) (by simp) _
  · have HE := hide hE
    have dE : (arenaE ws rs != 0) = true := by simpa using hE
    clear hE
    generalize hEe : arenaE ws rs = E at *
    have HEe := hide hEe
    clear hEe hmm
    go_wp2
    refine bodyPost_ret (v := .tuple #[.agg #[.slice none 0 0, .slice none 0 0], .int .i64 E]) (by simp [results, Try.results18, go_sem, r0, r1]) rfl ?_
    refine ⟨.inl ⟨by rw [unhide HEe]; exact unhide HE, by rw [unhide HEe]⟩, ?_⟩
    exact (hbw1.setCell (p := ⟨w.heap.size + 1, 0, none⟩) (by simp) _).setCell (p := ⟨w.heap.size + 1, 1, none⟩) (by simp) _

end Go.Proofs.Ytnbhciejlidnlaa

/- What is left of a graph does not hang on numbers: plain facts. -/
namespace Go.Proofs.Ytnbhciejlidnlaa
set_option linter.unusedSimpArgs false
set_option linter.unusedVariables false

/-- A graph with the objects of a list, numbered as they stand there. -/
def renL (g : Gr) (L : List Int) : Gr := { objs := L.map (fun o => (fieldsOf g o).map (renV L)), roots := g.roots.map (renV L) }

theorem canon_renL (g : Gr) : canonG g = renL g (orderOf g) := rfl

/-- A list that has all to which roots, and the fields of its own objects, refer. -/
structure Whole (g : Gr) (L : List Int) : Prop where
  nd : L.Nodup
  rng : ∀ o ∈ L, 0 ≤ o ∧ o < (g.objs.length : Int)
  roots : ∀ x ∈ refsL g.roots, x ∈ L
  fields : ∀ o ∈ L, ∀ x ∈ refsL (fieldsOf g o), x ∈ L

theorem whole_order {g : Gr} (h : Good g) : Whole g (orderOf g) :=
  ⟨order_nodup h, fun o ho => order_ok h ho, order_roots g, fun o ho => order_closed h ho⟩

theorem Whole.le {g : Gr} {L : List Int} (h : Whole g L) : L.length ≤ g.objs.length := nodup_length h.nd h.rng

theorem refs_ren {L : List Int} (hL : L.length ≤ 256) : ∀ (l : List V), RefsOk l → (∀ x ∈ refsL l, x ∈ L) → refsL (l.map (renV L)) = (refsL l).map (placeOf L)
  | [], _, _ => rfl
  | (false, n) :: xs, h, hm => by
    have e : refsL ((false, n) :: xs) = refsL xs := by simp [refsL, valsOf, obsOf, obOf]
    have ih := refs_ren hL xs (fun v hv => h v (List.mem_cons_of_mem _ hv)) (by rw [e] at hm; exact hm)
    rw [e, ← ih]
    simp [renV, refsL, valsOf, obsOf, obOf]
  | (true, n) :: xs, h, hm => by
    have hn := h (true, n) (by simp) rfl
    have e : refsL ((true, n) :: xs) = n :: refsL xs := by simp [refsL, valsOf, obsOf, obOf, hn]
    rw [e] at hm
    have ih := refs_ren hL xs (fun v hv => h v (List.mem_cons_of_mem _ hv)) (fun x hx => hm x (List.mem_cons_of_mem _ hx))
    have hp := placeOf_bounds (hm n (by simp))
    have hp2 : 0 ≤ placeOf L n ∧ placeOf L n < 256 := ⟨hp.1, by omega⟩
    have e2 : refsL ((true, placeOf L n) :: xs.map (renV L)) = placeOf L n :: refsL (xs.map (renV L)) := by simp [refsL, valsOf, obsOf, obOf, hp2]
    rw [e, List.map_cons, List.map_cons, ← ih, ← e2]
    simp [renV]

theorem mem_map_place {L O : List Int} (hO : ∀ x ∈ O, x ∈ L) {y : Int} (hy : y ∈ L) : placeOf L y ∈ O.map (placeOf L) ↔ y ∈ O := by
  constructor
  · intro h
    obtain ⟨x, hx, e⟩ := List.mem_map.1 h
    rw [← placeOf_inj (hO x hx) hy e]; exact hx
  · intro h
    exact List.mem_map_of_mem h

theorem findA_ren {L : List Int} (d : Int) : ∀ (xs : List Int) (st : List Int × List Int), (∀ x ∈ st.1, x ∈ L) → (∀ x ∈ xs, x ∈ L) →
    findA d (st.1.map (placeOf L), st.2) (xs.map (placeOf L)) = ((findA d st xs).1.map (placeOf L), (findA d st xs).2)
  | [], st, _, _ => rfl
  | x :: xs, st, hs, hx => by
    show findA d (findS d (st.1.map (placeOf L), st.2) (placeOf L x)) (xs.map (placeOf L)) = _
    have e : findS d (st.1.map (placeOf L), st.2) (placeOf L x) = ((findS d st x).1.map (placeOf L), (findS d st x).2) := by
      unfold findS
      by_cases hm : x ∈ st.1
      · rw [if_pos hm, if_pos ((mem_map_place hs (hx x (by simp))).2 hm)]
      · rw [if_neg hm, if_neg (fun h => hm ((mem_map_place hs (hx x (by simp))).1 h))]; simp
    rw [e]
    refine findA_ren d xs (findS d st x) ?_ (fun y hy => hx y (List.mem_cons_of_mem _ hy))
    unfold findS
    split
    · exact hs
    · intro y hy
      rcases List.mem_append.1 hy with hy | hy
      · exact hs y hy
      · simp at hy; subst hy; exact hx y (by simp)

theorem fields_ren {g : Gr} {L : List Int} {o : Int} (ho : o ∈ L) : fieldsOf (renL g L) (placeOf L o) = (fieldsOf g o).map (renV L) := by
  have h := placeOf_get ho
  unfold fieldsOf renL
  simp only [List.getElem?_map, h, Option.map_some, Option.getD_some]
  rfl

theorem search_sub {g : Gr} (hG : Good g) {L : List Int} (hL : Whole g L) : ∀ k, ∀ x ∈ (searchN g k).1, x ∈ L := by
  have hsub : ∀ (d : Int) (xs : List Int) (st : List Int × List Int), (∀ x ∈ st.1, x ∈ L) → (∀ x ∈ xs, x ∈ L) → ∀ x ∈ (findA d st xs).1, x ∈ L := by
    intro d xs
    induction xs with
    | nil => intro st h _; exact h
    | cons y ys ih =>
      intro st h hy
      refine ih (findS d st y) ?_ (fun x hx => hy x (List.mem_cons_of_mem _ hx))
      unfold findS
      split
      · exact h
      · intro x hx
        rcases List.mem_append.1 hx with hx | hx
        · exact h x hx
        · simp at hx; subst hx; exact hy x (by simp)
  intro k
  induction k with
  | zero => exact hsub 0 _ ([], []) (by simp) hL.roots
  | succ k ih =>
    rw [searchN_succ]
    cases ho : (searchN g k).1[k]? with
    | none => exact ih
    | some o => exact hsub _ _ _ ih (hL.fields o (ih o (List.mem_of_getElem? ho)))

theorem search_ren {g : Gr} (hG : Good g) {L : List Int} (hL : Whole g L) : ∀ k, searchN (renL g L) k = ((searchN g k).1.map (placeOf L), (searchN g k).2)
  | 0 => by
    have h24 : L.length ≤ 256 := by have := hL.le; have := hG.n24; omega
    show findA 0 ([], []) (refsL (g.roots.map (renV L))) = _
    rw [refs_ren h24 g.roots hG.refsRoots hL.roots]
    exact findA_ren 0 (refsL g.roots) ([], []) (by simp) hL.roots
  | k + 1 => by
    have h24 : L.length ≤ 256 := by have := hL.le; have := hG.n24; omega
    rw [searchN_succ, searchN_succ, search_ren hG hL k]
    simp only [List.getElem?_map]
    cases ho : (searchN g k).1[k]? with
    | none => rfl
    | some o =>
      have hs := search_sub hG hL k
      have hoL := hs o (List.mem_of_getElem? ho)
      have hr := hL.rng o hoL
      simp only [Option.map_some]
      rw [fields_ren hoL, refs_ren h24 _ (hG.refsObjs (fieldsOf_mem hr.1 hr.2)) (hL.fields o hoL)]
      exact findA_ren _ _ (searchN g k) hs (hL.fields o hoL)

theorem sub_length {l L : List Int} (hl : l.Nodup) (hs : ∀ x ∈ l, x ∈ L) : l.length ≤ L.length := by
  have h1 : (l.map (placeOf L)).Nodup := by
    rw [List.nodup_iff_pairwise_ne, List.pairwise_map]
    rw [List.nodup_iff_pairwise_ne] at hl
    exact hl.imp_of_mem (fun {a b} ha hb hab e => hab (placeOf_inj (hs a ha) (hs b hb) e))
  have h2 := nodup_length (N := L.length) h1 (by
    intro o ho
    obtain ⟨x, hx, rfl⟩ := List.mem_map.1 ho
    exact placeOf_bounds (hs x hx))
  simpa using h2

theorem search_whole {g : Gr} (hG : Good g) {L : List Int} (hL : Whole g L) : searchN g L.length = searchN g g.objs.length := by
  have h1 : (searchN g L.length).1.length ≤ L.length := by
    have hnd := (searchN_ok hG L.length).nd
    exact sub_length hnd (search_sub hG hL L.length)
  have h2 := (searchN_ok hG g.objs.length).le
  have e1 := searchN_stable g h1 g.objs.length
  have e2 := searchN_stable g h2 L.length
  rw [← e1, ← e2, Nat.add_comm]

theorem renL_len (g : Gr) (L : List Int) : (renL g L).objs.length = L.length := by simp [renL]

theorem order_ren {g : Gr} (hG : Good g) {L : List Int} (hL : Whole g L) : orderOf (renL g L) = (orderOf g).map (placeOf L) ∧ distOf (renL g L) = distOf g := by
  unfold orderOf distOf
  rw [renL_len, search_ren hG hL, search_whole hG hL]
  exact ⟨rfl, rfl⟩

theorem placeOf_map {L O : List Int} (hO : ∀ x ∈ O, x ∈ L) {x : Int} (hx : x ∈ O) : placeOf (O.map (placeOf L)) (placeOf L x) = placeOf O x := by
  unfold placeOf
  rw [if_pos hx, if_pos (show x ∈ L from hO x hx)]
  have hm : ((L.idxOf x : Nat) : Int) ∈ O.map (fun x => if x ∈ L then ((L.idxOf x : Nat) : Int) else 0) := List.mem_map.2 ⟨x, hx, by rw [if_pos (hO x hx)]⟩
  rw [if_pos hm]
  congr 1
  have h1 := List.idxOf_lt_length_iff.2 hx
  have h2 := List.getElem_idxOf h1
  refine idxOf_first (by simpa using h1) ?_ ?_
  · rw [List.getElem_map, h2, if_pos (hO x hx)]
  · rw [← List.map_take]
    intro h
    obtain ⟨y, hy, e⟩ := List.mem_map.1 h
    have hyO := List.mem_of_mem_take hy
    rw [if_pos (hO y hyO)] at e
    have e2 : y = x := placeOf_inj (order := L) (hO y hyO) (hO x hx) (by unfold placeOf; rw [if_pos (hO y hyO), if_pos (hO x hx)]; exact e)
    subst e2
    rw [List.mem_take_iff_getElem] at hy
    obtain ⟨j, hj, hj2⟩ := hy
    have h4 := List.not_of_lt_findIdx (p := (· == y)) (xs := O) (i := j) (show j < O.idxOf y by omega)
    simp [hj2] at h4

theorem renV_ren {L O : List Int} (hO : ∀ x ∈ O, x ∈ L) {v : V} (hv : v.1 = true → v.2 ∈ O) : renV (O.map (placeOf L)) (renV L v) = renV O v := by
  obtain ⟨r, n⟩ := v
  cases r
  · simp [renV]
  · have h := hv rfl
    simp only [renV, if_true]
    rw [placeOf_map hO h]

theorem map_renV_ren {L O : List Int} (hO : ∀ x ∈ O, x ∈ L) {l : List V} (hl : RefsOk l) (hm : ∀ x ∈ refsL l, x ∈ O) : (l.map (renV L)).map (renV (O.map (placeOf L))) = l.map (renV O) := by
  rw [List.map_map]
  refine List.map_congr_left fun v hv => ?_
  refine renV_ren hO fun h1 => hm _ ((mem_refsL hl _).2 ?_)
  obtain ⟨r, n⟩ := v
  simp only at h1
  subst h1
  exact hv

theorem canon_ren {g : Gr} (hG : Good g) {L : List Int} (hL : Whole g L) : canonG (renL g L) = canonG g := by
  have hO : ∀ x ∈ orderOf g, x ∈ L := search_sub hG hL _
  have e := (order_ren hG hL).1
  unfold canonG
  rw [e]
  simp only [Gr.mk.injEq]
  constructor
  · rw [List.map_map]
    refine List.map_congr_left fun o ho => ?_
    have hr := order_ok hG ho
    simp only [Function.comp]
    rw [fields_ren (hO o ho), map_renV_ren hO (hG.refsObjs (fieldsOf_mem hr.1 hr.2)) (order_closed hG ho)]
  · exact map_renV_ren hO hG.refsRoots (order_roots g)

theorem mem_refs_of {l : List V} {v : V} (hl : RefsOk l) (hv : v ∈ l) (h1 : v.1 = true) : v.2 ∈ refsL l := by
  refine (mem_refsL hl _).2 ?_
  obtain ⟨r, n⟩ := v
  simp only at h1
  subst h1
  exact hv

end Go.Proofs.Ytnbhciejlidnlaa

/- Walks: the document's Words, Arenas, packed. -/
namespace Go.Proofs.Ytnbhciejlidnlaa
set_option linter.unusedSimpArgs false
set_option linter.unusedVariables false
open Go.RowKit Go.Shelf

set_option maxRecDepth 100000 in
set_option maxHeartbeats 1000000 in
theorem words_eq_c (a1 a2 : Option Addr) (c1 c2 : Nat) (l1 l2 : List Int) (B : Nat) (w : World) (h1 : Wds B w a1 l1) (h2 : Wds B w a2 l2) (hB : B ≤ w.heap.size) :
    Calls Try.prog 29 #[.slice a1 l1.length c1, .slice a2 l2.length c2] w fun e w' => e = .returned (.bool (decide (l1 = l2))) ∧ Below w.heap.size w w' := by
  have hl1 := h1.1
  have hl2 := h2.1
  by_cases hl : l1.length = l2.length
  · have d1 : ((l1.length : Int) != (l2.length : Int)) = false := by simp [hl]
    have d2 : ((l2.length : Int) != (l2.length : Int)) = false := by simp
    rw [hl]
    have Hl := hide hl
    have hle : l1.length ≤ l2.length := by omega
    have hge : l2.length ≤ l1.length := by omega
    clear hl
    go_enter Try.func29, Try.ntmps29
    go_wp2
    go_loopw [5] (fun i wr => ∃ k : Nat, k ≤ l2.length ∧ i = .int .i64 k ∧ Hid (l1.take k = l2.take k) ∧ Below w.heap.size w wr) (fun i _ => l2.length - (intOf i).toNat)
    case atStart => exact ⟨0, Nat.zero_le _, rfl, by show l1.take 0 = l2.take 0; simp, Below.refl _ _⟩
    case round =>
      obtain ⟨k, hk, rfl, Heq, hb⟩ := hrel
      by_cases hlt : k < l2.length
      · have hlt1 : k < l1.length := by omega
        obtain ⟨b1, o1, rfl, hbB1, hx1⟩ := (h1.below (hb.mono hB)).at hlt1
        obtain ⟨b2, o2, rfl, hbB2, hx2⟩ := (h2.below (hb.mono hB)).at hlt
        have hltI : (k : Int) < (l2.length : Int) := by omega
        have HT1 := hide (List.take_succ_eq_append_getElem hlt1)
        have HT2 := hide (List.take_succ_eq_append_getElem hlt)
        have HN : Hid (l1 = l2 → l1[k] = l2[k]) := by intro e; subst e; rfl
        generalize l1[k] = x at *
        generalize l2[k] = y at *
        by_cases hxy : x = y
        · have d : (x != y) = false := by simpa using hxy
          have Hxy := hide hxy
          clear hxy
          go_wp2
          go_still Try.mixed
          go_wp2
          go_roundw
          case rel => exact ⟨k + 1, by omega, by go_num, by show l1.take (k + 1) = _; rw [unhide HT1, unhide HT2, unhide Heq, unhide Hxy], hb.trans (Below.refl _ _).drew⟩
          case measure => simp [intOf]; omega
        · have d : (x != y) = true := by simpa using hxy
          have Hxy := hide hxy
          clear hxy
          go_wp2
          go_still Try.mixed
          go_wp2
          go_ret
          exact ⟨ret_bool (Eq.symm (decide_eq_false (fun e => unhide Hxy (unhide HN e)))), hb.trans (Below.refl _ _).drew⟩
      · obtain rfl : k = l2.length := by omega
        have Hfin : Hid (l1 = l2) := by
          have := unhide Heq
          rw [List.take_length, List.take_of_length_le hle] at this
          exact this
        go_wp2
        go_ret
        exact ⟨ret_bool (Eq.symm (decide_eq_true (unhide Hfin))), hb⟩
  · have d1 : ((l1.length : Int) != (l2.length : Int)) = true := by simp; omega
    go_enter Try.func29, Try.ntmps29
    go_wp2
    go_ret
    exact ⟨ret_bool (Eq.symm (decide_eq_false (fun e => hl (by rw [e])))), Below.refl _ _⟩

set_option maxRecDepth 100000 in
set_option maxHeartbeats 1000000 in
theorem arenas_eq_c (aw ar bw br : Option Addr) (cw cr dw dr : Nat) (ws rs vs us : List Int) (B : Nat) (w : World) (h1 : Wds B w aw ws) (h2 : Wds B w ar rs) (h3 : Wds B w bw vs) (h4 : Wds B w br us) (hB : B ≤ w.heap.size) :
    Calls Try.prog 9 #[.agg #[.slice aw ws.length cw, .slice ar rs.length cr], .agg #[.slice bw vs.length dw, .slice br us.length dr]] w fun e w' => e = .returned (.bool (decide (ws = vs) && decide (rs = us))) ∧ Below w.heap.size w w' := by
  obtain ⟨W0, hW0⟩ : ∃ W0, (w.alloc (.cells #[.slice aw ws.length cw, .slice ar rs.length cr] 24)).alloc (.cells #[.slice bw vs.length dw, .slice br us.length dr] 24) = W0 := ⟨_, rfl⟩
  have hb0 : Below w.heap.size w W0 := by rw [← hW0]; exact ((Below.refl _ _).alloc (Nat.le_refl _) _).alloc (by simp) _
  have hs0 : w.heap.size + 1 < W0.heap.size := by rw [← hW0]; simp
  have g0 : W0.cell? ⟨w.heap.size, 0, none⟩ = some (.slice aw ws.length cw) := by rw [← hW0]; simp [go_sem]
  have g1 : W0.cell? ⟨w.heap.size, 1, none⟩ = some (.slice ar rs.length cr) := by rw [← hW0]; simp [go_sem]
  have k0 : W0.cell? ⟨w.heap.size + 1, 0, none⟩ = some (.slice bw vs.length dw) := by rw [← hW0]; simp [go_sem]
  have k1 : W0.cell? ⟨w.heap.size + 1, 1, none⟩ = some (.slice br us.length dr) := by rw [← hW0]; simp [go_sem]
  have Hc1 := hide (words_eq_c aw bw cw dw ws vs B W0 (h1.below (hb0.mono hB)) (h3.below (hb0.mono hB)) (by omega))
  go_enter Try.func9, Try.ntmps9
  go_wp2_with fail
  refine (unhide Hc1).mono ?_
  rintro e w2 ⟨he, hb2⟩
  subst he
  clear hW0 Hc1
  have hs2 := hb2.size
  have hbw2 : Below w.heap.size w w2 := hb0.trans (hb2.mono (by omega))
  replace g1 := (hb2.cell (p := ⟨w.heap.size, 1, none⟩) (by simp; omega)).trans g1
  replace k1 := (hb2.cell (p := ⟨w.heap.size + 1, 1, none⟩) hs0).trans k1
  cases hd : decide (ws = vs)
  · have Hd := hide hd
    clear hd
    go_wp2
    go_ret
    exact ⟨ret_bool (by have := unhide Hd; simp at this; simp [this]), hbw2⟩
  · have Hd := hide hd
    clear hd
    have Hc2 := hide (words_eq_c ar br cr dr rs us B w2 (h2.below (hbw2.mono hB)) (h4.below (hbw2.mono hB)) (by omega))
    go_wp2_with fail
    refine (unhide Hc2).mono ?_
    rintro e w3 ⟨he, hb3⟩
    subst he
    go_wp2
    go_ret
    exact ⟨ret_bool (by have := unhide Hd; simp at this; simp [this]), hbw2.trans (hb3.mono (by omega))⟩

theorem words_take_succ {l : List V} {st : List Int} {k : Nat} (hk : k < l.length) {x : Int} (h : packV st l[k] = x) : wordsV ((l.map (packV st)).take (k + 1)) = wordsV ((l.map (packV st)).take k) ++ [.int .u64 x] := by
  rw [List.take_succ_eq_append_getElem (by simpa using hk), List.getElem_map, h, wordsV_snoc]

set_option maxRecDepth 100000 in
set_option maxHeartbeats 2000000 in
theorem rpacked_c (a s0 : Option Addr) (cap caps : Nat) (l : List V) (st : List Int) (B : Nat) (w : World) (hV : Vals B w a l) (hS : Ints B w s0 st) (hB : B ≤ w.heap.size) (hl : l.length ≤ 1000)
    (hr : ∀ v ∈ l, v.1 = true → 0 ≤ v.2 ∧ v.2 < st.length) (hst : ∀ x ∈ st, 0 ≤ x ∧ x ≤ 9223372036854775807) (hn : ∀ v ∈ l, v.1 = false → -9223372036854775808 ≤ v.2 ∧ v.2 ≤ 9223372036854775807) (hsl : st.length ≤ 1000) :
    Calls Try.prog 46 #[.slice a l.length cap, .slice s0 st.length caps] w fun e w' => ∃ a' cap', e = .returned (.slice a' (l.map (packV st)).length cap') ∧ WdsF w.heap.size w' a' (l.map (packV st)) ∧ Below w.heap.size w w' := by
  obtain ⟨i0, hi, hz0, hz1, hz2⟩ := info_parts Try.info51
  go_enter Try.func46, Try.ntmps46
  go_wp2
  go_loopw [5, 12] (fun s i wr => ∃ k : Nat, k ≤ l.length ∧ i = .int .i64 k ∧ wr.ownsRow w.heap.size 51 1 s k (wordsV ((l.map (packV st)).take k)) ∧ Below w.heap.size w wr) (fun _ i _ => l.length - (intOf i).toNat)
  case atStart => exact ⟨0, Nat.zero_le _, rfl, by simpa [wordsV] using World.ownsRow_nil _ _ _ _, Below.refl _ _⟩
  case round =>
    obtain ⟨k, hk, rfl, hown, hb⟩ := hrel
    have hsz := hb.size
    by_cases hlt : k < l.length
    · obtain ⟨b, off, r, m, rfl, hbB, hc1, hc2, Hv⟩ := (hV.below (hb.mono hB)).at hlt
      have hmem : (r, m) ∈ l := by rw [← Hv.out]; exact List.getElem_mem hlt
      have HT := hide (fun x h => words_take_succ (st := st) hlt (x := x) h)
      rw [Hv.out] at HT
      cases r
      · have hrng := hn _ hmem rfl
        have HT2 := hide (unhide HT _ packV_num)
        clear HT Hv
        have Hc := hide (rpack_c false m (wr.alloc (.cells #[.bool false, .int .i64 m] 57)) hrng.1 hrng.2)
        go_wp2_with fail
        refine (unhide Hc).mono ?_
        rintro e w3 ⟨he, hb3⟩
        subst he
        simp only [World.size_alloc] at hb3
        have hs3 := hb3.size
        simp only [World.size_alloc] at hs3
        have hown3 := ownsRow_below (hown.alloc (.cells #[.bool false, .int .i64 m] 57)) (by simpa using hb3)
        have hbw3 : Below w.heap.size w w3 := (hb.alloc (by omega) _).trans (hb3.mono (by omega))
        clear hown Hc
        go_wp2_with (at_builtin; go_must (refine wpList_append_own _ rfl _ _ 22 rfl w.heap.size 51 i0 _ 1 8 Try.underlying22 hi hz0 hz1 hz2 rfl (by decide) _ _ _ rfl (hown3.alloc _) ⟨w3.heap.size, 0, none⟩ 1 1 [.int .u64 (packW false m)] rfl rfl (cell_one_at _ _ _ _ (by simp)) (by simp [Value.oneCell']) (by simp only [maxLen]; omega) (by omega) (by simp; omega) ?_); intro v' w1 hown' hgrow _)
        go_roundw
        case rel => exact ⟨k + 1, by omega, by go_num, by rw [unhide HT2]; exact hown', (hbw3.alloc (by omega) _).grown hgrow (by simp; omega) (fun q e => (hown3.lt q e).1)⟩
        case measure => simp [intOf]; omega
      · have hrng := hr _ hmem rfl
        obtain ⟨mn, rfl⟩ := Int.eq_ofNat_of_zero_le hrng.1
        have hmn : mn < st.length := by have := hrng.2; simp at this; omega
        have hxr := hst _ (List.getElem_mem hmn)
        obtain ⟨b2, off2, rfl, hbB2, hx⟩ := (hS.below (hb.mono hB)).at hmn
        have HT2 := hide (unhide HT (packW true st[mn]) (by simp [packV, List.getD_eq_getElem?_getD, hmn]))
        have hmnI : (mn : Int) < (st.length : Int) := by omega
        have hb2w : b2 < wr.heap.size := by omega
        clear HT Hv hrng
        generalize st[mn] = p at *
        have Hc := hide (rpack_c true p (wr.alloc (.cells #[.bool true, .int .i64 p] 57)) (by omega) (by omega))
        go_wp2_with fail
        refine (unhide Hc).mono ?_
        rintro e w3 ⟨he, hb3⟩
        subst he
        simp only [World.size_alloc] at hb3
        have hs3 := hb3.size
        simp only [World.size_alloc] at hs3
        have hown3 := ownsRow_below (hown.alloc (.cells #[.bool true, .int .i64 p] 57)) (by simpa using hb3)
        have hbw3 : Below w.heap.size w w3 := (hb.alloc (by omega) _).trans (hb3.mono (by omega))
        clear hown Hc
        go_wp2_with (at_builtin; go_must (refine wpList_append_own _ rfl _ _ 22 rfl w.heap.size 51 i0 _ 1 8 Try.underlying22 hi hz0 hz1 hz2 rfl (by decide) _ _ _ rfl (hown3.alloc _) ⟨w3.heap.size, 0, none⟩ 1 1 [.int .u64 (packW true p)] rfl rfl (cell_one_at _ _ _ _ (by simp)) (by simp [Value.oneCell']) (by simp only [maxLen]; omega) (by omega) (by simp; omega) ?_); intro v' w1 hown' hgrow _)
        go_roundw
        case rel => exact ⟨k + 1, by omega, by go_num, by rw [unhide HT2]; exact hown', (hbw3.alloc (by omega) _).grown hgrow (by simp; omega) (fun q e => (hown3.lt q e).1)⟩
        case measure => simp [intOf]; omega
    · obtain rfl : k = l.length := by omega
      rw [List.take_of_length_le (by simp)] at hown
      obtain ⟨a', cap', hv, hWF, _⟩ := wordsF_of_owns hown (by simp) (by omega)
      have HW := hide hWF
      clear hWF
      subst hv
      go_wp2
      go_ret
      exact ⟨a', cap', rfl, unhide HW, hb⟩

end Go.Proofs.Ytnbhciejlidnlaa

/- Walks: the document's Plain; headers in memory. -/
namespace Go.Proofs.Ytnbhciejlidnlaa
set_option linter.unusedSimpArgs false
set_option linter.unusedVariables false
open Go.RowKit Go.Shelf

theorem Try.info42 : (Try.prog.info? 42).map (fun i => (i.zero, i.size, i.bytes)) = some (some (.agg #[.int .i64 0, .bool false, .int .i64 0]), 3, 24) := by kernel_rfl
theorem Try.info2 : (Try.prog.info? 2).map (fun i => (i.zero, i.size, i.bytes)) = some (some (.int .i64 0), 1, 8) := by kernel_rfl

theorem cell_three_at (w : World) (x y z : Value) (t : TypeId) (m : Nat) (hm : m = w.heap.size) : ∀ j u, [x, y, z][j]? = some u → (w.alloc (.cells #[x, y, z] t)).cell? ((⟨m, 0, none⟩ : Addr).add j) = some u := by
  subst hm
  intro j u h
  have hadd : (⟨w.heap.size, 0, none⟩ : Addr).add j = ⟨w.heap.size, j, none⟩ := by unfold Addr.add; split <;> simp_all
  rw [hadd]
  match j, h with
  | 0, h => simp at h; subst h; simp [go_sem]
  | 1, h => simp at h; subst h; simp [go_sem]
  | 2, h => simp at h; subst h; simp [go_sem]
  | j + 3, h => simp at h

/-- A header: how many fields, its mark, its age. -/
abbrev Hd := Int × Bool × Int
def hW (h : Hd) : Int := headW h.1 h.2.1 h.2.2
def cellsH (l : List Hd) : List Value := l.flatMap fun h => [.int .i64 h.1, .bool h.2.1, .int .i64 h.2.2]
theorem cellsH_snoc (l : List Hd) (h : Hd) : cellsH (l ++ [h]) = cellsH l ++ [.int .i64 h.1, .bool h.2.1, .int .i64 h.2.2] := by simp [cellsH]

theorem cellsH_get : ∀ (l : List Hd) (k : Nat) (h : Hd), l[k]? = some h → (cellsH l)[k * 3]? = some (.int .i64 h.1) ∧ (cellsH l)[k * 3 + 1]? = some (.bool h.2.1) ∧ (cellsH l)[k * 3 + 2]? = some (.int .i64 h.2.2)
  | [], _, _, h => by simp at h
  | x :: l, 0, v, h => by simp at h; subst h; simp [cellsH]
  | x :: l, k + 1, v, h => by
    have := cellsH_get l k v (by simpa using h)
    have e1 : (k + 1) * 3 = k * 3 + 1 + 1 + 1 := by omega
    rw [e1]
    simp only [cellsH, List.flatMap_cons, List.cons_append, List.nil_append, List.getElem?_cons_succ]
    exact this

/-- A slice of headers, below block B. -/
def Hdrs (B : Nat) (w : World) (a : Option Addr) (l : List Hd) : Prop :=
  l.length ≤ 9223372036854775807 ∧ (l ≠ [] → ∃ b off, a = some ⟨b, off, none⟩ ∧ b < B ∧ ∀ k h, l[k]? = some h → w.cell? ⟨b, off + k * 3, none⟩ = some (.int .i64 h.1) ∧ w.cell? ⟨b, off + k * 3 + 1, none⟩ = some (.bool h.2.1) ∧ w.cell? ⟨b, off + k * 3 + 2, none⟩ = some (.int .i64 h.2.2))

theorem Hdrs.below {B : Nat} {w w' : World} {a : Option Addr} {l : List Hd} (h : Hdrs B w a l) (hb : Below B w w') : Hdrs B w' a l := by
  refine ⟨h.1, fun hne => ?_⟩
  obtain ⟨b, off, rfl, hB, hc⟩ := h.2 hne
  refine ⟨b, off, rfl, hB, fun k v hk => ?_⟩
  rw [hb.cell (p := ⟨b, off + k * 3, none⟩) hB, hb.cell (p := ⟨b, off + k * 3 + 1, none⟩) hB, hb.cell (p := ⟨b, off + k * 3 + 2, none⟩) hB]
  exact hc k v hk

theorem Hdrs.mono {B B' : Nat} {w : World} {a : Option Addr} {l : List Hd} (h : Hdrs B w a l) (hb : B ≤ B') : Hdrs B' w a l := by
  refine ⟨h.1, fun hne => ?_⟩
  obtain ⟨b, off, rfl, hB, hc⟩ := h.2 hne
  exact ⟨b, off, rfl, by omega, hc⟩

theorem Hdrs.at {B : Nat} {w : World} {a : Option Addr} {l : List Hd} (h : Hdrs B w a l) {k : Nat} (hk : k < l.length) :
    ∃ b off n m e, a = some ⟨b, off, none⟩ ∧ b < B ∧ w.cell? ⟨b, off + k * 3, none⟩ = some (.int .i64 n) ∧ w.cell? ⟨b, off + k * 3 + 1, none⟩ = some (.bool m) ∧ w.cell? ⟨b, off + k * 3 + 2, none⟩ = some (.int .i64 e) ∧ Hid (l[k] = (n, m, e)) := by
  obtain ⟨b, off, rfl, hB, hc⟩ := h.2 (by intro e; subst e; simp at hk)
  obtain ⟨h1, h2, h3⟩ := hc k l[k] (by simp [hk])
  exact ⟨b, off, l[k].1, l[k].2.1, l[k].2.2, rfl, hB, h1, h2, h3, rfl⟩

theorem hdrs_of_owns {w : World} {base : Nat} {e : TypeId} {v : Value} {n : Nat} {l : List Hd} (h : w.ownsRow base e 3 v n (cellsH l)) (hn : n = l.length) (hs : n ≤ 9223372036854775807) :
    ∃ a cap, v = .slice a l.length cap ∧ Hdrs w.heap.size w a l := by
  obtain ⟨_, h2⟩ := h
  rcases h2 with ⟨rfl, h0⟩ | ⟨g, cap, cur, rfl, hb, hg, hc1, hc2, hc3, htake⟩
  · refine ⟨none, 0, by rw [← hn, h0], ⟨by omega, fun hne => ?_⟩⟩
    have : l = [] := List.eq_nil_of_length_eq_zero (by omega)
    exact absurd this hne
  · refine ⟨_, cap, by rw [hn], ⟨by omega, fun _ => ⟨g, 0, rfl, (Array.getElem?_eq_some_iff.1 hg).1, fun k v hk => ?_⟩⟩⟩
    obtain ⟨h1, h2, h3⟩ := cellsH_get l k v hk
    rw [← htake] at h1 h2 h3
    rw [List.getElem?_take] at h1 h2 h3
    have hcell : ∀ j u, (if j < n * 3 then cur.toList[j]? else none) = some u → w.cell? ⟨g, 0 + j, none⟩ = some u := by
      intro j u hj
      split at hj
      · rw [Nat.zero_add, cell_of_row w g j cur e (0, 0) hg]; simpa using hj
      · cases hj
    exact ⟨hcell _ _ h1, by have := hcell _ _ h2; simpa [Nat.add_assoc] using this, by have := hcell _ _ h3; simpa [Nat.add_assoc] using this⟩

/-- Headers of objects, not marked, of age 0. -/
def plainH (L : List (List V)) : List Hd := L.map fun o => ((o.length : Int), false, 0)
theorem plainH_len (L : List (List V)) : (plainH L).length = L.length := by simp [plainH]
theorem plainH_succ {L : List (List V)} {k : Nat} (h : k < L.length) : cellsH (plainH (L.take (k + 1))) = cellsH (plainH (L.take k)) ++ [.int .i64 (L[k].length : Int), .bool false, .int .i64 0] := by
  rw [List.take_succ_eq_append_getElem h]; simp only [plainH, List.map_append, List.map_cons, List.map_nil, cellsH_snoc]

end Go.Proofs.Ytnbhciejlidnlaa
