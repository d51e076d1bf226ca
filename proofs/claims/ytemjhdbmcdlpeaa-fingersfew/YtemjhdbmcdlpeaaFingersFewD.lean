/- Merged texts: Qa Qb Qc Qd Qe Qf Qg Qh Sf Fa Fb Fc Pe Ta Qi Ka Kb. -/
import Derived.Test.YtemjhdbmcdlpeaaProg
import Derived.Test.YtemjhdbmcdlpeaaFingersFewC
import Derived.StillTailTactics

/- Plain: the words that the mover lays. -/
namespace Go.Proofs.Ytemjhdbmcdlpeaa
set_option linter.unusedSimpArgs false
set_option linter.unusedVariables false
open Go.RowKit

/-- A header's word, without a mark, one older. -/
def ageW (x : Int) : Int := headW (uhL x) false (min (uhA x + 1) 7)

theorem ageE (x : Int) : headE (uhL x) (min (uhA x + 1) 7) = 0 := by
  have h : headOk (uhL x) (min (uhA x + 1) 7) = true := by
    unfold headOk uhL uhA
    split
    · rename_i h
      simp [unheadOk] at h
      simp
      omega
    · simp; omega
  simp [headE, h]

theorem ageW_ok (x : Int) : unheadOk (ageW x) = true ∧ uhL (ageW x) = uhL x ∧ uhM (ageW x) = false ∧ uhA (ageW x) = min (uhA x + 1) 7 ∧ 0 ≤ ageW x ∧ ageW x < 18446744073709551616 := by
  obtain ⟨h1, h2, h3, h4, h5, h6⟩ := un_head (uhL x) (min (uhA x + 1) 7) false (ageE x)
  exact ⟨uh_of_zero h6, h3, h4, h5, h1, h2⟩

theorem ageW_wlen {x : Int} (h : unheadOk x = true) : wlen (ageW x) = wlen x := by
  have h1 := ageW_ok x
  have h2 := uhL_wlen h1.1
  have h3 := uhL_wlen h
  have := h1.2.1
  omega

/-- The fields of an object by its number. -/
def fO (fs : List (List Int)) (o : Int) : List Int := fs.getD o.toNat []
def hO (hs : List Int) (o : Int) : Int := ageW (hs.getD o.toNat 0)

/-- Some numbers of objects, each once. -/
structure OOk (fs : List (List Int)) (O : List Int) : Prop where
  nd : O.Nodup
  rng : ∀ o ∈ O, 0 ≤ o ∧ o < fs.length

theorem sum_sub {α : Type} [BEq α] [LawfulBEq α] (f : α → Nat) : ∀ (l m : List α), l.Nodup → (∀ x ∈ l, x ∈ m) → (l.map f).sum ≤ (m.map f).sum
  | [], m, _, _ => by simp
  | x :: l, m, hn, h => by
    rw [List.nodup_cons] at hn
    have hx := h x (by simp)
    have hp := ((List.perm_cons_erase hx).map f).sum_nat
    have ih := sum_sub f l (m.erase x) hn.2 (fun y hy => by
      have : y ≠ x := fun e => hn.1 (e ▸ hy)
      exact (List.mem_erase_of_ne this).2 (h y (by simp [hy])))
    simp only [List.map_cons, List.sum_cons] at hp ⊢
    omega

theorem range_objs (fs : List (List Int)) : ((List.range fs.length).map fun i => (fs.getD i []).length + 1) = fs.map fun f => f.length + 1 := by
  apply List.ext_getElem?
  intro k
  by_cases h : k < fs.length
  · simp [h, List.getD_eq_getElem?_getD]
  · simp [List.getElem?_eq_none (show fs.length ≤ k by omega), h]

theorem OOk.tot_le {fs : List (List Int)} {O : List Int} (h : OOk fs O) : tot (O.map (fO fs)) ≤ tot fs := by
  have h1 := sum_sub (fun o : Int => (fO fs o).length + 1) O ((List.range fs.length).map Int.ofNat) h.nd (fun o ho => by
    have := h.rng o ho
    exact List.mem_map.2 ⟨o.toNat, List.mem_range.2 (by omega), by show ((o.toNat : Nat) : Int) = o; omega⟩)
  have h2 : tot (O.map (fO fs)) = (O.map fun o => (fO fs o).length + 1).sum := by unfold tot; rw [List.map_map]; rfl
  have h3 : (((List.range fs.length).map Int.ofNat).map fun o => (fO fs o).length + 1).sum = tot fs := by
    unfold tot
    rw [← range_objs, List.map_map]
    rfl
  omega

theorem OOk.len {fs : List (List Int)} {O : List Int} (h : OOk fs O) : O.length ≤ tot fs := by
  have := h.tot_le
  have := tot_len (O.map (fO fs))
  simp at this
  omega

theorem OOk.nil (fs : List (List Int)) : OOk fs [] := ⟨by simp, by simp⟩
theorem OOk.snoc {fs : List (List Int)} {O : List Int} (h : OOk fs O) {j : Nat} (hj : j < fs.length) (hn : (j : Int) ∉ O) : OOk fs (O ++ [(j : Int)]) := by
  refine ⟨?_, fun o ho => ?_⟩
  · rw [List.nodup_append]; exact ⟨h.nd, by simp, by intro a ha b hb; simp at hb; subst hb; exact fun e => hn (e ▸ ha)⟩
  · rcases List.mem_append.1 ho with ho | ho
    · exact h.rng o ho
    · simp at ho; subst ho; omega

/-- The word that stands for an old one. -/
def twW (fs : List (List Int)) (O : List Int) (x : Int) : Int := packV (stF 0 (O.map (fO fs))) (renV O (valW (stF 0 fs) x))

theorem map_prefix {α β : Type} {f : α → β} {l m : List α} (h : l <+: m) : l.map f <+: m.map f := by
  obtain ⟨t, rfl⟩ := h
  rw [List.map_append]
  exact List.prefix_append _ _

theorem prefix_take {α : Type} {l m : List α} (h : l <+: m) {k : Nat} (hk : k ≤ l.length) : m.take k = l.take k := by
  obtain ⟨t, rfl⟩ := h
  rw [List.take_append_of_le_length hk]

theorem twW_ref {fs : List (List Int)} {O : List Int} {x : Int} {j : Nat} (hv : valW (stF 0 fs) x = (true, (j : Int))) (hj : (j : Int) ∈ O) :
    twW fs O x = packW true ((tot ((O.map (fO fs)).take (O.idxOf (j : Int))) : Nat) : Int) := by
  have hi := List.idxOf_lt_length_iff.2 hj
  have hg := stF_get (O.map (fO fs)) 0 (O.idxOf (j : Int)) (by simpa using hi)
  have e : renV O (valW (stF 0 fs) x) = (true, ((O.idxOf (j : Int) : Nat) : Int)) := by rw [hv]; simp [renV, placeOf, hj]
  unfold twW
  rw [e]
  simp only [packV, if_true, Int.toNat_natCast]
  rw [List.getD_eq_getElem?_getD, hg, Option.getD_some, Nat.zero_add]

theorem twW_num {fs : List (List Int)} {O : List Int} {x : Int} (h : unRef x = false) (h1 : 0 ≤ x) (h2 : x < 18446744073709551616) (he : unErr x = 0) : twW fs O x = x := by
  obtain ⟨p1, p2⟩ := pack_un x h1 h2 he
  unfold twW
  rw [valW_num h]
  simp only [renV, Bool.false_eq_true, if_false]
  rw [packV_num]
  rw [h] at p2
  exact p2

theorem twW_prefix {fs : List (List Int)} {O O' : List Int} (h : O <+: O') {x : Int} (hx : (valW (stF 0 fs) x).1 = true → (valW (stF 0 fs) x).2 ∈ O) : twW fs O' x = twW fs O x := by
  unfold twW
  rw [renV_prefix h hx]
  cases hv : (valW (stF 0 fs) x).1
  · have e : renV O (valW (stF 0 fs) x) = (false, (valW (stF 0 fs) x).2) := by
      rw [show valW (stF 0 fs) x = (false, (valW (stF 0 fs) x).2) from Prod.ext hv rfl]; simp [renV]
    rw [e, packV_num, packV_num]
  · have hm := hx hv
    have e : renV O (valW (stF 0 fs) x) = (true, ((O.idxOf (valW (stF 0 fs) x).2 : Nat) : Int)) := by
      rw [renV, if_pos hv, placeOf, if_pos hm]
    have hi := List.idxOf_lt_length_iff.2 hm
    have hl : O.length ≤ O'.length := h.length_le
    have hg := stF_get (O.map (fO fs)) 0 (O.idxOf (valW (stF 0 fs) x).2) (by simpa using hi)
    have hg' := stF_get (O'.map (fO fs)) 0 (O.idxOf (valW (stF 0 fs) x).2) (by simp; omega)
    rw [prefix_take (map_prefix (f := fO fs) h) (by simp; omega)] at hg'
    rw [e]
    simp only [packV, if_true, Int.toNat_natCast]
    rw [List.getD_eq_getElem?_getD, List.getD_eq_getElem?_getD, hg, hg']

/-- The words of objects: which are headers. -/
def oE (hs : List Int) (fs : List (List Int)) (o : Int) : List (Bool × Int) := (true, hO hs o) :: (fO fs o).map (Prod.mk false)
def uE (hs : List Int) (fs : List (List Int)) (O : List Int) : List (Bool × Int) := O.flatMap (oE hs fs)

theorem oE_len (hs : List Int) (fs : List (List Int)) (o : Int) : (oE hs fs o).length = (fO fs o).length + 1 := by simp [oE]
theorem uE_snoc (hs : List Int) (fs : List (List Int)) (O : List Int) (o : Int) : uE hs fs (O ++ [o]) = uE hs fs O ++ oE hs fs o := by simp [uE]
theorem uE_len (hs : List Int) (fs : List (List Int)) : ∀ (O : List Int), (uE hs fs O).length = tot (O.map (fO fs))
  | [] => rfl
  | o :: O => by
    have ih := uE_len hs fs O
    simp only [uE, List.flatMap_cons, List.length_append, List.map_cons, tot_cons, oE_len] at *
    omega

theorem uE_append (hs : List Int) (fs : List (List Int)) (O O' : List Int) : uE hs fs (O ++ O') = uE hs fs O ++ uE hs fs O' := by simp [uE]

theorem uE_split {hs : List Int} {fs : List (List Int)} {O : List Int} {k : Nat} (hk : k < O.length) : uE hs fs O = uE hs fs (O.take k) ++ (oE hs fs O[k] ++ uE hs fs (O.drop (k + 1))) := by
  conv => lhs; rw [← List.take_append_drop k O, List.drop_eq_getElem_cons hk]
  rw [uE_append]
  rfl

theorem uE_at {hs : List Int} {fs : List (List Int)} {O : List Int} {k : Nat} (hk : k < O.length) {i : Nat} {e : Bool × Int} (he : (oE hs fs O[k])[i]? = some e) : (uE hs fs O)[tot ((O.map (fO fs)).take k) + i]? = some e := by
  have hl : (uE hs fs (O.take k)).length = tot ((O.map (fO fs)).take k) := by rw [uE_len, List.map_take]
  rw [uE_split hk, ← hl, List.getElem?_append_right (by omega), Nat.add_sub_cancel_left, List.getElem?_append_left (List.getElem?_eq_some_iff.1 he).1]
  exact he

theorem uE_head {hs : List Int} {fs : List (List Int)} {O : List Int} {k : Nat} (hk : k < O.length) : (uE hs fs O)[tot ((O.map (fO fs)).take k)]? = some (true, hO hs O[k]) :=
  uE_at hk (i := 0) (by simp [oE])
theorem uE_field {hs : List Int} {fs : List (List Int)} {O : List Int} {k d : Nat} {x : Int} (hk : k < O.length) (hx : (fO fs O[k])[d]? = some x) : (uE hs fs O)[tot ((O.map (fO fs)).take k) + 1 + d]? = some (false, x) := by
  rw [Nat.add_assoc]
  exact uE_at hk (i := 1 + d) (by rw [Nat.add_comm 1 d]; simp [oE, hx])

def twE (fs : List (List Int)) (O : List Int) (e : Bool × Int) : Int := if e.1 then e.2 else twW fs O e.2

/-- What was laid, the first t words of it turned. -/
def madeW (hs : List Int) (fs : List (List Int)) (O : List Int) (t : Nat) : List Int := ((uE hs fs O).take t).map (twE fs O) ++ ((uE hs fs O).drop t).map Prod.snd

theorem madeW_len (hs : List Int) (fs : List (List Int)) (O : List Int) (t : Nat) : (madeW hs fs O t).length = tot (O.map (fO fs)) := by
  have := uE_len hs fs O
  simp only [madeW, List.length_append, List.length_map, List.length_take, List.length_drop]
  omega

theorem madeW_nil (hs : List Int) (fs : List (List Int)) (t : Nat) : madeW hs fs [] t = [] := by simp [madeW, uE]

/-- Of all that was turned the objects were laid. -/
def Done (hs : List Int) (fs : List (List Int)) (O : List Int) (t : Nat) : Prop :=
  ∀ x, (false, x) ∈ (uE hs fs O).take t → (valW (stF 0 fs) x).1 = true → (valW (stF 0 fs) x).2 ∈ O

theorem done_zero (hs : List Int) (fs : List (List Int)) (O : List Int) : Done hs fs O 0 := by intro x hx; simp at hx

theorem Done.snoc {hs : List Int} {fs : List (List Int)} {O : List Int} {t : Nat} (h : Done hs fs O t) (ht : t ≤ tot (O.map (fO fs))) (o : Int) : Done hs fs (O ++ [o]) t := by
  intro x hx hv
  rw [uE_snoc, List.take_append_of_le_length (by rw [uE_len]; exact ht)] at hx
  exact List.mem_append.2 (.inl (h x hx hv))

theorem Done.ins {hs : List Int} {fs : List (List Int)} {O : List Int} {t : Nat} (h : Done hs fs O t) (ht : t ≤ tot (O.map (fO fs))) (v : V) : Done hs fs (ins O v) t := by
  unfold Ytemjhdbmcdlpeaa.ins
  split
  · split
    · exact h
    · exact h.snoc ht _
  · exact h

theorem Done.head {hs : List Int} {fs : List (List Int)} {O : List Int} {t : Nat} (h : Done hs fs O t) {y : Int} (hy : (uE hs fs O)[t]? = some (true, y)) : Done hs fs O (t + 1) := by
  intro x hx hv
  rw [List.take_add_one, hy] at hx
  simp at hx
  exact h x hx hv

theorem Done.step {hs : List Int} {fs : List (List Int)} {O : List Int} {t : Nat} (h : Done hs fs O t) {y : Int} (hy : (uE hs fs O)[t]? = some (false, y)) (hm : (valW (stF 0 fs) y).1 = true → (valW (stF 0 fs) y).2 ∈ O) : Done hs fs O (t + 1) := by
  intro x hx hv
  rw [List.take_add_one, hy] at hx
  simp at hx
  rcases hx with hx | rfl
  · exact h x hx hv
  · exact hm hv

theorem madeW_snoc {hs : List Int} {fs : List (List Int)} {O : List Int} {t : Nat} (h : Done hs fs O t) (ht : t ≤ tot (O.map (fO fs))) (o : Int) : madeW hs fs (O ++ [o]) t = madeW hs fs O t ++ (hO hs o :: fO fs o) := by
  have hl := uE_len hs fs O
  unfold madeW
  rw [uE_snoc, List.take_append_of_le_length (by omega), List.drop_append_of_le_length (by omega), List.map_append, List.append_assoc]
  congr 1
  · apply List.map_congr_left
    rintro ⟨b, x⟩ he
    cases b
    · simp only [twE, Bool.false_eq_true, if_false]
      exact twW_prefix (List.prefix_append _ _) (h x he)
    · simp [twE]
  · congr 1
    simp [oE, List.map_map, Function.comp_def]

theorem madeW_get {hs : List Int} {fs : List (List Int)} {O : List Int} {t : Nat} {e : Bool × Int} (he : (uE hs fs O)[t]? = some e) : (madeW hs fs O t)[t]? = some e.2 := by
  have hlt := (List.getElem?_eq_some_iff.1 he).1
  unfold madeW
  rw [List.getElem?_append_right (by simp; omega)]
  simp only [List.length_map, List.length_take, Nat.min_eq_left (Nat.le_of_lt hlt), Nat.sub_self, List.getElem?_map, List.getElem?_drop, Nat.add_zero, he, Option.map_some]

theorem madeW_succ {hs : List Int} {fs : List (List Int)} {O : List Int} {t : Nat} {e : Bool × Int} (he : (uE hs fs O)[t]? = some e) : (madeW hs fs O t).set t (twE fs O e) = madeW hs fs O (t + 1) := by
  have hlt := (List.getElem?_eq_some_iff.1 he).1
  have hd : (uE hs fs O).drop t = e :: (uE hs fs O).drop (t + 1) := by
    rw [List.drop_eq_getElem_cons hlt, (List.getElem?_eq_some_iff.1 he).2]
  unfold madeW
  rw [List.take_add_one, he, hd, List.set_append_right _ _ (by simp; omega)]
  rw [List.length_map, List.length_take, Nat.min_eq_left (Nat.le_of_lt hlt), Nat.sub_self]
  simp

theorem madeW_head {hs : List Int} {fs : List (List Int)} {O : List Int} {t : Nat} {y : Int} (he : (uE hs fs O)[t]? = some (true, y)) : madeW hs fs O t = madeW hs fs O (t + 1) := by
  rw [← madeW_succ he]
  have h1 := madeW_get he
  apply List.ext_getElem?
  intro k
  rw [List.getElem?_set]
  split
  · rename_i e
    subst e
    rw [if_pos (List.getElem?_eq_some_iff.1 h1).1, h1]
    simp [twE]
  · rfl

theorem madeW_field {hs : List Int} {fs : List (List Int)} {O : List Int} {t : Nat} {x : Int} (he : (uE hs fs O)[t]? = some (false, x)) : (madeW hs fs O t).set t (twW fs O x) = madeW hs fs O (t + 1) := madeW_succ he

theorem uE_join (hs : List Int) (fs : List (List Int)) (O : List Int) : ∀ (L : List Int), (uE hs fs L).map (twE fs O) = joinW (L.map (hO hs)) (L.map fun o => (fO fs o).map (twW fs O))
  | [] => rfl
  | o :: L => by
    have ih := uE_join hs fs O L
    simp only [uE, List.flatMap_cons, List.map_append, List.map_cons, joinW] at *
    rw [ih]
    simp [oE, twE, List.map_map, Function.comp_def]

theorem madeW_all {hs : List Int} {fs : List (List Int)} {O : List Int} {t : Nat} (ht : tot (O.map (fO fs)) ≤ t) : madeW hs fs O t = joinW (O.map (hO hs)) (O.map fun o => (fO fs o).map (twW fs O)) := by
  have hl := uE_len hs fs O
  unfold madeW
  rw [List.take_of_length_le (by omega), List.drop_of_length_le (by omega), List.map_nil, List.append_nil]
  exact uE_join hs fs O O

end Go.Proofs.Ytemjhdbmcdlpeaa

/- What a mover holds, in memory. -/
namespace Go.Proofs.Ytemjhdbmcdlpeaa
set_option linter.unusedSimpArgs false
set_option linter.unusedVariables false
open Go.RowKit Go.Shelf

/-- The three cells of a mover. -/
structure VBox (W : World) (vb : Nat) (vo vm : Value) (mb : Nat) : Prop where
  c0 : W.cell? ⟨vb, 0, none⟩ = some vo
  c1 : W.cell? ⟨vb, 1, none⟩ = some vm
  c2 : W.cell? ⟨vb, 2, none⟩ = some (.map (some mb))
  fr : ∀ j, W.frozen? ⟨vb, j, none⟩ = false

theorem VBox.kept {W W' : World} {vb mb : Nat} {vo vm : Value} (h : VBox W vb vo vm mb) (hb : W'.heap[vb]? = W.heap[vb]?) : VBox W' vb vo vm mb :=
  ⟨(World.cell?_of_block (a := ⟨vb, 0, none⟩) hb).trans h.c0, (World.cell?_of_block (a := ⟨vb, 1, none⟩) hb).trans h.c1, (World.cell?_of_block (a := ⟨vb, 2, none⟩) hb).trans h.c2,
    fun j => (World.frozen?_of_block (a := ⟨vb, j, none⟩) hb).trans (h.fr j)⟩

theorem VBox.lt {W : World} {vb mb : Nat} {vo vm : Value} (h : VBox W vb vo vm mb) : vb < W.heap.size := World.block_lt_of_cell? W _ h.c0

theorem VBox.set1 {W : World} {vb mb : Nat} {vo vm : Value} (h : VBox W vb vo vm mb) (v : Value) : VBox (W.setCell ⟨vb, 1, none⟩ v) vb vo v mb := by
  refine ⟨?_, World.cell?_setCell_same' _ _ _ (by rw [h.c1]; rfl), ?_, fun j => by rw [World.frozen?_setCell]; exact h.fr j⟩
  · rw [World.cell?_setCell_other _ _ _ _ (by simp)]; exact h.c0
  · rw [World.cell?_setCell_other _ _ _ _ (by simp)]; exact h.c2

/-- A mover: what it reads, what it laid, where objects are now. -/
structure Mv (W : World) (N vb mb : Nat) (vo vm : Value) (L : List Int) (n : Nat) (M : DataW Unit) : Prop where
  box : VBox W vb vo vm mb
  lo : N ≤ vb
  lm : N ≤ mb
  mo : W.ownsRow N 56 1 vm L.length (wordsV L)
  map : W.ownsMap Try.prog 3 (plainElem Try.prog 3) mb n M
  bm : vb ≠ mb
  am : vm.ownBlock ≠ some vb
  mm : vm.ownBlock ≠ some mb

theorem Mv.below {W W' : World} {N vb mb : Nat} {vo vm : Value} {L : List Int} {n : Nat} {M : DataW Unit} (h : Mv W N vb mb vo vm L n M) (hb : Below W.heap.size W W') : Mv W' N vb mb vo vm L n M :=
  ⟨h.box.kept (hb.block _ h.box.lt), h.lo, h.lm, ownsRow_below h.mo hb, h.map.kept (grown_none hb) (by simp), h.bm, h.am, h.mm⟩

theorem Mv.alloc {W : World} {N vb mb : Nat} {vo vm : Value} {L : List Int} {n : Nat} {M : DataW Unit} (h : Mv W N vb mb vo vm L n M) (o : Obj) : Mv (W.alloc o) N vb mb vo vm L n M :=
  h.below ((Below.refl _ _).alloc (Nat.le_refl _) _)

/-- Behind a store of a place. -/
theorem Mv.setM {W W' : World} {N vb mb : Nat} {vo vm : Value} {L : List Int} {n n' : Nat} {M M' : DataW Unit} (h : Mv W N vb mb vo vm L n M) (hg : W.grownBy W' (some mb)) (hm : W'.ownsMap Try.prog 3 (plainElem Try.prog 3) mb n' M') : Mv W' N vb mb vo vm L n' M' :=
  ⟨h.box.kept (hg.block _ h.box.lt (fun e => h.bm (by injection e))), h.lo, h.lm, h.mo.kept hg (or_ne h.mm), hm, h.bm, h.am, h.mm⟩

/-- Behind a store into a block of another kind. -/
theorem Mv.setO {W : World} {N vb mb b : Nat} {vo vm : Value} {L : List Int} {n : Nat} {M : DataW Unit} (h : Mv W N vb mb vo vm L n M) (h1 : b ≠ vb) (h2 : b ≠ mb) (h3 : vm.ownBlock ≠ some b) (j : Nat) (u : Value) : Mv (W.setCell ⟨b, j, none⟩ u) N vb mb vo vm L n M := by
  have hg := grown_set W b j u
  exact ⟨h.box.kept (hg.block _ h.box.lt (fun e => h1 (by injection e with e; exact e.symm))), h.lo, h.lm, h.mo.kept hg (or_ne h3), h.map.kept hg (fun e => h2 (by injection e with e; exact e.symm)), h.bm, h.am, h.mm⟩

/-- Behind a store of a word. -/
theorem Mv.setW {W : World} {N vb mb g cap m : Nat} {vo : Value} {L : List Int} {n : Nat} {M : DataW Unit} (h : Mv W N vb mb vo (.slice (some ⟨g, 0, none⟩) m cap) L n M) (hm : m = L.length) (j : Nat) (y : Int) :
    Mv (W.setCell ⟨g, j, none⟩ (.int .u64 y)) N vb mb vo (.slice (some ⟨g, 0, none⟩) m cap) (L.set j y) n M := by
  subst hm
  have hg := grown_set W g j (.int .u64 y)
  have e : wordsV (L.set j y) = (wordsV L).set j (.int .u64 y) := by simp [wordsV, List.map_set]
  refine ⟨h.box.kept (hg.block _ h.box.lt (fun e => h.am e.symm)), h.lo, h.lm, ?_, h.map.kept hg (fun e => h.mm e.symm), h.bm, h.am, h.mm⟩
  rw [e, List.length_set]
  exact (h.mo.stored j (.int .u64 y)).1

theorem Mv.wcell {W : World} {N vb mb g cap m : Nat} {vo : Value} {L : List Int} {n : Nat} {M : DataW Unit} (h : Mv W N vb mb vo (.slice (some ⟨g, 0, none⟩) m cap) L n M) (hm : m = L.length) {j : Nat} {x : Int} (hx : L[j]? = some x) :
    W.cell? ⟨g, j, none⟩ = some (.int .u64 x) ∧ W.frozen? ⟨g, j, none⟩ = false := by
  subst hm
  have hlt := (List.getElem?_eq_some_iff.1 hx).1
  refine ⟨?_, h.mo.frozenAt j⟩
  rw [h.mo.cellAt j (by omega)]
  simp [wordsV, hx]

/-- All other blocks are as they were. -/
def Kp (W W' : World) (vb mb : Nat) (vm vm' : Value) : Prop :=
  W.heap.size ≤ W'.heap.size ∧ ∀ k, k < W.heap.size → k ≠ vb → k ≠ mb → vm.ownBlock ≠ some k → W'.heap[k]? = W.heap[k]? ∧ vm'.ownBlock ≠ some k

theorem Kp.refl (W : World) (vb mb : Nat) (vm : Value) : Kp W W vb mb vm vm := ⟨Nat.le_refl _, fun k _ _ _ h => ⟨rfl, h⟩⟩
theorem Kp.trans {W W' W'' : World} {vb mb : Nat} {vm vm' vm'' : Value} (h : Kp W W' vb mb vm vm') (h' : Kp W' W'' vb mb vm' vm'') : Kp W W'' vb mb vm vm'' :=
  ⟨by have := h.1; have := h'.1; omega, fun k h1 h2 h3 h4 => by
    have a := h.2 k h1 h2 h3 h4
    have b := h'.2 k (by have := h.1; omega) h2 h3 a.2
    exact ⟨b.1.trans a.1, b.2⟩⟩
theorem Kp.below {W W' W'' : World} {vb mb : Nat} {vm vm' : Value} (h : Kp W W' vb mb vm vm') (hb : Below W'.heap.size W' W'') : Kp W W'' vb mb vm vm' :=
  h.trans ⟨hb.size, fun k h1 _ _ h4 => ⟨hb.block k h1, h4⟩⟩
theorem Kp.alloc {W W' : World} {vb mb : Nat} {vm vm' : Value} (h : Kp W W' vb mb vm vm') (o : Obj) : Kp W (W'.alloc o) vb mb vm vm' := h.below ((Below.refl _ _).alloc (Nat.le_refl _) _)
theorem Kp.map {W W' W'' : World} {vb mb : Nat} {vm vm' : Value} (h : Kp W W' vb mb vm vm') (hg : W'.grownBy W'' (some mb)) : Kp W W'' vb mb vm vm' :=
  h.trans ⟨hg.size, fun k h1 _ h3 h4 => ⟨hg.block k h1 (fun e => h3 (by injection e)), h4⟩⟩
theorem Kp.set {W W' : World} {vb mb b : Nat} {vm vm' : Value} (h : Kp W W' vb mb vm vm') (hb : W.heap.size ≤ b) (j : Nat) (u : Value) : Kp W (W'.setCell ⟨b, j, none⟩ u) vb mb vm vm' :=
  ⟨by have := h.1; simp [World.setCell]; omega, fun k h1 h2 h3 h4 => ⟨(Below.heap_setCell W' ⟨b, j, none⟩ u k (by show k ≠ b; omega)).trans (h.2 k h1 h2 h3 h4).1, (h.2 k h1 h2 h3 h4).2⟩⟩
theorem Kp.word {W W' : World} {vb mb g m cap : Nat} {vm : Value} (h : Kp W W' vb mb vm (.slice (some ⟨g, 0, none⟩) m cap)) (j : Nat) (u : Value) : Kp W (W'.setCell ⟨g, j, none⟩ u) vb mb vm (.slice (some ⟨g, 0, none⟩) m cap) :=
  h.trans ⟨by simp [World.setCell], fun k h1 h2 h3 h4 => ⟨Below.heap_setCell W' ⟨g, j, none⟩ u k (fun e => h4 (by simp at e; simp [Value.ownBlock, e])), h4⟩⟩

/-- Some words more: behind the append and the store. -/
theorem Mv.push {W w1 : World} {N vb mb : Nat} {vo vm v' : Value} {L l : List Int} {n : Nat} {M : DataW Unit} (h : Mv W N vb mb vo vm L n M) (hrow : w1.ownsRow N 56 1 v' (L.length + l.length) (wordsV L ++ wordsV l)) (hg : W.grownBy w1 vm.ownBlock)
    (hat : v'.ownBlock = vm.ownBlock ∨ v'.ownBlock = some W.heap.size) : VBox w1 vb vo vm mb ∧ Mv (w1.setCell ⟨vb, 1, none⟩ v') N vb mb vo v' (L ++ l) n M ∧ Kp W (w1.setCell ⟨vb, 1, none⟩ v') vb mb vm v' := by
  have hbox : VBox w1 vb vo vm mb := h.box.kept (hg.block _ h.box.lt (fun e => h.am e.symm))
  have hg2 := grown_set w1 vb 1 v'
  have hml := h.map.lt
  have ne : ∀ {k : Nat}, k < W.heap.size → vm.ownBlock ≠ some k → v'.ownBlock ≠ some k := by
    intro k hk h2 e
    rcases hat with h | h
    · exact h2 (h ▸ e)
    · rw [h] at e; injection e with e; omega
  refine ⟨hbox, ⟨hbox.set1 v', h.lo, h.lm, ?_, (h.map.kept hg (fun e => h.mm e.symm)).setCell (fun e => h.bm e.symm) _, h.bm, ne h.box.lt h.am, ne hml h.mm⟩, ?_, ?_⟩
  · rw [wordsV_append, List.length_append]
    exact hrow.kept hg2 (or_ne (ne h.box.lt h.am))
  · have := hg.size; simp [World.setCell]; omega
  · intro k h1 h2 h3 h4
    exact ⟨(hg2.block k (by have := hg.size; omega) (fun e => h2 (by injection e))).trans (hg.block k h1 (fun e => h4 e.symm)), ne h1 h4⟩

/-- The map tells where each object is now. -/
def NowD (fs : List (List Int)) (M : DataW Unit) (O : List Int) : Prop :=
  ∀ i, i < fs.length → Maps.has M (.int .i64 (tot (fs.take i) : Nat)) = decide ((i : Int) ∈ O) ∧
    ((i : Int) ∈ O → M.atKey (.int .i64 (tot (fs.take i) : Nat)) (.lit (.int .i64 0)) = .lit (.int .i64 ((tot ((O.map (fO fs)).take (O.idxOf (i : Int))) : Nat) : Int)))

theorem nowD_nil (fs : List (List Int)) : NowD fs (.map []) [] := fun i _ => ⟨by simp [Maps.has_eq], fun h => by simp at h⟩

theorem NowD.put {fs : List (List Int)} {M : DataW Unit} {O : List Int} (h : NowD fs M O) (hM : Maps.IsMap M) {i : Nat} (hi : i < fs.length) (hn : (i : Int) ∉ O) :
    NowD fs (M.put (.int .i64 (tot (fs.take i) : Nat)) (.lit (.int .i64 ((tot (O.map (fO fs)) : Nat) : Int)))) (O ++ [(i : Int)]) := by
  have hk : WideAt.IsKeyLit (.int .i64 (tot (fs.take i) : Nat)) := trivial
  intro k hkl
  by_cases e : k = i
  · subst e
    refine ⟨by rw [Maps.has_put_same hM hk]; simp, fun _ => ?_⟩
    rw [Maps.atKey_put_same hM hk, idxOf_ge hn, List.map_append, List.take_append_of_le_length (by simp), List.take_of_length_le (by simp)]
  · have hne : ((tot (fs.take k) : Nat) : Int) ≠ ((tot (fs.take i) : Nat) : Int) := fun e' => e (pl_inj hkl hi (by omega))
    rw [Maps.has_put_other (by simpa using hne), Maps.atKey_put_other (by simpa using hne)]
    obtain ⟨h1, h2⟩ := h k hkl
    refine ⟨by rw [h1]; simp [show ¬ ((k : Int) = (i : Int)) by omega], fun hm => ?_⟩
    have hm' : (k : Int) ∈ O := by
      rcases List.mem_append.1 hm with hm | hm
      · exact hm
      · simp at hm; omega
    rw [h2 hm', idxOf_append_left hm', List.map_append, List.take_append_of_le_length (by have := List.idxOf_lt_length_iff.2 hm'; simp; omega)]

/-- A mover of an arena, of which t words are turned. -/
def MvA (W : World) (N vb mb : Nat) (vo vm : Value) (hs : List Int) (fs : List (List Int)) (O : List Int) (t : Nat) : Prop := ∃ M, Mv W N vb mb vo vm (madeW hs fs O t) O.length M ∧ NowD fs M O

theorem MvA.below {W W' : World} {N vb mb : Nat} {vo vm : Value} {hs : List Int} {fs : List (List Int)} {O : List Int} {t : Nat} (h : MvA W N vb mb vo vm hs fs O t) (hb : Below W.heap.size W W') : MvA W' N vb mb vo vm hs fs O t := by
  obtain ⟨M, h1, h2⟩ := h
  exact ⟨M, h1.below hb, h2⟩

set_option maxRecDepth 100000 in
/-- Is an object there? -/
theorem MvA.lookOk {W : World} {N vb mb : Nat} {vo vm : Value} {hs : List Int} {fs : List (List Int)} {O : List Int} {t i : Nat} (h : MvA W N vb mb vo vm hs fs O t) (hi : i < fs.length) (h256 : tot fs ≤ 256) :
    ∃ d : Int, (Instr.lookup 52 (.map (some mb)) (.int .i64 (tot (fs.take i) : Nat)) true).run Try.prog W = .ok (.tuple #[.int .i64 d, .bool (decide ((i : Int) ∈ O))]) W := by
  obtain ⟨M, h1, h2⟩ := h
  have hpl := place_lt hi
  obtain ⟨v, ps, e1, e2⟩ := h1.map.look_ok (Maps.int_keyed Try.underlying3) Try.underlying52 (Try.zeroValue3 _) (plainElem_int Try.underlying3 (by decide)) (Maps.keyOf_int_mk Try.underlying3 (wf_i64 (x := ((tot (fs.take i) : Nat) : Int)) (by omega) (by omega)))
  obtain ⟨d, rfl, _, _⟩ := plainElem_int_inv Try.underlying3 e2
  rw [(h2 i hi).1] at e1
  exact ⟨d, e1⟩

set_option maxRecDepth 100000 in
/-- Where is it? -/
theorem MvA.look {W : World} {N vb mb : Nat} {vo vm : Value} {hs : List Int} {fs : List (List Int)} {O : List Int} {t i : Nat} (h : MvA W N vb mb vo vm hs fs O t) (hi : i < fs.length) (h256 : tot fs ≤ 256) (hm : (i : Int) ∈ O) :
    (Instr.lookup 52 (.map (some mb)) (.int .i64 (tot (fs.take i) : Nat)) false).run Try.prog W = .ok (.int .i64 ((tot ((O.map (fO fs)).take (O.idxOf (i : Int))) : Nat) : Int)) W := by
  obtain ⟨M, h1, h2⟩ := h
  have hpl := place_lt hi
  obtain ⟨d, e1, e2, _⟩ := h1.map.lookup_int (Maps.int_keyed Try.underlying3) Try.underlying52 Try.underlying3 (Try.zeroValue3 _) (Maps.keyOf_int_mk Try.underlying3 (wf_i64 (x := ((tot (fs.take i) : Nat) : Int)) (by omega) (by omega)))
  rw [(h2 i hi).2 hm] at e2
  injection e2 with e2
  injection e2 with _ e2
  rw [e1, e2]

end Go.Proofs.Ytemjhdbmcdlpeaa

/- Walks: the mover's header, move. -/
namespace Go.Proofs.Ytemjhdbmcdlpeaa
set_option linter.unusedSimpArgs false
set_option linter.unusedVariables false
open Go.RowKit Go.Shelf
attribute [local go_sem] field47_0

set_option maxRecDepth 100000 in
set_option maxHeartbeats 1000000 in
theorem headAt_c (aw ar : Option Addr) (cw nr cr : Nat) (ws : List Int) (i : Nat) (x : Int) (B : Nat) (w : World) (hW : Wds B w aw ws) (hB : B ≤ w.heap.size) (hx : ws[i]? = some x) (h1 : 0 ≤ x) (h2 : x < 18446744073709551616) :
    Calls Try.prog 17 #[.agg #[.slice aw ws.length cw, .slice ar nr cr], .int .i64 (i : Nat)] w fun e w' => e = .returned (.tuple #[.agg #[.int .i64 (uhL x), .bool (uhM x), .int .i64 (uhA x)], .bool (uhE x == 0)]) ∧ Below w.heap.size w w' := by
  have hlt : i < ws.length := (List.getElem?_eq_some_iff.1 hx).1
  obtain ⟨W1, hW1⟩ : ∃ W1, (w.alloc (.cells #[.slice aw ws.length cw, .slice ar nr cr] 24)).alloc (.cells #[.int .i64 0, .bool false, .int .i64 0] 32) = W1 := ⟨_, rfl⟩
  have hb1 : Below w.heap.size w W1 := by rw [← hW1]; exact ((Below.refl w.heap.size w).alloc (Nat.le_refl _) _).alloc (by simp) _
  have hs1 : w.heap.size + 1 < W1.heap.size := by rw [← hW1]; simp
  have g0 : W1.cell? ⟨w.heap.size, 0, none⟩ = some (.slice aw ws.length cw) := by rw [← hW1]; simp [go_sem]
  have r0 : W1.cell? ⟨w.heap.size + 1, 0, none⟩ = some (.int .i64 0) := by rw [← hW1]; simp [go_sem]
  have r1 : W1.cell? ⟨w.heap.size + 1, 1, none⟩ = some (.bool false) := by rw [← hW1]; simp [go_sem]
  have r2 : W1.cell? ⟨w.heap.size + 1, 2, none⟩ = some (.int .i64 0) := by rw [← hW1]; simp [go_sem]
  have z0 : W1.frozen? ⟨w.heap.size + 1, 0, none⟩ = false := by rw [← hW1]; simp [go_sem]
  have z1 : W1.frozen? ⟨w.heap.size + 1, 1, none⟩ = false := by rw [← hW1]; simp [go_sem]
  have z2 : W1.frozen? ⟨w.heap.size + 1, 2, none⟩ = false := by rw [← hW1]; simp [go_sem]
  obtain ⟨b, off, rfl, hbB, hc⟩ := (hW.below (hb1.mono hB)).at hlt
  rw [(List.getElem?_eq_some_iff.1 hx).2] at hc
  have hlw : w.heap.size < W1.heap.size := by omega
  have hlb : b < W1.heap.size := by omega
  have hlI : (i : Int) < (ws.length : Int) := by omega
  have d1 : decide ((i : Int) < 0) = false := by simp
  have d2 : decide ((i : Int) ≥ (ws.length : Int)) = false := by simp; omega
  have d3 : decide ((ws.length : Int) ≤ (i : Int)) = false := by simp; omega
  clear hW
  go_enter Try.func17, Try.ntmps17
  go_wp2_with fail
  refine (runhead_c x _ h1 h2).mono ?_
  rintro e w2 ⟨rfl, hb2⟩
  clear hW1
  have hs2 := hb2.size
  replace r0 := (hb2.cell (p := ⟨w.heap.size + 1, 0, none⟩) hs1).trans r0
  replace r1 := (hb2.cell (p := ⟨w.heap.size + 1, 1, none⟩) hs1).trans r1
  replace r2 := (hb2.cell (p := ⟨w.heap.size + 1, 2, none⟩) hs1).trans r2
  replace z0 := (hb2.frozen (p := ⟨w.heap.size + 1, 0, none⟩) hs1).trans z0
  replace z1 := (hb2.frozen (p := ⟨w.heap.size + 1, 1, none⟩) hs1).trans z1
  replace z2 := (hb2.frozen (p := ⟨w.heap.size + 1, 2, none⟩) hs1).trans z2
  have hl2 : w.heap.size + 1 < w2.heap.size := by omega
  have hbw2 : Below w.heap.size w w2 := hb1.trans (hb2.mono (by omega))
  clear hb1 hb2
  go_wp2
  obtain ⟨W3, hW3⟩ : ∃ W3, ((w2.setCell ⟨w.heap.size + 1, 0, none⟩ (.int .i64 (uhL x))).setCell ⟨w.heap.size + 1, 1, none⟩ (.bool (uhM x))).setCell ⟨w.heap.size + 1, 2, none⟩ (.int .i64 (uhA x)) = W3 := ⟨_, rfl⟩
  have i0 : W3.cell? ⟨w.heap.size + 1, 0, none⟩ = some (.int .i64 (uhL x)) := by rw [← hW3]; simp [go_sem, r0, r1, r2]
  have i1 : W3.cell? ⟨w.heap.size + 1, 1, none⟩ = some (.bool (uhM x)) := by rw [← hW3]; simp [go_sem, r0, r1, r2]
  have i2 : W3.cell? ⟨w.heap.size + 1, 2, none⟩ = some (.int .i64 (uhA x)) := by rw [← hW3]; simp [go_sem, r0, r1, r2]
  have hlt3 : w.heap.size + 1 < W3.heap.size := by rw [← hW3]; simpa [World.setCell] using hl2
  have hb3 : Below w.heap.size w W3 := by rw [← hW3]; exact ((hbw2.setCell (p := ⟨w.heap.size + 1, 0, none⟩) (by simp) _).setCell (p := ⟨w.heap.size + 1, 1, none⟩) (by simp) _).setCell (p := ⟨w.heap.size + 1, 2, none⟩) (by simp) _
  rw [hW3]
  clear hW3
  obtain ⟨W4, hW4⟩ : ∃ W4, W3.alloc (.cells #[.int .i64 (uhL x), .bool (uhM x), .int .i64 (uhA x)] 32) = W4 := ⟨_, rfl⟩
  rw [hW4]
  have hb4 : Below w.heap.size w W4 := by rw [← hW4]; exact hb3.alloc (by omega) _
  have k0 : W4.cell? ⟨w.heap.size + 1, 0, none⟩ = some (.int .i64 (uhL x)) := by rw [← hW4, World.cell?_alloc_past _ _ _ hlt3]; exact i0
  have k1 : W4.cell? ⟨w.heap.size + 1, 1, none⟩ = some (.bool (uhM x)) := by rw [← hW4, World.cell?_alloc_past _ _ _ hlt3]; exact i1
  have k2 : W4.cell? ⟨w.heap.size + 1, 2, none⟩ = some (.int .i64 (uhA x)) := by rw [← hW4, World.cell?_alloc_past _ _ _ hlt3]; exact i2
  refine bodyPost_ret (v := .tuple #[.agg #[.int .i64 (uhL x), .bool (uhM x), .int .i64 (uhA x)], .bool (uhE x == 0)]) (by simp [results, Try.results17, go_sem, k0, k1, k2]) rfl ⟨rfl, hb4⟩

end Go.Proofs.Ytemjhdbmcdlpeaa

/- Walks: move. -/
namespace Go.Proofs.Ytemjhdbmcdlpeaa
set_option linter.unusedSimpArgs false
set_option linter.unusedVariables false
open Go.RowKit Go.Shelf

/-- What turns a mover tells. -/
def MvTo (N vb mb : Nat) (vo vm : Value) (hs : List Int) (fs : List (List Int)) (O : List Int) (t : Nat) (w w' : World) : Prop :=
  ∃ vm', MvA w' N vb mb vo vm' hs fs O t ∧ Kp w w' vb mb vm vm'

end Go.Proofs.Ytemjhdbmcdlpeaa

/- Walks: turn. -/
namespace Go.Proofs.Ytemjhdbmcdlpeaa
set_option linter.unusedSimpArgs false
set_option linter.unusedVariables false
open Go.RowKit Go.Shelf

theorem ins_old {O : List Int} {v : V} (h : v.1 = true → v.2 ∈ O) : ins O v = O := by
  unfold ins
  split
  · rename_i h1; rw [if_pos (h h1)]
  · rfl

theorem MvTo.below {N vb mb : Nat} {vo vm : Value} {hs : List Int} {fs : List (List Int)} {O : List Int} {t : Nat} {w w' w'' : World} (h : MvTo N vb mb vo vm hs fs O t w w') (hb : Below w'.heap.size w' w'') : MvTo N vb mb vo vm hs fs O t w w'' := by
  obtain ⟨vm', h1, h2⟩ := h
  exact ⟨vm', h1.below hb, h2.below hb⟩

theorem mvA_to {N vb mb : Nat} {vo vm : Value} {hs : List Int} {fs : List (List Int)} {O : List Int} {t : Nat} {w w' : World} (h : MvA w N vb mb vo vm hs fs O t) (hb : Below w.heap.size w w') : MvTo N vb mb vo vm hs fs O t w w' :=
  ⟨vm, h.below hb, (Kp.refl w vb mb vm).below hb⟩

/-- The place of an object that was laid. -/
theorem place_in {fs : List (List Int)} {O : List Int} (hOk : OOk fs O) {j : Nat} (hm : (j : Int) ∈ O) : tot ((O.map (fO fs)).take (O.idxOf (j : Int))) < tot fs := by
  have hi := List.idxOf_lt_length_iff.2 hm
  have := place_lt (fs := O.map (fO fs)) (i := O.idxOf (j : Int)) (by simpa using hi)
  have := hOk.tot_le
  omega

end Go.Proofs.Ytemjhdbmcdlpeaa

/- Plain: how the mover goes on, object by object, field by field. -/
namespace Go.Proofs.Ytemjhdbmcdlpeaa
set_option linter.unusedSimpArgs false
set_option linter.unusedVariables false
open Go.RowKit

/-- What was found, k objects gone through. -/
def oK (fs : List (List Int)) (rs : List Int) (k : Nat) : List Int := (searchN (readG fs rs) k).1
/-- .. and of the next one j fields. -/
def oKJ (fs : List (List Int)) (rs : List Int) (k : Nat) (f : List Int) (j : Nat) : List Int := insA (oK fs rs k) ((f.take j).map (valW (stF 0 fs)))

theorem oK_ok {hs : List Int} {fs : List (List Int)} {rs : List Int} (h : Arn hs fs rs) (k : Nat) : OOk fs (oK fs rs k) := by
  have := searchN_ok (good_read h) k
  refine ⟨this.nd, fun o ho => ?_⟩
  have := this.rng o ho
  rw [readG_len] at this
  exact this

theorem insA_snoc (F : List Int) (l : List V) (v : V) : insA F (l ++ [v]) = ins (insA F l) v := by simp [insA]

theorem oKJ_zero (fs : List (List Int)) (rs : List Int) (k : Nat) (f : List Int) : oKJ fs rs k f 0 = oK fs rs k := by simp [oKJ, insA]
theorem oKJ_succ {fs : List (List Int)} {rs : List Int} {k : Nat} {f : List Int} {j : Nat} (hj : j < f.length) : oKJ fs rs k f (j + 1) = ins (oKJ fs rs k f j) (valW (stF 0 fs) f[j]) := by
  unfold oKJ
  rw [List.take_succ_eq_append_getElem hj, List.map_append, List.map_cons, List.map_nil, insA_snoc]

theorem ok_val {hs : List Int} {fs : List (List Int)} {rs : List Int} (h : Arn hs fs rs) {x : Int} (hok : okW (stF 0 fs) x = true) (hv : (valW (stF 0 fs) x).1 = true) : ∃ j, j < fs.length ∧ valW (stF 0 fs) x = (true, (j : Int)) := by
  cases hr : unRef x
  · rw [valW_num hr] at hv; cases hv
  · obtain ⟨j, hj⟩ := (ok_ref hok).2 hr
    refine ⟨j, by have := (List.getElem?_eq_some_iff.1 hj).1; rw [stF_len] at this; exact this, ?_⟩
    rw [valW_ref hr, placeOf_nodup (stF_nodup fs 0) hj]

theorem OOk.ins {hs : List Int} {fs : List (List Int)} {rs O : List Int} (hO : OOk fs O) (h : Arn hs fs rs) {x : Int} (hok : okW (stF 0 fs) x = true) : OOk fs (ins O (valW (stF 0 fs) x)) := by
  unfold Ytemjhdbmcdlpeaa.ins
  split
  · rename_i h1
    split
    · exact hO
    · rename_i h2
      obtain ⟨j, hj, e⟩ := ok_val h hok h1
      rw [e] at h2 ⊢
      exact hO.snoc hj h2
  · exact hO

theorem oKJ_ok {hs : List Int} {fs : List (List Int)} {rs : List Int} (h : Arn hs fs rs) (k : Nat) {f : List Int} (hf : f ∈ fs) : ∀ (j : Nat), j ≤ f.length → OOk fs (oKJ fs rs k f j)
  | 0, _ => by rw [oKJ_zero]; exact oK_ok h k
  | j + 1, hj => by
    rw [oKJ_succ (by omega)]
    exact (oKJ_ok h k hf j (by omega)).ins h (h.okf f hf _ (List.getElem_mem (by omega)))

theorem oKJ_prefix (fs : List (List Int)) (rs : List Int) (k : Nat) (f : List Int) (j : Nat) : oK fs rs k <+: oKJ fs rs k f j := insA_prefix _ _

/-- The object whose turn it is. -/
theorem oK_at {hs : List Int} {fs : List (List Int)} {rs : List Int} (h : Arn hs fs rs) {k : Nat} (hk : k < (oK fs rs k).length) :
    ∃ i f, i < fs.length ∧ fs[i]? = some f ∧ (oK fs rs k)[k] = (i : Int) ∧ fO fs (i : Int) = f ∧ oK fs rs (k + 1) = oKJ fs rs k f f.length := by
  have hr := (oK_ok h k).rng _ (List.getElem_mem hk)
  generalize hoe : (oK fs rs k)[k] = o at *
  obtain ⟨i, rfl⟩ := Int.eq_ofNat_of_zero_le hr.1
  have hi : i < fs.length := by omega
  refine ⟨i, fs[i], hi, List.getElem?_eq_getElem hi, rfl, by simp [fO, List.getD_eq_getElem?_getD, hi], ?_⟩
  have hf : fieldsOf (readG fs rs) (i : Int) = fs[i].map (valW (stF 0 fs)) := fieldsOf_read (List.getElem?_eq_getElem hi)
  have hG := good_read h
  have hrf : RefsOk (fs[i].map (valW (stF 0 fs))) := by
    refine hG.refsObjs ?_
    unfold readG
    exact List.mem_map.2 ⟨fs[i], List.getElem_mem hi, rfl⟩
  have e : (searchN (readG fs rs) k).1[k]? = some (i : Int) := by
    have := List.getElem?_eq_getElem hk
    rw [hoe] at this
    exact this
  unfold oK oKJ
  rw [searchN_succ, e]
  simp only
  rw [hf, insA_findA _ _ hrf, List.take_length]
  rfl

theorem oK_zero {hs : List Int} {fs : List (List Int)} {rs : List Int} (h : Arn hs fs rs) : oK fs rs 0 = insA [] (rs.map (valW (stF 0 fs))) := by
  have hG := good_read h
  have := insA_findA 0 _ hG.refsRoots ([], [])
  exact this

theorem oK_end {hs : List Int} {fs : List (List Int)} {rs : List Int} (h : Arn hs fs rs) {k : Nat} (hk : (oK fs rs k).length ≤ k) : oK fs rs k = orderOf (readG fs rs) := by
  have hG := good_read h
  rcases Nat.le_total k (readG fs rs).objs.length with hl | hl
  · have := searchN_stable (readG fs rs) (k := k) hk ((readG fs rs).objs.length - k)
    rw [show k + ((readG fs rs).objs.length - k) = (readG fs rs).objs.length from by omega] at this
    unfold oK orderOf; rw [this]
  · unfold oK orderOf; rw [search_stable hG hl]

/-- Where the words of the object stand whose turn it is. -/
theorem turnAt {hs : List Int} {fs : List (List Int)} {O O' : List Int} (hp : O <+: O') {k i : Nat} {f : List Int} (hk : k < O.length) (ho : O[k] = (i : Int)) (hf : fO fs (i : Int) = f) :
    (uE hs fs O')[tot ((O.map (fO fs)).take k)]? = some (true, hO hs (i : Int)) ∧
    (∀ d x, f[d]? = some x → (uE hs fs O')[tot ((O.map (fO fs)).take k) + 1 + d]? = some (false, x)) ∧
    tot ((O'.map (fO fs)).take (k + 1)) = tot ((O.map (fO fs)).take k) + 1 + f.length ∧
    tot ((O.map (fO fs)).take k) + 1 + f.length ≤ tot (O'.map (fO fs)) := by
  have hl := hp.length_le
  have hk' : k < O'.length := by omega
  have e1 : O'[k] = (i : Int) := by
    have h1 := prefix_get hp (List.getElem?_eq_getElem hk)
    rw [List.getElem?_eq_getElem hk', Option.some.injEq] at h1
    rw [h1, ho]
  have e2 : (O'.map (fO fs)).take k = (O.map (fO fs)).take k := prefix_take (map_prefix hp) (by simp; omega)
  have hkm : k < (O'.map (fO fs)).length := by simpa using hk'
  have e3 := tot_take_succ hkm
  rw [List.getElem_map, e1, hf, e2] at e3
  have h1 := uE_head (hs := hs) (fs := fs) hk'
  rw [e1, e2] at h1
  refine ⟨h1, fun d x hx => ?_, by omega, by have := tot_take_le (O'.map (fO fs)) (k + 1); omega⟩
  have h2 := uE_field (hs := hs) (fs := fs) hk' (d := d) (x := x) (by rw [e1, hf]; exact hx)
  rw [e2] at h2
  exact h2

end Go.Proofs.Ytemjhdbmcdlpeaa

/- Walks: turnFields. -/
namespace Go.Proofs.Ytemjhdbmcdlpeaa
set_option linter.unusedSimpArgs false
set_option linter.unusedVariables false
open Go.RowKit Go.Shelf
attribute [local go_sem] field47_0

/-- Where the mover is: the words before p are turned, of k objects. -/
def MvAt (N vb mb : Nat) (vo vm0 : Value) (hs : List Int) (fs : List (List Int)) (O : List Int) (t : Nat) (w wr : World) : Prop :=
  MvTo N vb mb vo vm0 hs fs O t w wr ∧ OOk fs O ∧ Done hs fs O t ∧ t ≤ tot (O.map (fO fs)) ∧ Below N w wr

theorem MvAt.below {N vb mb : Nat} {vo vm0 : Value} {hs : List Int} {fs : List (List Int)} {O : List Int} {t : Nat} {w wr w' : World} (h : MvAt N vb mb vo vm0 hs fs O t w wr) (hb : Below wr.heap.size wr w') (hN : N ≤ wr.heap.size) : MvAt N vb mb vo vm0 hs fs O t w w' :=
  ⟨h.1.below hb, h.2.1, h.2.2.1, h.2.2.2.1, h.2.2.2.2.trans (hb.mono hN)⟩

/-- A header is passed by. -/
theorem MvAt.head {N vb mb : Nat} {vo vm0 : Value} {hs : List Int} {fs : List (List Int)} {O : List Int} {t : Nat} {w wr : World} (h : MvAt N vb mb vo vm0 hs fs O t w wr) {y : Int} (hy : (uE hs fs O)[t]? = some (true, y)) : MvAt N vb mb vo vm0 hs fs O (t + 1) w wr := by
  obtain ⟨⟨vm', ⟨M, hV, hF⟩, hk⟩, h2, h3, h4, h5⟩ := h
  rw [madeW_head hy] at hV
  have hlt := (List.getElem?_eq_some_iff.1 hy).1
  rw [uE_len] at hlt
  exact ⟨⟨vm', ⟨M, hV, hF⟩, hk⟩, h2, h3.head hy, by omega, h5⟩

theorem row_addr {w : World} {N n rc size : Nat} {e : TypeId} {ra : Option Addr} {xs : List Value} (h : w.ownsRow N e size (.slice ra n rc) n xs) (hn : 0 < n) : ∃ g, ra = some ⟨g, 0, none⟩ ∧ n ≤ rc ∧ g < w.heap.size := by
  rcases h.2 with ⟨_, h0⟩ | ⟨g, cap, cur, hv, h1, h2, h3, h4, h5, h6⟩
  · omega
  · injection hv with e1 e2 e3
    subst e3
    exact ⟨g, e1, h3, (Array.getElem?_eq_some_iff.1 h2).1⟩

/-- The mover at a word that is to be turned. -/
theorem MvA.word {W : World} {N vb mb : Nat} {vo vm : Value} {hs : List Int} {fs : List (List Int)} {O : List Int} {t : Nat} (h : MvA W N vb mb vo vm hs fs O t) {e : Bool × Int} (he : (uE hs fs O)[t]? = some e) :
    ∃ g rc n, vm = .slice (some ⟨g, 0, none⟩) n rc ∧ n = tot (O.map (fO fs)) ∧ t < n ∧ W.cell? ⟨vb, 1, none⟩ = some (.slice (some ⟨g, 0, none⟩) n rc) ∧ W.cell? ⟨g, t, none⟩ = some (.int .u64 e.2) ∧ W.frozen? ⟨g, t, none⟩ = false ∧ g < W.heap.size ∧ vb < W.heap.size := by
  obtain ⟨M, hV, hF⟩ := h
  have hlt := (List.getElem?_eq_some_iff.1 he).1
  rw [uE_len] at hlt
  have hmo := hV.mo
  rw [madeW_len] at hmo
  obtain ⟨ra, rc, rfl⟩ := ownsRow_slice hmo
  obtain ⟨g, rfl, _, hg⟩ := row_addr hmo (by omega)
  obtain ⟨h1, h2⟩ := hV.wcell (madeW_len hs fs O t).symm (madeW_get he)
  exact ⟨g, rc, _, rfl, rfl, hlt, hV.box.c1, h1, h2, hg, hV.box.lt⟩

/-- .. and behind it. -/
theorem MvA.stored {W : World} {N vb mb g rc n : Nat} {vo : Value} {hs : List Int} {fs : List (List Int)} {O : List Int} {t : Nat} (h : MvA W N vb mb vo (.slice (some ⟨g, 0, none⟩) n rc) hs fs O t) {x : Int} (he : (uE hs fs O)[t]? = some (false, x)) (hn : n = tot (O.map (fO fs))) :
    MvA (W.setCell ⟨g, t, none⟩ (.int .u64 (twW fs O x))) N vb mb vo (.slice (some ⟨g, 0, none⟩) n rc) hs fs O (t + 1) := by
  obtain ⟨M, hV, hF⟩ := h
  have h1 := hV.setW (by rw [madeW_len]; exact hn) t (twW fs O x)
  rw [madeW_field he] at h1
  exact ⟨M, h1, hF⟩

end Go.Proofs.Ytemjhdbmcdlpeaa

/- Walks: Copy. -/
namespace Go.Proofs.Ytemjhdbmcdlpeaa
set_option linter.unusedSimpArgs false
set_option linter.unusedVariables false
open Go.RowKit Go.Shelf

/-- The words of the arena that is made. -/
def mvL (hs : List Int) (fs : List (List Int)) (rs : List Int) : List Int := joinW ((orderOf (readG fs rs)).map (hO hs)) ((orderOf (readG fs rs)).map fun o => (fO fs o).map (twW fs (orderOf (readG fs rs))))
def mvR (fs : List (List Int)) (rs : List Int) : List Int := rs.map (twW fs (orderOf (readG fs rs)))

/-- What was found, k roots gone through. -/
def oR (fs : List (List Int)) (rs : List Int) (k : Nat) : List Int := insA [] ((rs.take k).map (valW (stF 0 fs)))

theorem oR_zero (fs : List (List Int)) (rs : List Int) : oR fs rs 0 = [] := by simp [oR, insA]
theorem oR_succ {fs : List (List Int)} {rs : List Int} {k : Nat} (hk : k < rs.length) : oR fs rs (k + 1) = ins (oR fs rs k) (valW (stF 0 fs) rs[k]) := by
  unfold oR
  rw [List.take_succ_eq_append_getElem hk, List.map_append, List.map_cons, List.map_nil, insA_snoc]
theorem oR_all {hs : List Int} {fs : List (List Int)} {rs : List Int} (h : Arn hs fs rs) : oR fs rs rs.length = oK fs rs 0 := by
  rw [oK_zero h]; unfold oR; rw [List.take_length]
theorem oR_ok {hs : List Int} {fs : List (List Int)} {rs : List Int} (h : Arn hs fs rs) : ∀ (k : Nat), k ≤ rs.length → OOk fs (oR fs rs k)
  | 0, _ => by rw [oR_zero]; exact OOk.nil fs
  | k + 1, hk => by
    rw [oR_succ (by omega)]
    exact (oR_ok h k (by omega)).ins h (h.okr _ (List.getElem_mem (by omega)))
theorem oR_prefix {hs : List Int} {fs : List (List Int)} {rs : List Int} (h : Arn hs fs rs) (k : Nat) : oR fs rs k <+: orderOf (readG fs rs) := by
  have h1 : oR fs rs k <+: oR fs rs rs.length := by
    unfold oR
    rw [List.take_length]
    conv => rhs; rw [← List.take_append_drop k rs, List.map_append]
    unfold insA
    rw [List.foldl_append]
    exact insA_prefix _ _
  rw [oR_all h] at h1
  exact h1.trans (order_prefix (good_read h) 0)

/-- Each root's word. -/
theorem oR_word {hs : List Int} {fs : List (List Int)} {rs : List Int} (h : Arn hs fs rs) {k : Nat} (hk : k < rs.length) : (mvR fs rs)[k]'(by simpa [mvR] using hk) = twW fs (ins (oR fs rs k) (valW (stF 0 fs) rs[k])) rs[k] := by
  unfold mvR
  rw [List.getElem_map]
  refine twW_prefix ?_ (fun hv => ins_mem hv)
  rw [← oR_succ hk]
  exact oR_prefix h (k + 1)

/-- What Copy tells. -/
def CpRes (base : Nat) (ws rs : List Int) (e : Ending) (W : World) : Prop :=
  (arenaE ws rs ≠ 0 ∧ e = .returned (.tuple #[.agg #[.slice none 0 0, .slice none 0 0], .int .i64 (arenaE ws rs)])) ∨
  (arenaE ws rs = 0 ∧ ∃ hs fs a c a' c', Arn hs fs rs ∧ ws = joinW hs fs ∧ e = .returned (.tuple #[.agg #[.slice a (mvL hs fs rs).length c, .slice a' rs.length c'], .int .i64 0]) ∧ WdsF base W a (mvL hs fs rs) ∧ (mvL hs fs rs).length ≤ c ∧ WdsF base W a' (mvR fs rs))

theorem owns_same {W W' : World} {base g n cap size : Nat} {e : TypeId} {xs : List Value} (h : W.ownsRow base e size (.slice (some ⟨g, 0, none⟩) n cap) n xs) (hb : W'.heap[g]? = W.heap[g]?) : W'.ownsRow base e size (.slice (some ⟨g, 0, none⟩) n cap) n xs := by
  refine ⟨h.1, ?_⟩
  rcases h.2 with ⟨h1, _⟩ | ⟨g', cap', cur, hv, h1, h2, h3⟩
  · cases h1
  · have e1 := hv
    injection e1 with e1
    injection e1 with e1
    injection e1 with e1
    subst e1
    exact .inr ⟨g, cap', cur, hv, h1, by rw [hb]; exact h2, h3⟩

theorem MvA.setO {W : World} {N vb mb b : Nat} {vo vm : Value} {hs : List Int} {fs : List (List Int)} {O : List Int} {t : Nat} (h : MvA W N vb mb vo vm hs fs O t) (h1 : b ≠ vb) (h2 : b ≠ mb) (h3 : vm.ownBlock ≠ some b) (j : Nat) (u : Value) : MvA (W.setCell ⟨b, j, none⟩ u) N vb mb vo vm hs fs O t := by
  obtain ⟨M, hV, hF⟩ := h
  exact ⟨M, hV.setO h1 h2 h3 j u, hF⟩

/-- A new mover. -/
theorem mv_start (w1 : World) (hs : List Int) (fs : List (List Int)) (vo : Value) :
    MvA ((w1.alloc (.map #[] 0)).alloc (.cells #[vo, .slice none 0 0, .map (some w1.heap.size)] 73)) w1.heap.size (w1.heap.size + 1) w1.heap.size vo (.slice none 0 0) hs fs [] 0 := by
  have hmp := World.ownsMap_made (H := Unit) w1 Try.prog 3 (plainElem Try.prog 3)
  refine ⟨.map [], ⟨⟨by simp [go_sem], by simp [go_sem], by simp [go_sem], fun j => by simp [go_sem]⟩, by omega, Nat.le_refl _, ?_, hmp.alloc _, by omega, by simp [Value.ownBlock], by simp [Value.ownBlock]⟩, nowD_nil fs⟩
  rw [madeW_nil]
  exact World.ownsRow_nil _ _ _ _

end Go.Proofs.Ytemjhdbmcdlpeaa

/- What is left of a graph does not hang on numbers: plain facts. -/
namespace Go.Proofs.Ytemjhdbmcdlpeaa
set_option linter.unusedSimpArgs false
set_option linter.unusedVariables false

/-- A graph with the objects of a list, numbered as they stand there. -/
def renL (g : Gr) (L : List Int) : Gr := { objs := L.map (fun o => (fieldsOf g o).map (renV L)), roots := g.roots.map (renV L) }

theorem canon_renL (g : Gr) : canonG g = renL g (orderOf g) := rfl

/-- A list that has all to which roots, and the fields of its own objects, refer. -/
structure Whole (g : Gr) (L : List Int) : Prop where
  nd : L.Nodup
  rng : ∀ o ∈ L, 0 ≤ o ∧ o < (g.objs.length : Int)
  roots : ∀ x ∈ refsL g.roots, x ∈ L
  fields : ∀ o ∈ L, ∀ x ∈ refsL (fieldsOf g o), x ∈ L

theorem whole_order {g : Gr} (h : Good g) : Whole g (orderOf g) :=
  ⟨order_nodup h, fun o ho => order_ok h ho, order_roots g, fun o ho => order_closed h ho⟩

theorem Whole.le {g : Gr} {L : List Int} (h : Whole g L) : L.length ≤ g.objs.length := nodup_length h.nd h.rng

theorem refs_ren {L : List Int} (hL : L.length ≤ 256) : ∀ (l : List V), RefsOk l → (∀ x ∈ refsL l, x ∈ L) → refsL (l.map (renV L)) = (refsL l).map (placeOf L)
  | [], _, _ => rfl
  | (false, n) :: xs, h, hm => by
    have e : refsL ((false, n) :: xs) = refsL xs := by simp [refsL, valsOf, obsOf, obOf]
    have ih := refs_ren hL xs (fun v hv => h v (List.mem_cons_of_mem _ hv)) (by rw [e] at hm; exact hm)
    rw [e, ← ih]
    simp [renV, refsL, valsOf, obsOf, obOf]
  | (true, n) :: xs, h, hm => by
    have hn := h (true, n) (by simp) rfl
    have e : refsL ((true, n) :: xs) = n :: refsL xs := by simp [refsL, valsOf, obsOf, obOf, hn]
    rw [e] at hm
    have ih := refs_ren hL xs (fun v hv => h v (List.mem_cons_of_mem _ hv)) (fun x hx => hm x (List.mem_cons_of_mem _ hx))
    have hp := placeOf_bounds (hm n (by simp))
    have hp2 : 0 ≤ placeOf L n ∧ placeOf L n < 256 := ⟨hp.1, by omega⟩
    have e2 : refsL ((true, placeOf L n) :: xs.map (renV L)) = placeOf L n :: refsL (xs.map (renV L)) := by simp [refsL, valsOf, obsOf, obOf, hp2]
    rw [e, List.map_cons, List.map_cons, ← ih, ← e2]
    simp [renV]

theorem mem_map_place {L O : List Int} (hO : ∀ x ∈ O, x ∈ L) {y : Int} (hy : y ∈ L) : placeOf L y ∈ O.map (placeOf L) ↔ y ∈ O := by
  constructor
  · intro h
    obtain ⟨x, hx, e⟩ := List.mem_map.1 h
    rw [← placeOf_inj (hO x hx) hy e]; exact hx
  · intro h
    exact List.mem_map_of_mem h

theorem findA_ren {L : List Int} (d : Int) : ∀ (xs : List Int) (st : List Int × List Int), (∀ x ∈ st.1, x ∈ L) → (∀ x ∈ xs, x ∈ L) →
    findA d (st.1.map (placeOf L), st.2) (xs.map (placeOf L)) = ((findA d st xs).1.map (placeOf L), (findA d st xs).2)
  | [], st, _, _ => rfl
  | x :: xs, st, hs, hx => by
    show findA d (findS d (st.1.map (placeOf L), st.2) (placeOf L x)) (xs.map (placeOf L)) = _
    have e : findS d (st.1.map (placeOf L), st.2) (placeOf L x) = ((findS d st x).1.map (placeOf L), (findS d st x).2) := by
      unfold findS
      by_cases hm : x ∈ st.1
      · rw [if_pos hm, if_pos ((mem_map_place hs (hx x (by simp))).2 hm)]
      · rw [if_neg hm, if_neg (fun h => hm ((mem_map_place hs (hx x (by simp))).1 h))]; simp
    rw [e]
    refine findA_ren d xs (findS d st x) ?_ (fun y hy => hx y (List.mem_cons_of_mem _ hy))
    unfold findS
    split
    · exact hs
    · intro y hy
      rcases List.mem_append.1 hy with hy | hy
      · exact hs y hy
      · simp at hy; subst hy; exact hx y (by simp)

theorem fields_ren {g : Gr} {L : List Int} {o : Int} (ho : o ∈ L) : fieldsOf (renL g L) (placeOf L o) = (fieldsOf g o).map (renV L) := by
  have h := placeOf_get ho
  unfold fieldsOf renL
  simp only [List.getElem?_map, h, Option.map_some, Option.getD_some]
  rfl

theorem search_sub {g : Gr} (hG : Good g) {L : List Int} (hL : Whole g L) : ∀ k, ∀ x ∈ (searchN g k).1, x ∈ L := by
  have hsub : ∀ (d : Int) (xs : List Int) (st : List Int × List Int), (∀ x ∈ st.1, x ∈ L) → (∀ x ∈ xs, x ∈ L) → ∀ x ∈ (findA d st xs).1, x ∈ L := by
    intro d xs
    induction xs with
    | nil => intro st h _; exact h
    | cons y ys ih =>
      intro st h hy
      refine ih (findS d st y) ?_ (fun x hx => hy x (List.mem_cons_of_mem _ hx))
      unfold findS
      split
      · exact h
      · intro x hx
        rcases List.mem_append.1 hx with hx | hx
        · exact h x hx
        · simp at hx; subst hx; exact hy x (by simp)
  intro k
  induction k with
  | zero => exact hsub 0 _ ([], []) (by simp) hL.roots
  | succ k ih =>
    rw [searchN_succ]
    cases ho : (searchN g k).1[k]? with
    | none => exact ih
    | some o => exact hsub _ _ _ ih (hL.fields o (ih o (List.mem_of_getElem? ho)))

theorem search_ren {g : Gr} (hG : Good g) {L : List Int} (hL : Whole g L) : ∀ k, searchN (renL g L) k = ((searchN g k).1.map (placeOf L), (searchN g k).2)
  | 0 => by
    have h24 : L.length ≤ 256 := by have := hL.le; have := hG.n24; omega
    show findA 0 ([], []) (refsL (g.roots.map (renV L))) = _
    rw [refs_ren h24 g.roots hG.refsRoots hL.roots]
    exact findA_ren 0 (refsL g.roots) ([], []) (by simp) hL.roots
  | k + 1 => by
    have h24 : L.length ≤ 256 := by have := hL.le; have := hG.n24; omega
    rw [searchN_succ, searchN_succ, search_ren hG hL k]
    simp only [List.getElem?_map]
    cases ho : (searchN g k).1[k]? with
    | none => rfl
    | some o =>
      have hs := search_sub hG hL k
      have hoL := hs o (List.mem_of_getElem? ho)
      have hr := hL.rng o hoL
      simp only [Option.map_some]
      rw [fields_ren hoL, refs_ren h24 _ (hG.refsObjs (fieldsOf_mem hr.1 hr.2)) (hL.fields o hoL)]
      exact findA_ren _ _ (searchN g k) hs (hL.fields o hoL)

theorem sub_length {l L : List Int} (hl : l.Nodup) (hs : ∀ x ∈ l, x ∈ L) : l.length ≤ L.length := by
  have h1 : (l.map (placeOf L)).Nodup := by
    rw [List.nodup_iff_pairwise_ne, List.pairwise_map]
    rw [List.nodup_iff_pairwise_ne] at hl
    exact hl.imp_of_mem (fun {a b} ha hb hab e => hab (placeOf_inj (hs a ha) (hs b hb) e))
  have h2 := nodup_length (N := L.length) h1 (by
    intro o ho
    obtain ⟨x, hx, rfl⟩ := List.mem_map.1 ho
    exact placeOf_bounds (hs x hx))
  simpa using h2

theorem search_whole {g : Gr} (hG : Good g) {L : List Int} (hL : Whole g L) : searchN g L.length = searchN g g.objs.length := by
  have h1 : (searchN g L.length).1.length ≤ L.length := by
    have hnd := (searchN_ok hG L.length).nd
    exact sub_length hnd (search_sub hG hL L.length)
  have h2 := (searchN_ok hG g.objs.length).le
  have e1 := searchN_stable g h1 g.objs.length
  have e2 := searchN_stable g h2 L.length
  rw [← e1, ← e2, Nat.add_comm]

theorem renL_len (g : Gr) (L : List Int) : (renL g L).objs.length = L.length := by simp [renL]

theorem order_ren {g : Gr} (hG : Good g) {L : List Int} (hL : Whole g L) : orderOf (renL g L) = (orderOf g).map (placeOf L) ∧ distOf (renL g L) = distOf g := by
  unfold orderOf distOf
  rw [renL_len, search_ren hG hL, search_whole hG hL]
  exact ⟨rfl, rfl⟩

theorem placeOf_map {L O : List Int} (hO : ∀ x ∈ O, x ∈ L) {x : Int} (hx : x ∈ O) : placeOf (O.map (placeOf L)) (placeOf L x) = placeOf O x := by
  unfold placeOf
  rw [if_pos hx, if_pos (show x ∈ L from hO x hx)]
  have hm : ((L.idxOf x : Nat) : Int) ∈ O.map (fun x => if x ∈ L then ((L.idxOf x : Nat) : Int) else 0) := List.mem_map.2 ⟨x, hx, by rw [if_pos (hO x hx)]⟩
  rw [if_pos hm]
  congr 1
  have h1 := List.idxOf_lt_length_iff.2 hx
  have h2 := List.getElem_idxOf h1
  refine idxOf_first (by simpa using h1) ?_ ?_
  · rw [List.getElem_map, h2, if_pos (hO x hx)]
  · rw [← List.map_take]
    intro h
    obtain ⟨y, hy, e⟩ := List.mem_map.1 h
    have hyO := List.mem_of_mem_take hy
    rw [if_pos (hO y hyO)] at e
    have e2 : y = x := placeOf_inj (order := L) (hO y hyO) (hO x hx) (by unfold placeOf; rw [if_pos (hO y hyO), if_pos (hO x hx)]; exact e)
    subst e2
    rw [List.mem_take_iff_getElem] at hy
    obtain ⟨j, hj, hj2⟩ := hy
    have h4 := List.not_of_lt_findIdx (p := (· == y)) (xs := O) (i := j) (show j < O.idxOf y by omega)
    simp [hj2] at h4

theorem renV_ren {L O : List Int} (hO : ∀ x ∈ O, x ∈ L) {v : V} (hv : v.1 = true → v.2 ∈ O) : renV (O.map (placeOf L)) (renV L v) = renV O v := by
  obtain ⟨r, n⟩ := v
  cases r
  · simp [renV]
  · have h := hv rfl
    simp only [renV, if_true]
    rw [placeOf_map hO h]

theorem map_renV_ren {L O : List Int} (hO : ∀ x ∈ O, x ∈ L) {l : List V} (hl : RefsOk l) (hm : ∀ x ∈ refsL l, x ∈ O) : (l.map (renV L)).map (renV (O.map (placeOf L))) = l.map (renV O) := by
  rw [List.map_map]
  refine List.map_congr_left fun v hv => ?_
  refine renV_ren hO fun h1 => hm _ ((mem_refsL hl _).2 ?_)
  obtain ⟨r, n⟩ := v
  simp only at h1
  subst h1
  exact hv

theorem canon_ren {g : Gr} (hG : Good g) {L : List Int} (hL : Whole g L) : canonG (renL g L) = canonG g := by
  have hO : ∀ x ∈ orderOf g, x ∈ L := search_sub hG hL _
  have e := (order_ren hG hL).1
  unfold canonG
  rw [e]
  simp only [Gr.mk.injEq]
  constructor
  · rw [List.map_map]
    refine List.map_congr_left fun o ho => ?_
    have hr := order_ok hG ho
    simp only [Function.comp]
    rw [fields_ren (hO o ho), map_renV_ren hO (hG.refsObjs (fieldsOf_mem hr.1 hr.2)) (order_closed hG ho)]
  · exact map_renV_ren hO hG.refsRoots (order_roots g)

theorem mem_refs_of {l : List V} {v : V} (hl : RefsOk l) (hv : v ∈ l) (h1 : v.1 = true) : v.2 ∈ refsL l := by
  refine (mem_refsL hl _).2 ?_
  obtain ⟨r, n⟩ := v
  simp only at h1
  subst h1
  exact hv

end Go.Proofs.Ytemjhdbmcdlpeaa

/- Walks: the document's Words, Arenas, packed. -/
namespace Go.Proofs.Ytemjhdbmcdlpeaa
set_option linter.unusedSimpArgs false
set_option linter.unusedVariables false
open Go.RowKit Go.Shelf

set_option maxRecDepth 100000 in
set_option maxHeartbeats 1000000 in
theorem words_eq_c (a1 a2 : Option Addr) (c1 c2 : Nat) (l1 l2 : List Int) (B : Nat) (w : World) (h1 : Wds B w a1 l1) (h2 : Wds B w a2 l2) (hB : B ≤ w.heap.size) :
    Calls Try.prog 29 #[.slice a1 l1.length c1, .slice a2 l2.length c2] w fun e w' => e = .returned (.bool (decide (l1 = l2))) ∧ Below w.heap.size w w' := by
  have hl1 := h1.1
  have hl2 := h2.1
  by_cases hl : l1.length = l2.length
  · have d1 : ((l1.length : Int) != (l2.length : Int)) = false := by simp [hl]
    have d2 : ((l2.length : Int) != (l2.length : Int)) = false := by simp
    rw [hl]
    have Hl := hide hl
    have hle : l1.length ≤ l2.length := by omega
    have hge : l2.length ≤ l1.length := by omega
    clear hl
    go_enter Try.func29, Try.ntmps29
    go_wp2
    go_loopw [5] (fun i wr => ∃ k : Nat, k ≤ l2.length ∧ i = .int .i64 k ∧ Hid (l1.take k = l2.take k) ∧ Below w.heap.size w wr) (fun i _ => l2.length - (intOf i).toNat)
    case atStart => exact ⟨0, Nat.zero_le _, rfl, by show l1.take 0 = l2.take 0; simp, Below.refl _ _⟩
    case round =>
      obtain ⟨k, hk, rfl, Heq, hb⟩ := hrel
      by_cases hlt : k < l2.length
      · have hlt1 : k < l1.length := by omega
        obtain ⟨b1, o1, rfl, hbB1, hx1⟩ := (h1.below (hb.mono hB)).at hlt1
        obtain ⟨b2, o2, rfl, hbB2, hx2⟩ := (h2.below (hb.mono hB)).at hlt
        have hltI : (k : Int) < (l2.length : Int) := by omega
        have HT1 := hide (List.take_succ_eq_append_getElem hlt1)
        have HT2 := hide (List.take_succ_eq_append_getElem hlt)
        have HN : Hid (l1 = l2 → l1[k] = l2[k]) := by intro e; subst e; rfl
        generalize l1[k] = x at *
        generalize l2[k] = y at *
        by_cases hxy : x = y
        · have d : (x != y) = false := by simpa using hxy
          have Hxy := hide hxy
          clear hxy
          go_wp2
          go_still Try.mixed
          go_wp2
          go_roundw
          case rel => exact ⟨k + 1, by omega, by go_num, by show l1.take (k + 1) = _; rw [unhide HT1, unhide HT2, unhide Heq, unhide Hxy], hb.trans (Below.refl _ _).drew⟩
          case measure => simp [intOf]; omega
        · have d : (x != y) = true := by simpa using hxy
          have Hxy := hide hxy
          clear hxy
          go_wp2
          go_still Try.mixed
          go_wp2
          go_ret
          exact ⟨ret_bool (Eq.symm (decide_eq_false (fun e => unhide Hxy (unhide HN e)))), hb.trans (Below.refl _ _).drew⟩
      · obtain rfl : k = l2.length := by omega
        have Hfin : Hid (l1 = l2) := by
          have := unhide Heq
          rw [List.take_length, List.take_of_length_le hle] at this
          exact this
        go_wp2
        go_ret
        exact ⟨ret_bool (Eq.symm (decide_eq_true (unhide Hfin))), hb⟩
  · have d1 : ((l1.length : Int) != (l2.length : Int)) = true := by simp; omega
    go_enter Try.func29, Try.ntmps29
    go_wp2
    go_ret
    exact ⟨ret_bool (Eq.symm (decide_eq_false (fun e => hl (by rw [e])))), Below.refl _ _⟩

set_option maxRecDepth 100000 in
set_option maxHeartbeats 1000000 in
theorem arenas_eq_c (aw ar bw br : Option Addr) (cw cr dw dr : Nat) (ws rs vs us : List Int) (B : Nat) (w : World) (h1 : Wds B w aw ws) (h2 : Wds B w ar rs) (h3 : Wds B w bw vs) (h4 : Wds B w br us) (hB : B ≤ w.heap.size) :
    Calls Try.prog 9 #[.agg #[.slice aw ws.length cw, .slice ar rs.length cr], .agg #[.slice bw vs.length dw, .slice br us.length dr]] w fun e w' => e = .returned (.bool (decide (ws = vs) && decide (rs = us))) ∧ Below w.heap.size w w' := by
  obtain ⟨W0, hW0⟩ : ∃ W0, (w.alloc (.cells #[.slice aw ws.length cw, .slice ar rs.length cr] 24)).alloc (.cells #[.slice bw vs.length dw, .slice br us.length dr] 24) = W0 := ⟨_, rfl⟩
  have hb0 : Below w.heap.size w W0 := by rw [← hW0]; exact ((Below.refl _ _).alloc (Nat.le_refl _) _).alloc (by simp) _
  have hs0 : w.heap.size + 1 < W0.heap.size := by rw [← hW0]; simp
  have g0 : W0.cell? ⟨w.heap.size, 0, none⟩ = some (.slice aw ws.length cw) := by rw [← hW0]; simp [go_sem]
  have g1 : W0.cell? ⟨w.heap.size, 1, none⟩ = some (.slice ar rs.length cr) := by rw [← hW0]; simp [go_sem]
  have k0 : W0.cell? ⟨w.heap.size + 1, 0, none⟩ = some (.slice bw vs.length dw) := by rw [← hW0]; simp [go_sem]
  have k1 : W0.cell? ⟨w.heap.size + 1, 1, none⟩ = some (.slice br us.length dr) := by rw [← hW0]; simp [go_sem]
  have Hc1 := hide (words_eq_c aw bw cw dw ws vs B W0 (h1.below (hb0.mono hB)) (h3.below (hb0.mono hB)) (by omega))
  go_enter Try.func9, Try.ntmps9
  go_wp2_with fail
  refine (unhide Hc1).mono ?_
  rintro e w2 ⟨he, hb2⟩
  subst he
  clear hW0 Hc1
  have hs2 := hb2.size
  have hbw2 : Below w.heap.size w w2 := hb0.trans (hb2.mono (by omega))
  replace g1 := (hb2.cell (p := ⟨w.heap.size, 1, none⟩) (by simp; omega)).trans g1
  replace k1 := (hb2.cell (p := ⟨w.heap.size + 1, 1, none⟩) hs0).trans k1
  cases hd : decide (ws = vs)
  · have Hd := hide hd
    clear hd
    go_wp2
    go_ret
    exact ⟨ret_bool (by have := unhide Hd; simp at this; simp [this]), hbw2⟩
  · have Hd := hide hd
    clear hd
    have Hc2 := hide (words_eq_c ar br cr dr rs us B w2 (h2.below (hbw2.mono hB)) (h4.below (hbw2.mono hB)) (by omega))
    go_wp2_with fail
    refine (unhide Hc2).mono ?_
    rintro e w3 ⟨he, hb3⟩
    subst he
    go_wp2
    go_ret
    exact ⟨ret_bool (by have := unhide Hd; simp at this; simp [this]), hbw2.trans (hb3.mono (by omega))⟩

theorem words_take_succ {l : List V} {st : List Int} {k : Nat} (hk : k < l.length) {x : Int} (h : packV st l[k] = x) : wordsV ((l.map (packV st)).take (k + 1)) = wordsV ((l.map (packV st)).take k) ++ [.int .u64 x] := by
  rw [List.take_succ_eq_append_getElem (by simpa using hk), List.getElem_map, h, wordsV_snoc]

set_option maxRecDepth 100000 in
set_option maxHeartbeats 2000000 in
theorem rpacked_c (a s0 : Option Addr) (cap caps : Nat) (l : List V) (st : List Int) (B : Nat) (w : World) (hV : Vals B w a l) (hS : Ints B w s0 st) (hB : B ≤ w.heap.size) (hl : l.length ≤ 1000)
    (hr : ∀ v ∈ l, v.1 = true → 0 ≤ v.2 ∧ v.2 < st.length) (hst : ∀ x ∈ st, 0 ≤ x ∧ x ≤ 9223372036854775807) (hn : ∀ v ∈ l, v.1 = false → -9223372036854775808 ≤ v.2 ∧ v.2 ≤ 9223372036854775807) (hsl : st.length ≤ 1000) :
    Calls Try.prog 45 #[.slice a l.length cap, .slice s0 st.length caps] w fun e w' => ∃ a' cap', e = .returned (.slice a' (l.map (packV st)).length cap') ∧ WdsF w.heap.size w' a' (l.map (packV st)) ∧ Below w.heap.size w w' := by
  obtain ⟨i0, hi, hz0, hz1, hz2⟩ := info_parts Try.info56
  go_enter Try.func45, Try.ntmps45
  go_wp2
  go_loopw [5, 12] (fun s i wr => ∃ k : Nat, k ≤ l.length ∧ i = .int .i64 k ∧ wr.ownsRow w.heap.size 56 1 s k (wordsV ((l.map (packV st)).take k)) ∧ Below w.heap.size w wr) (fun _ i _ => l.length - (intOf i).toNat)
  case atStart => exact ⟨0, Nat.zero_le _, rfl, by simpa [wordsV] using World.ownsRow_nil _ _ _ _, Below.refl _ _⟩
  case round =>
    obtain ⟨k, hk, rfl, hown, hb⟩ := hrel
    have hsz := hb.size
    by_cases hlt : k < l.length
    · obtain ⟨b, off, r, m, rfl, hbB, hc1, hc2, Hv⟩ := (hV.below (hb.mono hB)).at hlt
      have hmem : (r, m) ∈ l := by rw [← Hv.out]; exact List.getElem_mem hlt
      have HT := hide (fun x h => words_take_succ (st := st) hlt (x := x) h)
      rw [Hv.out] at HT
      cases r
      · have hrng := hn _ hmem rfl
        have HT2 := hide (unhide HT _ packV_num)
        clear HT Hv
        have Hc := hide (rpack_c false m (wr.alloc (.cells #[.bool false, .int .i64 m] 64)) hrng.1 hrng.2)
        go_wp2_with fail
        refine (unhide Hc).mono ?_
        rintro e w3 ⟨he, hb3⟩
        subst he
        simp only [World.size_alloc] at hb3
        have hs3 := hb3.size
        simp only [World.size_alloc] at hs3
        have hown3 := ownsRow_below (hown.alloc (.cells #[.bool false, .int .i64 m] 64)) (by simpa using hb3)
        have hbw3 : Below w.heap.size w w3 := (hb.alloc (by omega) _).trans (hb3.mono (by omega))
        clear hown Hc
        go_wp2_with (at_builtin; go_must (refine wpList_append_own _ rfl _ _ 22 rfl w.heap.size 56 i0 _ 1 8 Try.underlying22 hi hz0 hz1 hz2 rfl (by decide) _ _ _ rfl (hown3.alloc _) ⟨w3.heap.size, 0, none⟩ 1 1 [.int .u64 (packW false m)] rfl rfl (cell_one_at _ _ _ _ (by simp)) (by simp [Value.oneCell']) (by simp only [maxLen]; omega) (by omega) (by simp; omega) ?_); intro v' w1 hown' hgrow _)
        go_roundw
        case rel => exact ⟨k + 1, by omega, by go_num, by rw [unhide HT2]; exact hown', (hbw3.alloc (by omega) _).grown hgrow (by simp; omega) (fun q e => (hown3.lt q e).1)⟩
        case measure => simp [intOf]; omega
      · have hrng := hr _ hmem rfl
        obtain ⟨mn, rfl⟩ := Int.eq_ofNat_of_zero_le hrng.1
        have hmn : mn < st.length := by have := hrng.2; simp at this; omega
        have hxr := hst _ (List.getElem_mem hmn)
        obtain ⟨b2, off2, rfl, hbB2, hx⟩ := (hS.below (hb.mono hB)).at hmn
        have HT2 := hide (unhide HT (packW true st[mn]) (by simp [packV, List.getD_eq_getElem?_getD, hmn]))
        have hmnI : (mn : Int) < (st.length : Int) := by omega
        have hb2w : b2 < wr.heap.size := by omega
        clear HT Hv hrng
        generalize st[mn] = p at *
        have Hc := hide (rpack_c true p (wr.alloc (.cells #[.bool true, .int .i64 p] 64)) (by omega) (by omega))
        go_wp2_with fail
        refine (unhide Hc).mono ?_
        rintro e w3 ⟨he, hb3⟩
        subst he
        simp only [World.size_alloc] at hb3
        have hs3 := hb3.size
        simp only [World.size_alloc] at hs3
        have hown3 := ownsRow_below (hown.alloc (.cells #[.bool true, .int .i64 p] 64)) (by simpa using hb3)
        have hbw3 : Below w.heap.size w w3 := (hb.alloc (by omega) _).trans (hb3.mono (by omega))
        clear hown Hc
        go_wp2_with (at_builtin; go_must (refine wpList_append_own _ rfl _ _ 22 rfl w.heap.size 56 i0 _ 1 8 Try.underlying22 hi hz0 hz1 hz2 rfl (by decide) _ _ _ rfl (hown3.alloc _) ⟨w3.heap.size, 0, none⟩ 1 1 [.int .u64 (packW true p)] rfl rfl (cell_one_at _ _ _ _ (by simp)) (by simp [Value.oneCell']) (by simp only [maxLen]; omega) (by omega) (by simp; omega) ?_); intro v' w1 hown' hgrow _)
        go_roundw
        case rel => exact ⟨k + 1, by omega, by go_num, by rw [unhide HT2]; exact hown', (hbw3.alloc (by omega) _).grown hgrow (by simp; omega) (fun q e => (hown3.lt q e).1)⟩
        case measure => simp [intOf]; omega
    · obtain rfl : k = l.length := by omega
      rw [List.take_of_length_le (by simp)] at hown
      obtain ⟨a', cap', hv, hWF, _⟩ := wordsF_of_owns hown (by simp) (by omega)
      have HW := hide hWF
      clear hWF
      subst hv
      go_wp2
      go_ret
      exact ⟨a', cap', rfl, unhide HW, hb⟩

end Go.Proofs.Ytemjhdbmcdlpeaa

/- Walks: the document's Plain; headers in memory. -/
namespace Go.Proofs.Ytemjhdbmcdlpeaa
set_option linter.unusedSimpArgs false
set_option linter.unusedVariables false
open Go.RowKit Go.Shelf

theorem Try.info32 : (Try.prog.info? 32).map (fun i => (i.zero, i.size, i.bytes)) = some (some (.agg #[.int .i64 0, .bool false, .int .i64 0]), 3, 24) := by kernel_rfl
theorem Try.info2 : (Try.prog.info? 2).map (fun i => (i.zero, i.size, i.bytes)) = some (some (.int .i64 0), 1, 8) := by kernel_rfl

theorem cell_three_at (w : World) (x y z : Value) (t : TypeId) (m : Nat) (hm : m = w.heap.size) : ∀ j u, [x, y, z][j]? = some u → (w.alloc (.cells #[x, y, z] t)).cell? ((⟨m, 0, none⟩ : Addr).add j) = some u := by
  subst hm
  intro j u h
  have hadd : (⟨w.heap.size, 0, none⟩ : Addr).add j = ⟨w.heap.size, j, none⟩ := by unfold Addr.add; split <;> simp_all
  rw [hadd]
  match j, h with
  | 0, h => simp at h; subst h; simp [go_sem]
  | 1, h => simp at h; subst h; simp [go_sem]
  | 2, h => simp at h; subst h; simp [go_sem]
  | j + 3, h => simp at h

/-- A header: how many fields, its mark, its age. -/
abbrev Hd := Int × Bool × Int
def hW (h : Hd) : Int := headW h.1 h.2.1 h.2.2
def cellsH (l : List Hd) : List Value := l.flatMap fun h => [.int .i64 h.1, .bool h.2.1, .int .i64 h.2.2]
theorem cellsH_snoc (l : List Hd) (h : Hd) : cellsH (l ++ [h]) = cellsH l ++ [.int .i64 h.1, .bool h.2.1, .int .i64 h.2.2] := by simp [cellsH]

theorem cellsH_get : ∀ (l : List Hd) (k : Nat) (h : Hd), l[k]? = some h → (cellsH l)[k * 3]? = some (.int .i64 h.1) ∧ (cellsH l)[k * 3 + 1]? = some (.bool h.2.1) ∧ (cellsH l)[k * 3 + 2]? = some (.int .i64 h.2.2)
  | [], _, _, h => by simp at h
  | x :: l, 0, v, h => by simp at h; subst h; simp [cellsH]
  | x :: l, k + 1, v, h => by
    have := cellsH_get l k v (by simpa using h)
    have e1 : (k + 1) * 3 = k * 3 + 1 + 1 + 1 := by omega
    rw [e1]
    simp only [cellsH, List.flatMap_cons, List.cons_append, List.nil_append, List.getElem?_cons_succ]
    exact this

/-- A slice of headers, below block B. -/
def Hdrs (B : Nat) (w : World) (a : Option Addr) (l : List Hd) : Prop :=
  l.length ≤ 9223372036854775807 ∧ (l ≠ [] → ∃ b off, a = some ⟨b, off, none⟩ ∧ b < B ∧ ∀ k h, l[k]? = some h → w.cell? ⟨b, off + k * 3, none⟩ = some (.int .i64 h.1) ∧ w.cell? ⟨b, off + k * 3 + 1, none⟩ = some (.bool h.2.1) ∧ w.cell? ⟨b, off + k * 3 + 2, none⟩ = some (.int .i64 h.2.2))

theorem Hdrs.below {B : Nat} {w w' : World} {a : Option Addr} {l : List Hd} (h : Hdrs B w a l) (hb : Below B w w') : Hdrs B w' a l := by
  refine ⟨h.1, fun hne => ?_⟩
  obtain ⟨b, off, rfl, hB, hc⟩ := h.2 hne
  refine ⟨b, off, rfl, hB, fun k v hk => ?_⟩
  rw [hb.cell (p := ⟨b, off + k * 3, none⟩) hB, hb.cell (p := ⟨b, off + k * 3 + 1, none⟩) hB, hb.cell (p := ⟨b, off + k * 3 + 2, none⟩) hB]
  exact hc k v hk

theorem Hdrs.mono {B B' : Nat} {w : World} {a : Option Addr} {l : List Hd} (h : Hdrs B w a l) (hb : B ≤ B') : Hdrs B' w a l := by
  refine ⟨h.1, fun hne => ?_⟩
  obtain ⟨b, off, rfl, hB, hc⟩ := h.2 hne
  exact ⟨b, off, rfl, by omega, hc⟩

theorem Hdrs.at {B : Nat} {w : World} {a : Option Addr} {l : List Hd} (h : Hdrs B w a l) {k : Nat} (hk : k < l.length) :
    ∃ b off n m e, a = some ⟨b, off, none⟩ ∧ b < B ∧ w.cell? ⟨b, off + k * 3, none⟩ = some (.int .i64 n) ∧ w.cell? ⟨b, off + k * 3 + 1, none⟩ = some (.bool m) ∧ w.cell? ⟨b, off + k * 3 + 2, none⟩ = some (.int .i64 e) ∧ Hid (l[k] = (n, m, e)) := by
  obtain ⟨b, off, rfl, hB, hc⟩ := h.2 (by intro e; subst e; simp at hk)
  obtain ⟨h1, h2, h3⟩ := hc k l[k] (by simp [hk])
  exact ⟨b, off, l[k].1, l[k].2.1, l[k].2.2, rfl, hB, h1, h2, h3, rfl⟩

theorem hdrs_of_owns {w : World} {base : Nat} {e : TypeId} {v : Value} {n : Nat} {l : List Hd} (h : w.ownsRow base e 3 v n (cellsH l)) (hn : n = l.length) (hs : n ≤ 9223372036854775807) :
    ∃ a cap, v = .slice a l.length cap ∧ Hdrs w.heap.size w a l := by
  obtain ⟨_, h2⟩ := h
  rcases h2 with ⟨rfl, h0⟩ | ⟨g, cap, cur, rfl, hb, hg, hc1, hc2, hc3, htake⟩
  · refine ⟨none, 0, by rw [← hn, h0], ⟨by omega, fun hne => ?_⟩⟩
    have : l = [] := List.eq_nil_of_length_eq_zero (by omega)
    exact absurd this hne
  · refine ⟨_, cap, by rw [hn], ⟨by omega, fun _ => ⟨g, 0, rfl, (Array.getElem?_eq_some_iff.1 hg).1, fun k v hk => ?_⟩⟩⟩
    obtain ⟨h1, h2, h3⟩ := cellsH_get l k v hk
    rw [← htake] at h1 h2 h3
    rw [List.getElem?_take] at h1 h2 h3
    have hcell : ∀ j u, (if j < n * 3 then cur.toList[j]? else none) = some u → w.cell? ⟨g, 0 + j, none⟩ = some u := by
      intro j u hj
      split at hj
      · rw [Nat.zero_add, cell_of_row w g j cur e (0, 0) hg]; simpa using hj
      · cases hj
    exact ⟨hcell _ _ h1, by have := hcell _ _ h2; simpa [Nat.add_assoc] using this, by have := hcell _ _ h3; simpa [Nat.add_assoc] using this⟩

/-- Headers of objects, not marked, of age 0. -/
def plainH (L : List (List V)) : List Hd := L.map fun o => ((o.length : Int), false, 0)
theorem plainH_len (L : List (List V)) : (plainH L).length = L.length := by simp [plainH]
theorem plainH_succ {L : List (List V)} {k : Nat} (h : k < L.length) : cellsH (plainH (L.take (k + 1))) = cellsH (plainH (L.take k)) ++ [.int .i64 (L[k].length : Int), .bool false, .int .i64 0] := by
  rw [List.take_succ_eq_append_getElem h]; simp only [plainH, List.map_append, List.map_cons, List.map_nil, cellsH_snoc]

end Go.Proofs.Ytemjhdbmcdlpeaa

/- Walks: the document's Lay. -/
namespace Go.Proofs.Ytemjhdbmcdlpeaa
set_option linter.unusedSimpArgs false
set_option linter.unusedVariables false
open Go.RowKit Go.Shelf

/-- The words of the first k objects, with headers. -/
def layHK (st : List Int) (H : List Hd) (L : List (List V)) (k : Nat) : List Int := joinW ((H.take k).map hW) (layFields st (L.take k))
def layHW (st : List Int) (H : List Hd) (L : List (List V)) : List Int := joinW (H.map hW) (layFields st L)

theorem layHK_succ (st : List Int) {H : List Hd} {L : List (List V)} {k : Nat} (hH : k < H.length) (h : k < L.length) : layHK st H L (k + 1) = layHK st H L k ++ ([hW H[k]] ++ L[k].map (packV st)) := by
  unfold layHK layFields
  rw [List.take_succ_eq_append_getElem h, List.take_succ_eq_append_getElem hH, List.map_append, List.map_append]
  exact joinW_snoc _ _ _ _ (by simp; omega)

theorem layHK_len (st : List Int) {H : List Hd} {L : List (List V)} (hl : H.length = L.length) (k : Nat) : (layHK st H L k).length = tot (L.take k) := by
  unfold layHK
  rw [joinW_len _ _ (by simp [layFields, hl])]
  unfold tot layFields
  rw [List.map_map]
  congr 1
  apply List.map_congr_left
  intro l _
  simp

/-- A row of words, whose slice lies in a box. -/
structure BoxW (W : World) (cb : Nat) (s : Value) (l : List Int) (r : Value) : Prop where
  c : W.cell? ⟨cb, 0, none⟩ = some s
  fz : W.frozen? ⟨cb, 0, none⟩ = false
  c1 : W.cell? ⟨cb, 1, none⟩ = some r
  row : W.ownsRow (cb + 1) 56 1 s l.length (wordsV l)

theorem BoxW.below {W W' : World} {cb : Nat} {s r : Value} {l : List Int} (h : BoxW W cb s l r) (hb : Below W.heap.size W W') : BoxW W' cb s l r := by
  have hlt := World.block_lt_of_cell? W _ h.c
  exact ⟨(hb.cell (p := ⟨cb, 0, none⟩) hlt).trans h.c, (hb.frozen (p := ⟨cb, 0, none⟩) hlt).trans h.fz, (hb.cell (p := ⟨cb, 1, none⟩) hlt).trans h.c1, ownsRow_below h.row hb⟩

theorem BoxW.put {W W1 w1 : World} {cb : Nat} {s v1 r : Value} {l : List Int} {x : Int} (h : BoxW W cb s l r) (h1 : Below W.heap.size W W1) (hg : W1.grownBy w1 s.ownBlock) (hrow : w1.ownsRow (cb + 1) 56 1 v1 (l.length + 1) (wordsV l ++ [.int .u64 x])) :
    BoxW (w1.setCell ⟨cb, 0, none⟩ v1) cb v1 (l ++ [x]) r ∧ Below cb W (w1.setCell ⟨cb, 0, none⟩ v1) := by
  have hlt : cb < W.heap.size := World.block_lt_of_cell? W _ h.c
  have hs1 := h1.size
  have hcb : w1.heap[cb]? = W.heap[cb]? := (hg.block cb (by omega) (fun e => by have := (h.row.lt _ e.symm).1; omega)).trans (h1.block cb hlt)
  have hc := (World.cell?_of_block (a := ⟨cb, 0, none⟩) hcb).trans h.c
  refine ⟨⟨World.cell?_setCell_same' _ _ _ (by rw [hc]; rfl), ?_, ?_, ?_⟩, ?_⟩
  · rw [World.frozen?_setCell]; exact (World.frozen?_of_block (a := ⟨cb, 0, none⟩) hcb).trans h.fz
  · rw [World.cell?_setCell_other _ _ _ _ (by simp)]
    exact (World.cell?_of_block (a := ⟨cb, 1, none⟩) hcb).trans h.c1
  · rw [wordsV_snoc, List.length_append]; exact ownsRow_setCell_below hrow (by simp) _
  · exact ((h1.mono (B' := cb) (by omega)).grown hg (by omega) (fun q e => by have := (h.row.lt q e).1; omega)).setCell (p := ⟨cb, 0, none⟩) (Nat.le_refl _) _

theorem WdsN.setCell {x : Option Nat} {W : World} {a : Option Addr} {l : List Int} (h : WdsN x W a l) {p : Addr} (hp : ∀ b off, a = some ⟨b, off, none⟩ → p.block < b) (u : Value) : WdsN x (W.setCell p u) a l := by
  have hs : (W.setCell p u).heap.size = W.heap.size := by simp [World.setCell]
  refine ⟨⟨h.1.1, fun hne => ?_⟩, h.2⟩
  obtain ⟨b, off, rfl, hB, hc⟩ := h.1.2 hne
  have h3 := hp b off rfl
  refine ⟨b, off, rfl, by rw [hs]; exact hB, fun k v hk => ?_⟩
  exact (World.cell?_of_block (a := ⟨b, off + k, none⟩) (Below.heap_setCell W p u b (by omega))).trans (hc k v hk)

def RLayRes (st : List Int) (H : List Hd) (g : Gr) (e : Ending) (W : World) : Prop :=
  ∃ aw cw ar cr, e = .returned (.agg #[.slice aw (layHW st H g.objs).length cw, .slice ar (g.roots.map (packV st)).length cr]) ∧ Wds W.heap.size W aw (layHW st H g.objs) ∧ Wds W.heap.size W ar (g.roots.map (packV st))

set_option maxRecDepth 100000 in
set_option maxHeartbeats 8000000 in
theorem rlay_c (ao ar ah : Option Addr) (co cr ch : Nat) (g : Gr) (H : List Hd) (B : Nat) (w : World) (ho : Objs B w ao g.objs) (hr : Vals B w ar g.roots) (hH : Hdrs B w ah H) (hHl : H.length = g.objs.length) (hB : B ≤ w.heap.size)
    (hn : g.objs.length ≤ 256) (h4 : ∀ l ∈ g.objs, l.length ≤ 4) (h8 : g.roots.length ≤ 8) (hrr : ∀ v ∈ g.roots, v.1 = true → 0 ≤ v.2 ∧ v.2 < g.objs.length) (hro : ∀ l ∈ g.objs, ∀ v ∈ l, v.1 = true → 0 ≤ v.2 ∧ v.2 < g.objs.length) (hnr : NumOk g.roots) (hno : ∀ l ∈ g.objs, NumOk l) :
    Calls Try.prog 30 #[.agg #[.slice ao g.objs.length co, .slice ar g.roots.length cr], .slice ah H.length ch] w fun e w' => RLayRes (stF 0 g.objs) H g e w' ∧ Below w.heap.size w w' := by
  obtain ⟨i0, hi, hz0, hz1, hz2⟩ := info_parts Try.info56
  obtain ⟨i2, hi2, hy0, hy1, hy2⟩ := info_parts Try.info2
  have htL := tot_le5 _ h4
  have HHl := hide hHl
  have hH1 : H.length ≤ g.objs.length := by omega
  have hH2 : g.objs.length ≤ H.length := by omega
  clear hHl
  obtain ⟨W4, hW4⟩ : ∃ W4, (w.alloc (.cells #[.slice ao g.objs.length co, .slice ar g.roots.length cr] 43)).alloc (.cells #[.slice none 0 0, .slice none 0 0] 24) = W4 := ⟨_, rfl⟩
  have hbA : Below w.heap.size w W4 := by rw [← hW4]; exact ((Below.refl w.heap.size w).alloc (Nat.le_refl _) _).alloc (by simp) _
  have hs4 : w.heap.size + 1 < W4.heap.size := by rw [← hW4]; simp
  have q0 : W4.cell? ⟨w.heap.size + 1, 0, none⟩ = some (.slice none 0 0) := by rw [← hW4]; simp [go_sem]
  have q1 : W4.cell? ⟨w.heap.size + 1, 1, none⟩ = some (.slice none 0 0) := by rw [← hW4]; simp [go_sem]
  have f0 : W4.frozen? ⟨w.heap.size + 1, 0, none⟩ = false := by rw [← hW4]; simp [go_sem]
  have f1 : W4.frozen? ⟨w.heap.size + 1, 1, none⟩ = false := by rw [← hW4]; simp [go_sem]
  have g0 : W4.cell? ⟨w.heap.size, 0, none⟩ = some (.slice ao g.objs.length co) := by rw [← hW4]; simp [go_sem]
  have g1 : W4.cell? ⟨w.heap.size, 1, none⟩ = some (.slice ar g.roots.length cr) := by rw [← hW4]; simp [go_sem]
  go_enter Try.func30, Try.ntmps30
  go_wp2
  clear hW4
  go_loopw [5, 6, 19] (fun s nx i wr => ∃ k : Nat, k ≤ g.objs.length ∧ i = .int .i64 k ∧ nx = .int .i64 (tot (g.objs.take k) : Nat) ∧ wr.ownsRow W4.heap.size 2 1 s k (intsV (stF 0 (g.objs.take k))) ∧ Below W4.heap.size W4 wr) (fun _ _ i _ => g.objs.length - (intOf i).toNat)
  case atStart => exact ⟨0, Nat.zero_le _, rfl, rfl, by simpa [intsV, stF] using World.ownsRow_nil _ _ _ _, Below.refl _ _⟩
  case round =>
    obtain ⟨k, hk, rfl, rfl, hown, hb⟩ := hrel
    have hsz := hb.size
    have hbwr : Below w.heap.size w wr := hbA.trans (hb.mono (by omega))
    by_cases hlt : k < g.objs.length
    · obtain ⟨b, off, ai, ci, rfl, hbB, hcb, _⟩ := (ho.below (hbwr.mono hB)).at hlt
      have hf4 := h4 _ (List.getElem_mem hlt)
      have HN := hide (tot_take_succ hlt)
      have hle := tot_take_le g.objs (k + 1)
      rw [unhide HN] at hle
      have HS : Hid (intsV (stF 0 (g.objs.take (k + 1))) = intsV (stF 0 (g.objs.take k)) ++ [.int .i64 ((tot (g.objs.take k) : Nat) : Int)]) := by
        show _ = _
        rw [List.take_succ_eq_append_getElem hlt, stF_snoc, intsV_snoc, Nat.zero_add]
      generalize g.objs[k].length = n at *
      generalize tot (g.objs.take k) = p at *
      go_wp2_with (at_builtin; go_must (refine wpList_append_own _ rfl _ _ 87 rfl W4.heap.size 2 i2 _ 1 8 Try.underlying87 hi2 hy0 hy1 hy2 rfl (by decide) _ _ _ rfl ((hown.alloc _).alloc _) ⟨wr.heap.size + 1, 0, none⟩ 1 1 [.int .i64 (p : Int)] rfl rfl (cell_one_at _ _ _ _ (by simp)) (by simp [Value.oneCell']) (by simp only [maxLen]; omega) (by omega) (by simp; omega) ?_); go_must (intro v' w1 hown' hgrow _; have hc6 := hgrow.cell (a := ⟨wr.heap.size, 0, none⟩) (v := .slice ai n ci) (by simp [go_sem]) (fun e => by have := (hown.lt _ e.symm).2; simp at this)))
      go_roundw
      case rel => exact ⟨k + 1, by omega, by go_num, by rw [unhide HN]; go_num, by rw [unhide HS]; exact hown', ((hb.alloc hsz _).alloc (by simp; omega) _).grown hgrow (by simp; omega) (fun q e => (hown.lt q e).1)⟩
      case measure => simp [intOf]; omega
    · obtain rfl : k = g.objs.length := by omega
      rw [List.take_length] at hown
      obtain ⟨sa, sc, hv, hI, hr9⟩ := ints_of_owns hown (stF_len _ 0).symm (by omega)
      clear hr9 hown
      subst hv
      have hstl := stF_len g.objs 0
      have hstm : ∀ x ∈ stF 0 g.objs, 0 ≤ x ∧ x ≤ 9223372036854775807 := fun x hx => by have := stF_mem g.objs 0 x hx; omega
      replace q0 := (hb.cell (p := ⟨w.heap.size + 1, 0, none⟩) (by simp; omega)).trans q0
      replace q1 := (hb.cell (p := ⟨w.heap.size + 1, 1, none⟩) (by simp; omega)).trans q1
      replace f0 := (hb.frozen (p := ⟨w.heap.size + 1, 0, none⟩) (by simp; omega)).trans f0
      replace f1 := (hb.frozen (p := ⟨w.heap.size + 1, 1, none⟩) (by simp; omega)).trans f1
      replace g0 := (hb.cell (p := ⟨w.heap.size, 0, none⟩) (by simp; omega)).trans g0
      replace g1 := (hb.cell (p := ⟨w.heap.size, 1, none⟩) (by simp; omega)).trans g1
      have Hc1 := hide (rpacked_c ar sa cr sc g.roots (stF 0 g.objs) wr.heap.size wr ((hr.below (hbwr.mono hB)).mono (by omega)) hI (Nat.le_refl _) (by omega) (by rw [hstl]; exact hrr) hstm hnr.wide (by omega))
      have HcP : Hid (∀ W (l : List V) a c, l ∈ g.objs → Below wr.heap.size wr W → Vals B W a l → Calls Try.prog 45 #[.slice a l.length c, .slice sa (stF 0 g.objs).length sc] W fun e w' => ∃ a' cap', e = .returned (.slice a' (l.map (packV (stF 0 g.objs))).length cap') ∧ WdsF W.heap.size w' a' (l.map (packV (stF 0 g.objs))) ∧ Below W.heap.size W w') := fun W l a c hl hb2 hv =>
        rpacked_c a sa c sc l (stF 0 g.objs) W.heap.size W (hv.mono (by have := hb2.size; omega)) ((hI.below hb2).mono hb2.size) (Nat.le_refl _) (by have := h4 l hl; omega) (by rw [hstl]; exact hro l hl) hstm (hno l hl).wide (by omega)
      have hbR := hbwr
      clear hI hstm hbA hbwr hb hstl
      generalize hS : stF 0 g.objs = S at *
      have HS := hide hS
      clear hS
      go_wp2_with fail
      refine (unhide Hc1).mono ?_
      rintro e w6 ⟨ar6, cr6, he, hV6, hb6⟩
      subst he
      clear Hc1
      have hs6 := hb6.size
      have hbw6 : Below w.heap.size w w6 := hbR.trans (hb6.mono (by omega))
      replace q0 := (hb6.cell (p := ⟨w.heap.size + 1, 0, none⟩) (by simp; omega)).trans q0
      replace q1 := (hb6.cell (p := ⟨w.heap.size + 1, 1, none⟩) (by simp; omega)).trans q1
      replace f0 := (hb6.frozen (p := ⟨w.heap.size + 1, 0, none⟩) (by simp; omega)).trans f0
      replace f1 := (hb6.frozen (p := ⟨w.heap.size + 1, 1, none⟩) (by simp; omega)).trans f1
      replace g0 := (hb6.cell (p := ⟨w.heap.size, 0, none⟩) (by simp; omega)).trans g0
      have HV6 := hide hV6
      have hlt6 : w.heap.size < w6.heap.size := by omega
      have hlt6' : w.heap.size + 1 < w6.heap.size := by omega
      have Hrl : Hid ((g.roots.map (packV S)).length = g.roots.length) := by show _ = _; simp
      have HcP6 : Hid (∀ W (l : List V) a c, l ∈ g.objs → Below w6.heap.size w6 W → Vals B W a l → Calls Try.prog 45 #[.slice a l.length c, .slice sa S.length sc] W fun e w' => ∃ a' cap', e = .returned (.slice a' (l.map (packV S)).length cap') ∧ WdsF W.heap.size w' a' (l.map (packV S)) ∧ Below W.heap.size W w') := fun W l a c hl hb2 hv => unhide HcP W l a c hl (hb6.trans (hb2.mono hs6)) hv
      rw [unhide Hrl]
      clear hV6 g1 hb6 HcP
      go_wp2
      go_loopw [42] (fun i wr => ∃ (k : Nat) (x : Value), k ≤ g.objs.length ∧ i = .int .i64 k ∧ Below w6.heap.size w6 wr ∧ BoxW wr w6.heap.size x (layHK S H g.objs k) (.slice ar6 g.roots.length cr6)) (fun i _ => g.objs.length - (intOf i).toNat)
      case atStart => exact ⟨0, .slice none 0 0, Nat.zero_le _, rfl, (Below.refl _ _).alloc (Nat.le_refl _) _, ⟨by simp [go_sem], by simp [go_sem], by simp [go_sem], by simpa [layHK, layFields, joinW, wordsV] using World.ownsRow_nil _ _ _ _⟩⟩
      case round =>
        obtain ⟨k, x, hk, rfl, hb, hbx⟩ := hrel
        have hsz := hb.size
        have hbwr : Below w.heap.size w wr := hbw6.trans (hb.mono (by omega))
        have hq : w6.heap.size < wr.heap.size := World.block_lt_of_cell? wr _ hbx.c
        by_cases hlt : k < g.objs.length
        · have hltH : k < H.length := by omega
          obtain ⟨b, off, ai, ci, rfl, hbB, hcb, hva⟩ := (ho.below (hbwr.mono hB)).at hlt
          obtain ⟨b2, off2, hn2, hm2, he2, rfl, hbB2, hh1, hh2, hh3, HhH⟩ := (hH.below (hbwr.mono hB)).at hltH
          have hmem := List.getElem_mem hlt
          have hf4 := h4 _ hmem
          have HK := hide (layHK_succ S hltH hlt)
          have hLk := layHK_len S (unhide HHl) k
          have hle := tot_take_le g.objs k
          have HhW : Hid (hW H[k] = headW hn2 hm2 he2) := by show _ = _; rw [HhH.out]; rfl
          have HcP2 := hide (fun W a c hb hv => unhide HcP6 W _ a c hmem hb hv)
          have HvO : Hid (Vals B w ai g.objs[k]) := hide (hva.below' (hbwr.mono hB))
          have hkH : (k : Int) < (H.length : Int) := by omega
          rw [unhide HhW] at HK
          generalize g.objs[k] = o at *
          generalize layHK S H g.objs k = pre at *
          have hpl : pre.length ≤ 1280 := by omega
          clear hLk hle hmem HhW HhH hva
          have hb2w : b2 < wr.heap.size := by omega
          have HcH := hide (rhead_c hn2 he2 hm2 (wr.alloc (.cells #[.slice ai o.length ci] 76)))
          go_wp2_with fail
          refine (unhide HcH).mono ?_
          rintro e w8 ⟨he, hb8⟩
          subst he
          clear HcH hh1 hh2 hh3
          simp only [World.size_alloc] at hb8
          have hs8 := hb8.size
          simp only [World.size_alloc] at hs8
          have hb8' : Below wr.heap.size wr w8 := ((Below.refl _ _).alloc (Nat.le_refl _) _).trans (hb8.mono (by omega))
          have bo : w8.cell? ⟨wr.heap.size, 0, none⟩ = some (.slice ai o.length ci) := by rw [hb8.cell (p := ⟨wr.heap.size, 0, none⟩) (by simp)]; simp [go_sem]
          have hbx8 := hbx.below hb8'
          have c08 := hbx8.c
          have cf08 := hbx8.fz
          have hrow8 := hbx8.row
          obtain ⟨ca, cc, rfl⟩ := ownsRow_slice hrow8
          have hncb : Value.ownBlock (.slice ca pre.length cc) ≠ some w6.heap.size := fun e => by have := (hrow8.lt _ e).1; omega
          have hncw : Value.ownBlock (.slice ca pre.length cc) ≠ some wr.heap.size := fun e => by have := (hbx.row.lt _ e).2; omega
          generalize headW hn2 hm2 he2 = hw at *
          generalize headE hn2 he2 = hee at *
          have hq8 : w6.heap.size < w8.heap.size := by omega
          have hqw8 : wr.heap.size < w8.heap.size := by omega
          have hb8a : Below w8.heap.size w8 (w8.alloc (.cells #[.int .u64 hw] 56)) := (Below.refl _ _).alloc (Nat.le_refl _) _
          go_wp2_with (first
            | (at_builtin; go_must (refine wpList_append_own_at _ rfl _ _ 22 rfl (w6.heap.size + 1) 56 i0 _ 1 8 Try.underlying22 hi hz0 hz1 hz2 rfl (by decide) _ _ _ rfl (hrow8.alloc _) ⟨w8.heap.size, 0, none⟩ 1 1 [.int .u64 hw] rfl rfl (cell_one_at _ _ _ _ (by simp)) (by simp [Value.oneCell']) (by simp only [maxLen]; omega) (by omega) (by simp; omega) ?_); go_must (intro v1 w9 hrow9 hg9 _ hat9; obtain ⟨g9, cap9, hv9⟩ := ownsRow_succ hrow9; subst hv9; have hs9 := hg9.size; simp only [World.size_alloc] at hs9; have c09 := hg9.cell ((World.grownBy_alloc w8 (.cells #[.int .u64 hw] 56) none).cell c08 (by simp)) (fun e => hncb e.symm); have cf9 := (World.frozen?_of_block (a := ⟨w6.heap.size, 0, none⟩) (hg9.block w6.heap.size (by simp; omega) (fun e => hncb e.symm))).trans ((World.frozen?_of_block (a := ⟨w6.heap.size, 0, none⟩) (Below.heap_alloc w8 _ _ hq8)).trans cf08); have bo9 := hg9.cell ((World.grownBy_alloc w8 (.cells #[.int .u64 hw] 56) none).cell bo (by simp)) (fun e => hncw e.symm)))
            | fail)
          obtain ⟨r1, r2⟩ := hbx8.put hb8a hg9 hrow9
          obtain ⟨X, hX⟩ : ∃ X, w9.setCell ⟨w6.heap.size, 0, none⟩ (.slice (some ⟨g9, 0, none⟩) (pre.length + 1) cap9) = X := ⟨_, rfl⟩
          rw [hX] at r1 r2
          rw [hX]
          have hbX : Below w6.heap.size w6 X := (hb.trans (hb8'.mono (by omega))).trans r2
          have hqo : wr.heap.size < X.heap.size := by have := r2.size; omega
          have hbwX : Below w.heap.size w X := hbw6.trans (hbX.mono (by omega))
          have Hc3 := hide (unhide HcP2 X ai ci hbX ((unhide HvO).below (hbwX.mono hB)))
          have HR1 := hide r1
          have hol : (o.map (packV S)).length ≤ 4 := by simp; exact hf4
          generalize o.map (packV S) = pv at *
          clear hX bo bo9 c08 cf08 c09 cf9 hrow8 hrow9 hg9 hat9 hb8 hb8' hb8a hbx hbx8 r1 HcP2 HvO
          refine (unhide Hc3).mono ?_
          rintro e w10 ⟨a10, c10, he, hW10, hb10⟩
          subst he
          have hs10 := hb10.size
          have hbx10 := (unhide HR1).below hb10
          have HN10 : Hid (WdsN (some g9) w10 a10 pv) := by
            refine ⟨hW10.1, fun _ b off ha e => ?_⟩
            have h1 := hW10.2 b off ha
            have h2 := (unhide HR1).row.lt g9 rfl
            injection e with e
            omega
          have Hnew : Hid (∀ b off, a10 = some ⟨b, off, none⟩ → w6.heap.size < b) := fun b off ha => by have := hW10.2 b off ha; omega
          have HB10 := hide hbx10
          clear Hc3 hW10 HR1 hbx10
          go_wp2
          go_loopw [66] (fun i wi => ∃ (j : Nat) (y : Value), j ≤ pv.length ∧ i = .int .i64 j ∧ BoxW wi w6.heap.size y (pre ++ [hw] ++ pv.take j) (.slice ar6 g.roots.length cr6) ∧ Below w6.heap.size w6 wi ∧ Hid (WdsN y.ownBlock wi a10 pv)) (fun i _ => pv.length - (intOf i).toNat)
          case atStart => exact ⟨0, .slice (some ⟨g9, 0, none⟩) (pre.length + 1) cap9, Nat.zero_le _, rfl, by simpa using unhide HB10, hbX.trans (hb10.mono (by omega)), HN10⟩
          case round =>
            clear HN10 HB10 hb10 hs10 hs9 hs8
            obtain ⟨j, y, hj, rfl, hbx, hb2, HN⟩ := hrel
            have hsz2 := hb2.size
            have hq2 : w6.heap.size < wr.heap.size := World.block_lt_of_cell? wr _ hbx.c
            by_cases hlt2 : j < pv.length
            · obtain ⟨b4, off4, rfl, hbB4, hc4⟩ := (unhide HN).1.at hlt2
              have HT : Hid (pre ++ [hw] ++ pv.take (j + 1) = (pre ++ [hw] ++ pv.take j) ++ [pv[j]]) := by show _ = _; rw [List.take_succ_eq_append_getElem hlt2, ← List.append_assoc]
              have hpl2 : (pre ++ [hw] ++ pv.take j).length ≤ 1285 := by simp; omega
              have HN2 := hide ((unhide HN).below ((Below.refl _ _).alloc (Nat.le_refl _) (.cells #[.int .u64 pv[j]] 56)))
              generalize pv[j] = z at *
              generalize pre ++ [hw] ++ pv.take j = pre2 at *
              have c08 := hbx.c
              have cf08 := hbx.fz
              have hrow8 := hbx.row
              obtain ⟨ca2, cc2, rfl⟩ := ownsRow_slice hrow8
              have hncb2 : Value.ownBlock (.slice ca2 pre2.length cc2) ≠ some w6.heap.size := fun e => by have := (hrow8.lt _ e).1; omega
              have Hbx := hide hbx
              clear hbx
              go_wp2_with (at_builtin; go_must (refine wpList_append_own_at _ rfl _ _ 22 rfl (w6.heap.size + 1) 56 i0 _ 1 8 Try.underlying22 hi hz0 hz1 hz2 rfl (by decide) _ _ _ rfl (hrow8.alloc _) ⟨wr.heap.size, 0, none⟩ 1 1 [.int .u64 z] rfl rfl (cell_one_at _ _ _ _ (by simp)) (by simp [Value.oneCell']) (by simp only [maxLen]; omega) (by omega) (by simp; omega) ?_); go_must (intro v1 w9 hrow9 hg9 _ hat9; obtain ⟨g9', cap9', hv9⟩ := ownsRow_succ hrow9; subst hv9; have hs9 := hg9.size; simp only [World.size_alloc] at hs9; have c09 := hg9.cell ((World.grownBy_alloc wr (.cells #[.int .u64 z] 56) none).cell c08 (by simp)) (fun e => hncb2 e.symm); have cf9 := (World.frozen?_of_block (a := ⟨w6.heap.size, 0, none⟩) (hg9.block w6.heap.size (by simp; omega) (fun e => hncb2 e.symm))).trans ((World.frozen?_of_block (a := ⟨w6.heap.size, 0, none⟩) (Below.heap_alloc wr _ _ hq2)).trans cf08)))
              go_roundw
              case rel =>
                obtain ⟨r1, r2⟩ := (unhide Hbx).put ((Below.refl _ _).alloc (Nat.le_refl _) _) hg9 hrow9
                exact ⟨j + 1, _, by omega, by go_num, by rw [unhide HT]; exact r1, hb2.trans r2, hide (((unhide HN2).append hg9 hat9).setCell (p := ⟨w6.heap.size, 0, none⟩) (unhide Hnew) _)⟩
              case measure => simp [intOf]; omega
            · obtain rfl : j = pv.length := by omega
              rw [List.take_length] at hbx
              go_wp2
              go_roundw
              case rel => exact ⟨k + 1, y, by omega, by go_num, hb2, by rw [unhide HK, ← List.append_assoc]; exact hbx⟩
              case measure => simp [intOf]; omega
        · obtain rfl : k = g.objs.length := by omega
          have hall : layHK S H g.objs g.objs.length = layHW S H g.objs := by unfold layHK layHW; rw [List.take_length, ← unhide HHl, List.take_length]
          have hlen : (layHW S H g.objs).length ≤ 1280 := by rw [← hall, layHK_len S (unhide HHl)]; have := tot_take_le g.objs g.objs.length; omega
          rw [hall] at hbx
          have c0 := hbx.c
          have c1 := hbx.c1
          obtain ⟨va', vc', hv, hWF, _⟩ := wordsF_of_owns hbx.row rfl (by omega)
          subst hv
          have HWF := hide hWF
          have HRF := hide ((unhide HV6).below hb)
          clear hWF hbx hall
          replace q0 := (hb.cell (p := ⟨w.heap.size + 1, 0, none⟩) (by simp; omega)).trans q0
          replace q1 := (hb.cell (p := ⟨w.heap.size + 1, 1, none⟩) (by simp; omega)).trans q1
          replace f0 := (hb.frozen (p := ⟨w.heap.size + 1, 0, none⟩) (by simp; omega)).trans f0
          replace f1 := (hb.frozen (p := ⟨w.heap.size + 1, 1, none⟩) (by simp; omega)).trans f1
          generalize hLW : layHW S H g.objs = LW at *
          have HLW := hide hLW
          clear hLW
          go_wp2
          refine bodyPost_ret (v := .agg #[.slice va' LW.length vc', .slice ar6 g.roots.length cr6]) (by simp [results, Try.results30, go_sem, q0, q1, f0, f1]) rfl ?_
          have e1 : layHW (stF 0 g.objs) H g.objs = LW := by rw [unhide HS]; exact unhide HLW
          refine ⟨⟨va', vc', ar6, cr6, by rw [e1, unhide HS, unhide Hrl], ?_, ?_⟩, (hbwr.setCell (p := ⟨w.heap.size + 1, 0, none⟩) (by simp) _).setCell (p := ⟨w.heap.size + 1, 1, none⟩) (by simp) _⟩
          · rw [e1]
            exact (((unhide HWF).setCell (p := ⟨w.heap.size + 1, 0, none⟩) (by simp; omega) _).setCell (p := ⟨w.heap.size + 1, 1, none⟩) (by simp; omega) _).1
          · rw [unhide HS]
            exact (((unhide HRF).setCell (p := ⟨w.heap.size + 1, 0, none⟩) (by simp; omega) _).setCell (p := ⟨w.heap.size + 1, 1, none⟩) (by simp; omega) _).1

end Go.Proofs.Ytemjhdbmcdlpeaa

/- Walks: the document's Heads. -/
namespace Go.Proofs.Ytemjhdbmcdlpeaa
set_option linter.unusedSimpArgs false
set_option linter.unusedVariables false
open Go.RowKit Go.Shelf

/-- The headers of words. -/
def headsH (hs : List Int) : List Hd := hs.map fun x => (uhL x, uhM x, uhA x)
theorem headsH_len (hs : List Int) : (headsH hs).length = hs.length := by simp [headsH]
theorem headsH_succ {hs : List Int} {k : Nat} {x : Int} (hx : hs[k]? = some x) : headsH (hs.take (k + 1)) = headsH (hs.take k) ++ [(uhL x, uhM x, uhA x)] := by
  have hk := (List.getElem?_eq_some_iff.1 hx).1
  rw [List.take_succ_eq_append_getElem hk, (List.getElem?_eq_some_iff.1 hx).2]
  simp [headsH]

theorem owns_mono {w : World} {base base' : Nat} {e : TypeId} {size : Nat} {v : Value} {n : Nat} {xs : List Value} (h : w.ownsRow base e size v n xs) (hb : base' ≤ base) : w.ownsRow base' e size v n xs := by
  refine ⟨h.1, ?_⟩
  rcases h.2 with h2 | ⟨g, cap, cur, h1, h2, h3⟩
  · exact .inl h2
  · exact .inr ⟨g, cap, cur, h1, by omega, h3⟩

set_option maxRecDepth 100000 in
set_option maxHeartbeats 2000000 in
theorem heads_c (aw ar : Option Addr) (cw nr cr : Nat) (ws : List Int) (hs : List Int) (fs : List (List Int)) (B : Nat) (w : World) (hW : Wds B w aw ws) (hUW : U64 ws) (hB : B ≤ w.heap.size) (hF : Fit hs fs) (hws : ws = joinW hs fs) (h256 : ws.length ≤ 256) :
    Calls Try.prog 8 #[.agg #[.slice aw ws.length cw, .slice ar nr cr]] w fun e w' => (∃ v, e = .returned v ∧ w'.ownsRow w.heap.size 32 3 v hs.length (cellsH (headsH hs))) ∧ Below w.heap.size w w' := by
  obtain ⟨i0, hi0, hz0, hz1, hz2⟩ := info_parts Try.info32
  have hsp : splitR ws = some fs := by rw [hws]; exact fit_split hF
  have htot : tot fs = ws.length := by rw [hws, joinW_len _ _ hF.len]
  obtain ⟨W1, hW1⟩ : ∃ W1, w.alloc (.cells #[.slice aw ws.length cw, .slice ar nr cr] 24) = W1 := ⟨_, rfl⟩
  have hb1 : Below w.heap.size w W1 := by rw [← hW1]; exact (Below.refl w.heap.size w).alloc (Nat.le_refl _) _
  have hs1 : w.heap.size < W1.heap.size := by rw [← hW1]; simp
  have g0 : W1.cell? ⟨w.heap.size, 0, none⟩ = some (.slice aw ws.length cw) := by rw [← hW1]; simp [go_sem]
  have Hc1 := hide (rstarts_c aw cw ws B W1 (hW.below (hb1.mono hB)) hUW (by omega) h256)
  have Hw : Hid (∀ k x, hs[k]? = some x → ws[tot (fs.take k)]? = some x) := fun k x hx => by
    have hk : k < fs.length := by have := (List.getElem?_eq_some_iff.1 hx).1; have := hF.len; omega
    rw [hws, joinW_get _ _ _ hF.len hk]; exact hx
  have Hat : Hid (∀ k, k < fs.length → ∃ x, hs[k]? = some x ∧ unheadOk x = true ∧ wlen x = (fs.getD k []).length ∧ 0 ≤ x ∧ x < 18446744073709551616) := fun k hk => by
    obtain ⟨x, h1, h2, h3, h4⟩ := fit_at hF hk
    exact ⟨x, h1, h2, by rw [List.getD_eq_getElem?_getD, List.getElem?_eq_getElem hk]; exact h3, h4⟩
  have hlen : hs.length ≤ fs.length := by have := hF.len; omega
  have hlen' : fs.length ≤ hs.length := by have := hF.len; omega
  have htl := tot_len fs
  have Hsp := hide hsp
  have htw : tot fs ≤ ws.length := by omega
  clear hF hws hsp htot
  go_enter Try.func8, Try.ntmps8
  go_wp2_with fail
  refine (unhide Hc1).mono ?_
  rintro e w2 ⟨hres, hb2⟩
  obtain ⟨fs', sa, sc, hfs', he, hI⟩ := hres.resolve_left (fun h => by have := unhide Hsp; rw [h.1] at this; cases this)
  obtain rfl : fs' = fs := by have := unhide Hsp; rw [hfs'] at this; injection this
  subst he
  have hs2 := hb2.size
  have hbw2 : Below w.heap.size w w2 := hb1.trans (hb2.mono (by omega))
  replace g0 := (hb2.cell (p := ⟨w.heap.size, 0, none⟩) hs1).trans g0
  have hl2 : w.heap.size < w2.heap.size := by omega
  have HI := hide hI
  have HW := hide (hW.below (hbw2.mono hB))
  have hst : (stF 0 fs').length = fs'.length := stF_len fs' 0
  have hst1 : (stF 0 fs').length ≤ fs'.length := by omega
  have hst2 : fs'.length ≤ (stF 0 fs').length := by omega
  have Hsg := hide (fun k hk => stF_get fs' 0 k hk)
  clear hW1 Hc1 hres hfs' hI hb1 hb2 hst hW
  go_wp2
  go_loopw [5, 18] (fun s i wr => ∃ k : Nat, k ≤ fs'.length ∧ i = .int .i64 k ∧ wr.ownsRow w2.heap.size 32 3 s k (cellsH (headsH (hs.take k))) ∧ Below w2.heap.size w2 wr) (fun _ i _ => fs'.length - (intOf i).toNat)
  case atStart => exact ⟨0, Nat.zero_le _, rfl, by simpa [cellsH, headsH] using World.ownsRow_nil _ _ _ _, Below.refl _ _⟩
  case round =>
    obtain ⟨k, hk, rfl, hown, hb⟩ := hrel
    have hsz := hb.size
    have g0r := (hb.cell (p := ⟨w.heap.size, 0, none⟩) hl2).trans g0
    have hlr : w.heap.size < wr.heap.size := by omega
    by_cases hlt : k < fs'.length
    · obtain ⟨x, hx, hx1, hx2, hx3, hx4⟩ := unhide Hat k hlt
      have hltS : k < (stF 0 fs').length := by omega
      obtain ⟨b1, o1, rfl, hB1, hc1⟩ := ((unhide HI).below hb).at hltS
      have h1 := unhide Hsg k hlt
      rw [List.getElem?_eq_getElem hltS, Option.some.injEq, Nat.zero_add] at h1
      rw [h1] at hc1
      have hwx := unhide Hw k x hx
      have hpl : tot (fs'.take k) < ws.length := (List.getElem?_eq_some_iff.1 hwx).1
      obtain ⟨b2, o2, rfl, hB2, hc2⟩ := ((unhide HW).below (hb.mono (by omega))).at hpl
      rw [(List.getElem?_eq_some_iff.1 hwx).2] at hc2
      have HS := hide (headsH_succ hx)
      have hkI : (k : Int) < ((stF 0 fs').length : Int) := by omega
      have hpI : ((tot (fs'.take k) : Nat) : Int) < (ws.length : Int) := by omega
      have hq1 : b1 < wr.heap.size := by omega
      have hq2 : b2 < wr.heap.size := by omega
      clear h1 hwx hx hx2
      generalize tot (fs'.take k) = q at *
      generalize (stF 0 fs').length = sl at *
      go_wp2_with (first
        | (go_at_call 28; go_must (refine (runhead_c x _ hx3 hx4).mono ?_); go_must (rintro e w3 ⟨he, hb3⟩; subst he; have hs3 := hb3.size; have hown3 := ownsRow_below hown hb3))
        | (at_builtin; go_must (refine wpList_append_own _ rfl _ _ 29 rfl w2.heap.size 32 i0 _ 3 24 Try.underlying29 hi0 hz0 hz1 hz2 rfl (by decide) _ _ _ rfl ((hown3.alloc _).alloc _) ⟨w3.heap.size + 1, 0, none⟩ 1 1 [.int .i64 (uhL x), .bool (uhM x), .int .i64 (uhA x)] rfl rfl (cell_three_at _ _ _ _ _ _ (by simp)) (by simp [Value.oneCell']) (by simp only [maxLen]; omega) (by omega) (by simp; omega) ?_); intro v' w1 hown' hgrow _))
      go_roundw
      case rel => exact ⟨k + 1, by omega, by go_num, by rw [unhide HS, cellsH_snoc]; exact hown', (((hb.trans (hb3.mono hsz)).alloc (by omega) _).alloc (by simp; omega) _).grown hgrow (by simp; omega) (fun q e => (hown3.lt q e).1)⟩
      case measure => simp [intOf]; omega
    · obtain rfl : k = fs'.length := by omega
      have hkI : ¬ ((fs'.length : Int) < ((stF 0 fs').length : Int)) := by omega
      have Hown : Hid (wr.ownsRow w.heap.size 32 3 u5 fs'.length (cellsH (headsH hs))) := by
        have := owns_mono (base' := w.heap.size) hown (by omega)
        rw [List.take_of_length_le hlen] at this
        exact this
      have Hln : Hid (hs.length = fs'.length) := by show _ = _; omega
      clear hown
      go_wp2
      go_ret
      refine ⟨⟨_, rfl, ?_⟩, hbw2.trans (hb.mono (by omega))⟩
      rw [unhide Hln]
      exact unhide Hown

end Go.Proofs.Ytemjhdbmcdlpeaa

/- Plain: the document's Mark lays what was read, with marks. -/
namespace Go.Proofs.Ytemjhdbmcdlpeaa
set_option linter.unusedSimpArgs false
set_option linter.unusedVariables false
open Go.RowKit Go.Shelf

/-- Headers, the first k of them with these marks. -/
def hdK (hs : List Int) (p : Nat → Bool) (k : Nat) : List Hd := hs.mapIdx fun i x => (uhL x, if i < k then p i else uhM x, uhA x)

theorem hdK_len (hs : List Int) (p : Nat → Bool) (k : Nat) : (hdK hs p k).length = hs.length := by simp [hdK]
theorem hdK_get (hs : List Int) (p : Nat → Bool) (k i : Nat) : (hdK hs p k)[i]? = (hs[i]?).map fun x => (uhL x, if i < k then p i else uhM x, uhA x) := by simp [hdK, List.getElem?_mapIdx]
theorem hdK_zero (hs : List Int) (p : Nat → Bool) : hdK hs p 0 = headsH hs := by
  apply List.ext_getElem?
  intro i
  rw [hdK_get, headsH, List.getElem?_map]
  simp
theorem hdK_set {hs : List Int} {p : Nat → Bool} {k : Nat} {x : Int} (hx : hs[k]? = some x) : (hdK hs p k).set k (uhL x, p k, uhA x) = hdK hs p (k + 1) := by
  apply List.ext_getElem?
  intro i
  have hk := (List.getElem?_eq_some_iff.1 hx).1
  rw [List.getElem?_set, hdK_get, hdK_get, hdK_len]
  by_cases e : k = i
  · subst e
    rw [if_pos rfl, if_pos hk, hx]
    simp
  · rw [if_neg e]
    cases hs[i]? with
    | none => rfl
    | some y =>
      simp only [Option.map_some]
      by_cases hi : i < k
      · rw [if_pos hi, if_pos (by omega)]
      · rw [if_neg hi, if_neg (by omega)]
theorem hdK_all (hs : List Int) (p : Nat → Bool) (k : Nat) (h : hs.length ≤ k) : (hdK hs p k).map hW = mkH hs p := by
  apply List.ext_getElem?
  intro i
  rw [List.getElem?_map, hdK_get, mkH_get]
  cases e : hs[i]? with
  | none => rfl
  | some y =>
    have := (List.getElem?_eq_some_iff.1 e).1
    simp only [Option.map_some]
    rw [if_pos (by omega)]
    rfl

theorem cellsH_set : ∀ (l : List Hd) (k : Nat) (h : Hd) (b : Bool), l[k]? = some h → (cellsH l).set (k * 3 + 1) (.bool b) = cellsH (l.set k (h.1, b, h.2.2))
  | [], _, _, _, h => by simp at h
  | x :: l, 0, h, b, e => by simp at e; subst e; simp [cellsH]
  | x :: l, k + 1, h, b, e => by
    have ih := cellsH_set l k h b (by simpa using e)
    have e1 : (k + 1) * 3 + 1 = k * 3 + 1 + 1 + 1 + 1 := by omega
    rw [e1]
    simp only [cellsH, List.flatMap_cons, List.cons_append, List.nil_append, List.set_cons_succ] at *
    rw [ih]

theorem read_lay {hs : List Int} {fs : List (List Int)} {rs : List Int} (h : Arn hs fs rs) : stF 0 (readG fs rs).objs = stF 0 fs ∧ layFields (stF 0 fs) (readG fs rs).objs = fs ∧ (readG fs rs).roots.map (packV (stF 0 fs)) = rs ∧ NumOk (readG fs rs).roots ∧ ∀ l ∈ (readG fs rs).objs, NumOk l := by
  have hnd := stF_nodup fs 0
  refine ⟨stF_same _ _ _ (lens_read fs rs), ?_, map_word_back hnd h.ur h.okr, ⟨?_⟩, fun l hl => ⟨?_⟩⟩
  · unfold layFields readG
    simp only
    rw [List.map_map]
    conv => rhs; rw [← List.map_id fs]
    apply List.map_congr_left
    intro f hf
    exact map_word_back hnd (h.uf f hf) (h.okf f hf)
  · intro v hv hr
    unfold readG at hv
    obtain ⟨x, hx, rfl⟩ := List.mem_map.1 hv
    exact (word_back hnd (h.ur x hx).1 (h.ur x hx).2 (h.okr x hx)).2.2 hr
  · intro v hv hr
    unfold readG at hl
    obtain ⟨f, hf, rfl⟩ := List.mem_map.1 hl
    obtain ⟨x, hx, rfl⟩ := List.mem_map.1 hv
    exact (word_back hnd (h.uf f hf x hx).1 (h.uf f hf x hx).2 (h.okf f hf x hx)).2.2 hr

end Go.Proofs.Ytemjhdbmcdlpeaa

/- Plain: the arena that was moved to. -/
namespace Go.Proofs.Ytemjhdbmcdlpeaa
set_option linter.unusedSimpArgs false
set_option linter.unusedVariables false
open Go.RowKit

/-- Its headers and its fields. -/
def mH (hs : List Int) (fs : List (List Int)) (rs : List Int) : List Int := (orderOf (readG fs rs)).map (hO hs)
def mF (fs : List (List Int)) (rs : List Int) : List (List Int) := (orderOf (readG fs rs)).map fun o => (fO fs o).map (twW fs (orderOf (readG fs rs)))

theorem mvL_eq (hs : List Int) (fs : List (List Int)) (rs : List Int) : mvL hs fs rs = joinW (mH hs fs rs) (mF fs rs) := rfl

theorem ord_ok {hs : List Int} {fs : List (List Int)} {rs : List Int} (h : Arn hs fs rs) : OOk fs (orderOf (readG fs rs)) := oK_ok h _

theorem field_of {fs : List (List Int)} (rs : List Int) {o : Int} (h0 : 0 ≤ o) (h1 : o < fs.length) : fieldsOf (readG fs rs) o = (fO fs o).map (valW (stF 0 fs)) := by
  obtain ⟨i, rfl⟩ := Int.eq_ofNat_of_zero_le h0
  have hi : i < fs.length := by omega
  rw [fieldsOf_read (List.getElem?_eq_getElem hi)]
  simp [fO, List.getD_eq_getElem?_getD, hi]

theorem canon_objs {hs : List Int} {fs : List (List Int)} {rs : List Int} (h : Arn hs fs rs) : (canonG (readG fs rs)).objs = (orderOf (readG fs rs)).map fun o => ((fO fs o).map (valW (stF 0 fs))).map (renV (orderOf (readG fs rs))) := by
  unfold canonG
  simp only
  apply List.map_congr_left
  intro o ho
  have := (ord_ok h).rng o ho
  rw [field_of rs this.1 this.2]

theorem canon_st {hs : List Int} {fs : List (List Int)} {rs : List Int} (h : Arn hs fs rs) : stF 0 (canonG (readG fs rs)).objs = stF 0 ((orderOf (readG fs rs)).map (fO fs)) := by
  rw [canon_objs h]
  apply stF_same
  rw [List.map_map, List.map_map]
  apply List.map_congr_left
  intro o _
  simp

theorem mF_st {hs : List Int} {fs : List (List Int)} {rs : List Int} (h : Arn hs fs rs) : stF 0 (mF fs rs) = stF 0 (canonG (readG fs rs)).objs := by
  rw [canon_st h]
  apply stF_same
  unfold mF
  rw [List.map_map, List.map_map]
  apply List.map_congr_left
  intro o _
  simp

theorem mF_lay {hs : List Int} {fs : List (List Int)} {rs : List Int} (h : Arn hs fs rs) : mF fs rs = layFields (stF 0 (canonG (readG fs rs)).objs) (canonG (readG fs rs)).objs := by
  unfold layFields
  rw [canon_st h, canon_objs h, List.map_map]
  unfold mF
  apply List.map_congr_left
  intro o _
  simp only [Function.comp, List.map_map]
  rfl

theorem mR_lay {hs : List Int} {fs : List (List Int)} {rs : List Int} (h : Arn hs fs rs) : mvR fs rs = (canonG (readG fs rs)).roots.map (packV (stF 0 (canonG (readG fs rs)).objs)) := by
  rw [canon_st h]
  unfold mvR canonG readG
  simp only [List.map_map]
  rfl

theorem mH_len (hs : List Int) (fs : List (List Int)) (rs : List Int) : (mH hs fs rs).length = (orderOf (readG fs rs)).length := by simp [mH]
theorem mF_len (fs : List (List Int)) (rs : List Int) : (mF fs rs).length = (orderOf (readG fs rs)).length := by simp [mF]
theorem mF_tot (fs : List (List Int)) (rs : List Int) : tot (mF fs rs) = tot ((orderOf (readG fs rs)).map (fO fs)) := by
  unfold tot mF
  rw [List.map_map, List.map_map]
  congr 1
  apply List.map_congr_left
  intro o _
  simp

theorem canon_len (g : Gr) : (canonG g).objs.length = (orderOf g).length := by simp [canonG]

theorem good_canon {g : Gr} (h : Good g) : Good (canonG g) := by
  have hl := (searchN_ok h g.objs.length).le
  have hol : (orderOf g).length ≤ g.objs.length := hl
  have hn := h.n24
  have key : ∀ (l : List V), RefsOk l → (∀ x ∈ refsL l, x ∈ orderOf g) → ∀ v ∈ l.map (renV (orderOf g)), v.1 = true → 0 ≤ v.2 ∧ v.2 < (canonG g).objs.length := by
    intro l hl hm v hv h1
    obtain ⟨u, hu, rfl⟩ := List.mem_map.1 hv
    have hu1 : u.1 = true := by
      cases hu1 : u.1
      · unfold renV at h1; rw [hu1] at h1; simp [hu1] at h1
      · rfl
    have := placeOf_bounds (hm _ (mem_refs_of hl hu hu1))
    unfold renV
    rw [if_pos hu1, canon_len]
    exact this
  refine ⟨by rw [canon_len]; omega, by simpa [canonG] using h.n8, ?_, ?_, ?_⟩
  · intro l hl
    unfold canonG at hl
    obtain ⟨o, ho, rfl⟩ := List.mem_map.1 hl
    have := order_ok h ho
    simpa using h.n4 _ (fieldsOf_mem this.1 this.2)
  · intro v hv
    exact key _ h.refsRoots (order_roots g) v hv
  · intro l hl v hv
    unfold canonG at hl
    obtain ⟨o, ho, rfl⟩ := List.mem_map.1 hl
    have := order_ok h ho
    exact key _ (h.refsObjs (fieldsOf_mem this.1 this.2)) (order_closed h ho) v hv

theorem num_ren {O : List Int} {l : List V} (h : NumOk l) : NumOk (l.map (renV O)) := by
  refine ⟨fun v hv h1 => ?_⟩
  obtain ⟨u, hu, rfl⟩ := List.mem_map.1 hv
  unfold renV at h1 ⊢
  split
  · rename_i h2; rw [if_pos h2] at h1; cases h1
  · rename_i h2; rw [if_neg h2] at h1; exact h.num u hu h1

theorem num_canon {hs : List Int} {fs : List (List Int)} {rs : List Int} (h : Arn hs fs rs) : NumOk (canonG (readG fs rs)).roots ∧ ∀ l ∈ (canonG (readG fs rs)).objs, NumOk l := by
  obtain ⟨_, _, _, h1, h2⟩ := read_lay h
  refine ⟨num_ren h1, fun l hl => ?_⟩
  unfold canonG at hl
  obtain ⟨o, ho, rfl⟩ := List.mem_map.1 hl
  have := order_ok (good_read h) ho
  exact num_ren (h2 _ (fieldsOf_mem this.1 this.2))

theorem canon_tot {hs : List Int} {fs : List (List Int)} {rs : List Int} (h : Arn hs fs rs) : tot (canonG (readG fs rs)).objs = tot (mF fs rs) := by
  rw [mF_lay h]
  unfold tot
  rw [show (fun f : List Int => f.length + 1) = (fun n => n + 1) ∘ List.length from rfl, show (fun f : List V => f.length + 1) = (fun n => n + 1) ∘ List.length from rfl, ← List.map_map, ← List.map_map, lens_fields]

theorem mF_256 {hs : List Int} {fs : List (List Int)} {rs : List Int} (h : Arn hs fs rs) : tot (mF fs rs) ≤ 256 := by
  rw [mF_tot]
  have := (ord_ok h).tot_le
  have := h.n256
  omega

theorem arn_moved {hs : List Int} {fs : List (List Int)} {rs : List Int} (h : Arn hs fs rs) : Arn (mH hs fs rs) (mF fs rs) (mvR fs rs) := by
  have hG := good_canon (good_read h)
  obtain ⟨hnr, hno⟩ := num_canon h
  have ht : tot (canonG (readG fs rs)).objs ≤ 256 := by rw [canon_tot h]; exact mF_256 h
  have hr := map_back ht hG.rr hnr
  refine ⟨⟨by rw [mH_len, mF_len], ?_⟩, mF_256 h, by simpa [mvR] using h.n8, ?_, ?_, ?_, ?_⟩
  · intro k x f hx hf
    unfold mH at hx
    unfold mF at hf
    rw [List.getElem?_map] at hx hf
    cases ho : (orderOf (readG fs rs))[k]? with
    | none => rw [ho] at hx; cases hx
    | some o =>
      rw [ho] at hx hf
      simp only [Option.map_some, Option.some.injEq] at hx hf
      subst hx hf
      have hrg := (ord_ok h).rng o (List.mem_of_getElem? ho)
      obtain ⟨i, rfl⟩ := Int.eq_ofNat_of_zero_le hrg.1
      have hi : i < fs.length := by omega
      obtain ⟨y, hy, hy1, hy2, hy3, hy4⟩ := fit_at h.fit hi
      have e1 : hO hs (i : Int) = ageW y := by simp [hO, List.getD_eq_getElem?_getD, hy]
      have e2 : fO fs (i : Int) = fs[i] := by simp [fO, List.getD_eq_getElem?_getD, hi]
      have ha := ageW_ok y
      rw [e1, e2]
      exact ⟨ha.1, by rw [ageW_wlen hy1, hy2]; simp, ha.2.2.2.2⟩
  · rw [mR_lay h]; exact hr.2.2
  · intro f hf
    rw [mF_lay h] at hf
    obtain ⟨l, hl, rfl⟩ := List.mem_map.1 hf
    exact (map_back ht (hG.ro l hl) (hno l hl)).2.2
  · rw [mR_lay h, mF_st h]; exact hr.2.1
  · intro f hf
    rw [mF_st h]
    rw [mF_lay h] at hf
    obtain ⟨l, hl, rfl⟩ := List.mem_map.1 hf
    exact (map_back ht (hG.ro l hl) (hno l hl)).2.1

/-- It is numbered as found. -/
theorem read_moved {hs : List Int} {fs : List (List Int)} {rs : List Int} (h : Arn hs fs rs) : readG (mF fs rs) (mvR fs rs) = canonG (readG fs rs) := by
  have hG := good_canon (good_read h)
  obtain ⟨hnr, hno⟩ := num_canon h
  have ht : tot (canonG (readG fs rs)).objs ≤ 256 := by rw [canon_tot h]; exact mF_256 h
  have e1 : (mF fs rs).map (fun f => f.map (valW (stF 0 (mF fs rs)))) = (canonG (readG fs rs)).objs := by
    rw [mF_st h, mF_lay h]
    unfold layFields
    rw [List.map_map]
    conv => rhs; rw [← List.map_id (canonG (readG fs rs)).objs]
    apply List.map_congr_left
    intro l hl
    exact (map_back ht (hG.ro l hl) (hno l hl)).1
  have e2 : (mvR fs rs).map (valW (stF 0 (mF fs rs))) = (canonG (readG fs rs)).roots := by
    rw [mF_st h, mR_lay h]
    exact (map_back ht hG.rr hnr).1
  unfold readG
  rw [e1, e2]
  rfl

/-- How many words what can be come to has. -/
def sizeR (fs : List (List Int)) (R : List Int) : Nat := tot (R.map (fO fs))

theorem size_eq {hs : List Int} {fs : List (List Int)} {rs : List Int} (h : Arn hs fs rs) : sizeR fs (reachK (readG fs rs) (readG fs rs).objs.length) = tot (mF fs rs) := by
  have hO := ord_ok h
  have hnd : (reachK (readG fs rs) (readG fs rs).objs.length).Nodup := by
    unfold reachK
    unfold List.Nodup
    rw [List.pairwise_map]
    exact (List.Pairwise.filter _ List.nodup_range).imp (fun h e => h (by omega))
  have hm : ∀ x, x ∈ reachK (readG fs rs) (readG fs rs).objs.length ↔ x ∈ orderOf (readG fs rs) := by
    intro x
    constructor
    · intro hx
      have hx0 : ∃ j : Nat, x = (j : Int) := by
        unfold reachK at hx
        obtain ⟨j, _, e⟩ := List.mem_map.1 hx
        exact ⟨j, e.symm⟩
      obtain ⟨j, rfl⟩ := hx0
      exact (rch_order h j).1 ((mem_reachK h j).1 hx)
    · intro hx
      obtain ⟨j, rfl⟩ := Int.eq_ofNat_of_zero_le (hO.rng x hx).1
      exact (mem_reachK h j).2 ((rch_order h j).2 hx)
  have e : ∀ (L : List Int), tot (L.map (fO fs)) = (L.map fun o => (fO fs o).length + 1).sum := fun L => by unfold tot; rw [List.map_map]; rfl
  unfold sizeR
  rw [mF_tot, e, e]
  have a := sum_sub (fun o : Int => (fO fs o).length + 1) _ _ hnd (fun x hx => (hm x).1 hx)
  have b := sum_sub (fun o : Int => (fO fs o).length + 1) _ _ hO.nd (fun x hx => (hm x).2 hx)
  omega

end Go.Proofs.Ytemjhdbmcdlpeaa

/- Plain: the arena that was moved down. -/
namespace Go.Proofs.Ytemjhdbmcdlpeaa
set_option linter.unusedSimpArgs false
set_option linter.unusedVariables false
open Go.RowKit

/-- A header without its mark, by the object's number. -/
def rO (hs : List Int) (o : Int) : Int := reh false (hs.getD o.toNat 0)
/-- The headers, fields and roots of the objects of a list, as they stand there. -/
def sH (hs : List Int) (L : List Int) : List Int := L.map (rO hs)
def sF (fs : List (List Int)) (L : List Int) : List (List Int) := L.map fun o => (fO fs o).map (twW fs L)
def sR (fs : List (List Int)) (L : List Int) (rs : List Int) : List Int := rs.map (twW fs L)

theorem sH_len (hs L : List Int) : (sH hs L).length = L.length := by simp [sH]
theorem sF_len (fs : List (List Int)) (L : List Int) : (sF fs L).length = L.length := by simp [sF]
theorem sF_tot (fs : List (List Int)) (L : List Int) : tot (sF fs L) = tot (L.map (fO fs)) := by
  unfold tot sF
  rw [List.map_map, List.map_map]
  congr 1
  apply List.map_congr_left
  intro o _
  simp

section
variable {hs : List Int} {fs : List (List Int)} {rs L : List Int}

theorem Whole.ok (hL : Whole (readG fs rs) L) : OOk fs L := ⟨hL.nd, fun o ho => by have := hL.rng o ho; rw [readG_len] at this; exact this⟩

theorem ren_objs (hL : Whole (readG fs rs) L) : (renL (readG fs rs) L).objs = L.map fun o => ((fO fs o).map (valW (stF 0 fs))).map (renV L) := by
  unfold renL
  simp only
  apply List.map_congr_left
  intro o ho
  have := hL.ok.rng o ho
  rw [field_of rs this.1 this.2]

theorem ren_st (hL : Whole (readG fs rs) L) : stF 0 (renL (readG fs rs) L).objs = stF 0 (L.map (fO fs)) := by
  rw [ren_objs hL]
  apply stF_same
  rw [List.map_map, List.map_map]
  apply List.map_congr_left
  intro o _
  simp

theorem sF_st (hL : Whole (readG fs rs) L) : stF 0 (sF fs L) = stF 0 (renL (readG fs rs) L).objs := by
  rw [ren_st hL]
  apply stF_same
  unfold sF
  rw [List.map_map, List.map_map]
  apply List.map_congr_left
  intro o _
  simp

theorem sF_lay (hL : Whole (readG fs rs) L) : sF fs L = layFields (stF 0 (renL (readG fs rs) L).objs) (renL (readG fs rs) L).objs := by
  unfold layFields
  rw [ren_st hL, ren_objs hL, List.map_map]
  unfold sF
  apply List.map_congr_left
  intro o _
  simp only [Function.comp, List.map_map]
  rfl

theorem sR_lay (hL : Whole (readG fs rs) L) : sR fs L rs = (renL (readG fs rs) L).roots.map (packV (stF 0 (renL (readG fs rs) L).objs)) := by
  rw [ren_st hL]
  unfold sR renL readG
  simp only [List.map_map]
  rfl

theorem good_ren {g : Gr} {L : List Int} (h : Good g) (hL : Whole g L) : Good (renL g L) := by
  have hol := hL.le
  have hn := h.n24
  have key : ∀ (l : List V), RefsOk l → (∀ x ∈ refsL l, x ∈ L) → ∀ v ∈ l.map (renV L), v.1 = true → 0 ≤ v.2 ∧ v.2 < (renL g L).objs.length := by
    intro l hl hm v hv h1
    obtain ⟨u, hu, rfl⟩ := List.mem_map.1 hv
    have hu1 : u.1 = true := by
      cases hu1 : u.1
      · unfold renV at h1; rw [hu1] at h1; simp [hu1] at h1
      · rfl
    have := placeOf_bounds (hm _ (mem_refs_of hl hu hu1))
    unfold renV
    rw [if_pos hu1, renL_len]
    exact this
  refine ⟨by rw [renL_len]; omega, by simpa [renL] using h.n8, ?_, ?_, ?_⟩
  · intro l hl
    unfold renL at hl
    obtain ⟨o, ho, rfl⟩ := List.mem_map.1 hl
    have := hL.rng o ho
    simpa using h.n4 _ (fieldsOf_mem this.1 this.2)
  · intro v hv
    exact key _ h.refsRoots hL.roots v hv
  · intro l hl v hv
    unfold renL at hl
    obtain ⟨o, ho, rfl⟩ := List.mem_map.1 hl
    have := hL.rng o ho
    exact key _ (h.refsObjs (fieldsOf_mem this.1 this.2)) (hL.fields o ho) v hv

theorem num_renL (h : Arn hs fs rs) (hL : Whole (readG fs rs) L) : NumOk (renL (readG fs rs) L).roots ∧ ∀ l ∈ (renL (readG fs rs) L).objs, NumOk l := by
  obtain ⟨_, _, _, h1, h2⟩ := read_lay h
  refine ⟨num_ren h1, fun l hl => ?_⟩
  unfold renL at hl
  obtain ⟨o, ho, rfl⟩ := List.mem_map.1 hl
  have := hL.rng o ho
  exact num_ren (h2 _ (fieldsOf_mem this.1 this.2))

theorem ren_tot (hL : Whole (readG fs rs) L) : tot (renL (readG fs rs) L).objs = tot (sF fs L) := by
  rw [sF_lay hL]
  unfold tot
  rw [show (fun f : List Int => f.length + 1) = (fun n => n + 1) ∘ List.length from rfl, show (fun f : List V => f.length + 1) = (fun n => n + 1) ∘ List.length from rfl, ← List.map_map, ← List.map_map, lens_fields]

theorem sF_le (hL : Whole (readG fs rs) L) : tot (sF fs L) ≤ tot fs := by
  rw [sF_tot]
  exact hL.ok.tot_le

theorem sF_256 (h : Arn hs fs rs) (hL : Whole (readG fs rs) L) : tot (sF fs L) ≤ 256 := by
  have := sF_le hL
  have := h.n256
  omega

theorem rO_at (h : Fit hs fs) {i : Nat} (hi : i < fs.length) : ∃ y, hs[i]? = some y ∧ rO hs (i : Int) = reh false y ∧ unheadOk y = true ∧ wlen y = fs[i].length := by
  obtain ⟨y, hy, hy1, hy2, hy3, hy4⟩ := fit_at h hi
  exact ⟨y, hy, by simp [rO, List.getD_eq_getElem?_getD, hy], hy1, hy2⟩

theorem fO_at {i : Nat} (hi : i < fs.length) : fO fs (i : Int) = fs[i] := by simp [fO, List.getD_eq_getElem?_getD, hi]

theorem arn_slid (h : Arn hs fs rs) (hL : Whole (readG fs rs) L) : Arn (sH hs L) (sF fs L) (sR fs L rs) := by
  have hG := good_ren (good_read h) hL
  obtain ⟨hnr, hno⟩ := num_renL h hL
  have ht : tot (renL (readG fs rs) L).objs ≤ 256 := by rw [ren_tot hL]; exact sF_256 h hL
  have hr := map_back ht hG.rr hnr
  refine ⟨⟨by rw [sH_len, sF_len], ?_⟩, sF_256 h hL, by simpa [sR] using h.n8, ?_, ?_, ?_, ?_⟩
  · intro k x f hx hf
    unfold sH at hx
    unfold sF at hf
    rw [List.getElem?_map] at hx hf
    cases ho : L[k]? with
    | none => rw [ho] at hx; cases hx
    | some o =>
      rw [ho] at hx hf
      simp only [Option.map_some, Option.some.injEq] at hx hf
      subst hx hf
      have hrg := hL.ok.rng o (List.mem_of_getElem? ho)
      obtain ⟨i, rfl⟩ := Int.eq_ofNat_of_zero_le hrg.1
      have hi : i < fs.length := by omega
      obtain ⟨y, hy, e1, hy1, hy2⟩ := rO_at h.fit hi
      have ha := reh_ok false y
      rw [e1, fO_at hi]
      exact ⟨ha.1, by rw [reh_wlen hy1, hy2]; simp, ha.2.2.2.2⟩
  · rw [sR_lay hL]; exact hr.2.2
  · intro f hf
    rw [sF_lay hL] at hf
    obtain ⟨l, hl, rfl⟩ := List.mem_map.1 hf
    exact (map_back ht (hG.ro l hl) (hno l hl)).2.2
  · rw [sR_lay hL, sF_st hL]; exact hr.2.1
  · intro f hf
    rw [sF_st hL]
    rw [sF_lay hL] at hf
    obtain ⟨l, hl, rfl⟩ := List.mem_map.1 hf
    exact (map_back ht (hG.ro l hl) (hno l hl)).2.1

/-- It is numbered as it stands. -/
theorem read_slid (h : Arn hs fs rs) (hL : Whole (readG fs rs) L) : readG (sF fs L) (sR fs L rs) = renL (readG fs rs) L := by
  have hG := good_ren (good_read h) hL
  obtain ⟨hnr, hno⟩ := num_renL h hL
  have ht : tot (renL (readG fs rs) L).objs ≤ 256 := by rw [ren_tot hL]; exact sF_256 h hL
  have e1 : (sF fs L).map (fun f => f.map (valW (stF 0 (sF fs L)))) = (renL (readG fs rs) L).objs := by
    rw [sF_st hL, sF_lay hL]
    unfold layFields
    rw [List.map_map]
    conv => rhs; rw [← List.map_id (renL (readG fs rs) L).objs]
    apply List.map_congr_left
    intro l hl
    exact (map_back ht (hG.ro l hl) (hno l hl)).1
  have e2 : (sR fs L rs).map (valW (stF 0 (sF fs L))) = (renL (readG fs rs) L).roots := by
    rw [sF_st hL, sR_lay hL]
    exact (map_back ht hG.rr hnr).1
  unfold readG
  rw [e1, e2]
  rfl

theorem canon_slid (h : Arn hs fs rs) (hL : Whole (readG fs rs) L) : canonG (readG (sF fs L) (sR fs L rs)) = canonG (readG fs rs) := by
  rw [read_slid h hL]
  exact canon_ren (good_read h) hL

end

/-- The objects of an arena that can be come to. -/
def rL (fs : List (List Int)) (rs : List Int) : List Int := reachK (readG fs rs) (readG fs rs).objs.length

theorem mem_rL {hs : List Int} {fs : List (List Int)} {rs : List Int} (h : Arn hs fs rs) (x : Int) : x ∈ rL fs rs ↔ x ∈ orderOf (readG fs rs) := by
  constructor
  · intro hx
    have hx0 : ∃ j : Nat, x = (j : Int) := by
      unfold rL reachK at hx
      obtain ⟨j, _, e⟩ := List.mem_map.1 hx
      exact ⟨j, e.symm⟩
    obtain ⟨j, rfl⟩ := hx0
    exact (rch_order h j).1 ((mem_reachK h j).1 hx)
  · intro hx
    obtain ⟨j, rfl⟩ := Int.eq_ofNat_of_zero_le ((ord_ok h).rng x hx).1
    exact (mem_reachK h j).2 ((rch_order h j).2 hx)

theorem rL_sorted (fs : List (List Int)) (rs : List Int) : (rL fs rs).Pairwise (· < ·) := by
  unfold rL reachK
  rw [List.pairwise_map]
  exact (List.Pairwise.filter _ List.pairwise_lt_range).imp (fun h => by omega)

theorem whole_rL {hs : List Int} {fs : List (List Int)} {rs : List Int} (h : Arn hs fs rs) : Whole (readG fs rs) (rL fs rs) := by
  have hO := whole_order (good_read h)
  refine ⟨(rL_sorted fs rs).imp (fun h => by omega), fun o ho => hO.rng o ((mem_rL h o).1 ho), fun x hx => (mem_rL h x).2 (hO.roots x hx), fun o ho x hx => (mem_rL h x).2 (hO.fields o ((mem_rL h o).1 ho) x hx)⟩

/-- The marked ones among the first n. -/
def mL (p : Nat → Bool) (n : Nat) : List Int := ((List.range n).filter fun (i : Nat) => p i).map fun (i : Nat) => (i : Int)

theorem mL_yes {p : Nat → Bool} {k : Nat} (h : p k = true) : mL p (k + 1) = mL p k ++ [(k : Int)] := by
  unfold mL; rw [List.range_succ, List.filter_append, List.map_append]; simp [h]
theorem mL_no {p : Nat → Bool} {k : Nat} (h : p k = false) : mL p (k + 1) = mL p k := by
  unfold mL; rw [List.range_succ, List.filter_append, List.map_append]; simp [h]
theorem mL_zero (p : Nat → Bool) : mL p 0 = [] := rfl
theorem mL_notin (p : Nat → Bool) (k : Nat) : (k : Int) ∉ mL p k := by
  unfold mL
  intro h
  obtain ⟨j, hj, e⟩ := List.mem_map.1 h
  have := List.mem_range.1 (List.mem_filter.1 hj).1
  omega
theorem mL_pre (p : Nat → Bool) (k : Nat) : ∀ n, k ≤ n → mL p k <+: mL p n
  | 0, h => by obtain rfl : k = 0 := by omega
               exact List.prefix_refl _
  | n + 1, h => by
    by_cases e : k = n + 1
    · subst e; exact List.prefix_refl _
    · have ih := mL_pre p k n (by omega)
      cases hp : p n
      · rw [mL_no hp]; exact ih
      · rw [mL_yes hp]; exact ih.trans (List.prefix_append _ _)

theorem mL_rL {hs : List Int} {fs : List (List Int)} {rs : List Int} (h : Arn hs fs rs) {p : Nat → Bool} (hp : ∀ j, p j = true ↔ Rch fs rs j) : mL p fs.length = rL fs rs := by
  have hG := good_read h
  unfold mL rL reachK
  rw [readG_len]
  congr 1
  apply List.filter_congr
  intro i _
  have e : (0 ≤ dG (readG fs rs) i) ↔ p i = true := by
    rw [hp, rch_order h, ← distAt_nonneg hG]
    rfl
  by_cases hq : p i = true
  · rw [hq]; simpa using e.2 hq
  · have : p i = false := by simpa using hq
    rw [this]
    have : ¬ (0 ≤ dG (readG fs rs) i) := fun hh => hq (e.1 hh)
    simpa using this

end Go.Proofs.Ytemjhdbmcdlpeaa

/- Walks: turn. -/
namespace Go.Proofs.Ytemjhdbmcdlpeaa
set_option linter.unusedSimpArgs false
set_option linter.unusedVariables false
open Go.RowKit Go.Shelf

/-- A map in memory that tells where each object comes to stand. -/
def NowM (W : World) (N mb : Nat) (fs : List (List Int)) (L : List Int) : Prop := ∃ M, W.ownsMap Try.prog 3 (plainElem Try.prog 3) mb L.length M ∧ N ≤ mb ∧ NowD fs M L

theorem NowM.lt {W : World} {N mb : Nat} {fs : List (List Int)} {L : List Int} (h : NowM W N mb fs L) : mb < W.heap.size := by
  obtain ⟨M, h1, _⟩ := h
  exact h1.lt

theorem NowM.kept {W W' : World} {N mb : Nat} {fs : List (List Int)} {L : List Int} {o : Option Nat} (h : NowM W N mb fs L) (hg : W.grownBy W' o) (ho : some mb ≠ o) : NowM W' N mb fs L := by
  obtain ⟨M, h1, h2, h3⟩ := h
  exact ⟨M, h1.kept hg ho, h2, h3⟩

theorem NowM.below {W W' : World} {N mb : Nat} {fs : List (List Int)} {L : List Int} (h : NowM W N mb fs L) (hb : Below W.heap.size W W') : NowM W' N mb fs L :=
  h.kept (grown_none hb) (by simp)

set_option maxRecDepth 100000 in
theorem NowM.look {W : World} {N mb : Nat} {fs : List (List Int)} {L : List Int} {i : Nat} (h : NowM W N mb fs L) (hi : i < fs.length) (h256 : tot fs ≤ 256) (hm : (i : Int) ∈ L) :
    (Instr.lookup 52 (.map (some mb)) (.int .i64 (tot (fs.take i) : Nat)) false).run Try.prog W = .ok (.int .i64 ((tot ((L.map (fO fs)).take (L.idxOf (i : Int))) : Nat) : Int)) W := by
  obtain ⟨M, h1, _, h2⟩ := h
  have hpl := place_lt hi
  obtain ⟨d, e1, e2, _⟩ := h1.lookup_int (Maps.int_keyed Try.underlying3) Try.underlying52 Try.underlying3 (Try.zeroValue3 _) (Maps.keyOf_int_mk Try.underlying3 (wf_i64 (x := ((tot (fs.take i) : Nat) : Int)) (by omega) (by omega)))
  rw [(h2 i hi).2 hm] at e2
  injection e2 with e2
  injection e2 with _ e2
  rw [e1, e2]

end Go.Proofs.Ytemjhdbmcdlpeaa
