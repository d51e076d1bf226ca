/- A rule for a region that draws its order and writes: by what holds behind whichever operations are done. -/
import Derived.Test.YtmelhphhealomaaProg
import Derived.Test.YtmelhphhealomaaMem
import Derived.Orders
namespace Go.Proofs.Ytmelhphhealomaa
set_option linter.unusedSimpArgs false
set_option linter.unusedVariables false
open Go.RowKit

section
variable {P : Program} {md : Region.Mode} {ops : Array Oper} {Q : Exit → Act → World → Prop}

theorem getD_both {l : Array Bool} {i : Nat} (hi : i < l.size) (h : l.getD i true = true) : l.getD i false = true := by
  simp [hi] at h ⊢; exact h

/-- Each operation waits for earlier ones alone: then, where none may come up, all are done. -/
theorem ready_none {listed : Array Bool} (hord : ∀ (i : Nat) (o : Oper), ops[i]? = some o → ∀ e ∈ o.after, e.on < i) (hsz : listed.size = ops.size) (h : Region.ready md ops listed = []) : ∀ i, i < ops.size → listed.getD i false = true := by
  intro i
  induction i using Nat.strongRecOn with
  | ind i ih =>
    intro hi
    refine getD_both (by omega) ?_
    cases hl : listed.getD i true with
    | true => rfl
    | false =>
      exfalso
      have hm : i ∈ Region.ready md ops listed := mem_ready.2 ⟨hl, ops[i], Array.getElem?_eq_getElem hi, fun e he _ => by
        have h1 := hord i _ (Array.getElem?_eq_getElem hi) e he
        exact ih e.on h1 (by omega)⟩
      rw [h] at hm
      cases hm

theorem count_less {listed : Array Bool} {i : Nat} (h : listed.getD i true = false) : (listed.setIfInBounds i true).toList.count false + 1 = listed.toList.count false := by
  have hi : i < listed.size := by
    rcases Nat.lt_or_ge i listed.size with h1 | h1
    · exact h1
    · simp [Array.getElem?_eq_none h1] at h
  have hv : listed[i] = false := by simpa [hi] using h
  have hpos : 0 < listed.toList.count false := List.count_pos_iff.2 (by rw [← hv]; simp)
  rw [Array.toList_setIfInBounds, List.count_set (by simpa using hi)]
  rw [if_pos (by simp [hv]), if_neg (by decide)]
  omega

theorem wpAny_inv (I : Array Bool → Act → World → Prop) (hsz : ∀ listed a w, I listed a w → listed.size = ops.size)
    (hstep : ∀ listed a w i, I listed a w → i ∈ Region.ready md ops listed → wpOp P ops Q i (I (listed.setIfInBounds i true)) a w)
    (hdone : ∀ listed a w, I listed a w → Region.ready md ops listed = [] → Q .normal a w) :
    ∀ (fuel : Nat) (listed : Array Bool) (a : Act) (w : World), listed.toList.count false ≤ fuel → I listed a w → wpAny P md ops Q fuel listed a w
  | 0, listed, a, w, hc, hI => by
    have hr : Region.ready md ops listed = [] := by
      cases hr : Region.ready md ops listed with
      | nil => rfl
      | cons x xs =>
        have hm : x ∈ Region.ready md ops listed := by rw [hr]; simp
        have := count_less (mem_ready.1 hm).1
        omega
    exact ⟨hr, hdone _ _ _ hI hr⟩
  | fuel + 1, listed, a, w, hc, hI =>
    ⟨hdone _ _ _ hI, fun i hi => wpOp_mono (fun a' w' h => wpAny_inv I hsz hstep hdone fuel _ a' w' (by have := count_less (mem_ready.1 hi).1; omega) h) (hstep _ _ _ _ hI hi)⟩

theorem wp_region_inv {id : Nat} {a : Act} {w : World} (hm : P.follows .mixedOrders = true) (I : Array Bool → Act → World → Prop) (hsz : ∀ listed a w, I listed a w → listed.size = ops.size)
    (h0 : I (Array.replicate ops.size false) a w.drew)
    (hstep : ∀ listed a w i, I listed a w → i ∈ Region.ready .any ops listed → wpOp P ops Q i (I (listed.setIfInBounds i true)) a w)
    (hdone : ∀ listed a w, I listed a w → Region.ready .any ops listed = [] → Q .normal a w) : (Code.region id ops true).wp P Q a w :=
  wp_region_any hm (wpAny_inv I hsz hstep hdone _ _ _ _ (by simp) h0)

/-- One operation, wanted, by its own step. -/
theorem wpOp_of {i : Nat} {o : Oper} {K : Act → World → Prop} {a : Act} {w : World} (ho : ops[i]? = some o) (hg : o.guard = none) (h : o.wp P a w K Q) : wpOp P ops Q i K a w := by
  unfold wpOp
  simp only [ho]
  rw [if_pos (by simp [Region.wanted, hg])]
  exact .inl h
end

/-- A frame that is another one but for some slots. -/
structure Agr (ds : List Nat) (a0 a : Act) : Prop where
  size : a.tmps.size = a0.tmps.size
  defers : a.defers = a0.defers
  same : ∀ k, k ∉ ds → a.tmps[k]? = a0.tmps[k]?

theorem Agr.refl (ds : List Nat) (a : Act) : Agr ds a a := ⟨rfl, rfl, fun _ _ => rfl⟩

theorem Agr.put {ds : List Nat} {a0 a : Act} (h : Agr ds a0 a) {d : Nat} (hd : d ∈ ds) (v : Value) : Agr ds a0 (a.put (some d) v) := by
  refine ⟨by simp [Act.put, h.size], h.defers, fun k hk => ?_⟩
  have hne : d ≠ k := fun e => hk (e ▸ hd)
  simp only [Act.put, Array.getElem?_setIfInBounds_ne hne]
  exact h.same k hk

theorem tm_put_same {a : Act} {d : Nat} (h : d < a.tmps.size) (v : Value) : (a.put (some d) v).tmps.getD d undef = v := by
  simp [Act.put, h]

theorem tm_put_ne {a : Act} {d k : Nat} (h : d ≠ k) (v : Value) : (a.put (some d) v).tmps.getD k undef = a.tmps.getD k undef := by
  simp only [Array.getD_eq_getD_getElem?, Act.put, Array.getElem?_setIfInBounds_ne h]

theorem Agr.tm {ds : List Nat} {a0 a : Act} (h : Agr ds a0 a) {k : Nat} (hk : k ∉ ds) : a.tmps.getD k undef = a0.tmps.getD k undef := by
  simp only [Array.getD_eq_getD_getElem?, h.same k hk]

theorem fold_size (f : Nat → Value) : ∀ (ds : List Nat) (b : Act), (ds.foldl (fun b d => b.put (some d) (f d)) b).tmps.size = b.tmps.size ∧ (ds.foldl (fun b d => b.put (some d) (f d)) b).defers = b.defers
  | [], b => ⟨rfl, rfl⟩
  | d :: ds, b => by
    have := fold_size f ds (b.put (some d) (f d))
    simp only [List.foldl_cons]
    exact ⟨this.1.trans (by simp [Act.put]), this.2.trans rfl⟩

theorem fold_get (f : Nat → Value) (k : Nat) : ∀ (ds : List Nat) (b : Act), (ds.foldl (fun b d => b.put (some d) (f d)) b).tmps[k]? = if k ∈ ds ∧ k < b.tmps.size then some (f k) else b.tmps[k]?
  | [], b => by simp
  | d :: ds, b => by
    simp only [List.foldl_cons]
    rw [fold_get f k ds]
    have hs : (b.put (some d) (f d)).tmps.size = b.tmps.size := by simp [Act.put]
    rw [hs]
    by_cases hk : k < b.tmps.size
    · by_cases hm : k ∈ ds
      · rw [if_pos ⟨hm, hk⟩, if_pos ⟨List.mem_cons_of_mem _ hm, hk⟩]
      · rw [if_neg (fun h => hm h.1)]
        by_cases e : d = k
        · subst e
          rw [if_pos ⟨by simp, hk⟩]
          simp [Act.put, hk]
        · rw [if_neg (fun h => by rcases List.mem_cons.1 h.1 with h1 | h1; exact e h1.symm; exact hm h1)]
          simp only [Act.put, Array.getElem?_setIfInBounds_ne e]
    · rw [if_neg (fun h => hk h.2), if_neg (fun h => hk h.2), Array.getElem?_eq_none (by rw [hs]; omega), Array.getElem?_eq_none (by omega)]

theorem Agr.eq {ds : List Nat} {a0 a : Act} (h : Agr ds a0 a) : a = ds.foldl (fun b d => b.put (some d) (a.tmps.getD d undef)) a0 := by
  have hs := fold_size (fun d => a.tmps.getD d undef) ds a0
  have hg := fun k => fold_get (fun d => a.tmps.getD d undef) k ds a0
  generalize ds.foldl (fun b d => b.put (some d) (a.tmps.getD d undef)) a0 = c at *
  obtain ⟨ct, cd⟩ := c
  obtain ⟨at', ad⟩ := a
  simp only at hs hg
  have e1 : at' = ct := by
    apply Array.ext'
    apply List.ext_getElem?
    intro k
    simp only [Array.getElem?_toList]
    rw [hg k]
    by_cases hk : k ∈ ds ∧ k < a0.tmps.size
    · rw [if_pos hk]
      have : k < at'.size := by have := h.size; simp only at this; omega
      simp [this]
    · rw [if_neg hk]
      by_cases hm : k ∈ ds
      · have hlt : ¬ k < a0.tmps.size := fun h1 => hk ⟨hm, h1⟩
        rw [Array.getElem?_eq_none (by have := h.size; simp only at this; omega), Array.getElem?_eq_none (by omega)]
      · exact h.same k hm
  have e2 : ad = cd := by rw [hs.2]; exact h.defers
  rw [e1, e2]

end Go.Proofs.Ytmelhphhealomaa
