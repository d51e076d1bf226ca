/- Plain: which component comes; what is left of what is led to. -/
import Derived.Test.YtohofkfajmeohaaProg
import Derived.Test.YtohofkfajmeohaaMem
import Derived.Test.YtohofkfajmeohaaCj
namespace Go.Proofs.Ytohofkfajmeohaa
set_option linter.unusedSimpArgs false
set_option linter.unusedVariables false
open Go.RowKit

/-- The least ones of the components that have not come. -/
def restN (g : Gr) (k : Nat) : List Int := ((nums g.objs.length).filter (isHead g)).filter fun o => !decide (o ∈ (outN g k).flatten)

/-- What o still leads to. -/
def remK (g : Gr) (k : Nat) (o : Int) : List Int := dropL (dropL (ledL g o) (compL g o)) (outN g k).flatten

theorem remK_nodup {g : Gr} (h : Good g) (k : Nat) (o : Int) : (remK g k o).Nodup := dropL_nodup (dropL_nodup (led_nodup h o))

theorem rest_zero (g : Gr) : restN g 0 = (nums g.objs.length).filter (isHead g) := by
  unfold restN; rw [show (outN g 0).flatten = [] from rfl]; simp

theorem rem_zero (g : Gr) (o : Int) : remK g 0 o = dropL (ledL g o) (compL g o) := by
  unfold remK; rw [show (outN g 0).flatten = [] from rfl, dropL_nil]

theorem mem_rest {g : Gr} {k : Nat} {o : Int} : o ∈ restN g k ↔ (0 ≤ o ∧ o < g.objs.length) ∧ isHead g o = true ∧ o ∉ (outN g k).flatten := by
  unfold restN
  rw [List.mem_filter, List.mem_filter, mem_nums]
  simp [and_assoc]

theorem rest_nodup (g : Gr) (k : Nat) : (restN g k).Nodup := by
  unfold restN
  rw [List.nodup_iff_pairwise_ne]
  exact (((nums_lt _).filter _).filter _).imp (fun h => by omega)

theorem rest_len (g : Gr) (k : Nat) : (restN g k).length ≤ g.objs.length := by
  unfold restN
  have h1 := List.length_filter_le (fun o => !decide (o ∈ (outN g k).flatten)) ((nums g.objs.length).filter (isHead g))
  have h2 := List.length_filter_le (isHead g) (nums g.objs.length)
  rw [nums_len] at h2
  omega

theorem ready_rem {g : Gr} {k : Nat} {o : Int} : ready g (outN g k).flatten o = true ↔ remK g k o = [] := by
  rw [ready_iff]
  constructor
  · intro h
    refine List.eq_nil_iff_forall_not_mem.2 fun x hx => ?_
    unfold remK at hx
    rw [mem_dropL, mem_dropL] at hx
    exact hx.2 (h x hx.1.1 hx.1.2)
  · intro h p hp hpn
    refine Classical.byContradiction fun hc => ?_
    have : p ∈ remK g k o := by unfold remK; rw [mem_dropL, mem_dropL]; exact ⟨⟨hp, hpn⟩, hc⟩
    rw [h] at this
    simp at this

theorem next_rest (g : Gr) (k : Nat) : nextH g (outN g k).flatten = (restN g k).find? fun o => ready g (outN g k).flatten o := by
  unfold nextH restN
  rw [List.find?_filter, List.find?_filter]
  congr 1
  funext o
  rw [Bool.eq_iff_iff]
  simp [and_assoc]

/-- The first that leads to nothing else is the next one. -/
theorem next_at {g : Gr} {k a : Nat} {o : Int} (ho : (restN g k)[a]? = some o) (h0 : remK g k o = []) (hlt : ∀ (j : Nat) (p : Int), j < a → (restN g k)[j]? = some p → remK g k p ≠ []) : nextH g (outN g k).flatten = some o := by
  rw [next_rest, List.find?_eq_some_iff_getElem]
  obtain ⟨ha, hae⟩ := List.getElem?_eq_some_iff.1 ho
  refine ⟨ready_rem.2 h0, a, ha, hae, fun j hj => ?_⟩
  have hjl : j < (restN g k).length := by omega
  have := hlt j _ hj (List.getElem?_eq_getElem hjl)
  cases hr : ready g (outN g k).flatten (restN g k)[j] with
  | false => rfl
  | true => exact absurd (ready_rem.1 hr) this

theorem rest_some {g : Gr} (hg : Good g) (k : Nat) (h : 0 < (restN g k).length) : ∃ (a : Nat) (o : Int), (restN g k)[a]? = some o ∧ remK g k o = [] := by
  have hm := mem_rest.1 (List.getElem_mem h)
  obtain ⟨q, hq⟩ := next_some hg (outN_ok hg k).whole hm.1.1 hm.1.2 hm.2.2
  rw [next_rest] at hq
  have h1 := List.find?_some hq
  obtain ⟨a, ha⟩ := List.getElem?_of_mem (List.mem_of_find?_eq_some hq)
  exact ⟨a, q, ha, ready_rem.1 h1⟩

theorem out_succ {g : Gr} {k : Nat} {o : Int} (h : nextH g (outN g k).flatten = some o) : outN g (k + 1) = outN g k ++ [compL g o] := by
  simp only [outN]
  rw [h]

theorem head_uniq {g : Gr} (hg : Good g) {o q : Int} (ho : 0 ≤ o ∧ o < g.objs.length) (hq : 0 ≤ q ∧ q < g.objs.length) (h1 : isHead g o = true) (h2 : isHead g q = true) (hc : o ∈ compL g q) : o = q := by
  have e := comp_eq hg (mem_comp.1 hc).2
  unfold isHead at h1 h2
  rw [decide_eq_true_eq] at h1 h2
  have : headOf g q = headOf g o := by unfold headOf; rw [e]
  omega

theorem erase_filter {l : List Int} (hn : l.Nodup) {a : Nat} {q : Int} (h : l[a]? = some q) : l.filter (fun o => !decide (o = q)) = l.eraseIdx a := by
  obtain ⟨ha, hae⟩ := List.getElem?_eq_some_iff.1 h
  have h1 := List.Nodup.erase_eq_filter hn q
  have h2 : l.erase q = l.eraseIdx a := by
    refine List.erase_eq_eraseIdx_of_idxOf ?_
    subst hae
    exact hn.idxOf_getElem a ha
  rw [← h2, h1]
  refine List.filter_congr fun x _ => ?_
  by_cases e : x = q <;> simp [e]

theorem rest_succ {g : Gr} (hg : Good g) {k a : Nat} {q : Int} (ha : (restN g k)[a]? = some q) (h : nextH g (outN g k).flatten = some q) : restN g (k + 1) = (restN g k).eraseIdx a := by
  rw [← erase_filter (rest_nodup g k) ha]
  have hq := mem_rest.1 (List.mem_of_getElem? ha)
  unfold restN
  rw [out_succ h]
  generalize hH : (nums g.objs.length).filter (isHead g) = HH
  rw [List.filter_filter]
  refine List.filter_congr fun o ho => ?_
  rw [← hH, List.mem_filter, mem_nums] at ho
  have hfl : (outN g k ++ [compL g q]).flatten = (outN g k).flatten ++ compL g q := by simp
  rw [hfl]
  by_cases e : o = q
  · subst e
    have := comp_self hq.1.1 hq.1.2
    simp [this]
  · have hnc : o ∉ compL g q := fun hc => e (head_uniq hg ho.1 hq.1 ho.2 hq.2.1 hc)
    simp [e, hnc]

theorem rem_succ {g : Gr} {k : Nat} {q o : Int} (h : nextH g (outN g k).flatten = some q) : remK g (k + 1) o = dropL (remK g k o) (compL g q) := by
  unfold remK
  rw [out_succ h]
  have hfl : (outN g k ++ [compL g q]).flatten = (outN g k).flatten ++ compL g q := by simp
  rw [hfl]
  generalize dropL (ledL g o) (compL g o) = DD
  unfold dropL
  rw [List.filter_filter]
  refine List.filter_congr fun x _ => ?_
  by_cases h1 : x ∈ (outN g k).flatten <;> by_cases h2 : x ∈ compL g q <;> simp [h1, h2]

/-- Where none is left, all have come. -/
theorem rest_nil {g : Gr} (hg : Good g) {k : Nat} (h : restN g k = []) : ∀ o : Int, 0 ≤ o → o < g.objs.length → o ∈ (outN g k).flatten := by
  intro o h0 h1
  have hm := mem_comp.1 (head_mem h0 h1)
  have hh := head_head hg h0 h1
  have hin : headOf g o ∈ (outN g k).flatten := by
    refine Classical.byContradiction fun hc => ?_
    have : headOf g o ∈ restN g k := mem_rest.2 ⟨hm.1, hh.2, hc⟩
    rw [h] at this
    simp at this
  exact (outN_ok hg k).whole _ _ hin (inOne_symm hm.2) h0 h1

/-- What holds while a list is gone through, and each set is turned. -/
structure Pass (n i : Nat) (os : List Int) (F X : Int → List Int) (Ks : List (List Int)) : Prop where
  len : Ks.length = n
  at' : ∀ (j : Nat) (o : Int), os[j]? = some o → Ks[o.toNat]? = some (if j < i then dropL (F o) (X o) else F o)

theorem Pass.step {n i : Nat} {os : List Int} {F X : Int → List Int} {Ks : List (List Int)} (h : Pass n i os F X Ks) (hnd : os.Nodup) (hr : ∀ o ∈ os, 0 ≤ o ∧ o < n) {o : Int} (ho : os[i]? = some o) : Pass n (i + 1) os F X (Ks.set o.toNat (dropL (F o) (X o))) := by
  have hro := hr o (List.mem_of_getElem? ho)
  refine ⟨by simp [h.len], fun j p hp => ?_⟩
  have hrp := hr p (List.mem_of_getElem? hp)
  by_cases e : j = i
  · subst e
    rw [ho] at hp
    injection hp with hp
    subst hp
    rw [List.getElem?_set_self (by rw [h.len]; omega), if_pos (by omega)]
  · have hne : o ≠ p := fun ee => e ((List.getElem?_inj (List.getElem?_eq_some_iff.1 hp).1 hnd).1 (by rw [hp, ho, ee]))
    rw [List.getElem?_set_ne (by omega), h.at' j p hp]
    by_cases h1 : j < i
    · rw [if_pos h1, if_pos (by omega)]
    · rw [if_neg h1, if_neg (by omega)]

end Go.Proofs.Ytohofkfajmeohaa
