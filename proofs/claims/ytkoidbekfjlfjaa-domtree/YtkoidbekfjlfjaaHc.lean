/- The rule for a region of a round that draws its order and writes. -/
import Derived.Test.YtkoidbekfjlfjaaHa
import Derived.Test.YtkoidbekfjlfjaaIa
namespace Go.Proofs.Ytkoidbekfjlfjaa
set_option linter.unusedSimpArgs false
set_option linter.unusedVariables false
open Go Go.RowKit

section
variable {l n : Nat} {P : Program} {ops : Array Oper} {md : Region.Mode} {Q : Exit → Act → World → Prop}

theorem opWpIn_of_wp {o : Oper} {a : Act} {w : World} {K : Act → World → Prop} (hd : isDefer o.op = false) (h : o.wp P a w K Q) : o.wpIn (Fence.wide.inRound l) n P a w K Q := by
  refine ⟨fun _ _ => trivial, ?_⟩
  rw [Oper.semAt_eq _ _ _ (fun c hc => by rw [hc] at hd; cases hd)]
  unfold Oper.wp at h
  generalize (execOp a.eval o).run P w = r at *
  cases r with
  | ok x w' =>
    cases x <;> simp only [Oper.upon] at h <;> simp only [Oper.uponIn]
    case enter f args =>
      refine ⟨fun hs => by simp [Fence.wide] at hs, ?_⟩
      exact CallsIn.inRound l (callsIn_wide.2 h)
    case row row args =>
      refine ⟨fun hs => by simp [Fence.wide] at hs, ?_⟩
      have h2 : RowsIn Fence.wide (n - 1) P row args w' _ := fun c cs _ => by
        obtain ⟨v, w'', r, s⟩ := h c cs
        exact ⟨v, w'', r, stepsIn_wide.2 s⟩
      exact h2
    all_goals exact h
  | halt x w' =>
    cases x <;> simp only [Oper.upon] at h <;> simp only [Oper.uponIn]
    all_goals exact h

theorem wpOpIn_of {i : Nat} {o : Oper} {K : Act → World → Prop} {a : Act} {w : World} (ho : ops[i]? = some o) (hg : o.guard = none) (hd : isDefer o.op = false) (h : o.wp P a w K Q) : wpOpIn (Fence.wide.inRound l) n P ops Q i K a w := by
  unfold wpOpIn
  simp only [ho]
  rw [if_pos (by simp [Region.wanted, hg])]
  exact opWpIn_of_wp hd h

theorem wpAnyIn_inv {F : Fence} (I : Array Bool → Act → World → Prop) (hsz : ∀ listed a w, I listed a w → listed.size = ops.size)
    (hstep : ∀ listed a w i, I listed a w → i ∈ Region.ready md ops listed → wpOpIn F n P ops Q i (I (listed.setIfInBounds i true)) a w)
    (hdone : ∀ listed a w, I listed a w → Region.ready md ops listed = [] → Q .normal a w) :
    ∀ (fuel : Nat) (listed : Array Bool) (a : Act) (w : World), listed.toList.count false ≤ fuel → I listed a w → wpAnyIn F n P md ops Q fuel listed a w
  | 0, listed, a, w, hc, hI => by
    have hr : Region.ready md ops listed = [] := by
      cases hr : Region.ready md ops listed with
      | nil => rfl
      | cons x xs =>
        have hm : x ∈ Region.ready md ops listed := by rw [hr]; simp
        have := count_less (mem_ready.1 hm).1
        omega
    exact ⟨hr, hdone _ _ _ hI hr⟩
  | fuel + 1, listed, a, w, hc, hI =>
    ⟨hdone _ _ _ hI, fun i hi => wpOpIn_mono (fun a' w' h => wpAnyIn_inv I hsz hstep hdone fuel _ a' w' (by have := count_less (mem_ready.1 hi).1; omega) h) (hstep _ _ _ _ hI hi)⟩

theorem wpIn_region_inv {F : Fence} {id : Nat} {a : Act} {w : World} (hm : P.follows .mixedOrders = true) (I : Array Bool → Act → World → Prop) (hsz : ∀ listed a w, I listed a w → listed.size = ops.size)
    (h0 : I (Array.replicate ops.size false) a w.drew)
    (hstep : ∀ listed a w i, I listed a w → i ∈ Region.ready .any ops listed → wpOpIn F n P ops Q i (I (listed.setIfInBounds i true)) a w)
    (hdone : ∀ listed a w, I listed a w → Region.ready .any ops listed = [] → Q .normal a w) : (Code.region id ops true).wpIn F n P Q a w :=
  wpIn_region_any hm (wpAnyIn_inv I hsz hstep hdone _ _ _ _ (by simp) h0)
end

theorem wpIn_region_hoist {lv nv : Nat} {P : Program} {Q : Exit → Act → World → Prop} {id : Nat} {w : World} {a0 : Act} (l : List Oper) (T : List Nat) (val : Nat → Value) (G : List Value → World → Prop) (hm : P.follows .mixedOrders = true) (hdf : noDefers l = true) (hL : Laid l T a0)
    (hG : G [] w.drew)
    (hS : ∀ (i : Nat) (o : Oper), l[i]? = some o → i ∉ T → ∀ (vs : List Value) (a : Act) (w : World) (K : Act → World → Prop), G vs w → (∀ (j k : Nat) (o' : Oper), T[j]? = some k → l[k]? = some o' → (∃ e ∈ o'.after, Region.binds .any e = true ∧ e.on = i) → vs.length ≤ j) → Agr (dsOf l) a0 a → (∀ e ∈ o.after, Region.binds .any e = true → SlotOk l T val vs a e.on) → K (a.put o.dst (val i)) w → o.wp P a w K Q)
    (hT : ∀ (j i : Nat) (o : Oper), T[j]? = some i → l[i]? = some o → ∀ (vs : List Value) (a : Act) (w : World) (K : Act → World → Prop), vs.length = j → G vs w → Agr (dsOf l) a0 a → (∀ e ∈ o.after, Region.binds .any e = true → SlotOk l T val vs a e.on) → (∀ v w', G (vs ++ [v]) w' → K (a.put o.dst v) w') → o.wp P a w K Q)
    (hD : ∀ vs w', vs.length = T.length → G vs w' → Q .normal (endAct l T val vs a0 l.length) w') : (Code.region id l.toArray true).wpIn (Fence.wide.inRound lv) nv P Q a0 w := by
  refine wpIn_region_inv hm (fun listed a w => listed.size = l.length ∧ ∃ vs : List Value, vs.length ≤ T.length ∧ (∀ j k, T[j]? = some k → (listed.getD k false = true ↔ j < vs.length)) ∧ Agr (dsOf l) a0 a ∧ (∀ k, k < l.length → listed.getD k false = true → SlotOk l T val vs a k) ∧ (∀ (k : Nat) (o : Oper), l[k]? = some o → listed.getD k false = true → ∀ e ∈ o.after, Region.binds .any e = true → listed.getD e.on false = true) ∧ G vs w) (fun _ _ _ h => by simpa using h.1) ?_ ?_ ?_
  · have hrep : ∀ k, (Array.replicate l.toArray.size false).getD k false = false := by intro k; simp only [Array.getD_eq_getD_getElem?, Array.getElem?_replicate]; split <;> rfl
    refine ⟨by simp, [], by simp, fun j k _ => ?_, Agr.refl _ _, fun k _ h => ?_, fun k o _ h => ?_, hG⟩
    · rw [hrep]; simp
    · rw [hrep] at h; cases h
    · rw [hrep] at h; cases h
  · rintro listed a w i ⟨hsz, vs, hvl, hTl, hag, hsl, hcl, hg⟩ hi
    obtain ⟨hnl, o, ho, hdep⟩ := mem_ready.1 hi
    have ho' : l[i]? = some o := by simpa using ho
    have hil : i < l.length := (List.getElem?_eq_some_iff.1 ho').1
    have hgd := hL.gd o (List.mem_of_getElem? ho')
    have hdst : dstAt l i = o.dst := by unfold dstAt; rw [ho']; rfl
    have hdeps : ∀ e ∈ o.after, Region.binds .any e = true → SlotOk l T val vs a e.on := fun e he hb => hsl e.on (by have := hL.ord i o ho' e he; omega) (hdep e he hb)
    have hnf : listed.getD i false = false := by
      cases h : listed.getD i false with
      | false => rfl
      | true =>
        exfalso
        have hlt : i < listed.size := by omega
        simp [hlt] at h hnl
        rw [h] at hnl; cases hnl
    have hset : ∀ k, (listed.setIfInBounds i true).getD k false = if k = i then true else listed.getD k false := by
      intro k
      by_cases e : k = i
      · subst e; have : k < listed.size := by omega
        simp [this]
      · rw [if_neg e]
        simp only [Array.getD_eq_getD_getElem?, Array.getElem?_setIfInBounds_ne (fun h => e h.symm)]
    have hcl' : ∀ (k : Nat) (o : Oper), l[k]? = some o → (listed.setIfInBounds i true).getD k false = true → ∀ e ∈ o.after, Region.binds .any e = true → (listed.setIfInBounds i true).getD e.on false = true := by
      intro k o2 hk hkl e he hb
      rw [hset] at hkl ⊢
      by_cases e2 : e.on = i
      · rw [if_pos e2]
      · rw [if_neg e2]
        by_cases e1 : k = i
        · subst e1
          rw [ho'] at hk; injection hk with hk; subst hk
          exact hdep e he hb
        · rw [if_neg e1] at hkl
          exact hcl k o2 hk hkl e he hb
    have haput : ∀ v, Agr (dsOf l) a0 (a.put o.dst v) := fun v => hag.put (fun x hx => mem_dsOf.2 ⟨i, by rw [hdst]; exact hx⟩) v
    refine wpOpIn_of ho hgd (by have := List.all_eq_true.1 hdf o (List.mem_of_getElem? ho'); simpa using this) ?_
    by_cases hiT : i ∈ T
    · obtain ⟨j, hj⟩ := List.getElem?_of_mem hiT
      have hjl : j = vs.length := by
        have h1 : ¬ j < vs.length := fun h => by have := (hTl j i hj).2 h; rw [hnf] at this; cases this
        cases j with
        | zero => omega
        | succ j =>
          have hjl := (List.getElem?_eq_some_iff.1 hj).1
          obtain ⟨k, hk⟩ : ∃ k, T[j]? = some k := ⟨T[j], List.getElem?_eq_getElem (by omega)⟩
          obtain ⟨o2, e, ho2, he, hb, hek⟩ := hL.chain j k i hk hj
          rw [ho'] at ho2; injection ho2 with ho2; subst ho2
          have h2 := (hTl j k hk).1 (by rw [← hek]; exact hdep e he hb)
          omega
      refine hT j i o hj ho' vs a w _ hjl.symm hg hag hdeps fun v w' hg' => ?_
      have hjT := (List.getElem?_eq_some_iff.1 hj).1
      refine ⟨by simp [hsz], vs ++ [v], by simp; omega, fun j' k hk => ?_, haput v, fun k hk hkl d hd => ?_, hcl', hg'⟩
      · rw [hset k]
        by_cases e : k = i
        · subst e
          rw [if_pos rfl]
          have : j' = j := by
            have h1 := hidx_of hL.tnd hk
            have h2 := hidx_of hL.tnd hj
            rw [h1] at h2; injection h2
          simp; omega
        · rw [if_neg e, hTl j' k hk]
          have : j' ≠ j := fun ee => by subst ee; rw [hj] at hk; injection hk with hk; exact e hk.symm
          simp; omega
      · rw [hset k] at hkl
        by_cases e : k = i
        · subst e
          have hdd : o.dst = some d := by rw [← hdst]; exact hd
          rw [hdd, tm_put_same (by rw [hag.size]; exact hL.lt k d hd)]
          unfold valAt
          rw [hidx_of hL.tnd hj]
          simp [hjl]
        · rw [if_neg e] at hkl
          have h1 := hsl k hk hkl d hd
          rw [valAt_snoc (fun j' hj' => (hTl j' k (hidx_get hj')).1 hkl)]
          cases hn : o.dst with
          | none => exact h1
          | some d' =>
            have hne : d' ≠ d := fun ee => e (hL.nd k i d hd (by rw [hdst, hn, ee]))
            rw [tm_put_ne hne]
            exact h1
    · have hlate : ∀ (j k : Nat) (o' : Oper), T[j]? = some k → l[k]? = some o' → (∃ e ∈ o'.after, Region.binds .any e = true ∧ e.on = i) → vs.length ≤ j := by
        rintro j k o2 hj hk ⟨e, he, hb, hei⟩
        refine Classical.byContradiction fun hc => ?_
        have hkl := (hTl j k hj).2 (by omega)
        have := hcl k o2 hk hkl e he hb
        rw [hei, hnf] at this
        cases this
      refine hS i o ho' hiT vs a w _ hg hlate hag hdeps ?_
      refine ⟨by simp [hsz], vs, hvl, fun j' k hk => ?_, haput _, fun k hk hkl d hd => ?_, hcl', hg⟩
      · have hne : ¬ k = i := fun e => hiT (e ▸ List.mem_of_getElem? hk)
        rw [hset k, if_neg hne]
        exact hTl j' k hk
      · rw [hset k] at hkl
        by_cases e : k = i
        · subst e
          have hdd : o.dst = some d := by rw [← hdst]; exact hd
          rw [hdd, tm_put_same (by rw [hag.size]; exact hL.lt k d hd)]
          unfold valAt
          cases hx : T.idxOf? k with
          | none => rfl
          | some j => exact absurd (List.mem_of_getElem? (hidx_get hx)) hiT
        · rw [if_neg e] at hkl
          have h1 := hsl k hk hkl d hd
          cases hn : o.dst with
          | none => exact h1
          | some d' =>
            have hne : d' ≠ d := fun ee => e (hL.nd k i d hd (by rw [hdst, hn, ee]))
            rw [tm_put_ne hne]
            exact h1
  · rintro listed a w ⟨hsz, vs, hvl, hTl, hag, hsl, hcl, hg⟩ hr
    have hall := ready_none (ops := l.toArray) (md := .any) (fun i o ho => hL.ord i o (by simpa using ho)) (by simpa using hsz) hr
    have hvT : vs.length = T.length := by
      refine Nat.le_antisymm hvl ?_
      refine Classical.byContradiction fun hc => ?_
      obtain ⟨k, hk⟩ : ∃ k, T[vs.length]? = some k := ⟨T[vs.length], List.getElem?_eq_getElem (by omega)⟩
      have := (hTl _ k hk).1 (hall k (by have := hL.tlt k (List.mem_of_getElem? hk); simpa using this))
      omega
    obtain ⟨e1, e2, e3⟩ := endAct_ok (val := val) (vs := vs) hL l.length
    have hae : a = endAct l T val vs a0 l.length := by
      refine agr_ext hag e1 fun d hd => ?_
      obtain ⟨k, hk⟩ := mem_dsOf.1 hd
      have hkl : k < l.length := by
        unfold dstAt at hk
        cases ho : l[k]? with
        | none => rw [ho] at hk; cases hk
        | some o => exact (List.getElem?_eq_some_iff.1 ho).1
      rw [hsl k hkl (hall k (by simpa using hkl)) d hk, e3 k hkl d hk]
    rw [hae]
    exact hD vs w hvT hg


end Go.Proofs.Ytkoidbekfjlfjaa
